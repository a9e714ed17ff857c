/- What slices.Clone and slices.DeleteFunc give of options: a copy; those that are no client's address, in their row. -/
import Derived.Test.YtfhaogacblnnnaaEcC
import Derived.Lib.SliceRun
namespace Go.Proofs.Ytfhaogacblnnnaa
open Go.RowKit

theorem flt_app (a b : List On) : flt (a ++ b) = flt a ++ flt b := by unfold flt; simp
theorem flt_yes {os : List On} {j : Nat} (hj : j < os.length) (h : ec os[j] = true) : flt (os.take (j + 1)) = flt (os.take j) := by
  rw [List.take_succ_eq_append_getElem hj, flt_app]; simp [flt, h]
theorem flt_no {os : List On} {j : Nat} (hj : j < os.length) (h : ec os[j] = false) : flt (os.take (j + 1)) = flt (os.take j) ++ [os[j]] := by
  rw [List.take_succ_eq_append_getElem hj, flt_app]; simp [flt, h]
theorem flt_all {os : List On} (h : ∀ o ∈ os, ec o = false) : flt os = os := by
  unfold flt; exact List.filter_eq_self.2 (fun o ho => by simp [h o ho])
theorem flt_le (os : List On) : (flt os).length ≤ os.length := List.length_filter_le _ _
theorem flt_mem {os : List On} {o : On} (h : o ∈ flt os) : o ∈ os ∧ ec o = false := by
  have := List.mem_filter.1 h
  exact ⟨this.1, by simpa using this.2⟩
theorem flt_none (os : List On) : hasE (flt os) = false := by
  unfold hasE
  rw [List.any_eq_false]
  intro o ho
  simp [(flt_mem ho).2]
theorem flt_flt (os : List On) : flt (flt os) = flt os := flt_all (fun _ ho => (flt_mem ho).2)
theorem flt_less (os : List On) : hasE os = decide ((flt os).length < os.length) := by
  induction os with
  | nil => rfl
  | cons o os ih =>
    have hle := flt_le os
    unfold hasE flt at *
    rw [List.any_cons, List.filter_cons]
    cases h : ec o with
    | true => simp; omega
    | false =>
      simp only [Bool.false_or, Bool.not_false, if_true, List.length_cons]
      rw [ih]
      simp

theorem cloneO_any (v : Value) (os : List On) (w : World) (h : Row w v os.length (oC os)) (hm : os.length ≤ maxLen) (hn : os.length * 24 ≤ far) :
    Calls Try.prog 18 #[v] w fun e w' => ∃ v', e = .returned v' ∧ w'.ownsRow w.heap.size 33 2 v' os.length (oC os) ∧ Below w.heap.size w w' := by
  obtain ⟨i0, hi, hz0, hz1, hz2⟩ := info_parts infoO
  have hb := lay (Below.refl w.heap.size w) (.cells #[] 33)
  have h2 := h.below hb
  have hown := own_blk (B := w.heap.size) (z := 2) (n := 0) (xs := []) (Blk.new w #[] 33) (Nat.le_refl _) rfl rfl (Nat.zero_le _)
  unfold far at hn
  rcases h with ⟨rfl, h0⟩ | ⟨g, o, p, cap, rfl, _, _⟩
  · have h00 : os = [] := List.eq_nil_of_length_eq_zero h0
    subst h00
    have hnil := fun u : World => Lib.run_eql_slice_nil (P := Try.prog) u 22 33 none 0 0 0 0 Try.underlying22
    clear h2 hown hb
    go_enter Try.func18, Try.ntmps18
    go_wp2
    go_ret
    exact ⟨_, rfl, ⟨rfl, .inl ⟨rfl, rfl⟩⟩, Below.refl _ _⟩
  · have hnil := fun u : World => Lib.run_eql_slice_nil (P := Try.prog) u 22 33 (some ⟨g, o, p⟩) os.length cap 0 0 Try.underlying22
    go_enter Try.func18, Try.ntmps18
    go_wp2_with (at_builtin; refine wpList_appG _ rfl (.tmp 5) (.tmp 6) 22 33 i0 _ 2 24 Try.underlying22 hi hz0 hz1 hz2 rfl (by decide) rfl w.heap.size _ 0 [] rfl hown _ os.length (oC os) rfl h2 (oC_len os) (oC_one os) (by omega) (by omega) hb.size ?_; intro v' w2 h1 h3 _)
    go_ret
    exact ⟨_, rfl, by simpa using h1, hb.grown h3 hb.size (fun j e => (hown.lt j e).1)⟩

/-- How far the cut is: of the first j those that stay are the first i. -/
structure DL (B : Nat) (w0 w : World) (gr g n cap : Nat) (os : List On) (i j : Nat) (l : List On) : Prop where
  own : w.ownsRow B 33 2 (.slice (some ⟨gr, 0, none⟩) n cap) n (oC l)
  len : l.length = n
  olen : os.length = n
  lo : i < j
  hi : j ≤ n
  pre : l.take i = flt (os.take j)
  post : l.drop j = os.drop j
  turn : Turn (fun k => k = gr) w0 w
  pred : Blk w g #[.int .i64 8] 3

theorem DL.below {B : Nat} {w0 w w' : World} {gr g n cap : Nat} {os : List On} {i j : Nat} {l : List On} (h : DL B w0 w gr g n cap os i j l) (hb : Below w.heap.size w w') : DL B w0 w' gr g n cap os i j l :=
  ⟨own_past h.own hb, h.len, h.olen, h.lo, h.hi, h.pre, h.post, h.turn.past hb, h.pred.below hb⟩
theorem DL.at {B : Nat} {w0 w : World} {gr g n cap : Nat} {os : List On} {i j : Nat} {l : List On} (h : DL B w0 w gr g n cap os i j l) (hj : j < os.length) : w.cell? ⟨gr, j * 2, none⟩ = some (.int .i64 os[j].c) ∧ w.cell? ⟨gr, j * 2 + 1, none⟩ = some (.string os[j].d) := by
  have hl : j < l.length := by rw [h.len, ← h.olen]; exact hj
  have e : l[j] = os[j] := by
    have := congrArg (fun x => x[0]?) h.post
    simp only [List.getElem?_drop, Nat.add_zero] at this
    rw [List.getElem?_eq_getElem hl, List.getElem?_eq_getElem hj] at this
    simpa using this
  have hn : j < n := by rw [← h.olen]; exact hj
  rw [h.own.cellAt _ (by omega), h.own.cellAt _ (by omega), ← e]
  exact ⟨oC_at hl 0 (by decide), oC_at hl 1 (by decide)⟩
theorem DL.there {B : Nat} {w0 w : World} {gr g n cap : Nat} {os : List On} {i j : Nat} {l : List On} (h : DL B w0 w gr g n cap os i j l) : (∃ a, w.cell? ⟨gr, i * 2, none⟩ = some a) ∧ (∃ a, w.cell? ⟨gr, i * 2 + 1, none⟩ = some a) ∧ w.frozen? ⟨gr, i * 2, none⟩ = false ∧ w.frozen? ⟨gr, i * 2 + 1, none⟩ = false := by
  have h1 := h.lo
  have h2 := h.hi
  have hl := h.len
  refine ⟨?_, ?_, h.own.frozenAt _, h.own.frozenAt _⟩
  · rw [h.own.cellAt _ (by omega)]; exact ⟨_, List.getElem?_eq_getElem (by rw [oC_len]; omega)⟩
  · rw [h.own.cellAt _ (by omega)]; exact ⟨_, List.getElem?_eq_getElem (by rw [oC_len]; omega)⟩
theorem DL.skip {B : Nat} {w0 w : World} {gr g n cap : Nat} {os : List On} {i j : Nat} {l : List On} (h : DL B w0 w gr g n cap os i j l) (hj : j < os.length) (he : ec os[j] = true) : DL B w0 w gr g n cap os i (j + 1) l := by
  have h1 := h.lo
  have h2 := h.olen
  refine ⟨h.own, h.len, h.olen, by omega, by omega, by rw [flt_yes hj he]; exact h.pre, ?_, h.turn, h.pred⟩
  rw [← List.drop_drop, h.post, List.drop_drop]
theorem DL.keep {B : Nat} {w0 w : World} {gr g n cap : Nat} {os : List On} {i j : Nat} {l : List On} (h : DL B w0 w gr g n cap os i j l) (hj : j < os.length) (he : ec os[j] = false) :
    DL B w0 ((w.setCell ⟨gr, i * 2, none⟩ (.int .i64 os[j].c)).setCell ⟨gr, i * 2 + 1, none⟩ (.string os[j].d)) gr g n cap os (i + 1) (j + 1) (l.set i os[j]) := by
  have h1 := h.lo
  have h2 := h.olen
  have h3 := h.len
  have hs := own_sep h.own h.pred (by decide)
  have hne : g ≠ gr := fun e => hs (by rw [e]; rfl)
  have T : ∀ (u : World) (i : Nat) (v : Value), Turn (fun k => k = gr) u (u.setCell ⟨gr, i, none⟩ v) := fun u i v => Turn.of_set (S := fun k => k = gr) u (p := ⟨gr, i, none⟩) rfl v
  refine ⟨?_, by rw [List.length_set]; exact h3, h2, by omega, by omega, ?_, ?_, (h.turn.same (T _ _ _)).same (T _ _ _), (h.pred.other hne _ _).other hne _ _⟩
  · have := ((h.own.stored (i * 2) (.int .i64 os[j].c)).1.stored (i * 2 + 1) (.string os[j].d)).1
    rw [oC_set l i os[j] (by omega)] at this
    exact this
  · rw [flt_no hj he, ← h.pre, List.take_succ_eq_append_getElem (by rw [List.length_set]; omega), List.take_set_of_le (Nat.le_refl _)]
    simp
  · rw [List.drop_set_of_lt (by omega), ← List.drop_drop, h.post, List.drop_drop]

set_option maxRecDepth 20000 in
set_option maxHeartbeats 1000000 in
theorem delete_any {B : Nat} (v : Value) (os : List On) (g : Nat) (w : World) (hown : w.ownsRow B 33 2 v os.length (oC os)) (hm : os.length ≤ maxLen) (hg : Blk w g #[.int .i64 8] 3) :
    Calls Try.prog 17 #[v, ofF g] w fun e w' => ∃ v', e = .returned v' ∧ w'.ownsRow B 33 2 v' (flt os).length (oC (flt os)) ∧ Turn (fun k => v.ownBlock = some k) w w' := by
  obtain ⟨k, hk, h1, h2, h3⟩ := first_ec os
  have hc := index_any v os g k w (Row.of_own hown) hm hg hk h1 h2
  by_cases hkn : k < os.length
  · rw [if_pos hkn] at hc
    obtain ⟨gr, cap, e1, _, _⟩ := hown.form (by omega)
    obtain ⟨n, hn⟩ : ∃ n, n = os.length := ⟨_, rfl⟩
    subst e1
    have HD : Hid (DL B w w gr g n cap os k (k + 1) os) := by
      refine ⟨by rw [hn]; exact hown, hn.symm, hn.symm, by omega, by omega, ?_, rfl, Turn.refl _ _, hg⟩
      rw [flt_yes hkn (h2 hkn)]
      refine (flt_all fun o ho => ?_).symm
      obtain ⟨j, hj, rfl⟩ := List.getElem_of_mem ho
      rw [List.getElem_take]
      rw [List.length_take] at hj
      exact h1 j (by omega) (by omega)
    have hcap : n ≤ cap ∧ cap ≤ maxLen := by
      rcases hown.2 with ⟨e, _⟩ | ⟨g', cap', cur, e, _, _, hnc, hcm, _⟩
      · simp at e
      · simp at e; obtain ⟨_, rfl⟩ := e; rw [hn]; exact ⟨hnc, hcm⟩
    unfold maxLen at hcap
    obtain ⟨hcap, hcm⟩ := hcap
    rw [← hn] at hc ⊢
    have hkn' : k < n := by rw [hn]; exact hkn
    have HN : Hid (n = os.length) := hn
    have hk1 : ((k : Int) == -1) = false := by rw [beq_eq_false_iff_ne]; omega
    unfold ofF at hc ⊢
    clear h1 h2 h3 hk hown hg hm hn hkn
    go_enter Try.func17, Try.ntmps17
    go_wp2_with (go_at_call 22; go_must (refine hc.mono ?_); rintro e w1 ⟨rfl, b1⟩; replace HD : Hid (DL B w w1 gr g n cap os k (k + 1) os) := HD.out.below b1; clear b1 hc)
    go_loopw [5, 6] (fun i j wr => ∃ (a b : Nat) (l : List On), a < n ∧ b ≤ n ∧ i = .int .i64 (a : Int) ∧ j = .int .i64 (b : Int) ∧ Hid (DL B w wr gr g n cap os a b l)) (fun _ j _ => n - (intOf j).toNat)
    case atStart => exact ⟨k, k + 1, os, hkn', by omega, rfl, by go_num, HD⟩
    case round =>
      clear HD hkn'
      obtain ⟨a, b, l, ha, hb, rfl, rfl, HD⟩ := hrel
      by_cases hbn : b < n
      · have hbm : b < os.length := by have := HN.out; omega
        have hbn' : (b : Int) < (n : Int) := by omega
        obtain ⟨d0, d1⟩ := HD.out.at hbm
        have hcall := fun u hu => pred_any os[b].c os[b].d g u hu
        obtain ⟨q, hq⟩ : ∃ q, q = os[b] := ⟨_, rfl⟩
        have HE : Hid ((q.c == 8) = ec os[b]) := by unfold Hid ec; rw [← hq]
        simp only [← hq] at d0 d1 hcall
        obtain ⟨t, ht⟩ : ∃ t, (q.c == 8) = t := ⟨_, rfl⟩
        have HT : Hid (ec os[b] = t) := by unfold Hid; rw [← HE.out]; exact ht
        rw [ht] at hcall
        obtain ⟨qc, qd⟩ := q
        simp only at d0 d1 hcall
        clear ht HE
        cases t with
        | true =>
          clear hq
          go_wp2_with (go_at_call 23; go_must (refine (hcall _ (HD.out.pred.alloc _)).mono ?_); rintro e w1 ⟨rfl, b1⟩; replace HD : Hid (DL B w w1 gr g n cap os a b l) := HD.out.below (next (lay (Below.refl _ _) _) b1); clear b1 d0 d1)
          go_roundw
          case rel => exact ⟨a, b + 1, l, ha, by omega, rfl, by go_num, HD.out.skip hbm HT.out⟩
          case measure => simp [intOf]; omega
        | false =>
          have HK : Hid (∀ {u : World} {i : Nat}, DL B w u gr g n cap os i b l → DL B w ((u.setCell ⟨gr, i * 2, none⟩ (.int .i64 os[b].c)).setCell ⟨gr, i * 2 + 1, none⟩ (.string os[b].d)) gr g n cap os (i + 1) (b + 1) (l.set i os[b])) := fun h => h.keep hbm HT.out
          simp only [← hq] at HK
          clear hq
          have kb := Blk.new wr #[.int .i64 qc, .string qd] 33
          go_wp2_with (go_at_call 23; go_must (refine (hcall _ (HD.out.pred.alloc _)).mono ?_); rintro e w1 ⟨rfl, b1⟩; replace HD : Hid (DL B w w1 gr g n cap os a b l) := HD.out.below (next (lay (Below.refl _ _) _) b1); replace kb := kb.below b1; have e0 : w1.cell? ⟨wr.heap.size, 0, none⟩ = some (.int .i64 qc) := kb.cell 0; have e1 : w1.cell? ⟨wr.heap.size, 1, none⟩ = some (.string qd) := kb.cell 1; obtain ⟨⟨x0, f0⟩, ⟨x1, f1⟩, f2, f3⟩ := HD.out.there; clear b1 d0 d1 kb)
          go_roundw
          case rel => exact ⟨a + 1, b + 1, _, by have := HD.out.lo; omega, by omega, by go_num, by go_num, HK.out HD.out⟩
          case measure => simp [intOf]; omega
      · have hbn' : decide (b < n) = false := by simpa using hbn
        obtain ⟨wc, xs', hcl, ho, ht, hT⟩ := clear_own HD.out.own ha
        have HF : Hid (wc.ownsRow B 33 2 (.slice (some ⟨gr, 0, none⟩) a cap) (flt os).length (oC (flt os)) ∧ Turn (fun k => (Value.slice (some ⟨gr, 0, none⟩) n cap).ownBlock = some k) w wc) := by
          have hbe : b = os.length := by have := HN.out; omega
          have hp := HD.out.pre
          rw [hbe, List.take_length] at hp
          have h1 := HD.out.lo
          have h2 := HD.out.len
          have hla : (flt os).length = a := by rw [← hp, List.length_take]; omega
          refine ⟨?_, (HD.out.turn.same hT).more (fun k hk => by rw [hk]; rfl)⟩
          have h3 := own_cut ho (i := a) (by omega)
          rw [ht] at h3
          rw [hla, ← hp]
          rw [oC_take l a (by omega)] at h3
          exact h3
        clear ho ht hT HD
        go_wp2
        go_ret
        exact ⟨_, rfl, HF.out.1, HF.out.2⟩
  · rw [if_neg hkn] at hc
    have HF : Hid (flt os = os) := flt_all (fun o ho => by
      obtain ⟨j, hj, rfl⟩ := List.getElem_of_mem ho
      exact h1 j hj (by omega))
    obtain ⟨y, c, hv⟩ := row_shape hown
    subst hv
    unfold ofF at hc ⊢
    have HO : Hid (w.ownsRow B 33 2 (.slice y os.length c) os.length (oC os)) := hown
    clear h1 h2 h3 hk hg hm hown hkn
    go_enter Try.func17, Try.ntmps17
    go_wp2_with (go_at_call 22; go_must (refine hc.mono ?_); rintro e w1 ⟨rfl, b1⟩)
    go_ret
    exact ⟨_, rfl, by rw [HF.out]; exact own_past HO.out b1, Turn.of_below b1⟩

end Go.Proofs.Ytfhaogacblnnnaa
