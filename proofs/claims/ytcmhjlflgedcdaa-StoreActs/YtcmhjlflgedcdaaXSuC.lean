/- The document's All of a store. -/
import Derived.Test.YtcmhjlflgedcdaaXSuB
namespace Go.Proofs.Ytcmhjlflgedcdaa
open Go.RowKit
open Pl

theorem ins_at {Mo : List (En × Value)} {k : Nat} {e : En} (hk : k ≤ Mo.length) (h1 : ∀ x ∈ Mo.take k, befE x.1 e = true) (h2 : ∀ h : k < Mo.length, befE (Mo[k]).1 e = false) : insE e (fstL Mo) = fstL (Mo.take k) ++ e :: fstL (Mo.drop k) := by
  have e0 : fstL Mo = fstL (Mo.take k) ++ fstL (Mo.drop k) := by unfold fstL; rw [← List.map_append, List.take_append_drop]
  have ha : ∀ x ∈ fstL (Mo.take k), befE x e = true := fun x hx => by
    obtain ⟨q, hq, rfl⟩ := List.mem_map.1 hx
    exact h1 q hq
  have t1 : (fstL (Mo.drop k)).takeWhile (fun x => befE x e) = [] ∧ (fstL (Mo.drop k)).dropWhile (fun x => befE x e) = fstL (Mo.drop k) := by
    by_cases hl : k < Mo.length
    · rw [List.drop_eq_getElem_cons hl]
      unfold fstL
      rw [List.map_cons, List.takeWhile_cons, List.dropWhile_cons, h2 hl]
      exact ⟨rfl, rfl⟩
    · rw [List.drop_of_length_le (by omega)]
      exact ⟨rfl, rfl⟩
  unfold insE
  rw [e0, List.takeWhile_append_of_pos ha, List.dropWhile_append_of_pos ha, t1.1, t1.2, List.append_nil]
theorem take_snoc {M : List (En × Value)} {j : Nat} (hj : j < M.length) : fstL (M.take (j + 1)) = fstL (M.take j) ++ [(M[j]).1] := by
  rw [List.take_succ_eq_append_getElem hj]
  unfold fstL
  rw [List.map_append]
  rfl
/-- How far All is: the row that it gives, and the variable e. -/
structure AW (w wr : World) (bx : Nat) (E : Array Value) (ov : Value) (Mo : List (En × Value)) : Prop where
  es : ES w.heap.size wr ov Mo
  box : Blk wr bx E 36
  bel : Below w.heap.size w wr
  low : ∀ k, ov.ownBlock = some k → k < bx
  hi : w.heap.size ≤ bx
theorem AW.below {w wr wn : World} {bx : Nat} {E : Array Value} {ov : Value} {Mo : List (En × Value)} (h : AW w wr bx E ov Mo) (hb : Below wr.heap.size wr wn) : AW w wn bx E ov Mo := ⟨h.es.below hb, h.box.below hb, next h.bel hb, h.low, h.hi⟩
theorem AW.set {w wr : World} {bx : Nat} {E : Array Value} {ov : Value} {Mo : List (En × Value)} (h : AW w wr bx E ov Mo) (i : Nat) (x : Value) : AW w (wr.setCell ⟨bx, i, none⟩ x) bx (E.setIfInBounds i x) ov Mo := by
  have T : Turn (fun k => k = bx) wr (wr.setCell ⟨bx, i, none⟩ x) := Turn.of_set (S := fun k => k = bx) wr (p := ⟨bx, i, none⟩) rfl x
  refine ⟨⟨T.row h.es.own (fun k hk e => by have := h.low k hk; omega), fun p hp => ?_⟩, h.box.set i x, T.one_below h.bel h.hi, h.low, h.hi⟩
  have := h.es.dat p hp
  exact T.row this (fun k hk => blk_row this h.box (by decide) k hk)
theorem AW.new {w wr : World} {ov : Value} {Mo : List (En × Value)} (h : ES w.heap.size wr ov Mo) (hb : Below w.heap.size w wr) (E : Array Value) : AW w (wr.alloc (.cells E 36)) wr.heap.size E ov Mo :=
  ⟨h.below (lay (Below.refl _ _) _), Blk.new wr E _, next hb (lay (Below.refl _ _) _), fun k hk => (h.own.lt k hk).2, hb.size⟩

set_option maxRecDepth 20000 in
set_option maxHeartbeats 8000000 in
theorem rall_any {B : Nat} {w : World} {gr most : Nat} {V : Value} {M : List (En × Value)} (h : RS B w gr most V M) :
    Calls Try.prog 23 #[.pointer (some ⟨gr, 0, none⟩)] w fun e w' => ∃ v Mo, e = .returned v ∧ ES w.heap.size w' v Mo ∧ fstL Mo = allP (fstL M) ∧ Below w.heap.size w w' := by
  obtain ⟨i0, hi, hz0, hz1, hz2⟩ := info_parts infoEn
  obtain ⟨i9, hi9, hz90, hz91, hz92⟩ := info_parts info9'
  have HRS : Hid (RS B w gr most V M) := h
  have hm256 : M.length ≤ 256 := Nat.le_trans h.len h.m2
  obtain ⟨m, hmM⟩ : ∃ m, m = M.length := ⟨_, rfl⟩
  have HM : Hid (m = M.length) := hmM
  rw [← hmM] at hm256
  obtain ⟨yv, cv, hV⟩ := row_shape h.es.own
  rw [← hmM] at hV
  subst hV
  clear h hmM
  go_enter Try.func23, Try.ntmps23
  go_wp2
  go_loopw [3, 4] (fun ov iv wr => ∃ (j no co : Nat) (yo : Option Addr) (Mo : List (En × Value)), ov = .slice yo no co ∧ iv = .int .i64 (j : Int) ∧ j ≤ m ∧ no ≤ j ∧ Hid (no = Mo.length) ∧ Hid (fstL Mo = allP (fstL (M.take j))) ∧ Hid (∀ p ∈ Mo, OkE p.1) ∧ Hid (ES w.heap.size wr (.slice yo no co) Mo ∧ Below w.heap.size w wr)) (fun _ i _ => m - (intOf i).toNat)
  case atStart => exact ⟨0, 0, 0, none, [], rfl, rfl, Nat.zero_le _, Nat.le_refl _, rfl, rfl, fun p hp => by simp at hp, ⟨World.ownsRow_nil _ _ _ _, fun p hp => by simp at hp⟩, Below.refl _ _⟩
  case round =>
    obtain ⟨j, no, co, yo, Mo, rfl, rfl, hjm, hnj, HNO, HFO, HOK, HES⟩ := hrel
    have HRR : Hid (RS B wr gr most (.slice yv m cv) M) := HRS.out.below HES.out.2
    have cg : wr.cell? ⟨gr, 1, none⟩ = some (.slice yv m cv) := HRR.out.blk.cell 1
    by_cases hj : j < m
    · have hj' : (j : Int) < (m : Int) := by omega
      have hjM : j < M.length := by rw [← HM.out]; exact hj
      obtain ⟨gv, cap, hyv, _, _⟩ := HRR.out.es.own.form (by omega)
      rw [← HM.out] at hyv
      simp only [Value.slice.injEq, true_and] at hyv
      obtain ⟨rfl, rfl⟩ := hyv
      obtain ⟨p, hp⟩ : ∃ p, p = M[j] := ⟨_, rfl⟩
      have hpM : p ∈ M := by rw [hp]; exact List.getElem_mem _
      have hcc : ∀ i, i < 6 → wr.cell? ⟨gv, j * 6 + i, none⟩ = (eVc p)[i]? := fun i hi' => by
        have h1 := HRR.out.es.own
        rw [← HM.out] at h1
        rw [h1.cellAt (j * 6 + i) (by omega), hp]
        exact eC_at hjM i hi'
      have HALL : Hid (∀ L, insE p.1 (fstL Mo) = L → L = allP (fstL (M.take (j + 1)))) := fun L hL => by
        rw [← hL, take_snoc hjM, HFO.out, ← hp]
        unfold allP
        rw [List.foldl_append]
        rfl
      have hok := HRS.out.ok p hpM
      have HPOK : Hid (OkE p.1) := hok
      have HROW : Hid (∀ u, Below w.heap.size w u → Row u p.2 p.1.ds.length (tC p.1.ds)) := fun u hu => Row.of_own (own_past (HRS.out.es.dat p hpM) hu)
      have hlen := hok.len
      have HSB : Hid (p.1.n.size ≤ maxLen) := max_ok hok.k
      obtain ⟨qy, qc, hqd⟩ := row_shape (HRR.out.es.dat p hpM)
      have c0 := hcc 0 (by decide)
      have c1 := hcc 1 (by decide)
      have c2 := hcc 2 (by decide)
      have c3' := hcc 3 (by decide)
      have c4 := hcc 4 (by decide)
      have c5 := hcc 5 (by decide)
      rw [Nat.add_zero] at c0
      clear hcc hp hpM hok HFO
      obtain ⟨⟨qn, qt, ql, qds, qr, qu⟩, qd⟩ := p
      simp only at hqd HALL HROW hlen HSB HPOK
      obtain ⟨qN, hqN⟩ : ∃ qN, qN = qds.length := ⟨_, rfl⟩
      have HQN : Hid (qN = qds.length) := hqN
      rw [← hqN] at hqd hlen HROW
      subst hqd
      simp only [eVc, List.getElem?_cons_succ, List.getElem?_cons_zero] at c0 c1 c2 c3' c4 c5
      clear hqN
      obtain ⟨bx, hbx⟩ : ∃ bx, bx = wr.heap.size := ⟨_, rfl⟩
      have HAW : Hid (AW w (wr.alloc (.cells #[.string qn, .int .i64 qt, .int .i64 ql, .slice qy qN qc, .int .i64 qr, .int .i64 qu] 36)) bx #[.string qn, .int .i64 qt, .int .i64 ql, .slice qy qN qc, .int .i64 qr, .int .i64 qu] (.slice yo no co) Mo) := by rw [hbx]; exact AW.new HES.out.1 HES.out.2 _
      have HBX : Hid (bx = wr.heap.size) := hbx
      clear HES hbx
      go_wp2
      rw [← HBX.out]
      clear c0 c1 c2 c3' c4 c5 cg HRR HBX
      go_loopw [6] (fun kv wq => ∃ k : Nat, kv = .int .i64 (k : Int) ∧ k ≤ no ∧ Hid (∀ x ∈ Mo.take k, befE x.1 ⟨qn, qt, ql, qds, qr, qu⟩ = true) ∧ Hid (AW w wq bx #[.string qn, .int .i64 qt, .int .i64 ql, .slice qy qN qc, .int .i64 qr, .int .i64 qu] (.slice yo no co) Mo)) (fun k _ => no - (intOf k).toNat)
      case atStart => exact ⟨0, rfl, Nat.zero_le _, fun x hx => by simp at hx, HAW⟩
      case round =>
        clear HAW
        obtain ⟨k, rfl, hkn, HBF, HAW⟩ := hrel
        have e0 : ∀ nb : Bel wr, nb.to.cell? ⟨bx, 0, none⟩ = some (.string qn) := fun nb => (HAW.out.box.below nb.h).cell 0
        have e1 : ∀ nb : Bel wr, nb.to.cell? ⟨bx, 1, none⟩ = some (.int .i64 qt) := fun nb => (HAW.out.box.below nb.h).cell 1
        by_cases hk : k < no
        · have hk' : (k : Int) < (no : Int) := by omega
          have hkM : k < Mo.length := by rw [← HNO.out]; exact hk
          obtain ⟨go, cap, hyo, _, _⟩ := HAW.out.es.own.form (by omega)
          rw [← HNO.out] at hyo
          simp only [Value.slice.injEq, true_and] at hyo
          obtain ⟨rfl, rfl⟩ := hyo
          obtain ⟨a, ha⟩ : ∃ a, a = (Mo[k]).1 := ⟨_, rfl⟩
          have HOW : Hid (wr.ownsRow w.heap.size 36 6 (.slice (some ⟨go, 0, none⟩) no co) no (eC Mo)) := by have := HAW.out.es.own; rw [← HNO.out] at this; exact this
          have HSA : Hid (a.n.size ≤ maxLen) := by unfold Hid; rw [ha]; exact max_ok (HOK.out _ (List.getElem_mem hkM)).k
          have a0 : ∀ nb : Bel wr, nb.to.cell? ⟨go, k * 6, none⟩ = some (.string a.n) := fun nb => by
            have := (own_past HOW.out nb.h).cellAt (k * 6 + 0) (by omega)
            rw [eC_at hkM 0 (by decide), Nat.add_zero] at this
            rw [this, ha]
            rfl
          have a1 : ∀ nb : Bel wr, nb.to.cell? ⟨go, k * 6 + 1, none⟩ = some (.int .i64 a.t) := fun nb => by
            rw [(own_past HOW.out nb.h).cellAt (k * 6 + 1) (by omega), eC_at hkM 1 (by decide), ha]
            rfl
          have HBK : Hid (∀ x, decide (cK a.n a.t qn qt < 0) = x → befE (Mo[k]).1 ⟨qn, qt, ql, qds, qr, qu⟩ = x) := fun x hx => by rw [← ha, ← hx]; rfl
          have HTM : Hid (befE (Mo[k]).1 ⟨qn, qt, ql, qds, qr, qu⟩ = true → ∀ x ∈ Mo.take (k + 1), befE x.1 ⟨qn, qt, ql, qds, qr, qu⟩ = true) := fun hb x hx => by
            rw [List.take_succ_eq_append_getElem hkM, List.mem_append] at hx
            rcases hx with hx | hx
            · exact HBF.out x hx
            · simp at hx; rw [hx]; exact hb
          have HBC : Hid (∀ v x, decide (cK a.n a.t qn qt < 0) = x → Calls Try.prog 37 #[.string a.n, .int .i64 a.t, .string qn, .int .i64 qt] v fun e w' => e = .returned (.bool x) ∧ Below v.heap.size v w') := fun v x hx => before_any a.n qn a.t qt v HSA.out HSB.out x hx
          clear ha HOW
          obtain ⟨an, at', al, ads, ar, au⟩ := a
          simp only at a0 a1 HBK HBC
          cases hx : decide (cK an at' qn qt < 0) with
          | true =>
            have S := fun nb : Bel wr => HBC.out nb.to true hx
            have HT2 : Hid (∀ x ∈ Mo.take (k + 1), befE x.1 ⟨qn, qt, ql, qds, qr, qu⟩ = true) := HTM.out (HBK.out true hx)
            clear hx HBC HBK HTM HBF hkM
            go_wp2
            refine wp_region_bel (by kernel_rfl) (by kernel_rfl) (fun _ => ?_)
            repeat (go_big_quiet_step ((go_at_call 37; go_must (exact bel_lays (S _)))))
            refine wpQuiet_nil ?_
            intro wn hwn
            have H5 : Hid (AW w wn bx #[.string qn, .int .i64 qt, .int .i64 ql, .slice qy qN qc, .int .i64 qr, .int .i64 qu] (.slice (some ⟨go, 0, none⟩) no co) Mo) := HAW.out.below (bel_out hwn)
            clear hwn HAW a0 a1 e0 e1 S
            go_wp2
            go_roundw
            case rel => exact ⟨k + 1, by go_num, by omega, HT2, H5⟩
            case measure => simp [intOf]; omega
          | false =>
            have S := fun nb : Bel wr => HBC.out nb.to false hx
            have HIN : Hid (insE ⟨qn, qt, ql, qds, qr, qu⟩ (fstL Mo) = fstL (Mo.take k) ++ ⟨qn, qt, ql, qds, qr, qu⟩ :: fstL (Mo.drop k)) := ins_at (by omega) HBF.out (fun _ => HBK.out false hx)
            clear hx HBC HBK HTM HBF hkM
            go_wp2
            refine wp_region_bel (by kernel_rfl) (by kernel_rfl) (fun _ => ?_)
            repeat (go_big_quiet_step ((go_at_call 37; go_must (exact bel_lays (S _)))))
            refine wpQuiet_nil ?_
            intro wn hwn
            have H5 : Hid (AW w wn bx #[.string qn, .int .i64 qt, .int .i64 ql, .slice qy qN qc, .int .i64 qr, .int .i64 qu] (.slice (some ⟨go, 0, none⟩) no co) Mo) := HAW.out.below (bel_out hwn)
            clear hwn HAW a0 a1 e0 e1 S
            obtain ⟨M2, hM2⟩ : ∃ M2 : Value → List (En × Value), M2 = fun d => Mo.take k ++ (⟨qn, qt, ql, qds, qr, qu⟩, d) :: Mo.drop k := ⟨_, rfl⟩
            obtain ⟨N2, hN2⟩ : ∃ N2, N2 = k + 1 + (no - k) := ⟨_, rfl⟩
            have HN2 : Hid (k + 1 + (no - k) = N2) := hN2.symm
            have hN2b : N2 ≤ j + 1 := by omega
            have HL2 : Hid (∀ d, N2 = (M2 d).length) := fun d => by rw [hM2, hN2]; simp; have := HNO.out; omega
            have HF2 : Hid (∀ d, fstL (M2 d) = allP (fstL (M.take (j + 1)))) := fun d => by
              refine HALL.out _ ?_
              rw [HIN.out, hM2]
              simp [fstL]
            have HK2 : Hid (∀ d, ∀ p ∈ M2 d, OkE p.1) := fun d p hp => by
              rw [hM2] at hp
              rcases List.mem_append.1 hp with hp | hp
              · exact HOK.out p (List.mem_of_mem_take hp)
              · rcases List.mem_cons.1 hp with rfl | hp
                · exact HPOK.out
                · exact HOK.out p (List.mem_of_mem_drop hp)
            have HE2 : Hid (∀ y n c, (eC Mo).take (k * 6) ++ [.string qn, .int .i64 qt, .int .i64 ql, .slice y n c, .int .i64 qr, .int .i64 qu] ++ (eC Mo).drop (k * 6) = eC (M2 (.slice y n c))) := fun y n c => by
              rw [hM2, eC_take, eC_drop]
              simp [eC, eVc]
            have HD2 : Hid (∀ (u : World) d, (∀ p ∈ Mo, u.ownsRow w.heap.size 9 1 p.2 p.1.ds.length (tC p.1.ds)) → u.ownsRow w.heap.size 9 1 d qds.length (tC qds) → ∀ p ∈ M2 d, u.ownsRow w.heap.size 9 1 p.2 p.1.ds.length (tC p.1.ds)) := fun u d h1 h2 p hp => by
              rw [hM2] at hp
              rcases List.mem_append.1 hp with hp | hp
              · exact h1 p (List.mem_of_mem_take hp)
              · rcases List.mem_cons.1 hp with rfl | hp
                · exact h2
                · exact h1 p (List.mem_of_mem_drop hp)
            have HC1 : Hid (∀ x ∈ (eC Mo).take (k * 6), x.oneCell' = true) := fun x hx => eC_one H5.out.es.dat x (List.mem_of_mem_take hx)
            have HC2 : Hid (∀ x ∈ (eC Mo).drop (k * 6), x.oneCell' = true) := fun x hx => eC_one H5.out.es.dat x (List.mem_of_mem_drop hx)
            have HLA : Hid (((eC Mo).take (k * 6)).length = k * 6) := by unfold Hid; rw [List.length_take, eC_len]; have := HNO.out; omega
            have HLD : Hid (((eC Mo).drop (k * 6)).length = (no - k) * 6) := by unfold Hid; rw [List.length_drop, eC_len, ← HNO.out, Nat.sub_mul]
            have HB9 : Hid (Below wn.heap.size wn (wn.alloc (.cells #[] 9))) := lay (Below.refl _ _) _
            have HO9 : Hid ((wn.alloc (.cells #[] 9)).ownsRow wn.heap.size 9 1 (.slice (some ⟨wn.heap.size, 0, none⟩) 0 0) 0 []) := own_blk (B := wn.heap.size) (z := 1) (n := 0) (xs := []) (Blk.new wn #[] 9) (Nat.le_refl _) rfl rfl (Nat.zero_le _)
            have HR9 : Hid (Row (wn.alloc (.cells #[] 9)) (.slice qy qN qc) qN (tC qds)) := HROW.out _ (next H5.out.bel HB9.out)
            have d3 : ∀ o, (wn.alloc o).cell? ⟨bx, 3, none⟩ = some (.slice qy qN qc) := fun o => (H5.out.box.alloc o).cell 3
            have hbn := H5.out.box.lt
            have hwn := H5.out.bel.size
            have hbw := H5.out.hi
            have tk1 : True := trivial
            have tk2 : True := trivial
            have tk3 : True := trivial
            have tk4 : True := trivial
            have tk5 : True := trivial
            have tk6 : True := trivial
            clear hN2 hM2 HIN HALL
            go_wp2_with (first
              | (at_builtin; have _t := tk1; refine wpList_appG _ rfl (.tmp 51) (.tmp 54) 32 9 i9 _ 1 16 Try.underlying32 hi9 hz90 hz91 hz92 rfl (by decide) rfl wn.heap.size _ 0 [] rfl HO9.out _ qN (tC qds) rfl HR9.out (by rw [tC_len, ← HQN.out, Nat.mul_one]) (tC_one qds) (by omega) (by unfold maxLen; omega) HB9.out.size ?_; intro v3 w3 h1 h3 _; rw [Nat.zero_add, List.nil_append] at h1; obtain ⟨y3, c3, hv3⟩ := row_shape h1; subst hv3; have B3 : Below wn.heap.size wn w3 := HB9.out.grown h3 HB9.out.size (fun i e => (HO9.out.lt i e).1); have HA3 := H5.out.below B3; have q3 : w3.cell? ⟨bx, 3, none⟩ = some (.slice qy qN qc) := HA3.box.cell 3; have q3f := HA3.box.frozen 3; have HA4 : Hid (AW w (w3.setCell ⟨bx, 3, none⟩ (.slice y3 qN c3)) bx #[.string qn, .int .i64 qt, .int .i64 ql, .slice y3 qN c3, .int .i64 qr, .int .i64 qu] (.slice (some ⟨go, 0, none⟩) no co) Mo) := HA3.set 3 _; have T4 : Turn (fun k => k = bx) w3 (w3.setCell ⟨bx, 3, none⟩ (.slice y3 qN c3)) := Turn.of_set (S := fun k => k = bx) w3 (p := ⟨bx, 3, none⟩) rfl _; have HD4 : Hid ((w3.setCell ⟨bx, 3, none⟩ (.slice y3 qN c3)).ownsRow w.heap.size 9 1 (.slice y3 qN c3) qN (tC qds)) := own_base (T4.row h1 (fun i hk e => by have := (h1.lt i hk).1; omega)) (by omega); obtain ⟨W4, hW4⟩ : ∃ W4, W4 = w3.setCell ⟨bx, 3, none⟩ (.slice y3 qN c3) := ⟨_, rfl⟩; rw [← hW4] at HA4 HD4; have hs4 : W4.heap.size = w3.heap.size := (by rw [hW4]; simp); have HBE : Hid (Below W4.heap.size W4 (W4.alloc (.cells #[] 36))) := lay (Below.refl _ _) _; have HOE : Hid ((W4.alloc (.cells #[] 36)).ownsRow W4.heap.size 36 6 (.slice (some ⟨w3.heap.size, 0, none⟩) 0 0) 0 []) := (by rw [← hs4]; exact own_blk (B := W4.heap.size) (z := 6) (n := 0) (xs := []) (Blk.new W4 #[] 36) (Nat.le_refl _) rfl rfl (Nat.zero_le _)); have HAA := HA4.out.below HBE.out; have HOA : Hid ((W4.alloc (.cells #[] 36)).ownsRow w.heap.size 36 6 (.slice (some ⟨go, 0, none⟩) no co) no (eC Mo)) := (by have := HAA.es.own; rw [← HNO.out] at this; exact this); have HW4 : Hid (W4 = w3.setCell ⟨bx, 3, none⟩ (.slice y3 qN c3)) := hW4; clear h1 h3 tk1 hW4 HA3 HAA T4 B3 hs4 d3)
              | (have _t := tk2; rw [← HW4.out]; refine wpList_sliceTo _ rfl (.tmp 59) (.tmp 60) 50 36 w.heap.size 6 Try.underlying50 (Try.sizeOf36 _) rfl _ no k (eC Mo) rfl rfl HOA.out (by omega) ?_; intro va hra; clear tk2)
              | (at_builtin; have _t := tk3; refine wpList_appG _ rfl (.tmp 58) (.tmp 61) 50 36 i0 _ 6 72 Try.underlying50 hi hz0 hz1 hz2 rfl (by decide) rfl W4.heap.size _ 0 [] rfl HOE.out _ k ((eC Mo).take (k * 6)) rfl hra HLA.out HC1.out (by omega) (by unfold maxLen; omega) HBE.out.size ?_; intro v5 w5 h1 h3 _; rw [Nat.zero_add, List.nil_append] at h1; have HB5 : Hid (Below W4.heap.size W4 w5) := HBE.out.grown h3 HBE.out.size (fun i e => (HOE.out.lt i e).1); have HA5 : Hid (AW w w5 bx #[.string qn, .int .i64 qt, .int .i64 ql, .slice y3 qN c3, .int .i64 qr, .int .i64 qu] (.slice (some ⟨go, 0, none⟩) no co) Mo) := HA4.out.below HB5.out; have H15 : Hid (w5.ownsRow W4.heap.size 36 6 v5 k ((eC Mo).take (k * 6))) := h1; have g0 : w5.cell? ⟨bx, 0, none⟩ = some (.string qn) := HA5.out.box.cell 0; have g1 : w5.cell? ⟨bx, 1, none⟩ = some (.int .i64 qt) := HA5.out.box.cell 1; have g2 : w5.cell? ⟨bx, 2, none⟩ = some (.int .i64 ql) := HA5.out.box.cell 2; have g3 : w5.cell? ⟨bx, 3, none⟩ = some (.slice y3 qN c3) := HA5.out.box.cell 3; have g4 : w5.cell? ⟨bx, 4, none⟩ = some (.int .i64 qr) := HA5.out.box.cell 4; have g5 : w5.cell? ⟨bx, 5, none⟩ = some (.int .i64 qu) := HA5.out.box.cell 5; have HB6 : Hid (Below W4.heap.size W4 (w5.alloc (.cells #[.string qn, .int .i64 qt, .int .i64 ql, .slice y3 qN c3, .int .i64 qr, .int .i64 qu] 36))) := lay HB5.out _; have HR6 := Row.of_blk (Blk.new w5 #[.string qn, .int .i64 qt, .int .i64 ql, .slice y3 qN c3, .int .i64 qr, .int .i64 qu] 36) (xs := [.string qn, .int .i64 qt, .int .i64 ql, .slice y3 qN c3, .int .i64 qr, .int .i64 qu]) rfl 1 1; have HO6 : Hid ((w5.alloc (.cells #[.string qn, .int .i64 qt, .int .i64 ql, .slice y3 qN c3, .int .i64 qr, .int .i64 qu] 36)).ownsRow W4.heap.size 36 6 v5 k ((eC Mo).take (k * 6))) := H15.out.alloc _; clear h1 h3 tk3 hra H15)
              | (at_builtin; have _t := tk4; refine wpList_appG _ rfl (.tmp 63) (.tmp 65) 50 36 i0 _ 6 72 Try.underlying50 hi hz0 hz1 hz2 rfl (by decide) rfl W4.heap.size _ k ((eC Mo).take (k * 6)) rfl HO6.out _ 1 [.string qn, .int .i64 qt, .int .i64 ql, .slice y3 qN c3, .int .i64 qr, .int .i64 qu] rfl HR6 rfl (fun v hv => by simp at hv; rcases hv with rfl | rfl | rfl | rfl | rfl | rfl <;> rfl) (by omega) (by unfold maxLen; omega) HB6.out.size ?_; intro v6 w6 h1 h3 _; have HB7 : Hid (Below W4.heap.size W4 w6) := HB6.out.grown h3 HB6.out.size (fun i e => (HO6.out.lt i e).1); have HA6 := HA4.out.below HB7.out; have HOB : Hid (w6.ownsRow w.heap.size 36 6 (.slice (some ⟨go, 0, none⟩) no co) no (eC Mo)) := (by have := HA6.es.own; rw [← HNO.out] at this; exact this); have H16 : Hid (w6.ownsRow W4.heap.size 36 6 v6 (k + 1) ((eC Mo).take (k * 6) ++ [.string qn, .int .i64 qt, .int .i64 ql, .slice y3 qN c3, .int .i64 qr, .int .i64 qu])) := h1; clear h1 h3 tk4 HR6 HO6 g0 g1 g2 g3 g4 g5 HA6)
              | (have _t := tk5; refine wpList_sliceFrom _ rfl (.tmp 68) (.tmp 69) 50 36 w.heap.size 6 Try.underlying50 (Try.sizeOf36 _) rfl _ no k (eC Mo) rfl rfl HOB.out (by omega) ?_; intro vb hrb; clear tk5)
              | (at_builtin; have _t := tk6; refine wpList_appG _ rfl (.tmp 67) (.tmp 70) 50 36 i0 _ 6 72 Try.underlying50 hi hz0 hz1 hz2 rfl (by decide) rfl W4.heap.size _ (k + 1) _ rfl H16.out _ (no - k) ((eC Mo).drop (k * 6)) rfl hrb HLD.out HC2.out (by omega) (by unfold maxLen; omega) HB7.out.size ?_; intro v8 w8 h1 h3 _; rw [HE2.out, HN2.out] at h1; have B8 : Below W4.heap.size W4 w8 := HB7.out.grown h3 HB7.out.size (fun i e => (H16.out.lt i e).1); obtain ⟨y8, c8, hv8⟩ := row_shape h1; subst hv8; have HA8 := HA4.out.below B8; have hs48 := HA4.out.bel.size; have HES8 : Hid (ES w.heap.size w8 (.slice y8 N2 c8) (M2 (.slice y3 qN c3)) ∧ Below w.heap.size w w8) := ⟨⟨(by rw [← HL2.out]; exact own_base h1 hs48), HD2.out w8 _ HA8.es.dat (by rw [← HQN.out]; exact own_past HD4.out B8)⟩, HA8.bel⟩; clear h1 h3 tk6 hrb B8))
            go_roundw
            case rel => exact ⟨j + 1, N2, c8, y8, M2 (.slice y3 qN c3), rfl, by go_num, by omega, hN2b, HL2.out _, HF2.out _, HK2.out _, HES8⟩
            case measure => simp [intOf]; omega
        · obtain rfl : k = no := by omega
          have hk' : decide (k < k) = false := by simp
          have HIN : Hid (insE ⟨qn, qt, ql, qds, qr, qu⟩ (fstL Mo) = fstL (Mo.take k) ++ ⟨qn, qt, ql, qds, qr, qu⟩ :: fstL (Mo.drop k)) := ins_at (by rw [← HNO.out]; omega) HBF.out (fun hh => by have := HNO.out; omega)
          clear HBF
          go_wp2
          refine wp_region_bel (by kernel_rfl) (by kernel_rfl) (fun _ => ?_)
          repeat (go_big_quiet_step (fail))
          refine wpQuiet_nil ?_
          intro wn hwn
          have H5 : Hid (AW w wn bx #[.string qn, .int .i64 qt, .int .i64 ql, .slice qy qN qc, .int .i64 qr, .int .i64 qu] (.slice yo k co) Mo) := HAW.out.below (bel_out hwn)
          clear hwn HAW e0 e1
          obtain ⟨M2, hM2⟩ : ∃ M2 : Value → List (En × Value), M2 = fun d => Mo.take k ++ (⟨qn, qt, ql, qds, qr, qu⟩, d) :: Mo.drop k := ⟨_, rfl⟩
          obtain ⟨N2, hN2⟩ : ∃ N2, N2 = k + 1 + (k - k) := ⟨_, rfl⟩
          have HN2 : Hid (k + 1 + (k - k) = N2) := hN2.symm
          have hN2b : N2 ≤ j + 1 := by omega
          have HL2 : Hid (∀ d, N2 = (M2 d).length) := fun d => by rw [hM2, hN2]; simp; have := HNO.out; omega
          have HF2 : Hid (∀ d, fstL (M2 d) = allP (fstL (M.take (j + 1)))) := fun d => by
            refine HALL.out _ ?_
            rw [HIN.out, hM2]
            simp [fstL]
          have HK2 : Hid (∀ d, ∀ p ∈ M2 d, OkE p.1) := fun d p hp => by
            rw [hM2] at hp
            rcases List.mem_append.1 hp with hp | hp
            · exact HOK.out p (List.mem_of_mem_take hp)
            · rcases List.mem_cons.1 hp with rfl | hp
              · exact HPOK.out
              · exact HOK.out p (List.mem_of_mem_drop hp)
          have HE2 : Hid (∀ y n c, (eC Mo).take (k * 6) ++ [.string qn, .int .i64 qt, .int .i64 ql, .slice y n c, .int .i64 qr, .int .i64 qu] ++ (eC Mo).drop (k * 6) = eC (M2 (.slice y n c))) := fun y n c => by
            rw [hM2, eC_take, eC_drop]
            simp [eC, eVc]
          have HD2 : Hid (∀ (u : World) d, (∀ p ∈ Mo, u.ownsRow w.heap.size 9 1 p.2 p.1.ds.length (tC p.1.ds)) → u.ownsRow w.heap.size 9 1 d qds.length (tC qds) → ∀ p ∈ M2 d, u.ownsRow w.heap.size 9 1 p.2 p.1.ds.length (tC p.1.ds)) := fun u d h1 h2 p hp => by
            rw [hM2] at hp
            rcases List.mem_append.1 hp with hp | hp
            · exact h1 p (List.mem_of_mem_take hp)
            · rcases List.mem_cons.1 hp with rfl | hp
              · exact h2
              · exact h1 p (List.mem_of_mem_drop hp)
          have HC1 : Hid (∀ x ∈ (eC Mo).take (k * 6), x.oneCell' = true) := fun x hx => eC_one H5.out.es.dat x (List.mem_of_mem_take hx)
          have HC2 : Hid (∀ x ∈ (eC Mo).drop (k * 6), x.oneCell' = true) := fun x hx => eC_one H5.out.es.dat x (List.mem_of_mem_drop hx)
          have HLA : Hid (((eC Mo).take (k * 6)).length = k * 6) := by unfold Hid; rw [List.length_take, eC_len]; have := HNO.out; omega
          have HLD : Hid (((eC Mo).drop (k * 6)).length = (k - k) * 6) := by unfold Hid; rw [List.length_drop, eC_len, ← HNO.out, Nat.sub_mul]
          have HB9 : Hid (Below wn.heap.size wn (wn.alloc (.cells #[] 9))) := lay (Below.refl _ _) _
          have HO9 : Hid ((wn.alloc (.cells #[] 9)).ownsRow wn.heap.size 9 1 (.slice (some ⟨wn.heap.size, 0, none⟩) 0 0) 0 []) := own_blk (B := wn.heap.size) (z := 1) (n := 0) (xs := []) (Blk.new wn #[] 9) (Nat.le_refl _) rfl rfl (Nat.zero_le _)
          have HR9 : Hid (Row (wn.alloc (.cells #[] 9)) (.slice qy qN qc) qN (tC qds)) := HROW.out _ (next H5.out.bel HB9.out)
          have d3 : ∀ o, (wn.alloc o).cell? ⟨bx, 3, none⟩ = some (.slice qy qN qc) := fun o => (H5.out.box.alloc o).cell 3
          have hbn := H5.out.box.lt
          have hwn := H5.out.bel.size
          have hbw := H5.out.hi
          have tk1 : True := trivial
          have tk2 : True := trivial
          have tk3 : True := trivial
          have tk4 : True := trivial
          have tk5 : True := trivial
          have tk6 : True := trivial
          clear hN2 hM2 HIN HALL
          go_wp2_with (first
            | (at_builtin; have _t := tk1; refine wpList_appG _ rfl (.tmp 51) (.tmp 54) 32 9 i9 _ 1 16 Try.underlying32 hi9 hz90 hz91 hz92 rfl (by decide) rfl wn.heap.size _ 0 [] rfl HO9.out _ qN (tC qds) rfl HR9.out (by rw [tC_len, ← HQN.out, Nat.mul_one]) (tC_one qds) (by omega) (by unfold maxLen; omega) HB9.out.size ?_; intro v3 w3 h1 h3 _; rw [Nat.zero_add, List.nil_append] at h1; obtain ⟨y3, c3, hv3⟩ := row_shape h1; subst hv3; have B3 : Below wn.heap.size wn w3 := HB9.out.grown h3 HB9.out.size (fun i e => (HO9.out.lt i e).1); have HA3 := H5.out.below B3; have q3 : w3.cell? ⟨bx, 3, none⟩ = some (.slice qy qN qc) := HA3.box.cell 3; have q3f := HA3.box.frozen 3; have HA4 : Hid (AW w (w3.setCell ⟨bx, 3, none⟩ (.slice y3 qN c3)) bx #[.string qn, .int .i64 qt, .int .i64 ql, .slice y3 qN c3, .int .i64 qr, .int .i64 qu] (.slice yo k co) Mo) := HA3.set 3 _; have T4 : Turn (fun k => k = bx) w3 (w3.setCell ⟨bx, 3, none⟩ (.slice y3 qN c3)) := Turn.of_set (S := fun k => k = bx) w3 (p := ⟨bx, 3, none⟩) rfl _; have HD4 : Hid ((w3.setCell ⟨bx, 3, none⟩ (.slice y3 qN c3)).ownsRow w.heap.size 9 1 (.slice y3 qN c3) qN (tC qds)) := own_base (T4.row h1 (fun i hk e => by have := (h1.lt i hk).1; omega)) (by omega); obtain ⟨W4, hW4⟩ : ∃ W4, W4 = w3.setCell ⟨bx, 3, none⟩ (.slice y3 qN c3) := ⟨_, rfl⟩; rw [← hW4] at HA4 HD4; have hs4 : W4.heap.size = w3.heap.size := (by rw [hW4]; simp); have HBE : Hid (Below W4.heap.size W4 (W4.alloc (.cells #[] 36))) := lay (Below.refl _ _) _; have HOE : Hid ((W4.alloc (.cells #[] 36)).ownsRow W4.heap.size 36 6 (.slice (some ⟨w3.heap.size, 0, none⟩) 0 0) 0 []) := (by rw [← hs4]; exact own_blk (B := W4.heap.size) (z := 6) (n := 0) (xs := []) (Blk.new W4 #[] 36) (Nat.le_refl _) rfl rfl (Nat.zero_le _)); have HAA := HA4.out.below HBE.out; have HOA : Hid ((W4.alloc (.cells #[] 36)).ownsRow w.heap.size 36 6 (.slice yo k co) k (eC Mo)) := (by have := HAA.es.own; rw [← HNO.out] at this; exact this); have HW4 : Hid (W4 = w3.setCell ⟨bx, 3, none⟩ (.slice y3 qN c3)) := hW4; clear h1 h3 tk1 hW4 HA3 HAA T4 B3 hs4 d3)
            | (have _t := tk2; rw [← HW4.out]; refine wpList_sliceTo _ rfl (.tmp 59) (.tmp 60) 50 36 w.heap.size 6 Try.underlying50 (Try.sizeOf36 _) rfl _ k k (eC Mo) rfl rfl HOA.out (by omega) ?_; intro va hra; clear tk2)
            | (at_builtin; have _t := tk3; refine wpList_appG _ rfl (.tmp 58) (.tmp 61) 50 36 i0 _ 6 72 Try.underlying50 hi hz0 hz1 hz2 rfl (by decide) rfl W4.heap.size _ 0 [] rfl HOE.out _ k ((eC Mo).take (k * 6)) rfl hra HLA.out HC1.out (by omega) (by unfold maxLen; omega) HBE.out.size ?_; intro v5 w5 h1 h3 _; rw [Nat.zero_add, List.nil_append] at h1; have HB5 : Hid (Below W4.heap.size W4 w5) := HBE.out.grown h3 HBE.out.size (fun i e => (HOE.out.lt i e).1); have HA5 : Hid (AW w w5 bx #[.string qn, .int .i64 qt, .int .i64 ql, .slice y3 qN c3, .int .i64 qr, .int .i64 qu] (.slice yo k co) Mo) := HA4.out.below HB5.out; have H15 : Hid (w5.ownsRow W4.heap.size 36 6 v5 k ((eC Mo).take (k * 6))) := h1; have g0 : w5.cell? ⟨bx, 0, none⟩ = some (.string qn) := HA5.out.box.cell 0; have g1 : w5.cell? ⟨bx, 1, none⟩ = some (.int .i64 qt) := HA5.out.box.cell 1; have g2 : w5.cell? ⟨bx, 2, none⟩ = some (.int .i64 ql) := HA5.out.box.cell 2; have g3 : w5.cell? ⟨bx, 3, none⟩ = some (.slice y3 qN c3) := HA5.out.box.cell 3; have g4 : w5.cell? ⟨bx, 4, none⟩ = some (.int .i64 qr) := HA5.out.box.cell 4; have g5 : w5.cell? ⟨bx, 5, none⟩ = some (.int .i64 qu) := HA5.out.box.cell 5; have HB6 : Hid (Below W4.heap.size W4 (w5.alloc (.cells #[.string qn, .int .i64 qt, .int .i64 ql, .slice y3 qN c3, .int .i64 qr, .int .i64 qu] 36))) := lay HB5.out _; have HR6 := Row.of_blk (Blk.new w5 #[.string qn, .int .i64 qt, .int .i64 ql, .slice y3 qN c3, .int .i64 qr, .int .i64 qu] 36) (xs := [.string qn, .int .i64 qt, .int .i64 ql, .slice y3 qN c3, .int .i64 qr, .int .i64 qu]) rfl 1 1; have HO6 : Hid ((w5.alloc (.cells #[.string qn, .int .i64 qt, .int .i64 ql, .slice y3 qN c3, .int .i64 qr, .int .i64 qu] 36)).ownsRow W4.heap.size 36 6 v5 k ((eC Mo).take (k * 6))) := H15.out.alloc _; clear h1 h3 tk3 hra H15)
            | (at_builtin; have _t := tk4; refine wpList_appG _ rfl (.tmp 63) (.tmp 65) 50 36 i0 _ 6 72 Try.underlying50 hi hz0 hz1 hz2 rfl (by decide) rfl W4.heap.size _ k ((eC Mo).take (k * 6)) rfl HO6.out _ 1 [.string qn, .int .i64 qt, .int .i64 ql, .slice y3 qN c3, .int .i64 qr, .int .i64 qu] rfl HR6 rfl (fun v hv => by simp at hv; rcases hv with rfl | rfl | rfl | rfl | rfl | rfl <;> rfl) (by omega) (by unfold maxLen; omega) HB6.out.size ?_; intro v6 w6 h1 h3 _; have HB7 : Hid (Below W4.heap.size W4 w6) := HB6.out.grown h3 HB6.out.size (fun i e => (HO6.out.lt i e).1); have HA6 := HA4.out.below HB7.out; have HOB : Hid (w6.ownsRow w.heap.size 36 6 (.slice yo k co) k (eC Mo)) := (by have := HA6.es.own; rw [← HNO.out] at this; exact this); have H16 : Hid (w6.ownsRow W4.heap.size 36 6 v6 (k + 1) ((eC Mo).take (k * 6) ++ [.string qn, .int .i64 qt, .int .i64 ql, .slice y3 qN c3, .int .i64 qr, .int .i64 qu])) := h1; clear h1 h3 tk4 HR6 HO6 g0 g1 g2 g3 g4 g5 HA6)
            | (have _t := tk5; refine wpList_sliceFrom _ rfl (.tmp 68) (.tmp 69) 50 36 w.heap.size 6 Try.underlying50 (Try.sizeOf36 _) rfl _ k k (eC Mo) rfl rfl HOB.out (by omega) ?_; intro vb hrb; clear tk5)
            | (at_builtin; have _t := tk6; refine wpList_appG _ rfl (.tmp 67) (.tmp 70) 50 36 i0 _ 6 72 Try.underlying50 hi hz0 hz1 hz2 rfl (by decide) rfl W4.heap.size _ (k + 1) _ rfl H16.out _ (k - k) ((eC Mo).drop (k * 6)) rfl hrb HLD.out HC2.out (by omega) (by unfold maxLen; omega) HB7.out.size ?_; intro v8 w8 h1 h3 _; rw [HE2.out, HN2.out] at h1; have B8 : Below W4.heap.size W4 w8 := HB7.out.grown h3 HB7.out.size (fun i e => (H16.out.lt i e).1); obtain ⟨y8, c8, hv8⟩ := row_shape h1; subst hv8; have HA8 := HA4.out.below B8; have hs48 := HA4.out.bel.size; have HES8 : Hid (ES w.heap.size w8 (.slice y8 N2 c8) (M2 (.slice y3 qN c3)) ∧ Below w.heap.size w w8) := ⟨⟨(by rw [← HL2.out]; exact own_base h1 hs48), HD2.out w8 _ HA8.es.dat (by rw [← HQN.out]; exact own_past HD4.out B8)⟩, HA8.bel⟩; clear h1 h3 tk6 hrb B8))
          go_roundw
          case rel => exact ⟨j + 1, N2, c8, y8, M2 (.slice y3 qN c3), rfl, by go_num, by omega, hN2b, HL2.out _, HF2.out _, HK2.out _, HES8⟩
          case measure => simp [intOf]; omega
    · have hj' : decide (j < m) = false := by simpa using hj
      have HEND : Hid (fstL Mo = allP (fstL M)) := by
        unfold Hid
        rw [HFO.out, List.take_of_length_le (by rw [← HM.out]; omega)]
      clear HFO
      go_wp2
      go_ret
      exact ⟨_, Mo, rfl, HES.out.1, HEND.out, HES.out.2⟩

end Go.Proofs.Ytcmhjlflgedcdaa
