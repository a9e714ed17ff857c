/- What Strip gives: the OPT with those options that are no client's address, in a row of its own. -/
import Derived.Test.YtfhaogacblnnnaaEcD
namespace Go.Proofs.Ytfhaogacblnnnaa
open Go.RowKit

/-- What Strip holds: its argument, its result, the row that is left. -/
structure SL (w0 w : World) (C0 C1 : Array Value) (r : Value) (l : List On) : Prop where
  own : w.ownsRow (w0.heap.size + 2) 33 2 r l.length (oC l)
  box : Blk w w0.heap.size C0 24
  res : Blk w (w0.heap.size + 1) C1 24
  below : Below w0.heap.size w0 w
theorem SL.past {w0 w w' : World} {C0 C1 : Array Value} {r : Value} {l : List On} (h : SL w0 w C0 C1 r l) (hb : Below w.heap.size w w') : SL w0 w' C0 C1 r l :=
  ⟨own_past h.own hb, h.box.below hb, h.res.below hb, next h.below hb⟩
theorem SL.set {w0 w : World} {C0 C1 : Array Value} {gr n cap : Nat} {l : List On} (h : SL w0 w C0 C1 (.slice (some ⟨gr, 0, none⟩) n cap) l) {j : Nat} (hj : j < l.length) :
    SL w0 (w.setCell ⟨gr, j * 2 + 1, none⟩ (.string l[j].d)) C0 C1 (.slice (some ⟨gr, 0, none⟩) n cap) l := by
  have hlt := (h.own.lt gr rfl).1
  have hn := own_len h.own
  subst hn
  have e : (oC l).set (j * 2 + 1) (.string l[j].d) = oC l := by
    have := oC_set l j l[j] hj
    rw [List.set_getElem_self] at this
    have e0 : (oC l).set (j * 2) (.int .i64 l[j].c) = oC l := by
      apply List.ext_getElem?
      intro i
      by_cases hi : j * 2 = i
      · subst hi
        rw [List.getElem?_set_self (by rw [oC_len]; omega)]
        exact (oC_at hj 0 (by decide)).symm
      · rw [List.getElem?_set_ne hi]
    rw [e0] at this
    exact this
  have := (h.own.stored (j * 2 + 1) (.string l[j].d)).1
  rw [e] at this
  exact ⟨this, h.box.other (by omega) _ _, h.res.other (by omega) _ _, h.below.setCell (by show w0.heap.size ≤ gr; omega) _⟩

set_option maxRecDepth 20000 in
set_option maxHeartbeats 1000000 in
theorem strip_any (o : Ot) (v : Value) (w : World) (h : Row w v o.os.length (oC o.os)) (hm : o.os.length ≤ maxLen) (hn : o.os.length * 24 ≤ far) (hd : ∀ x ∈ o.os, x.d.size ≤ 140737488355328) :
    Calls Try.prog 7 #[.agg (optC o v)] w fun e w' => ∃ (y : Option Addr) (m cap : Nat), e = .returned (.agg (optC o (.slice y m cap))) ∧ w'.ownsRow w.heap.size 33 2 (.slice y m cap) (flt o.os).length (oC (flt o.os)) ∧ Below w.heap.size w w' := by
  obtain ⟨s, ee, vv, b, z, os⟩ := o
  simp only at h hm hn hd ⊢
  obtain ⟨x, c, hv⟩ := row_slice h
  obtain ⟨N, hN⟩ : ∃ N, N = os.length := ⟨_, rfl⟩
  rw [← hN] at hv
  subst hv
  have hb : Below w.heap.size w ((w.alloc (.cells #[.int .i64 s, .int .i64 ee, .int .i64 vv, .bool b, .int .i64 z, .slice x N c] 24)).alloc (.cells #[.int .i64 0, .int .i64 0, .int .i64 0, .bool false, .int .i64 0, .slice none 0 0] 24)) := lay (lay (Below.refl _ _) _) _
  have k0 := (Blk.new w #[.int .i64 s, .int .i64 ee, .int .i64 vv, .bool b, .int .i64 z, .slice x N c] 24).alloc (.cells #[.int .i64 0, .int .i64 0, .int .i64 0, .bool false, .int .i64 0, .slice none 0 0] 24)
  have k1 := Blk.new (w.alloc (.cells #[.int .i64 s, .int .i64 ee, .int .i64 vv, .bool b, .int .i64 z, .slice x N c] 24)) #[.int .i64 0, .int .i64 0, .int .i64 0, .bool false, .int .i64 0, .slice none 0 0] 24
  rw [World.size_alloc] at k1
  have hsz : ((w.alloc (.cells #[.int .i64 s, .int .i64 ee, .int .i64 vv, .bool b, .int .i64 z, .slice x N c] 24)).alloc (.cells #[.int .i64 0, .int .i64 0, .int .i64 0, .bool false, .int .i64 0, .slice none 0 0] 24)).heap.size = w.heap.size + 2 := by rw [World.size_alloc, World.size_alloc]
  have hc := (cloneO_any _ os _ (h.below hb) hm hn).mono (R' := fun e w' => ∃ v', e = .returned v' ∧ w'.ownsRow (w.heap.size + 2) 33 2 v' os.length (oC os) ∧ Below ((w.alloc (.cells #[.int .i64 s, .int .i64 ee, .int .i64 vv, .bool b, .int .i64 z, .slice x N c] 24)).alloc (.cells #[.int .i64 0, .int .i64 0, .int .i64 0, .bool false, .int .i64 0, .slice none 0 0] 24)).heap.size ((w.alloc (.cells #[.int .i64 s, .int .i64 ee, .int .i64 vv, .bool b, .int .i64 z, .slice x N c] 24)).alloc (.cells #[.int .i64 0, .int .i64 0, .int .i64 0, .bool false, .int .i64 0, .slice none 0 0] 24)) w') (fun e w' ⟨v', he, ho, hb'⟩ => ⟨v', he, by rw [hsz] at ho; exact ho, hb'⟩)
  have HM : Hid (os.length ≤ maxLen) := hm
  have HD : Hid (∀ x ∈ os, x.d.size ≤ 140737488355328) := hd
  have HB := hb
  obtain ⟨M, hM⟩ : ∃ M, M = (flt os).length := ⟨_, rfl⟩
  have hML : M ≤ maxLen := by rw [hM]; exact Nat.le_trans (flt_le os) hm
  unfold maxLen at hML
  have HMM : Hid (M = (flt os).length) := hM
  clear h hm hn hd hN hsz hM
  have K0 : Hid (Blk _ w.heap.size #[.int .i64 s, .int .i64 ee, .int .i64 vv, .bool b, .int .i64 z, .slice x N c] 24) := k0
  have K1 : Hid (Blk _ (w.heap.size + 1) #[.int .i64 0, .int .i64 0, .int .i64 0, .bool false, .int .i64 0, .slice none 0 0] 24) := k1
  clear k0 k1
  unfold optC
  simp only
  go_enter Try.func7, Try.ntmps7
  go_wp2_with (first
    | (go_at_call 18; go_must (refine hc.mono ?_); rintro e w1 ⟨v1, rfl, o1, b1⟩; have O1 : Hid (w1.ownsRow (w.heap.size + 2) 33 2 v1 os.length (oC os)) := o1; replace K0 : Hid (Blk w1 w.heap.size _ 24) := K0.out.below b1; replace K1 : Hid (Blk w1 (w.heap.size + 1) _ 24) := K1.out.below b1; have B1 : Hid (Below w.heap.size w w1) := next hb b1; clear b1 o1 hc hb HB)
    | (go_at_call 19; go_must (refine (ofCode_any _).mono ?_); rintro e w2 ⟨g, rfl, hg, _, b2⟩; replace O1 : Hid (w2.ownsRow (w.heap.size + 2) 33 2 v1 os.length (oC os)) := own_past O1.out b2; replace K0 : Hid (Blk w2 w.heap.size _ 24) := K0.out.below b2; replace K1 : Hid (Blk w2 (w.heap.size + 1) _ 24) := K1.out.below b2; replace B1 : Hid (Below w.heap.size w w2) := next B1.out b2; have HG : Hid (Blk w2 g #[.int .i64 8] 3) := hg; clear b2 hg)
    | (go_at_call 17; go_must (refine (delete_any v1 os g _ O1.out HM.out HG.out).mono ?_); rintro e w3 ⟨v3, rfl, o3, t3⟩; have HS : Hid (SL w w3 #[.int .i64 s, .int .i64 ee, .int .i64 vv, .bool b, .int .i64 z, .slice x N c] #[.int .i64 0, .int .i64 0, .int .i64 0, .bool false, .int .i64 0, .slice none 0 0] v3 (flt os)) := ⟨o3, t3.blk K0.out (fun e => by have := (O1.out.lt _ e).1; omega), t3.blk K1.out (fun e => by have := (O1.out.lt _ e).1; omega), Turn.below B1.out t3 B1.out.size (fun i e => by have := (O1.out.lt _ e).1; omega)⟩; obtain ⟨y, cap, hv3⟩ := row_shape o3; rw [← HMM.out] at hv3; subst hv3; clear t3 o3 O1 K0 K1 B1 HG))
  go_loopw [13] (fun i wr => ∃ j : Nat, j ≤ M ∧ i = .int .i64 (j : Int) ∧ Hid (SL w wr #[.int .i64 s, .int .i64 ee, .int .i64 vv, .bool b, .int .i64 z, .slice x N c] #[.int .i64 0, .int .i64 0, .int .i64 0, .bool false, .int .i64 0, .slice none 0 0] (.slice y M cap) (flt os))) (fun i _ => M - (intOf i).toNat)
  case atStart => exact ⟨0, Nat.zero_le _, rfl, HS⟩
  case round =>
    clear HS
    obtain ⟨j, hj, rfl, HS⟩ := hrel
    by_cases hjn : j < M
    · have hjm : j < (flt os).length := by have := HMM.out; omega
      have hjn' : (j : Int) < (M : Int) := by omega
      obtain ⟨gr, cap', e1, _, _⟩ := HS.out.own.form (by omega)
      simp only [Value.slice.injEq] at e1
      obtain ⟨rfl, -, rfl⟩ := e1
      obtain ⟨gg, oo, cc, ex, hcell⟩ := row_at (Row.of_own HS.out.own) (by omega)
      simp only [Value.slice.injEq, Option.some.injEq, Addr.mk.injEq, and_true] at ex
      obtain ⟨⟨rfl, rfl⟩, -, -⟩ := ex
      obtain ⟨d0, d1⟩ := o_cells hcell hjm
      rw [Nat.zero_add] at d0 d1
      have hclone := fun u => clone_far (flt os)[j].d u (HD.out _ (flt_mem (List.getElem_mem hjm)).1)
      have HK : Hid (∀ {u : World}, SL w u #[.int .i64 s, .int .i64 ee, .int .i64 vv, .bool b, .int .i64 z, .slice x N c] #[.int .i64 0, .int .i64 0, .int .i64 0, .bool false, .int .i64 0, .slice none 0 0] (.slice (some ⟨gr, 0, none⟩) M cap) (flt os) → SL w (u.setCell ⟨gr, j * 2 + 1, none⟩ (.string (flt os)[j].d)) #[.int .i64 s, .int .i64 ee, .int .i64 vv, .bool b, .int .i64 z, .slice x N c] #[.int .i64 0, .int .i64 0, .int .i64 0, .bool false, .int .i64 0, .slice none 0 0] (.slice (some ⟨gr, 0, none⟩) M cap) (flt os)) := fun h => h.set hjm
      have HC : Hid (∀ {u : World}, SL w u #[.int .i64 s, .int .i64 ee, .int .i64 vv, .bool b, .int .i64 z, .slice x N c] #[.int .i64 0, .int .i64 0, .int .i64 0, .bool false, .int .i64 0, .slice none 0 0] (.slice (some ⟨gr, 0, none⟩) M cap) (flt os) → u.cell? ⟨gr, j * 2 + 1, none⟩ = some (.string (flt os)[j].d) ∧ u.frozen? ⟨gr, j * 2 + 1, none⟩ = false) := fun h => by
        have h2 := h.own
        rw [← HMM.out] at h2
        exact ⟨by rw [h2.cellAt _ (by omega)]; exact oC_at hjm 1 (by decide), h2.frozenAt _⟩
      obtain ⟨q, hq⟩ : ∃ q, q = (flt os)[j] := ⟨_, rfl⟩
      simp only [← hq] at d0 d1 hclone HK HC
      obtain ⟨qc, qd⟩ := q
      simp only at d0 d1 hclone HK HC
      clear hq hcell
      go_wp2_with (go_at_call 20; go_must (refine (hclone _).mono ?_); rintro e w4 ⟨rfl, b4⟩; replace HS : Hid (SL w w4 _ _ _ (flt os)) := HS.out.past (next (lay (Below.refl _ _) _) b4); obtain ⟨e1, f1⟩ := HC.out HS.out; clear b4 d0 d1)
      go_roundw
      case rel => exact ⟨j + 1, by omega, by go_num, HK.out HS.out⟩
      case measure => simp [intOf]; omega
    · have hjn' : decide (j < M) = false := by simpa using hjn
      have kA := HS.out.box.set 5 (.slice y M cap)
      have kB := HS.out.res.other (b := w.heap.size) (by omega) 5 (.slice y M cap)
      obtain ⟨a0, a1, a2, a3, a4, a5⟩ := HS.out.box.six'
      have a6 := HS.out.box.frozen 5
      obtain ⟨c0, c1, c2, c3, c4, c5⟩ := kA.six'
      obtain ⟨d0, d1, d2, d3, d4, d5⟩ := kB.six'
      obtain ⟨f0, f1, f2, f3, f4, f5⟩ := kB.open6
      have hb2 : Below w.heap.size w (wr.setCell ⟨w.heap.size, 5, none⟩ (.slice y M cap)) := HS.out.below.setCell (Nat.le_refl _) _
      have q := set6_blk (o := ⟨s, ee, vv, b, z, os⟩) (v := .slice y M cap) (o' := otZ) (v' := .slice none 0 0) kB
      have qt := set6_turn (wr.setCell ⟨w.heap.size, 5, none⟩ (.slice y M cap)) (w.heap.size + 1) ⟨s, ee, vv, b, z, os⟩ (.slice y M cap)
      have qb := set6_below hb2 (g := w.heap.size + 1) (Nat.le_succ _) hb2.size ⟨s, ee, vv, b, z, os⟩ (.slice y M cap)
      have ho : (wr.setCell ⟨w.heap.size, 5, none⟩ (.slice y M cap)).ownsRow (w.heap.size + 2) 33 2 (.slice y M cap) (flt os).length (oC (flt os)) := Turn.row (S := fun k => k = w.heap.size) (Turn.of_set (S := fun k => k = w.heap.size) wr (p := ⟨w.heap.size, 5, none⟩) rfl _) HS.out.own (fun k hk e => by have := (HS.out.own.lt k hk).1; omega)
      have qo := own_base (B' := w.heap.size) (qt.row ho (fun k hk e => by have := (ho.lt k hk).1; omega)) (by omega)
      clear kA kB hb2 qt ho
      have HQ : Hid (Blk (set6 (wr.setCell ⟨w.heap.size, 5, none⟩ (.slice y M cap)) (w.heap.size + 1) ⟨s, ee, vv, b, z, os⟩ (.slice y M cap)) (w.heap.size + 1) (optC ⟨s, ee, vv, b, z, os⟩ (.slice y M cap)) 24 ∧ (set6 (wr.setCell ⟨w.heap.size, 5, none⟩ (.slice y M cap)) (w.heap.size + 1) ⟨s, ee, vv, b, z, os⟩ (.slice y M cap)).ownsRow w.heap.size 33 2 (.slice y M cap) (flt os).length (oC (flt os)) ∧ Below w.heap.size w (set6 (wr.setCell ⟨w.heap.size, 5, none⟩ (.slice y M cap)) (w.heap.size + 1) ⟨s, ee, vv, b, z, os⟩ (.slice y M cap))) := ⟨q, qo, qb⟩
      clear q qo qb
      go_wp2
      change bodyPost Try.prog Try.f7 _ _ _ (set6 (wr.setCell ⟨w.heap.size, 5, none⟩ (.slice y M cap)) (w.heap.size + 1) ⟨s, ee, vv, b, z, os⟩ (.slice y M cap))
      revert HQ
      generalize set6 (wr.setCell ⟨w.heap.size, 5, none⟩ (.slice y M cap)) (w.heap.size + 1) ⟨s, ee, vv, b, z, os⟩ (.slice y M cap) = W
      intro HQ
      obtain ⟨q, qo, qb⟩ := HQ.out
      obtain ⟨q0, q1, q2, q3, q4, q5⟩ := q.six
      refine bodyPost_ret (v := .agg (optC ⟨s, ee, vv, b, z, os⟩ (.slice y M cap))) (by simp [results, Try.results7, go_sem, q0, q1, q2, q3, q4, q5, optC]) rfl ?_
      exact ⟨_, _, _, rfl, qo, qb⟩

/-- The same, with letters. -/
theorem strip_l (s ee vv : Int) (b : Bool) (z : Int) (os : List On) (M : Nat) (hM : M = (flt os).length) (v : Value) (u : World) (h : Row u v os.length (oC os)) (hm : os.length ≤ maxLen) (hn : os.length * 24 ≤ far) (hd : ∀ x ∈ os, x.d.size ≤ 140737488355328) :
    Calls Try.prog 7 #[.agg #[.int .i64 s, .int .i64 ee, .int .i64 vv, .bool b, .int .i64 z, v]] u fun e w' => ∃ (y : Option Addr) (cap : Nat), e = .returned (.agg #[.int .i64 s, .int .i64 ee, .int .i64 vv, .bool b, .int .i64 z, .slice y M cap]) ∧ w'.ownsRow u.heap.size 33 2 (.slice y M cap) M (oC (flt os)) ∧ Below u.heap.size u w' :=
  (strip_any ⟨s, ee, vv, b, z, os⟩ v u h hm hn hd).mono fun e w' ⟨y, m, cap, he, ho, hb⟩ => by
    have := own_len ho
    subst this
    simp only [← hM] at ho he
    exact ⟨y, cap, he, ho, hb⟩
/-- What stays, by its place. -/
theorem flt_get {os : List On} {j : Nat} (hj : j < os.length) (h : ec os[j] = false) : ∃ hm : (flt (os.take j)).length < (flt os).length, (flt os)[(flt (os.take j)).length] = os[j] := by
  have e : flt os = flt (os.take j) ++ os[j] :: flt (os.drop (j + 1)) := by
    have h1 : os = os.take j ++ os[j] :: os.drop (j + 1) := by simp
    have h2 : flt (os[j] :: os.drop (j + 1)) = os[j] :: flt (os.drop (j + 1)) := by unfold flt; rw [List.filter_cons, if_pos (by rw [h]; rfl)]
    have h3 := congrArg flt h1
    rw [flt_app, h2] at h3
    exact h3
  have hl : (flt (os.take j)).length < (flt os).length := by rw [e, List.length_append, List.length_cons]; omega
  refine ⟨hl, ?_⟩
  have : (flt os)[(flt (os.take j)).length]? = some os[j] := by rw [e]; simp
  rw [List.getElem?_eq_getElem hl] at this
  simpa using this

end Go.Proofs.Ytfhaogacblnnnaa
