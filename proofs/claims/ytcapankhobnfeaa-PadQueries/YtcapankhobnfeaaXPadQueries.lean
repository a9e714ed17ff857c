/- PadQueries holds: for every number and every two steps, a query that is made is read as one question and one OPT of padding alone, its length is a multiple of 128, and names as long make queries as long; else there is nothing, and the error says so. -/
import Derived.Test.YtcapankhobnfeaaXP14
import Derived.Test.YtcapankhobnfeaaXPdN
import Derived.Test.YtcapankhobnfeaaXPfA
import Derived.Test.YtcapankhobnfeaaXFoB
import Derived.Laws.StructEq
import Derived.BigQuiet
import Derived.ProofKit
import Derived.OpenShut
import Derived.ShutString
import Derived.SizedLaws
namespace Go.Proofs.Ytcapankhobnfeaa.padQueries
open Go.ChangeShapes Go.WideShapes Go.ChangeAt Go.RowKit
open Go.ChangeMaps (open_string shut_string)
open Pl

set_option maxRecDepth 20000 in
set_option maxHeartbeats 1000000 in
theorem w_no (id : Int) (a : ByteArray) (t : Int) (b : ByteArray) (u : Int) (i : Int) (hi : bits .and .i64 id 65535 = i) (ha : a.size ≤ maxLen) (hb : b.size ≤ maxLen) (w : World) (h : mayQu i a t = false) :
    Calls Try.prog 4 #[.int .i64 id, .agg #[.string a, .int .i64 t], .agg #[.string b, .int .i64 u]] w fun e w' => e = .returned (.bool true) ∧ Below w.heap.size w w' := by
  have Q1 := fun v => query_any i a t _ _ v ha rfl rfl
  rw [(que_no h).1, (que_no h).2] at Q1
  have Q2 := fun v => query_any i b u _ _ v hb rfl rfl
  obtain ⟨V, hV⟩ : ∃ V, queT i b u = V := ⟨_, rfl⟩
  obtain ⟨F, hF⟩ : ∃ F, queE i b u = F := ⟨_, rfl⟩
  rw [hV, hF] at Q2
  have KA := (Blk.new w #[.string a, .int .i64 t] 23).alloc (.cells #[.string b, .int .i64 u] 23)
  have KB := Blk.new (w.alloc (.cells #[.string a, .int .i64 t] 23)) #[.string b, .int .i64 u] 23
  rw [World.size_alloc] at KB
  have hbb := lay (lay (Below.refl w.heap.size w) (.cells #[.string a, .int .i64 t] 23)) (.cells #[.string b, .int .i64 u] 23)
  have t1 : True := trivial
  clear h hV hF
  go_enter Try.func4, Try.ntmps4
  go_wp2_with (first
    | (go_at_call 18; go_must (refine (awake_any _).mono ?_); rintro e w0 ⟨rfl, bb⟩; replace KA := KA.below bb; replace KB := KB.below bb; replace hbb := next hbb bb; have a0 : w0.cell? ⟨w.heap.size, 0, none⟩ = some (.string a) := KA.cell 0; have a1 : w0.cell? ⟨w.heap.size, 1, none⟩ = some (.int .i64 t) := KA.cell 1; clear bb)
    | (go_at_call 9; have _t := t1; go_must (refine (Q1 _).mono ?_); rintro e w1 ⟨rfl, bb⟩; replace KB := KB.below bb; replace hbb := next hbb bb; have b0 : w1.cell? ⟨w.heap.size + 1, 0, none⟩ = some (.string b) := KB.cell 0; have b1 : w1.cell? ⟨w.heap.size + 1, 1, none⟩ = some (.int .i64 u) := KB.cell 1; clear bb t1 _t)
    | (go_at_call 9; go_must (refine (Q2 _).mono ?_); rintro e w2 ⟨rfl, bb⟩; replace hbb := next hbb bb; clear bb)
    | (go_at_call 14; refine (num_any _ _).mono ?_; rintro e w' ⟨rfl, hw⟩; obtain rfl := hw.symm))
  go_ret
  exact ⟨ret_bool (by simp), hbb⟩

set_option maxRecDepth 20000 in
set_option maxHeartbeats 4000000 in
theorem w_yes (id : Int) (a : ByteArray) (t : Int) (b : ByteArray) (u : Int) (i : Int) (hi : bits .and .i64 id 65535 = i) (ha : a.size ≤ maxLen) (hb : b.size ≤ maxLen) (w : World) (h : mayQu i a t = true) :
    Calls Try.prog 4 #[.int .i64 id, .agg #[.string a, .int .i64 t], .agg #[.string b, .int .i64 u]] w fun e w' => e = .returned (.bool true) ∧ Below w.heap.size w w' := by
  obtain ⟨k, hk, hz, hE, hg⟩ := que_read h
  have Q1 := fun v => query_any i a t _ 0 v ha rfl hE
  have Q2 := fun v => query_any i b u _ _ v hb rfl rfl
  have h255 : a.size ≤ 255 := by
    unfold mayQu at h
    simp only [Bool.and_eq_true] at h
    have := (name_some h.1.2).1
    rwa [data_len] at this
  obtain ⟨S, hS⟩ : ∃ S, queT i a t = S := ⟨_, rfl⟩
  obtain ⟨V, hV⟩ : ∃ V, queT i b u = V := ⟨_, rfl⟩
  obtain ⟨F, hF⟩ : ∃ F, queE i b u = F := ⟨_, rfl⟩
  have hfin : F = 0 → a.size = b.size → S.size = V.size := fun e1 e2 => by
    cases hb' : mayQu i b u with
    | false => rw [(que_no hb').1] at hF; omega
    | true =>
      rw [← hS, ← hV, hz, (que_yes hb').2.1, e2]
  rw [hV, hF] at Q2
  rw [hS] at Q1 hz hg
  have G1 := fun v => rget_q S i (fdB a) t _ v (small100 (by omega)) hg
  have G2 := fun v => rget_o k v (by omega)
  have KF : ∀ v, Calls Try.prog 20 #[.string a] v fun e w' => e = .returned (.string (fdB a)) ∧ Below v.heap.size v w' := fun v => refFold_any a v ha
  obtain ⟨FA, hFA⟩ : ∃ FA, FA = fdB a := ⟨_, rfl⟩
  obtain ⟨RB, hRB⟩ : ∃ RB, RB = rootB := ⟨_, rfl⟩
  obtain ⟨DD, hDD⟩ : ∃ DD : ByteArray, DD = ⟨(osB (pdO k)).toArray⟩ := ⟨_, rfl⟩
  simp only [← hFA, ← hRB, ← hDD] at G1 G2 KF
  obtain ⟨Zc, hmk, hcz⟩ := madeN k (by omega)
  have zsz := zerosB_size k
  obtain ⟨ZZ, hZZ⟩ : ∃ ZZ, ZZ = zerosB k := ⟨_, rfl⟩
  unfold pdO at G2
  simp only [← hZZ] at G2 hcz zsz
  have hzm : (S.size : Int) % 128 = 0 := by omega
  have hzi : (ZZ.size : Int) = (k : Int) := by omega
  have KA := (Blk.new w #[.string a, .int .i64 t] 23).alloc (.cells #[.string b, .int .i64 u] 23)
  have KB := Blk.new (w.alloc (.cells #[.string a, .int .i64 t] 23)) #[.string b, .int .i64 u] 23
  rw [World.size_alloc] at KB
  have hbb := lay (lay (Below.refl w.heap.size w) (.cells #[.string a, .int .i64 t] 23)) (.cells #[.string b, .int .i64 u] 23)
  have HFIN : Hid (F = 0 → a.size = b.size → S.size = V.size) := hfin
  have HI : Hid (bits .and .i64 id 65535 = i) := hi
  have t1 : True := trivial
  clear h hE hg hS hV hF hfin hFA hRB hDD hZZ hz
  go_enter Try.func4, Try.ntmps4
  go_wp2_with (first
    | (go_at_call 18; go_must (refine (awake_any _).mono ?_); rintro e w0 ⟨rfl, bb⟩; replace KA := KA.below bb; replace KB := KB.below bb; replace hbb := next hbb bb; have a0 : w0.cell? ⟨w.heap.size, 0, none⟩ = some (.string a) := KA.cell 0; have a1 : w0.cell? ⟨w.heap.size, 1, none⟩ = some (.int .i64 t) := KA.cell 1; clear bb)
    | (go_at_call 9; have _t := t1; go_must (refine (Q1 _).mono ?_); rintro e w1 ⟨rfl, bb⟩; clear a0 a1; replace KA := KA.below bb; replace KB := KB.below bb; replace hbb := next hbb bb; have b0 : w1.cell? ⟨w.heap.size + 1, 0, none⟩ = some (.string b) := KB.cell 0; have b1 : w1.cell? ⟨w.heap.size + 1, 1, none⟩ = some (.int .i64 u) := KB.cell 1; clear bb t1 _t)
    | (go_at_call 9; go_must (refine (Q2 _).mono ?_); rintro e w2 ⟨rfl, bb⟩; clear b0 b1; replace KA := KA.below bb; replace KB := KB.below bb; replace hbb := next hbb bb; clear bb)
    | (go_at_call 19; go_must (refine (G1 _).mono ?_); rintro e w3 ⟨gq, kq, gr, kr, k1, k2, y1, y2, rfl, rq, rr, bb⟩; replace KA := KA.below bb; replace KB := KB.below bb; replace hbb := next hbb bb; have RQ : Hid (Row w3 (.slice (some ⟨gq, 0, none⟩) 1 kq) 1 (qC [⟨FA, t, 1⟩])) := rq; have RR : Hid (Row w3 (.slice (some ⟨gr, 0, none⟩) 1 kr) 1 (rC [⟨RB, 41, 1232, 0, DD⟩])) := rr; clear bb rq rr)
    | (go_at_call 14; refine (num_any _ _).mono ?_; rintro e w' ⟨rfl, hw⟩; obtain rfl := hw.symm))
  have KM := Blk.new w3 #[.int .i64 i, .bool false, .int .i64 0, .bool false, .bool false, .bool false, .bool false, .int .i64 0, .int .i64 0, .slice (some ⟨gq, 0, none⟩) 1 kq, .slice y1 0 k1, .slice y2 0 k2, .slice (some ⟨gr, 0, none⟩) 1 kr] 29
  have b3 := lay (Below.refl w3.heap.size w3) (.cells #[.int .i64 i, .bool false, .int .i64 0, .bool false, .bool false, .bool false, .bool false, .int .i64 0, .int .i64 0, .slice (some ⟨gq, 0, none⟩) 1 kq, .slice y1 0 k1, .slice y2 0 k2, .slice (some ⟨gr, 0, none⟩) 1 kr] 29)
  replace KA := KA.below b3
  replace KB := KB.below b3
  replace hbb := next hbb b3
  replace RQ : Hid (Row (w3.alloc (.cells #[.int .i64 i, .bool false, .int .i64 0, .bool false, .bool false, .bool false, .bool false, .int .i64 0, .int .i64 0, .slice (some ⟨gq, 0, none⟩) 1 kq, .slice y1 0 k1, .slice y2 0 k2, .slice (some ⟨gr, 0, none⟩) 1 kr] 29)) (.slice (some ⟨gq, 0, none⟩) 1 kq) 1 (qC [⟨FA, t, 1⟩])) := RQ.out.below b3
  replace RR : Hid (Row (w3.alloc (.cells #[.int .i64 i, .bool false, .int .i64 0, .bool false, .bool false, .bool false, .bool false, .int .i64 0, .int .i64 0, .slice (some ⟨gq, 0, none⟩) 1 kq, .slice y1 0 k1, .slice y2 0 k2, .slice (some ⟨gr, 0, none⟩) 1 kr] 29)) (.slice (some ⟨gr, 0, none⟩) 1 kr) 1 (rC [⟨RB, 41, 1232, 0, DD⟩])) := RR.out.below b3
  clear b3
  revert KM KA KB hbb RQ RR
  generalize w3.alloc (.cells #[.int .i64 i, .bool false, .int .i64 0, .bool false, .bool false, .bool false, .bool false, .int .i64 0, .int .i64 0, .slice (some ⟨gq, 0, none⟩) 1 kq, .slice y1 0 k1, .slice y2 0 k2, .slice (some ⟨gr, 0, none⟩) 1 kr] 29) = wr
  generalize w3.heap.size = gm
  intro KM KA KB hbb RQ RR
  have m0 : ∀ nb : Bel wr, nb.to.cell? ⟨gm, 0, none⟩ = some (.int .i64 i) := fun nb => (KM.below nb.h).cell 0
  have m1 : ∀ nb : Bel wr, nb.to.cell? ⟨gm, 1, none⟩ = some (.bool false) := fun nb => (KM.below nb.h).cell 1
  have m2 : ∀ nb : Bel wr, nb.to.cell? ⟨gm, 2, none⟩ = some (.int .i64 0) := fun nb => (KM.below nb.h).cell 2
  have m3 : ∀ nb : Bel wr, nb.to.cell? ⟨gm, 3, none⟩ = some (.bool false) := fun nb => (KM.below nb.h).cell 3
  have m4 : ∀ nb : Bel wr, nb.to.cell? ⟨gm, 4, none⟩ = some (.bool false) := fun nb => (KM.below nb.h).cell 4
  have m5 : ∀ nb : Bel wr, nb.to.cell? ⟨gm, 5, none⟩ = some (.bool false) := fun nb => (KM.below nb.h).cell 5
  have m6 : ∀ nb : Bel wr, nb.to.cell? ⟨gm, 6, none⟩ = some (.bool false) := fun nb => (KM.below nb.h).cell 6
  have m7 : ∀ nb : Bel wr, nb.to.cell? ⟨gm, 7, none⟩ = some (.int .i64 0) := fun nb => (KM.below nb.h).cell 7
  have m8 : ∀ nb : Bel wr, nb.to.cell? ⟨gm, 8, none⟩ = some (.int .i64 0) := fun nb => (KM.below nb.h).cell 8
  have m9 : ∀ nb : Bel wr, nb.to.cell? ⟨gm, 9, none⟩ = some (.slice (some ⟨gq, 0, none⟩) 1 kq) := fun nb => (KM.below nb.h).cell 9
  have m10 : ∀ nb : Bel wr, nb.to.cell? ⟨gm, 10, none⟩ = some (.slice y1 0 k1) := fun nb => (KM.below nb.h).cell 10
  have m11 : ∀ nb : Bel wr, nb.to.cell? ⟨gm, 11, none⟩ = some (.slice y2 0 k2) := fun nb => (KM.below nb.h).cell 11
  have m12 : ∀ nb : Bel wr, nb.to.cell? ⟨gm, 12, none⟩ = some (.slice (some ⟨gr, 0, none⟩) 1 kr) := fun nb => (KM.below nb.h).cell 12
  have q0 : ∀ nb : Bel wr, nb.to.cell? ⟨gq, 0, none⟩ = some (.string FA) := fun nb => (q_one (RQ.out.below nb.h)).1
  have q1 : ∀ nb : Bel wr, nb.to.cell? ⟨gq, 1, none⟩ = some (.int .i64 t) := fun nb => (q_one (RQ.out.below nb.h)).2.1
  have q2 : ∀ nb : Bel wr, nb.to.cell? ⟨gq, 2, none⟩ = some (.int .i64 1) := fun nb => (q_one (RQ.out.below nb.h)).2.2
  have s0 : ∀ nb : Bel wr, nb.to.cell? ⟨w.heap.size, 0, none⟩ = some (.string a) := fun nb => (KA.below nb.h).cell 0
  have s1 : ∀ nb : Bel wr, nb.to.cell? ⟨w.heap.size, 1, none⟩ = some (.int .i64 t) := fun nb => (KA.below nb.h).cell 1
  have S1 := fun nb : Bel wr => KF nb.to
  refine wp_region_bel (by kernel_rfl) (by kernel_rfl) (fun _ => ?_)
  repeat (go_big_quiet_step ((go_at_call 20; go_must (exact bel_lays (S1 _)))))
  refine wpQuiet_nil ?_
  intro wn hwn
  have hbn := bel_out hwn
  replace KM := KM.below hbn
  replace KA := KA.below hbn
  replace KB := KB.below hbn
  replace hbb := next hbb hbn
  replace RR : Hid (Row wn (.slice (some ⟨gr, 0, none⟩) 1 kr) 1 (rC [⟨RB, 41, 1232, 0, DD⟩])) := RR.out.below hbn
  clear m0 m1 m2 m3 m4 m5 m6 m7 m8 m9 m10 m11 m12 q0 q1 q2 s0 s1 S1 hwn hbn RQ
  have m12 : wn.cell? ⟨gm, 12, none⟩ = some (.slice (some ⟨gr, 0, none⟩) 1 kr) := KM.cell 12
  obtain ⟨r0, r1, r2, r3, r4⟩ := r_one RR.out
  simp only at r0 r1 r2 r3 r4
  go_wp2_with (go_at_call 21; go_must (refine (G2 _).mono ?_); rintro e w5 ⟨go, ko, rfl, ro, bb⟩; replace KA := KA.below bb; replace KB := KB.below bb; replace hbb := next hbb bb; have RO : Hid (Row w5 (.slice (some ⟨go, 0, none⟩) 1 ko) 1 (oC [⟨12, ZZ⟩])) := ro; clear bb ro m12 r0 r1 r2 r3 r4)

  have KV := Blk.new w5 #[.int .i64 1232, .int .i64 0, .int .i64 0, .bool false, .int .i64 0, .slice (some ⟨go, 0, none⟩) 1 ko] 50
  have b5 := lay (Below.refl w5.heap.size w5) (.cells #[.int .i64 1232, .int .i64 0, .int .i64 0, .bool false, .int .i64 0, .slice (some ⟨go, 0, none⟩) 1 ko] 50)
  replace KA := KA.below b5
  replace KB := KB.below b5
  replace hbb := next hbb b5
  replace RO : Hid (Row (w5.alloc (.cells #[.int .i64 1232, .int .i64 0, .int .i64 0, .bool false, .int .i64 0, .slice (some ⟨go, 0, none⟩) 1 ko] 50)) (.slice (some ⟨go, 0, none⟩) 1 ko) 1 (oC [⟨12, ZZ⟩])) := RO.out.below b5
  clear b5 KM RR
  revert KV KA KB hbb RO
  generalize w5.alloc (.cells #[.int .i64 1232, .int .i64 0, .int .i64 0, .bool false, .int .i64 0, .slice (some ⟨go, 0, none⟩) 1 ko] 50) = wv
  generalize w5.heap.size = gv
  intro KV KA KB hbb RO
  refine wp_region_held_drew (S := (fun u => Blk u gv #[.int .i64 1232, .int .i64 0, .int .i64 0, .bool false, .int .i64 0, .slice (some ⟨go, 0, none⟩) 1 ko] 50 ∧ Row u (.slice (some ⟨go, 0, none⟩) 1 ko) 1 (oC [⟨12, ZZ⟩]))) (by kernel_rfl) ⟨KV.drew ⟨1, rfl⟩, RO.out.below (below_drew ⟨1, rfl⟩)⟩ (fun hHeld => ?_)
  refine wpAnyH_take (i := 0) (v := .int .i64 0) rfl (by kernel_rfl) (by kernel_rfl) (by kernel_rfl) (fun _ _ _ h => h) (Or.inl ⟨by rfl, ?_⟩) hHeld ?_
  · intro u hu
    go_simp
  simp only [Act.put, List.getElem_toArray, List.getElem_cons_zero, List.setIfInBounds_toArray, List.set_cons_zero, List.set_cons_succ]
  refine wpAnyH_take (i := 1) (v := .bool false) rfl (by kernel_rfl) (by kernel_rfl) (by kernel_rfl) (fun _ _ _ h => h) (Or.inl ⟨by rfl, ?_⟩) hHeld ?_
  · intro u hu
    go_simp
  simp only [Act.put, List.getElem_toArray, List.getElem_cons_succ, List.getElem_cons_zero, List.setIfInBounds_toArray, List.set_cons_zero, List.set_cons_succ]
  refine wpAnyH_take (i := 2) (v := .bool false) rfl (by kernel_rfl) (by kernel_rfl) (by kernel_rfl) (fun _ _ _ h => h) (Or.inl ⟨by rfl, ?_⟩) hHeld ?_
  · intro u hu
    go_simp
  simp only [Act.put, List.getElem_toArray, List.getElem_cons_succ, List.getElem_cons_zero, List.setIfInBounds_toArray, List.set_cons_zero, List.set_cons_succ]
  refine wpAnyH_take (i := 3) (v := .pointer (some ⟨gv, 5, none⟩)) rfl (by kernel_rfl) (by kernel_rfl) (by kernel_rfl) (fun _ _ _ h => h) (Or.inl ⟨by rfl, ?_⟩) hHeld ?_
  · intro u hu
    go_simp
  simp only [Act.put, List.getElem_toArray, List.getElem_cons_succ, List.getElem_cons_zero, List.setIfInBounds_toArray, List.set_cons_zero, List.set_cons_succ]
  refine wpAnyH_take (i := 4) (v := .slice (some ⟨go, 0, none⟩) 1 ko) rfl (by kernel_rfl) (by kernel_rfl) (by kernel_rfl) (fun _ _ _ h => h) (Or.inl ⟨by rfl, ?_⟩) hHeld ?_
  · intro u hu
    obtain ⟨u0, u1, u2, u3, u4, u5⟩ := Blk.six' hu.1
    go_simp
  simp only [Act.put, List.getElem_toArray, List.getElem_cons_succ, List.getElem_cons_zero, List.setIfInBounds_toArray, List.set_cons_zero, List.set_cons_succ]
  refine wpAnyH_take (i := 5) (v := .int .i64 1) rfl (by kernel_rfl) (by kernel_rfl) (by kernel_rfl) (fun _ _ _ h => h) (Or.inl ⟨by rfl, ?_⟩) hHeld ?_
  · intro u hu
    go_simp
  simp only [Act.put, List.getElem_toArray, List.getElem_cons_succ, List.getElem_cons_zero, List.setIfInBounds_toArray, List.set_cons_zero, List.set_cons_succ]
  refine wpAnyH_take (i := 6) (v := .bool false) rfl (by kernel_rfl) (by kernel_rfl) (by kernel_rfl) (fun _ _ _ h => h) (Or.inl ⟨by rfl, ?_⟩) hHeld ?_
  · intro u hu
    go_simp
  simp only [Act.put, List.getElem_toArray, List.getElem_cons_succ, List.getElem_cons_zero, List.setIfInBounds_toArray, List.set_cons_zero, List.set_cons_succ]
  refine wpAnyH_take (i := 7) (v := .bool false) rfl (by kernel_rfl) (by kernel_rfl) (by kernel_rfl) (fun _ _ _ h => h) (Or.inl ⟨by rfl, ?_⟩) hHeld ?_
  · intro u hu
    go_simp
  simp only [Act.put, List.getElem_toArray, List.getElem_cons_succ, List.getElem_cons_zero, List.setIfInBounds_toArray, List.set_cons_zero, List.set_cons_succ]
  refine wpAnyH_take (i := 8) (v := .bool false) rfl (by kernel_rfl) (by kernel_rfl) (by kernel_rfl) (fun _ _ _ h => h) (Or.inl ⟨by rfl, ?_⟩) hHeld ?_
  · intro u hu
    go_simp
  simp only [Act.put, List.getElem_toArray, List.getElem_cons_succ, List.getElem_cons_zero, List.setIfInBounds_toArray, List.set_cons_zero, List.set_cons_succ]
  refine wpAnyH_take (i := 9) (v := .pointer (some ⟨gv, 5, none⟩)) rfl (by kernel_rfl) (by kernel_rfl) (by kernel_rfl) (fun _ _ _ h => h) (Or.inl ⟨by rfl, ?_⟩) hHeld ?_
  · intro u hu
    go_simp
  simp only [Act.put, List.getElem_toArray, List.getElem_cons_succ, List.getElem_cons_zero, List.setIfInBounds_toArray, List.set_cons_zero, List.set_cons_succ]
  refine wpAnyH_take (i := 10) (v := .slice (some ⟨go, 0, none⟩) 1 ko) rfl (by kernel_rfl) (by kernel_rfl) (by kernel_rfl) (fun _ _ _ h => h) (Or.inl ⟨by rfl, ?_⟩) hHeld ?_
  · intro u hu
    obtain ⟨u0, u1, u2, u3, u4, u5⟩ := Blk.six' hu.1
    go_simp
  simp only [Act.put, List.getElem_toArray, List.getElem_cons_succ, List.getElem_cons_zero, List.setIfInBounds_toArray, List.set_cons_zero, List.set_cons_succ]
  refine wpAnyH_take (i := 11) (v := .pointer (some ⟨go, 0, none⟩)) rfl (by kernel_rfl) (by kernel_rfl) (by kernel_rfl) (fun _ _ _ h => h) (Or.inl ⟨by rfl, ?_⟩) hHeld ?_
  · intro u hu
    go_simp
  simp only [Act.put, List.getElem_toArray, List.getElem_cons_succ, List.getElem_cons_zero, List.setIfInBounds_toArray, List.set_cons_zero, List.set_cons_succ]
  refine wpAnyH_take (i := 12) (v := .pointer (some ⟨go, 0, none⟩)) rfl (by kernel_rfl) (by kernel_rfl) (by kernel_rfl) (fun _ _ _ h => h) (Or.inl ⟨by rfl, ?_⟩) hHeld ?_
  · intro u hu
    go_simp
  simp only [Act.put, List.getElem_toArray, List.getElem_cons_succ, List.getElem_cons_zero, List.setIfInBounds_toArray, List.set_cons_zero, List.set_cons_succ]
  refine wpAnyH_take (i := 13) (v := .int .i64 12) rfl (by kernel_rfl) (by kernel_rfl) (by kernel_rfl) (fun _ _ _ h => h) (Or.inl ⟨by rfl, ?_⟩) hHeld ?_
  · intro u hu
    obtain ⟨o0, o1⟩ := o_one hu.2
    simp only at o0 o1
    go_simp
  simp only [Act.put, List.getElem_toArray, List.getElem_cons_succ, List.getElem_cons_zero, List.setIfInBounds_toArray, List.set_cons_zero, List.set_cons_succ]
  refine wpAnyH_take (i := 14) (v := .bool false) rfl (by kernel_rfl) (by kernel_rfl) (by kernel_rfl) (fun _ _ _ h => h) (Or.inl ⟨by rfl, ?_⟩) hHeld ?_
  · intro u hu
    go_simp
  simp only [Act.put, List.getElem_toArray, List.getElem_cons_succ, List.getElem_cons_zero, List.setIfInBounds_toArray, List.set_cons_zero, List.set_cons_succ]
  refine wpAnyH_take (i := 15) (v := .bool false) rfl (by kernel_rfl) (by kernel_rfl) (by kernel_rfl) (fun _ _ _ h => h) (Or.inl ⟨by rfl, ?_⟩) hHeld ?_
  · intro u hu
    go_simp
  simp only [Act.put, List.getElem_toArray, List.getElem_cons_succ, List.getElem_cons_zero, List.setIfInBounds_toArray, List.set_cons_zero, List.set_cons_succ]
  refine wpAnyH_take (i := 16) (v := .bool false) rfl (by kernel_rfl) (by kernel_rfl) (by kernel_rfl) (fun _ _ _ h => h) (Or.inl ⟨by rfl, ?_⟩) hHeld ?_
  · intro u hu
    go_simp
  simp only [Act.put, List.getElem_toArray, List.getElem_cons_succ, List.getElem_cons_zero, List.setIfInBounds_toArray, List.set_cons_zero, List.set_cons_succ]
  refine wpAnyH_take (i := 17) (v := .pointer (some ⟨gv, 5, none⟩)) rfl (by kernel_rfl) (by kernel_rfl) (by kernel_rfl) (fun _ _ _ h => h) (Or.inl ⟨by rfl, ?_⟩) hHeld ?_
  · intro u hu
    go_simp
  simp only [Act.put, List.getElem_toArray, List.getElem_cons_succ, List.getElem_cons_zero, List.setIfInBounds_toArray, List.set_cons_zero, List.set_cons_succ]
  refine wpAnyH_take (i := 18) (v := .slice (some ⟨go, 0, none⟩) 1 ko) rfl (by kernel_rfl) (by kernel_rfl) (by kernel_rfl) (fun _ _ _ h => h) (Or.inl ⟨by rfl, ?_⟩) hHeld ?_
  · intro u hu
    obtain ⟨u0, u1, u2, u3, u4, u5⟩ := Blk.six' hu.1
    go_simp
  simp only [Act.put, List.getElem_toArray, List.getElem_cons_succ, List.getElem_cons_zero, List.setIfInBounds_toArray, List.set_cons_zero, List.set_cons_succ]
  refine wpAnyH_take (i := 19) (v := .pointer (some ⟨go, 0, none⟩)) rfl (by kernel_rfl) (by kernel_rfl) (by kernel_rfl) (fun _ _ _ h => h) (Or.inl ⟨by rfl, ?_⟩) hHeld ?_
  · intro u hu
    go_simp
  simp only [Act.put, List.getElem_toArray, List.getElem_cons_succ, List.getElem_cons_zero, List.setIfInBounds_toArray, List.set_cons_zero, List.set_cons_succ]
  refine wpAnyH_take (i := 20) (v := .pointer (some ⟨go, 1, none⟩)) rfl (by kernel_rfl) (by kernel_rfl) (by kernel_rfl) (fun _ _ _ h => h) (Or.inl ⟨by rfl, ?_⟩) hHeld ?_
  · intro u hu
    go_simp
  simp only [Act.put, List.getElem_toArray, List.getElem_cons_succ, List.getElem_cons_zero, List.setIfInBounds_toArray, List.set_cons_zero, List.set_cons_succ]
  refine wpAnyH_take (i := 21) (v := .string ZZ) rfl (by kernel_rfl) (by kernel_rfl) (by kernel_rfl) (fun _ _ _ h => h) (Or.inl ⟨by rfl, ?_⟩) hHeld ?_
  · intro u hu
    obtain ⟨o0, o1⟩ := o_one hu.2
    simp only at o0 o1
    go_simp
  simp only [Act.put, List.getElem_toArray, List.getElem_cons_succ, List.getElem_cons_zero, List.setIfInBounds_toArray, List.set_cons_zero, List.set_cons_succ]
  refine wpAnyH_take (i := 22) (v := .pointer (some ⟨gv, 5, none⟩)) rfl (by kernel_rfl) (by kernel_rfl) (by kernel_rfl) (fun _ _ _ h => h) (Or.inl ⟨by rfl, ?_⟩) hHeld ?_
  · intro u hu
    go_simp
  simp only [Act.put, List.getElem_toArray, List.getElem_cons_succ, List.getElem_cons_zero, List.setIfInBounds_toArray, List.set_cons_zero, List.set_cons_succ]
  refine wpAnyH_take (i := 23) (v := .slice (some ⟨go, 0, none⟩) 1 ko) rfl (by kernel_rfl) (by kernel_rfl) (by kernel_rfl) (fun _ _ _ h => h) (Or.inl ⟨by rfl, ?_⟩) hHeld ?_
  · intro u hu
    obtain ⟨u0, u1, u2, u3, u4, u5⟩ := Blk.six' hu.1
    go_simp
  simp only [Act.put, List.getElem_toArray, List.getElem_cons_succ, List.getElem_cons_zero, List.setIfInBounds_toArray, List.set_cons_zero, List.set_cons_succ]
  refine wpAnyH_take (i := 24) (v := .pointer (some ⟨go, 0, none⟩)) rfl (by kernel_rfl) (by kernel_rfl) (by kernel_rfl) (fun _ _ _ h => h) (Or.inl ⟨by rfl, ?_⟩) hHeld ?_
  · intro u hu
    go_simp
  simp only [Act.put, List.getElem_toArray, List.getElem_cons_succ, List.getElem_cons_zero, List.setIfInBounds_toArray, List.set_cons_zero, List.set_cons_succ]
  refine wpAnyH_take (i := 25) (v := .pointer (some ⟨go, 1, none⟩)) rfl (by kernel_rfl) (by kernel_rfl) (by kernel_rfl) (fun _ _ _ h => h) (Or.inl ⟨by rfl, ?_⟩) hHeld ?_
  · intro u hu
    go_simp
  simp only [Act.put, List.getElem_toArray, List.getElem_cons_succ, List.getElem_cons_zero, List.setIfInBounds_toArray, List.set_cons_zero, List.set_cons_succ]
  refine wpAnyH_take (i := 26) (v := .string ZZ) rfl (by kernel_rfl) (by kernel_rfl) (by kernel_rfl) (fun _ _ _ h => h) (Or.inl ⟨by rfl, ?_⟩) hHeld ?_
  · intro u hu
    obtain ⟨o0, o1⟩ := o_one hu.2
    simp only at o0 o1
    go_simp
  simp only [Act.put, List.getElem_toArray, List.getElem_cons_succ, List.getElem_cons_zero, List.setIfInBounds_toArray, List.set_cons_zero, List.set_cons_succ]
  refine wpAnyH_take (i := 27) (v := .int .i64 (k : Int)) rfl (by kernel_rfl) (by kernel_rfl) (by kernel_rfl) (fun _ _ _ h => h) (Or.inl ⟨by rfl, ?_⟩) hHeld ?_
  · intro u hu
    go_simp
  simp only [Act.put, List.getElem_toArray, List.getElem_cons_succ, List.getElem_cons_zero, List.setIfInBounds_toArray, List.set_cons_zero, List.set_cons_succ]
  refine wpAnyH_ready (rs := [28]) (by kernel_rfl) (by simp) ?_
  refine AllReadyH.cons rfl (fun K hK => ?_) AllReadyH.nil
  go_simp
  refine hK.out _ _ ⟨(KV.drew ⟨1, rfl⟩).alloc _, RO.out.below (lay (below_drew ⟨1, rfl⟩) _)⟩ (fun hHeld => ?_)
  clear hK K
  refine wpAnyH_ready (rs := [29]) (by kernel_rfl) (by simp) ?_
  refine AllReadyH.cons rfl (fun K hK => ?_) AllReadyH.nil
  have hcz' : (convert 57 9 (.slice (some ⟨wv.heap.size, 0, none⟩) k k)).run Try.prog (wv.alloc (.cells Zc 5)).drew = .ok (.string ZZ) (wv.alloc (.cells Zc 5)).drew := hcz wv.drew
  go_simp
  refine hK.out _ _ ⟨(KV.drew ⟨1, rfl⟩).alloc _, RO.out.below (lay (below_drew ⟨1, rfl⟩) _)⟩ (fun hHeld => ?_)
  clear hK K
  refine wpAnyH_take (i := 30) (v := .bool false) rfl (by kernel_rfl) (by kernel_rfl) (by kernel_rfl) (fun _ _ _ h => h) (Or.inl ⟨by rfl, ?_⟩) hHeld ?_
  · intro u hu
    go_simp
  simp only [Act.put, List.getElem_toArray, List.getElem_cons_succ, List.getElem_cons_zero, List.setIfInBounds_toArray, List.set_cons_zero, List.set_cons_succ]
  refine wpAnyH_take (i := 31) (v := .bool false) rfl (by kernel_rfl) (by kernel_rfl) (by kernel_rfl) (fun _ _ _ h => h) (Or.inl ⟨by rfl, ?_⟩) hHeld ?_
  · intro u hu
    go_simp
  simp only [Act.put, List.getElem_toArray, List.getElem_cons_succ, List.getElem_cons_zero, List.setIfInBounds_toArray, List.set_cons_zero, List.set_cons_succ]
  refine wpAnyH_take (i := 32) (v := .bool false) rfl (by kernel_rfl) (by kernel_rfl) (by kernel_rfl) (fun _ _ _ h => h) (Or.inl ⟨by rfl, ?_⟩) hHeld ?_
  · intro u hu
    go_simp
  simp only [Act.put, List.getElem_toArray, List.getElem_cons_succ, List.getElem_cons_zero, List.setIfInBounds_toArray, List.set_cons_zero, List.set_cons_succ]
  refine wpAnyH_take (i := 33) (v := .pointer (some ⟨gv, 0, none⟩)) rfl (by kernel_rfl) (by kernel_rfl) (by kernel_rfl) (fun _ _ _ h => h) (Or.inl ⟨by rfl, ?_⟩) hHeld ?_
  · intro u hu
    go_simp
  simp only [Act.put, List.getElem_toArray, List.getElem_cons_succ, List.getElem_cons_zero, List.setIfInBounds_toArray, List.set_cons_zero, List.set_cons_succ]
  refine wpAnyH_take (i := 34) (v := .int .i64 1232) rfl (by kernel_rfl) (by kernel_rfl) (by kernel_rfl) (fun _ _ _ h => h) (Or.inl ⟨by rfl, ?_⟩) hHeld ?_
  · intro u hu
    obtain ⟨u0, u1, u2, u3, u4, u5⟩ := Blk.six' hu.1
    go_simp
  simp only [Act.put, List.getElem_toArray, List.getElem_cons_succ, List.getElem_cons_zero, List.setIfInBounds_toArray, List.set_cons_zero, List.set_cons_succ]
  refine wpAnyH_take (i := 35) (v := .bool false) rfl (by kernel_rfl) (by kernel_rfl) (by kernel_rfl) (fun _ _ _ h => h) (Or.inl ⟨by rfl, ?_⟩) hHeld ?_
  · intro u hu
    go_simp
  simp only [Act.put, List.getElem_toArray, List.getElem_cons_succ, List.getElem_cons_zero, List.setIfInBounds_toArray, List.set_cons_zero, List.set_cons_succ]
  refine wpAnyH_take (i := 36) (v := .bool false) rfl (by kernel_rfl) (by kernel_rfl) (by kernel_rfl) (fun _ _ _ h => h) (Or.inl ⟨by rfl, ?_⟩) hHeld ?_
  · intro u hu
    go_simp
  simp only [Act.put, List.getElem_toArray, List.getElem_cons_succ, List.getElem_cons_zero, List.setIfInBounds_toArray, List.set_cons_zero, List.set_cons_succ]
  refine wpAnyH_take (i := 37) (v := .bool false) rfl (by kernel_rfl) (by kernel_rfl) (by kernel_rfl) (fun _ _ _ h => h) (Or.inl ⟨by rfl, ?_⟩) hHeld ?_
  · intro u hu
    go_simp
  simp only [Act.put, List.getElem_toArray, List.getElem_cons_succ, List.getElem_cons_zero, List.setIfInBounds_toArray, List.set_cons_zero, List.set_cons_succ]
  refine wpAnyH_take (i := 38) (v := .pointer (some ⟨gv, 3, none⟩)) rfl (by kernel_rfl) (by kernel_rfl) (by kernel_rfl) (fun _ _ _ h => h) (Or.inl ⟨by rfl, ?_⟩) hHeld ?_
  · intro u hu
    go_simp
  simp only [Act.put, List.getElem_toArray, List.getElem_cons_succ, List.getElem_cons_zero, List.setIfInBounds_toArray, List.set_cons_zero, List.set_cons_succ]
  refine wpAnyH_take (i := 39) (v := .bool false) rfl (by kernel_rfl) (by kernel_rfl) (by kernel_rfl) (fun _ _ _ h => h) (Or.inl ⟨by rfl, ?_⟩) hHeld ?_
  · intro u hu
    obtain ⟨u0, u1, u2, u3, u4, u5⟩ := Blk.six' hu.1
    go_simp
  simp only [Act.put, List.getElem_toArray, List.getElem_cons_succ, List.getElem_cons_zero, List.setIfInBounds_toArray, List.set_cons_zero, List.set_cons_succ]
  refine wpAnyH_take (i := 40) (v := .bool false) rfl (by kernel_rfl) (by kernel_rfl) (by kernel_rfl) (fun _ _ _ h => h) (Or.inl ⟨by rfl, ?_⟩) hHeld ?_
  · intro u hu
    go_simp
  simp only [Act.put, List.getElem_toArray, List.getElem_cons_succ, List.getElem_cons_zero, List.setIfInBounds_toArray, List.set_cons_zero, List.set_cons_succ]
  refine wpAnyH_take (i := 41) (v := .bool false) rfl (by kernel_rfl) (by kernel_rfl) (by kernel_rfl) (fun _ _ _ h => h) (Or.inl ⟨by rfl, ?_⟩) hHeld ?_
  · intro u hu
    go_simp
  simp only [Act.put, List.getElem_toArray, List.getElem_cons_succ, List.getElem_cons_zero, List.setIfInBounds_toArray, List.set_cons_zero, List.set_cons_succ]
  refine wpAnyH_take (i := 42) (v := .pointer (some ⟨gv, 1, none⟩)) rfl (by kernel_rfl) (by kernel_rfl) (by kernel_rfl) (fun _ _ _ h => h) (Or.inl ⟨by rfl, ?_⟩) hHeld ?_
  · intro u hu
    go_simp
  simp only [Act.put, List.getElem_toArray, List.getElem_cons_succ, List.getElem_cons_zero, List.setIfInBounds_toArray, List.set_cons_zero, List.set_cons_succ]
  refine wpAnyH_take (i := 43) (v := .int .i64 0) rfl (by kernel_rfl) (by kernel_rfl) (by kernel_rfl) (fun _ _ _ h => h) (Or.inl ⟨by rfl, ?_⟩) hHeld ?_
  · intro u hu
    obtain ⟨u0, u1, u2, u3, u4, u5⟩ := Blk.six' hu.1
    go_simp
  simp only [Act.put, List.getElem_toArray, List.getElem_cons_succ, List.getElem_cons_zero, List.setIfInBounds_toArray, List.set_cons_zero, List.set_cons_succ]
  refine wpAnyH_take (i := 44) (v := .bool false) rfl (by kernel_rfl) (by kernel_rfl) (by kernel_rfl) (fun _ _ _ h => h) (Or.inl ⟨by rfl, ?_⟩) hHeld ?_
  · intro u hu
    go_simp
  simp only [Act.put, List.getElem_toArray, List.getElem_cons_succ, List.getElem_cons_zero, List.setIfInBounds_toArray, List.set_cons_zero, List.set_cons_succ]
  refine wpAnyH_take (i := 45) (v := .bool false) rfl (by kernel_rfl) (by kernel_rfl) (by kernel_rfl) (fun _ _ _ h => h) (Or.inl ⟨by rfl, ?_⟩) hHeld ?_
  · intro u hu
    go_simp
  simp only [Act.put, List.getElem_toArray, List.getElem_cons_succ, List.getElem_cons_zero, List.setIfInBounds_toArray, List.set_cons_zero, List.set_cons_succ]
  refine wpAnyH_take (i := 46) (v := .bool false) rfl (by kernel_rfl) (by kernel_rfl) (by kernel_rfl) (fun _ _ _ h => h) (Or.inl ⟨by rfl, ?_⟩) hHeld ?_
  · intro u hu
    go_simp
  simp only [Act.put, List.getElem_toArray, List.getElem_cons_succ, List.getElem_cons_zero, List.setIfInBounds_toArray, List.set_cons_zero, List.set_cons_succ]
  refine wpAnyH_take (i := 47) (v := .pointer (some ⟨gv, 2, none⟩)) rfl (by kernel_rfl) (by kernel_rfl) (by kernel_rfl) (fun _ _ _ h => h) (Or.inl ⟨by rfl, ?_⟩) hHeld ?_
  · intro u hu
    go_simp
  simp only [Act.put, List.getElem_toArray, List.getElem_cons_succ, List.getElem_cons_zero, List.setIfInBounds_toArray, List.set_cons_zero, List.set_cons_succ]
  refine wpAnyH_take (i := 48) (v := .int .i64 0) rfl (by kernel_rfl) (by kernel_rfl) (by kernel_rfl) (fun _ _ _ h => h) (Or.inl ⟨by rfl, ?_⟩) hHeld ?_
  · intro u hu
    obtain ⟨u0, u1, u2, u3, u4, u5⟩ := Blk.six' hu.1
    go_simp
  simp only [Act.put, List.getElem_toArray, List.getElem_cons_succ, List.getElem_cons_zero, List.setIfInBounds_toArray, List.set_cons_zero, List.set_cons_succ]
  refine wpAnyH_take (i := 49) (v := .bool false) rfl (by kernel_rfl) (by kernel_rfl) (by kernel_rfl) (fun _ _ _ h => h) (Or.inl ⟨by rfl, ?_⟩) hHeld ?_
  · intro u hu
    go_simp
  simp only [Act.put, List.getElem_toArray, List.getElem_cons_succ, List.getElem_cons_zero, List.setIfInBounds_toArray, List.set_cons_zero, List.set_cons_succ]
  refine wpAnyH_take (i := 50) (v := .bool false) rfl (by kernel_rfl) (by kernel_rfl) (by kernel_rfl) (fun _ _ _ h => h) (Or.inl ⟨by rfl, ?_⟩) hHeld ?_
  · intro u hu
    go_simp
  simp only [Act.put, List.getElem_toArray, List.getElem_cons_succ, List.getElem_cons_zero, List.setIfInBounds_toArray, List.set_cons_zero, List.set_cons_succ]
  refine wpAnyH_take (i := 51) (v := .bool false) rfl (by kernel_rfl) (by kernel_rfl) (by kernel_rfl) (fun _ _ _ h => h) (Or.inl ⟨by rfl, ?_⟩) hHeld ?_
  · intro u hu
    go_simp
  simp only [Act.put, List.getElem_toArray, List.getElem_cons_succ, List.getElem_cons_zero, List.setIfInBounds_toArray, List.set_cons_zero, List.set_cons_succ]
  refine wpAnyH_take (i := 52) (v := .pointer (some ⟨gv, 4, none⟩)) rfl (by kernel_rfl) (by kernel_rfl) (by kernel_rfl) (fun _ _ _ h => h) (Or.inl ⟨by rfl, ?_⟩) hHeld ?_
  · intro u hu
    go_simp
  simp only [Act.put, List.getElem_toArray, List.getElem_cons_succ, List.getElem_cons_zero, List.setIfInBounds_toArray, List.set_cons_zero, List.set_cons_succ]
  refine wpAnyH_take (i := 53) (v := .int .i64 0) rfl (by kernel_rfl) (by kernel_rfl) (by kernel_rfl) (fun _ _ _ h => h) (Or.inl ⟨by rfl, ?_⟩) hHeld ?_
  · intro u hu
    obtain ⟨u0, u1, u2, u3, u4, u5⟩ := Blk.six' hu.1
    go_simp
  simp only [Act.put, List.getElem_toArray, List.getElem_cons_succ, List.getElem_cons_zero, List.setIfInBounds_toArray, List.set_cons_zero, List.set_cons_succ]
  refine wpAnyH_take (i := 54) (v := .bool false) rfl (by kernel_rfl) (by kernel_rfl) (by kernel_rfl) (fun _ _ _ h => h) (Or.inl ⟨by rfl, ?_⟩) hHeld ?_
  · intro u hu
    go_simp
  simp only [Act.put, List.getElem_toArray, List.getElem_cons_succ, List.getElem_cons_zero, List.setIfInBounds_toArray, List.set_cons_zero, List.set_cons_succ]
  refine wpAnyH_take (i := 55) (v := .bool false) rfl (by kernel_rfl) (by kernel_rfl) (by kernel_rfl) (fun _ _ _ h => h) (Or.inl ⟨by rfl, ?_⟩) hHeld ?_
  · intro u hu
    go_simp
  simp only [Act.put, List.getElem_toArray, List.getElem_cons_succ, List.getElem_cons_zero, List.setIfInBounds_toArray, List.set_cons_zero, List.set_cons_succ]
  refine wpAnyH_done (by kernel_rfl) ?_ _
  clear hHeld
  have b6 : Below wv.heap.size wv (wv.alloc (.cells Zc 5)).drew := lay (below_drew (w := wv) ⟨1, rfl⟩) (.cells Zc 5)
  replace KA := KA.below b6
  replace KB := KB.below b6
  replace hbb := next hbb b6
  clear b6 hcz' KV RO
  revert KA KB hbb
  generalize (wv.alloc (.cells Zc 5)).drew = wz
  intro KA KB hbb
  have a0 : wz.cell? ⟨w.heap.size, 0, none⟩ = some (.string a) := KA.cell 0
  have b0 : wz.cell? ⟨w.heap.size + 1, 0, none⟩ = some (.string b) := KB.cell 0
  by_cases f0 : F = 0
  · by_cases f1 : a.size = b.size
    · have f2 := HFIN.out f0 f1
      have f3 : (S.size : Int) = (V.size : Int) := by omega
      have f4 : (a.size : Int) = (b.size : Int) := by omega
      subst f0
      clear f1 f2
      go_wp2_with (first | (go_at_call 14; refine (num_any _ _).mono ?_; rintro e w' ⟨rfl, hw⟩; obtain rfl := hw.symm))
      go_ret
      exact ⟨ret_bool (by simp), hbb⟩
    · have f4 : ¬ (a.size : Int) = (b.size : Int) := by omega
      subst f0
      clear f1
      go_wp2_with (first | (go_at_call 14; refine (num_any _ _).mono ?_; rintro e w' ⟨rfl, hw⟩; obtain rfl := hw.symm))
      go_ret
      exact ⟨ret_bool (by simp), hbb⟩
  · go_wp2_with (first | (go_at_call 14; refine (num_any _ _).mono ?_; rintro e w' ⟨rfl, hw⟩; obtain rfl := hw.symm))
    go_ret
    exact ⟨ret_bool (by simp), hbb⟩

theorem walk (id : Int) (a : ByteArray) (t : Int) (b : ByteArray) (u : Int) (_ : (Lit.int .i64 id).wf = true) (ha : a.size ≤ maxLen) (hb : b.size ≤ maxLen) (w : World) :
    Calls Try.prog 4 #[.int .i64 id, .agg #[.string a, .int .i64 t], .agg #[.string b, .int .i64 u]] w fun e w' => e = .returned (.bool true) ∧ Below w.heap.size w w' := by
  cases h : mayQu (id % 65536) a t with
  | false => exact w_no id a t b u _ (mask16 id) ha hb w h
  | true => exact w_yes id a t b u _ (mask16 id) ha hb w h

theorem own : ownKnob Try.prog.godebug = none := by kernel_rfl
theorem laidOut : laidOutB Try.prog = true := by kernel_rfl

set_option maxRecDepth 100000 in
theorem lifted (os : Os) (started : os.Started) (H : Type) (enc : TypeId × Value → H) :
    ReturnsInHanded {} Try.checked os 4 .any (Rows.padQueriesSpec.pre6 enc Try.prog Try.f4 Rows.padQueriesRow.domain false) (Rows.padQueriesSpec.post enc Try.prog Try.f4 false true false false) := by
  refine returnsInHanded_of_change (C := Try.checked) own started (by kernel_rfl) Try.func4
    (ChangeSpec.witness6 (enc := enc) (C := Try.checked) false ⟨#[], #[.int .i64 0, .agg #[.string ByteArray.empty, .int .i64 0], .agg #[.string ByteArray.empty, .int .i64 0]], []⟩ 8 (by kernel_rfl) (by kernel_rfl) (by kernel_rfl) (by kernel_rfl)) ?_
  intro W base args ds gs before hval0 hW _ _
  have hval : ∀ (j : Nat) t v, Try.f4.params[j]? = some t → args[j]? = some v → Value.okWide Try.prog W .any base t v := hval0
  have hW' := hW
  obtain ⟨p, q, hA0, hV, rfl, hfz, hnd⟩ := hW
  have hA : DataW.TrodAll enc Try.prog W 0 (fun _ => true) true Try.f4.params.toList args.toList ds p := hA0
  rw [Try.params4] at hA hval
  obtain ⟨v0, vs0, d0, ds0, p0, q0, hargs, rfl, rfl, h0, r0⟩ := trodAll_cons hA
  obtain ⟨v1, vs1, d1, ds1, p1, q1, rfl, rfl, rfl, h1, r1⟩ := trodAll_cons r0
  obtain ⟨v2, vs2, d2, ds2, p2, q2, rfl, rfl, rfl, h2, r2⟩ := trodAll_cons r1
  obtain ⟨rfl, rfl, rfl⟩ := trodAll_nil r2
  obtain rfl : args = #[v0, v1, v2] := by cases args; simp_all
  obtain ⟨rfl, rfl⟩ := trodVars_none hV
  obtain ⟨a0, rfl, rfl, rfl, w0⟩ := open_int Try.underlying3 (hval 0 3 v0 rfl rfl) h0
  obtain ⟨a1n, a1t, rfl, rfl, w1, y1⟩ := open_step (hval 1 23 v1 rfl rfl) h1
  obtain ⟨a2n, a2t, rfl, rfl, w2, y2⟩ := open_step (hval 2 23 v2 rfl rfl) h2
  clear hA0 hval0
  simp only [List.append_nil] at hW'
  refine (walk a0 a1n a1t a2n a2t w0 w1 w2 W ).mono fun e W' ⟨he, bel⟩ => ?_
  subst he
  exact ⟨_, rfl, _, _, _, [], [], [], hW', trodAll_mk1 (shut_bool Try.underlying4 _), (trodAll_cons_mk (shut_int Try.underlying3 w0) (trodAll_cons_mk (Below.trod laidOut (by kernel_rfl) (of_decide_eq_true (by kernel_rfl)) h1 bel (by simp)) (trodAll_cons_mk (Below.trod laidOut (by kernel_rfl) (of_decide_eq_true (by kernel_rfl)) h2 bel (by simp)) trodAll_mk0))), rfl, bel.frame _, fun h => by cases h⟩

/-- The statement. -/
theorem proved : Rows.PadQueriesSaid :=
  OpenClaim.holds_of_wide 4 Try.f4 rfl rfl rfl rfl rfl rfl rfl ⟨rfl, rfl, rfl, rfl, rfl⟩ rfl rfl rfl rfl rfl (by kernel_rfl) Try.func4 (by kernel_rfl)
    (of_decide_eq_true (by kernel_rfl)) (by unfold Func.isWrapper; first | (rw [if_pos (by decide +kernel)]; kernel_rfl) | (rw [if_neg (by decide +kernel)]; exact ⟨rfl, rfl⟩))
    (fun os started H enc _ => lifted os started H enc)
#print axioms proved

end Go.Proofs.Ytcapankhobnfeaa.padQueries
