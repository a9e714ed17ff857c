/- What the document's PutMsg gives. -/
import Derived.Test.YtbffnicfibfceaaXP14
import Derived.Test.YtbffnicfibfceaaXP7
namespace Go.Proofs.Ytbffnicfibfceaa
open Go.RowKit
open Pl

/-- What is written once k parts of records are. -/
def ptO (o : Option St) (an ns ar : List Rc) : Nat → Option St
  | 0 => o
  | 1 => stAll stC o an
  | 2 => stAll stC (stAll stC o an) ns
  | _ => stAll stC (stAll stC (stAll stC o an) ns) ar
theorem ptO_next (o : Option St) (an ns ar : List Rc) {k : Nat} (hk : k < 3) : ptO o an ns ar (k + 1) = stAll stC (ptO o an ns ar k) (ptL an ns ar k) := by
  match k, hk with
  | 0, _ => rfl
  | 1, _ => rfl
  | 2, _ => rfl
theorem ptO_none {o : Option St} {an ns ar : List Rc} {k : Nat} (hk : k ≤ 3) (h : ptO o an ns ar k = none) : ptO o an ns ar 3 = none := by
  have step : ∀ j, j < 3 → ptO o an ns ar j = none → ptO o an ns ar (j + 1) = none := fun j hj hn => by rw [ptO_next o an ns ar hj, hn, stAll_none]
  match k, hk, h with
  | 0, _, h => exact step 2 (by decide) (step 1 (by decide) (step 0 (by decide) h))
  | 1, _, h => exact step 2 (by decide) (step 1 (by decide) h)
  | 2, _, h => exact step 2 (by decide) h
  | 3, _, h => exact h
theorem stTake_none {α : Type} {f : St → α → Option St} {o : Option St} {xs : List α} {j : Nat} (h : stAll f o (xs.take j) = none) : stAll f o xs = none := by
  rw [← List.take_append_drop j xs, stAll_app, h, stAll_none]
theorem ptO_fail {o : Option St} {an ns ar : List Rc} {k j : Nat} (hk : k < 3) (h : stAll stC (ptO o an ns ar k) ((ptL an ns ar k).take j) = none) : ptO o an ns ar 3 = none :=
  ptO_none (k := k + 1) hk (by rw [ptO_next o an ns ar hk]; exact stTake_none h)
theorem may_parts {m : Ms} (h : mayM m = true) : mayHd m.h = true ∧ (∀ q ∈ m.qs, mayQ q = true) ∧ ∀ k, ∀ r ∈ ptL m.an m.ns m.ar k, mayR r = true := by
  unfold mayM at h
  simp only [Bool.and_eq_true] at h
  obtain ⟨hh, ⟨⟨h0, h1⟩, h2⟩, h3⟩ := h
  refine ⟨hh, fun q hq => List.all_eq_true.1 (few_iff h0).2 q hq, fun k r hr => ?_⟩
  match k, hr with
  | 0, hr => exact List.all_eq_true.1 (few_iff h1).2 r hr
  | 1, hr => exact List.all_eq_true.1 (few_iff h2).2 r hr
  | k + 2, hr => exact List.all_eq_true.1 (few_iff h3).2 r hr
theorem mayR_data {r : Rc} (h : mayR r = true) : r.d.size ≤ 65535 := by
  unfold mayR at h
  simp only [Bool.and_eq_true] at h
  have := (may_top h.2).2.2
  rw [data_len] at this
  exact this

/-- What PutMsg holds in its loops. -/
def PM (w wr : World) (C : Array Value) (h : Nat) (B : List UInt8) (ms : Marks) : Prop := RO w wr h B ms ∧ Blk wr w.heap.size C 27
theorem PM.below {w wr wr' : World} {C : Array Value} {h : Nat} {B : List UInt8} {ms : Marks} (a : PM w wr C h B ms) (hb : Below wr.heap.size wr wr') : PM w wr' C h B ms := ⟨a.1.below hb, a.2.below hb⟩
theorem PM.step {w wr wr' : World} {C : Array Value} {h : Nat} {B B' : List UInt8} {ms ms' : Marks} (a : PM w wr C h B ms) (hb : Bew wr wr') (ho : RO w wr' h B' ms') : PM w wr' C h B' ms' := ⟨ho, hb.blk a.2 (by decide) (by decide)⟩
def PP (w wr : World) (gp : Nat) (v1 v2 v3 : Value) (h : Nat) (B : List UInt8) (ms : Marks) : Prop := RO w wr h B ms ∧ Blk wr gp #[v1, v2, v3] 25

set_option maxRecDepth 20000 in
set_option maxHeartbeats 4000000 in
theorem rput_w (m : Ms) (v0 v1 v2 v3 : Value) (w : World) (h0 : QRow w v0 m.qs) (h1 : RRow w v1 m.an) (h2 : RRow w v2 m.ns) (h3 : RRow w v3 m.ar) :
    Calls Try.prog 7 #[.agg (msgC m.h v0 v1 v2 v3)] w fun e w' => e = .returned (putV m) ∧ Below w.heap.size w w' := by
  have hmay := fun u (hu : Below w.heap.size w u) => msgMay_any m v0 v1 v2 v3 u (h0.below hu) (h1.below hu) (h2.below hu) (h3.below hu)
  obtain ⟨x0, c0, rfl⟩ := row_slice h0.1
  obtain ⟨x1, c1, rfl⟩ := row_slice h1.1
  obtain ⟨x2, c2, rfl⟩ := row_slice h2.1
  obtain ⟨x3, c3, rfl⟩ := row_slice h3.1
  obtain ⟨P, hP⟩ : ∃ P, P = putV m := ⟨_, rfl⟩
  rw [← hP]
  have HP : Hid (P = putV m) := hP
  have hb : Below w.heap.size w w := Below.refl _ _
  have H0 : Hid (QRow w (.slice x0 m.qs.length c0) m.qs) := h0
  have HV : Hid (∀ k, RRow w (ptV (.slice x1 m.an.length c1) (.slice x2 m.ns.length c2) (.slice x3 m.ar.length c3) k) (ptL m.an m.ns m.ar k)) := fun k => pt_row h1 h2 h3 k
  have q0 := h0.2.1
  have q1 := h1.2.1
  have q2 := h2.2.1
  have q3 := h3.2.1
  unfold maxLen at q0 q1 q2 q3
  clear hP h0 h1 h2 h3
  have KB := Blk.new w (msgC m.h (.slice x0 m.qs.length c0) (.slice x1 m.an.length c1) (.slice x2 m.ns.length c2) (.slice x3 m.ar.length c3)) 27
  cases hm : mayM m with
  | false =>
    rw [hm] at hmay
    have HE : Hid (P = .tuple #[.string ⟨#[]⟩, .int .i64 700]) := by unfold Hid; rw [HP.out]; exact putV_no hm
    obtain ⟨hd, qs, an, ns, ar⟩ := m
    obtain ⟨id, qr, op, aa, tc, rd, ra, z, rc⟩ := hd
    unfold msgC at KB hmay ⊢
    simp only at KB hmay ⊢
    clear hm
    go_enter Try.func7, Try.ntmps7
    go_wp2_with (go_at_call 14; go_must (refine (hmay _ (lay hb _)).mono ?_); rintro e w1 ⟨rfl, b1⟩; replace hb := next (lay hb _) b1; clear b1)
    go_ret2
    exact ⟨congrArg Ending.returned HE.out.symm, hb⟩
  | true =>
    rw [hm] at hmay
    have HM1 : Hid (mayHd m.h = true ∧ (∀ q ∈ m.qs, mayQ q = true) ∧ ∀ k, ∀ r ∈ ptL m.an m.ns m.ar k, mayR r = true) := may_parts hm
    have hfew := may_few hm
    have hput := fun u => refPut_any m.h.id m.h.qr m.h.op m.h.aa m.h.tc m.h.rd m.h.ra m.h.z m.h.rc (m.qs.length : Int) (m.an.length : Int) (m.ns.length : Int) (m.ar.length : Int) u
    have hb1 := mayH_counts HM1.out.1 (a := (m.qs.length : Int)) (b := (m.an.length : Int)) (c := (m.ns.length : Int)) (d := (m.ar.length : Int)) (by omega) (by omega) (by omega) (by omega)
    obtain ⟨T, hT⟩ : ∃ T, T = headS m := ⟨_, rfl⟩
    have e4 : putS m.h.id (wordH m.h.qr m.h.op m.h.aa m.h.tc m.h.rd m.h.ra m.h.z m.h.rc) (m.qs.length : Int) (m.an.length : Int) (m.ns.length : Int) (m.ar.length : Int) 4 = T := hT.symm
    have hTl : T.data.toList.length = 12 := by rw [hT]; exact headS_len m
    have HTS : Hid (T.size ≤ maxLen) := by unfold Hid maxLen; rw [← data_len, hTl]; decide
    have HTB : Hid (rawB [] T = T.data.toList) := by
      unfold Hid rawB
      rw [if_pos (by rw [← data_len, hTl]; decide)]; rfl
    have HPO : Hid (P = stV (ptO (stAll stQ (some (T.data.toList, [])) m.qs) m.an m.ns m.ar 3)) := by
      unfold Hid
      rw [HP.out, putV_yes hm, hT]; rfl
    unfold putT at hput
    simp only [hb1, e4, if_true] at hput
    clear hb1 e4 hT hTl hm hfew
    obtain ⟨hd, qs, an, ns, ar⟩ := m
    obtain ⟨id, qr, op, aa, tc, rd, ra, z, rc⟩ := hd
    unfold msgC at KB hmay ⊢
    unfold headV cntV at hput
    simp only at hput KB hmay HP H0 HV HM1 HPO q0 q1 q2 q3 ⊢
    go_enter Try.func7, Try.ntmps7
    go_wp2_with (first
      | (go_at_call 14; go_must (refine (hmay _ (lay hb _)).mono ?_); rintro e w1 ⟨rfl, b1⟩; replace hb := next (lay hb _) b1; replace KB := KB.below b1; have HO1 : Hid (RO w (w1.alloc (.cells #[.string ⟨#[]⟩, .slice none 0 0] 46)) w1.heap.size [] []) := ro_new hb; replace KB := KB.alloc (.cells #[.string ⟨#[]⟩, .slice none 0 0] 46); have m0 := KB.cell 0; have m1 := KB.cell 1; have m2 := KB.cell 2; have m3 := KB.cell 3; have m4 := KB.cell 4; have m5 := KB.cell 5; have m6 := KB.cell 6; have m7 := KB.cell 7; have m8 := KB.cell 8; have f9 := KB.cell 9; have f10 := KB.cell 10; have f11 := KB.cell 11; have f12 := KB.cell 12; clear b1)
      | (go_at_call 15; go_must (refine (hput _).mono ?_); rintro e w2 ⟨rfl, b2⟩; replace KB := KB.below b2; have HO2 : Hid (RO w w2 w1.heap.size [] []) := HO1.out.below b2; clear b2 HO1 m0 m1 m2 m3 m4 m5 m6 m7 m8 f9 f10 f11 f12)
      | (go_at_call 16; go_must (refine (rraw_o T HTS.out HO2.out).mono ?_); rintro e w3 ⟨rfl, h3, b3⟩; replace KB := b3.blk KB (by decide) (by decide); have HO3 : Hid (RO w w3 w1.heap.size T.data.toList []) := (by rw [← HTB.out]; exact h3); clear b3 h3 HO2))
    obtain ⟨CC, hCC⟩ : ∃ CC : Array Value, #[.int .i64 id, .bool qr, .int .i64 op, .bool aa, .bool tc, .bool rd, .bool ra, .int .i64 z, .int .i64 rc, .slice x0 qs.length c0, .slice x1 an.length c1, .slice x2 ns.length c2, .slice x3 ar.length c3] = CC := ⟨_, rfl⟩
    obtain ⟨h, hh⟩ : ∃ h, w1.heap.size = h := ⟨_, rfl⟩
    have HI : Hid (PM w w3 CC h T.data.toList []) := by rw [← hh, ← hCC]; exact ⟨HO3.out, KB⟩
    have HCC : Hid (#[.int .i64 id, .bool qr, .int .i64 op, .bool aa, .bool tc, .bool rd, .bool ra, .int .i64 z, .int .i64 rc, .slice x0 qs.length c0, .slice x1 an.length c1, .slice x2 ns.length c2, .slice x3 ar.length c3] = CC) := hCC
    rw [hh]
    clear hh hCC HO3 KB hput hmay HTS HTB hb q1 q2 q3
    go_loopw [7] (fun i wr => ∃ (k : Nat) (B : List UInt8) (ms : Marks), k ≤ qs.length ∧ i = .int .i64 (k : Int) ∧ Hid (stAll stQ (some (T.data.toList, [])) (qs.take k) = some (B, ms)) ∧ Hid (PM w wr CC h B ms)) (fun i _ => qs.length - (intOf i).toNat)
    case atStart => exact ⟨0, _, _, Nat.zero_le _, rfl, by unfold Hid; rfl, HI⟩
    case round =>
      clear HI
      obtain ⟨k, B, ms, hk, rfl, HK, HI⟩ := hrel
      have KB := HI.out.2
      rw [← HCC.out] at KB
      have f9 := KB.cell 9
      have f10 := KB.cell 10
      have f11 := KB.cell 11
      have f12 := KB.cell 12
      clear KB
      by_cases hkn : k < qs.length
      · obtain ⟨g, o, cap, hx, hc⟩ := row_at (H0.out.below HI.out.1.out).1 (by omega)
        simp only [Value.slice.injEq] at hx
        obtain ⟨rfl, -, rfl⟩ := hx
        obtain ⟨d0, d1, d2⟩ := q_cells hc hkn
        have hsz := H0.out.2.2 _ (List.getElem_mem hkn)
        have hst := stAll_snoc stQ (some (T.data.toList, [])) qs k hkn
        rw [HK.out, Option.bind_some] at hst
        obtain ⟨q, hq⟩ : ∃ q, q = qs[k] := ⟨_, rfl⟩
        have HQ : Hid (q = qs[k]) := hq
        simp only [← hq] at d0 d1 d2 hsz hst
        obtain ⟨qn, qt, qc⟩ := q
        simp only at d0 d1 d2 hsz
        have HST : Hid (stAll stQ (some (T.data.toList, [])) (qs.take (k + 1)) = stQ (B, ms) ⟨qn, qt, qc⟩) := hst
        have HFAIL : Hid (stQ (B, ms) ⟨qn, qt, qc⟩ = none → P = .tuple #[.string ⟨#[]⟩, .int .i64 701]) := fun e => by
          rw [HPO.out, ptO_none (o := stAll stQ (some (T.data.toList, [])) qs) (an := an) (ns := ns) (ar := ar) (k := 0) (by omega) (stTake_none (f := stQ) (xs := qs) (j := k + 1) (by rw [HST.out]; exact e))]; rfl
        clear hc hq hst f10 f11 f12
        obtain ⟨X, hX⟩ : ∃ X, X = be2 qt := ⟨_, rfl⟩
        obtain ⟨Y, hY⟩ : ∃ Y, Y = be2 qc := ⟨_, rfl⟩
        have sX : X.size = 2 := by rw [hX]; rfl
        have sY : Y.size = 2 := by rw [hY]; rfl
        have HZ : Hid ((X ++ Y).size ≤ maxLen) := by unfold Hid maxLen; rw [ByteArray.size_append]; omega
        have HQB : Hid (qB ⟨qn, qt, qc⟩ = X ++ Y) := by unfold Hid qB; rw [hX, hY]
        have k1 := fun u => be_two qt u
        have k2 := fun u => be_two qc u
        rw [← hX] at k1
        rw [← hY] at k2
        have z1 : ∀ u : World, (Op.stringOp .add X Y).run Try.prog u = .ok (.string (X ++ Y)) u := fun u => run_string_add_sum u X Y (by omega)
        clear hX hY sX sY
        have t1 : True := trivial
        obtain ⟨EN, hEN⟩ : ∃ EN, namE B ms qn.data.toList = EN := ⟨_, rfl⟩
        have HEN : Hid (namE B ms qn.data.toList = EN) := hEN
        have kn : ∀ u, RO w u h B ms → Calls Try.prog 17 #[.pointer (some ⟨h, 0, none⟩), .string qn] u fun e w' => e = .returned (.int .i64 EN) ∧ RO w w' h (namB B ms qn.data.toList) (namM B ms qn.data.toList) ∧ Bew u w' := fun u hu => by rw [← hEN]; exact rname_o qn hsz hu
        have kr : ∀ u, RO w u h (namB B ms qn.data.toList) (namM B ms qn.data.toList) → Calls Try.prog 16 #[.pointer (some ⟨h, 0, none⟩), .string (X ++ Y)] u fun e w' => e = .returned (.int .i64 (rawE (namB B ms qn.data.toList) (X ++ Y))) ∧ RO w w' h (rawB (namB B ms qn.data.toList) (X ++ Y)) (namM B ms qn.data.toList) ∧ Bew u w' := fun u hu => rraw_o _ HZ.out hu
        have HPM : Hid (PM w (wr.alloc (.cells #[.string qn, .int .i64 qt, .int .i64 qc] 40)) CC h B ms) := HI.out.below (lay (Below.refl _ _) _)
        have KQ := Blk.new wr #[.string qn, .int .i64 qt, .int .i64 qc] 40
        have hways : EN = 0 ∨ EN = 501 := by
          have hq := HM1.out.2.1 _ (List.getElem_mem hkn)
          rw [← HQ.out] at hq
          unfold mayQ at hq
          simp only [Bool.and_eq_true] at hq
          rw [← hEN]
          unfold namE
          rw [if_pos hq.1.1]
          by_cases hz : B.length + sizW ms qn.data.toList ≤ 4096
          · rw [if_pos hz]; exact .inl rfl
          · rw [if_neg hz]; exact .inr rfl
        clear hEN HI hsz
        rcases hways with hE | hE
        · subst hE
          have hraw : rawE (namB B ms qn.data.toList) (X ++ Y) = 0 ∨ rawE (namB B ms qn.data.toList) (X ++ Y) = 501 := by
            unfold rawE
            by_cases hz : (namB B ms qn.data.toList).length + (X ++ Y).size ≤ 4096
            · rw [if_pos hz]; exact .inl rfl
            · rw [if_neg hz]; exact .inr rfl
          have HS2 : Hid (stQ (B, ms) ⟨qn, qt, qc⟩ = stR (namB B ms qn.data.toList, namM B ms qn.data.toList) (X ++ Y)) := by
            unfold Hid stQ stN
            rw [if_pos HEN.out, HQB.out]; rfl
          rcases hraw with hr | hr
          · have HR2 : Hid (stAll stQ (some (T.data.toList, [])) (qs.take (k + 1)) = some (rawB (namB B ms qn.data.toList) (X ++ Y), namM B ms qn.data.toList)) := by
              unfold Hid
              rw [HST.out, HS2.out]
              unfold stR
              rw [if_pos hr]
            rw [hr] at kr
            clear hr
            go_wp2
            revert HPM KQ
            generalize wr.alloc (.cells #[.string qn, .int .i64 qt, .int .i64 qc] 40) = wq
            generalize wr.heap.size = gq
            intro HPM KQ
            have c0 : wq.cell? ⟨gq, 0, none⟩ = some (.string qn) := KQ.cell 0; have c1 : wq.cell? ⟨gq, 1, none⟩ = some (.int .i64 qt) := KQ.cell 1; have c2 : wq.cell? ⟨gq, 2, none⟩ = some (.int .i64 qc) := KQ.cell 2
            go_region_held3 (fun u => u.cell? ⟨gq, 0, none⟩ = some (.string qn) ∧ u.cell? ⟨gq, 1, none⟩ = some (.int .i64 qt) ∧ u.cell? ⟨gq, 2, none⟩ = some (.int .i64 qc)) (first | (simp only [World.cell?_drew, c0, c1, c2, and_self]; done))
              (first
                | (go_at_call 17; refine (kn _ (HPM.out.1.below (Below.refl _ _).drew)).mono ?_; rintro e w5 ⟨rfl, h5, b5⟩; have H5 : Hid (PM w w5 CC h (namB B ms qn.data.toList) (namM B ms qn.data.toList)) := (HPM.out.below (Below.refl _ _).drew).step b5 h5; have KQ5 := b5.blk (KQ.below (Below.refl _ _).drew) (by decide) (by decide); have c0 : w5.cell? ⟨gq, 0, none⟩ = some (.string qn) := KQ5.cell 0; have c1 : w5.cell? ⟨gq, 1, none⟩ = some (.int .i64 qt) := KQ5.cell 1; have c2 : w5.cell? ⟨gq, 2, none⟩ = some (.int .i64 qc) := KQ5.cell 2; clear h5 b5)
                | (go_at_call 18; have _t := t1; refine (k1 _).mono ?_; rintro e w6 ⟨rfl, b6⟩; have H6 : Hid (PM w w6 CC h (namB B ms qn.data.toList) (namM B ms qn.data.toList)) := H5.out.below b6; have KQ6 := KQ5.below b6; have c0 : w6.cell? ⟨gq, 0, none⟩ = some (.string qn) := KQ6.cell 0; have c1 : w6.cell? ⟨gq, 1, none⟩ = some (.int .i64 qt) := KQ6.cell 1; have c2 : w6.cell? ⟨gq, 2, none⟩ = some (.int .i64 qc) := KQ6.cell 2; clear b6 _t t1)
                | (go_at_call 18; refine (k2 _).mono ?_; rintro e w7 ⟨rfl, b7⟩; have H7 : Hid (PM w w7 CC h (namB B ms qn.data.toList) (namM B ms qn.data.toList)) := H6.out.below b7; have KQ7 := KQ6.below b7; have c0 : w7.cell? ⟨gq, 0, none⟩ = some (.string qn) := KQ7.cell 0; have c1 : w7.cell? ⟨gq, 1, none⟩ = some (.int .i64 qt) := KQ7.cell 1; have c2 : w7.cell? ⟨gq, 2, none⟩ = some (.int .i64 qc) := KQ7.cell 2; clear b7)
                | (go_at_call 16; refine (kr _ H7.out.1).mono ?_; rintro e w8 ⟨rfl, h8, b8⟩; have H8 : Hid (PM w w8 CC h (rawB (namB B ms qn.data.toList) (X ++ Y)) (namM B ms qn.data.toList)) := H7.out.step b8 h8; have KQ8 := b8.blk KQ7 (by decide) (by decide); have c0 : w8.cell? ⟨gq, 0, none⟩ = some (.string qn) := KQ8.cell 0; have c1 : w8.cell? ⟨gq, 1, none⟩ = some (.int .i64 qt) := KQ8.cell 1; have c2 : w8.cell? ⟨gq, 2, none⟩ = some (.int .i64 qc) := KQ8.cell 2; clear h8 b8))
            go_wp2
            go_roundw
            case rel => exact ⟨k + 1, _, _, by omega, by go_num, HR2, H8⟩
            case measure => simp [intOf]; omega
          · have HF : Hid (P = .tuple #[.string ⟨#[]⟩, .int .i64 701]) := HFAIL.out (by rw [HS2.out]; unfold stR; rw [if_neg (by rw [hr]; decide)])
            rw [hr] at kr
            clear hr
            go_wp2
            revert HPM KQ
            generalize wr.alloc (.cells #[.string qn, .int .i64 qt, .int .i64 qc] 40) = wq
            generalize wr.heap.size = gq
            intro HPM KQ
            have c0 : wq.cell? ⟨gq, 0, none⟩ = some (.string qn) := KQ.cell 0; have c1 : wq.cell? ⟨gq, 1, none⟩ = some (.int .i64 qt) := KQ.cell 1; have c2 : wq.cell? ⟨gq, 2, none⟩ = some (.int .i64 qc) := KQ.cell 2
            go_region_held3 (fun u => u.cell? ⟨gq, 0, none⟩ = some (.string qn) ∧ u.cell? ⟨gq, 1, none⟩ = some (.int .i64 qt) ∧ u.cell? ⟨gq, 2, none⟩ = some (.int .i64 qc)) (first | (simp only [World.cell?_drew, c0, c1, c2, and_self]; done))
              (first
                | (go_at_call 17; refine (kn _ (HPM.out.1.below (Below.refl _ _).drew)).mono ?_; rintro e w5 ⟨rfl, h5, b5⟩; have H5 : Hid (PM w w5 CC h (namB B ms qn.data.toList) (namM B ms qn.data.toList)) := (HPM.out.below (Below.refl _ _).drew).step b5 h5; have KQ5 := b5.blk (KQ.below (Below.refl _ _).drew) (by decide) (by decide); have c0 : w5.cell? ⟨gq, 0, none⟩ = some (.string qn) := KQ5.cell 0; have c1 : w5.cell? ⟨gq, 1, none⟩ = some (.int .i64 qt) := KQ5.cell 1; have c2 : w5.cell? ⟨gq, 2, none⟩ = some (.int .i64 qc) := KQ5.cell 2; clear h5 b5)
                | (go_at_call 18; have _t := t1; refine (k1 _).mono ?_; rintro e w6 ⟨rfl, b6⟩; have H6 : Hid (PM w w6 CC h (namB B ms qn.data.toList) (namM B ms qn.data.toList)) := H5.out.below b6; have KQ6 := KQ5.below b6; have c0 : w6.cell? ⟨gq, 0, none⟩ = some (.string qn) := KQ6.cell 0; have c1 : w6.cell? ⟨gq, 1, none⟩ = some (.int .i64 qt) := KQ6.cell 1; have c2 : w6.cell? ⟨gq, 2, none⟩ = some (.int .i64 qc) := KQ6.cell 2; clear b6 _t t1)
                | (go_at_call 18; refine (k2 _).mono ?_; rintro e w7 ⟨rfl, b7⟩; have H7 : Hid (PM w w7 CC h (namB B ms qn.data.toList) (namM B ms qn.data.toList)) := H6.out.below b7; have KQ7 := KQ6.below b7; have c0 : w7.cell? ⟨gq, 0, none⟩ = some (.string qn) := KQ7.cell 0; have c1 : w7.cell? ⟨gq, 1, none⟩ = some (.int .i64 qt) := KQ7.cell 1; have c2 : w7.cell? ⟨gq, 2, none⟩ = some (.int .i64 qc) := KQ7.cell 2; clear b7)
                | (go_at_call 16; refine (kr _ H7.out.1).mono ?_; rintro e w8 ⟨rfl, h8, b8⟩; have H8 : Hid (PM w w8 CC h (rawB (namB B ms qn.data.toList) (X ++ Y)) (namM B ms qn.data.toList)) := H7.out.step b8 h8; have KQ8 := b8.blk KQ7 (by decide) (by decide); have c0 : w8.cell? ⟨gq, 0, none⟩ = some (.string qn) := KQ8.cell 0; have c1 : w8.cell? ⟨gq, 1, none⟩ = some (.int .i64 qt) := KQ8.cell 1; have c2 : w8.cell? ⟨gq, 2, none⟩ = some (.int .i64 qc) := KQ8.cell 2; clear h8 b8))
            go_wp2
            go_ret2
            exact ⟨congrArg Ending.returned HF.out.symm, H8.out.1.out⟩
        · subst hE
          have HF : Hid (P = .tuple #[.string ⟨#[]⟩, .int .i64 701]) := HFAIL.out (by unfold stQ stN; rw [if_neg (by rw [HEN.out]; decide)]; rfl)
          go_wp2
          revert HPM KQ
          generalize wr.alloc (.cells #[.string qn, .int .i64 qt, .int .i64 qc] 40) = wq
          generalize wr.heap.size = gq
          intro HPM KQ
          have c0 : wq.cell? ⟨gq, 0, none⟩ = some (.string qn) := KQ.cell 0; have c1 : wq.cell? ⟨gq, 1, none⟩ = some (.int .i64 qt) := KQ.cell 1; have c2 : wq.cell? ⟨gq, 2, none⟩ = some (.int .i64 qc) := KQ.cell 2
          refine wp_region_held_drew (S := (fun u => u.cell? ⟨gq, 0, none⟩ = some (.string qn) ∧ u.cell? ⟨gq, 1, none⟩ = some (.int .i64 qt) ∧ u.cell? ⟨gq, 2, none⟩ = some (.int .i64 qc))) (by kernel_rfl) (by simp only [World.cell?_drew, c0, c1, c2, and_self]) (fun hHeld => ?_)
          refine wpAnyH_take (i := 0) (v := .pointer (some ⟨h, 0, none⟩)) rfl (by kernel_rfl) (by kernel_rfl) (by kernel_rfl) (fun _ _ _ h => h) (Or.inl ⟨by rfl, ?_⟩) hHeld ?_
          · intro u hu
            obtain ⟨u0, u1, u2⟩ := hu
            go_simp
          simp only [Act.put, List.getElem_toArray, List.getElem_cons_zero, List.setIfInBounds_toArray, List.set_cons_zero, List.set_cons_succ]
          refine wpAnyH_take (i := 1) (v := .pointer (some ⟨gq, 0, none⟩)) rfl (by kernel_rfl) (by kernel_rfl) (by kernel_rfl) (fun _ _ _ h => h) (Or.inl ⟨by rfl, ?_⟩) hHeld ?_
          · intro u hu
            obtain ⟨u0, u1, u2⟩ := hu
            go_simp
          simp only [Act.put, List.getElem_toArray, List.getElem_cons_succ, List.getElem_cons_zero, List.setIfInBounds_toArray, List.set_cons_zero, List.set_cons_succ]
          refine wpAnyH_take (i := 2) (v := .string qn) rfl (by kernel_rfl) (by kernel_rfl) (by kernel_rfl) (fun _ _ _ h => h) (Or.inl ⟨by rfl, ?_⟩) hHeld ?_
          · intro u hu
            obtain ⟨u0, u1, u2⟩ := hu
            go_simp
          simp only [Act.put, List.getElem_toArray, List.getElem_cons_succ, List.getElem_cons_zero, List.setIfInBounds_toArray, List.set_cons_zero, List.set_cons_succ]
          refine wpAnyH_ready (rs := [3]) (by kernel_rfl) (by simp) ?_
          refine AllReadyH.cons rfl (fun K hK => ?_) AllReadyH.nil
          go_simp
          refine (kn _ (HPM.out.1.below (Below.refl _ _).drew)).mono ?_
          rintro e w5 ⟨rfl, h5, b5⟩
          have H5 : Hid (Below w.heap.size w w5) := h5.out
          have KQ5 := b5.blk (KQ.below (Below.refl _ _).drew) (by decide) (by decide)
          clear c0 c1 c2
          have c0 : w5.cell? ⟨gq, 0, none⟩ = some (.string qn) := KQ5.cell 0; have c1 : w5.cell? ⟨gq, 1, none⟩ = some (.int .i64 qt) := KQ5.cell 1; have c2 : w5.cell? ⟨gq, 2, none⟩ = some (.int .i64 qc) := KQ5.cell 2
          refine hK.out _ _ (by simp only [c0, c1, c2, and_self]) (fun hHeld => ?_)
          clear hK K
          refine wpAnyH_take (i := 4) (v := .bool true) rfl (by kernel_rfl) (by kernel_rfl) (by kernel_rfl) (fun _ _ _ h => h) (Or.inl ⟨by rfl, ?_⟩) hHeld ?_
          · intro u hu
            obtain ⟨u0, u1, u2⟩ := hu
            go_simp
          simp only [Act.put, List.getElem_toArray, List.getElem_cons_succ, List.getElem_cons_zero, List.setIfInBounds_toArray, List.set_cons_zero, List.set_cons_succ]
          refine wpAnyH_take (i := 5) (v := .bool true) rfl (by kernel_rfl) (by kernel_rfl) (by kernel_rfl) (fun _ _ _ h => h) (Or.inl ⟨by rfl, ?_⟩) hHeld ?_
          · intro u hu
            obtain ⟨u0, u1, u2⟩ := hu
            go_simp
          simp only [Act.put, List.getElem_toArray, List.getElem_cons_succ, List.getElem_cons_zero, List.setIfInBounds_toArray, List.set_cons_zero, List.set_cons_succ]
          refine wpAnyH_take (i := 6) (v := undef) rfl (by kernel_rfl) (by kernel_rfl) (by kernel_rfl) (fun _ _ _ h => h) (Or.inr ⟨by rfl, rfl⟩) hHeld ?_
          simp only [Act.put, List.getElem_toArray, List.getElem_cons_succ, List.getElem_cons_zero, List.setIfInBounds_toArray, List.set_cons_zero, List.set_cons_succ]
          refine wpAnyH_take (i := 7) (v := undef) rfl (by kernel_rfl) (by kernel_rfl) (by kernel_rfl) (fun _ _ _ h => h) (Or.inr ⟨by rfl, rfl⟩) hHeld ?_
          simp only [Act.put, List.getElem_toArray, List.getElem_cons_succ, List.getElem_cons_zero, List.setIfInBounds_toArray, List.set_cons_zero, List.set_cons_succ]
          refine wpAnyH_take (i := 8) (v := undef) rfl (by kernel_rfl) (by kernel_rfl) (by kernel_rfl) (fun _ _ _ h => h) (Or.inr ⟨by rfl, rfl⟩) hHeld ?_
          simp only [Act.put, List.getElem_toArray, List.getElem_cons_succ, List.getElem_cons_zero, List.setIfInBounds_toArray, List.set_cons_zero, List.set_cons_succ]
          refine wpAnyH_take (i := 9) (v := undef) rfl (by kernel_rfl) (by kernel_rfl) (by kernel_rfl) (fun _ _ _ h => h) (Or.inr ⟨by rfl, rfl⟩) hHeld ?_
          simp only [Act.put, List.getElem_toArray, List.getElem_cons_succ, List.getElem_cons_zero, List.setIfInBounds_toArray, List.set_cons_zero, List.set_cons_succ]
          refine wpAnyH_take (i := 10) (v := undef) rfl (by kernel_rfl) (by kernel_rfl) (by kernel_rfl) (fun _ _ _ h => h) (Or.inr ⟨by rfl, rfl⟩) hHeld ?_
          simp only [Act.put, List.getElem_toArray, List.getElem_cons_succ, List.getElem_cons_zero, List.setIfInBounds_toArray, List.set_cons_zero, List.set_cons_succ]
          refine wpAnyH_take (i := 11) (v := undef) rfl (by kernel_rfl) (by kernel_rfl) (by kernel_rfl) (fun _ _ _ h => h) (Or.inr ⟨by rfl, rfl⟩) hHeld ?_
          simp only [Act.put, List.getElem_toArray, List.getElem_cons_succ, List.getElem_cons_zero, List.setIfInBounds_toArray, List.set_cons_zero, List.set_cons_succ]
          refine wpAnyH_take (i := 12) (v := undef) rfl (by kernel_rfl) (by kernel_rfl) (by kernel_rfl) (fun _ _ _ h => h) (Or.inr ⟨by rfl, rfl⟩) hHeld ?_
          simp only [Act.put, List.getElem_toArray, List.getElem_cons_succ, List.getElem_cons_zero, List.setIfInBounds_toArray, List.set_cons_zero, List.set_cons_succ]
          refine wpAnyH_take (i := 13) (v := undef) rfl (by kernel_rfl) (by kernel_rfl) (by kernel_rfl) (fun _ _ _ h => h) (Or.inr ⟨by rfl, rfl⟩) hHeld ?_
          simp only [Act.put, List.getElem_toArray, List.getElem_cons_succ, List.getElem_cons_zero, List.setIfInBounds_toArray, List.set_cons_zero, List.set_cons_succ]
          refine wpAnyH_take (i := 14) (v := undef) rfl (by kernel_rfl) (by kernel_rfl) (by kernel_rfl) (fun _ _ _ h => h) (Or.inr ⟨by rfl, rfl⟩) hHeld ?_
          simp only [Act.put, List.getElem_toArray, List.getElem_cons_succ, List.getElem_cons_zero, List.setIfInBounds_toArray, List.set_cons_zero, List.set_cons_succ]
          refine wpAnyH_take (i := 15) (v := undef) rfl (by kernel_rfl) (by kernel_rfl) (by kernel_rfl) (fun _ _ _ h => h) (Or.inr ⟨by rfl, rfl⟩) hHeld ?_
          simp only [Act.put, List.getElem_toArray, List.getElem_cons_succ, List.getElem_cons_zero, List.setIfInBounds_toArray, List.set_cons_zero, List.set_cons_succ]
          refine wpAnyH_take (i := 16) (v := .bool true) rfl (by kernel_rfl) (by kernel_rfl) (by kernel_rfl) (fun _ _ _ h => h) (Or.inl ⟨by rfl, ?_⟩) hHeld ?_
          · intro u hu
            obtain ⟨u0, u1, u2⟩ := hu
            go_simp
          simp only [Act.put, List.getElem_toArray, List.getElem_cons_succ, List.getElem_cons_zero, List.setIfInBounds_toArray, List.set_cons_zero, List.set_cons_succ]
          refine wpAnyH_done (by kernel_rfl) ?_ _
          go_wp2
          go_ret2
          exact ⟨congrArg Ending.returned HF.out.symm, H5.out⟩
      · have hkn' : decide (k < qs.length) = false := by simpa using hkn
        have HQS : Hid (stAll stQ (some (T.data.toList, [])) qs = some (B, ms)) := by
          have h1 := HK.out
          rw [List.take_of_length_le (by omega)] at h1
          exact h1
        obtain ⟨o1, ho1⟩ : ∃ o1, stAll stQ (some (T.data.toList, [])) qs = o1 := ⟨_, rfl⟩
        rw [ho1] at HPO HQS
        go_wp2
        have HP3 : Hid (PP w (wr.alloc (.cells #[.slice x1 an.length c1, .slice x2 ns.length c2, .slice x3 ar.length c3] 25)) wr.heap.size (.slice x1 an.length c1) (.slice x2 ns.length c2) (.slice x3 ar.length c3) h B ms) := ⟨HI.out.1.below (lay (Below.refl _ _) _), Blk.new wr _ _⟩
        obtain ⟨gp, hgp⟩ : ∃ gp, wr.heap.size = gp := ⟨_, rfl⟩
        rw [hgp] at HP3 ⊢
        have HO0 : Hid (ptO o1 an ns ar 0 = some (B, ms)) := HQS.out
        clear hgp HI HK f9 f10 f11 f12 ho1 HQS
        go_loopw [10] (fun i wr => ∃ (p : Nat) (B : List UInt8) (ms : Marks), p ≤ 3 ∧ i = .int .i64 (p : Int) ∧ Hid (ptO o1 an ns ar p = some (B, ms)) ∧ Hid (PP w wr gp (.slice x1 an.length c1) (.slice x2 ns.length c2) (.slice x3 ar.length c3) h B ms)) (fun i _ => 3 - (intOf i).toNat)
        case atStart => exact ⟨0, _, _, by omega, rfl, HO0, HP3⟩
        case round =>
          clear HP3 HO0
          obtain ⟨p, B, ms, hp, rfl, HK, HP⟩ := hrel
          by_cases hp3 : p < 3
          · have hp3' : (p : Int) < 3 := by omega
            have hcell := pt_cell HP.out.2 hp3
            have hrow := HV.out p
            obtain ⟨y, cy, hy⟩ := row_slice hrow.1
            obtain ⟨n, hn⟩ : ∃ n, n = (ptL an ns ar p).length := ⟨_, rfl⟩
            rw [← hn] at hy
            rw [hy] at hcell hrow
            have HROW : Hid (RRow w (.slice y n cy) (ptL an ns ar p)) := hrow
            have HN : Hid (n = (ptL an ns ar p).length) := hn
            have hmax := hrow.2.1
            rw [← hn] at hmax
            unfold maxLen at hmax
            have HJ0 : Hid (stAll stC (ptO o1 an ns ar p) ((ptL an ns ar p).take 0) = some (B, ms)) := by unfold Hid; rw [HK.out]; rfl
            have HFAIL : Hid (∀ j, stAll stC (ptO o1 an ns ar p) ((ptL an ns ar p).take j) = none → P = .tuple #[.string ⟨#[]⟩, .int .i64 701]) := fun j e => by
              rw [HPO.out, ptO_fail hp3 e]; rfl
            clear hrow hn hy HK
            go_wp2
            go_loopw [11] (fun i wr => ∃ (j : Nat) (B : List UInt8) (ms : Marks), j ≤ n ∧ i = .int .i64 (j : Int) ∧ Hid (stAll stC (ptO o1 an ns ar p) ((ptL an ns ar p).take j) = some (B, ms)) ∧ Hid (PP w wr gp (.slice x1 an.length c1) (.slice x2 ns.length c2) (.slice x3 ar.length c3) h B ms) ∧ wr.cell? ⟨gp, p, none⟩ = some (.slice y n cy)) (fun i _ => n - (intOf i).toNat)
            case atStart => exact ⟨0, _, _, Nat.zero_le _, rfl, HJ0, HP, hcell⟩
            case round =>
              clear HP hcell HJ0
              obtain ⟨j, B, ms, hj, rfl, HJ, HP, hcell⟩ := hrel
              by_cases hjn : j < n
              · have hjm : j < (ptL an ns ar p).length := by have := HN.out; omega
                obtain ⟨g, o, cap, hx, hc⟩ := row_at (HROW.out.below HP.out.1.out).1 (by omega)
                simp only [Value.slice.injEq] at hx
                obtain ⟨rfl, -, rfl⟩ := hx
                obtain ⟨d0, d1, d2, d3, d4⟩ := r_cells hc hjm
                have hst := stAll_snoc stC (ptO o1 an ns ar p) (ptL an ns ar p) j hjm
                rw [HJ.out, Option.bind_some] at hst
                have hsz := (HROW.out.2.2 _ (List.getElem_mem hjm)).1
                have hdz := mayR_data (HM1.out.2.2 p _ (List.getElem_mem hjm))
                obtain ⟨q, hq⟩ : ∃ q, q = (ptL an ns ar p)[j] := ⟨_, rfl⟩
                simp only [← hq] at d0 d1 d2 d3 d4 hst hsz hdz
                have hcall := fun u (hu : RO w u h B ms) => rr_any q hsz hdz hu
                have HST : Hid (stAll stC (ptO o1 an ns ar p) ((ptL an ns ar p).take (j + 1)) = stC (B, ms) q) := hst
                obtain ⟨qn, qt, qc, ql, qd⟩ := q
                simp only at d0 d1 d2 d3 d4 hcall
                clear hc hq hst hsz hdz
                go_wp2_with (go_at_call 19; go_must (refine (hcall _ HP.out.1).mono ?_); rintro e w2 ⟨b, rfl, so, bw⟩; have KP2 := bw.blk HP.out.2 (by decide) (by decide); have hcell2 : w2.cell? ⟨gp, p, none⟩ = some (.slice (some ⟨g, o, none⟩) n cy) := (by rw [KP2.cell, ← HP.out.2.cell]; exact hcell); have HSO : Hid (SO w w2 h b (stC (B, ms) ⟨qn, qt, qc, ql, qd⟩)) := so; have KP3 : Hid _ := KP2; clear so bw KP2; cases b)
                · rcases HSO.out with ⟨h1, _⟩ | ⟨_, h1, h2⟩
                  · simp at h1
                  · have HF : Hid (P = .tuple #[.string ⟨#[]⟩, .int .i64 701]) := HFAIL.out (j + 1) (by rw [HST.out]; exact h1)
                    go_ret2
                    exact ⟨congrArg Ending.returned HF.out.symm, h2⟩
                · rcases HSO.out with ⟨_, B2, ms2, h1, h2⟩ | ⟨h1, _⟩
                  · go_roundw
                    case rel => exact ⟨j + 1, B2, ms2, by omega, by go_num, by unfold Hid; rw [HST.out]; exact h1, ⟨h2, KP3.out⟩, hcell2⟩
                    case measure => simp [intOf]; omega
                  · simp at h1
              · have hjn' : decide (j < n) = false := by simpa using hjn
                have HF : Hid (ptO o1 an ns ar (p + 1) = some (B, ms)) := by
                  unfold Hid
                  rw [ptO_next o1 an ns ar hp3, ← HJ.out, List.take_of_length_le (by have := HN.out; omega)]
                go_wp2
                go_roundw
                case rel => exact ⟨p + 1, B, ms, by omega, by go_num, HF, HP⟩
                case measure => simp [intOf]; omega
          · have hp3' : decide ((p : Int) < 3) = false := by simp; omega
            have HT : Hid (P = .tuple #[.string ⟨B.toArray⟩, .int .i64 0]) := by
              have e : p = 3 := by omega
              subst e
              unfold Hid
              rw [HPO.out, HK.out]; rfl
            go_wp2_with (go_at_call 20; go_must (refine (rall_o HP.out.1).mono ?_); rintro e w' ⟨rfl, hw⟩; obtain rfl := hw.symm)
            go_ret2
            exact ⟨congrArg Ending.returned HT.out.symm, HP.out.1.out⟩

end Go.Proofs.Ytbffnicfibfceaa

/- The document's GetMsg and PutMsg, of a message whose parts are told one by one. -/
namespace Go.Proofs.Ytbffnicfibfceaa
open Go.RowKit
open Pl

theorem rget_h (s : ByteArray) (id : Int) (qr : Bool) (op : Int) (aa tc rd ra : Bool) (z rc : Int) (qs : List Qn) (an ns ar : List Rc) (E : Int) (w : World) (hs : s.size ≤ maxLen) (h : gM s = ⟨⟨id, qr, op, aa, tc, rd, ra, z, rc⟩, qs, an, ns, ar⟩ ∧ gE s = E) :
    Calls Try.prog 13 #[.string s] w fun e w' => ∃ (y0 y1 y2 y3 : Option Addr) (n0 n1 n2 n3 k0 k1 k2 k3 : Nat), e = .returned (.tuple #[.agg #[.int .i64 id, .bool qr, .int .i64 op, .bool aa, .bool tc, .bool rd, .bool ra, .int .i64 z, .int .i64 rc, .slice y0 n0 k0, .slice y1 n1 k1, .slice y2 n2 k2, .slice y3 n3 k3], .int .i64 E]) ∧ Own w.heap.size w' (.slice y0 n0 k0) (.slice y1 n1 k1) (.slice y2 n2 k2) (.slice y3 n3 k3) ⟨⟨id, qr, op, aa, tc, rd, ra, z, rc⟩, qs, an, ns, ar⟩ ∧ Below w.heap.size w w' := by
  have := rget_w s w hs
  unfold GetP at this
  rw [h.1, h.2] at this
  refine this.mono fun e w' ⟨v0, v1, v2, v3, he, ho, hb⟩ => ?_
  obtain ⟨y0, k0, rfl⟩ := row_shape ho.q
  obtain ⟨y1, k1, rfl⟩ := row_shape ho.an
  obtain ⟨y2, k2, rfl⟩ := row_shape ho.ns
  obtain ⟨y3, k3, rfl⟩ := row_shape ho.ar
  exact ⟨_, _, _, _, _, _, _, _, _, _, _, _, he, ho, hb⟩
theorem rput_h (id : Int) (qr : Bool) (op : Int) (aa tc rd ra : Bool) (z rc : Int) (qs : List Qn) (an ns ar : List Rc) (T : ByteArray) (E : Int) (v0 v1 v2 v3 : Value) (w : World) (h : putV ⟨⟨id, qr, op, aa, tc, rd, ra, z, rc⟩, qs, an, ns, ar⟩ = .tuple #[.string T, .int .i64 E]) (h0 : QRow w v0 qs) (h1 : RRow w v1 an) (h2 : RRow w v2 ns) (h3 : RRow w v3 ar) :
    Calls Try.prog 7 #[.agg #[.int .i64 id, .bool qr, .int .i64 op, .bool aa, .bool tc, .bool rd, .bool ra, .int .i64 z, .int .i64 rc, v0, v1, v2, v3]] w fun e w' => e = .returned (.tuple #[.string T, .int .i64 E]) ∧ Below w.heap.size w w' := by
  have := rput_w ⟨⟨id, qr, op, aa, tc, rd, ra, z, rc⟩, qs, an, ns, ar⟩ v0 v1 v2 v3 w h0 h1 h2 h3
  rw [h] at this
  exact this

end Go.Proofs.Ytbffnicfibfceaa
