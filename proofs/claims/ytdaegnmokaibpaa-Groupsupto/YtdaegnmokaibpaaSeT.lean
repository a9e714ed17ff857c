/- What the document's Group gives. -/
import Derived.Test.YtdaegnmokaibpaaSeR
import Derived.Test.YtdaegnmokaibpaaSeL
import Derived.Test.YtdaegnmokaibpaaFoC
import Derived.Test.YtdaegnmokaibpaaRdK
import Derived.Deep.DeepCutAuto
namespace Go.Proofs.Ytdaegnmokaibpaa
open Go.RowKit
open Pl

/-- How far the document's Group is. -/
structure DG (w0 w : World) (v : Value) (ps : List (Sn × Value)) : Prop where
  gs : GS w0.heap.size w v ps
  below : Below w0.heap.size w0 w
theorem DG.past {w0 w w' : World} {v : Value} {ps : List (Sn × Value)} (h : DG w0 w v ps) (hb : Below w.heap.size w w') : DG w0 w' v ps := ⟨h.gs.below hb, next h.below hb⟩
theorem bad_len {rs : List Rc} (h : 64 < rs.length) : badG rs = true := by unfold badG; simp [h]
theorem bad_at {rs : List Rc} {j : Nat} (hj : j < rs.length) (h : okR rs[j] = false) : badG rs = true := by
  unfold badG
  rw [Bool.or_eq_true, List.any_eq_true]
  exact .inr ⟨_, List.getElem_mem hj, by simp [h]⟩
theorem bad_no {rs : List Rc} (h : rs.length ≤ 64) (h2 : ∀ i (hi : i < rs.length), okR rs[i] = true) : badG rs = false := by
  unfold badG
  rw [Bool.or_eq_false_iff, decide_eq_false_iff_not, List.any_eq_false]
  refine ⟨by omega, fun r hr => ?_⟩
  obtain ⟨i, hi, rfl⟩ := List.getElem_of_mem hr
  simp [h2 i hi]
theorem same_key {a b : ByteArray} (h1 : foldB a = a) (h2 : isName a.data.toList = true) (h3 : isName b.data.toList = true) : sameB a.data.toList b.data.toList = decide (a = foldB b) := by
  have e1 : foldL a.data.toList = a.data.toList := by
    have := congrArg (fun z => z.data.toList) h1
    simp only [foldB, foldR_yes h2] at this
    exact this
  have e2 : (foldB b).data.toList = foldL b.data.toList := by simp only [foldB, foldR_yes h3]
  unfold sameB
  rw [h2, h3, e1, ← e2, Bool.true_and, Bool.true_and, Bool.eq_iff_iff, decide_eq_true_eq, decide_eq_true_eq]
  constructor
  · intro h; exact byte_ext (by rw [ByteArray.toList_eq, ByteArray.toList_eq]; exact h)
  · intro h; rw [← h]
theorem foldB_list (a : ByteArray) : foldR a.data.toList = (foldB a).data.toList := by simp only [foldB]
theorem app_put {ps : List (Sn × Value)} {F qn qd : ByteArray} {qt ql : Int} {k : Nat} {v : Value} (hk : k = ps.length) (hF : F = foldB qn) (hat : ¬ atS (foldB qn) qt (ps.map Prod.fst) < (ps.map Prod.fst).length) (hkp : k < (ps ++ [((⟨F, qt, 86400, []⟩ : Sn), v)]).length) :
    ((ps ++ [((⟨F, qt, 86400, []⟩ : Sn), v)]).map Prod.fst).set k (updS (ps ++ [((⟨F, qt, 86400, []⟩ : Sn), v)])[k].1 ⟨qn, qt, 1, ql, qd⟩) = putS ⟨qn, qt, 1, ql, qd⟩ (ps.map Prod.fst) ∧ (ps ++ [((⟨F, qt, 86400, []⟩ : Sn), v)])[k].1.ds.length ≤ 64 := by
  subst hk
  subst hF
  rw [put_pre (r := ⟨qn, qt, 1, ql, qd⟩) hat]
  simp [frS]

set_option maxRecDepth 20000 in
set_option maxHeartbeats 4000000 in
theorem refGroup_any (v : Value) (rs : List Rc) (w : World) (h : RRow w v rs) (f : Int) (ss : List Sn) (hf1 : badG rs = true → f = 1100 ∧ ss = []) (hf0 : badG rs = false → f = 0 ∧ ss = grpS rs) :
    Calls Try.prog 11 #[v] w fun e w' => ∃ (y : Option Addr) (c : Nat) (ps : List (Sn × Value)), e = .returned (.tuple #[.slice y ps.length c, .int .i64 f]) ∧ ps.map Prod.fst = ss ∧ GS w.heap.size w' (.slice y ps.length c) ps ∧ Below w.heap.size w w' := by
  obtain ⟨i0, hi, hz0, hz1, hz2⟩ := info_parts infoS
  obtain ⟨n, hn⟩ : ∃ n, n = rs.length := ⟨_, rfl⟩
  obtain ⟨x, c, hv⟩ := row_slice h.1
  subst hv
  have hm := h.2.1
  rw [← hn] at h hm ⊢
  have HN : Hid (n = rs.length) := hn
  have HR : Hid (RRow w (.slice x n c) rs) := h
  have HF1 : Hid (badG rs = true → f = 1100 ∧ ss = []) := hf1
  have HF0 : Hid (badG rs = false → f = 0 ∧ ss = grpS rs) := hf0
  unfold maxLen at hm
  clear h hn hf1 hf0
  by_cases h64 : 64 < n
  · have h64' : (64 : Int) < (n : Int) := by omega
    go_enter Try.func11, Try.ntmps11
    go_wp2
    go_ret2
    obtain ⟨e1, e2⟩ := HF1.out (bad_len (by have := HN.out; omega))
    exact ⟨none, 0, [], by rw [e1]; rfl, e2.symm, GS.nil _ _, Below.refl _ _⟩
  have h64' : decide ((64 : Int) < (n : Int)) = false := by simp; omega
  have hn64 : n ≤ 64 := by omega
  have HS0 : Hid (DG w w (.slice none 0 0) []) := ⟨GS.nil _ _, Below.refl _ _⟩
  go_enter Try.func11, Try.ntmps11
  go_wp2
  go_loopw [4, 5] (fun ov iv wr => ∃ (j N c : Nat) (y : Option Addr) (ps : List (Sn × Value)), ov = .slice y N c ∧ iv = .int .i64 (j : Int) ∧ j ≤ n ∧ Hid (N = ps.length ∧ ps.map Prod.fst = grpS (rs.take j)) ∧ Hid (∀ i (hi : i < rs.length), i < j → okR rs[i] = true) ∧ Hid (DG w wr (.slice y N c) ps)) (fun _ i _ => n - (intOf i).toNat)
  case atStart => exact ⟨0, 0, 0, none, [], rfl, rfl, Nat.zero_le _, ⟨rfl, rfl⟩, fun i _ hi => absurd hi (Nat.not_lt_zero _), HS0⟩
  case round =>
    clear HS0
    obtain ⟨j, N, c1, y, ps, rfl, rfl, hjn, HJ, HOK, HS⟩ := hrel
    by_cases hlt : j < n
    · have hjm : j < rs.length := by have := HN.out; omega
      have hjn' : (j : Int) < (n : Int) := by omega
      obtain ⟨g', o, cap, hx, hcc⟩ := row_at (HN.out ▸ (HR.out.below HS.out.below).1) (by omega)
      simp only [Value.slice.injEq] at hx
      obtain ⟨rfl, -, rfl⟩ := hx
      obtain ⟨d0, d1, d2, d3, d4⟩ := r_cells hcc hjm
      have HGT : Hid (grpS (rs.take (j + 1)) = stepS (grpS (rs.take j)) rs[j]) := grpS_take hjm
      have HGG : Hid (∀ s ∈ grpS (rs.take j), Rises s.ds ∧ s.ds.length ≤ 64) := fun s hs => by
        have h1 := (grpS_good (rs.take j)).2 s hs
        rw [List.length_take] at h1
        exact ⟨h1.1, by omega⟩
      have HNL : Hid (N ≤ 64) := by
        have h1 := (grpS_good (rs.take j)).1
        have h2 := HJ.out
        rw [← h2.2, List.length_map, List.length_take, ← h2.1] at h1
        unfold Hid; omega
      have HQS : Hid (rs[j].n.size ≤ maxLen ∧ rs[j].d.size ≤ maxLen) := HR.out.2.2 _ (List.getElem_mem hjm)
      have HBD : Hid (okR rs[j] = false → badG rs = true) := bad_at hjm
      have HOKN : Hid (okR rs[j] = true → ∀ i (hi : i < rs.length), i < j + 1 → okR rs[i] = true) := fun h i hi hij => by
        by_cases e : i = j
        · subst e; exact h
        · exact HOK.out i hi (by omega)
      obtain ⟨q, hq⟩ : ∃ q, q = rs[j] := ⟨_, rfl⟩
      simp only [← hq] at d0 d1 d2 d3 d4 HGT HQS HBD HOKN
      obtain ⟨qn, qt, qc, ql, qd⟩ := q
      simp only at d0 d1 d2 d3 d4
      have K0 : Hid (Blk (wr.alloc (.cells #[.string qn, .int .i64 qt, .int .i64 qc, .int .i64 ql, .string qd] 43)) wr.heap.size #[.string qn, .int .i64 qt, .int .i64 qc, .int .i64 ql, .string qd] 43) := Blk.new wr _ _
      clear hcc hq HOK HR HN
      cases h1 : isName qn.data.toList with
      | false =>
        have HKO : Hid (badG rs = true) := HBD.out (by unfold okR; simp [h1])
        have M1 : Hid (∀ u, Calls Try.prog 29 #[.string qn] u fun e w' => e = .returned (.bool false) ∧ Below u.heap.size u w') := fun u => refMay_as qn false u HQS.out.1 h1
        clear h1 HGT HGG HBD HOKN
        go_wp2_with (first | (go_at_call 29; go_must (refine (M1.out _).mono ?_); rintro e w1 ⟨rfl, b1⟩; have HX : Hid (Blk w1 wr.heap.size #[.string qn, .int .i64 qt, .int .i64 qc, .int .i64 ql, .string qd] 43) := K0.out.below b1; have HB1 : Hid (Below (wr.alloc (.cells #[.string qn, .int .i64 qt, .int .i64 qc, .int .i64 ql, .string qd] 43)).heap.size (wr.alloc (.cells #[.string qn, .int .i64 qt, .int .i64 qc, .int .i64 ql, .string qd] 43)) w1) := b1; have x1 : w1.cell? ⟨wr.heap.size, 1, none⟩ = some (.int .i64 qt) := HX.out.cell 1; have x2 : w1.cell? ⟨wr.heap.size, 2, none⟩ = some (.int .i64 qc) := HX.out.cell 2; have x3 : w1.cell? ⟨wr.heap.size, 3, none⟩ = some (.int .i64 ql) := HX.out.cell 3; have x4 : w1.cell? ⟨wr.heap.size, 4, none⟩ = some (.string qd) := HX.out.cell 4; clear b1))
        go_ret2
        obtain ⟨e1, e2⟩ := HF1.out HKO.out
        exact ⟨none, 0, [], by rw [e1]; rfl, e2.symm, GS.nil _ _, next (lay HS.out.below _) HB1.out⟩
      | true =>
        cases h2 : inB 4294967295 ql with
        | false =>
          have HKO : Hid (badG rs = true) := HBD.out (by unfold okR; simp [h2])
          have M1 : Hid (∀ u, Calls Try.prog 29 #[.string qn] u fun e w' => e = .returned (.bool true) ∧ Below u.heap.size u w') := fun u => refMay_as qn true u HQS.out.1 h1
          have M2 : Hid (∀ u, Calls Try.prog 30 #[.int .i64 ql] u fun e w' => e = .returned (.bool false) ∧ w' = u) := fun u => wide_as ql false u h2
          clear h1 h2 HGT HGG HBD HOKN
          go_wp2_with (first | (go_at_call 29; go_must (refine (M1.out _).mono ?_); rintro e w1 ⟨rfl, b1⟩; have HX : Hid (Blk w1 wr.heap.size #[.string qn, .int .i64 qt, .int .i64 qc, .int .i64 ql, .string qd] 43) := K0.out.below b1; have HB1 : Hid (Below (wr.alloc (.cells #[.string qn, .int .i64 qt, .int .i64 qc, .int .i64 ql, .string qd] 43)).heap.size (wr.alloc (.cells #[.string qn, .int .i64 qt, .int .i64 qc, .int .i64 ql, .string qd] 43)) w1) := b1; have x1 : w1.cell? ⟨wr.heap.size, 1, none⟩ = some (.int .i64 qt) := HX.out.cell 1; have x2 : w1.cell? ⟨wr.heap.size, 2, none⟩ = some (.int .i64 qc) := HX.out.cell 2; have x3 : w1.cell? ⟨wr.heap.size, 3, none⟩ = some (.int .i64 ql) := HX.out.cell 3; have x4 : w1.cell? ⟨wr.heap.size, 4, none⟩ = some (.string qd) := HX.out.cell 4; clear b1) | (go_at_call 30; go_must (refine (M2.out _).mono ?_); rintro e w' ⟨rfl, hw⟩; obtain rfl := hw.symm))
          go_ret2
          obtain ⟨e1, e2⟩ := HF1.out HKO.out
          exact ⟨none, 0, [], by rw [e1]; rfl, e2.symm, GS.nil _ _, next (lay HS.out.below _) HB1.out⟩
        | true =>
          cases h3 : mayD qt qd.data.toList with
          | false =>
            have HKO : Hid (badG rs = true) := HBD.out (by unfold okR; simp [h3])
            have M1 : Hid (∀ u, Calls Try.prog 29 #[.string qn] u fun e w' => e = .returned (.bool true) ∧ Below u.heap.size u w') := fun u => refMay_as qn true u HQS.out.1 h1
            have M2 : Hid (∀ u, Calls Try.prog 30 #[.int .i64 ql] u fun e w' => e = .returned (.bool true) ∧ w' = u) := fun u => wide_as ql true u h2
            have M3 : Hid (∀ u, Calls Try.prog 31 #[.int .i64 qt, .string qd] u fun e w' => e = .returned (.bool false) ∧ Below u.heap.size u w') := fun u => dataMay_as qt qd false u HQS.out.2 h3
            clear h1 h2 h3 HGT HGG HBD HOKN
            go_wp2_with (first | (go_at_call 29; go_must (refine (M1.out _).mono ?_); rintro e w1 ⟨rfl, b1⟩; have HX : Hid (Blk w1 wr.heap.size #[.string qn, .int .i64 qt, .int .i64 qc, .int .i64 ql, .string qd] 43) := K0.out.below b1; have HB1 : Hid (Below (wr.alloc (.cells #[.string qn, .int .i64 qt, .int .i64 qc, .int .i64 ql, .string qd] 43)).heap.size (wr.alloc (.cells #[.string qn, .int .i64 qt, .int .i64 qc, .int .i64 ql, .string qd] 43)) w1) := b1; have x1 : w1.cell? ⟨wr.heap.size, 1, none⟩ = some (.int .i64 qt) := HX.out.cell 1; have x2 : w1.cell? ⟨wr.heap.size, 2, none⟩ = some (.int .i64 qc) := HX.out.cell 2; have x3 : w1.cell? ⟨wr.heap.size, 3, none⟩ = some (.int .i64 ql) := HX.out.cell 3; have x4 : w1.cell? ⟨wr.heap.size, 4, none⟩ = some (.string qd) := HX.out.cell 4; clear b1) | (go_at_call 30; go_must (refine (M2.out _).mono ?_); rintro e w' ⟨rfl, hw⟩; obtain rfl := hw.symm) | (go_at_call 31; go_must (refine (M3.out _).mono ?_); rintro e w2 ⟨rfl, b2⟩; replace HB1 : Hid (Below (wr.alloc (.cells #[.string qn, .int .i64 qt, .int .i64 qc, .int .i64 ql, .string qd] 43)).heap.size (wr.alloc (.cells #[.string qn, .int .i64 qt, .int .i64 qc, .int .i64 ql, .string qd] 43)) w2) := next HB1.out b2; replace HX : Hid (Blk w2 wr.heap.size #[.string qn, .int .i64 qt, .int .i64 qc, .int .i64 ql, .string qd] 43) := K0.out.below HB1.out; have y2 : w2.cell? ⟨wr.heap.size, 2, none⟩ = some (.int .i64 qc) := HX.out.cell 2; clear b2))
            go_ret2
            obtain ⟨e1, e2⟩ := HF1.out HKO.out
            exact ⟨none, 0, [], by rw [e1]; rfl, e2.symm, GS.nil _ _, next (lay HS.out.below _) HB1.out⟩
          | true =>
            have HOKJ : Hid (okR ⟨qn, qt, qc, ql, qd⟩ = true) := by unfold Hid okR; simp [h1, h2, h3]
            have HOK1 := HOKN.out HOKJ.out
            have HOKA : Hid (∀ i (hi : i < rs.length), i < j + 1 → okR rs[i] = true) := HOK1
            have HNM : Hid (isName qn.data.toList = true) := h1
            have M1 : Hid (∀ u, Calls Try.prog 29 #[.string qn] u fun e w' => e = .returned (.bool true) ∧ Below u.heap.size u w') := fun u => refMay_as qn true u HQS.out.1 h1
            have M2 : Hid (∀ u, Calls Try.prog 30 #[.int .i64 ql] u fun e w' => e = .returned (.bool true) ∧ w' = u) := fun u => wide_as ql true u h2
            have M3 : Hid (∀ u, Calls Try.prog 31 #[.int .i64 qt, .string qd] u fun e w' => e = .returned (.bool true) ∧ Below u.heap.size u w') := fun u => dataMay_as qt qd true u HQS.out.2 h3
            clear h1 h2 h3 HBD HOKN HOK1
            by_cases hcl : qc = 1
            · subst hcl
              go_wp2_with (first | (go_at_call 29; go_must (refine (M1.out _).mono ?_); rintro e w1 ⟨rfl, b1⟩; have HX : Hid (Blk w1 wr.heap.size #[.string qn, .int .i64 qt, .int .i64 1, .int .i64 ql, .string qd] 43) := K0.out.below b1; have HB1 : Hid (Below (wr.alloc (.cells #[.string qn, .int .i64 qt, .int .i64 1, .int .i64 ql, .string qd] 43)).heap.size (wr.alloc (.cells #[.string qn, .int .i64 qt, .int .i64 1, .int .i64 ql, .string qd] 43)) w1) := b1; have x1 : w1.cell? ⟨wr.heap.size, 1, none⟩ = some (.int .i64 qt) := HX.out.cell 1; have x2 : w1.cell? ⟨wr.heap.size, 2, none⟩ = some (.int .i64 1) := HX.out.cell 2; have x3 : w1.cell? ⟨wr.heap.size, 3, none⟩ = some (.int .i64 ql) := HX.out.cell 3; have x4 : w1.cell? ⟨wr.heap.size, 4, none⟩ = some (.string qd) := HX.out.cell 4; clear b1) | (go_at_call 30; go_must (refine (M2.out _).mono ?_); rintro e w' ⟨rfl, hw⟩; obtain rfl := hw.symm) | (go_at_call 31; go_must (refine (M3.out _).mono ?_); rintro e w2 ⟨rfl, b2⟩; replace HB1 : Hid (Below (wr.alloc (.cells #[.string qn, .int .i64 qt, .int .i64 1, .int .i64 ql, .string qd] 43)).heap.size (wr.alloc (.cells #[.string qn, .int .i64 qt, .int .i64 1, .int .i64 ql, .string qd] 43)) w2) := next HB1.out b2; replace HX : Hid (Blk w2 wr.heap.size #[.string qn, .int .i64 qt, .int .i64 1, .int .i64 ql, .string qd] 43) := K0.out.below HB1.out; have y2 : w2.cell? ⟨wr.heap.size, 2, none⟩ = some (.int .i64 1) := HX.out.cell 2; clear b2))
              obtain ⟨F, hF⟩ : ∃ F, F = foldB qn := ⟨_, rfl⟩
              have HFF : Hid (F = foldB qn) := hF
              obtain ⟨A, hA⟩ : ∃ A, A = atS F qt (ps.map Prod.fst) := ⟨_, rfl⟩
              have HAE : Hid (A = atS F qt (ps.map Prod.fst)) := hA
              have HNP : Hid (N = ps.length) := HJ.out.1
              have hAN : A ≤ N := by
                have h0 := atS_le F qt (ps.map Prod.fst)
                rw [List.length_map, ← HNP.out, ← hA] at h0
                exact h0
              have HFA : Hid (∀ p ∈ ps, foldB p.1.n = p.1.n ∧ isName p.1.n.data.toList = true) := fun p hp => by
                have hmem : p.1 ∈ grpS (rs.take j) := by rw [← HJ.out.2]; exact List.mem_map_of_mem hp
                have hok : ∀ r ∈ rs.take j, okR r = true := fun r hr => by
                  obtain ⟨i, hi, rfl⟩ := List.getElem_of_mem hr
                  rw [List.length_take] at hi
                  rw [List.getElem_take]
                  exact HOKA.out i (by omega) (by omega)
                have := grp_facts hok hmem
                exact ⟨this.2.2.1, this.2.2.2.1⟩
              have HSB : Hid (∀ k (hk : k < ps.length), sameB ps[k].1.n.data.toList qn.data.toList = decide (ps[k].1.n = F)) := fun k hk => by
                have h1 := HFA.out _ (List.getElem_mem hk)
                rw [HFF.out]; exact same_key h1.1 h1.2 HNM.out
              have HA2 : Hid (∀ k (hk : k < ps.length), k < A → ¬ (ps[k].1.n = F ∧ ps[k].1.t = qt)) := fun k hk hkA => by
                rw [HAE.out] at hkA
                have := List.not_of_lt_findIdx hkA
                rw [List.getElem_map] at this
                unfold hasK at this
                simpa using this
              have HA3 : Hid (∀ hk : A < ps.length, ps[A].1.n = F ∧ ps[A].1.t = qt) := fun hk => by
                have h0 : atS F qt (ps.map Prod.fst) < (ps.map Prod.fst).length := by rw [← HAE.out, List.length_map]; exact hk
                have h1 := atS_at h0
                rw [List.getElem_map] at h1
                unfold hasK at h1
                simp only [← HAE.out] at h1
                simpa using h1
              have HPUT : Hid (grpS (rs.take (j + 1)) = putS ⟨qn, qt, 1, ql, qd⟩ (grpS (rs.take j))) := by unfold Hid; rw [HGT.out]; unfold stepS; rw [if_pos rfl]
              have HQZ : Hid (qn.size ≤ maxLen ∧ qd.size ≤ maxLen) := HQS.out
              have HSZN : Hid (∀ p ∈ ps, p.1.n.size ≤ maxLen) := fun p hp => by have := name_size (HFA.out p hp).2; unfold maxLen; omega
              replace HS : Hid (DG w w2 (.slice y N c1) ps) := HS.out.past (next (lay (Below.refl _ _) _) HB1.out)
              clear hA hF HB1 x1 x2 x3 x4 y2 d0 d1 d2 d3 d4 M1 M2 M3 K0 HQS
              have hN64 : N ≤ 64 := HNL.out
              obtain ⟨we, hwe⟩ : ∃ z, z = wr := ⟨_, rfl⟩
              subst hwe
              go_loopw [7] (fun kv wr => ∃ k : Nat, kv = .int .i64 (k : Int) ∧ k ≤ A ∧ Hid (Below w2.heap.size w2 wr)) (fun kv _ => A - (intOf kv).toNat)
              case atStart => exact ⟨0, rfl, Nat.zero_le _, Below.refl _ _⟩
              case round =>
                obtain ⟨k, rfl, hkA, HB⟩ := hrel
                by_cases hk : k < A
                · have hkp : k < ps.length := by have := HNP.out; omega
                  have hkn : (k : Int) < (N : Int) := by omega
                  obtain ⟨g, cap2, hv, _, _⟩ := HS.out.gs.own.form (by omega)
                  simp only [Value.slice.injEq] at hv
                  obtain ⟨rfl, -, rfl⟩ := hv
                  have C1 : Hid (∀ {u : World}, Below w2.heap.size w2 u → u.cell? ⟨g, k * 4, none⟩ = some (.string ps[k].1.n) ∧ u.cell? ⟨g, k * 4 + 1, none⟩ = some (.int .i64 ps[k].1.t)) := fun h => ⟨(own_four (HS.out.gs.below h).own hkp).1.1, (own_four (HS.out.gs.below h).own hkp).1.2.1⟩
                  have C2 := HA2.out k hkp hk
                  have C3 := HSB.out k hkp
                  have C4 := HSZN.out _ (List.getElem_mem hkp)
                  obtain ⟨sn, hsn⟩ : ∃ z, z = ps[k].1.n := ⟨_, rfl⟩
                  obtain ⟨st, hst⟩ : ∃ z, z = ps[k].1.t := ⟨_, rfl⟩
                  simp only [← hsn, ← hst] at C1 C2 C3 C4
                  have a0 : ∀ nb : Bel wr, nb.to.cell? ⟨g, k * 4, none⟩ = some (.string sn) := fun nb => (C1.out (next HB.out nb.h)).1
                  have a1 : ∀ nb : Bel wr, nb.to.cell? ⟨g, k * 4 + 1, none⟩ = some (.int .i64 st) := fun nb => (C1.out (next HB.out nb.h)).2
                  have b0 : ∀ nb : Bel wr, nb.to.cell? ⟨we.heap.size, 0, none⟩ = some (.string qn) := fun nb => (HX.out.below (next HB.out nb.h)).cell 0
                  have b1 : ∀ nb : Bel wr, nb.to.cell? ⟨we.heap.size, 1, none⟩ = some (.int .i64 qt) := fun nb => (HX.out.below (next HB.out nb.h)).cell 1
                  clear hsn hst C1
                  by_cases ht : st = qt
                  · have hte : (st == qt) = true := by simpa using ht
                    have S1 : ∀ nb : Bel wr, Calls Try.prog 32 #[.string sn, .string qn] nb.to fun e w' => e = .returned (.bool false) ∧ Below nb.to.heap.size nb.to w' := fun nb => refSame_as sn qn false nb.to C4 HQZ.out.1 (by rw [C3]; simpa using fun h => C2 ⟨h, ht⟩)
                    clear C2 C3 C4
                    subst ht
                    go_wp2
                    refine wp_region_bel (by kernel_rfl) (by kernel_rfl) (fun _ => ?_)
                    repeat (go_big_quiet_step ((go_at_call 32; go_must (exact bel_lays (S1 _)))))
                    refine wpQuiet_nil ?_
                    intro wn hwn
                    have hbn := bel_out hwn
                    replace HB : Hid (Below w2.heap.size w2 wn) := next HB.out hbn
                    clear hwn hbn a0 a1 b0 b1 S1
                    go_wp2
                    go_roundw
                    case rel => exact ⟨k + 1, by go_num, by omega, HB⟩
                    case measure => simp [intOf]; omega
                  · have hte : (st == qt) = false := by simpa using ht
                    clear C2 C3 C4
                    go_wp2
                    refine wp_region_bel (by kernel_rfl) (by kernel_rfl) (fun _ => ?_)
                    repeat (go_big_quiet_step (fail))
                    refine wpQuiet_nil ?_
                    intro wn hwn
                    have hbn := bel_out hwn
                    replace HB : Hid (Below w2.heap.size w2 wn) := next HB.out hbn
                    clear hwn hbn a0 a1 b0 b1
                    go_wp2
                    go_roundw
                    case rel => exact ⟨k + 1, by go_num, by omega, HB⟩
                    case measure => simp [intOf]; omega
                · obtain rfl : k = A := by omega
                  by_cases hN : k < N
                  · have hkp : k < ps.length := by have := HNP.out; omega
                    have hkn : (k : Int) < (N : Int) := by omega
                    have hkN : ((k : Int) == (N : Int)) = false := by simp; omega
                    obtain ⟨g, cap2, hv, _, _⟩ := HS.out.gs.own.form (by omega)
                    simp only [Value.slice.injEq] at hv
                    obtain ⟨rfl, -, rfl⟩ := hv
                    have HG1 : Hid ((ps.map Prod.fst).set k (updS (ps[k]'hkp).1 ⟨qn, qt, 1, ql, qd⟩) = grpS (rs.take (j + 1))) := by
                      unfold Hid
                      have e : atS (foldB qn) qt (ps.map Prod.fst) = k := by rw [HAE.out, HFF.out]
                      have hf2 : atS (foldB qn) qt (ps.map Prod.fst) < (ps.map Prod.fst).length := by rw [e, List.length_map]; exact hkp
                      have := putS_old (r := ⟨qn, qt, 1, ql, qd⟩) hf2
                      rw [HPUT.out, ← HJ.out.2, this]
                      simp only [e, List.getElem_map]
                    have HDL : Hid ((ps[k]'hkp).1.ds.length ≤ 64) := (HGG.out _ (by rw [← HJ.out.2]; exact List.mem_map_of_mem (List.getElem_mem hkp))).2
                    have C1 : Hid (∀ {u : World}, Below w2.heap.size w2 u → u.cell? ⟨g, k * 4, none⟩ = some (.string ps[k].1.n) ∧ u.cell? ⟨g, k * 4 + 1, none⟩ = some (.int .i64 ps[k].1.t)) := fun h => ⟨(own_four (HS.out.gs.below h).own hkp).1.1, (own_four (HS.out.gs.below h).own hkp).1.2.1⟩
                    have C2 := HA3.out hkp
                    have C3 := HSB.out k hkp
                    rw [C2.1] at C3 C1
                    rw [C2.2] at C1
                    have C4 := HSZN.out _ (List.getElem_mem hkp)
                    rw [C2.1] at C4
                    have a0 : ∀ nb : Bel wr, nb.to.cell? ⟨g, k * 4, none⟩ = some (.string F) := fun nb => (C1.out (next HB.out nb.h)).1
                    have a1 : ∀ nb : Bel wr, nb.to.cell? ⟨g, k * 4 + 1, none⟩ = some (.int .i64 qt) := fun nb => (C1.out (next HB.out nb.h)).2
                    have b0 : ∀ nb : Bel wr, nb.to.cell? ⟨we.heap.size, 0, none⟩ = some (.string qn) := fun nb => (HX.out.below (next HB.out nb.h)).cell 0
                    have b1 : ∀ nb : Bel wr, nb.to.cell? ⟨we.heap.size, 1, none⟩ = some (.int .i64 qt) := fun nb => (HX.out.below (next HB.out nb.h)).cell 1
                    have S1 : ∀ nb : Bel wr, Calls Try.prog 32 #[.string F, .string qn] nb.to fun e w' => e = .returned (.bool true) ∧ Below nb.to.heap.size nb.to w' := fun nb => refSame_as F qn true nb.to C4 HQZ.out.1 (by rw [C3]; simp)
                    clear C1 C2 C3 C4
                    go_wp2
                    refine wp_region_bel (by kernel_rfl) (by kernel_rfl) (fun _ => ?_)
                    repeat (go_big_quiet_step ((go_at_call 32; go_must (exact bel_lays (S1 _)))))
                    refine wpQuiet_nil ?_
                    intro wn hwn
                    have hbn := bel_out hwn
                    replace HB : Hid (Below w2.heap.size w2 wn) := next HB.out hbn
                    clear hwn hbn a0 a1 b0 b1 S1
                    have HSN : Hid (DG w wn (.slice (some ⟨g, 0, none⟩) N c1) ps) := HS.out.past HB.out
                    have HXN : Hid (Blk wn we.heap.size #[.string qn, .int .i64 qt, .int .i64 1, .int .i64 ql, .string qd] 43) := HX.out.below HB.out
                    clear HB HS HX
                    have HTAIL : Hid (∃ (sl : Int) (ds : List ByteArray) (yd : Option Addr) (M cd : Nat), wn.cell? ⟨g, k * 4 + 2, none⟩ = some (.int .i64 sl) ∧ wn.frozen? ⟨g, k * 4 + 2, none⟩ = false ∧
                        ∃ (ps2 : List (Sn × Value)) (hk2 : k < ps2.length), ps2.length = ps.length ∧ DG w (wn.setCell ⟨g, k * 4 + 2, none⟩ (.int .i64 (min sl ql))).drew (.slice (some ⟨g, 0, none⟩) N c1) ps2 ∧ ps2[k].1.ds = ds ∧ ps2[k].2 = .slice yd M cd ∧ M ≤ 64 ∧ ds.length = M ∧
                        Blk (wn.setCell ⟨g, k * 4 + 2, none⟩ (.int .i64 (min sl ql))).drew we.heap.size #[.string qn, .int .i64 qt, .int .i64 1, .int .i64 ql, .string qd] 43 ∧ ∀ v2 : Value, (ps2.set k (⟨ps2[k].1.n, ps2[k].1.t, ps2[k].1.l, insB qd ds⟩, v2)).map Prod.fst = grpS (rs.take (j + 1))) := by
                      obtain ⟨yd, cd, hvd⟩ := row_shape (HSN.out.gs.dat _ (List.getElem_mem hkp))
                      have h4 := own_four HSN.out.gs.own hkp
                      have hg := HSN.out.gs.own.lt g rfl
                      have hne := own_sep4 HSN.out.gs.own HXN.out (by decide)
                      have T := Turn.of_set (S := fun i => i = g) wn (p := ⟨g, k * 4 + 2, none⟩) rfl (.int .i64 (min ps[k].1.l ql))
                      have T2 := T.same ((Turn.of_below (below_drew ⟨1, rfl⟩)))
                      refine ⟨ps[k].1.l, ps[k].1.ds, yd, ps[k].1.ds.length, cd, h4.1.2.2.1, h4.2.2.2.1, ps.set k (⟨ps[k].1.n, ps[k].1.t, min ps[k].1.l ql, ps[k].1.ds⟩, ps[k].2), by rw [List.length_set]; exact hkp, List.length_set, ⟨(HSN.out.gs.setL hkp (min ps[k].1.l ql)).below (below_drew ⟨1, rfl⟩), Turn.below HSN.out.below T2 HSN.out.below.size (fun i e => by rw [e]; exact hg.1)⟩, by simp, by simpa using hvd, HDL.out, rfl, T2.blk HXN.out (fun e => hne (by rw [e]; rfl)), fun v2 => ?_⟩
                      rw [← HG1.out, List.set_set, List.map_set]
                      simp [updS]
                    obtain ⟨sl, ds, yd, M, cd, a2, f2, ps2, hk2, hl2, hdg, hds, hvd, hM, hdl, hbx, hend⟩ := HTAIL.out
                    obtain ⟨wm, hwm⟩ : ∃ z, z = (wn.setCell ⟨g, k * 4 + 2, none⟩ (.int .i64 (min sl ql))).drew := ⟨_, rfl⟩
                    rw [← hwm] at hdg hbx
                    have HWM : Hid ((wn.setCell ⟨g, k * 4 + 2, none⟩ (.int .i64 (min sl ql))).drew = wm) := hwm.symm
                    have HDG : Hid (DG w wm (.slice (some ⟨g, 0, none⟩) N c1) ps2) := hdg
                    have HEND : Hid (∀ v2 : Value, (ps2.set k (⟨ps2[k].1.n, ps2[k].1.t, ps2[k].1.l, insB qd ds⟩, v2)).map Prod.fst = grpS (rs.take (j + 1))) := hend
                    have HL2 : Hid (N = ps2.length) := own_len hdg.gs.own
                    have HIN : Hid (∀ u : World, Below wm.heap.size wm u → Calls Try.prog 33 #[.slice yd M cd, .string qd] u fun e w' => ∃ v', e = .returned v' ∧ w'.ownsRow w.heap.size 9 1 v' (insB qd ds).length (tC (insB qd ds)) ∧ Below u.heap.size u w' ∧ ∀ k', v'.ownBlock = some k' → (Value.slice yd M cd).ownBlock = some k' ∨ u.heap.size ≤ k') := fun u hu => by
                      have h1 := hdg.gs.dat _ (List.getElem_mem hk2)
                      rw [hvd, hds] at h1
                      exact refInsert_any _ ds qd u (own_past h1 hu) (by omega) (Nat.le_trans hdg.below.size hu.size)
                    have HST : Hid (∀ {w3 : World} {v2 : Value}, Below wm.heap.size wm w3 → w3.ownsRow w.heap.size 9 1 v2 (insB qd ds).length (tC (insB qd ds)) → (∀ k', v2.ownBlock = some k' → (Value.slice yd M cd).ownBlock = some k' ∨ wm.heap.size ≤ k') → DG w (w3.setCell ⟨g, k * 4 + 3, none⟩ v2) (.slice (some ⟨g, 0, none⟩) N c1) (ps2.set k (⟨ps2[k].1.n, ps2[k].1.t, ps2[k].1.l, insB qd ds⟩, v2)) ∧ (∃ z, w3.cell? ⟨g, k * 4 + 3, none⟩ = some z) ∧ w3.frozen? ⟨g, k * 4 + 3, none⟩ = false) := fun {w3 v2} h1 h2 h3 => by
                      have h4 := own_four (hdg.gs.below h1).own hk2
                      have hg := hdg.gs.own.lt g rfl
                      exact ⟨⟨hdg.gs.setD hk2 h1 h2 (fun i hi => by rw [hvd]; exact h3 i hi), (next hdg.below h1).setCell hg.1 _⟩, ⟨_, h4.1.2.2.2⟩, h4.2.2.2.2⟩
                    have q3 : wm.cell? ⟨g, k * 4 + 3, none⟩ = some (.slice yd M cd) := by rw [(own_four hdg.gs.own hk2).1.2.2.2, hvd]
                    have q4 : wm.cell? ⟨we.heap.size, 4, none⟩ = some (.string qd) := hbx.cell 4
                    have hcdm : M ≤ cd := by
                      have h1 := hdg.gs.dat _ (List.getElem_mem hk2)
                      rw [hvd] at h1
                      rcases h1.2 with ⟨e, e0⟩ | ⟨g5, cap5, cur5, e, _, _, hnc, _, _⟩
                      · simp at e; obtain ⟨_, rfl, rfl⟩ := e; exact Nat.le_refl _
                      · simp at e; obtain ⟨_, e6, rfl⟩ := e; rw [e6]; exact hnc
                    have b3 : wn.cell? ⟨we.heap.size, 3, none⟩ = some (.int .i64 ql) := HXN.out.cell 3
                    clear hdg hds hvd hdl hbx hend hwm HTAIL HG1 HDL HSN HXN hl2
                    go_wp2
                    go_region
                    rw [HWM.out]
                    clear a2 f2 b3 HWM
                    go_wp2
                    go_region_with (go_at_call 33; go_must (refine (HIN.out _ (below_drew ⟨1, rfl⟩)).mono ?_); rintro e w3 ⟨v2, rfl, o3, b3, n3⟩; obtain ⟨y2, c2, hv2⟩ := row_shape o3; obtain ⟨hs3, ⟨z3, r3⟩, f3⟩ := HST.out (next (below_drew ⟨1, rfl⟩) b3) o3 n3; subst hv2; have HS3 := hs3; clear o3 b3 n3 hs3)
                    all_goals
                      (go_wp2
                       go_roundw
                       case rel => exact ⟨j + 1, N, c1, _, ps2.set k (_, _), rfl, by go_num, by omega, ⟨by rw [List.length_set]; exact HL2.out, HEND.out _⟩, HOKA, HS3⟩
                       case measure => simp [intOf]; omega)
                  · obtain rfl : k = N := by omega
                    have hkn : decide ((k : Int) < (k : Int)) = false := by simp
                    have b0 : ∀ nb : Bel wr, nb.to.cell? ⟨we.heap.size, 0, none⟩ = some (.string qn) := fun nb => (HX.out.below (next HB.out nb.h)).cell 0
                    go_wp2
                    refine wp_region_bel (by kernel_rfl) (by kernel_rfl) (fun _ => ?_)
                    repeat (go_big_quiet_step (fail))
                    refine wpQuiet_nil ?_
                    intro wn hwn
                    have hbn := bel_out hwn
                    replace HB : Hid (Below w2.heap.size w2 wn) := next HB.out hbn
                    clear hwn hbn b0
                    have HSN : Hid (DG w wn (.slice y k c1) ps) := HS.out.past HB.out
                    have HXN : Hid (Blk wn we.heap.size #[.string qn, .int .i64 qt, .int .i64 1, .int .i64 ql, .string qd] 43) := HX.out.below HB.out
                    clear HB HS HX
                    have FO : Hid (∀ u : World, Calls Try.prog 23 #[.string qn] u fun e w' => e = .returned (.string F) ∧ Below u.heap.size u w') := fun u => refFold_as qn F u HQZ.out.1 (by rw [HFF.out]; exact foldB_list qn)
                    have DGT : Hid (∀ {wa wb : World} {g N5 c5 : Nat}, DG w wa (.slice y k c1) ps → Blk wa we.heap.size #[.string qn, .int .i64 qt, .int .i64 1, .int .i64 ql, .string qd] 43 → wb.ownsRow w.heap.size 25 4 (.slice (some ⟨g, 0, none⟩) N5 c5) N5 (pC ps ++ pV (⟨F, qt, 86400, []⟩, .slice none 0 0)) → wa.grownBy wb (Value.slice y k c1).ownBlock → N5 = k + 1 →
                        ∃ (psx : List (Sn × Value)) (hkp : k < psx.length), DG w wb (.slice (some ⟨g, 0, none⟩) N5 c5) psx ∧ Blk wb we.heap.size #[.string qn, .int .i64 qt, .int .i64 1, .int .i64 ql, .string qd] 43 ∧ (psx.map Prod.fst).set k (updS (psx[k]'hkp).1 ⟨qn, qt, 1, ql, qd⟩) = grpS (rs.take (j + 1)) ∧ (psx[k]'hkp).1.ds.length ≤ 64) := fun {wa wb g N5 c5} hd hx h1 h3 h5 => by
                      have hkl : k = ps.length := HNP.out
                      subst h5
                      have hat : ¬ atS (foldB qn) qt (ps.map Prod.fst) < (ps.map Prod.fst).length := by rw [← HFF.out, ← HAE.out, List.length_map]; omega
                      have hkp2 : k < (ps ++ [((⟨F, qt, 86400, []⟩ : Sn), Value.slice none 0 0)]).length := by simp; omega
                      have hp := app_put (ql := ql) (qd := qd) hkl HFF.out hat hkp2
                      exact ⟨ps ++ [(⟨F, qt, 86400, []⟩, .slice none 0 0)], hkp2, ⟨hd.gs.add ⟨F, qt, 86400, []⟩ rfl (by rw [← hkl]; exact h1) h3, hd.below.grown h3 hd.below.size (fun i e => (hd.gs.own.lt i e).1)⟩, hx.grown h3 (fun e => own_sep4 hd.gs.own hx (by decide) e.symm), by rw [hp.1, HPUT.out, HJ.out.2], hp.2⟩
                    have b0 : wn.cell? ⟨we.heap.size, 0, none⟩ = some (.string qn) := HXN.out.cell 0
                    have b1 : wn.cell? ⟨we.heap.size, 1, none⟩ = some (.int .i64 qt) := HXN.out.cell 1
                    have s2 : True := trivial
                    have s3 : True := trivial
                    go_wp2
                    go_region_held3 (fun u => u.cell? ⟨we.heap.size, 0, none⟩ = some (.string qn) ∧ u.cell? ⟨we.heap.size, 1, none⟩ = some (.int .i64 qt)) (first | (simp only [World.cell?_drew, b0, b1, and_self]; done) | (simp only [s0, s1, and_self]; done) | (simp only [t0, t1, and_self]; done) | (simp only [z0, z1, and_self]; done))
                      (first
                        | (go_at_call 23; go_must (refine (FO.out _).mono ?_); rintro e w3 ⟨rfl, bf⟩; have B3 : Hid (Below wn.heap.size wn w3) := next (below_drew ⟨1, rfl⟩) bf; have s0 : w3.cell? ⟨we.heap.size, 0, none⟩ = some (.string qn) := (HXN.out.below B3.out).cell 0; have s1 : w3.cell? ⟨we.heap.size, 1, none⟩ = some (.int .i64 qt) := (HXN.out.below B3.out).cell 1; have t0 : (w3.alloc (.cells #[.string F, .int .i64 qt, .int .i64 86400, .slice none 0 0] 25)).cell? ⟨we.heap.size, 0, none⟩ = some (.string qn) := ((HXN.out.below B3.out).alloc _).cell 0; have t1 : (w3.alloc (.cells #[.string F, .int .i64 qt, .int .i64 86400, .slice none 0 0] 25)).cell? ⟨we.heap.size, 1, none⟩ = some (.int .i64 qt) := ((HXN.out.below B3.out).alloc _).cell 1; have HD3 : Hid (DG w (w3.alloc (.cells #[.string F, .int .i64 qt, .int .i64 86400, .slice none 0 0] 25)) (.slice y k c1) ps) := HSN.out.past (next B3.out (lay (Below.refl _ _) _)); have HX3 : Hid (Blk (w3.alloc (.cells #[.string F, .int .i64 qt, .int .i64 86400, .slice none 0 0] 25)) we.heap.size #[.string qn, .int .i64 qt, .int .i64 1, .int .i64 ql, .string qd] 43) := (HXN.out.below B3.out).alloc _; have HO2 : (w3.alloc (.cells #[.string F, .int .i64 qt, .int .i64 86400, .slice none 0 0] 25)).ownsRow w.heap.size 25 4 (.slice y k c1) k (pC ps) := (by have h0 := HD3.out.gs.own; rw [← HNP.out] at h0; exact h0); have hrow2 : Row (w3.alloc (.cells #[.string F, .int .i64 qt, .int .i64 86400, .slice none 0 0] 25)) (.slice (some ⟨w3.heap.size, 0, none⟩) 1 1) 1 (pV (⟨F, qt, 86400, []⟩, .slice none 0 0)) := Row.of_blk (Blk.new w3 #[.string F, .int .i64 qt, .int .i64 86400, .slice none 0 0] 25) rfl 1 1; clear bf b0 b1 s2 s3)
                        | ((have _t := HX3; refine step_appG _ (by rfl) (.tmp 73) (.tmp 80) 27 25 i0 _ 4 56 Try.underlying27 hi hz0 hz1 hz2 rfl (by decide) (by rfl) w.heap.size _ k (pC ps) (by rfl) HO2 _ 1 (pV (⟨F, qt, 86400, []⟩, .slice none 0 0)) (by rfl) hrow2 rfl (by intro u hu; simp [pV] at hu; rcases hu with rfl | rfl | rfl | rfl <;> rfl) (by omega) (by unfold maxLen; omega) HD3.out.below.size ?_; intro v5 w5 h1 h3 _; obtain ⟨N5, hN5⟩ : ∃ z, z = k + 1 := ⟨_, rfl⟩; rw [← hN5] at h1; obtain ⟨g, c5, hv5, _, _⟩ := h1.form (by omega); subst hv5; have HTOT : Hid (∃ (psx : List (Sn × Value)) (hkp : k < psx.length), DG w w5 (.slice (some ⟨g, 0, none⟩) N5 c5) psx ∧ Blk w5 we.heap.size #[.string qn, .int .i64 qt, .int .i64 1, .int .i64 ql, .string qd] 43 ∧ (psx.map Prod.fst).set k (updS (psx[k]'hkp).1 ⟨qn, qt, 1, ql, qd⟩) = grpS (rs.take (j + 1)) ∧ (psx[k]'hkp).1.ds.length ≤ 64) := DGT.out HD3.out HX3.out h1 h3 hN5; have hkn5 : (k : Int) < (N5 : Int) := (by omega); have hN65 : N5 ≤ 65 := (by omega); clear hN5; have z0 : w5.cell? ⟨we.heap.size, 0, none⟩ = some (.string qn) := (by obtain ⟨_, _, _, hx, _⟩ := HTOT.out; exact hx.cell 0); have z1 : w5.cell? ⟨we.heap.size, 1, none⟩ = some (.int .i64 qt) := (by obtain ⟨_, _, _, hx, _⟩ := HTOT.out; exact hx.cell 1); clear h1 h3)))
                    obtain ⟨psx, hkp, HSN', HXN', HG1', HDL'⟩ := HTOT.out
                    have HSN5 : Hid (DG w w5 (.slice (some ⟨g, 0, none⟩) N5 c5) psx) := HSN'
                    have HXN5 : Hid (Blk w5 we.heap.size #[.string qn, .int .i64 qt, .int .i64 1, .int .i64 ql, .string qd] 43) := HXN'
                    have HG1 : Hid ((psx.map Prod.fst).set k (updS (psx[k]'hkp).1 ⟨qn, qt, 1, ql, qd⟩) = grpS (rs.take (j + 1))) := HG1'
                    have HDL : Hid ((psx[k]'hkp).1.ds.length ≤ 64) := HDL'
                    clear HSN' HXN' HG1' HDL' HTOT DGT FO s0 s1 t0 t1 z0 z1 HD3 HX3 HO2 hrow2 B3 HSN HXN hkn
                    have HTAIL : Hid (∃ (sl : Int) (ds : List ByteArray) (yd : Option Addr) (M cd : Nat), w5.cell? ⟨g, k * 4 + 2, none⟩ = some (.int .i64 sl) ∧ w5.frozen? ⟨g, k * 4 + 2, none⟩ = false ∧
                        ∃ (ps2 : List (Sn × Value)) (hk2 : k < ps2.length), ps2.length = psx.length ∧ DG w (w5.setCell ⟨g, k * 4 + 2, none⟩ (.int .i64 (min sl ql))).drew (.slice (some ⟨g, 0, none⟩) N5 c5) ps2 ∧ ps2[k].1.ds = ds ∧ ps2[k].2 = .slice yd M cd ∧ M ≤ 64 ∧ ds.length = M ∧
                        Blk (w5.setCell ⟨g, k * 4 + 2, none⟩ (.int .i64 (min sl ql))).drew we.heap.size #[.string qn, .int .i64 qt, .int .i64 1, .int .i64 ql, .string qd] 43 ∧ ∀ v2 : Value, (ps2.set k (⟨ps2[k].1.n, ps2[k].1.t, ps2[k].1.l, insB qd ds⟩, v2)).map Prod.fst = grpS (rs.take (j + 1))) := by
                      obtain ⟨yd, cd, hvd⟩ := row_shape (HSN5.out.gs.dat _ (List.getElem_mem hkp))
                      have h4 := own_four HSN5.out.gs.own hkp
                      have hg := HSN5.out.gs.own.lt g rfl
                      have hne := own_sep4 HSN5.out.gs.own HXN5.out (by decide)
                      have T := Turn.of_set (S := fun i => i = g) w5 (p := ⟨g, k * 4 + 2, none⟩) rfl (.int .i64 (min psx[k].1.l ql))
                      have T2 := T.same ((Turn.of_below (below_drew ⟨1, rfl⟩)))
                      refine ⟨psx[k].1.l, psx[k].1.ds, yd, psx[k].1.ds.length, cd, h4.1.2.2.1, h4.2.2.2.1, psx.set k (⟨psx[k].1.n, psx[k].1.t, min psx[k].1.l ql, psx[k].1.ds⟩, psx[k].2), by rw [List.length_set]; exact hkp, List.length_set, ⟨(HSN5.out.gs.setL hkp (min psx[k].1.l ql)).below (below_drew ⟨1, rfl⟩), Turn.below HSN5.out.below T2 HSN5.out.below.size (fun i e => by rw [e]; exact hg.1)⟩, by simp, by simpa using hvd, HDL.out, rfl, T2.blk HXN5.out (fun e => hne (by rw [e]; rfl)), fun v2 => ?_⟩
                      rw [← HG1.out, List.set_set, List.map_set]
                      simp [updS]
                    obtain ⟨sl, ds, yd, M, cd, a2, f2, ps2, hk2, hl2, hdg, hds, hvd, hM, hdl, hbx, hend⟩ := HTAIL.out
                    obtain ⟨wm, hwm⟩ : ∃ z, z = (w5.setCell ⟨g, k * 4 + 2, none⟩ (.int .i64 (min sl ql))).drew := ⟨_, rfl⟩
                    rw [← hwm] at hdg hbx
                    have HWM : Hid ((w5.setCell ⟨g, k * 4 + 2, none⟩ (.int .i64 (min sl ql))).drew = wm) := hwm.symm
                    have HDG : Hid (DG w wm (.slice (some ⟨g, 0, none⟩) N5 c5) ps2) := hdg
                    have HEND : Hid (∀ v2 : Value, (ps2.set k (⟨ps2[k].1.n, ps2[k].1.t, ps2[k].1.l, insB qd ds⟩, v2)).map Prod.fst = grpS (rs.take (j + 1))) := hend
                    have HL2 : Hid (N5 = ps2.length) := own_len hdg.gs.own
                    have HIN : Hid (∀ u : World, Below wm.heap.size wm u → Calls Try.prog 33 #[.slice yd M cd, .string qd] u fun e w' => ∃ v', e = .returned v' ∧ w'.ownsRow w.heap.size 9 1 v' (insB qd ds).length (tC (insB qd ds)) ∧ Below u.heap.size u w' ∧ ∀ k', v'.ownBlock = some k' → (Value.slice yd M cd).ownBlock = some k' ∨ u.heap.size ≤ k') := fun u hu => by
                      have h1 := hdg.gs.dat _ (List.getElem_mem hk2)
                      rw [hvd, hds] at h1
                      exact refInsert_any _ ds qd u (own_past h1 hu) (by omega) (Nat.le_trans hdg.below.size hu.size)
                    have HST : Hid (∀ {w3 : World} {v2 : Value}, Below wm.heap.size wm w3 → w3.ownsRow w.heap.size 9 1 v2 (insB qd ds).length (tC (insB qd ds)) → (∀ k', v2.ownBlock = some k' → (Value.slice yd M cd).ownBlock = some k' ∨ wm.heap.size ≤ k') → DG w (w3.setCell ⟨g, k * 4 + 3, none⟩ v2) (.slice (some ⟨g, 0, none⟩) N5 c5) (ps2.set k (⟨ps2[k].1.n, ps2[k].1.t, ps2[k].1.l, insB qd ds⟩, v2)) ∧ (∃ z, w3.cell? ⟨g, k * 4 + 3, none⟩ = some z) ∧ w3.frozen? ⟨g, k * 4 + 3, none⟩ = false) := fun {w3 v2} h1 h2 h3 => by
                      have h4 := own_four (hdg.gs.below h1).own hk2
                      have hg := hdg.gs.own.lt g rfl
                      exact ⟨⟨hdg.gs.setD hk2 h1 h2 (fun i hi => by rw [hvd]; exact h3 i hi), (next hdg.below h1).setCell hg.1 _⟩, ⟨_, h4.1.2.2.2⟩, h4.2.2.2.2⟩
                    have q3 : wm.cell? ⟨g, k * 4 + 3, none⟩ = some (.slice yd M cd) := by rw [(own_four hdg.gs.own hk2).1.2.2.2, hvd]
                    have q4 : wm.cell? ⟨we.heap.size, 4, none⟩ = some (.string qd) := hbx.cell 4
                    have hcdm : M ≤ cd := by
                      have h1 := hdg.gs.dat _ (List.getElem_mem hk2)
                      rw [hvd] at h1
                      rcases h1.2 with ⟨e, e0⟩ | ⟨g5, cap5, cur5, e, _, _, hnc, _, _⟩
                      · simp at e; obtain ⟨_, rfl, rfl⟩ := e; exact Nat.le_refl _
                      · simp at e; obtain ⟨_, e6, rfl⟩ := e; rw [e6]; exact hnc
                    have b3 : w5.cell? ⟨we.heap.size, 3, none⟩ = some (.int .i64 ql) := HXN5.out.cell 3
                    clear hdg hds hvd hdl hbx hend hwm HTAIL HG1 HDL HSN5 HXN5 hl2
                    go_wp2
                    go_region
                    rw [HWM.out]
                    clear a2 f2 b3 HWM
                    go_wp2
                    go_region_with (go_at_call 33; go_must (refine (HIN.out _ (below_drew ⟨1, rfl⟩)).mono ?_); rintro e w3 ⟨v2, rfl, o3, b3, n3⟩; obtain ⟨y2, c2, hv2⟩ := row_shape o3; obtain ⟨hs3, ⟨z3, r3⟩, f3⟩ := HST.out (next (below_drew ⟨1, rfl⟩) b3) o3 n3; subst hv2; have HS3 := hs3; clear o3 b3 n3 hs3)
                    all_goals
                      (go_wp2
                       go_roundw
                       case rel => exact ⟨j + 1, N5, c5, _, ps2.set k (_, _), rfl, by go_num, by omega, ⟨by rw [List.length_set]; exact HL2.out, HEND.out _⟩, HOKA, HS3⟩
                       case measure => simp [intOf]; omega)
            · have hcl' : (qc == 1) = false := by simpa using hcl
              have HSAME : Hid (grpS (rs.take (j + 1)) = grpS (rs.take j)) := by unfold Hid; rw [HGT.out]; unfold stepS; rw [if_neg hcl]
              go_wp2_with (first | (go_at_call 29; go_must (refine (M1.out _).mono ?_); rintro e w1 ⟨rfl, b1⟩; have HX : Hid (Blk w1 wr.heap.size #[.string qn, .int .i64 qt, .int .i64 qc, .int .i64 ql, .string qd] 43) := K0.out.below b1; have HB1 : Hid (Below (wr.alloc (.cells #[.string qn, .int .i64 qt, .int .i64 qc, .int .i64 ql, .string qd] 43)).heap.size (wr.alloc (.cells #[.string qn, .int .i64 qt, .int .i64 qc, .int .i64 ql, .string qd] 43)) w1) := b1; have x1 : w1.cell? ⟨wr.heap.size, 1, none⟩ = some (.int .i64 qt) := HX.out.cell 1; have x2 : w1.cell? ⟨wr.heap.size, 2, none⟩ = some (.int .i64 qc) := HX.out.cell 2; have x3 : w1.cell? ⟨wr.heap.size, 3, none⟩ = some (.int .i64 ql) := HX.out.cell 3; have x4 : w1.cell? ⟨wr.heap.size, 4, none⟩ = some (.string qd) := HX.out.cell 4; clear b1) | (go_at_call 30; go_must (refine (M2.out _).mono ?_); rintro e w' ⟨rfl, hw⟩; obtain rfl := hw.symm) | (go_at_call 31; go_must (refine (M3.out _).mono ?_); rintro e w2 ⟨rfl, b2⟩; replace HB1 : Hid (Below (wr.alloc (.cells #[.string qn, .int .i64 qt, .int .i64 qc, .int .i64 ql, .string qd] 43)).heap.size (wr.alloc (.cells #[.string qn, .int .i64 qt, .int .i64 qc, .int .i64 ql, .string qd] 43)) w2) := next HB1.out b2; replace HX : Hid (Blk w2 wr.heap.size #[.string qn, .int .i64 qt, .int .i64 qc, .int .i64 ql, .string qd] 43) := K0.out.below HB1.out; have y2 : w2.cell? ⟨wr.heap.size, 2, none⟩ = some (.int .i64 qc) := HX.out.cell 2; clear b2))
              go_roundw
              case rel => exact ⟨j + 1, N, c1, y, ps, rfl, by go_num, by omega, ⟨HJ.out.1, by rw [HSAME.out]; exact HJ.out.2⟩, HOKA, HS.out.past (next (lay (Below.refl _ _) _) HB1.out)⟩
              case measure => simp [intOf]; omega
    · have hjn' : decide ((j : Int) < (n : Int)) = false := by simp; omega
      have hjN : j = n := by omega
      have HE : Hid (badG rs = false) := by
        have hl := HN.out
        exact bad_no (by omega) (fun i hi => HOK.out i hi (by omega))
      have HT : Hid (rs.take j = rs) := by unfold Hid; rw [List.take_of_length_le (by have := HN.out; omega)]
      go_wp2
      go_ret2
      obtain ⟨e1, e2⟩ := HF0.out HE.out
      have hNp := HJ.out.1
      subst hNp
      exact ⟨y, c1, ps, by rw [e1]; rfl, by rw [e2, HJ.out.2, HT.out], HS.out.gs, HS.out.below⟩

end Go.Proofs.Ytdaegnmokaibpaa
