/- What Group gives: the sets of the records, or an error. -/
import Derived.Test.YtdaegnmokaibpaaSeF
import Derived.Deep.DeepCutAuto
namespace Go.Proofs.Ytdaegnmokaibpaa
open Go.RowKit
open Pl

set_option maxRecDepth 20000 in
theorem group_bad (v : Value) (rs : List Rc) (w : World) (h : RRow w v rs) (hb : badG rs = true) :
    Calls Try.prog 10 #[v] w fun e w' => e = .returned (.tuple #[.slice none 0 0, .int .i64 1100]) ∧ Below w.heap.size w w' := by
  obtain ⟨x, c, hv⟩ := row_slice h.1
  subst hv
  have hm := h.2.1
  by_cases h64 : 64 < rs.length
  · have h64' : (64 : Int) < (rs.length : Int) := by omega
    unfold maxLen at hm
    go_enter Try.func10, Try.ntmps10
    go_wp2
    go_ret2
    exact ⟨rfl, Below.refl _ _⟩
  · have h64' : decide ((64 : Int) < (rs.length : Int)) = false := by simp; omega
    have hany : rs.any (fun r => !okR r) = true := by
      unfold badG at hb
      rw [Bool.or_eq_true, decide_eq_true_eq] at hb
      exact hb.resolve_left h64
    have hc := containsR_any (.slice x rs.length c) rs w h true hany
    unfold wrongF at hc
    unfold maxLen at hm
    clear hb hany h
    go_enter Try.func10, Try.ntmps10
    go_wp2_with (go_at_call 25; go_must (refine hc.mono ?_); rintro e w1 ⟨rfl, b1⟩)
    go_ret2
    exact ⟨rfl, b1⟩

theorem map_blk {w : World} {b n g : Nat} {D : DataW Unit} {C : Array Value} {t : TypeId} (h : w.ownsMap Try.prog 61 (plainElem Try.prog 3) b n D) (hk : Blk w g C t) : b ≠ g := by
  rintro rfl
  obtain ⟨es, clock, hb, _⟩ := h
  unfold Blk at hk
  rw [hb] at hk
  simp at hk
theorem put_pre {r : Rc} {ss : List Sn} (h : ¬ atS (foldB r.n) r.t ss < ss.length) : putS r ss = (ss ++ [frS r]).set ss.length (updS (frS r) r) := by
  have e : atS (foldB r.n) r.t ss = ss.length := by have := atS_le (foldB r.n) r.t ss; omega
  rw [putS_new e]
  simp

set_option maxRecDepth 20000 in
set_option maxHeartbeats 4000000 in
theorem group_ok (v : Value) (rs : List Rc) (w : World) (h : RRow w v rs) (hb : badG rs = false) :
    Calls Try.prog 10 #[v] w fun e w' => ∃ (y : Option Addr) (c : Nat) (ps : List (Sn × Value)), e = .returned (.tuple #[.slice y ps.length c, .int .i64 0]) ∧ ps.map Prod.fst = grpS rs ∧ GS w.heap.size w' (.slice y ps.length c) ps ∧ Below w.heap.size w w' := by
  obtain ⟨i0, hi, hz0, hz1, hz2⟩ := info_parts infoS
  obtain ⟨n, hn⟩ : ∃ n, n = rs.length := ⟨_, rfl⟩
  obtain ⟨x, c, hv⟩ := row_slice h.1
  subst hv
  unfold badG at hb
  rw [Bool.or_eq_false_iff, decide_eq_false_iff_not] at hb
  obtain ⟨hb1, hb2⟩ := hb
  have hc := containsR_any (.slice x rs.length c) rs w h false hb2
  unfold wrongF at hc
  have HOK : Hid (∀ r ∈ rs, okR r = true) := fun r hr => by
    have := List.any_eq_false.1 hb2 r hr
    simpa using this
  rw [← hn] at hc ⊢ h hb1
  have hn64 : n ≤ 64 := by omega
  have h64' : decide ((64 : Int) < (n : Int)) = false := by simp; omega
  have HR : Hid (RRow w (.slice x n c) rs) := h
  have HN : Hid (n = rs.length) := hn
  have hmm := @run_makeMap Try.prog
  clear hb1 hb2 h hn
  go_enter Try.func10, Try.ntmps10
  go_wp2_with (go_at_call 25; go_must (refine hc.mono ?_); rintro e w1 ⟨rfl, b1⟩; have HS : Hid (GAt w (w1.alloc (.map #[] 0)) (.slice none 0 0) [] w1.heap.size (.map [])) := ⟨GS.nil _ _, World.ownsMap_made _ _ _ _, mapIs_nil, b1.size, lay b1 _⟩; clear b1 hc)
  obtain ⟨b, hbb⟩ : ∃ b, b = w1.heap.size := ⟨_, rfl⟩
  rw [← hbb] at HS ⊢
  clear hbb hmm
  go_loopw [4, 21] (fun ov iv wr => ∃ (j N c : Nat) (y : Option Addr) (ps : List (Sn × Value)) (D : DataW Unit), ov = .slice y N c ∧ iv = .int .i64 (j : Int) ∧ j ≤ n ∧ Hid (N = ps.length ∧ ps.map Prod.fst = grpS (rs.take j)) ∧ Hid (GAt w wr (.slice y N c) ps b D)) (fun _ i _ => n - (intOf i).toNat)
  case atStart => exact ⟨0, 0, 0, none, [], _, rfl, rfl, Nat.zero_le _, ⟨rfl, rfl⟩, HS⟩
  case round =>
    clear HS
    obtain ⟨j, N, c1, y, ps, D, rfl, rfl, hjn, HJ, HS⟩ := hrel
    by_cases hlt : j < n
    · have hjm : j < rs.length := by have := HN.out; omega
      have hjn' : (j : Int) < (n : Int) := by omega
      have HOKJ : Hid (okR rs[j] = true) := HOK.out _ (List.getElem_mem hjm)
      obtain ⟨g', o, cap, hx, hcc⟩ := row_at (HN.out ▸ (HR.out.below HS.out.below).1) (by omega)
      simp only [Value.slice.injEq] at hx
      obtain ⟨rfl, -, rfl⟩ := hx
      obtain ⟨d0, d1, d2, d3, d4⟩ := r_cells hcc hjm
      have HGT : Hid (grpS (rs.take (j + 1)) = stepS (grpS (rs.take j)) rs[j]) := grpS_take hjm
      have HGG : Hid (∀ s ∈ grpS (rs.take j), Rises s.ds ∧ s.ds.length ≤ 64) := fun s hs => by
        have h1 := (grpS_good (rs.take j)).2 s hs
        rw [List.length_take] at h1
        exact ⟨h1.1, by omega⟩
      have HNL : Hid (N ≤ 64) := by
        have h1 := (grpS_good (rs.take j)).1
        have h2 := HJ.out
        rw [← h2.2, List.length_map, List.length_take, ← h2.1] at h1
        unfold Hid; omega
      obtain ⟨q, hq⟩ : ∃ q, q = rs[j] := ⟨_, rfl⟩
      simp only [← hq] at d0 d1 d2 d3 d4 HOKJ HGT
      have HSZ : Hid (q.n.size ≤ maxLen) := by unfold Hid; have := name_size (ok_parts HOKJ.out).1; unfold maxLen; omega
      have HQD : Hid (q.d.size ≤ 1000000) := by unfold Hid; have := (ok_small HOKJ.out).2.2; omega
      have HKEY : Hid (keyOf Try.prog 61 (.agg #[.string (foldB q.n), .int .i64 q.t]) = some (keyR (foldB q.n) q.t)) := keyOf_r (by have := (ok_small HOKJ.out).1; unfold maxLen; omega) (wf_small (ok_small HOKJ.out).2.1)
      have HLOOK : Hid (Maps.has D (keyR (foldB q.n) q.t) = decide (atS (foldB q.n) q.t (ps.map Prod.fst) < ps.length) ∧ (atS (foldB q.n) q.t (ps.map Prod.fst) < ps.length → D.atKey (keyR (foldB q.n) q.t) (.lit (.int .i64 0)) = .lit (.int .i64 (atS (foldB q.n) q.t (ps.map Prod.fst) : Nat)))) := HS.out.look HOKJ.out
      have HQ : Hid (⟨q.n, q.t, q.c, q.l, q.d⟩ = q) := rfl
      obtain ⟨qn, hqn⟩ : ∃ z, z = q.n := ⟨_, rfl⟩
      obtain ⟨qt, hqt⟩ : ∃ z, z = q.t := ⟨_, rfl⟩
      obtain ⟨qc, hqc⟩ : ∃ z, z = q.c := ⟨_, rfl⟩
      obtain ⟨ql, hql⟩ : ∃ z, z = q.l := ⟨_, rfl⟩
      obtain ⟨qd, hqd⟩ : ∃ z, z = q.d := ⟨_, rfl⟩
      simp only [← hqn, ← hqt, ← hqc, ← hql, ← hqd] at d0 d1 d2 d3 d4 HSZ HQD HKEY HLOOK HQ
      clear hcc hq hqn hqt hqc hql hqd
      by_cases hcl : qc = 1
      · subst hcl
        have HPUT : Hid (grpS (rs.take (j + 1)) = putS q (grpS (rs.take j))) := by unfold Hid; rw [HGT.out]; unfold stepS; rw [← HQ.out]; rfl
        go_wp2
        go_cut [8] (fun z wx => ∃ gk, z = .pointer (some ⟨gk, 0, none⟩) ∧ Hid (Blk wx gk #[.string (foldB qn), .int .i64 qt] 61 ∧ Below (wr.alloc (.cells #[.string qn, .int .i64 qt, .int .i64 1, .int .i64 ql, .string qd] 43)).heap.size (wr.alloc (.cells #[.string qn, .int .i64 qt, .int .i64 1, .int .i64 ql, .string qd] 43)) wx))
        case first =>
          clear HS HR HN HJ HOK HGT HPUT HLOOK HKEY HGG HOKJ
          have k0 := Blk.new wr #[.string qn, .int .i64 qt, .int .i64 1, .int .i64 ql, .string qd] 43
          have k1 := k0.alloc (.cells #[.string ⟨#[]⟩, .int .i64 0] 61)
          have kk := Blk.new (wr.alloc (.cells #[.string qn, .int .i64 qt, .int .i64 1, .int .i64 ql, .string qd] 43)) #[.string ⟨#[]⟩, .int .i64 0] 61
          rw [World.size_alloc] at kk
          have K0 : Hid (Blk (wr.alloc (.cells #[.string qn, .int .i64 qt, .int .i64 1, .int .i64 ql, .string qd] 43)) wr.heap.size #[.string qn, .int .i64 qt, .int .i64 1, .int .i64 ql, .string qd] 43) := k0
          have K1 : Hid (Blk ((wr.alloc (.cells #[.string qn, .int .i64 qt, .int .i64 1, .int .i64 ql, .string qd] 43)).alloc (.cells #[.string ⟨#[]⟩, .int .i64 0] 61)) wr.heap.size #[.string qn, .int .i64 qt, .int .i64 1, .int .i64 ql, .string qd] 43) := k1
          have KK : Hid (Blk ((wr.alloc (.cells #[.string qn, .int .i64 qt, .int .i64 1, .int .i64 ql, .string qd] 43)).alloc (.cells #[.string ⟨#[]⟩, .int .i64 0] 61)) (wr.heap.size + 1) #[.string ⟨#[]⟩, .int .i64 0] 61) := kk
          clear k0 k1 kk
          go_region_with (go_at_call 27; go_must (refine (fold_any qn _ HSZ.out).mono ?_); rintro e w2 ⟨rfl, b2⟩; first | (have B2 : Below (wr.alloc (.cells #[.string qn, .int .i64 qt, .int .i64 1, .int .i64 ql, .string qd] 43)).heap.size (wr.alloc (.cells #[.string qn, .int .i64 qt, .int .i64 1, .int .i64 ql, .string qd] 43)) w2 := next (below_drew ⟨1, rfl⟩) b2; have x1 : w2.cell? ⟨wr.heap.size, 1, none⟩ = some (.int .i64 qt) := (K0.out.below B2).cell 1; have x2 : (w2.alloc (.cells #[.string ⟨#[]⟩, .int .i64 0] 61)).cell? ⟨wr.heap.size, 1, none⟩ = some (.int .i64 qt) := ((K0.out.below B2).alloc _).cell 1; have BB : Hid (Below (wr.alloc (.cells #[.string qn, .int .i64 qt, .int .i64 1, .int .i64 ql, .string qd] 43)).heap.size (wr.alloc (.cells #[.string qn, .int .i64 qt, .int .i64 1, .int .i64 ql, .string qd] 43)) w2) := B2; clear b2 B2) | (have B2 : Below ((wr.alloc (.cells #[.string qn, .int .i64 qt, .int .i64 1, .int .i64 ql, .string qd] 43)).alloc (.cells #[.string ⟨#[]⟩, .int .i64 0] 61)).heap.size ((wr.alloc (.cells #[.string qn, .int .i64 qt, .int .i64 1, .int .i64 ql, .string qd] 43)).alloc (.cells #[.string ⟨#[]⟩, .int .i64 0] 61)) w2 := next (below_drew ⟨1, rfl⟩) b2; have x1 : w2.cell? ⟨wr.heap.size, 1, none⟩ = some (.int .i64 qt) := (K1.out.below B2).cell 1; have y0 : w2.cell? ⟨wr.heap.size + 1, 0, none⟩ = some (.string ⟨#[]⟩) := (KK.out.below B2).cell 0; have y1 : w2.cell? ⟨wr.heap.size + 1, 1, none⟩ = some (.int .i64 0) := (KK.out.below B2).cell 1; have f0 := (KK.out.below B2).frozen 0; have f1 := (KK.out.below B2).frozen 1; have KB : Hid (Blk w2 (wr.heap.size + 1) #[.string ⟨#[]⟩, .int .i64 0] 61) := KK.out.below B2; have BB : Hid (Below (wr.alloc (.cells #[.string qn, .int .i64 qt, .int .i64 1, .int .i64 ql, .string qd] 43)).heap.size (wr.alloc (.cells #[.string qn, .int .i64 qt, .int .i64 1, .int .i64 ql, .string qd] 43)) w2) := next (lay (Below.refl _ _) _) B2; clear b2 B2))
          all_goals (go_wp2_with fail; go_meet)
          all_goals first
            | exact ⟨_, rfl, Blk.new w2 _ _, next BB.out (lay (Below.refl _ _) _)⟩
            | exact ⟨_, rfl, (KB.out.set 0 _).set 1 _, (BB.out.setCell (by rw [World.size_alloc]; exact Nat.le_refl _) _).setCell (by rw [World.size_alloc]; exact Nat.le_refl _) _⟩
        case rest =>
          obtain ⟨gk, rfl, HC⟩ := hcut
          have HS1 : Hid (GAt w wc (.slice y N c1) ps b D) := HS.out.past (next (lay (Below.refl _ _) _) HC.out.2)
          have HX : Hid (Blk wc wr.heap.size #[.string qn, .int .i64 qt, .int .i64 1, .int .i64 ql, .string qd] 43) := (Blk.new wr _ _).below HC.out.2
          have HKB : Hid (Blk wc gk #[.string (foldB qn), .int .i64 qt] 61) := HC.out.1
          have HM : Hid (wc.ownsMap Try.prog 61 (plainElem Try.prog 3) b ps.length D) := HS1.out.map
          have k0 : wc.cell? ⟨gk, 0, none⟩ = some (.string (foldB qn)) := HKB.out.cell 0
          have k1 : wc.cell? ⟨gk, 1, none⟩ = some (.int .i64 qt) := HKB.out.cell 1
          obtain ⟨F, hF⟩ : ∃ F, F = foldB qn := ⟨_, rfl⟩
          have HFF : Hid (F = foldB qn) := hF
          rw [← hF] at k0 HKEY HLOOK HKB
          clear HS HC hF d0 d1 d2 d3 d4
          by_cases hf : atS F qt (ps.map Prod.fst) < ps.length
          · obtain ⟨k, hk⟩ : ∃ k, k = atS F qt (ps.map Prod.fst) := ⟨_, rfl⟩
            have HHAS : Hid (Maps.has D (keyR F qt) = true) := by unfold Hid; rw [HLOOK.out.1]; simpa using hf
            have HCI : Hid (∀ ci : Int, D.atKey (keyR F qt) (.lit (.int .i64 0)) = .lit (.int .i64 ci) → ci = (k : Int)) := fun ci h => by
              have := HLOOK.out.2 hf
              rw [h] at this
              simp at this
              rw [this, hk]
            have hkp : k < ps.length := by rw [hk]; exact hf
            have HG1 : Hid ((ps.map Prod.fst).set k (updS (ps[k]'hkp).1 q) = grpS (rs.take (j + 1))) := by
              unfold Hid
              have e : F = foldB q.n := by rw [HFF.out, ← HQ.out]
              have e2 : qt = q.t := by rw [← HQ.out]
              have hf2 : atS (foldB q.n) q.t (ps.map Prod.fst) < (ps.map Prod.fst).length := by rw [← e, ← e2, List.length_map]; exact hf
              rw [HPUT.out, ← HJ.out.2, putS_old hf2]
              have hk2 : atS (foldB q.n) q.t (ps.map Prod.fst) = k := by rw [hk, e, e2]
              simp only [hk2, List.getElem_map]
            clear hf hk
            go_wp2_with (at_lookup; refine wpList_lookup_own_ok_int _ rfl (.tmp 35) (.tmp 36) 59 rfl 61 3 .i64 keyT Try.underlying59 Try.underlying3 (zero3 _) b ps.length D rfl HM.out _ (keyR F qt) rfl HKEY.out ?_; intro ci hat _; rw [HHAS.out]; obtain rfl := HCI.out ci hat; clear hat)
            have HGG2 : Hid (∀ i (hi : i < ps.length), Rises ps[i].1.ds ∧ ps[i].1.ds.length ≤ 64) := fun i hi => HGG.out _ (by rw [← HJ.out.2]; exact List.mem_map_of_mem (List.getElem_mem hi))
            obtain ⟨g, cap2, hv, _, _⟩ := HS1.out.gs.own.form (by omega)
            simp only [Value.slice.injEq] at hv
            obtain ⟨rfl, hNp, rfl⟩ := hv
            have HGS : Hid (GAt w wc (.slice (some ⟨g, 0, none⟩) N c1) ps b D) := HS1.out
            have hkn : (k : Int) < (N : Int) := by omega
            obtain ⟨⟨a0, a1, a2, a3⟩, _⟩ := own_four HGS.out.gs.own hkp
            have hdat := HGS.out.gs.dat _ (List.getElem_mem hkp)
            have hin := HGG2.out _ hkp
            obtain ⟨yd, cd, hvd⟩ := row_shape hdat
            have HW : Hid (Calls Try.prog 28 #[.agg #[.string ps[k].1.n, .int .i64 ps[k].1.t, .int .i64 ps[k].1.l, ps[k].2], .agg #[.string qn, .int .i64 qt, .int .i64 1, .int .i64 ql, .string qd]] wc.drew fun e w' => ∃ v', e = .returned (.agg #[.string ps[k].1.n, .int .i64 ps[k].1.t, .int .i64 (min ps[k].1.l ql), v']) ∧ w'.ownsRow w.heap.size 9 1 v' (insB qd ps[k].1.ds).length (tC (insB qd ps[k].1.ds)) ∧ Turn (fun k' => ps[k].2.ownBlock = some k') wc.drew w' ∧ ∀ k', v'.ownBlock = some k' → ps[k].2.ownBlock = some k' ∨ wc.drew.heap.size ≤ k') := with_any _ _ _ _ _ _ _ _ _ _ _ hdat.drew hin.1 (by have := hin.2; omega) HQD.out HGS.out.below.size
            have ST : Hid (∀ {v2 : Value} {w3 : World}, w3.ownsRow w.heap.size 9 1 v2 (insB qd ps[k].1.ds).length (tC (insB qd ps[k].1.ds)) → Turn (fun k' => ps[k].2.ownBlock = some k') wc.drew w3 → (∀ k', v2.ownBlock = some k' → ps[k].2.ownBlock = some k' ∨ wc.drew.heap.size ≤ k') →
                GAt w (put4at w3 g k (.string ps[k].1.n) (.int .i64 ps[k].1.t) (.int .i64 (min ps[k].1.l ql)) v2) (.slice (some ⟨g, 0, none⟩) N c1) (ps.set k (⟨ps[k].1.n, ps[k].1.t, min ps[k].1.l ql, insB qd ps[k].1.ds⟩, v2)) b D ∧
                (w3.cell? ⟨g, k * 4, none⟩ = some (.string ps[k].1.n) ∧ w3.cell? ⟨g, k * 4 + 1, none⟩ = some (.int .i64 ps[k].1.t) ∧ w3.cell? ⟨g, k * 4 + 2, none⟩ = some (.int .i64 ps[k].1.l) ∧ w3.cell? ⟨g, k * 4 + 3, none⟩ = some ps[k].2) ∧
                (w3.frozen? ⟨g, k * 4, none⟩ = false ∧ w3.frozen? ⟨g, k * 4 + 1, none⟩ = false ∧ w3.frozen? ⟨g, k * 4 + 2, none⟩ = false ∧ w3.frozen? ⟨g, k * 4 + 3, none⟩ = false)) := fun h1 h2 h3 => by
              have h2' : Turn (fun k' => ps[k].2.ownBlock = some k') wc _ := (Turn.of_below (below_drew ⟨1, rfl⟩)).same h2
              exact ⟨HGS.out.put (s := ⟨ps[k].1.n, ps[k].1.t, min ps[k].1.l ql, insB qd ps[k].1.ds⟩) hkp h2' h1 h3 ⟨rfl, rfl⟩, own_four (HGS.out.still hkp h2') hkp⟩
            have HG2 : Hid (∀ v2 : Value, (ps.set k (⟨ps[k].1.n, ps[k].1.t, min ps[k].1.l ql, insB qd ps[k].1.ds⟩, v2)).map Prod.fst = grpS (rs.take (j + 1))) := fun v2 => by
              rw [← HG1.out, List.map_set]
              unfold updS
              rw [← HQ.out]
            obtain ⟨x0, x1, x2, x3, x4⟩ := HX.out.five5
            obtain ⟨sn, hsn⟩ : ∃ z, z = ps[k].1.n := ⟨_, rfl⟩
            obtain ⟨st, hst⟩ : ∃ z, z = ps[k].1.t := ⟨_, rfl⟩
            obtain ⟨sl, hsl⟩ : ∃ z, z = ps[k].1.l := ⟨_, rfl⟩
            obtain ⟨sd, hsd⟩ : ∃ z, z = ps[k].1.ds := ⟨_, rfl⟩
            obtain ⟨sv, hsv⟩ : ∃ z, z = ps[k].2 := ⟨_, rfl⟩
            simp only [← hsn, ← hst, ← hsl, ← hsd, ← hsv] at a0 a1 a2 a3 HW ST HG2 hvd
            have HNP : Hid (N = ps.length) := hNp
            subst hvd
            clear hdat hin hsn hst hsl hsd hsv hNp HG1
            go_region_with (go_at_call 28; go_must (refine HW.out.mono ?_); rintro e w3 ⟨v2, rfl, o3, t3, n3⟩; obtain ⟨y2, c2, hv2⟩ := row_shape o3; obtain ⟨hs3, ⟨r0, r1, r2, r3⟩, ⟨f0, f1, f2, f3⟩⟩ := ST.out o3 t3 n3; subst hv2; have HS3 := hs3; clear o3 t3 n3 hs3)
            all_goals
              (go_wp2
               go_roundw
               case rel => exact ⟨j + 1, N, c1, _, ps.set k (_, _), D, rfl, by go_num, by omega, ⟨by rw [List.length_set]; exact HNP.out, HG2.out _⟩, HS3⟩
               case measure => simp [intOf]; omega)
          · have hat : atS F qt (ps.map Prod.fst) = ps.length := by
              have := atS_le F qt (ps.map Prod.fst)
              rw [List.length_map] at this
              omega
            have HHAS : Hid (Maps.has D (keyR F qt) = false) := by unfold Hid; rw [HLOOK.out.1]; simpa using hf
            have hN64 : N ≤ 64 := HNL.out
            have hwf : (Lit.int .i64 (N : Int)).wf = true := WalkArith.wf_i64 (by omega)
            have HMN : Hid (wc.ownsMap Try.prog 61 (plainElem Try.prog 3) b N D) := by unfold Hid; rw [HJ.out.1]; exact HM.out
            have hplain : plainElem (H := Unit) Try.prog 3 (.int .i64 (N : Int)) = some (.lit (.int .i64 (N : Int)), []) := plainElem_int Try.underlying3 hwf
            have e1 : F = foldB q.n := by rw [HFF.out, ← HQ.out]
            have e2 : qt = q.t := by rw [← HQ.out]
            obtain ⟨D2, hD2⟩ : ∃ D2, D2 = D.put (keyR F qt) (.lit (.int .i64 (N : Int))) := ⟨_, rfl⟩
            obtain ⟨ps2, hps2⟩ : ∃ z : List (Sn × Value), z = ps ++ [(⟨F, qt, 86400, []⟩, .slice none 0 0)] := ⟨_, rfl⟩
            have ST0 : Hid (∀ {wm : World}, wm.ownsMap Try.prog 61 (plainElem Try.prog 3) b (N + 1) D2 → wc.grownBy wm (some b) → (wm.alloc (.cells #[.string F, .int .i64 qt, .int .i64 86400, .slice none 0 0] 25)).ownsRow w.heap.size 25 4 (.slice y N c1) N (pC ps) ∧ w.heap.size ≤ (wm.alloc (.cells #[.string F, .int .i64 qt, .int .i64 86400, .slice none 0 0] 25)).heap.size ∧ wm.cell? ⟨gk, 0, none⟩ = some (.string F) ∧ wm.cell? ⟨gk, 1, none⟩ = some (.int .i64 qt) ∧ Blk wm wr.heap.size #[.string qn, .int .i64 qt, .int .i64 1, .int .i64 ql, .string qd] 43) := fun hm hg => by
              have t1 : Turn (fun k => k = b) wc _ := Turn.of_grown hg (fun k e => (Option.some.inj e).symm)
              have o1 := t1.row HS1.out.gs.own (fun k hk e => map_apart HM.out HS1.out.gs.own (by rw [hk, e]))
              rw [← HJ.out.1] at o1
              have kb := HKB.out.grown hg (fun e => map_blk HM.out HKB.out (Option.some.inj e).symm)
              refine ⟨o1.alloc _, ?_, kb.cell 0, kb.cell 1, HX.out.grown hg (fun e => map_blk HM.out HX.out (Option.some.inj e).symm)⟩
              have h1 := HS1.out.below.size
              have h2 := hg.size
              rw [World.size_alloc]
              omega
            have ST5 : Hid (∀ {wm w5 : World} {v5 : Value}, wm.ownsMap Try.prog 61 (plainElem Try.prog 3) b (N + 1) D2 → wc.grownBy wm (some b) → Blk wm wr.heap.size #[.string qn, .int .i64 qt, .int .i64 1, .int .i64 ql, .string qd] 43 → (wm.alloc (.cells #[.string F, .int .i64 qt, .int .i64 86400, .slice none 0 0] 25)).ownsRow w.heap.size 25 4 (.slice y N c1) N (pC ps) → w5.ownsRow w.heap.size 25 4 v5 (N + 1) (pC ps ++ pV (⟨F, qt, 86400, []⟩, .slice none 0 0)) → (wm.alloc (.cells #[.string F, .int .i64 qt, .int .i64 86400, .slice none 0 0] 25)).grownBy w5 (Value.slice y N c1).ownBlock → GAt w w5 v5 ps2 b D2 ∧ Blk w5 wr.heap.size #[.string qn, .int .i64 qt, .int .i64 1, .int .i64 ql, .string qd] 43) := fun hm hg hx ho h1 h3 => by
              refine ⟨?_, (hx.alloc _).grown h3 (fun e => own_sep4 ho (hx.alloc _) (by decide) e.symm)⟩
              have hN := HJ.out.1
              rw [hps2, hD2]
              rw [hD2] at hm
              rw [e1, e2] at hm h1 ⊢
              rw [hN] at hm h1 ⊢
              exact HS1.out.add HOKJ.out (by rw [← e1, ← e2]; exact hat) hm hg h1 h3
            have hkp : N < ps2.length := by rw [hps2, List.length_append, HJ.out.1]; exact Nat.lt_succ_self _
            have hlast : ps2[N].1 = ⟨F, qt, 86400, []⟩ := by
              subst hps2
              have hN := HJ.out.1
              subst hN
              simp
            have HG1 : Hid ((ps2.map Prod.fst).set N (updS ps2[N].1 q) = grpS (rs.take (j + 1))) := by
              unfold Hid
              have hf2 : ¬ atS (foldB q.n) q.t (ps.map Prod.fst) < (ps.map Prod.fst).length := by rw [← e1, ← e2, List.length_map]; exact hf
              rw [HPUT.out, ← HJ.out.2, put_pre hf2, hlast, hps2, List.map_append, List.length_map, ← HJ.out.1]
              unfold frS
              rw [← e1, ← e2]
              rfl
            have HGG2 : Hid (∀ i (hi : i < ps2.length), Rises ps2[i].1.ds ∧ ps2[i].1.ds.length ≤ 64) := fun i hi => by
              obtain ⟨p, hp⟩ : ∃ p, p = ps2[i] := ⟨_, rfl⟩
              have hm : p ∈ ps2 := by rw [hp]; exact List.getElem_mem hi
              rw [← hp]
              clear hp
              rw [hps2] at hm
              rcases List.mem_append.1 hm with hm | hm
              · exact HGG.out _ (by rw [← HJ.out.2]; exact List.mem_map_of_mem hm)
              · simp only [List.mem_singleton] at hm
                rw [hm]
                exact ⟨List.Pairwise.nil, Nat.zero_le _⟩
            have hrow1 : ∀ u : World, Row (u.alloc (.cells #[.string F, .int .i64 qt, .int .i64 86400, .slice none 0 0] 25)) (.slice (some ⟨u.heap.size, 0, none⟩) 1 1) 1 (pV (⟨F, qt, 86400, []⟩, .slice none 0 0)) := fun u => Row.of_blk (Blk.new u #[.string F, .int .i64 qt, .int .i64 86400, .slice none 0 0] 25) rfl 1 1
            have hone : ∀ u ∈ pV (⟨F, qt, 86400, []⟩, Value.slice none 0 0), u.oneCell' = true := by
              intro u hu
              simp [pV] at hu
              rcases hu with rfl | rfl | rfl | rfl <;> rfl
            have HD2 : Hid (D2 = D.put (keyR F qt) (.lit (.int .i64 (N : Int)))) := hD2
            clear hf hat hD2 hps2 hlast e1 e2 hwf
            go_wp2_with (first
              | (at_lookup; refine wpList_lookup_own_ok_int _ rfl (.tmp 35) (.tmp 36) 59 rfl 61 3 .i64 keyT Try.underlying59 Try.underlying3 (zero3 _) b ps.length D rfl HM.out _ (keyR F qt) rfl HKEY.out ?_; intro ci hat _; rw [HHAS.out]; clear hat)
              | (at_mapUpdate; refine wpList_mapUpdate_own _ rfl (.tmp 44) (.tmp 45) (.tmp 46) 59 rfl 61 3 keyT Try.underlying59 _ b N D rfl HMN.out (by unfold maxLen; omega) _ _ (keyR F qt) rfl rfl HKEY.out _ [] hplain ?_; intro wm own1 grow1; rw [← HD2.out] at own1; obtain ⟨on, sz, m0, m1, hx⟩ := ST0.out own1 grow1; have OWN1 : Hid (wm.ownsMap Try.prog 61 (plainElem Try.prog 3) b (N + 1) D2 ∧ wc.grownBy wm (some b) ∧ Blk wm wr.heap.size #[.string qn, .int .i64 qt, .int .i64 1, .int .i64 ql, .string qd] 43) := ⟨own1, grow1, hx⟩; have OWN2 : Hid ((wm.alloc (.cells #[.string F, .int .i64 qt, .int .i64 86400, .slice none 0 0] 25)).ownsRow w.heap.size 25 4 (.slice y N c1) N (pC ps)) := on; clear own1 grow1 hx on)
              | (at_builtin; refine wpList_appG _ rfl (.tmp 47) (.tmp 53) 27 25 i0 _ 4 56 Try.underlying27 hi hz0 hz1 hz2 rfl (by decide) rfl w.heap.size _ N (pC ps) rfl OWN2.out _ 1 (pV (⟨F, qt, 86400, []⟩, .slice none 0 0)) rfl (hrow1 wm) rfl hone (by omega) (by unfold maxLen; omega) sz ?_; intro v5 w5 h1 h3 _; obtain ⟨y5, c5, hv5⟩ := row_shape h1; obtain ⟨hs5, hx5⟩ := ST5.out OWN1.out.1 OWN1.out.2.1 OWN1.out.2.2 OWN2.out h1 h3; subst hv5; have HS5 : Hid (GAt w w5 (.slice y5 (N + 1) c5) ps2 b D2) := hs5; have HX5 : Hid (Blk w5 wr.heap.size #[.string qn, .int .i64 qt, .int .i64 1, .int .i64 ql, .string qd] 43) := hx5; clear hs5 hx5 h1 h3))
            obtain ⟨g, cap2, hv, _, _⟩ := HS5.out.gs.own.form (by omega)
            simp only [Value.slice.injEq] at hv
            obtain ⟨rfl, hNp, rfl⟩ := hv
            have HGS : Hid (GAt w w5 (.slice (some ⟨g, 0, none⟩) (N + 1) c5) ps2 b D2) := HS5.out
            have hkn : (N : Int) < ((N + 1 : Nat) : Int) := by omega
            obtain ⟨⟨a0, a1, a2, a3⟩, _⟩ := own_four HGS.out.gs.own hkp
            have hdat := HGS.out.gs.dat _ (List.getElem_mem hkp)
            have hin := HGG2.out _ hkp
            obtain ⟨yd, cd, hvd⟩ := row_shape hdat
            have HW : Hid (Calls Try.prog 28 #[.agg #[.string ps2[N].1.n, .int .i64 ps2[N].1.t, .int .i64 ps2[N].1.l, ps2[N].2], .agg #[.string qn, .int .i64 qt, .int .i64 1, .int .i64 ql, .string qd]] w5.drew fun e w' => ∃ v', e = .returned (.agg #[.string ps2[N].1.n, .int .i64 ps2[N].1.t, .int .i64 (min ps2[N].1.l ql), v']) ∧ w'.ownsRow w.heap.size 9 1 v' (insB qd ps2[N].1.ds).length (tC (insB qd ps2[N].1.ds)) ∧ Turn (fun k' => ps2[N].2.ownBlock = some k') w5.drew w' ∧ ∀ k', v'.ownBlock = some k' → ps2[N].2.ownBlock = some k' ∨ w5.drew.heap.size ≤ k') := with_any _ _ _ _ _ _ _ _ _ _ _ hdat.drew hin.1 (by have := hin.2; omega) HQD.out HGS.out.below.size
            have ST : Hid (∀ {v2 : Value} {w3 : World}, w3.ownsRow w.heap.size 9 1 v2 (insB qd ps2[N].1.ds).length (tC (insB qd ps2[N].1.ds)) → Turn (fun k' => ps2[N].2.ownBlock = some k') w5.drew w3 → (∀ k', v2.ownBlock = some k' → ps2[N].2.ownBlock = some k' ∨ w5.drew.heap.size ≤ k') →
                GAt w (put4at w3 g N (.string ps2[N].1.n) (.int .i64 ps2[N].1.t) (.int .i64 (min ps2[N].1.l ql)) v2) (.slice (some ⟨g, 0, none⟩) (N + 1) c5) (ps2.set N (⟨ps2[N].1.n, ps2[N].1.t, min ps2[N].1.l ql, insB qd ps2[N].1.ds⟩, v2)) b D2 ∧
                (w3.cell? ⟨g, N * 4, none⟩ = some (.string ps2[N].1.n) ∧ w3.cell? ⟨g, N * 4 + 1, none⟩ = some (.int .i64 ps2[N].1.t) ∧ w3.cell? ⟨g, N * 4 + 2, none⟩ = some (.int .i64 ps2[N].1.l) ∧ w3.cell? ⟨g, N * 4 + 3, none⟩ = some ps2[N].2) ∧
                (w3.frozen? ⟨g, N * 4, none⟩ = false ∧ w3.frozen? ⟨g, N * 4 + 1, none⟩ = false ∧ w3.frozen? ⟨g, N * 4 + 2, none⟩ = false ∧ w3.frozen? ⟨g, N * 4 + 3, none⟩ = false)) := fun h1 h2 h3 => by
              have h2' : Turn (fun k' => ps2[N].2.ownBlock = some k') w5 _ := (Turn.of_below (below_drew ⟨1, rfl⟩)).same h2
              exact ⟨HGS.out.put (s := ⟨ps2[N].1.n, ps2[N].1.t, min ps2[N].1.l ql, insB qd ps2[N].1.ds⟩) hkp h2' h1 h3 ⟨rfl, rfl⟩, own_four (HGS.out.still hkp h2') hkp⟩
            have HG2 : Hid (∀ v2 : Value, (ps2.set N (⟨ps2[N].1.n, ps2[N].1.t, min ps2[N].1.l ql, insB qd ps2[N].1.ds⟩, v2)).map Prod.fst = grpS (rs.take (j + 1))) := fun v2 => by
              rw [← HG1.out, List.map_set]
              unfold updS
              rw [← HQ.out]
            obtain ⟨x0, x1, x2, x3, x4⟩ := HX5.out.five5
            obtain ⟨sn, hsn⟩ : ∃ z, z = ps2[N].1.n := ⟨_, rfl⟩
            obtain ⟨st, hst⟩ : ∃ z, z = ps2[N].1.t := ⟨_, rfl⟩
            obtain ⟨sl, hsl⟩ : ∃ z, z = ps2[N].1.l := ⟨_, rfl⟩
            obtain ⟨sd, hsd⟩ : ∃ z, z = ps2[N].1.ds := ⟨_, rfl⟩
            obtain ⟨sv, hsv⟩ : ∃ z, z = ps2[N].2 := ⟨_, rfl⟩
            simp only [← hsn, ← hst, ← hsl, ← hsd, ← hsv] at a0 a1 a2 a3 HW ST HG2 hvd
            have HNP : Hid (N + 1 = ps2.length) := hNp
            subst hvd
            clear hdat hin hsn hst hsl hsd hsv hNp HG1
            go_region_with (go_at_call 28; go_must (refine HW.out.mono ?_); rintro e w3 ⟨v2, rfl, o3, t3, n3⟩; obtain ⟨y2, c2, hv2⟩ := row_shape o3; obtain ⟨hs3, ⟨r0, r1, r2, r3⟩, ⟨f0, f1, f2, f3⟩⟩ := ST.out o3 t3 n3; subst hv2; have HS3 := hs3; clear o3 t3 n3 hs3)
            all_goals
              (go_wp2
               go_roundw
               case rel => exact ⟨j + 1, N + 1, c5, _, ps2.set N (_, _), D2, rfl, by go_num, by omega, ⟨by rw [List.length_set]; exact HNP.out, HG2.out _⟩, HS3⟩
               case measure => simp [intOf]; omega)
      · have hcl' : (qc == 1) = false := by rw [beq_eq_false_iff_ne]; exact hcl
        have HST : Hid (grpS (rs.take (j + 1)) = grpS (rs.take j)) := by unfold Hid; rw [HGT.out]; unfold stepS; rw [← HQ.out, if_neg hcl]
        go_wp2
        go_roundw
        case rel => exact ⟨j + 1, N, c1, y, ps, D, rfl, by go_num, by omega, ⟨HJ.out.1, by rw [HST.out]; exact HJ.out.2⟩, HS.out.past (lay (Below.refl _ _) _)⟩
        case measure => simp [intOf]; omega
    · have hjn' : decide (j < n) = false := by simpa using hlt
      have HE : Hid (rs.take j = rs) := by unfold Hid; have := HN.out; exact List.take_of_length_le (by omega)
      go_wp2
      go_ret2
      exact ⟨y, c1, ps, by rw [HJ.out.1]; rfl, by rw [HJ.out.2, HE.out], by rw [← HJ.out.1]; exact HS.out.gs, HS.out.below⟩

end Go.Proofs.Ytdaegnmokaibpaa
