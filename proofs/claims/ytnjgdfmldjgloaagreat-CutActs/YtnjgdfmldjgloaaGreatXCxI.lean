/- Learn of the document's Cuts. -/
import Derived.Test.YtnjgdfmldjgloaaGreatXCxH
namespace Go.Proofs.YtnjgdfmldjgloaaGreat
open Go.RowKit
open Pl
namespace Cu

/-- How far Learn is. -/
structure LR (w wr : World) (gr : Nat) (V : Value) (L M : List (Rk × RQ)) (g : Rk → Rk) (j : Nat) : Prop where
  rs : RS wr gr V M
  len : M.length = L.length
  fst : ∀ (i : Nat) (h1 : i < M.length) (h2 : i < L.length), M[i].1 = if i < j then g L[i].1 else L[i].1
  turn : Turn (rsf gr V L) w wr
  foot : ∀ k, rsf gr V M k → rsf gr V L k ∨ w.heap.size ≤ k
theorem LR.start {w : World} {gr : Nat} {V : Value} {L : List (Rk × RQ)} (h : RS w gr V L) (g : Rk → Rk) : LR w w gr V L L g 0 :=
  ⟨h, rfl, fun i _ _ => by rw [if_neg (by omega)], Turn.refl _ _, fun k hk => .inl hk⟩
theorem LR.below {w wr wn : World} {gr : Nat} {V : Value} {L M : List (Rk × RQ)} {g : Rk → Rk} {j : Nat} (h : LR w wr gr V L M g j) (hb : Below wr.heap.size wr wn) : LR w wn gr V L M g j :=
  ⟨h.rs.below hb, h.len, h.fst, h.turn.past hb, h.foot⟩
theorem LR.stay {w wr : World} {gr : Nat} {V : Value} {L M : List (Rk × RQ)} {g : Rk → Rk} {j : Nat} (h : LR w wr gr V L M g j) (hj : j < M.length) (hg : g M[j].1 = M[j].1) : LR w wr gr V L M g (j + 1) := by
  refine ⟨h.rs, h.len, fun i h1 h2 => ?_, h.turn, h.foot⟩
  have h3 := h.fst i h1 h2
  by_cases e : i = j
  · subst e
    rw [if_neg (by omega)] at h3
    rw [if_pos (by omega), ← h3, hg]
  · rw [h3]
    by_cases e2 : i < j
    · rw [if_pos e2, if_pos (by omega)]
    · rw [if_neg e2, if_neg (by omega)]
theorem LR.set {w wr wn : World} {gr : Nat} {V : Value} {L M : List (Rk × RQ)} {g : Rk → Rk} {j : Nat} (h : LR w wr gr V L M g j) (hj : j < M.length) {x' : Rk} {q' : RQ} (hp : q'.p = M[j].2.p) (hhv : q'.hv = M[j].2.hv) (hr : RkAt wn q' x')
    (ht : Turn (fun k => k = M[j].2.p ∨ M[j].2.bv.ownBlock = some k) wr wn) (hf : ∀ k, q'.bv.ownBlock = some k → M[j].2.bv.ownBlock = some k ∨ wr.heap.size ≤ k) (hx : x' = g M[j].1) : LR w wn gr V L (M.set j (x', q')) g (j + 1) := by
  have hrj := h.rs.cuts _ (List.getElem_mem hj)
  have hin : ∀ k, (k = M[j].2.p ∨ M[j].2.bv.ownBlock = some k) → rkf M[j].2 k := fun k hk => hk.imp id .inr
  have hsep : ∀ i (hi : i < M.length), i ≠ j → sepR M[i] M[j] ∧ sepR M[j] M[i] := fun i hi hij => by
    have hpw := List.pairwise_iff_getElem.1 h.rs.sep
    have sym : ∀ a b : Rk × RQ, sepR a b → sepR b a := fun a b hab => ⟨fun e => hab.1 e.symm, fun k h1 h2 => hab.2 k h2 h1⟩
    rcases Nat.lt_or_gt_of_ne hij with h1 | h1
    · have := hpw i j hi hj h1; exact ⟨this, sym _ _ this⟩
    · have := hpw j i hj hi h1; exact ⟨sym _ _ this, this⟩
  have hall : ∀ i (hi : i < M.length), i ≠ j → RkAt wn M[i].2 M[i].1 := fun i hi hij => by
    have hri := h.rs.cuts _ (List.getElem_mem hi)
    have hs := (hsep i hi hij).1
    refine hri.turn ht (fun k hk e => ?_)
    rcases hk with rfl | hk | hk
    · rcases e with e | e
      · exact hs.1 e
      · exact absurd (own_tag hrj.bs e hri.blk) (by decide)
    · rcases e with e | e
      · subst e; exact absurd (own_tag hri.hosts hk hrj.blk) (by decide)
      · exact own_far hri.hosts hrj.bs (by decide) k hk e
    · rcases e with e | e
      · subst e; exact absurd (own_tag hri.bs hk hrj.blk) (by decide)
      · exact hs.2 k hk e
  have hpC : pC (M.set j (x', q')) = pC M := by
    unfold pC
    refine List.ext_getElem (by simp) (fun i h1 h2 => ?_)
    rw [List.getElem_map, List.getElem_map, List.getElem_set]
    split
    · rename_i e
      subst e
      rw [hp]
    · rfl
  refine ⟨⟨?_, ?_, ?_, ?_, ?_⟩, ?_, ?_, ?_, ?_⟩
  · exact ht.blk h.rs.blk (fun e => rk_far hrj h.rs.blk (by decide) (by decide) (by decide) (hin _ e))
  · rw [List.length_set, hpC]
    refine ht.row h.rs.all (fun k hk e => ?_)
    obtain ⟨cur, hc⟩ := own_cells h.rs.all hk
    exact rk_far hrj hc (by decide) (by decide) (by decide) (hin _ e)
  · intro e he
    obtain ⟨i, hi, rfl⟩ := List.getElem_of_mem he
    rw [List.length_set] at hi
    rw [List.getElem_set]
    split
    · exact hr
    · rename_i hne
      exact hall i hi (fun e => hne e.symm)
  · refine List.pairwise_iff_getElem.2 (fun i k hi hk hik => ?_)
    rw [List.length_set] at hi hk
    have hpw := List.pairwise_iff_getElem.1 h.rs.sep i k hi hk hik
    rw [List.getElem_set, List.getElem_set]
    split
    · rename_i e
      subst e
      rw [if_neg (by omega)]
      refine ⟨fun e => hpw.1 (by rw [← hp]; exact e), fun z hz hz2 => ?_⟩
      rcases hf z hz with h1 | h1
      · exact hpw.2 z h1 hz2
      · have := (h.rs.cuts _ (List.getElem_mem hk)).lt z (.inr (.inr hz2)); omega
    · split
      · rename_i e
        subst e
        refine ⟨fun e => hpw.1 (by rw [← hp]; exact e), fun z hz hz2 => ?_⟩
        rcases hf z hz2 with h1 | h1
        · exact hpw.2 z hz h1
        · have := (h.rs.cuts _ (List.getElem_mem hi)).lt z (.inr (.inr hz)); omega
      · exact hpw
  · rw [List.length_set]; exact h.rs.len
  · rw [List.length_set]; exact h.len
  · intro i h1 h2
    rw [List.length_set] at h1
    have h3 := h.fst i h1 h2
    rw [List.getElem_set]
    split
    · rename_i e
      subst e
      rw [if_neg (by omega)] at h3
      rw [if_pos (by omega)]
      show x' = _
      rw [hx, h3]
    · rename_i e
      rw [h3]
      by_cases e2 : i < j
      · rw [if_pos e2, if_pos (by omega)]
      · rw [if_neg e2, if_neg (by omega)]
  · exact h.turn.trans ht (fun k hk => h.foot k (.inr (.inr ⟨_, List.getElem_mem hj, hin k hk⟩)))
  · have hsz := h.turn.size
    rintro k (e | e | ⟨z, hz, e⟩)
    · exact .inl (.inl e)
    · exact .inl (.inr (.inl e))
    · obtain ⟨i, hi, rfl⟩ := List.getElem_of_mem hz
      rw [List.length_set] at hi
      rw [List.getElem_set] at e
      split at e
      · rcases e with e | e | e
        · exact h.foot k (.inr (.inr ⟨_, List.getElem_mem hj, .inl (by rw [← hp]; exact e)⟩))
        · exact h.foot k (.inr (.inr ⟨_, List.getElem_mem hj, .inr (.inl (by rw [← hhv]; exact e))⟩))
        · rcases hf k e with e | e
          · exact h.foot k (.inr (.inr ⟨_, List.getElem_mem hj, .inr (.inr e)⟩))
          · exact .inr (by omega)
      · exact h.foot k (.inr (.inr ⟨_, List.getElem_mem hi, e⟩))
theorem LR.done {w wr : World} {gr : Nat} {V : Value} {L M : List (Rk × RQ)} {g : Rk → Rk} {j : Nat} (h : LR w wr gr V L M g j) (hj : L.length ≤ j) : fstR M = (fstR L).map g := by
  unfold fstR
  refine List.ext_getElem (by simp [h.len]) (fun i h1 h2 => ?_)
  rw [List.length_map] at h1
  have h3 : i < L.length := by rw [← h.len]; exact h1
  rw [List.getElem_map, List.getElem_map, List.getElem_map, h.fst i h1 h3, if_pos (by omega)]

/-- What Learn does. -/
def LearnRest (w : World) (gr : Nat) (V : Value) (L : List (Rk × RQ)) (host : ByteArray) (a u now : Int) (e : Ending) (w' : World) : Prop :=
  e = .returned (.tuple #[]) ∧ ∃ L', RS w' gr V L' ∧ fstR L' = lrnK (fstR L) host a u now ∧ Turn (rsf gr V L) w w' ∧ ∀ k, rsf gr V L' k → rsf gr V L k ∨ w.heap.size ≤ k
theorem learn_stay {w w' : World} {gr : Nat} {V : Value} {L : List (Rk × RQ)} (h : RS w gr V L) {host : ByteArray} {a u now : Int} (hl : lrnK (fstR L) host a u now = fstR L) (hb : Below w.heap.size w w') : LearnRest w gr V L host a u now (.returned (.tuple #[])) w' :=
  ⟨rfl, L, h.below hb, hl.symm, Turn.of_below hb, fun _ hk => .inl hk⟩
set_option maxRecDepth 100000 in
set_option maxHeartbeats 8000000 in
theorem rlearn_any {w : World} {gr : Nat} {V0 : Value} {L : List (Rk × RQ)} (h : RS w gr V0 L) (host : ByteArray) (a u now : Int) (hh : host.size ≤ maxLen) (hlen : ∀ p ∈ L, p.1.bs.length < 256) :
    Calls Tryz.prog 20 #[.pointer (some ⟨gr, 0, none⟩), .string host, .int .i64 a, .int .i64 u, .int .i64 now] w fun e w' => LearnRest w gr V0 L host a u now e w' := by
  obtain ⟨iB, hiB, hzB0, hzB1, hzB2⟩ := info_parts infoBg
  have hfo := fun v => refFold_any host v hh
  obtain ⟨f, hf0⟩ : ∃ f, f = fdB host := ⟨_, rfl⟩
  rw [show (⟨(foldR host.data.toList).toArray⟩ : ByteArray) = f from hf0.symm] at hfo
  have hwd := fun v => wideR_any a v
  have HRS : Hid (RS w gr V0 L) := h
  have HLK : Hid (lrnK (fstR L) host a u now = if decide (f ≠ ⟨#[]⟩) && wideB a && decide (now < u) then (fstR L).map (lrn1K f a u now) else fstR L) := by unfold Hid lrnK; rw [hf0]
  by_cases hfe0 : f = ⟨#[]⟩
  · have hfe : (f.toList == []) = true := by rw [empty_as, hfe0]; rfl
    have HST : Hid (lrnK (fstR L) host a u now = fstR L) := by unfold Hid; rw [HLK.out]; simp [hfe0]
    clear hfe0 hf0 HLK h
    go_enter Tryz.func20, Tryz.ntmps20
    go_wp2_with (go_at_call 35; go_must (refine (hfo _).mono ?_); rintro e w2 ⟨rfl, b2⟩)
    go_end0
    exact learn_stay HRS.out HST.out b2
  · have hfe : (f.toList == []) = false := by rw [empty_as, decide_eq_false_iff_not]; exact hfe0
    cases hw : wideB a with
    | false =>
      have HST : Hid (lrnK (fstR L) host a u now = fstR L) := by unfold Hid; rw [HLK.out, hw]; simp
      rw [hw] at hwd
      clear hfe0 hf0 HLK h hw
      go_enter Tryz.func20, Tryz.ntmps20
      go_wp2_with (first
        | (go_at_call 35; go_must (refine (hfo _).mono ?_); rintro e w2 ⟨rfl, b2⟩)
        | (go_at_call 56; go_must (refine (hwd _).mono ?_); rintro e w' ⟨rfl, hw⟩; obtain rfl := hw.symm))
      go_end0
      exact learn_stay HRS.out HST.out b2
    | true =>
      rw [hw] at hwd
      by_cases hu : u ≤ now
      · have HST : Hid (lrnK (fstR L) host a u now = fstR L) := by unfold Hid; rw [HLK.out, decide_eq_false (p := now < u) (by omega)]; simp
        have _hu := hu
        clear hfe0 hf0 HLK h hw
        go_enter Tryz.func20, Tryz.ntmps20
        go_wp2_with (first
          | (go_at_call 35; go_must (refine (hfo _).mono ?_); rintro e w2 ⟨rfl, b2⟩)
          | (go_at_call 56; go_must (refine (hwd _).mono ?_); rintro e w' ⟨rfl, hw⟩; obtain rfl := hw.symm))
        go_end0
        exact learn_stay HRS.out HST.out b2
      · have hu' : decide (u ≤ now) = false := by simpa using hu
        have HLM : Hid (lrnK (fstR L) host a u now = (fstR L).map (lrn1K f a u now)) := by unfold Hid; rw [HLK.out, hw, decide_eq_true (p := now < u) (by omega), decide_eq_true hfe0]; rfl
        have HF5 : Hid (f.size ≤ 255) := by
          unfold Hid
          rw [hf0]
          refine fd_255 ?_
          cases hnm : isName host.data.toList with
          | true => rfl
          | false => exact absurd (hf0.trans (fd_none hnm)) hfe0
        obtain ⟨nL, hnL⟩ : ∃ nL, nL = L.length := ⟨_, rfl⟩
        have HnL : Hid (nL = L.length) := hnL
        have hn129 : nL ≤ 129 := by rw [hnL]; exact h.len
        obtain ⟨yv, cv, hV0⟩ := row_shape h.all
        rw [← hnL] at hV0
        subst hV0
        have HLEN : Hid (∀ p ∈ L, p.1.bs.length < 256) := hlen
        have g0' : ∀ U, Below w.heap.size w U → U.cell? ⟨gr, 0, none⟩ = some (.slice yv nL cv) := fun U hU => (h.blk.below hU).cell 0
        clear hfe0 hf0 HLK h hw hu hnL hlen
        go_enter Tryz.func20, Tryz.ntmps20
        go_wp2_with (first
          | (go_at_call 35; go_must (refine (hfo _).mono ?_); rintro e w2 ⟨rfl, b2⟩; have g0 := g0' _ b2)
          | (go_at_call 56; go_must (refine (hwd _).mono ?_); rintro e w' ⟨rfl, hw⟩; obtain rfl := hw.symm))
        have HS0 : Hid (LR w w2 gr (.slice yv nL cv) L L (lrn1K f a u now) 0) := (LR.start HRS.out _).below b2
        clear g0 g0' b2 hfo hwd HRS hu' hfe
        go_loopw [11] (fun k wr => ∃ (j : Nat) (M : List (Rk × RQ)), j ≤ nL ∧ k = .int .i64 (j : Int) ∧ Hid (LR w wr gr (.slice yv nL cv) L M (lrn1K f a u now) j)) (fun k _ => nL - (intOf k).toNat)
        case atStart => exact ⟨0, L, Nat.zero_le _, rfl, HS0⟩
        case round =>
          clear HS0
          obtain ⟨j, M, hj, rfl, HLR⟩ := hrel
          have g0 : wr.cell? ⟨gr, 0, none⟩ = some (.slice yv nL cv) := HLR.out.rs.blk.cell 0
          by_cases hjn : j < nL
          · have hjn' : (j : Int) < (nL : Int) := by omega
            have hML : M.length = nL := by rw [HLR.out.len, ← HnL.out]
            have hjM : j < M.length := by omega
            have hjL : j < L.length := by rw [← HnL.out]; exact hjn
            have hall := HLR.out.rs.all
            rw [hML] at hall
            obtain ⟨gv, cap, hyv, _⟩ := hall.form (by omega)
            simp only [Value.slice.injEq, true_and] at hyv
            obtain ⟨rfl, rfl⟩ := hyv
            have hrk := HLR.out.rs.cuts _ (List.getElem_mem hjM)
            have g1 := hall.cellAt j (by omega)
            rw [pC_at hjM] at g1
            have hst0 := fun hg => HLR.out.stay hjM hg
            have hML0 : M[j].1 = L[j].1 := by have := HLR.out.fst j hjM hjL; rw [if_neg (by omega)] at this; exact this
            have hb256 : M[j].1.bs.length < 256 := by rw [hML0]; exact HLEN.out _ (List.getElem_mem hjL)
            obtain ⟨⟨⟨xn, xf, xhs, xu, xrt, xbs⟩, ⟨p, hv, bv⟩⟩, hxe⟩ : ∃ z, z = M[j] := ⟨_, rfl⟩
            have HXE : Hid ((⟨⟨xn, xf, xhs, xu, xrt, xbs⟩, ⟨p, hv, bv⟩⟩ : Rk × RQ) = M[j]'hjM) := hxe
            rw [← hxe] at hrk g1 hst0 hb256
            simp only at hrk g1 hst0 hb256
            have HST0 : Hid (lrn1K f a u now ⟨xn, xf, xhs, xu, xrt, xbs⟩ = ⟨xn, xf, xhs, xu, xrt, xbs⟩ → LR w wr gr (.slice (some ⟨gv, 0, none⟩) nL cv) L M (lrn1K f a u now) (j + 1)) := hst0
            have HRK0 : Hid (RkAt wr ⟨p, hv, bv⟩ ⟨xn, xf, xhs, xu, xrt, xbs⟩) := hrk
            have x4 := hrk.blk.cell 4
            have x2 := hrk.blk.cell 2
            have x5 := hrk.blk.cell 5
            simp only [List.getElem?_toArray, List.getElem?_cons_succ, List.getElem?_cons_zero] at x4 x2 x5
            have HJM : Hid (j < M.length) := hjM
            clear hrk hst0 hall hxe hML0 hML
            cases xrt with
            | true =>
              have HST : Hid (LR w wr gr (.slice (some ⟨gv, 0, none⟩) nL cv) L M (lrn1K f a u now) (j + 1)) := HST0.out (by unfold lrn1K; simp)
              clear HST0 HXE HLR
              go_wp2
              go_roundw
              case rel => exact ⟨j + 1, M, by omega, by go_num, HST.out⟩
              case measure => simp [intOf]; omega
            | false =>
              cases hlk : liveK now ⟨xn, xf, xhs, xu, false, xbs⟩ with
              | false =>
                have HST : Hid (LR w wr gr (.slice (some ⟨gv, 0, none⟩) nL cv) L M (lrn1K f a u now) (j + 1)) := HST0.out (by unfold lrn1K; rw [hlk]; simp)
                have hlv := liveR_any HRK0.out now false hlk
                clear HST0 HXE HLR hlk
                go_wp2_with (go_at_call 50; go_must (refine hlv.mono ?_); rintro e w' ⟨rfl, hw⟩; obtain rfl := hw.symm)
                go_roundw
                case rel => exact ⟨j + 1, M, by omega, by go_num, HST.out⟩
                case measure => simp [intOf]; omega
              | true =>
                have hlv := liveR_any HRK0.out now true hlk
                have hrh := Row.of_own HRK0.out.hosts
                have h8 := HRK0.out.ok.hl
                simp only at hrh h8
                have hhc := fun r (hr : decide (0 ≤ posL xhs f) = r) => hasR_any hv xhs f wr hrh (by unfold maxLen; omega) r hr
                cases hhs : decide (0 ≤ posL xhs f) with
                | false =>
                  have HST : Hid (LR w wr gr (.slice (some ⟨gv, 0, none⟩) nL cv) L M (lrn1K f a u now) (j + 1)) := HST0.out (by unfold lrn1K; simp only [hhs]; simp)
                  have hhc := hhc false hhs
                  clear HST0 HXE HLR hlk hrh hhs
                  go_wp2_with (first
                    | (go_at_call 50; go_must (refine hlv.mono ?_); rintro e w' ⟨rfl, hw⟩; obtain rfl := hw.symm)
                    | (go_at_call 36; go_must (refine hhc.mono ?_); rintro e w' ⟨rfl, hw⟩; obtain rfl := hw.symm))
                  go_roundw
                  case rel => exact ⟨j + 1, M, by omega, by go_num, HST.out⟩
                  case measure => simp [intOf]; omega
                | true =>
                  have hhc := hhc true hhs
                  have hrb := Row.of_own HRK0.out.bs
                  simp only at hrb
                  have hbc := fun r (hr : boundK xbs f a now = r) => boundR_any bv xbs f a now wr hrb (by unfold maxLen; omega) r hr
                  cases hbd : boundK xbs f a now with
                  | true =>
                    have HST : Hid (LR w wr gr (.slice (some ⟨gv, 0, none⟩) nL cv) L M (lrn1K f a u now) (j + 1)) := HST0.out (by unfold lrn1K; simp only [hbd]; simp)
                    have hbc := hbc true hbd
                    clear HST0 HXE HLR hlk hrh hhs hrb hbd
                    go_wp2_with (first
                      | (go_at_call 50; go_must (refine hlv.mono ?_); rintro e w' ⟨rfl, hw⟩; obtain rfl := hw.symm)
                      | (go_at_call 36; go_must (refine hhc.mono ?_); rintro e w' ⟨rfl, hw⟩; obtain rfl := hw.symm)
                      | (go_at_call 49; go_must (refine hbc.mono ?_); rintro e w' ⟨rfl, hw⟩; obtain rfl := hw.symm))
                    go_roundw
                    case rel => exact ⟨j + 1, M, by omega, by go_num, HST.out⟩
                    case measure => simp [intOf]; omega
                  | false =>
                    have hbc := hbc false hbd
                    have hlg := livingR_any HRK0.out now
                    obtain ⟨NV, hNV⟩ : ∃ NV, NV = (livingK ⟨xn, xf, xhs, xu, false, xbs⟩ now).length := ⟨_, rfl⟩
                    have hNV256 : NV ≤ 256 := by
                      rw [hNV]
                      have h1 : (livingK ⟨xn, xf, xhs, xu, false, xbs⟩ now).length ≤ xbs.length := List.length_filter_le _ _
                      omega
                    rw [← hNV] at hlg
                    by_cases h16 : 16 ≤ NV
                    · have h16i : (16 : Int) ≤ (NV : Int) := by omega
                      have HSTZ : Hid (LR w wr gr (.slice (some ⟨gv, 0, none⟩) nL cv) L M (lrn1K f a u now) (j + 1)) := HST0.out (by unfold lrn1K; rw [← hNV, decide_eq_false (p := NV < 16) (by omega)]; simp)
                      clear HST0 HXE HLR hlk hrh hhs hrb hbd hNV h16
                      go_wp2_with (first
                        | (go_at_call 50; go_must (refine hlv.mono ?_); rintro e w' ⟨rfl, hw⟩; obtain rfl := hw.symm)
                        | (go_at_call 36; go_must (refine hhc.mono ?_); rintro e w' ⟨rfl, hw⟩; obtain rfl := hw.symm)
                        | (go_at_call 49; go_must (refine hbc.mono ?_); rintro e w' ⟨rfl, hw⟩; obtain rfl := hw.symm)
                        | (go_at_call 57; go_must (refine hlg.mono ?_); rintro e w2 ⟨y2, c2, rfl, _, b2⟩; have HST : Hid (LR w w2 gr (.slice (some ⟨gv, 0, none⟩) nL cv) L M (lrn1K f a u now) (j + 1)) := HSTZ.out.below b2; clear b2))
                      go_roundw
                      case rel => exact ⟨j + 1, M, by omega, by go_num, HST.out⟩
                      case measure => simp [intOf]; omega
                    · have h16i : decide ((16 : Int) ≤ (NV : Int)) = false := by simp; omega
                      have HNEW : Hid ((⟨xn, xf, xhs, xu, false, xbs ++ [⟨xn, f, a, xf, u⟩]⟩ : Rk) = lrn1K f a u now ⟨xn, xf, xhs, xu, false, xbs⟩) := by
                        unfold Hid lrn1K
                        rw [← hNV, hlk, decide_eq_true (p := NV < 16) (by omega)]
                        simp only [hhs, hbd]
                        rfl
                      obtain ⟨m, hm⟩ : ∃ m, m = xbs.length := ⟨_, rfl⟩
                      have HMB : Hid (m = xbs.length) := hm
                      obtain ⟨yb, cb, hbv⟩ := row_shape HRK0.out.bs
                      simp only at hbv
                      rw [← hm] at hbv hb256
                      subst hbv
                      clear HST0 hlk hrh hhs hrb hbd hNV h16 hm
                      go_wp2_with (first
                        | (go_at_call 50; go_must (refine hlv.mono ?_); rintro e w' ⟨rfl, hw⟩; obtain rfl := hw.symm)
                        | (go_at_call 36; go_must (refine hhc.mono ?_); rintro e w' ⟨rfl, hw⟩; obtain rfl := hw.symm)
                        | (go_at_call 49; go_must (refine hbc.mono ?_); rintro e w' ⟨rfl, hw⟩; obtain rfl := hw.symm)
                        | (go_at_call 57; go_must (refine hlg.mono ?_); rintro e w5 ⟨y2, c2, rfl, _, b5⟩))
                      have HLR5 := HLR.out.below b5
                      have HRK : Hid (RkAt w5 ⟨p, hv, .slice yb m cb⟩ ⟨xn, xf, xhs, xu, false, xbs⟩) := HRK0.out.below b5
                      clear HLR HRK0 b5 hlv hhc hbc hlg x4 x2 x5 g0 g1
                      have HLR : Hid (LR w w5 gr (.slice (some ⟨gv, 0, none⟩) nL cv) L M (lrn1K f a u now) j) := HLR5
                      have HOB : Hid (OkB ⟨xn, f, a, xf, u⟩) := ⟨HRK.out.ok.n, HF5.out, HRK.out.ok.f⟩
                      have hto : w5.ownsRow 0 65 5 (.slice yb m cb) m (bC xbs) := by have h9 := HRK.out.bs; rw [show (⟨xn, xf, xhs, xu, false, xbs⟩ : Rk).bs.length = m from HMB.out.symm] at h9; exact h9
                      have hXd : Blk (w5.alloc (.cells #[.string xn, .string f, .int .i64 a, .string xf, .int .i64 u] 65)).drew w5.heap.size #[.string xn, .string f, .int .i64 a, .string xf, .int .i64 u] 65 := Blk.new w5 #[.string xn, .string f, .int .i64 a, .string xf, .int .i64 u] 65
                      have hbd : Below w5.heap.size w5 (w5.alloc (.cells #[.string xn, .string f, .int .i64 a, .string xf, .int .i64 u] 65)).drew := (lay (Below.refl _ _) _).drew
                      have c1 : w5.drew.cell? ⟨p, 5, none⟩ = some (.slice yb m cb) := HRK.out.blk.cell 5
                      have c2 : (w5.alloc (.cells #[.string xn, .string f, .int .i64 a, .string xf, .int .i64 u] 65)).cell? ⟨p, 5, none⟩ = some (.slice yb m cb) := (HRK.out.blk.below hbd).cell 5
                      have hto6 := own_past hto hbd
                      have HBD : Hid (Below w5.heap.size w5 (w5.alloc (.cells #[.string xn, .string f, .int .i64 a, .string xf, .int .i64 u] 65)).drew) := hbd
                      clear hto hbd HLR5
                      refine wp_region_held_drew (S := fun u9 => ∃ z, Blk u9 p #[.string xn, .string xf, hv, .int .i64 xu, .bool false, z] 69) (by kernel_rfl) ⟨_, HRK.out.blk.below (Below.refl _ _).drew⟩ (fun hHeld => ?_)
                      refine wpAnyH_take (i := 0) (v := .pointer (some ⟨p, 0, none⟩)) rfl (by kernel_rfl) (by kernel_rfl) (by kernel_rfl) (fun _ _ _ h => h) (Or.inl ⟨by rfl, ?_⟩) hHeld ?_
                      · intro u hu
                        go_simp
                      simp only [Act.put, List.getElem_toArray, List.getElem_cons_zero, List.setIfInBounds_toArray, List.set_cons_zero, List.set_cons_succ]
                      refine wpAnyH_take (i := 1) (v := .pointer (some ⟨p, 0, none⟩)) rfl (by kernel_rfl) (by kernel_rfl) (by kernel_rfl) (fun _ _ _ h => h) (Or.inl ⟨by rfl, ?_⟩) hHeld ?_
                      · intro u hu
                        go_simp
                      simp only [Act.put, List.getElem_toArray, List.getElem_cons_succ, List.getElem_cons_zero, List.setIfInBounds_toArray, List.set_cons_zero, List.set_cons_succ]
                      refine wpAnyH_take (i := 2) (v := .pointer (some ⟨p, 0, none⟩)) rfl (by kernel_rfl) (by kernel_rfl) (by kernel_rfl) (fun _ _ _ h => h) (Or.inl ⟨by rfl, ?_⟩) hHeld ?_
                      · intro u hu
                        go_simp
                      simp only [Act.put, List.getElem_toArray, List.getElem_cons_succ, List.getElem_cons_zero, List.setIfInBounds_toArray, List.set_cons_zero, List.set_cons_succ]
                      refine wpAnyH_take (i := 3) (v := .pointer (some ⟨p, 5, none⟩)) rfl (by kernel_rfl) (by kernel_rfl) (by kernel_rfl) (fun _ _ _ h => h) (Or.inl ⟨by rfl, ?_⟩) hHeld ?_
                      · intro u hu
                        go_simp
                      simp only [Act.put, List.getElem_toArray, List.getElem_cons_succ, List.getElem_cons_zero, List.setIfInBounds_toArray, List.set_cons_zero, List.set_cons_succ]
                      refine wpAnyH_take (i := 5) (v := .pointer (some ⟨p, 0, none⟩)) rfl (by kernel_rfl) (by kernel_rfl) (by kernel_rfl) (fun _ _ _ h => h) (Or.inl ⟨by rfl, ?_⟩) hHeld ?_
                      · intro u hu
                        go_simp
                      simp only [Act.put, List.getElem_toArray, List.getElem_cons_succ, List.getElem_cons_zero, List.setIfInBounds_toArray, List.set_cons_zero, List.set_cons_succ]
                      refine wpAnyH_take (i := 6) (v := .pointer (some ⟨p, 0, none⟩)) rfl (by kernel_rfl) (by kernel_rfl) (by kernel_rfl) (fun _ _ _ h => h) (Or.inl ⟨by rfl, ?_⟩) hHeld ?_
                      · intro u hu
                        go_simp
                      simp only [Act.put, List.getElem_toArray, List.getElem_cons_succ, List.getElem_cons_zero, List.setIfInBounds_toArray, List.set_cons_zero, List.set_cons_succ]
                      refine wpAnyH_take (i := 7) (v := .pointer (some ⟨p, 0, none⟩)) rfl (by kernel_rfl) (by kernel_rfl) (by kernel_rfl) (fun _ _ _ h => h) (Or.inl ⟨by rfl, ?_⟩) hHeld ?_
                      · intro u hu
                        go_simp
                      simp only [Act.put, List.getElem_toArray, List.getElem_cons_succ, List.getElem_cons_zero, List.setIfInBounds_toArray, List.set_cons_zero, List.set_cons_succ]
                      refine wpAnyH_take (i := 8) (v := .string xn) rfl (by kernel_rfl) (by kernel_rfl) (by kernel_rfl) (fun _ _ _ h => h) (Or.inl ⟨by rfl, ?_⟩) hHeld ?_
                      · intro u hu
                        obtain ⟨z, k1⟩ := hu; have a0 := k1.cell 0; simp only [List.getElem?_toArray, List.getElem?_cons_zero] at a0; clear k1
                        go_simp
                      simp only [Act.put, List.getElem_toArray, List.getElem_cons_succ, List.getElem_cons_zero, List.setIfInBounds_toArray, List.set_cons_zero, List.set_cons_succ]
                      refine wpAnyH_take (i := 9) (v := .string f) rfl (by kernel_rfl) (by kernel_rfl) (by kernel_rfl) (fun _ _ _ h => h) (Or.inl ⟨by rfl, ?_⟩) hHeld ?_
                      · intro u hu
                        go_simp
                      simp only [Act.put, List.getElem_toArray, List.getElem_cons_succ, List.getElem_cons_zero, List.setIfInBounds_toArray, List.set_cons_zero, List.set_cons_succ]
                      refine wpAnyH_take (i := 10) (v := .int .i64 a) rfl (by kernel_rfl) (by kernel_rfl) (by kernel_rfl) (fun _ _ _ h => h) (Or.inl ⟨by rfl, ?_⟩) hHeld ?_
                      · intro u hu
                        go_simp
                      simp only [Act.put, List.getElem_toArray, List.getElem_cons_succ, List.getElem_cons_zero, List.setIfInBounds_toArray, List.set_cons_zero, List.set_cons_succ]
                      refine wpAnyH_take (i := 11) (v := .pointer (some ⟨p, 0, none⟩)) rfl (by kernel_rfl) (by kernel_rfl) (by kernel_rfl) (fun _ _ _ h => h) (Or.inl ⟨by rfl, ?_⟩) hHeld ?_
                      · intro u hu
                        go_simp
                      simp only [Act.put, List.getElem_toArray, List.getElem_cons_succ, List.getElem_cons_zero, List.setIfInBounds_toArray, List.set_cons_zero, List.set_cons_succ]
                      refine wpAnyH_take (i := 12) (v := .pointer (some ⟨p, 0, none⟩)) rfl (by kernel_rfl) (by kernel_rfl) (by kernel_rfl) (fun _ _ _ h => h) (Or.inl ⟨by rfl, ?_⟩) hHeld ?_
                      · intro u hu
                        go_simp
                      simp only [Act.put, List.getElem_toArray, List.getElem_cons_succ, List.getElem_cons_zero, List.setIfInBounds_toArray, List.set_cons_zero, List.set_cons_succ]
                      refine wpAnyH_take (i := 13) (v := .pointer (some ⟨p, 1, none⟩)) rfl (by kernel_rfl) (by kernel_rfl) (by kernel_rfl) (fun _ _ _ h => h) (Or.inl ⟨by rfl, ?_⟩) hHeld ?_
                      · intro u hu
                        go_simp
                      simp only [Act.put, List.getElem_toArray, List.getElem_cons_succ, List.getElem_cons_zero, List.setIfInBounds_toArray, List.set_cons_zero, List.set_cons_succ]
                      refine wpAnyH_take (i := 14) (v := .string xf) rfl (by kernel_rfl) (by kernel_rfl) (by kernel_rfl) (fun _ _ _ h => h) (Or.inl ⟨by rfl, ?_⟩) hHeld ?_
                      · intro u hu
                        obtain ⟨z, k1⟩ := hu; have a0 := k1.cell 1; simp only [List.getElem?_toArray, List.getElem?_cons_succ, List.getElem?_cons_zero] at a0; clear k1
                        go_simp
                      simp only [Act.put, List.getElem_toArray, List.getElem_cons_succ, List.getElem_cons_zero, List.setIfInBounds_toArray, List.set_cons_zero, List.set_cons_succ]
                      refine wpAnyH_take (i := 15) (v := .int .i64 u) rfl (by kernel_rfl) (by kernel_rfl) (by kernel_rfl) (fun _ _ _ h => h) (Or.inl ⟨by rfl, ?_⟩) hHeld ?_
                      · intro u hu
                        go_simp
                      simp only [Act.put, List.getElem_toArray, List.getElem_cons_succ, List.getElem_cons_zero, List.setIfInBounds_toArray, List.set_cons_zero, List.set_cons_succ]
                      refine wpAnyH_take (i := 16) (v := .agg #[.string xn, .string f, .int .i64 a, .string xf, .int .i64 u]) rfl (by kernel_rfl) (by kernel_rfl) (by kernel_rfl) (fun _ _ _ h => h) (Or.inl ⟨by rfl, ?_⟩) hHeld ?_
                      · intro u hu
                        go_simp
                      simp only [Act.put, List.getElem_toArray, List.getElem_cons_succ, List.getElem_cons_zero, List.setIfInBounds_toArray, List.set_cons_zero, List.set_cons_succ]
                      refine wpAnyH_ready (rs := [4, 17]) (by kernel_rfl) (by simp) ?_
                      refine AllReadyH.cons rfl (fun K hK => ?_) (AllReadyH.cons rfl (fun K hK => ?_) AllReadyH.nil)
                      · skip
                        go_simp
                        refine hK.out _ _ hHeld (fun hHeld => ?_)
                        clear hK K
                        refine wpAnyH_ready (rs := [17]) (by kernel_rfl) (by simp) ?_
                        refine AllReadyH.cons rfl (fun K hK => ?_) AllReadyH.nil
                        go_simp
                        refine hK.out _ _ ⟨hHeld.choose, hHeld.choose_spec.alloc _⟩ (fun hHeld => ?_)
                        clear hK K
                        refine wpAnyH_ready (rs := [18]) (by kernel_rfl) (by simp) ?_
                        refine AllReadyH.cons rfl (fun K hK => ?_) AllReadyH.nil
                        refine step_appG _ rfl (.tmp 83) (.tmp 96) 37 65 iB _ 5 64 Tryz.underlying37 hiB hzB0 hzB1 hzB2 rfl (by decide) rfl 0 _ m _ rfl hto6 (.slice (some ⟨w5.heap.size, 0, none⟩) 1 1) 1 [.string xn, .string f, .int .i64 a, .string xf, .int .i64 u] rfl (Row.of_blk hXd rfl 1 1) rfl (by simp [Value.oneCell']) (by omega) (by unfold maxLen; omega) (Nat.zero_le _) ?_
                        intro v7 w7 h1 h3 h4
                        have hblk7 := (HRK.out.blk.below HBD.out).grown h3 (fun e => absurd (own_tag hto6 e.symm (HRK.out.blk.below HBD.out)) (by decide))
                        have q6 : w7.cell? ⟨p, 5, none⟩ = some (.slice yb m cb) := hblk7.cell 5
                        have q7 : w7.frozen? ⟨p, 5, none⟩ = false := hblk7.frozen 5
                        obtain ⟨y7, c7, rfl⟩ := row_shape h1
                        have HA8 := HRK.out.bind_app HBD.out (b := ⟨xn, f, a, xf, u⟩) (v' := .slice y7 (m + 1) c7) (w2 := w7) (by show w7.ownsRow 0 _ 5 _ (xbs.length + 1) _; rw [← HMB.out]; exact h1) h3 (fun k hk => (h4 k hk).imp id (fun e => Nat.le_trans HBD.out.size e)) (by show xbs.length + 1 ≤ 256; rw [← HMB.out]; omega) HOB.out
                        have HA9 : Hid (LR w (w7.setCell ⟨p, 5, none⟩ (.slice y7 (m + 1) c7)) gr (.slice (some ⟨gv, 0, none⟩) nL cv) L (M.set j (⟨xn, xf, xhs, xu, false, xbs ++ [⟨xn, f, a, xf, u⟩]⟩, ⟨p, hv, .slice y7 (m + 1) c7⟩)) (lrn1K f a u now) (j + 1)) := HLR.out.set HJM.out (by rw [← HXE.out]) (by rw [← HXE.out]) HA8.1 (by rw [← HXE.out]; exact HA8.2.1) (by rw [← HXE.out]; exact HA8.2.2) (by rw [← HXE.out]; exact HNEW.out)
                        clear h1 h3 h4 hto6 HA8
                        refine hK.out _ _ ⟨_, hblk7⟩ (fun hHeld => ?_)
                        clear hK K
                        simp only [Act.put, List.getElem_toArray, List.getElem_cons_succ, List.getElem_cons_zero, List.setIfInBounds_toArray, List.set_cons_zero, List.set_cons_succ]
                        refine wpAnyH_take (i := 19) (v := .pointer (some ⟨p, 0, none⟩)) rfl (by kernel_rfl) (by kernel_rfl) (by kernel_rfl) (fun _ _ _ h => h) (Or.inl ⟨by rfl, ?_⟩) hHeld ?_
                        · intro u hu
                          go_simp
                        simp only [Act.put, List.getElem_toArray, List.getElem_cons_succ, List.getElem_cons_zero, List.setIfInBounds_toArray, List.set_cons_zero, List.set_cons_succ]
                        refine wpAnyH_take (i := 20) (v := .pointer (some ⟨p, 5, none⟩)) rfl (by kernel_rfl) (by kernel_rfl) (by kernel_rfl) (fun _ _ _ h => h) (Or.inl ⟨by rfl, ?_⟩) hHeld ?_
                        · intro u hu
                          go_simp
                        simp only [Act.put, List.getElem_toArray, List.getElem_cons_succ, List.getElem_cons_zero, List.setIfInBounds_toArray, List.set_cons_zero, List.set_cons_succ]
                        refine wpAnyH_ready (rs := [21]) (by kernel_rfl) (by simp) ?_
                        refine AllReadyH.cons rfl (fun K hK => ?_) AllReadyH.nil
                        go_simp
                        refine hK.out _ _ ⟨_, hblk7.set 5 (.slice y7 (m + 1) c7)⟩ (fun hHeld => ?_)
                        clear hK K
                        refine wpAnyH_done (by kernel_rfl) ?_ _
                        go_wp2
                        go_roundw
                        case rel => exact ⟨j + 1, _, by omega, by go_num, HA9⟩
                        case measure => simp [intOf]; omega
                      · skip
                        go_simp
                        refine hK.out _ _ ⟨hHeld.choose, hHeld.choose_spec.alloc _⟩ (fun hHeld => ?_)
                        clear hK K
                        refine wpAnyH_ready (rs := [4]) (by kernel_rfl) (by simp) ?_
                        refine AllReadyH.cons rfl (fun K hK => ?_) AllReadyH.nil
                        go_simp
                        refine hK.out _ _ hHeld (fun hHeld => ?_)
                        clear hK K
                        refine wpAnyH_ready (rs := [18]) (by kernel_rfl) (by simp) ?_
                        refine AllReadyH.cons rfl (fun K hK => ?_) AllReadyH.nil
                        refine step_appG _ rfl (.tmp 83) (.tmp 96) 37 65 iB _ 5 64 Tryz.underlying37 hiB hzB0 hzB1 hzB2 rfl (by decide) rfl 0 _ m _ rfl hto6 (.slice (some ⟨w5.heap.size, 0, none⟩) 1 1) 1 [.string xn, .string f, .int .i64 a, .string xf, .int .i64 u] rfl (Row.of_blk hXd rfl 1 1) rfl (by simp [Value.oneCell']) (by omega) (by unfold maxLen; omega) (Nat.zero_le _) ?_
                        intro v7 w7 h1 h3 h4
                        have hblk7 := (HRK.out.blk.below HBD.out).grown h3 (fun e => absurd (own_tag hto6 e.symm (HRK.out.blk.below HBD.out)) (by decide))
                        have q6 : w7.cell? ⟨p, 5, none⟩ = some (.slice yb m cb) := hblk7.cell 5
                        have q7 : w7.frozen? ⟨p, 5, none⟩ = false := hblk7.frozen 5
                        obtain ⟨y7, c7, rfl⟩ := row_shape h1
                        have HA8 := HRK.out.bind_app HBD.out (b := ⟨xn, f, a, xf, u⟩) (v' := .slice y7 (m + 1) c7) (w2 := w7) (by show w7.ownsRow 0 _ 5 _ (xbs.length + 1) _; rw [← HMB.out]; exact h1) h3 (fun k hk => (h4 k hk).imp id (fun e => Nat.le_trans HBD.out.size e)) (by show xbs.length + 1 ≤ 256; rw [← HMB.out]; omega) HOB.out
                        have HA9 : Hid (LR w (w7.setCell ⟨p, 5, none⟩ (.slice y7 (m + 1) c7)) gr (.slice (some ⟨gv, 0, none⟩) nL cv) L (M.set j (⟨xn, xf, xhs, xu, false, xbs ++ [⟨xn, f, a, xf, u⟩]⟩, ⟨p, hv, .slice y7 (m + 1) c7⟩)) (lrn1K f a u now) (j + 1)) := HLR.out.set HJM.out (by rw [← HXE.out]) (by rw [← HXE.out]) HA8.1 (by rw [← HXE.out]; exact HA8.2.1) (by rw [← HXE.out]; exact HA8.2.2) (by rw [← HXE.out]; exact HNEW.out)
                        clear h1 h3 h4 hto6 HA8
                        refine hK.out _ _ ⟨_, hblk7⟩ (fun hHeld => ?_)
                        clear hK K
                        simp only [Act.put, List.getElem_toArray, List.getElem_cons_succ, List.getElem_cons_zero, List.setIfInBounds_toArray, List.set_cons_zero, List.set_cons_succ]
                        refine wpAnyH_take (i := 19) (v := .pointer (some ⟨p, 0, none⟩)) rfl (by kernel_rfl) (by kernel_rfl) (by kernel_rfl) (fun _ _ _ h => h) (Or.inl ⟨by rfl, ?_⟩) hHeld ?_
                        · intro u hu
                          go_simp
                        simp only [Act.put, List.getElem_toArray, List.getElem_cons_succ, List.getElem_cons_zero, List.setIfInBounds_toArray, List.set_cons_zero, List.set_cons_succ]
                        refine wpAnyH_take (i := 20) (v := .pointer (some ⟨p, 5, none⟩)) rfl (by kernel_rfl) (by kernel_rfl) (by kernel_rfl) (fun _ _ _ h => h) (Or.inl ⟨by rfl, ?_⟩) hHeld ?_
                        · intro u hu
                          go_simp
                        simp only [Act.put, List.getElem_toArray, List.getElem_cons_succ, List.getElem_cons_zero, List.setIfInBounds_toArray, List.set_cons_zero, List.set_cons_succ]
                        refine wpAnyH_ready (rs := [21]) (by kernel_rfl) (by simp) ?_
                        refine AllReadyH.cons rfl (fun K hK => ?_) AllReadyH.nil
                        go_simp
                        refine hK.out _ _ ⟨_, hblk7.set 5 (.slice y7 (m + 1) c7)⟩ (fun hHeld => ?_)
                        clear hK K
                        refine wpAnyH_done (by kernel_rfl) ?_ _
                        go_wp2
                        go_roundw
                        case rel => exact ⟨j + 1, _, by omega, by go_num, HA9⟩
                        case measure => simp [intOf]; omega
          · have hjn' : decide (j < nL) = false := by simpa using hjn
            have HE := HLR.out.done (by rw [← HnL.out]; omega)
            have HFIN : Hid (LearnRest w gr (.slice yv nL cv) L host a u now (.returned (.tuple #[])) wr) := ⟨rfl, M, HLR.out.rs, by rw [HE, HLM.out], HLR.out.turn, HLR.out.foot⟩
            clear HE HLR
            go_wp2
            go_end0
            exact HFIN.out

end Cu
end Go.Proofs.YtnjgdfmldjgloaaGreat
