/- IdLimits holds: for every two numbers, New refuses more than MaxIds draws, and of at most so many each Next gives the draw modulo 2^16, as many as there are. -/
import Derived.Test.YtnpgbiehnnekgaaIdD
import Derived.ProofKit
import Derived.OpenShut
import Derived.ShutString
namespace Go.Proofs.Ytnpgbiehnnekgaa.idLimits
open Go.ChangeShapes Go.WideShapes Go.ChangeAt Go.RowKit
open Ix

theorem iC_map (ps : List Int) : iC ps = ps.map (Value.int .i64) := by
  unfold iC
  induction ps with
  | nil => rfl
  | cons p ps ih => rw [List.flatMap_cons, List.map_cons, ih]; rfl
theorem iC_set (ps : List Int) (j : Nat) (z : Int) : (iC ps).set j (.int .i64 z) = iC (ps.set j z) := by rw [iC_map, iC_map, List.map_set]
/-- The row of draws while it is laid. -/
structure AllAt (w wr : World) (g K : Nat) (ps : List Int) : Prop where
  own : wr.ownsRow w.heap.size 3 1 (.slice (some ⟨g, 0, none⟩) K K) K (iC ps)
  len : ps.length = K
  bel : Below w.heap.size w wr
theorem AllAt.set {w wr : World} {g K : Nat} {ps : List Int} (h : AllAt w wr g K ps) (j : Nat) (z : Int) : AllAt w (wr.setCell ⟨g, j, none⟩ (.int .i64 z)) g K (ps.set j z) :=
  ⟨by rw [← iC_set]; exact (h.own.stored _ _).1, by rw [List.length_set]; exact h.len, h.bel.setCell (p := ⟨g, j, none⟩) (h.own.lt g rfl).1 _⟩
theorem AllAt.below {w wr w' : World} {g K : Nat} {ps : List Int} (h : AllAt w wr g K ps) (hb : Below wr.heap.size wr w') : AllAt w w' g K ps := ⟨own_past h.own hb, h.len, next h.bel hb⟩
theorem AllAt.turn {w wr w' : World} {g K i k : Nat} {ps qs : List Int} {v : Value} (h : AllAt w wr g K ps) (hi : IdAt w.heap.size wr i v qs k) (ht : Turn (fun j => j = i) wr w') : AllAt w w' g K ps := by
  refine ⟨ht.row h.own (fun j hj e => ?_), h.len, Turn.below (S := fun j => j = i) h.bel ht h.bel.size (fun j e => by rw [e]; exact hi.new)⟩
  subst e
  obtain ⟨cur, hc⟩ := own_cells h.own hj
  exact absurd (blk_tag hc hi.blk) (by decide)

set_option maxRecDepth 20000 in
set_option maxHeartbeats 1000000 in
theorem walk (many x : Int) (_ : (Lit.int .i64 many).wf = true) (_ : (Lit.int .i64 x).wf = true) (w : World) :
    Calls Try.prog 4 #[.int .i64 many, .int .i64 x] w fun e w' => e = .returned (.bool true) ∧ Below w.heap.size w w' := by
  have ha := awake_any w
  obtain ⟨M, hM⟩ : ∃ M : Nat, bits .and .i64 many 3 = (M : Int) ∧ M ≤ 3 := by
    have h1 := mask many 2 (by decide)
    rw [show (((2 ^ 2 - 1 : Nat)) : Int) = 3 from rfl, show (((2 ^ 2 : Nat)) : Int) = 4 from rfl] at h1
    exact ⟨(many % 4).toNat, by rw [h1]; omega, by omega⟩
  obtain ⟨hM1, hM2⟩ := hM
  obtain ⟨K, hK⟩ : ∃ K : Nat, K = 1022 + M := ⟨_, rfl⟩
  have hK1 : (1022 : Int) + (M : Int) = (K : Int) := by omega
  have hK2 : K ≤ 1025 := by omega
  have hK3 : 1022 ≤ K := by omega
  obtain ⟨Zc, hZ, hmk⟩ := made K (by omega)
  clear hK hM2
  have HZ : Hid (∀ u : World, Below w.heap.size w u → AllAt w (u.alloc (.cells Zc 3)) u.heap.size K (List.replicate K 0)) := fun u hb =>
    ⟨own_blk (Blk.new u Zc 3) hb.size hZ (by rw [iC_len, List.length_replicate, Nat.mul_one]) (by unfold maxLen; omega), List.length_replicate, lay hb _⟩
  clear hZ
  by_cases hk : 1024 < K
  · have hK4 : (1024 : Int) < (K : Int) := by omega
    have hK6 : K ≤ maxLen := by unfold maxLen; omega
    go_enter Try.func4, Try.ntmps4
    go_wp2_with (go_at_call 10; go_must (refine ha.mono ?_); rintro e w1 ⟨rfl, b1⟩; have HA := HZ.out w1 b1; clear ha HZ b1)
    obtain ⟨g, hg⟩ : ∃ g, g = w1.heap.size := ⟨_, rfl⟩
    rw [← hg] at HA ⊢
    generalize w1.alloc (.cells Zc 3) = w2 at HA ⊢
    have HA2 : Hid (AllAt w w2 g K (List.replicate K 0)) := HA
    clear HA hmk hg
    go_loopw [7] (fun i wr => ∃ (j : Nat) (ps : List Int), j ≤ K ∧ i = .int .i64 (j : Int) ∧ Hid (AllAt w wr g K ps)) (fun i _ => K - (intOf i).toNat)
    case atStart => exact ⟨0, _, Nat.zero_le _, rfl, HA2⟩
    case round =>
      clear HA2
      obtain ⟨j, ps, hj, rfl, HA⟩ := hrel
      by_cases hjk : j < K
      · have hjk' : (j : Int) < (K : Int) := by omega
        have f1 := HA.out.own.frozenAt j
        have c1 : ∃ v, wr.cell? ⟨g, j, none⟩ = some v := by rw [HA.out.own.cellAt j (by omega)]; exact ⟨_, iC_at (by rw [HA.out.len]; exact hjk)⟩
        obtain ⟨v1, c1⟩ := c1
        have HS : ∀ z : Int, Hid (AllAt w (wr.setCell ⟨g, j, none⟩ (.int .i64 z)) g K (ps.set j z)) := fun z => HA.out.set j z
        go_wp2
        go_roundw
        case rel => exact ⟨j + 1, _, by omega, by go_num, HS _⟩
        case measure => simp [intOf]; omega
      · have hjk' : decide (j < K) = false := by simpa using hjk
        go_wp2_with (first
          | (go_at_call 6; go_must (refine (new_no _ K K _ hK6 hk).mono ?_); rintro e w3 ⟨rfl, hw⟩; obtain rfl := hw.symm)
          | (go_at_call 9; go_must (refine (num_any _ _).mono ?_); rintro e w' ⟨rfl, hw⟩; obtain rfl := hw.symm))
        go_ret
        exact ⟨rfl, HA.out.bel⟩
  · have hK4 : K ≤ 1024 := by omega
    have hK5 : decide ((1024 : Int) < (K : Int)) = false := by simp; omega
    clear hk hK2
    go_enter Try.func4, Try.ntmps4
    go_wp2_with (go_at_call 10; go_must (refine ha.mono ?_); rintro e w1 ⟨rfl, b1⟩; have HA := HZ.out w1 b1; clear ha HZ b1)
    obtain ⟨g, hg⟩ : ∃ g, g = w1.heap.size := ⟨_, rfl⟩
    rw [← hg] at HA ⊢
    generalize w1.alloc (.cells Zc 3) = w2 at HA ⊢
    have HA2 : Hid (AllAt w w2 g K (List.replicate K 0)) := HA
    clear HA hmk hg
    go_loopw [7] (fun i wr => ∃ (j : Nat) (ps : List Int), j ≤ K ∧ i = .int .i64 (j : Int) ∧ Hid (AllAt w wr g K ps)) (fun i _ => K - (intOf i).toNat)
    case atStart => exact ⟨0, _, Nat.zero_le _, rfl, HA2⟩
    case round =>
      clear HA2
      obtain ⟨j, ps, hj, rfl, HA⟩ := hrel
      by_cases hjk : j < K
      · have hjk' : (j : Int) < (K : Int) := by omega
        have f1 := HA.out.own.frozenAt j
        have c1 : ∃ v, wr.cell? ⟨g, j, none⟩ = some v := by rw [HA.out.own.cellAt j (by omega)]; exact ⟨_, iC_at (by rw [HA.out.len]; exact hjk)⟩
        obtain ⟨v1, c1⟩ := c1
        have HS : ∀ z : Int, Hid (AllAt w (wr.setCell ⟨g, j, none⟩ (.int .i64 z)) g K (ps.set j z)) := fun z => HA.out.set j z
        go_wp2
        go_roundw
        case rel => exact ⟨j + 1, _, by omega, by go_num, HS _⟩
        case measure => simp [intOf]; omega
      · have hjk' : decide (j < K) = false := by simpa using hjk
        have hn := new_yes (.slice (some ⟨g, 0, none⟩) K K) ps wr (by rw [HA.out.len]; exact Row.of_own HA.out.own) (by rw [HA.out.len]; exact hK4)
        clear hjk hj
        go_wp2_with (go_at_call 6; go_must (refine hn.mono ?_); rintro e w3 ⟨gi, u, rfl, H0, b3⟩; have HS : Hid (AllAt w w3 g K ps ∧ IdAt w.heap.size w3 gi u ps 0) := ⟨HA.out.below b3, H0.base HA.out.bel.size⟩; clear hn H0 b3)
        clear hjk'
        go_loopw [10] (fun i wx => ∃ j : Nat, j ≤ K ∧ i = .int .i64 (j : Int) ∧ Hid (AllAt w wx g K ps ∧ IdAt w.heap.size wx gi u ps j)) (fun i _ => K - (intOf i).toNat)
        case atStart => exact ⟨0, Nat.zero_le _, rfl, HS⟩
        case round =>
          clear HS HA
          obtain ⟨j, hj, rfl, HS⟩ := hrel
          by_cases hjk : j < K
          · have hjk' : (j : Int) < (K : Int) := by omega
            have hjp : j < ps.length := by rw [HS.out.1.len]; exact hjk
            obtain ⟨q, hq⟩ : ∃ q, ps[j] = q := ⟨_, rfl⟩
            have hnx := next_yes HS.out.2 hjp q hq
            have HC : Hid (∀ v, AllAt w v g K ps → v.cell? ⟨g, j, none⟩ = some (.int .i64 q)) := fun v hv => by rw [hv.own.cellAt j (by omega), iC_at hjp, hq]
            have hm := mask16 q
            have e1 : (K : Int) - 1 - (j : Int) = ((K - (j + 1) : Nat) : Int) := by omega
            clear hq
            go_wp2_with (first
              | (go_at_call 12; go_must (refine hnx.mono ?_); rintro e w4 ⟨rfl, h4, t4⟩; have HT : Hid (AllAt w w4 g K ps ∧ IdAt w.heap.size w4 gi u ps (j + 1)) := ⟨HS.out.1.turn HS.out.2 t4, h4⟩; have c4 := HC.out w4 HT.out.1; have hlf := left_any h4; rw [HT.out.1.len] at hlf; clear h4 t4 hnx)
              | (go_at_call 9; go_must (refine (num_any _ _).mono ?_); rintro e w' ⟨rfl, hw⟩; obtain rfl := hw.symm)
              | (go_at_call 14; go_must (refine hlf.mono ?_); rintro e w5 ⟨rfl, b5⟩; have HT5 : Hid (AllAt w w5 g K ps ∧ IdAt w.heap.size w5 gi u ps (j + 1)) := ⟨HT.out.1.below b5, HT.out.2.below b5⟩; clear hlf b5))
            go_roundw
            case rel => exact ⟨j + 1, by omega, by go_num, HT5⟩
            case measure => simp [intOf]; omega
          · have hjk' : decide (j < K) = false := by simpa using hjk
            have hnx := next_no HS.out.2 (by rw [HS.out.1.len]; omega)
            go_wp2_with (first
              | (go_at_call 12; go_must (refine hnx.mono ?_); rintro e w4 ⟨rfl, b4⟩; clear hnx)
              | (go_at_call 9; go_must (refine (num_any _ _).mono ?_); rintro e w' ⟨rfl, hw⟩; obtain rfl := hw.symm))
            go_ret
            exact ⟨rfl, next HS.out.1.bel b4⟩

theorem own : ownKnob Try.prog.godebug = none := by kernel_rfl

set_option maxRecDepth 100000 in
theorem lifted (os : Os) (started : os.Started) (H : Type) (enc : TypeId × Value → H) :
    ReturnsInHanded {} Try.checked os 4 .any (Rows.idLimitsSpec.pre6 enc Try.prog Try.f4 Rows.idLimitsRow.domain false) (Rows.idLimitsSpec.post enc Try.prog Try.f4 false true false false) := by
  refine returnsInHanded_of_change (C := Try.checked) own started (by kernel_rfl) Try.func4
    (ChangeSpec.witness6 (enc := enc) (C := Try.checked) false ⟨#[], #[.int .i64 0, .int .i64 0], []⟩ 8 (by kernel_rfl) (by kernel_rfl) (by kernel_rfl) (by kernel_rfl)) ?_
  intro W base args ds gs before hval0 hW _ _
  have hval : ∀ (j : Nat) t v, Try.f4.params[j]? = some t → args[j]? = some v → Value.okWide Try.prog W .any base t v := hval0
  have hW' := hW
  obtain ⟨p, q, hA0, hV, rfl, hfz, hnd⟩ := hW
  have hA : DataW.TrodAll enc Try.prog W 0 (fun _ => true) true Try.f4.params.toList args.toList ds p := hA0
  rw [Try.params4] at hA hval
  obtain ⟨v0, vs0, d0, ds0, p0, q0, hargs, rfl, rfl, h0, r0⟩ := trodAll_cons hA
  obtain ⟨v1, vs1, d1, ds1, p1, q1, rfl, rfl, rfl, h1, r1⟩ := trodAll_cons r0
  obtain ⟨rfl, rfl, rfl⟩ := trodAll_nil r1
  obtain rfl : args = #[v0, v1] := by cases args; simp_all
  obtain ⟨rfl, rfl⟩ := trodVars_none hV
  obtain ⟨a0, rfl, rfl, rfl, w0⟩ := open_int Try.underlying3 (hval 0 3 v0 rfl rfl) h0
  obtain ⟨a1, rfl, rfl, rfl, w1⟩ := open_int Try.underlying3 (hval 1 3 v1 rfl rfl) h1
  clear hA0 hval0
  simp only [List.append_nil] at hW'
  refine (walk a0 a1 w0 w1 W ).mono fun e W' ⟨he, bel⟩ => ?_
  subst he
  exact ⟨_, rfl, _, _, _, [], [], [], hW', trodAll_mk1 (shut_bool Try.underlying4 _), (trodAll_cons_mk (shut_int Try.underlying3 w0) (trodAll_cons_mk (shut_int Try.underlying3 w1) trodAll_mk0)), rfl, bel.frame _, fun h => by cases h⟩

/-- The statement. -/
theorem proved : Rows.IdLimitsSaid :=
  OpenClaim.holds_of_wide 4 Try.f4 rfl rfl rfl rfl rfl rfl rfl ⟨rfl, rfl, rfl, rfl, rfl⟩ rfl rfl rfl rfl rfl (by kernel_rfl) Try.func4 (by kernel_rfl)
    (of_decide_eq_true (by kernel_rfl)) (by unfold Func.isWrapper; first | (rw [if_pos (by decide +kernel)]; kernel_rfl) | (rw [if_neg (by decide +kernel)]; exact ⟨rfl, rfl⟩))
    (fun os started H enc _ => lifted os started H enc)
#print axioms proved


end Go.Proofs.Ytnpgbiehnnekgaa.idLimits
