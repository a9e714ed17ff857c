/- IdRows holds: for every draws, New, Next and Left answer as the document says, one by one; what is handed in is left as it was, and what is written into it afterwards turns nothing. -/
import Derived.Test.YtnpgbiehnnekgaaIdD
import Derived.ProofKit
import Derived.OpenShut
import Derived.ShutString
namespace Go.Proofs.Ytnpgbiehnnekgaa.idRows
open Go.ChangeShapes Go.WideShapes Go.ChangeAt Go.RowKit
open Ix

/-- Ours and the document's, side by side. -/
structure Both (B : Nat) (w wr : World) (gi : Nat) (v : Value) (gr : Nat) (x u : Value) (ps : List Int) (k : Nat) : Prop where
  id : IdAt B wr gi v ps k
  rd : RdAt B wr gr x u ps k
  bel : Below w.heap.size w wr
  base : w.heap.size ≤ B
theorem Both.below {B : Nat} {w wr w' : World} {gi gr k : Nat} {v x u : Value} {ps : List Int} (h : Both B w wr gi v gr x u ps k) (hb : Below wr.heap.size wr w') : Both B w w' gi v gr x u ps k := ⟨h.id.below hb, h.rd.below hb, next h.bel hb, h.base⟩
/-- Ours has given one, and the document's too. -/
theorem Both.ours {B : Nat} {w wr w' : World} {gi gr k k' : Nat} {v x u : Value} {ps : List Int} (h : Both B w wr gi v gr x u ps k) (hi : IdAt B w' gi v ps k') (ht : Turn (fun i => i = gi) wr w') : IdAt B w' gi v ps k' ∧ RdAt B w' gr x u ps k ∧ Below w.heap.size w w' := by
  refine ⟨hi, h.rd.turn ht (fun i e => ?_), Turn.below (S := fun i => i = gi) h.bel ht h.bel.size (fun i e => by rw [e]; exact Nat.le_trans h.base h.id.new)⟩
  subst e
  refine ⟨fun e => ?_, fun e => ?_⟩
  · subst e
    exact absurd (blk_tag h.id.blk h.rd.blk) (by decide)
  · obtain ⟨cur, hc⟩ := own_cells h.rd.own e
    exact absurd (blk_tag hc h.id.blk) (by decide)
theorem Both.theirs {B : Nat} {w wa w' : World} {gi gr k k' : Nat} {v x u u' : Value} {ps : List Int} (hB : w.heap.size ≤ B) (hi : IdAt B wa gi v ps k') (hr : RdAt B wa gr x u ps k) (hb : Below w.heap.size w wa) (h : RdAt B w' gr x u' ps k') (ht : Turn (fun i => i = gr) wa w') : Both B w w' gi v gr x u' ps k' := by
  refine ⟨hi.turn ht (fun i e => ?_), h, Turn.below (S := fun i => i = gr) hb ht hb.size (fun i e => by rw [e]; exact Nat.le_trans hB hr.new), hB⟩
  subst e
  refine ⟨fun e => ?_, fun e => ?_⟩
  · subst e
    exact absurd (blk_tag hi.blk hr.blk) (by decide)
  · obtain ⟨cur, hc⟩ := own_cells hi.own e
    exact absurd (blk_tag hc hr.blk) (by decide)

/-- What was lent is written over: both stand as they stood. -/
theorem spoiled {B : Nat} {w wa w' : World} {gi gr k g n cap : Nat} {v x u : Value} {ps : List Int} (h : Both B w wa gi v gr x u ps k) (hg : g < B) (hw : w.heap.size ≤ g) (ht : Turn (fun i => (Value.slice (some ⟨g, 0, none⟩) n cap).ownBlock = some i) wa w') : Both B w w' gi v gr x u ps k := by
  have hs : ∀ i, (Value.slice (some ⟨g, 0, none⟩) n cap).ownBlock = some i → i = g := fun i e => by simpa [Value.ownBlock, eq_comm] using e
  refine ⟨h.id.turn ht (fun i e => ?_), h.rd.turn ht (fun i e => ?_), Turn.below h.bel ht h.bel.size (fun i e => by rw [hs i e]; exact hw), h.base⟩
  · rw [hs i e]
    exact ⟨fun e => by have := h.id.new; omega, fun e => by have := (h.id.own.lt g e).1; omega⟩
  · rw [hs i e]
    exact ⟨fun e => by have := h.rd.new; omega, fun e => by have := (h.rd.own.lt g e).1; omega⟩

set_option maxRecDepth 20000 in
set_option maxHeartbeats 1000000 in
theorem walk (v0 : Value) (ps : List Int) (w : World) (h : IsIn w v0 ps) :
    Calls Try.prog 3 #[v0] w fun e w' => e = .returned (.bool true) ∧ Below w.heap.size w w' := by
  have hl := lendI_any v0 ps w h.row h.len
  have HI : Hid (IsIn w v0 ps) := h
  obtain ⟨x0, c0, rfl⟩ := row_slice h.row
  obtain ⟨N, hN⟩ : ∃ N, N = ps.length := ⟨_, rfl⟩
  have HN : Hid (N = ps.length) := hN
  have hNm : N ≤ 17592186043904 := by rw [hN]; exact h.len
  rw [← hN] at hl HI ⊢
  clear hN h
  by_cases hk : 1024 < N
  · have hkm : N ≤ maxLen := by unfold maxLen; omega
    go_enter Try.func3, Try.ntmps3
    go_wp2_with (first
      | (go_at_call 5; go_must (refine hl.mono ?_); rintro e w1 ⟨g, cap, rfl, hcap, hli, hown, b1⟩; have hkp := keptI_any g cap _ ps w1 hli (by have := HN.out; omega) (HI.out.below b1).row HI.out.len; rw [← HN.out] at hkp; clear hl hown hli hcap)
      | (go_at_call 6; go_must (refine (new_no _ _ _ _ hkm hk).mono ?_); rintro e w2 ⟨rfl, hw⟩; obtain rfl := hw.symm)
      | (go_at_call 7; go_must (refine (rnew_no _ _ _ _ hkm hk).mono ?_); rintro e w2 ⟨rfl, hw⟩; obtain rfl := hw.symm)
      | (go_at_call 8; go_must (refine hkp.mono ?_); rintro e w3 ⟨rfl, b3⟩; replace b1 := next b1 b3; clear hkp b3)
      | (go_at_call 9; go_must (refine (num_any _ _).mono ?_); rintro e w' ⟨rfl, hw⟩; obtain rfl := hw.symm)
      | (go_at_call 10; go_must (refine (awake_any _).mono ?_); rintro e w4 ⟨rfl, b4⟩))
    go_ret
    exact ⟨rfl, next b1 b4⟩
  · have hk2 : N ≤ 1024 := by omega
    have HK : Hid (N ≤ 1024) := hk2
    clear hk hNm
    go_enter Try.func3, Try.ntmps3
    go_wp2_with (first
      | (go_at_call 5; go_must (refine hl.mono ?_); rintro e w1 ⟨g, cap, rfl, hcap, hli, hown, b1⟩; have hlm := hown.lt g rfl; have HL : Hid (w.heap.size ≤ w1.heap.size ∧ w.heap.size ≤ g ∧ g < w1.heap.size) := ⟨b1.size, hlm⟩; have hnw := new_yes (.slice (some ⟨g, 0, none⟩) N cap) ps w1 (by rw [← HN.out]; exact Row.of_own hown) (by rw [← HN.out]; exact HK.out); have HLI : Hid (N + 2 ≤ cap ∧ Lies w1 g (iC ps ++ iC mkI)) := ⟨hcap, hli⟩; have HOW : Hid (w1.ownsRow w.heap.size 3 1 (.slice (some ⟨g, 0, none⟩) N cap) N (iC ps)) := hown; clear hl hown hli hcap hlm)
      | (go_at_call 6; go_must (refine hnw.mono ?_); rintro e w2 ⟨gi, v, rfl, hi, b2⟩; have HB2 : Hid (Below w.heap.size w w2) := next b1 b2; have HLI2 : Hid (N + 2 ≤ cap ∧ Lies w2 g (iC ps ++ iC mkI)) := ⟨HLI.out.1, HLI.out.2.below b2⟩; have HOW2 : Hid (w2.ownsRow w.heap.size 3 1 (.slice (some ⟨g, 0, none⟩) N cap) N (iC ps)) := own_past HOW.out b2; have HID2 : Hid (IdAt w1.heap.size w2 gi v ps 0 ∧ w1.heap.size ≤ w2.heap.size) := ⟨hi, b2.size⟩; have hrn := rnew_yes (.slice x0 N c0) ps w2 (HI.out.below HB2.out).row (by rw [← HN.out]; exact HK.out); clear hnw hi b1 b2 HLI HOW)
      | (go_at_call 7; go_must (refine hrn.mono ?_); rintro e w3 ⟨gr, u0, rfl, hr, b3⟩; have HB3 : Hid (Both w1.heap.size w w3 gi v gr u0 u0 ps 0) := ⟨HID2.out.1.below b3, ⟨hr.blk, own_base hr.own HID2.out.2, hr.tail, Nat.le_trans HID2.out.2 hr.new, hr.le, hr.most⟩, next HB2.out b3, HL.out.1⟩; have hkp := keptI_any g cap (.slice x0 N c0) ps w3 (HLI2.out.2.below b3) (by rw [← HN.out]; exact HLI2.out.1) (HI.out.below HB3.out.bel).row HI.out.len; rw [← HN.out] at hkp; have HOW3 : Hid (w3.ownsRow w.heap.size 3 1 (.slice (some ⟨g, 0, none⟩) N cap) N (iC ps)) := own_past HOW2.out b3; clear hrn hr b3 HLI2 HOW2 HID2 HB2)
      | (go_at_call 8; go_must (refine hkp.mono ?_); rintro e w4 ⟨rfl, b4⟩; have HB4 : Hid (Both w1.heap.size w w4 gi v gr u0 u0 ps 0) := HB3.out.below b4; have hsp := spoilI_any (own_past HOW3.out b4) (by rw [HN.out]; exact numsI ps) (by have := HK.out; unfold maxLen; omega); clear hkp b4)
      | (go_at_call 9; go_must (refine (num_any _ _).mono ?_); rintro e w' ⟨rfl, hw⟩; obtain rfl := hw.symm)
      | (go_at_call 11; go_must (refine hsp.mono ?_); rintro e w5 ⟨rfl, t5⟩; have HB5 : Hid (Both w1.heap.size w w5 gi v gr u0 u0 ps 0) := spoiled HB4.out HL.out.2.2 HL.out.2.1 t5; clear hsp t5))
    go_loopw [8] (fun i wr => ∃ (j k : Nat) (u : Value), j ≤ N + 2 ∧ k ≤ N ∧ (j < N → k = j) ∧ (N ≤ j → k = N) ∧ i = .int .i64 (j : Int) ∧ Hid (Both w1.heap.size w wr gi v gr u0 u ps k)) (fun i _ => N + 2 - (intOf i).toNat)
    case atStart => exact ⟨0, 0, _, by omega, by omega, fun _ => rfl, fun h => by omega, rfl, HB5⟩
    case round =>
      clear HB3 HOW3 HB4 HB5
      obtain ⟨j, k, u, hj, hkN, hkj, hkn, rfl, HS⟩ := hrel
      by_cases hjn : j < N + 2
      · have hjn' : (j : Int) < (N : Int) + 2 := by omega
        by_cases hjk : j < N
        · have hkp : k < ps.length := by rw [← HN.out]; have := hkj hjk; omega
          obtain ⟨q, hq⟩ : ∃ q, ps[k] = q := ⟨_, rfl⟩
          have hnx := next_yes HS.out.id hkp q hq
          have HR : Hid (∀ z, RdAt w1.heap.size z gr u0 u ps k → Calls Try.prog 13 #[.pointer (some ⟨gr, 0, none⟩)] z fun e w' => e = .returned (.tuple #[.int .i64 (q % 65536), .int .i64 0]) ∧ ∃ u', RdAt w1.heap.size w' gr u0 u' ps (k + 1) ∧ Turn (fun i => i = gr) z w') := fun z hz => rnext_yes hz hkp q hq
          obtain ⟨p, hp⟩ : ∃ p, p = q % 65536 := ⟨_, rfl⟩
          rw [← hp] at hnx HR
          have hp0 : decide (p < 0) = false := by simp; omega
          have hp1 : decide (65535 < p) = false := by simp; omega
          have HK2 : Hid (k + 1 ≤ N ∧ (j + 1 < N → k + 1 = j + 1) ∧ (N ≤ j + 1 → k + 1 = N)) := ⟨by have := hkj hjk; omega, fun _ => by have := hkj hjk; omega, fun _ => by have := hkj hjk; omega⟩
          clear hq hp hkj hkn hkN hkp
          go_wp2_with (first
            | (go_at_call 12; go_must (refine hnx.mono ?_); rintro e w6 ⟨rfl, h6, t6⟩; have HO : Hid (IdAt w1.heap.size w6 gi v ps (k + 1) ∧ RdAt w1.heap.size w6 gr u0 u ps k ∧ Below w.heap.size w w6) := HS.out.ours h6 t6; have hrx := HR.out w6 HO.out.2.1; clear h6 t6 hnx HR)
            | (go_at_call 13; go_must (refine hrx.mono ?_); rintro e w7 ⟨rfl, u', h7, t7⟩; have HB7 : Hid (Both w1.heap.size w w7 gi v gr u0 u' ps (k + 1)) := Both.theirs HS.out.base HO.out.1 HO.out.2.1 HO.out.2.2 h7 t7; have hlf := left_any HB7.out.id; clear h7 t7 hrx)
            | (go_at_call 9; go_must (refine (num_any _ _).mono ?_); rintro e w' ⟨rfl, hw⟩; obtain rfl := hw.symm)
            | (go_at_call 14; go_must (refine hlf.mono ?_); rintro e w8 ⟨rfl, b8⟩; have HB8 : Hid (Both w1.heap.size w w8 gi v gr u0 u' ps (k + 1)) := HB7.out.below b8; have hrl := rleft_any HB8.out.rd; clear hlf b8)
            | (go_at_call 15; go_must (refine hrl.mono ?_); rintro e w9 ⟨rfl, hw⟩; obtain rfl := hw.symm; clear hrl))
          go_roundw
          case rel => exact ⟨j + 1, k + 1, _, by omega, HK2.out.1, HK2.out.2.1, HK2.out.2.2, by go_num, HB8⟩
          case measure => simp [intOf]; omega
        · have hkq : k = ps.length := by rw [← HN.out]; exact hkn (by omega)
          have hnx := next_no HS.out.id hkq
          have HR : Hid (∀ z, RdAt w1.heap.size z gr u0 u ps k → Calls Try.prog 13 #[.pointer (some ⟨gr, 0, none⟩)] z fun e w' => e = .returned (.tuple #[.int .i64 0, .int .i64 1801]) ∧ w' = z) := fun z hz => rnext_no hz hkq
          have HK2 : Hid (k ≤ N ∧ (j + 1 < N → k = j + 1) ∧ (N ≤ j + 1 → k = N)) := ⟨hkN, fun _ => by omega, fun _ => hkn (by omega)⟩
          clear hkq hkj hkn hkN
          go_wp2_with (first
            | (go_at_call 12; go_must (refine hnx.mono ?_); rintro e w6 ⟨rfl, b6⟩; have HB7 : Hid (Both w1.heap.size w w6 gi v gr u0 u ps k) := HS.out.below b6; have hrx := HR.out w6 HB7.out.rd; have hlf := left_any HB7.out.id; clear b6 hnx HR)
            | (go_at_call 13; go_must (refine hrx.mono ?_); rintro e w7 ⟨rfl, hw⟩; obtain rfl := hw.symm; clear hrx)
            | (go_at_call 9; go_must (refine (num_any _ _).mono ?_); rintro e w' ⟨rfl, hw⟩; obtain rfl := hw.symm)
            | (go_at_call 14; go_must (refine hlf.mono ?_); rintro e w8 ⟨rfl, b8⟩; have HB8 : Hid (Both w1.heap.size w w8 gi v gr u0 u ps k) := HB7.out.below b8; have hrl := rleft_any HB8.out.rd; clear hlf b8)
            | (go_at_call 15; go_must (refine hrl.mono ?_); rintro e w9 ⟨rfl, hw⟩; obtain rfl := hw.symm; clear hrl))
          go_roundw
          case rel => exact ⟨j + 1, k, _, by omega, HK2.out.1, HK2.out.2.1, HK2.out.2.2, by go_num, HB8⟩
          case measure => simp [intOf]; omega
      · have hjn' : decide ((j : Int) < (N : Int) + 2) = false := by simp; omega
        go_wp2_with (go_at_call 10; go_must (refine (awake_any _).mono ?_); rintro e w6 ⟨rfl, b6⟩)
        go_ret
        exact ⟨rfl, next HS.out.bel b6⟩

theorem own : ownKnob Try.prog.godebug = none := by kernel_rfl
theorem laidOut : laidOutB Try.prog = true := by kernel_rfl

set_option maxRecDepth 100000 in
theorem lifted (os : Os) (started : os.Started) (H : Type) (enc : TypeId × Value → H) :
    ReturnsInHanded {} Try.checked os 3 .any (Rows.idRowsSpec.pre6 enc Try.prog Try.f3 Rows.idRowsRow.domain false) (Rows.idRowsSpec.post enc Try.prog Try.f3 false true false false) := by
  refine returnsInHanded_of_change_sized (C := Try.checked) own started (by kernel_rfl) Try.func3
    (ChangeSpec.witness6 (enc := enc) (C := Try.checked) false ⟨#[], #[.slice none 0 0], []⟩ 8 (by kernel_rfl) (by kernel_rfl) (by kernel_rfl) (by kernel_rfl)) ?_
  intro W base args ds gs before hval0 hW _ hsz0 _
  have hval : ∀ (j : Nat) t v, Try.f3.params[j]? = some t → args[j]? = some v → Value.okWide Try.prog W .any base t v := hval0
  have hsz : (DataW.weightsEach Try.prog (Try.f3.params.toList ++ Rows.idRowsSpec.plain.varTypes Try.prog) (ds ++ gs)).all (· ≤ reachBytes) = true := hsz0
  have hW' := hW
  obtain ⟨p, q, hA0, hV, rfl, hfz, hnd⟩ := hW
  have hA : DataW.TrodAll enc Try.prog W 0 (fun _ => true) true Try.f3.params.toList args.toList ds p := hA0
  rw [Try.params3] at hA hval hsz
  obtain ⟨v0, vs0, d0, ds0, p0, q0, hargs, rfl, rfl, h0, r0⟩ := trodAll_cons hA
  obtain ⟨rfl, rfl, rfl⟩ := trodAll_nil r0
  obtain rfl : args = #[v0] := by cases args; simp_all
  obtain ⟨rfl, rfl⟩ := trodVars_none hV
  obtain ⟨a0, w0⟩ := Ix.open_ifar (hval 0 22 v0 rfl rfl) h0 (weights_all hsz (j := 0) rfl rfl)
  have hlt0 : ∀ x ∈ p0, x.block < W.heap.size := fun x hx => by
    have := hW'.lt x (by simp [hx])
    simpa using this
  clear hA0 hval0 hsz0 hsz
  simp only [List.append_nil] at hW'
  refine (walk v0 a0   W w0).mono fun e W' ⟨he, bel⟩ => ?_
  subst he
  exact ⟨_, rfl, _, _, _, [], _, [], hW', trodAll_mk1 (shut_bool Try.underlying4 _), (trodAll_cons_mk (Below.trod laidOut (by kernel_rfl) (of_decide_eq_true (by kernel_rfl)) h0 bel hlt0) trodAll_mk0), rfl, bel.frame _, fun h => by cases h⟩

/-- The statement. -/
theorem proved : Rows.IdRowsSaid :=
  OpenClaim.holds_of_wide 3 Try.f3 rfl rfl rfl rfl rfl rfl rfl ⟨rfl, rfl, rfl, rfl, rfl⟩ rfl rfl rfl rfl rfl (by kernel_rfl) Try.func3 (by kernel_rfl)
    (of_decide_eq_true (by kernel_rfl)) (by unfold Func.isWrapper; first | (rw [if_pos (by decide +kernel)]; kernel_rfl) | (rw [if_neg (by decide +kernel)]; exact ⟨rfl, rfl⟩))
    (fun os started H enc _ => lifted os started H enc)
#print axioms proved


end Go.Proofs.Ytnpgbiehnnekgaa.idRows
