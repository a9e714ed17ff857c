/- Names holds: for every two strings, Text, Parse, May and Count answer as the document's own answers do. -/
import Derived.Test.YtkfpboippchdbaaWalkK
import Derived.ProofKit
import Derived.OpenShut
import Derived.ShutString
import Derived.SizedLaws
namespace Go.Proofs.Ytkfpboippchdbaa.names
open Go.ChangeShapes Go.WideShapes Go.ChangeAt Go.RowKit
open Go.ChangeMaps (open_string shut_string)
open Pl

theorem refParse_ok (s n : ByteArray) (w : World) (hs : s.size ≤ 140737488351232) (h : prs s.data.toList = some n.data.toList) :
    Calls Try.prog 12 #[.string s] w fun e w' => e = .returned (.tuple #[.string n, .int .i64 0]) ∧ Below w.heap.size w w' := by
  have := refParse_any s w hs
  rw [h] at this
  exact this
theorem refParse_err (s : ByteArray) (w : World) (hs : s.size ≤ 140737488351232) (h : prs s.data.toList = none) :
    Calls Try.prog 12 #[.string s] w fun e w' => e = .returned (.tuple #[.string ⟨#[]⟩, .int .i64 100]) ∧ Below w.heap.size w w' := by
  have := refParse_any s w hs
  rw [h] at this
  exact this

set_option maxRecDepth 20000 in
set_option maxHeartbeats 2000000 in
theorem walk (a0 a1 : ByteArray) (s0 : a0.size ≤ maxLen) (s1 : a1.size ≤ maxLen) (_ : a0.size ≤ 140737488351232) (z1 : a1.size ≤ 140737488351232) (w : World) :
    Calls Try.prog 3 #[.string a0, .string a1] w fun e w' => e = .returned (.bool true) ∧ Below w.heap.size w w' := by
  cases h1 : isName a0.data.toList with
  | true =>
    obtain ⟨ta, hta1, _, _⟩ := text_is h1
    have H1 : Hid (isName a0.data.toList = true) := h1
    have HT : Hid (ta.data.toList = tx a0.data.toList) := hta1
    clear hta1
    cases h2 : prs a1.data.toList with
    | none =>
      have H2 : Hid (prs a1.data.toList = none) := h2
      clear h2
      go_enter Try.func3, Try.ntmps3
      go_wp2_with (first
        | (go_at_call 9; refine (text_ok a0 ta _ s0 H1.out HT.out).mono ?_; rintro e w1 ⟨rfl, hb1⟩)
        | (go_at_call 10; refine (refText_ok a0 ta _ s0 H1.out HT.out).mono ?_; rintro e w2 ⟨rfl, hb2⟩)
        | (go_at_call 11; refine (parse_err a1 _ s1 H2.out).mono ?_; rintro e w3 ⟨rfl, hb3⟩)
        | (go_at_call 12; refine (refParse_err a1 _ z1 H2.out).mono ?_; rintro e w4 ⟨rfl, hb4⟩)
        | (go_at_call 13; refine (num_any _ _).mono ?_; rintro e w' ⟨rfl, hw⟩; obtain rfl := hw.symm)
        | (go_at_call 14; refine (may_any _ _ s0).mono ?_; rintro e w' ⟨rfl, hw⟩; obtain rfl := hw.symm)
        | (go_at_call 15; refine (refMay_any _ _ s0).mono ?_; rintro e w5 ⟨rfl, hb5⟩)
        | (go_at_call 16; refine (count_any _ _ s0).mono ?_; rintro e w' ⟨rfl, hw⟩; obtain rfl := hw.symm)
        | (go_at_call 17; refine (refCount_any _ _ s0).mono ?_; rintro e w6 ⟨rfl, hb6⟩)
        | (go_at_call 18; refine (awake_any _).mono ?_; rintro e w7 ⟨rfl, hb7⟩))
      go_ret
      exact ⟨rfl, next (next (next (next (next (next hb1 hb2) hb3) hb4) hb5) hb6) hb7⟩
    | some n =>
      obtain ⟨nb, hn⟩ : ∃ nb : ByteArray, nb.data.toList = n := ⟨⟨n.toArray⟩, by simp⟩
      rw [← hn] at h2
      have H2 : Hid (prs a1.data.toList = some nb.data.toList) := h2
      clear h2 hn
      go_enter Try.func3, Try.ntmps3
      go_wp2_with (first
        | (go_at_call 9; refine (text_ok a0 ta _ s0 H1.out HT.out).mono ?_; rintro e w1 ⟨rfl, hb1⟩)
        | (go_at_call 10; refine (refText_ok a0 ta _ s0 H1.out HT.out).mono ?_; rintro e w2 ⟨rfl, hb2⟩)
        | (go_at_call 11; refine (parse_ok a1 nb _ s1 H2.out).mono ?_; rintro e w3 ⟨rfl, hb3⟩)
        | (go_at_call 12; refine (refParse_ok a1 nb _ z1 H2.out).mono ?_; rintro e w4 ⟨rfl, hb4⟩)
        | (go_at_call 13; refine (num_any _ _).mono ?_; rintro e w' ⟨rfl, hw⟩; obtain rfl := hw.symm)
        | (go_at_call 14; refine (may_any _ _ s0).mono ?_; rintro e w' ⟨rfl, hw⟩; obtain rfl := hw.symm)
        | (go_at_call 15; refine (refMay_any _ _ s0).mono ?_; rintro e w5 ⟨rfl, hb5⟩)
        | (go_at_call 16; refine (count_any _ _ s0).mono ?_; rintro e w' ⟨rfl, hw⟩; obtain rfl := hw.symm)
        | (go_at_call 17; refine (refCount_any _ _ s0).mono ?_; rintro e w6 ⟨rfl, hb6⟩)
        | (go_at_call 18; refine (awake_any _).mono ?_; rintro e w7 ⟨rfl, hb7⟩))
      go_ret
      exact ⟨rfl, next (next (next (next (next (next hb1 hb2) hb3) hb4) hb5) hb6) hb7⟩
  | false =>
    have H1 : Hid (isName a0.data.toList = false) := h1
    cases h2 : prs a1.data.toList with
    | none =>
      have H2 : Hid (prs a1.data.toList = none) := h2
      clear h2
      go_enter Try.func3, Try.ntmps3
      go_wp2_with (first
        | (go_at_call 9; refine (text_err a0 _ s0 H1.out).mono ?_; rintro e w1 ⟨rfl, hb1⟩)
        | (go_at_call 10; refine (refText_err a0 _ s0 H1.out).mono ?_; rintro e w2 ⟨rfl, hb2⟩)
        | (go_at_call 11; refine (parse_err a1 _ s1 H2.out).mono ?_; rintro e w3 ⟨rfl, hb3⟩)
        | (go_at_call 12; refine (refParse_err a1 _ z1 H2.out).mono ?_; rintro e w4 ⟨rfl, hb4⟩)
        | (go_at_call 13; refine (num_any _ _).mono ?_; rintro e w' ⟨rfl, hw⟩; obtain rfl := hw.symm)
        | (go_at_call 14; refine (may_any _ _ s0).mono ?_; rintro e w' ⟨rfl, hw⟩; obtain rfl := hw.symm)
        | (go_at_call 15; refine (refMay_any _ _ s0).mono ?_; rintro e w5 ⟨rfl, hb5⟩)
        | (go_at_call 16; refine (count_any _ _ s0).mono ?_; rintro e w' ⟨rfl, hw⟩; obtain rfl := hw.symm)
        | (go_at_call 17; refine (refCount_any _ _ s0).mono ?_; rintro e w6 ⟨rfl, hb6⟩)
        | (go_at_call 18; refine (awake_any _).mono ?_; rintro e w7 ⟨rfl, hb7⟩))
      go_ret
      exact ⟨rfl, next (next (next (next (next (next hb1 hb2) hb3) hb4) hb5) hb6) hb7⟩
    | some n =>
      obtain ⟨nb, hn⟩ : ∃ nb : ByteArray, nb.data.toList = n := ⟨⟨n.toArray⟩, by simp⟩
      rw [← hn] at h2
      have H2 : Hid (prs a1.data.toList = some nb.data.toList) := h2
      clear h2 hn
      go_enter Try.func3, Try.ntmps3
      go_wp2_with (first
        | (go_at_call 9; refine (text_err a0 _ s0 H1.out).mono ?_; rintro e w1 ⟨rfl, hb1⟩)
        | (go_at_call 10; refine (refText_err a0 _ s0 H1.out).mono ?_; rintro e w2 ⟨rfl, hb2⟩)
        | (go_at_call 11; refine (parse_ok a1 nb _ s1 H2.out).mono ?_; rintro e w3 ⟨rfl, hb3⟩)
        | (go_at_call 12; refine (refParse_ok a1 nb _ z1 H2.out).mono ?_; rintro e w4 ⟨rfl, hb4⟩)
        | (go_at_call 13; refine (num_any _ _).mono ?_; rintro e w' ⟨rfl, hw⟩; obtain rfl := hw.symm)
        | (go_at_call 14; refine (may_any _ _ s0).mono ?_; rintro e w' ⟨rfl, hw⟩; obtain rfl := hw.symm)
        | (go_at_call 15; refine (refMay_any _ _ s0).mono ?_; rintro e w5 ⟨rfl, hb5⟩)
        | (go_at_call 16; refine (count_any _ _ s0).mono ?_; rintro e w' ⟨rfl, hw⟩; obtain rfl := hw.symm)
        | (go_at_call 17; refine (refCount_any _ _ s0).mono ?_; rintro e w6 ⟨rfl, hb6⟩)
        | (go_at_call 18; refine (awake_any _).mono ?_; rintro e w7 ⟨rfl, hb7⟩))
      go_ret
      exact ⟨rfl, next (next (next (next (next (next hb1 hb2) hb3) hb4) hb5) hb6) hb7⟩

theorem own : ownKnob Try.prog.godebug = none := by kernel_rfl

set_option maxRecDepth 100000 in
theorem lifted (os : Os) (started : os.Started) (H : Type) (enc : TypeId × Value → H) :
    ReturnsInHanded {} Try.checked os 3 .any (Rows.namesSpec.pre6 enc Try.prog Try.f3 Rows.namesRow.domain false) (Rows.namesSpec.post enc Try.prog Try.f3 false true false false) := by
  refine returnsInHanded_of_change_sized (C := Try.checked) own started (by kernel_rfl) Try.func3
    (ChangeSpec.witness6 (enc := enc) (C := Try.checked) false ⟨#[], #[.string ByteArray.empty, .string ByteArray.empty], []⟩ 8 (by kernel_rfl) (by kernel_rfl) (by kernel_rfl) (by kernel_rfl)) ?_
  intro W base args ds gs before hval0 hW _ hsz0 _
  have hval : ∀ (j : Nat) t v, Try.f3.params[j]? = some t → args[j]? = some v → Value.okWide Try.prog W .any base t v := hval0
  have hsz : (DataW.weightsEach Try.prog (Try.f3.params.toList ++ Rows.namesSpec.plain.varTypes Try.prog) (ds ++ gs)).all (· ≤ reachBytes) = true := hsz0
  have hW' := hW
  obtain ⟨p, q, hA0, hV, rfl, hfz, hnd⟩ := hW
  have hA : DataW.TrodAll enc Try.prog W 0 (fun _ => true) true Try.f3.params.toList args.toList ds p := hA0
  rw [Try.params3] at hA hval hsz
  obtain ⟨v0, vs0, d0, ds0, p0, q0, hargs, rfl, rfl, h0, r0⟩ := trodAll_cons hA
  obtain ⟨v1, vs1, d1, ds1, p1, q1, rfl, rfl, rfl, h1, r1⟩ := trodAll_cons r0
  obtain ⟨rfl, rfl, rfl⟩ := trodAll_nil r1
  obtain rfl : args = #[v0, v1] := by cases args; simp_all
  obtain ⟨rfl, rfl⟩ := trodVars_none hV
  obtain ⟨a0, rfl, rfl, rfl, w0⟩ := open_string Try.underlying9 (hval 0 9 v0 rfl rfl) h0
  obtain ⟨a1, rfl, rfl, rfl, w1⟩ := open_string Try.underlying9 (hval 1 9 v1 rfl rfl) h1
  have z0 : a0.size ≤ 140737488351232 := by have := sized_string hsz (j := 0) (t := 9) rfl rfl; rw [data_len] at this; unfold reachBytes at this; omega
  have z1 : a1.size ≤ 140737488351232 := by have := sized_string hsz (j := 1) (t := 9) rfl rfl; rw [data_len] at this; unfold reachBytes at this; omega
  clear hA0 hval0 hsz0 hsz
  simp only [List.append_nil] at hW'
  refine (walk a0 a1 w0 w1 z0 z1 W).mono fun e W' ⟨he, bel⟩ => ?_
  subst he
  exact ⟨_, rfl, _, _, _, [], [], [], hW', trodAll_mk1 (shut_bool Try.underlying4 _), (trodAll_cons_mk (shut_string Try.underlying9 w0) (trodAll_cons_mk (shut_string Try.underlying9 w1) trodAll_mk0)), rfl, bel.frame _, fun h => by cases h⟩

/-- The statement. -/
theorem proved : Rows.NamesSaid :=
  OpenClaim.holds_of_wide 3 Try.f3 rfl rfl rfl rfl rfl rfl rfl ⟨rfl, rfl, rfl, rfl, rfl⟩ rfl rfl rfl rfl rfl (by kernel_rfl) Try.func3 (by kernel_rfl)
    (of_decide_eq_true (by kernel_rfl)) (by unfold Func.isWrapper; first | (rw [if_pos (by decide +kernel)]; kernel_rfl) | (rw [if_neg (by decide +kernel)]; exact ⟨rfl, rfl⟩))
    (fun os started H enc _ => lifted os started H enc)
#print axioms proved

end Go.Proofs.Ytkfpboippchdbaa.names
