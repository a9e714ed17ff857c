/- NameBack holds: for every two strings, names and their texts go there and back. -/
import Derived.Test.YtkfpboippchdbaaWalkG
import Derived.ProofKit
import Derived.OpenShut
import Derived.ShutString
namespace Go.Proofs.Ytkfpboippchdbaa.nameBack
open Go.ChangeShapes Go.WideShapes Go.ChangeAt Go.RowKit
open Go.ChangeMaps (open_string shut_string)
open Pl

set_option maxRecDepth 20000 in
set_option maxHeartbeats 2000000 in
theorem walk (a0 a1 : ByteArray) (s0 : a0.size ≤ maxLen) (s1 : a1.size ≤ maxLen) (w : World) :
    Calls Try.prog 4 #[.string a0, .string a1] w fun e w' => e = .returned (.bool true) ∧ Below w.heap.size w w' := by
  have t1 : True := trivial
  have t2 : True := trivial
  have t3 : True := trivial
  have t4 : True := trivial
  have t5 : True := trivial
  have t6 : True := trivial
  cases h1 : isName a0.data.toList with
  | true =>
    obtain ⟨ta, hta1, hta2, hta3⟩ := text_is h1
    have H1 : Hid (isName a0.data.toList = true) := h1
    have HT : Hid (ta.data.toList = tx a0.data.toList) := hta1
    have HTP : Hid (prs ta.data.toList = some a0.data.toList) := hta3
    have hta : ta.size ≤ maxLen := by unfold maxLen; omega
    clear h1 hta1 hta3
    cases h2 : prs a1.data.toList with
    | none =>
      have H2 : Hid (prs a1.data.toList = none) := h2
      clear h2
      go_enter Try.func4, Try.ntmps4
      go_wp2_with (first
        | (go_at_call 18; refine (awake_any _).mono ?_; rintro e w1 ⟨rfl, hb1⟩)
        | (go_at_call 9; have _t := t1; refine (text_ok a0 ta _ s0 H1.out HT.out).mono ?_; rintro e w2 ⟨rfl, hb2⟩; clear t1)
        | (go_at_call 14; have _t := t2; refine (may_as _ true _ s0 H1.out).mono ?_; rintro e w' ⟨rfl, hw⟩; obtain rfl := hw.symm; clear t2)
        | (go_at_call 11; have _t := t3; refine (parse_ok ta a0 _ hta HTP.out).mono ?_; rintro e w3 ⟨rfl, hb3⟩; clear t3)
        | (go_at_call 11; have _t := t4; refine (parse_err a1 _ s1 H2.out).mono ?_; rintro e w4 ⟨rfl, hb4⟩; clear t4)
        | (go_at_call 13; refine (num_any _ _).mono ?_; rintro e w' ⟨rfl, hw⟩; obtain rfl := hw.symm))
      go_ret
      exact ⟨rfl, next (next (next hb1 hb2) hb3) hb4⟩
    | some n =>
      obtain ⟨nb, hn⟩ : ∃ nb : ByteArray, nb.data.toList = n := ⟨⟨n.toArray⟩, by simp⟩
      obtain ⟨hn1, hn2⟩ := tx_prs h2
      rw [← hn] at h2 hn1 hn2
      have H2 : Hid (prs a1.data.toList = some nb.data.toList) := h2
      have H3 : Hid (isName nb.data.toList = true) := hn1
      have H4 : Hid (a1.data.toList = tx nb.data.toList) := hn2.symm
      have hnb : nb.size ≤ maxLen := by have := name_size hn1; unfold maxLen; omega
      clear h2 hn hn1 hn2
      go_enter Try.func4, Try.ntmps4
      go_wp2_with (first
        | (go_at_call 18; refine (awake_any _).mono ?_; rintro e w1 ⟨rfl, hb1⟩)
        | (go_at_call 9; have _t := t1; refine (text_ok a0 ta _ s0 H1.out HT.out).mono ?_; rintro e w2 ⟨rfl, hb2⟩; clear t1)
        | (go_at_call 14; have _t := t2; refine (may_as _ true _ s0 H1.out).mono ?_; rintro e w' ⟨rfl, hw⟩; obtain rfl := hw.symm; clear t2)
        | (go_at_call 11; have _t := t3; refine (parse_ok ta a0 _ hta HTP.out).mono ?_; rintro e w3 ⟨rfl, hb3⟩; clear t3)
        | (go_at_call 11; have _t := t4; refine (parse_ok a1 nb _ s1 H2.out).mono ?_; rintro e w4 ⟨rfl, hb4⟩; clear t4)
        | (go_at_call 9; have _t := t5; refine (text_ok nb a1 _ hnb H3.out H4.out).mono ?_; rintro e w5 ⟨rfl, hb5⟩; clear t5)
        | (go_at_call 14; have _t := t6; refine (may_as _ true _ hnb H3.out).mono ?_; rintro e w' ⟨rfl, hw⟩; obtain rfl := hw.symm; clear t6)
        | (go_at_call 13; refine (num_any _ _).mono ?_; rintro e w' ⟨rfl, hw⟩; obtain rfl := hw.symm))
      go_ret
      exact ⟨rfl, next (next (next (next hb1 hb2) hb3) hb4) hb5⟩
  | false =>
    have H1 : Hid (isName a0.data.toList = false) := h1
    clear h1
    cases h2 : prs a1.data.toList with
    | none =>
      have H2 : Hid (prs a1.data.toList = none) := h2
      clear h2
      go_enter Try.func4, Try.ntmps4
      go_wp2_with (first
        | (go_at_call 18; refine (awake_any _).mono ?_; rintro e w1 ⟨rfl, hb1⟩)
        | (go_at_call 9; have _t := t1; refine (text_err a0 _ s0 H1.out).mono ?_; rintro e w2 ⟨rfl, hb2⟩; clear t1)
        | (go_at_call 14; have _t := t2; refine (may_as _ false _ s0 H1.out).mono ?_; rintro e w' ⟨rfl, hw⟩; obtain rfl := hw.symm; clear t2)
        | (go_at_call 11; have _t := t4; refine (parse_err a1 _ s1 H2.out).mono ?_; rintro e w4 ⟨rfl, hb4⟩; clear t4)
        | (go_at_call 13; refine (num_any _ _).mono ?_; rintro e w' ⟨rfl, hw⟩; obtain rfl := hw.symm))
      go_ret
      exact ⟨rfl, next (next hb1 hb2) hb4⟩
    | some n =>
      obtain ⟨nb, hn⟩ : ∃ nb : ByteArray, nb.data.toList = n := ⟨⟨n.toArray⟩, by simp⟩
      obtain ⟨hn1, hn2⟩ := tx_prs h2
      rw [← hn] at h2 hn1 hn2
      have H2 : Hid (prs a1.data.toList = some nb.data.toList) := h2
      have H3 : Hid (isName nb.data.toList = true) := hn1
      have H4 : Hid (a1.data.toList = tx nb.data.toList) := hn2.symm
      have hnb : nb.size ≤ maxLen := by have := name_size hn1; unfold maxLen; omega
      clear h2 hn hn1 hn2
      go_enter Try.func4, Try.ntmps4
      go_wp2_with (first
        | (go_at_call 18; refine (awake_any _).mono ?_; rintro e w1 ⟨rfl, hb1⟩)
        | (go_at_call 9; have _t := t1; refine (text_err a0 _ s0 H1.out).mono ?_; rintro e w2 ⟨rfl, hb2⟩; clear t1)
        | (go_at_call 14; have _t := t2; refine (may_as _ false _ s0 H1.out).mono ?_; rintro e w' ⟨rfl, hw⟩; obtain rfl := hw.symm; clear t2)
        | (go_at_call 11; have _t := t4; refine (parse_ok a1 nb _ s1 H2.out).mono ?_; rintro e w4 ⟨rfl, hb4⟩; clear t4)
        | (go_at_call 9; have _t := t5; refine (text_ok nb a1 _ hnb H3.out H4.out).mono ?_; rintro e w5 ⟨rfl, hb5⟩; clear t5)
        | (go_at_call 14; have _t := t6; refine (may_as _ true _ hnb H3.out).mono ?_; rintro e w' ⟨rfl, hw⟩; obtain rfl := hw.symm; clear t6)
        | (go_at_call 13; refine (num_any _ _).mono ?_; rintro e w' ⟨rfl, hw⟩; obtain rfl := hw.symm))
      go_ret
      exact ⟨rfl, next (next (next hb1 hb2) hb4) hb5⟩

theorem own : ownKnob Try.prog.godebug = none := by kernel_rfl

set_option maxRecDepth 100000 in
theorem lifted (os : Os) (started : os.Started) (H : Type) (enc : TypeId × Value → H) :
    ReturnsInHanded {} Try.checked os 4 .any (Rows.nameBackSpec.pre6 enc Try.prog Try.f4 Rows.nameBackRow.domain false) (Rows.nameBackSpec.post enc Try.prog Try.f4 false true false false) := by
  refine returnsInHanded_of_change (C := Try.checked) own started (by kernel_rfl) Try.func4
    (ChangeSpec.witness6 (enc := enc) (C := Try.checked) false ⟨#[], #[.string ByteArray.empty, .string ByteArray.empty], []⟩ 8 (by kernel_rfl) (by kernel_rfl) (by kernel_rfl) (by kernel_rfl)) ?_
  intro W base args ds gs before hval0 hW _ _
  have hval : ∀ (j : Nat) t v, Try.f4.params[j]? = some t → args[j]? = some v → Value.okWide Try.prog W .any base t v := hval0
  have hW' := hW
  obtain ⟨p, q, hA0, hV, rfl, hfz, hnd⟩ := hW
  have hA : DataW.TrodAll enc Try.prog W 0 (fun _ => true) true Try.f4.params.toList args.toList ds p := hA0
  rw [Try.params4] at hA hval
  obtain ⟨v0, vs0, d0, ds0, p0, q0, hargs, rfl, rfl, h0, r0⟩ := trodAll_cons hA
  obtain ⟨v1, vs1, d1, ds1, p1, q1, rfl, rfl, rfl, h1, r1⟩ := trodAll_cons r0
  obtain ⟨rfl, rfl, rfl⟩ := trodAll_nil r1
  obtain rfl : args = #[v0, v1] := by cases args; simp_all
  obtain ⟨rfl, rfl⟩ := trodVars_none hV
  obtain ⟨a0, rfl, rfl, rfl, w0⟩ := open_string Try.underlying9 (hval 0 9 v0 rfl rfl) h0
  obtain ⟨a1, rfl, rfl, rfl, w1⟩ := open_string Try.underlying9 (hval 1 9 v1 rfl rfl) h1
  clear hA0 hval0
  simp only [List.append_nil] at hW'
  refine (walk a0 a1 w0 w1 W).mono fun e W' ⟨he, bel⟩ => ?_
  subst he
  exact ⟨_, rfl, _, _, _, [], [], [], hW', trodAll_mk1 (shut_bool Try.underlying4 _), (trodAll_cons_mk (shut_string Try.underlying9 w0) (trodAll_cons_mk (shut_string Try.underlying9 w1) trodAll_mk0)), rfl, bel.frame _, fun h => by cases h⟩

/-- The statement. -/
theorem proved : Rows.NameBackSaid :=
  OpenClaim.holds_of_wide 4 Try.f4 rfl rfl rfl rfl rfl rfl rfl ⟨rfl, rfl, rfl, rfl, rfl⟩ rfl rfl rfl rfl rfl (by kernel_rfl) Try.func4 (by kernel_rfl)
    (of_decide_eq_true (by kernel_rfl)) (by unfold Func.isWrapper; first | (rw [if_pos (by decide +kernel)]; kernel_rfl) | (rw [if_neg (by decide +kernel)]; exact ⟨rfl, rfl⟩))
    (fun os started H enc _ => lifted os started H enc)
#print axioms proved

end Go.Proofs.Ytkfpboippchdbaa.nameBack
