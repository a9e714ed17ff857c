/- NamePlain holds: for every number, the byte that it tells stands as it is in its label's text, or as three digits. -/
import Derived.Test.YtkfpboippchdbaaWalkH
import Derived.ProofKit
import Derived.OpenShut
import Derived.ShutString
namespace Go.Proofs.Ytkfpboippchdbaa.namePlain
open Go.ChangeShapes Go.WideShapes Go.ChangeAt Go.RowKit
open Pl

theorem three_app (a b c : List UInt8) : ((⟨a.toArray⟩ : ByteArray) ++ (⟨b.toArray⟩ : ByteArray) ++ (⟨c.toArray⟩ : ByteArray)).data.toList = a ++ b ++ c := by simp
theorem two_app (a b : List UInt8) : ((⟨a.toArray⟩ : ByteArray) ++ (⟨b.toArray⟩ : ByteArray)).data.toList = a ++ b := by simp

theorem one_name (b : UInt8) : isName [1, b, 0] = true := by simp [isName, nm, nmS]
theorem one_text (b : UInt8) : tx [1, b, 0] = esc b ++ [46] := by simp [tx, txS]

def dx (b : UInt8) : UInt8 := UInt8.ofNat (48 + b.toNat / 100)
def dy (b : UInt8) : UInt8 := UInt8.ofNat (48 + b.toNat / 10 % 10)
def dz (b : UInt8) : UInt8 := UInt8.ofNat (48 + b.toNat % 10)
theorem dig_cells (b : UInt8) : [dx b, dy b, dz b].map bv = [.int .u8 (48 + (b.toNat : Int) / 100), .int .u8 (48 + (b.toNat : Int) / 10 % 10), .int .u8 (48 + (b.toNat : Int) % 10)] := by
  have hb := b.toNat_lt
  simp [bv, dx, dy, dz]
  omega

theorem conv_three (b : UInt8) (u : World) : (convert 32 9 (.slice (some ⟨u.heap.size, 0, none⟩) 3 3)).run Try.prog (u.alloc (.cells #[.int .u8 (48 + (b.toNat : Int) / 100), .int .u8 (48 + (b.toNat : Int) / 10 % 10), .int .u8 (48 + (b.toNat : Int) % 10)] 5)) =
    .ok (.string ⟨#[dx b, dy b, dz b]⟩) (u.alloc (.cells #[.int .u8 (48 + (b.toNat : Int) / 100), .int .u8 (48 + (b.toNat : Int) / 10 % 10), .int .u8 (48 + (b.toNat : Int) % 10)] 5)) := by
  have := conv_lit [dx b, dy b, dz b] u
  rw [dig_cells] at this
  exact this

/-- The name of one label of one byte. -/
abbrev N1 (b : UInt8) : ByteArray := ({ data := #[1] } : ByteArray) ++ ({ data := #[b] } : ByteArray) ++ ({ data := #[0] } : ByteArray)

theorem n1_list (b : UInt8) : (N1 b).data.toList = [1, b, 0] := three_app [1] [b] [0]
theorem n1_size (b : UInt8) : (N1 b).size ≤ maxLen := by rw [← data_len, n1_list]; unfold maxLen; simp
theorem n1_name (b : UInt8) : isName (N1 b).data.toList = true := by rw [n1_list]; exact one_name b
theorem n1_text (b : UInt8) (t : ByteArray) (ht : t.data.toList = esc b ++ [46]) : t.data.toList = tx (N1 b).data.toList := by rw [n1_list, one_text]; exact ht
theorem n1_back (b : UInt8) (t : ByteArray) (ht : t.data.toList = esc b ++ [46]) : prs t.data.toList = some (N1 b).data.toList := by
  rw [n1_text b t ht]; exact prs_tx (n1_name b)

set_option maxRecDepth 20000 in
set_option maxHeartbeats 2000000 in
theorem walk_yes (a0 : Int) (w : World) (b : UInt8) (hb : IntKind.u8.wrap a0 = (b.toNat : Int)) (h1 : 33 ≤ b.toNat) (h2 : b.toNat ≤ 126) (h3 : ((b.toNat : Int) != 46) = true) (h4 : ((b.toNat : Int) != 92) = true) :
    Calls Try.prog 7 #[.int .i64 a0] w fun e w' => e = .returned (.bool true) ∧ Below w.heap.size w w' := by
  have hT : (({ data := #[b] } : ByteArray) ++ ({ data := #[46] } : ByteArray)).data.toList = esc b ++ [46] := by
    rw [two_app [b] [46], esc, if_pos (by simp at h3 h4; simp [standsB]; omega)]
  have HT : Hid ((({ data := #[b] } : ByteArray) ++ ({ data := #[46] } : ByteArray)).data.toList = esc b ++ [46]) := hT
  have hsz : (({ data := #[b] } : ByteArray) ++ ({ data := #[46] } : ByteArray)).size ≤ maxLen := by rw [← data_len, two_app [b] [46]]; unfold maxLen; simp
  have hcv : ∀ (u : World) (g : Nat), g = u.heap.size → (convert 32 9 (.slice (some ⟨g, 0, none⟩) 1 1)).run Try.prog (u.alloc (.cells #[.int .u8 (b.toNat : Int)] 5)) = .ok (.string ⟨#[b]⟩) (u.alloc (.cells #[.int .u8 (b.toNat : Int)] 5)) := fun u g hg => by subst hg; exact conv_lit [b] u
  have hcv3 := conv_three b
  have HS : Hid ((({ data := #[b] } : ByteArray) ++ ({ data := #[46] } : ByteArray)).size ≤ maxLen) := hsz
  clear hT hsz
  have hb8 := b.toNat_lt
  go_enter Try.func7, Try.ntmps7
  go_wp2_with (first
    | (go_at_call 18; refine (awake_any _).mono ?_; rintro e w1 ⟨rfl, hb1⟩)
    | (go_at_call 9; refine (text_ok (N1 b) _ _ (n1_size b) (n1_name b) (n1_text b _ HT.out)).mono ?_; rintro e w2 ⟨rfl, hb2⟩)
    | (go_at_call 11; refine (parse_ok _ (N1 b) _ HS.out (n1_back b _ HT.out)).mono ?_; rintro e w3 ⟨rfl, hb3⟩)
    | (go_at_call 13; refine (num_any _ _).mono ?_; rintro e w' ⟨rfl, hw⟩; obtain rfl := hw.symm))
  go_ret
  exact ⟨rfl, lay (next (lay (lay (next (lay hb1 _) hb2) _) _) hb3) _⟩

set_option maxRecDepth 20000 in
set_option maxHeartbeats 4000000 in
theorem walk_no (a0 : Int) (w : World) (b : UInt8) (hb : IntKind.u8.wrap a0 = (b.toNat : Int)) (h : b.toNat < 33 ∨ 126 < b.toNat ∨ b.toNat = 46 ∨ b.toNat = 92) :
    Calls Try.prog 7 #[.int .i64 a0] w fun e w' => e = .returned (.bool true) ∧ Below w.heap.size w w' := by
  have hT : (({ data := #[92] } : ByteArray) ++ ({ data := #[dx b, dy b, dz b] } : ByteArray) ++ ({ data := #[46] } : ByteArray)).data.toList = esc b ++ [46] := by
    rw [three_app [92] [dx b, dy b, dz b] [46], esc, if_neg (by simp [standsB]; omega)]; rfl
  have HT : Hid ((({ data := #[92] } : ByteArray) ++ ({ data := #[dx b, dy b, dz b] } : ByteArray) ++ ({ data := #[46] } : ByteArray)).data.toList = esc b ++ [46]) := hT
  have HS : Hid ((({ data := #[92] } : ByteArray) ++ ({ data := #[dx b, dy b, dz b] } : ByteArray) ++ ({ data := #[46] } : ByteArray)).size ≤ maxLen) := by unfold Hid; rw [← data_len, three_app [92] [dx b, dy b, dz b] [46]]; unfold maxLen; simp
  have hcv : ∀ (u : World) (g : Nat), g = u.heap.size → (convert 32 9 (.slice (some ⟨g, 0, none⟩) 1 1)).run Try.prog (u.alloc (.cells #[.int .u8 (b.toNat : Int)] 5)) = .ok (.string ⟨#[b]⟩) (u.alloc (.cells #[.int .u8 (b.toNat : Int)] 5)) := fun u g hg => by subst hg; exact conv_lit [b] u
  have hcv3 := conv_three b
  clear hT
  have hb8 := b.toNat_lt
  rcases h with h | h | h | h
  · go_enter Try.func7, Try.ntmps7
    go_wp2_with (first
      | (go_at_call 18; refine (awake_any _).mono ?_; rintro e w1 ⟨rfl, hb1⟩)
      | (go_at_call 9; refine (text_ok (N1 b) _ _ (n1_size b) (n1_name b) (n1_text b _ HT.out)).mono ?_; rintro e w2 ⟨rfl, hb2⟩)
      | (go_at_call 11; refine (parse_ok _ (N1 b) _ HS.out (n1_back b _ HT.out)).mono ?_; rintro e w3 ⟨rfl, hb3⟩)
      | (go_at_call 13; refine (num_any _ _).mono ?_; rintro e w' ⟨rfl, hw⟩; obtain rfl := hw.symm))
    go_ret
    exact ⟨rfl, lay (next (lay (next (lay hb1 _) hb2) _) hb3) _⟩
  · go_enter Try.func7, Try.ntmps7
    go_wp2_with (first
      | (go_at_call 18; refine (awake_any _).mono ?_; rintro e w1 ⟨rfl, hb1⟩)
      | (go_at_call 9; refine (text_ok (N1 b) _ _ (n1_size b) (n1_name b) (n1_text b _ HT.out)).mono ?_; rintro e w2 ⟨rfl, hb2⟩)
      | (go_at_call 11; refine (parse_ok _ (N1 b) _ HS.out (n1_back b _ HT.out)).mono ?_; rintro e w3 ⟨rfl, hb3⟩)
      | (go_at_call 13; refine (num_any _ _).mono ?_; rintro e w' ⟨rfl, hw⟩; obtain rfl := hw.symm))
    go_ret
    exact ⟨rfl, lay (next (lay (next (lay hb1 _) hb2) _) hb3) _⟩
  · have h5 : ((b.toNat : Int) != 46) = false := by simp; omega
    have h6 : (b.toNat : Int) < 127 := by omega
    have h7 : 32 < (b.toNat : Int) := by omega
    clear h
    go_enter Try.func7, Try.ntmps7
    go_wp2_with (first
      | (go_at_call 18; refine (awake_any _).mono ?_; rintro e w1 ⟨rfl, hb1⟩)
      | (go_at_call 9; refine (text_ok (N1 b) _ _ (n1_size b) (n1_name b) (n1_text b _ HT.out)).mono ?_; rintro e w2 ⟨rfl, hb2⟩)
      | (go_at_call 11; refine (parse_ok _ (N1 b) _ HS.out (n1_back b _ HT.out)).mono ?_; rintro e w3 ⟨rfl, hb3⟩)
      | (go_at_call 13; refine (num_any _ _).mono ?_; rintro e w' ⟨rfl, hw⟩; obtain rfl := hw.symm))
    go_ret
    exact ⟨rfl, lay (next (lay (next (lay hb1 _) hb2) _) hb3) _⟩
  · have h5 : ((b.toNat : Int) != 92) = false := by simp; omega
    have h8 : ((b.toNat : Int) != 46) = true := by simp; omega
    have h6 : (b.toNat : Int) < 127 := by omega
    have h7 : 32 < (b.toNat : Int) := by omega
    clear h
    go_enter Try.func7, Try.ntmps7
    go_wp2_with (first
      | (go_at_call 18; refine (awake_any _).mono ?_; rintro e w1 ⟨rfl, hb1⟩)
      | (go_at_call 9; refine (text_ok (N1 b) _ _ (n1_size b) (n1_name b) (n1_text b _ HT.out)).mono ?_; rintro e w2 ⟨rfl, hb2⟩)
      | (go_at_call 11; refine (parse_ok _ (N1 b) _ HS.out (n1_back b _ HT.out)).mono ?_; rintro e w3 ⟨rfl, hb3⟩)
      | (go_at_call 13; refine (num_any _ _).mono ?_; rintro e w' ⟨rfl, hw⟩; obtain rfl := hw.symm))
    go_ret
    exact ⟨rfl, lay (next (lay (next (lay hb1 _) hb2) _) hb3) _⟩

theorem walk (a0 : Int) (_ : (Lit.int .i64 a0).wf = true) (w : World) :
    Calls Try.prog 7 #[.int .i64 a0] w fun e w' => e = .returned (.bool true) ∧ Below w.heap.size w w' := by
  have hx : 0 ≤ IntKind.u8.wrap a0 ∧ IntKind.u8.wrap a0 ≤ 255 := by simp [IntKind.wrap, IntKind.signed, IntKind.bits]; omega
  obtain ⟨b, hb⟩ : ∃ b : UInt8, IntKind.u8.wrap a0 = (b.toNat : Int) := ⟨UInt8.ofNat (IntKind.u8.wrap a0).toNat, by rw [toNat_of (by omega)]; omega⟩
  by_cases h : b.toNat < 33 ∨ 126 < b.toNat ∨ b.toNat = 46 ∨ b.toNat = 92
  · exact walk_no a0 w b hb h
  · exact walk_yes a0 w b hb (by omega) (by omega) (by simp; omega) (by simp; omega)

theorem own : ownKnob Try.prog.godebug = none := by kernel_rfl

set_option maxRecDepth 100000 in
theorem lifted (os : Os) (started : os.Started) (H : Type) (enc : TypeId × Value → H) :
    ReturnsInHanded {} Try.checked os 7 .any (Rows.namePlainSpec.pre6 enc Try.prog Try.f7 Rows.namePlainRow.domain false) (Rows.namePlainSpec.post enc Try.prog Try.f7 false true false false) := by
  refine returnsInHanded_of_change (C := Try.checked) own started (by kernel_rfl) Try.func7
    (ChangeSpec.witness6 (enc := enc) (C := Try.checked) false ⟨#[], #[.int .i64 0], []⟩ 8 (by kernel_rfl) (by kernel_rfl) (by kernel_rfl) (by kernel_rfl)) ?_
  intro W base args ds gs before hval0 hW _ _
  have hval : ∀ (j : Nat) t v, Try.f7.params[j]? = some t → args[j]? = some v → Value.okWide Try.prog W .any base t v := hval0
  have hW' := hW
  obtain ⟨p, q, hA0, hV, rfl, hfz, hnd⟩ := hW
  have hA : DataW.TrodAll enc Try.prog W 0 (fun _ => true) true Try.f7.params.toList args.toList ds p := hA0
  rw [Try.params7] at hA hval
  obtain ⟨v0, vs0, d0, ds0, p0, q0, hargs, rfl, rfl, h0, r0⟩ := trodAll_cons hA
  obtain ⟨rfl, rfl, rfl⟩ := trodAll_nil r0
  obtain rfl : args = #[v0] := by cases args; simp_all
  obtain ⟨rfl, rfl⟩ := trodVars_none hV
  obtain ⟨a0, rfl, rfl, rfl, w0⟩ := open_int Try.underlying3 (hval 0 3 v0 rfl rfl) h0
  clear hA0 hval0
  simp only [List.append_nil] at hW'
  refine (walk a0 w0 W).mono fun e W' ⟨he, bel⟩ => ?_
  subst he
  exact ⟨_, rfl, _, _, _, [], [], [], hW', trodAll_mk1 (shut_bool Try.underlying4 _), (trodAll_cons_mk (shut_int Try.underlying3 w0) trodAll_mk0), rfl, bel.frame _, fun h => by cases h⟩

/-- The statement. -/
theorem proved : Rows.NamePlainSaid :=
  OpenClaim.holds_of_wide 7 Try.f7 rfl rfl rfl rfl rfl rfl rfl ⟨rfl, rfl, rfl, rfl, rfl⟩ rfl rfl rfl rfl rfl (by kernel_rfl) Try.func7 (by kernel_rfl)
    (of_decide_eq_true (by kernel_rfl)) (by unfold Func.isWrapper; first | (rw [if_pos (by decide +kernel)]; kernel_rfl) | (rw [if_neg (by decide +kernel)]; exact ⟨rfl, rfl⟩))
    (fun os started H enc _ => lifted os started H enc)
#print axioms proved

end Go.Proofs.Ytkfpboippchdbaa.namePlain
