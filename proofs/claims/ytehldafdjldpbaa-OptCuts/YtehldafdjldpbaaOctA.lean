/- What U16, U32, Put16 and Put32 of package octet give, for every argument. -/
import Derived.Test.YtehldafdjldpbaaRows
import Derived.WalkKit
import Derived.WalkMore
import Derived.OwnWalk
import Derived.Deep.LoopGhost
import Derived.Deep.AppendLies
import Derived.Deep.DeepMust
import Derived.Deep.QuietTactic
import Derived.Deep.RegionWith
import Derived.BigQuiet
import Derived.Laws.IdiomStrings
import Derived.Laws.BytesArg
import Derived.Laws.Concat
import Derived.Laws.Bits128
namespace Go.Proofs.Ytehldafdjldpbaa
open Go.RowKit

/-- The byte of a number that stands at d, a power of 256. -/
def oct (x d : Int) : UInt8 := UInt8.ofNat (x / d % 256).toNat
theorem oct_nat (x d : Int) : ((oct x d).toNat : Int) = x / d % 256 := by
  unfold oct
  have h0 : 0 ≤ x / d % 256 := Int.emod_nonneg _ (by decide)
  have h1 : x / d % 256 < 256 := Int.emod_lt_of_pos _ (by decide)
  rw [UInt8.toNat_ofNat']
  omega

/-- The number of two bytes, of four. -/
def two (a b : UInt8) : Int := 256 * (a.toNat : Int) + (b.toNat : Int)
def four (a b c d : UInt8) : Int := 65536 * two a b + two c d
/-- A number as two bytes, as four. -/
def be2 (x : Int) : ByteArray := ⟨#[oct x 256, oct x 1]⟩
def be4 (x : Int) : ByteArray := ⟨#[oct x 16777216, oct x 65536, oct x 256, oct x 1]⟩

theorem two_be (x : Int) : two (oct x 256) (oct x 1) = x % 65536 := by
  unfold two; rw [oct_nat, oct_nat]; omega
theorem four_be (x : Int) : four (oct x 16777216) (oct x 65536) (oct x 256) (oct x 1) = x % 4294967296 := by
  unfold four two; rw [oct_nat, oct_nat, oct_nat, oct_nat]; omega
theorem two_lt (a b : UInt8) : 0 ≤ two a b ∧ two a b < 65536 := by
  unfold two; have := a.toNat_lt; have := b.toNat_lt; omega

theorem ret_bool {a b : Bool} (h : a = b) : Ending.returned (.bool a) = .returned (.bool b) := by rw [h]

theorem or8 (a b : Nat) (ha : a < 256) (hb : b < 256) : bits .or .u16 ((a : Int) * 256) (b : Int) = 256 * (a : Int) + (b : Int) := by
  have e : ((a : Int) * 256) = ((a * 2 ^ 8 : Nat) : Int) := by omega
  rw [e, u16_or_nat _ _ (by omega) (by omega), Nat.mul_comm, ← Nat.two_pow_add_eq_or_of_lt (by omega)]
  omega
theorem or16 (a b : Nat) (ha : a < 65536) (hb : b < 65536) : bits .or .u32 ((a : Int) * 65536) (b : Int) = 65536 * (a : Int) + (b : Int) := by
  have e : ((a : Int) * 65536) = ((a * 2 ^ 16 : Nat) : Int) := by omega
  rw [e, u32_or_nat _ _ (by omega) (by omega), Nat.mul_comm, ← Nat.two_pow_add_eq_or_of_lt (by omega)]
  omega

theorem num_any (n : Int) (w : World) :
    Calls Try.prog 15 #[.int .i64 n] w fun e w' => e = .returned (.int .i64 n) ∧ w' = w := by
  go_enter Try.func15, Try.ntmps15
  go_wp2
  go_ret
  exact ⟨rfl, rfl⟩

theorem holds_yes (s : ByteArray) (k n : Nat) (w : World) (hs : s.size ≤ maxLen) (h : k + n ≤ s.size) :
    Calls Try.prog 39 #[.string s, .int .i64 k, .int .i64 n] w fun e w' => e = .returned (.bool true) ∧ w' = w := by
  unfold maxLen at hs
  have h1 : (0 : Int) ≤ k := by omega
  have h2 : (k : Int) ≤ (s.size : Int) - n := by omega
  go_enter Try.func39, Try.ntmps39
  go_wp2
  go_ret
  exact ⟨rfl, rfl⟩

theorem holds_no (s : ByteArray) (x : Int) (n : Nat) (w : World) (hs : s.size ≤ maxLen) (hn : n ≤ 4) (h : x < 0 ∨ (s.size : Int) < x + n) :
    Calls Try.prog 39 #[.string s, .int .i64 x, .int .i64 n] w fun e w' => e = .returned (.bool false) ∧ w' = w := by
  unfold maxLen at hs
  by_cases h1 : (0 : Int) ≤ x
  · have h2 : decide (x ≤ (s.size : Int) - n) = false := by simp; omega
    clear h
    go_enter Try.func39, Try.ntmps39
    go_wp2
    go_ret
    exact ⟨rfl, rfl⟩
  · have h2 : decide ((0 : Int) ≤ x) = false := by simp; omega
    clear h
    go_enter Try.func39, Try.ntmps39
    go_wp2
    go_ret
    exact ⟨rfl, rfl⟩

theorem idx (s : ByteArray) (i : Nat) (c : Int) (hc : c = (i : Int)) (h : i < s.size) (u : World) : (Instr.index 9 (.string s) (.int .i64 c)).run Try.prog u = .ok (.int .u8 (s[i].toNat : Int)) u := by
  subst hc
  rw [run_index_string u 9 s .i64 (i : Int) Try.underlying9, dif_pos ⟨by omega, by omega⟩]
  rfl

theorem number16_any (s : ByteArray) (a b : UInt8) (w : World) (h : 2 ≤ s.size) (ha : s[0] = a) (hb : s[1] = b) :
    Calls Try.prog 40 #[.string s] w fun e w' => e = .returned (.int .u16 (two a b)) ∧ ∃ m, w' = w.drewN m := by
  subst ha
  subst hb
  have h0 := s[0].toNat_lt
  have h1 := s[1].toNat_lt
  have hor := or8 s[0].toNat s[1].toNat h0 h1
  have i0 := idx s 0 0 rfl (by omega)
  have i1 := idx s 1 1 rfl (by omega)
  go_enter Try.func40, Try.ntmps40
  go_wp2
  go_quiet (fail)
  go_wp2
  go_ret
  exact ⟨rfl, _, rfl⟩

theorem ext_at (s : ByteArray) (k j : Nat) (h : k + j < s.size) : (s.extract k s.size)[j]'(by simp; omega) = s[k + j] := by
  show (s.extract k s.size).data[j]'(by have : j < (s.extract k s.size).size := by simp; omega
                                        exact this) = s.data[k + j]'h
  simp only [ByteArray.data_extract, Array.getElem_extract]

/-- A byte as a cell. -/
def bv (b : UInt8) : Value := .int .u8 (b.toNat : Int)

theorem conv_lit (l : List UInt8) (u : World) : (convert 54 9 (.slice (some ⟨u.heap.size, 0, none⟩) l.length l.length)).run Try.prog (u.alloc (.cells (l.map bv).toArray 5)) = .ok (.string ⟨l.toArray⟩) (u.alloc (.cells (l.map bv).toArray 5)) := by
  refine run_convert_bytes_back _ 54 9 5 ⟨u.heap.size, 0, none⟩ l.length l Try.underlying54 Try.underlying5 Try.underlying9 fun j hj => ?_
  refine World.news_of_block (heap_alloc_new u (.cells (l.map bv).toArray 5)) j _ ?_
  simp [hj, bv]

theorem put16_any (x : Int) (w : World) :
    Calls Try.prog 35 #[.int .i64 x] w fun e w' => e = .returned (.string (be2 x)) ∧ Below w.heap.size w w' := by
  have kc : (convert 54 9 (.slice (some ⟨w.heap.size, 0, none⟩) 2 2)).run Try.prog (w.alloc (.cells #[.int .u8 (x / 256 % 256), .int .u8 (x % 256)] 5)) = .ok (.string (be2 x)) (w.alloc (.cells #[.int .u8 (x / 256 % 256), .int .u8 (x % 256)] 5)) := by
    have := conv_lit [oct x 256, oct x 1] w
    simp only [List.map_cons, List.map_nil, bv, oct_nat, Int.ediv_one] at this
    exact this
  go_enter Try.func35, Try.ntmps35
  go_wp2
  go_ret
  exact ⟨rfl, (Below.refl _ _).alloc (Nat.le_refl _) _⟩


theorem number16_ext (s : ByteArray) (k j : Nat) (w : World) (hj : j = k + 1) (h : k + 2 ≤ s.size) :
    Calls Try.prog 40 #[.string (s.extract k s.size)] w fun e w' => e = .returned (.int .u16 (two s[k] s[j])) ∧ ∃ m, w' = w.drewN m := by
  subst hj
  exact number16_any _ s[k] s[k + 1] w (by simp; omega) (ext_at s k 0 (by omega)) (ext_at s k 1 (by omega))

theorem cut_from (s : ByteArray) (k : Nat) (h : k ≤ s.size) (u : World) : (Instr.slice 9 (.string s) (some (.int .i64 (k : Int))) none none).run Try.prog u = .ok (.string (s.extract k s.size)) u := by
  have := run_slice_string_l (P := Try.prog) (w := u) (t := 9) (s := s) Try.underlying9 .i64 (k : Int) (by omega) (by omega)
  rw [this]; rfl



theorem u32_no (s : ByteArray) (x : Int) (w : World) (hs : s.size ≤ maxLen) (h : x < 0 ∨ (s.size : Int) < x + 4) :
    Calls Try.prog 36 #[.string s, .int .i64 x] w fun e w' => e = .returned (.tuple #[.int .i64 0, .int .i64 0, .int .i64 300]) ∧ w' = w := by
  go_enter Try.func36, Try.ntmps36
  go_wp2_with (go_at_call 39; go_must (refine (holds_no s x 4 _ hs (by omega) (by simpa using h)).mono ?_); rintro e w' ⟨rfl, hw⟩; obtain rfl := hw.symm)
  refine bodyPost_ret (v := .tuple #[.int .i64 0, .int .i64 0, .int .i64 300]) (by simp [results, Try.results36, go_sem]) rfl ⟨rfl, rfl⟩

theorem u32_yes (s : ByteArray) (k : Nat) (w : World) (hs : s.size ≤ maxLen) (h : k + 4 ≤ s.size) :
    Calls Try.prog 36 #[.string s, .int .i64 (k : Int)] w fun e w' => e = .returned (.tuple #[.int .i64 (four s[k] s[k + 1] s[k + 2] s[k + 3]), .int .i64 ((k : Int) + 4), .int .i64 0]) ∧ ∃ m, w' = w.drewN m := by
  have hcut := cut_from s k (by omega)
  have hcut2 := cut_from s (k + 2) (by omega)
  rw [show ((k + 2 : Nat) : Int) = (k : Int) + 2 from by omega] at hcut2
  have hlt := two_lt s[k] s[k + 1]
  have hlt2 := two_lt s[k + 2] s[k + 3]
  unfold maxLen at hs
  have hor : bits .or .u32 (two s[k] s[k + 1] * 65536) (two s[k + 2] s[k + 3]) = four s[k] s[k + 1] s[k + 2] s[k + 3] := by
    have := or16 (two s[k] s[k + 1]).toNat (two s[k + 2] s[k + 3]).toNat (by omega) (by omega)
    rw [Int.toNat_of_nonneg hlt.1, Int.toNat_of_nonneg hlt2.1] at this
    exact this
  have w1 : IntKind.u32.wrap (two s[k] s[k + 1]) = two s[k] s[k + 1] := by rw [IntKind.wrap_u32]; omega
  have w2 : IntKind.u32.wrap (two s[k] s[k + 1] * 65536) = two s[k] s[k + 1] * 65536 := by rw [IntKind.wrap_u32]; omega
  have w3 : IntKind.u32.wrap (two s[k + 2] s[k + 3]) = two s[k + 2] s[k + 3] := by rw [IntKind.wrap_u32]; omega
  have w4 : IntKind.i64.wrap ((k : Int) + 2) = (k : Int) + 2 := by rw [IntKind.wrap_i64]; omega
  have hf : 0 ≤ four s[k] s[k + 1] s[k + 2] s[k + 3] ∧ four s[k] s[k + 1] s[k + 2] s[k + 3] < 4294967296 := by unfold four; omega
  go_enter Try.func36, Try.ntmps36
  go_wp2_with (go_at_call 39; go_must (refine (holds_yes s k 4 _ (by unfold maxLen; omega) h).mono ?_); rintro e w' ⟨rfl, hw⟩; obtain rfl := hw.symm)
  go_quiet (first
    | (go_at_call_of 40 (#[Value.string (s.extract k s.size)]); go_must (exact Calls.quiet_of (number16_ext s k (k + 1) _ rfl (by omega))))
    | (go_at_call 40; go_must (exact Calls.quiet_of (number16_ext s (k + 2) (k + 3) _ rfl (by omega)))))
  go_wp2
  go_ret3
  exact ⟨rfl, _, rfl⟩

end Go.Proofs.Ytehldafdjldpbaa
