/- What U16, U32, Put16 and Put32 of package octet give, for every argument. -/
import Derived.Test.YtbldoplemfjcjaaRows
import Derived.Test.YtbldoplemfjcjaaWalkH
import Derived.WalkKit
import Derived.WalkMore
import Derived.OwnWalk
import Derived.Deep.LoopGhost
import Derived.Deep.AppendLies
import Derived.Deep.DeepMust
import Derived.Deep.QuietTactic
import Derived.Deep.RegionWith
import Derived.BigQuiet
import Derived.Laws.IdiomStrings
import Derived.Laws.BytesArg
import Derived.Laws.Concat
import Derived.Laws.Bits128
namespace Go.Proofs.Ytbldoplemfjcjaa
open Go.RowKit

/-- The byte of a number that stands at d, a power of 256. -/
def oct (x d : Int) : UInt8 := UInt8.ofNat (x / d % 256).toNat
theorem oct_nat (x d : Int) : ((oct x d).toNat : Int) = x / d % 256 := by
  unfold oct
  have h0 : 0 ≤ x / d % 256 := Int.emod_nonneg _ (by decide)
  have h1 : x / d % 256 < 256 := Int.emod_lt_of_pos _ (by decide)
  rw [UInt8.toNat_ofNat']
  omega

/-- The number of two bytes, of four. -/
def two (a b : UInt8) : Int := 256 * (a.toNat : Int) + (b.toNat : Int)
def four (a b c d : UInt8) : Int := 65536 * two a b + two c d
/-- A number as two bytes, as four. -/
def be2 (x : Int) : ByteArray := ⟨#[oct x 256, oct x 1]⟩
def be4 (x : Int) : ByteArray := ⟨#[oct x 16777216, oct x 65536, oct x 256, oct x 1]⟩

theorem two_be (x : Int) : two (oct x 256) (oct x 1) = x % 65536 := by
  unfold two; rw [oct_nat, oct_nat]; omega
theorem four_be (x : Int) : four (oct x 16777216) (oct x 65536) (oct x 256) (oct x 1) = x % 4294967296 := by
  unfold four two; rw [oct_nat, oct_nat, oct_nat, oct_nat]; omega
theorem two_lt (a b : UInt8) : 0 ≤ two a b ∧ two a b < 65536 := by
  unfold two; have := a.toNat_lt; have := b.toNat_lt; omega


theorem or8 (a b : Nat) (ha : a < 256) (hb : b < 256) : bits .or .u16 ((a : Int) * 256) (b : Int) = 256 * (a : Int) + (b : Int) := by
  have e : ((a : Int) * 256) = ((a * 2 ^ 8 : Nat) : Int) := by omega
  rw [e, u16_or_nat _ _ (by omega) (by omega), Nat.mul_comm, ← Nat.two_pow_add_eq_or_of_lt (by omega)]
  omega
theorem or16 (a b : Nat) (ha : a < 65536) (hb : b < 65536) : bits .or .u32 ((a : Int) * 65536) (b : Int) = 65536 * (a : Int) + (b : Int) := by
  have e : ((a : Int) * 65536) = ((a * 2 ^ 16 : Nat) : Int) := by omega
  rw [e, u32_or_nat _ _ (by omega) (by omega), Nat.mul_comm, ← Nat.two_pow_add_eq_or_of_lt (by omega)]
  omega






theorem ext_at (s : ByteArray) (k j : Nat) (h : k + j < s.size) : (s.extract k s.size)[j]'(by simp; omega) = s[k + j] := by
  show (s.extract k s.size).data[j]'(by have : j < (s.extract k s.size).size := by simp; omega
                                        exact this) = s.data[k + j]'h
  simp only [ByteArray.data_extract, Array.getElem_extract]






theorem cut_from (s : ByteArray) (k : Nat) (h : k ≤ s.size) (u : World) : (Instr.slice 9 (.string s) (some (.int .i64 (k : Int))) none none).run Try.prog u = .ok (.string (s.extract k s.size)) u := by
  have := run_slice_string_l (P := Try.prog) (w := u) (t := 9) (s := s) Try.underlying9 .i64 (k : Int) (by omega) (by omega)
  rw [this]; rfl





end Go.Proofs.Ytbldoplemfjcjaa
