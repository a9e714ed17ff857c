/- What the methods last and label of the places of labels give. -/
import Derived.Test.YtnjlfbcfnmdkkaaWalkE
namespace Go.Proofs.Ytnjlfbcfnmdkkaa
open Go.RowKit
open Pl

/-- A block that holds the places of labels. -/
def PlAt (w : World) (b : Nat) (ls : List (List UInt8)) : Prop :=
  w.cell? ⟨b, 128, none⟩ = some (.int .i64 (ls.length : Int)) ∧ ∀ i, i ≤ ls.length → w.cell? ⟨b, i, none⟩ = some (.int .u8 (pos ls i : Nat))

set_option maxRecDepth 20000 in
set_option maxHeartbeats 1000000 in
theorem plLast_any (s t : ByteArray) (w : World) (b n k P : Nat) (hk : k ≤ n) (hn : n ≤ 127) (hc : w.cell? ⟨b, 128, none⟩ = some (.int .i64 (n : Int)))
    (hp : w.cell? ⟨b, n - k, none⟩ = some (.int .u8 (P : Int))) (hP : P ≤ s.size) (ht : t = s.extract P s.size) :
    Calls Try.prog 31 #[.pointer (some ⟨b, 0, none⟩), .string s, .int .i64 (k : Int)] w fun e w' => e = .returned (.string t) ∧ ∃ m, w' = w.drewN m := by
  have hcut : ∀ u : World, (Instr.slice 9 (.string s) (some (.int .u8 (P : Int))) none none).run Try.prog u = .ok (.string t) u := fun u => by
    have := run_slice_string_l (P := Try.prog) (w := u) (t := 9) (s := s) Try.underlying9 .u8 (P : Int) (by omega) (by omega)
    rw [this, ht]; rfl
  obtain ⟨j, hj⟩ : ∃ j, j = n - k := ⟨_, rfl⟩
  rw [← hj] at hp
  have hjn : (n : Int) - (k : Int) = (j : Int) := by omega
  have hj2 : (j : Int) < 128 := by omega
  clear ht hj
  go_enter Try.func31, Try.ntmps31
  go_wp2
  go_quiet (fail)
  go_wp2
  go_ret
  exact ⟨rfl, _, rfl⟩

end Go.Proofs.Ytnjlfbcfnmdkkaa
