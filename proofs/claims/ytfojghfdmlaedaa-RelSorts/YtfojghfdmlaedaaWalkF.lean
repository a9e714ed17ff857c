/- What the methods last and label of the places of labels give. -/
import Derived.Test.YtfojghfdmlaedaaWalkE
namespace Go.Proofs.Ytfojghfdmlaedaa
open Go.RowKit
open Pl

/-- A block that holds the places of labels. -/
def PlAt (w : World) (b : Nat) (ls : List (List UInt8)) : Prop :=
  w.cell? ⟨b, 128, none⟩ = some (.int .i64 (ls.length : Int)) ∧ ∀ i, i ≤ ls.length → w.cell? ⟨b, i, none⟩ = some (.int .u8 (pos ls i : Nat))

set_option maxRecDepth 20000 in
set_option maxHeartbeats 1000000 in
theorem plLast_any (s t : ByteArray) (w : World) (b n k P : Nat) (hk : k ≤ n) (hn : n ≤ 127) (hc : w.cell? ⟨b, 128, none⟩ = some (.int .i64 (n : Int)))
    (hp : w.cell? ⟨b, n - k, none⟩ = some (.int .u8 (P : Int))) (hP : P ≤ s.size) (ht : t = s.extract P s.size) :
    Calls Try.prog 21 #[.pointer (some ⟨b, 0, none⟩), .string s, .int .i64 (k : Int)] w fun e w' => e = .returned (.string t) ∧ ∃ m, w' = w.drewN m := by
  have hcut : ∀ u : World, (Instr.slice 9 (.string s) (some (.int .u8 (P : Int))) none none).run Try.prog u = .ok (.string t) u := fun u => by
    have := run_slice_string_l (P := Try.prog) (w := u) (t := 9) (s := s) Try.underlying9 .u8 (P : Int) (by omega) (by omega)
    rw [this, ht]; rfl
  obtain ⟨j, hj⟩ : ∃ j, j = n - k := ⟨_, rfl⟩
  rw [← hj] at hp
  have hjn : (n : Int) - (k : Int) = (j : Int) := by omega
  have hj2 : (j : Int) < 128 := by omega
  clear ht hj
  go_enter Try.func21, Try.ntmps21
  go_wp2
  go_quiet (fail)
  go_wp2
  go_ret
  exact ⟨rfl, _, rfl⟩

set_option maxRecDepth 20000 in
set_option maxHeartbeats 1000000 in
theorem plLabel_any (s t : ByteArray) (w : World) (b n k P Q : Nat) (hk1 : 1 ≤ k) (hk : k ≤ n) (hn : n ≤ 127) (hc : w.cell? ⟨b, 128, none⟩ = some (.int .i64 (n : Int)))
    (hp : w.cell? ⟨b, n - k, none⟩ = some (.int .u8 (P : Int))) (hq : w.cell? ⟨b, n - k + 1, none⟩ = some (.int .u8 (Q : Int))) (hPQ : P + 1 ≤ Q) (hQ : Q ≤ s.size) (hQ2 : Q ≤ 255) (ht : t = s.extract (P + 1) Q) :
    Calls Try.prog 18 #[.pointer (some ⟨b, 0, none⟩), .string s, .int .i64 (k : Int)] w fun e w' => e = .returned (.string t) ∧ ∃ m, w' = w.drewN m := by
  have hcut : ∀ u : World, (Instr.slice 9 (.string s) (some (.int .u8 ((P : Int) + 1))) (some (.int .u8 (Q : Int))) none).run Try.prog u = .ok (.string t) u := fun u => by
    have := run_slice_string (P := Try.prog) u 9 s .u8 .u8 ((P : Int) + 1) (Q : Int) Try.underlying9 (by omega) (by omega) (by omega)
    rw [this, ht]; rfl
  obtain ⟨j, hj⟩ : ∃ j, j = n - k := ⟨_, rfl⟩
  rw [← hj] at hp hq
  have hjn : (n : Int) - (k : Int) = (j : Int) := by omega
  have hj2 : (j : Int) < 128 := by omega
  have hj3 : (j : Int) + 1 < 128 := by omega
  clear ht hj
  go_enter Try.func18, Try.ntmps18
  go_wp2
  go_quiet (fail)
  go_wp2
  go_ret
  exact ⟨rfl, _, rfl⟩

end Go.Proofs.Ytfojghfdmlaedaa
