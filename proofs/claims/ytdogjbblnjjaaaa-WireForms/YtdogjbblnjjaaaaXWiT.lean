/- What many gives; what a message of many records is. -/
import Derived.Test.YtdogjbblnjjaaaaXP15
namespace Go.Proofs.Ytdogjbblnjjaaaa
open Go.RowKit
open Pl

set_option maxRecDepth 20000 in
theorem many_any (r : Rc) (K : Nat) (w : World) (hK : K ≤ 1000) :
    Calls Try.prog 18 #[.agg #[.string r.n, .int .i64 r.t, .int .i64 r.c, .int .i64 r.l, .string r.d], .int .i64 (K : Int)] w fun e w' => ∃ y c, e = .returned (.slice y K c) ∧ w'.ownsRow w.heap.size 48 5 (.slice y K c) K (rC (List.replicate K r)) ∧ Below w.heap.size w w' := by
  obtain ⟨n, t, c, l, d⟩ := r
  simp only
  have KB := Blk.new w #[.string n, .int .i64 t, .int .i64 c, .int .i64 l, .string d] 48
  have hb : Below w.heap.size w _ := lay (Below.refl _ _) (.cells #[.string n, .int .i64 t, .int .i64 c, .int .i64 l, .string d] 48)
  go_enter Try.func18, Try.ntmps18
  go_wp2
  go_loopw [5, 6] (fun v i wr => ∃ (k cp : Nat) (y : Option Addr), k ≤ K ∧ v = .slice y k cp ∧ i = .int .i64 (k : Int) ∧ Hid (wr.ownsRow (w.heap.size + 1) 48 5 (.slice y k cp) k (rC (List.replicate k ⟨n, t, c, l, d⟩)) ∧ Below w.heap.size w wr ∧ Blk wr w.heap.size #[.string n, .int .i64 t, .int .i64 c, .int .i64 l, .string d] 48 ∧ w.heap.size + 1 ≤ wr.heap.size)) (fun _ i _ => K - (intOf i).toNat)
  case atStart => exact ⟨0, 0, none, Nat.zero_le _, rfl, rfl, World.ownsRow_nil _ _ _ _, hb, KB, by simp⟩
  case round =>
    clear hb KB
    obtain ⟨k, cp, y, hk, rfl, rfl, HI⟩ := hrel
    have d0 : wr.cell? ⟨w.heap.size, 0, none⟩ = some (.string n) := HI.out.2.2.1.cell 0
    have d1 : wr.cell? ⟨w.heap.size, 1, none⟩ = some (.int .i64 t) := HI.out.2.2.1.cell 1
    have d2 : wr.cell? ⟨w.heap.size, 2, none⟩ = some (.int .i64 c) := HI.out.2.2.1.cell 2
    have d3 : wr.cell? ⟨w.heap.size, 3, none⟩ = some (.int .i64 l) := HI.out.2.2.1.cell 3
    have d4 : wr.cell? ⟨w.heap.size, 4, none⟩ = some (.string d) := HI.out.2.2.1.cell 4
    by_cases hkc : k < K
    · have hkc' : (k : Int) < (K : Int) := by omega
      have hn1 : k ≤ 1000 := by omega
      have hsz : w.heap.size + 1 ≤ wr.heap.size := HI.out.2.2.2
      go_wp2_with (at_builtin; refine wpList_appR wr rfl (.tmp 12) (.tmp 14) rfl (w.heap.size + 1) (.slice y k cp) k (List.replicate k ⟨n, t, c, l, d⟩) ⟨n, t, c, l, d⟩ rfl HI.out.1 rfl hn1 hsz ?_; intro v5 w5 own5 grow5 at5; obtain ⟨y5, k5, rfl⟩ := row_shape own5; have OWN5 : Hid (w5.ownsRow (w.heap.size + 1) 48 5 (.slice y5 (k + 1) k5) (k + 1) (rC (List.replicate k ⟨n, t, c, l, d⟩ ++ [⟨n, t, c, l, d⟩]))) := own5; have GROW5 : Hid ((wr.alloc (.cells (rV ⟨n, t, c, l, d⟩).toArray 48)).grownBy w5 (Value.slice y k cp).ownBlock) := grow5; clear own5 grow5 at5)
      go_roundw
      case rel =>
        refine ⟨k + 1, k5, y5, by omega, rfl, by go_num, ?_, ?_, ?_, ?_⟩
        · rw [List.replicate_succ', ]; exact OWN5.out
        · exact (lay HI.out.2.1 _).grown GROW5.out (by have := HI.out.2.1.size; simp; omega) (fun j e => by have := (HI.out.1.lt j e).1; omega)
        · exact (HI.out.2.2.1.alloc _).grown GROW5.out (fun e => by have := (HI.out.1.lt _ e.symm).1; omega)
        · have := GROW5.out.size
          simp at this
          omega
      case measure => simp [intOf]; omega
    · have hkc' : decide (k < K) = false := by simpa using hkc
      have HKC : Hid (k = K) := by unfold Hid; omega
      go_wp2
      go_ret
      have e := HKC.out
      subst e
      exact ⟨y, cp, rfl, own_base HI.out.1 (by omega), HI.out.2.1⟩
theorem replicate_row {w : World} {B K c : Nat} {y : Option Addr} {r : Rc} (h : w.ownsRow B 48 5 (.slice y K c) K (rC (List.replicate K r))) (hK : K ≤ 1000) (hn : r.n.size ≤ 100000) (hd : r.d.size ≤ 100000) : RRow w (.slice y K c) (List.replicate K r) :=
  ⟨by rw [List.length_replicate]; exact Row.of_own h, by rw [List.length_replicate]; exact small100 (by omega), fun x hx => by obtain ⟨_, rfl⟩ := List.mem_replicate.1 hx; exact ⟨small100 hn, small100 hd⟩⟩

end Go.Proofs.Ytdogjbblnjjaaaa
