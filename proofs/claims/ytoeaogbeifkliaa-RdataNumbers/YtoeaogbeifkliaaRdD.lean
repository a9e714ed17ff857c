/- What Soa of package rdata gives, for every argument. -/
import Derived.Test.YtoeaogbeifkliaaRdC
namespace Go.Proofs.Ytoeaogbeifkliaa
open Go.RowKit
open Pl

/-- An api.Soa. -/
def soaV (h m : ByteArray) (a b c d e : Int) : Array Value := #[.string h, .string m, .int .i64 a, .int .i64 b, .int .i64 c, .int .i64 d, .int .i64 e]
/-- Its data so far. -/
def soaS (h m : ByteArray) (a b c d e : Int) : Nat → ByteArray
  | 0 => h ++ m
  | 1 => h ++ m ++ be4 a
  | 2 => h ++ m ++ be4 a ++ be4 b
  | 3 => h ++ m ++ be4 a ++ be4 b ++ be4 c
  | 4 => h ++ m ++ be4 a ++ be4 b ++ be4 c ++ be4 d
  | _ => h ++ m ++ be4 a ++ be4 b ++ be4 c ++ be4 d ++ be4 e
theorem size4 (x : Int) : (be4 x).size = 4 := rfl

theorem size3 : Try.t3.size = 1 := by kernel_rfl
theorem idx5 (a b c d e : Int) (k : Nat) (hk : k < 5) (u : World) : (Instr.index 70 (.agg #[.int .i64 a, .int .i64 b, .int .i64 c, .int .i64 d, .int .i64 e]) (.int .i64 (k : Int))).run Try.prog u = .ok (.int .i64 ([a, b, c, d, e].getD k 0)) u := by
  have : k = 0 ∨ k = 1 ∨ k = 2 ∨ k = 3 ∨ k = 4 := by omega
  rcases this with rfl | rfl | rfl | rfl | rfl <;> simp [Instr.index, run_underlying Try.underlying70, asIntOf, go_sem, part, sizeOf, size3]

theorem add_off (g i : Nat) : (⟨g, 0, none⟩ : Addr).add i = ⟨g, i, none⟩ := by unfold Addr.add; split <;> simp_all
theorem within_five (top a b c d e : Int) (w : World) (g : Nat) (hg : w.heap[g]? = some (.cells #[.int .i64 a, .int .i64 b, .int .i64 c, .int .i64 d, .int .i64 e] 70 (0, 0))) :
    Calls Try.prog 29 #[.int .i64 top, .slice (some ⟨g, 0, none⟩) 5 5] w fun r w' => r = .returned (.bool (allIn top [a, b, c, d, e])) ∧ w' = w := by
  refine within_any top ⟨g, 0, none⟩ 5 5 [a, b, c, d, e] w rfl (by decide) fun i hi => ?_
  rw [add_off, cell_of_row w g i _ _ _ hg]
  have : i = 0 ∨ i = 1 ∨ i = 2 ∨ i = 3 ∨ i = 4 := by omega
  rcases this with rfl | rfl | rfl | rfl | rfl <;> rfl

/-- The world in which Soa's argument and its numbers lie. -/
theorem soa_world (w : World) (h m : ByteArray) (a b c d e : Int) :
    ((w.alloc (.cells #[.string h, .string m, .int .i64 a, .int .i64 b, .int .i64 c, .int .i64 d, .int .i64 e] 23)).alloc (.cells #[.int .i64 a, .int .i64 b, .int .i64 c, .int .i64 d, .int .i64 e] 70)).heap[w.heap.size + 1]? = some (.cells #[.int .i64 a, .int .i64 b, .int .i64 c, .int .i64 d, .int .i64 e] 70 (0, 0)) := by
  have := heap_alloc_new (w.alloc (.cells #[.string h, .string m, .int .i64 a, .int .i64 b, .int .i64 c, .int .i64 d, .int .i64 e] 23)) (.cells #[.int .i64 a, .int .i64 b, .int .i64 c, .int .i64 d, .int .i64 e] 70)
  simpa using this

set_option maxRecDepth 20000 in
theorem soa_yes (h m : ByteArray) (a b c d e : Int) (w : World) (hh : isName h.data.toList = true) (hm : isName m.data.toList = true) (hz : allIn 4294967295 [a, b, c, d, e] = true) :
    Calls Try.prog 19 #[.agg (soaV h m a b c d e)] w fun r w' => r = .returned (.tuple #[.string (soaS h m a b c d e 5), .int .i64 0]) ∧ Below w.heap.size w w' := by
  have z1 := name_size hh
  have z2 := name_size hm
  have s1 : h.size ≤ maxLen := by unfold maxLen; omega
  have s2 : m.size ≤ maxLen := by unfold maxLen; omega
  have s3 : h.size + m.size ≤ 1000 := by omega
  have hwd := soa_world w h m a b c d e
  have hb := lay (lay (Below.refl w.heap.size w) (.cells #[.string h, .string m, .int .i64 a, .int .i64 b, .int .i64 c, .int .i64 d, .int .i64 e] 23)) (.cells #[.int .i64 a, .int .i64 b, .int .i64 c, .int .i64 d, .int .i64 e] 70)
  unfold soaV
  go_enter Try.func19, Try.ntmps19
  go_wp2_with (first
    | (go_at_call_of 35 (#[Value.string h]); go_must (refine (may_as h true _ s1 hh).mono ?_); rintro e w' ⟨rfl, hw⟩; obtain rfl := hw.symm)
    | (go_at_call 35; go_must (refine (may_as m true _ s2 hm).mono ?_); rintro e w' ⟨rfl, hw⟩; obtain rfl := hw.symm)
    | (go_at_call 29; go_must (refine (within_five 4294967295 a b c d e _ _ hwd).mono ?_); rintro e w' ⟨rfl, hw⟩; obtain rfl := hw.symm; rw [hz]))
  go_loopw [5, 38] (fun s i wr => ∃ k : Nat, k ≤ 5 ∧ s = .string (soaS h m a b c d e k) ∧ i = .int .i64 (k : Int) ∧ Below w.heap.size w wr) (fun _ i _ => 5 - (intOf i).toNat)
  case atStart => exact ⟨0, by decide, rfl, rfl, hb⟩
  case round =>
    clear hb hwd
    obtain ⟨k, hk, rfl, rfl, hb⟩ := hrel
    by_cases h5 : k < 5
    · obtain ⟨x, hx⟩ : ∃ x, x = [a, b, c, d, e].getD k 0 := ⟨_, rfl⟩
      have hi := idx5 a b c d e k h5
      rw [← hx] at hi
      have HN : Hid (soaS h m a b c d e k ++ be4 x = soaS h m a b c d e (k + 1)) := by
        have : k = 0 ∨ k = 1 ∨ k = 2 ∨ k = 3 ∨ k = 4 := by omega
        subst hx
        rcases this with rfl | rfl | rfl | rfl | rfl <;> rfl
      have hz : (soaS h m a b c d e k).size + (be4 x).size ≤ 1000 := by
        have : k = 0 ∨ k = 1 ∨ k = 2 ∨ k = 3 ∨ k = 4 := by omega
        rw [size4]
        rcases this with rfl | rfl | rfl | rfl | rfl <;> simp [soaS, ByteArray.size_append, size4] <;> omega
      obtain ⟨S, hS⟩ : ∃ S, S = soaS h m a b c d e k := ⟨_, rfl⟩
      rw [← hS] at hz HN ⊢
      clear hx hS
      have h5' : (k : Int) < 5 := by omega
      go_wp2_with (go_at_call 30; go_must (refine (put32_any x _).mono ?_); rintro e w1 ⟨rfl, b1⟩; replace hb := next hb b1; clear b1)
      go_roundw
      case rel => exact ⟨k + 1, by omega, by rw [HN.out], by go_num, hb⟩
      case measure => simp [intOf]; omega
    · have h5' : k = 5 := by omega
      subst h5'
      go_wp2
      go_ret2
      exact ⟨rfl, hb⟩

theorem soa_no (h m : ByteArray) (a b c d e : Int) (w : World) (s1 : h.size ≤ maxLen) (s2 : m.size ≤ maxLen) (hn : (isName h.data.toList && isName m.data.toList && allIn 4294967295 [a, b, c, d, e]) = false) :
    Calls Try.prog 19 #[.agg (soaV h m a b c d e)] w fun r w' => r = .returned (.tuple #[.string ⟨#[]⟩, .int .i64 400]) ∧ Below w.heap.size w w' := by
  have hwd := soa_world w h m a b c d e
  have hb1 := lay (Below.refl w.heap.size w) (.cells #[.string h, .string m, .int .i64 a, .int .i64 b, .int .i64 c, .int .i64 d, .int .i64 e] 23)
  have hb := lay hb1 (.cells #[.int .i64 a, .int .i64 b, .int .i64 c, .int .i64 d, .int .i64 e] 70)
  unfold soaV
  cases hh : isName h.data.toList with
  | false =>
    clear hn
    go_enter Try.func19, Try.ntmps19
    go_wp2_with (first
      | (go_at_call_of 35 (#[Value.string h]); go_must (refine (may_as h false _ s1 hh).mono ?_); rintro e w' ⟨rfl, hw⟩; obtain rfl := hw.symm))
    go_ret2
    exact ⟨rfl, hb1⟩
  | true =>
    cases hm : isName m.data.toList with
    | false =>
      clear hn
      have t : True := trivial
      go_enter Try.func19, Try.ntmps19
      go_wp2_with (first
        | (go_at_call 35; have _t := t; go_must (refine (may_as h true _ s1 hh).mono ?_); rintro e w' ⟨rfl, hw⟩; obtain rfl := hw.symm; clear _t t)
        | (go_at_call 35; go_must (refine (may_as m false _ s2 hm).mono ?_); rintro e w' ⟨rfl, hw⟩; obtain rfl := hw.symm))
      go_ret2
      exact ⟨rfl, hb1⟩
    | true =>
      have hz : allIn 4294967295 [a, b, c, d, e] = false := by rw [hh, hm] at hn; simpa using hn
      clear hn
      go_enter Try.func19, Try.ntmps19
      go_wp2_with (first
        | (go_at_call_of 35 (#[Value.string h]); go_must (refine (may_as h true _ s1 hh).mono ?_); rintro e w' ⟨rfl, hw⟩; obtain rfl := hw.symm)
        | (go_at_call 35; go_must (refine (may_as m true _ s2 hm).mono ?_); rintro e w' ⟨rfl, hw⟩; obtain rfl := hw.symm)
        | (go_at_call 29; go_must (refine (within_five 4294967295 a b c d e _ _ hwd).mono ?_); rintro e w' ⟨rfl, hw⟩; obtain rfl := hw.symm; rw [hz]))
      go_ret2
      exact ⟨rfl, hb⟩

end Go.Proofs.Ytoeaogbeifkliaa
