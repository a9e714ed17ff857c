/- New and Add of a Table. -/
import Derived.Test.YtbldoplemfjcjaaOuJ
namespace Go.Proofs.Ytbldoplemfjcjaa
open Go.RowKit
open Pl
namespace Ou

theorem new_no (most : Int) (w : World) (h : most < 1 ∨ 16 < most) :
    Calls Try.prog 8 #[.int .i64 most] w fun e w' => e = .returned (.tuple #[.pointer none, .int .i64 1900]) ∧ w' = w := by
  by_cases h1 : most < 1
  · have d1 : decide (most < 1) = true := by simpa using h1
    go_enter Try.func8, Try.ntmps8
    go_wp2
    go_ret2
    exact ⟨rfl, rfl⟩
  · have d1 : decide (most < 1) = false := by simpa using h1
    have d2 : decide (16 < most) = true := by simp; omega
    go_enter Try.func8, Try.ntmps8
    go_wp2
    go_ret2
    exact ⟨rfl, rfl⟩
theorem new_yes (most : Nat) (w : World) (h1 : 1 ≤ most) (h2 : most ≤ 16) :
    Calls Try.prog 8 #[.int .i64 (most : Int)] w fun e w' => ∃ g b, e = .returned (.tuple #[.pointer (some ⟨g, 0, none⟩), .int .i64 0]) ∧ St w' g most 0 b [] [] ∧ Below w.heap.size w w' ∧ w.heap.size ≤ g ∧ w.heap.size ≤ b := by
  have d1 : decide ((most : Int) < 1) = false := by simp; omega
  have d2 : decide (16 < (most : Int)) = false := by simp; omega
  have HB : Hid (Below w.heap.size w ((w.alloc (.map #[] 0)).alloc (.cells #[.int .i64 (most : Int), .int .i64 0, .map (some w.heap.size)] 61))) := lay (lay (Below.refl _ _) _) _
  have hk := Blk.new (w.alloc (.map #[] 0)) #[.int .i64 (most : Int), .int .i64 0, .map (some w.heap.size)] 61
  have hsz : (w.alloc (.map #[] 0)).heap.size = w.heap.size + 1 := by simp
  rw [hsz] at hk
  have HST : Hid (St ((w.alloc (.map #[] 0)).alloc (.cells #[.int .i64 (most : Int), .int .i64 0, .map (some w.heap.size)] 61)) (w.heap.size + 1) most 0 w.heap.size [] []) := by
    refine ⟨hk, h1, h2, Nat.zero_le _, ⟨⟨0, .map [], ?_, mapOf_nil⟩, Good.nil, by simp, List.Pairwise.nil⟩, List.Pairwise.nil, by simp⟩
    exact own_turn (S := fun _ => False) (World.ownsMap_made w Try.prog 67 rE) (Turn.of_below ((Below.refl _ _).alloc (Nat.le_refl _) _)) id
  clear hk hsz
  have hmm := @run_makeMap Try.prog
  go_enter Try.func8, Try.ntmps8
  go_wp2
  go_ret2
  exact ⟨_, _, rfl, HST.out, HB.out, by simp, Nat.le_refl _⟩

set_option maxRecDepth 20000 in
set_option maxHeartbeats 2000000 in
theorem add_wrong {w : World} (gs : Nat) (j i a : Int) (c g n : ByteArray) (t u : Int) (hn : n.size ≤ maxLen) (hb : wrongA ⟨j, i, a, c, g, n, t, u⟩ = true) :
    Calls Try.prog 12 #[.pointer (some ⟨gs, 0, none⟩), .agg #[.int .i64 j, .int .i64 i, .int .i64 a, .string c, .string g, .string n, .int .i64 t, .int .i64 u]] w fun e w' => e = .returned (.int .i64 1900) ∧ Below w.heap.size w w' := by
  have b0 : Below w.heap.size w (w.alloc (.cells #[.int .i64 j, .int .i64 i, .int .i64 a, .string c, .string g, .string n, .int .i64 t, .int .i64 u] 35)) := lay (Below.refl _ _) _
  have k0 := Blk.new w #[.int .i64 j, .int .i64 i, .int .i64 a, .string c, .string g, .string n, .int .i64 t, .int .i64 u] 35
  go_enter Try.func12, Try.ntmps12
  go_wp2_with (first
    | (go_at_call 23; go_must (refine (isWrong_any j i a c g n t u _ hn true hb).mono ?_); rintro e w1 ⟨rfl, b1⟩; replace b0 := next b0 b1)
    | (refine wpList_loadS _ rfl (.tmp 3) 35 rfl w.heap.size _ 35 rfl k0 ⟨_, Try.underlying35⟩ (by kernel_rfl) ?_))
  go_ret
  exact ⟨rfl, b0⟩

set_option maxRecDepth 20000 in
set_option maxHeartbeats 2000000 in
theorem add_full {w : World} {gs most added b : Nat} {L : List Gr} {T : List Tn} (h : St w gs most added b L T) (j i a : Int) (c g n : ByteArray) (t u : Int) (hn : n.size ≤ maxLen) (hb : wrongA ⟨j, i, a, c, g, n, t, u⟩ = false) (hfull : T.length = most) :
    Calls Try.prog 12 #[.pointer (some ⟨gs, 0, none⟩), .agg #[.int .i64 j, .int .i64 i, .int .i64 a, .string c, .string g, .string n, .int .i64 t, .int .i64 u]] w fun e w' => e = .returned (.int .i64 1901) ∧ Below w.heap.size w w' := by
  have b0 : Below w.heap.size w (w.alloc (.cells #[.int .i64 j, .int .i64 i, .int .i64 a, .string c, .string g, .string n, .int .i64 t, .int .i64 u] 35)) := lay (Below.refl _ _) _
  have k0 := Blk.new w #[.int .i64 j, .int .i64 i, .int .i64 a, .string c, .string g, .string n, .int .i64 t, .int .i64 u] 35
  have hge : decide ((most : Int) ≤ (T.length : Int)) = true := by simp; omega
  have HST : Hid (St w gs most added b L T) := h
  have hgl : gs < w.heap.size := h.blk.lt
  clear h
  go_enter Try.func12, Try.ntmps12
  go_wp2_with (first
    | (go_at_call 23; go_must (refine (isWrong_any j i a c g n t u _ hn false hb).mono ?_); rintro e w1 ⟨rfl, b1⟩; replace b0 := next b0 b1; clear b1)
    | (refine wpList_loadS _ rfl (.tmp 3) 35 rfl w.heap.size _ 35 rfl k0 ⟨_, Try.underlying35⟩ (by kernel_rfl) ?_))
  have hs1 := (HST.out.below b0).below (Below.refl _ _).drew
  have c0 : w1.drew.cell? ⟨gs, 0, none⟩ = some (.int .i64 (most : Int)) := hs1.blk.cell 0
  have hcnt := count_any hs1
  have HC0 : Hid (∀ w2, Below w1.drew.heap.size w1.drew w2 → w2.cell? ⟨gs, 0, none⟩ = some (.int .i64 (most : Int))) := fun w2 h2 => (hs1.below h2).blk.cell 0
  clear hs1
  go_region_held_law (fun u => u.cell? ⟨gs, 0, none⟩ = some (.int .i64 (most : Int))) (first | exact c0 | exact c9) ((go_at_call 24; go_must (refine hcnt.mono ?_); rintro e w2 ⟨rfl, b2⟩; have c9 := HC0.out w2 b2; have B2 := next (b0.drew) b2; clear b2))
  all_goals (go_wp2; go_ret; exact ⟨rfl, B2⟩)

end Ou
end Go.Proofs.Ytbldoplemfjcjaa
