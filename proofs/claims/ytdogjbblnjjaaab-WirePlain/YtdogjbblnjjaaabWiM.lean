/- What Get of package wire gives: the walk. -/
import Derived.Test.YtdogjbblnjjaaabWiL
namespace Go.Proofs.Ytdogjbblnjjaaab
open Go.RowKit
open Pl

/-- What Get leaves. -/
def GetP (s : ByteArray) (w : World) (e : Ending) (w' : World) : Prop := ∃ v0 v1 v2 v3, e = .returned (.tuple #[.agg (msgC (gM s).h v0 v1 v2 v3), .int .i64 (gE s)]) ∧ Own w.heap.size w' v0 v1 v2 v3 (gM s) ∧ Below w.heap.size w w'
theorem getP_no {s : ByteArray} {w w' : World} {E : Int} (h : gM s = msZ ∧ gE s = E) (hb : Below w.heap.size w w') : GetP s w (.returned (.tuple #[.agg (msgC hdZ (.slice none 0 0) (.slice none 0 0) (.slice none 0 0) (.slice none 0 0)), .int .i64 E])) w' := by
  unfold GetP
  rw [h.1, h.2]
  exact ⟨_, _, _, _, rfl, Own.none _ _, hb⟩
theorem zeroed {w u : World} (hb : Below w.heap.size w u) (k : Blk u w.heap.size (msgC hdZ (.slice none 0 0) (.slice none 0 0) (.slice none 0 0) (.slice none 0 0)) 33) :
    Below w.heap.size w (set13 u w.heap.size hdZ (.slice none 0 0) (.slice none 0 0) (.slice none 0 0) (.slice none 0 0)) ∧ Blk (set13 u w.heap.size hdZ (.slice none 0 0) (.slice none 0 0) (.slice none 0 0) (.slice none 0 0)) w.heap.size (msgC hdZ (.slice none 0 0) (.slice none 0 0) (.slice none 0 0) (.slice none 0 0)) 33 :=
  ⟨Turn.below hb (set13_turn _ _ _ _ _ _ _) hb.size (fun i e => by omega), set13_blk k⟩

set_option maxRecDepth 20000 in
set_option maxHeartbeats 1000000 in
theorem get_long (s : ByteArray) (w : World) (_hs : s.size ≤ maxLen) (hl : ¬ s.size ≤ 4096) :
    Calls Try.prog 6 #[.string s] w (GetP s w) := by
  have hl' : (4096 : Int) < (s.size : Int) := by omega
  have HG : Hid (gM s = msZ ∧ gE s = 701) := g_long hl
  have qb : Below w.heap.size w _ := lay (Below.refl _ _) (.cells (msgC hdZ (.slice none 0 0) (.slice none 0 0) (.slice none 0 0) (.slice none 0 0)) 33)
  unfold maxLen at _hs
  go_enter Try.func6, Try.ntmps6
  go_wp2
  refine bodyPost_ret (v := .tuple #[.agg (msgC hdZ (.slice none 0 0) (.slice none 0 0) (.slice none 0 0) (.slice none 0 0)), .int .i64 701]) (by simp [results, Try.results6, go_sem, msgC, hdZ]) rfl (getP_no HG.out qb)

theorem get_short {s : ByteArray} (h : s.size < 12) : getM s = none := by unfold getM; rw [if_neg (by omega)]

set_option maxRecDepth 20000 in
set_option maxHeartbeats 1000000 in
theorem get_few12 (s : ByteArray) (w : World) (hl : s.size < 12) :
    Calls Try.prog 6 #[.string s] w (GetP s w) := by
  have hs : s.size ≤ maxLen := by unfold maxLen; omega
  have hl' : decide ((4096 : Int) < (s.size : Int)) = false := by simp; omega
  have HG : Hid (gM s = msZ ∧ gE s = 700) := g_none (by omega) (get_short hl)
  have kz := Blk.new w (msgC hdZ (.slice none 0 0) (.slice none 0 0) (.slice none 0 0) (.slice none 0 0)) 33
  have kb : Below w.heap.size w _ := lay (Below.refl _ _) (.cells (msgC hdZ (.slice none 0 0) (.slice none 0 0) (.slice none 0 0) (.slice none 0 0)) 33)
  have hcall := fun u => get_no s u hs hl
  unfold headZ headV cntV at hcall
  go_enter Try.func6, Try.ntmps6
  go_wp2_with (go_at_call 11; go_must (refine (hcall _).mono ?_); rintro e w1 ⟨rfl, b1⟩; replace kz := kz.below b1; replace kb := next kb b1; obtain ⟨f0, f1, f2, f3, f4, f5, f6, f7, f8, f9, f10, f11, f12⟩ := open13 kz; obtain ⟨z0, z1, z2, z3, z4, z5, z6, z7, z8, z9, z10, z11, z12⟩ := blk13 kz; have klt := kz.lt; clear b1)
  obtain ⟨qb, q⟩ := zeroed kb kz
  unfold set13 hdZ at qb q
  simp only at qb q
  revert qb q
  generalize (((((((((((((w1.setCell ⟨w.heap.size, 0, none⟩ (.int .i64 0)).setCell ⟨w.heap.size, 1, none⟩ (.bool false)).setCell ⟨w.heap.size, 2, none⟩ (.int .i64 0)).setCell ⟨w.heap.size, 3, none⟩ (.bool false)).setCell ⟨w.heap.size, 4, none⟩ (.bool false)).setCell ⟨w.heap.size, 5, none⟩ (.bool false)).setCell ⟨w.heap.size, 6, none⟩ (.bool false)).setCell ⟨w.heap.size, 7, none⟩ (.int .i64 0)).setCell ⟨w.heap.size, 8, none⟩ (.int .i64 0)).setCell ⟨w.heap.size, 9, none⟩ (.slice none 0 0)).setCell ⟨w.heap.size, 10, none⟩ (.slice none 0 0)).setCell ⟨w.heap.size, 11, none⟩ (.slice none 0 0)).setCell ⟨w.heap.size, 12, none⟩ (.slice none 0 0)) = V
  intro qb q
  replace q := (q.alloc (.cells #[.int .i64 0, .bool false, .int .i64 0, .bool false, .bool false, .bool false, .bool false, .int .i64 0, .int .i64 0] 29)).alloc (.cells #[.int .i64 0, .int .i64 0, .int .i64 0, .int .i64 0] 47)
  replace qb := lay (lay qb (.cells #[.int .i64 0, .bool false, .int .i64 0, .bool false, .bool false, .bool false, .bool false, .int .i64 0, .int .i64 0] 29)) (.cells #[.int .i64 0, .int .i64 0, .int .i64 0, .int .i64 0] 47)
  obtain ⟨m0, m1, m2, m3, m4, m5, m6, m7, m8, m9, m10, m11, m12⟩ := blk13 q
  refine bodyPost_ret (v := .tuple #[.agg (msgC hdZ (.slice none 0 0) (.slice none 0 0) (.slice none 0 0) (.slice none 0 0)), .int .i64 700]) (by simp [results, Try.results6, go_sem, msgC, hdZ, m0, m1, m2, m3, m4, m5, m6, m7, m8, m9, m10, m11, m12]) rfl (getP_no HG.out qb)

end Go.Proofs.Ytdogjbblnjjaaab
