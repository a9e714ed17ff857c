/- ReplyForms' ways' message: what is written and read. -/
import Derived.Test.YtbffnicfibfceaaXMaC
import Derived.Test.YtbffnicfibfceaaXGnB
namespace Go.Proofs.Ytbffnicfibfceaa.Ma
open Go.RowKit
open Pl

theorem own_sep {w : World} {B e z n g : Nat} {v : Value} {xs : List Value} {C : Array Value} {t : TypeId} (h : w.ownsRow B e z v n xs) (hb : Blk w g C t) (ht : t ≠ e) : some g ≠ v.ownBlock := by
  intro hk
  rcases h.2 with ⟨h1, _⟩ | ⟨g', cap, cur, h1, _, hg, _⟩
  · rw [h1] at hk; simp [Value.ownBlock] at hk
  · rw [h1] at hk
    simp [Value.ownBlock] at hk
    subst hk
    unfold Blk at hb
    rw [hg] at hb
    simp at hb
    exact ht hb.2.symm
theorem rf_new (w : World) (X : Array Value) : Blk ((w.alloc (.cells X 27)).alloc (.cells #[.string ⟨#[1, 97, 0]⟩, .int .i64 1, .int .i64 1] 40)) w.heap.size X 27 ∧ Blk ((w.alloc (.cells X 27)).alloc (.cells #[.string ⟨#[1, 97, 0]⟩, .int .i64 1, .int .i64 1] 40)) (w.heap.size + 1) #[.string ⟨#[1, 97, 0]⟩, .int .i64 1, .int .i64 1] 40 := by
  have k2 := Blk.new (w.alloc (.cells X 27)) #[.string ⟨#[1, 97, 0]⟩, .int .i64 1, .int .i64 1] 40
  rw [World.size_alloc] at k2
  exact ⟨(Blk.new w X 27).alloc _, k2⟩
theorem rf_ways (m : Ms) : (∃ T : ByteArray, putV m = .tuple #[.string T, .int .i64 0] ∧ (gM T = m ∧ gE T = 0) ∧ (rpM (T ++ ⟨#[97]⟩) = msZ ∧ rpE (T ++ ⟨#[97]⟩) = 2000) ∧ T.size ≤ 4096) ∨ ∃ (T : ByteArray) (E : Int), putV m = .tuple #[.string T, .int .i64 E] ∧ ¬ E = 0 := by
  rcases put_ways m with ⟨T, h1, h2, h3, _⟩ | ⟨E, h1, h2, _⟩
  · refine .inl ⟨T, h1, g_some h3 h2, ?_, h3⟩
    by_cases hl : (T ++ ⟨#[97]⟩ : ByteArray).size ≤ 4096
    · have hn : getM (T ++ ⟨#[97]⟩) = none := by
        cases h : getM (T ++ ⟨#[97]⟩) with
        | none => rfl
        | some x => exact absurd h2 (get_behind (by decide) h)
      exact (rp_at (g_none hl hn)).2 (.inl (by decide))
    · exact (rp_at (g_long hl)).2 (.inl (by decide))
  · exact .inr ⟨_, E, h1, by rcases h2 with rfl | rfl <;> decide⟩

end Go.Proofs.Ytbffnicfibfceaa.Ma
