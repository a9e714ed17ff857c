/- Rows of texts: how they lie, and what the laws' helpers do with them. -/
import Derived.Test.YtphhljbeaklikaaXP6
import Derived.Deep.DeepCutAuto
namespace Go.Proofs.Ytphhljbeaklikaa
open Go.RowKit
open Pl
/-- Texts as cells. -/
def tC (ds : List ByteArray) : List Value := ds.map Value.string
theorem tC_len (ds : List ByteArray) : (tC ds).length = ds.length := by simp [tC]
theorem tC_app (a b : List ByteArray) : tC (a ++ b) = tC a ++ tC b := by simp [tC]
theorem tC_one (a : List ByteArray) : ∀ u ∈ tC a, u.oneCell' = true := by
  intro u hu
  simp only [tC, List.mem_map] at hu
  obtain ⟨m, _, rfl⟩ := hu
  rfl
theorem tC_at {ds : List ByteArray} {k : Nat} (hk : k < ds.length) : (tC ds)[k]? = some (.string ds[k]) := by
  unfold tC; rw [List.getElem?_map, List.getElem?_eq_getElem hk]; rfl
theorem str_eqd (a b : ByteArray) : (a.toList == b.toList) = decide (a = b) := by
  rw [Bool.eq_iff_iff, beq_iff_eq, decide_eq_true_eq]
  exact ⟨fun h => bytes_ext (by rw [ByteArray.toList_eq, ByteArray.toList_eq] at h; exact h), fun e => by rw [e]⟩
theorem info9' : (Try.prog.info? 9).map (fun i => (i.zero, i.size, i.bytes)) = some (some (.string ⟨#[]⟩), 1, 16) := by kernel_rfl
/-- Rows that were lent: their cells, and the marks behind them. -/
def Lies (w : World) (g : Nat) (xs : List Value) : Prop := ∀ j u, xs[j]? = some u → w.cell? ⟨g, j, none⟩ = some u
theorem Lies.below {w w' : World} {g : Nat} {xs : List Value} (h : Lies w g xs) (hb : Below w.heap.size w w') : Lies w' g xs := fun j u hu => by
  have h1 := h j u hu
  rw [hb.cell (World.block_lt_of_cell? _ _ h1)]; exact h1
theorem Lies.turn {S : Nat → Prop} {w w' : World} {g : Nat} {xs : List Value} (h : Lies w g xs) (ht : Turn S w w') (hs : ¬ S g) : Lies w' g xs := fun j u hu => by
  have h1 := h j u hu
  have hlt := World.block_lt_of_cell? _ _ h1
  have hb := ht.block g hlt hs
  unfold World.cell? at h1 ⊢
  simp only [hb]
  exact h1
theorem Lies.row {w : World} {g cap n : Nat} {xs ys : List Value} (h : Lies w g (xs ++ ys)) : Row w (.slice (some ⟨g, 0, none⟩) n cap) n xs := by
  refine .inr ⟨g, 0, none, cap, rfl, fun _ => rfl, fun j u hu => ?_⟩
  rw [Nat.zero_add]
  refine h j u ?_
  rw [List.getElem?_append_left (List.getElem?_eq_some_iff.1 hu).1]
  exact hu
theorem lies_own {w : World} {base e z g cap N : Nat} {xs : List Value} (h : w.ownsRow base e z (.slice (some ⟨g, 0, none⟩) N cap) N xs) : Lies w g xs ∧ N ≤ cap := by
  refine ⟨fun j u hu => ?_, ?_⟩
  · have hj := (List.getElem?_eq_some_iff.1 hu).1
    rw [h.cellAt j (by rw [← h.1]; exact hj), hu]
  · rcases h.2 with ⟨e, _⟩ | ⟨g', cap', cur, e, _, _, hnc, _⟩
    · simp at e
    · simp at e; omega
/-- The marks behind texts that were lent. -/
def mkT : List ByteArray := [⟨#[126, 114, 111, 111, 109]⟩, ⟨#[126, 98, 101, 104, 105, 110, 100]⟩]
theorem marksT {w : World} {g : Nat} {ds : List ByteArray} (h : Lies w g (tC ds ++ tC mkT)) : w.cell? ⟨g, ds.length, none⟩ = some (.string ⟨#[126, 114, 111, 111, 109]⟩) ∧ w.cell? ⟨g, ds.length + 1, none⟩ = some (.string ⟨#[126, 98, 101, 104, 105, 110, 100]⟩) := by
  have hl := tC_len ds
  have H : ∀ i u, (tC mkT)[i]? = some u → w.cell? ⟨g, ds.length + i, none⟩ = some u := fun i u hu => h _ _ (by
    rw [List.getElem?_append_right (by omega), hl, show ds.length + i - ds.length = i from by omega]; exact hu)
  exact ⟨H 0 _ rfl, H 1 _ rfl⟩
/-- From the place j on there are n texts, none of them too great. -/
def TextsF (xs : List Value) (j n : Nat) : Prop := ∀ i, j ≤ i → i < n → ∃ s : ByteArray, xs[i]? = some (.string s) ∧ s.size ≤ 140737488351232
theorem TextsF.set {xs : List Value} {j n : Nat} (h : TextsF xs j n) (v : Value) : TextsF (xs.set j v) (j + 1) n := by
  intro i hi hn
  obtain ⟨s, h1, h2⟩ := h i (by omega) hn
  exact ⟨s, by rw [List.getElem?_set_ne (by omega)]; exact h1, h2⟩
theorem textsF_tC {ds : List ByteArray} (h : ∀ d ∈ ds, d.size ≤ 140737488351232) : TextsF (tC ds) 0 ds.length := fun i _ hi => ⟨ds[i], tC_at hi, h _ (List.getElem_mem _)⟩
end Go.Proofs.Ytphhljbeaklikaa
