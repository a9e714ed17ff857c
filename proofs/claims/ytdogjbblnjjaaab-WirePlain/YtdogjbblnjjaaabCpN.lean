/- Rows of strings that come in; rows beside a Writer. -/
import Derived.Test.YtdogjbblnjjaaabCpJ
import Derived.ChangeSlices
import Derived.SliceStrings
import Derived.Carry
import Derived.ProofKit
import Derived.OpenShut
import Derived.ShutString
namespace Go.Proofs.Ytdogjbblnjjaaab
open Go.ChangeShapes Go.WideShapes Go.ChangeAt Go.RowKit
open Go.ChangeMaps (open_string shut_string)
open Pl


/-- No block of a Writer is a row of another type. -/
theorem CW.apart {w : World} {g k : Nat} {v m : Value} {B : List UInt8} {ms : Marks} {c : Array Value} {t : TypeId} {f : Nat × Nat} (h : CW w g v m B ms) (hk : w.heap[k]? = some (Obj.cells c t f)) (h1 : t ≠ 5) (h2 : t ≠ 91) : ¬ own g v m k := by
  rintro (rfl | e | e)
  · have := h.blk
    unfold Blk at this
    rw [hk] at this
    simp at this
    exact h2 this.2.1
  · rcases h.row.2 with ⟨h3, _⟩ | ⟨g', cap, cur, h3, _, hg, _⟩
    · rw [h3] at e; simp [Value.ownBlock] at e
    · rw [h3] at e
      simp [Value.ownBlock] at e
      subst e
      rw [hk] at hg
      simp at hg
      exact h1 hg.2.1
  · rcases h.map with ⟨h3, _⟩ | ⟨b', D, h3, ⟨es, clock, hb, _⟩, _⟩
    · rw [h3] at e; simp at e
    · rw [h3] at e
      simp at e
      subst e
      rw [hk] at hb
      simp at hb
/-- A Writer lies as it lay where a row of another type has grown. -/
theorem Holds.grown {w0 w w' : World} {g base e z n : Nat} {B : List UInt8} {ms : Marks} {v : Value} {xs : List Value} (h : Holds w0 w g B ms) (ho : w.ownsRow base e z v n xs) (hb : w0.heap.size ≤ base) (h1 : e ≠ 5) (h2 : e ≠ 91) (hg : w.grownBy w' v.ownBlock) : Holds w0 w' g B ms := by
  obtain ⟨u, m, a1, a2, a3, a4⟩ := h
  have hd : ∀ k, own g u m k → ¬ v.ownBlock = some k := fun k hk e => by
    rcases ho.2 with ⟨h3, _⟩ | ⟨g', cap, cur, h3, _, hgg, _⟩
    · rw [h3] at e; simp [Value.ownBlock] at e
    · rw [h3] at e
      simp [Value.ownBlock] at e
      subst e
      exact a1.apart hgg h1 h2 hk
  refine ⟨u, m, a1.turn (S := fun k => v.ownBlock = some k) (Turn.of_grown hg (fun _ hk => hk)) hd, a2, a3, a4.grown hg a4.size (fun k hk => Nat.le_trans hb (ho.lt k hk).1)⟩
theorem Holds.alloc {w0 w : World} {g : Nat} {B : List UInt8} {ms : Marks} (h : Holds w0 w g B ms) (o : Obj) : Holds w0 (w.alloc o) g B ms := h.below ((Below.refl _ _).alloc (Nat.le_refl _) o)
theorem one_cell (w : World) (x : ByteArray) : ∀ j (hj : j < [x].length), (w.alloc (.cells #[.string x] 9)).cell? ((⟨w.heap.size, 0, none⟩ : Addr).add j) = some (.string [x][j]) := by
  intro j hj
  have := World.news_of_block (heap_alloc_new w (.cells #[.string x] 9)) j (.string [x][j])
  have hj0 : j = 0 := by simpa using hj
  subst hj0
  exact this (by simp)
theorem row_some {w : World} {base e z n c : Nat} {y : Option Addr} {xs : List Value} (h : w.ownsRow base e z (.slice y n c) n xs) (hn : 0 < n) : ∃ g, y = some ⟨g, 0, none⟩ := by
  rcases h.2 with ⟨_, h2⟩ | ⟨g, cap, cur, h1, _⟩
  · omega
  · simp at h1; exact ⟨g, h1.1⟩
theorem str_beq (a b : ByteArray) : (a.toList == b.toList) = decide (a = b) := by
  rw [ByteArray.toList_eq, ByteArray.toList_eq, Bool.eq_iff_iff]
  simp only [beq_iff_eq, decide_eq_true_eq]
  exact ⟨fun h => by apply ByteArray.ext; apply Array.ext'; exact h, fun h => by rw [h]⟩

/-- The names that fit: what is written takes this many bytes. -/
theorem nam_fits {B : List UInt8} {ms : Marks} {n : List UInt8} (hn : isName n = true) (hB : B.length + 255 ≤ 4096) : namE B ms n = 0 ∧ (namB B ms n).length = B.length + sizW ms n ∧ namB B ms n = outW B ms n ∧ namM B ms n = marW B ms n := by
  have h1 := splN_size hn ms
  have h2 := (name_some hn).1
  obtain ⟨a, b, c⟩ := nam_yes (B := B) (ms := ms) hn (by omega)
  exact ⟨a, by rw [b, outW_len hn], b, c⟩
theorem siz_le {ms : Marks} {n : List UInt8} (hn : isName n = true) : 1 ≤ sizW ms n ∧ sizW ms n ≤ n.length := by
  refine ⟨?_, splN_size hn ms⟩
  unfold sizW
  rcases splN_end hn ms with ⟨_, _, h⟩ | ⟨q, _, h⟩
  · rw [h]; simp
  · rw [h]; simp [ptrB]
/-- A name that is not the root has a place behind its writing. -/
theorem mar_has {B : List UInt8} {ms : Marks} {n : List UInt8} (hn : isName n = true) (h0 : n ≠ [0]) : ∃ q, plc (marW B ms n) n = some q := by
  cases hp : plc ms n with
  | some q => exact ⟨q, plc_keep hp⟩
  | none =>
    have hl := name_ne hn
    have h0' : n[0].toNat ≠ 0 := fun e => h0 (by have := nat_root (nat_start hn) hl e; simpa using this)
    obtain ⟨_, hlt⟩ := w_miss (w_start hn ms) hl h0' (by simpa using hp)
    refine ⟨B.length + 0, ?_⟩
    unfold marW newM
    rw [plc_app, hp]
    obtain ⟨f, hf⟩ : ∃ f, n.length = f + 1 := ⟨n.length - 1, by omega⟩
    rw [hf, sts, if_pos hlt]
    simp [mkM, plc]

end Go.Proofs.Ytdogjbblnjjaaab
