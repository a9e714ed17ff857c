/- A Writer that the call itself made; what awake gives: true. -/
import Derived.Test.YtdogjbblnjjaaabCpH
namespace Go.Proofs.Ytdogjbblnjjaaab
open Go.RowKit
open Pl

/-- Rows of other types than a Writer's lie as they lay. -/
def Beside (w w' : World) : Prop := ∀ (k : Nat) (c : Array Value) (t : TypeId) (f : Nat × Nat), w.heap[k]? = some (Obj.cells c t f) → t ≠ 5 → t ≠ 91 → w'.heap[k]? = some (Obj.cells c t f)
theorem Beside.refl (w : World) : Beside w w := fun _ _ _ _ h _ _ => h
theorem Beside.trans {a b c : World} (h : Beside a b) (k : Beside b c) : Beside a c := fun i x t f hi h1 h2 => k i x t f (h i x t f hi h1 h2) h1 h2
theorem Beside.of_below {w w' : World} (h : Below w.heap.size w w') : Beside w w' := fun k c t f hk _ _ => by
  rw [h.block k (Array.getElem?_eq_some_iff.1 hk).1]; exact hk
theorem Beside.row {w w' : World} {base e z n : Nat} {v : Value} {xs : List Value} (h : Beside w w') (ho : w.ownsRow base e z v n xs) (h1 : e ≠ 5) (h2 : e ≠ 91) : w'.ownsRow base e z v n xs := by
  refine ⟨ho.1, ?_⟩
  rcases ho.2 with h0 | ⟨g, cap, cur, rfl, hb, hg, rest⟩
  · exact .inl h0
  · exact .inr ⟨g, cap, cur, rfl, hb, h g _ _ _ hg h1 h2, rest⟩
theorem Beside.of_turn {w w' : World} {g : Nat} {v m : Value} {B : List UInt8} {ms : Marks} (h : CW w g v m B ms) (ht : Turn (own g v m) w w') : Beside w w' := by
  intro k c t f hk h1 h2
  rw [ht.block k (Array.getElem?_eq_some_iff.1 hk).1 ?_]
  · exact hk
  · rintro (rfl | e | e)
    · have := h.blk
      unfold Blk at this
      rw [hk] at this
      simp at this
      exact h2 this.2.1
    · rcases h.row.2 with ⟨h3, _⟩ | ⟨g', cap, cur, h3, _, hg, _⟩
      · rw [h3] at e; simp [Value.ownBlock] at e
      · rw [h3] at e
        simp [Value.ownBlock] at e
        subst e
        rw [hk] at hg
        simp at hg
        exact h1 hg.2.1
    · rcases h.map with ⟨h3, _⟩ | ⟨b', D, h3, ⟨es, clock, hb, _⟩, _⟩
      · rw [h3] at e; simp at e
      · rw [h3] at e
        simp at e
        subst e
        rw [hk] at hb
        simp at hb

/-- At g lies a Writer that was made since w0, with the bytes B and the rests ms; what lay in w0 lies as it lay. -/
def Holds (w0 w : World) (g : Nat) (B : List UInt8) (ms : Marks) : Prop :=
  ∃ v m, CW w g v m B ms ∧ Fine B ms ∧ (∀ k, own g v m k → w0.heap.size ≤ k) ∧ Below w0.heap.size w0 w
theorem Holds.below {w0 w w' : World} {g : Nat} {B : List UInt8} {ms : Marks} (h : Holds w0 w g B ms) (hb : Below w.heap.size w w') : Holds w0 w' g B ms := by
  obtain ⟨v, m, h1, h2, h3, h4⟩ := h
  exact ⟨v, m, h1.below hb, h2, h3, next h4 hb⟩
theorem Holds.out {w0 w : World} {g : Nat} {B : List UInt8} {ms : Marks} (h : Holds w0 w g B ms) : Below w0.heap.size w0 w := by
  obtain ⟨v, m, h1, h2, h3, h4⟩ := h; exact h4
theorem Holds.fine {w0 w : World} {g : Nat} {B : List UInt8} {ms : Marks} (h : Holds w0 w g B ms) : Fine B ms := by
  obtain ⟨v, m, h1, h2, h3, h4⟩ := h; exact h2
theorem holds_left {w0 w w' : World} {g : Nat} {v m : Value} {B B' : List UInt8} {ms ms' : Marks} (h1 : CW w g v m B ms) (h3 : ∀ k, own g v m k → w0.heap.size ≤ k) (h4 : Below w0.heap.size w0 w) (hl : Left g v m w w' B' ms') (hf : Fine B' ms') : Holds w0 w' g B' ms' ∧ Beside w w' := by
  obtain ⟨v', m', a, b, c⟩ := hl
  refine ⟨⟨v', m', a, hf, fun k hk => ?_, Turn.below h4 b h4.size h3⟩, Beside.of_turn h1 b⟩
  rcases c k hk with h | h
  · exact h3 k h
  · exact Nat.le_trans h4.size h

theorem new_h (w0 w : World) (h : Below w0.heap.size w0 w) : Calls Try.prog 18 #[] w fun e w' => ∃ g, e = .returned (.pointer (some ⟨g, 0, none⟩)) ∧ Holds w0 w' g [] [] ∧ Beside w w' := by
  refine (new_any w).mono fun e w' ⟨he, hw⟩ => ⟨_, he, ?_⟩
  subst hw
  refine ⟨⟨_, _, CW.new w, fine_nil, ?_, lay h _⟩, Beside.of_below ((Below.refl _ _).alloc (Nat.le_refl _) _)⟩
  rintro k (rfl | e | e)
  · exact h.size
  · simp [Value.ownBlock] at e
  · simp at e
theorem raw_h {w0 w : World} {g : Nat} {B : List UInt8} {ms : Marks} (s : ByteArray) (hs : s.size ≤ maxLen) (h : Holds w0 w g B ms) :
    Calls Try.prog 42 #[.pointer (some ⟨g, 0, none⟩), .string s] w fun e w' => e = .returned (.int .i64 (rawE B s)) ∧ Holds w0 w' g (rawB B s) ms ∧ Beside w w' := by
  obtain ⟨v, m, h1, h2, h3, h4⟩ := h
  exact (raw_any g v m B ms s w h2.1 hs h1).mono fun e w' ⟨he, hl⟩ => ⟨he, holds_left h1 h3 h4 hl (fine_raw h2 s)⟩
theorem name_h {w0 w : World} {g : Nat} {B : List UInt8} {ms : Marks} (s : ByteArray) (hs : s.size ≤ maxLen) (h : Holds w0 w g B ms) :
    Calls Try.prog 59 #[.pointer (some ⟨g, 0, none⟩), .string s] w fun e w' => e = .returned (.int .i64 (namE B ms s.data.toList)) ∧ Holds w0 w' g (namB B ms s.data.toList) (namM B ms s.data.toList) ∧ Beside w w' := by
  obtain ⟨v, m, h1, h2, h3, h4⟩ := h
  exact (wname_any g v m B ms s w h2 hs h1).mono fun e w' ⟨he, hl⟩ => ⟨he, holds_left h1 h3 h4 hl (fine_name h2 _)⟩
theorem all_h {w0 w : World} {g : Nat} {B : List UInt8} {ms : Marks} (h : Holds w0 w g B ms) :
    Calls Try.prog 24 #[.pointer (some ⟨g, 0, none⟩)] w fun e w' => e = .returned (.string ⟨B.toArray⟩) ∧ w' = w := by
  obtain ⟨v, m, h1, _⟩ := h
  exact all_any g v m B ms w h1
/-- .. with answers that are known. -/
theorem raw_k {w0 w : World} {g : Nat} {B B' : List UInt8} {ms : Marks} {E : Int} (s : ByteArray) (hs : s.size ≤ maxLen) (h : Holds w0 w g B ms) (hE : rawE B s = E) (hB : rawB B s = B') :
    Calls Try.prog 42 #[.pointer (some ⟨g, 0, none⟩), .string s] w fun e w' => e = .returned (.int .i64 E) ∧ Holds w0 w' g B' ms ∧ Beside w w' := by subst hE; subst hB; exact raw_h s hs h
theorem name_k {w0 w : World} {g : Nat} {B B' : List UInt8} {ms ms' : Marks} {E : Int} (s : ByteArray) (hs : s.size ≤ maxLen) (h : Holds w0 w g B ms) (hE : namE B ms s.data.toList = E) (hB : namB B ms s.data.toList = B') (hM : namM B ms s.data.toList = ms') :
    Calls Try.prog 59 #[.pointer (some ⟨g, 0, none⟩), .string s] w fun e w' => e = .returned (.int .i64 E) ∧ Holds w0 w' g B' ms' ∧ Beside w w' := by subst hE; subst hB; subst hM; exact name_h s hs h

def aB1 : List UInt8 := [97, 98]
def aB2 : List UInt8 := [97, 98, 1, 97, 1, 98, 0]
def aM2 : Marks := [([1, 97, 1, 98, 0], 2), ([1, 98, 0], 4)]
def aB3 : List UInt8 := [97, 98, 1, 97, 1, 98, 0, 1, 99, 192, 4]
def aM3 : Marks := [([1, 97, 1, 98, 0], 2), ([1, 98, 0], 4), ([1, 99, 1, 98, 0], 7)]
theorem small {n : Nat} (h : n ≤ 100) : n ≤ maxLen := by unfold maxLen; omega

theorem cData_as (s : ByteArray) (p n : Nat) (t : Int) (R : Option (List UInt8)) (w : World) (hs : s.size ≤ 140737488355328) (hpn : p + n ≤ s.size) (h : dataOf s.data.toList p n t = R) :
    Calls Try.prog 51 #[.string s, .int .i64 (p : Int), .int .i64 (n : Int), .int .i64 t] w fun e w' => e = .returned (dtV R) ∧ Below w.heap.size w w' := by rw [← h]; exact cData_any s p n t w hs hpn

end Go.Proofs.Ytdogjbblnjjaaab
