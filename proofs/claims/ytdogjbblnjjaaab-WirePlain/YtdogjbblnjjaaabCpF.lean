/- A Writer of package comp as it lies in memory; what New, room, Raw, All and keep give. -/
import Derived.Test.YtdogjbblnjjaaabCpE
import Derived.StringKeys
import Derived.Maps.OwnSet
import Derived.Maps.OwnOps
import Derived.WalkSpells
namespace Go.Proofs.Ytdogjbblnjjaaab
open Go.RowKit
open Pl

/-- A block as it was laid. -/
def Blk (w : World) (g : Nat) (C : Array Value) (t : TypeId) : Prop := w.heap[g]? = some (.cells C t (0, 0))
theorem Blk.cell {w : World} {g : Nat} {C : Array Value} {t : TypeId} (h : Blk w g C t) (i : Nat) : w.cell? ⟨g, i, none⟩ = C[i]? := cell_of_row w g i C t _ h
theorem Blk.frozen {w : World} {g : Nat} {C : Array Value} {t : TypeId} (h : Blk w g C t) (i : Nat) : w.frozen? ⟨g, i, none⟩ = false := by
  unfold Blk at h
  simp only [World.frozen?, h]
  simp
theorem Blk.drew {w w' : World} {g : Nat} {C : Array Value} {t : TypeId} (h : Blk w g C t) (hd : ∃ m, w' = w.drewN m) : Blk w' g C t := by
  obtain ⟨m, rfl⟩ := hd; exact h
theorem Blk.lt {w : World} {g : Nat} {C : Array Value} {t : TypeId} (h : Blk w g C t) : g < w.heap.size := (Array.getElem?_eq_some_iff.1 h).1
theorem Blk.below {w w' : World} {g : Nat} {C : Array Value} {t : TypeId} (h : Blk w g C t) (hb : Below w.heap.size w w') : Blk w' g C t := by
  unfold Blk; rw [hb.block g h.lt]; exact h
theorem Blk.alloc {w : World} {g : Nat} {C : Array Value} {t : TypeId} (h : Blk w g C t) (o : Obj) : Blk (w.alloc o) g C t := h.below ((Below.refl _ _).alloc (Nat.le_refl _) o)
theorem Blk.new (w : World) (C : Array Value) (t : TypeId) : Blk (w.alloc (.cells C t)) w.heap.size C t := heap_alloc_new w _
theorem Blk.set {w : World} {g : Nat} {C : Array Value} {t : TypeId} (h : Blk w g C t) (i : Nat) (v : Value) : Blk (w.setCell ⟨g, i, none⟩ v) g (C.setIfInBounds i v) t := heap_setCell_same w g i C t v h
theorem Blk.other {w : World} {g b : Nat} {C : Array Value} {t : TypeId} (h : Blk w g C t) (hb : g ≠ b) (i : Nat) (v : Value) : Blk (w.setCell ⟨b, i, none⟩ v) g C t := by
  unfold Blk; rw [heap_setCell_other w ⟨b, i, none⟩ g v hb]; exact h
theorem Blk.grown {w w' : World} {g : Nat} {C : Array Value} {t : TypeId} {row : Option Nat} (h : Blk w g C t) (hg : w.grownBy w' row) (hne : some g ≠ row) : Blk w' g C t := by
  unfold Blk; rw [hg.block g h.lt hne]; exact h

/-- All that lay in w lies in w' as it lay, but for the blocks of S. -/
structure Turn (S : Nat → Prop) (w w' : World) : Prop where
  os : w'.os = w.os
  tape : w'.tape = w.tape
  output : w'.output = w.output
  size : w.heap.size ≤ w'.heap.size
  block : ∀ k, k < w.heap.size → ¬ S k → w'.heap[k]? = w.heap[k]?
theorem Turn.refl (S : Nat → Prop) (w : World) : Turn S w w := ⟨rfl, rfl, rfl, Nat.le_refl _, fun _ _ _ => rfl⟩
theorem Turn.of_below {S : Nat → Prop} {w w' : World} (h : Below w.heap.size w w') : Turn S w w' := ⟨h.os, h.tape, h.output, h.size, fun k hk _ => h.block k hk⟩
theorem Turn.of_grown {S : Nat → Prop} {w w' : World} {row : Option Nat} (h : w.grownBy w' row) (hr : ∀ k, row = some k → S k) : Turn S w w' :=
  ⟨h.os, h.tape, h.output, h.size, fun k hk hs => h.block k hk (fun e => hs (hr k e.symm))⟩
theorem Turn.of_set {S : Nat → Prop} (w : World) {p : Addr} (hp : S p.block) (v : Value) : Turn S w (w.setCell p v) :=
  ⟨rfl, rfl, rfl, by simp, fun k _ hs => Below.heap_setCell w p v k (fun e => hs (e ▸ hp))⟩
theorem Turn.trans {S S' : Nat → Prop} {a b c : World} (h : Turn S a b) (k : Turn S' b c) (hs : ∀ i, S' i → S i ∨ a.heap.size ≤ i) : Turn S a c :=
  ⟨k.os.trans h.os, k.tape.trans h.tape, k.output.trans h.output, Nat.le_trans h.size k.size, fun i hi hn =>
    (k.block i (Nat.lt_of_lt_of_le hi h.size) (fun e => (hs i e).elim hn (fun g => by omega))).trans (h.block i hi hn)⟩
theorem Turn.below {S : Nat → Prop} {w a b : World} {B : Nat} (hb : Below B w a) (h : Turn S a b) (hB : B ≤ a.heap.size) (hs : ∀ i, S i → B ≤ i) : Below B w b :=
  ⟨h.os.trans hb.os, h.tape.trans hb.tape, h.output.trans hb.output, Nat.le_trans hb.size h.size, fun k hk => (h.block k (by omega) (fun e => by have := hs k e; omega)).trans (hb.block k hk)⟩
theorem Turn.blk {S : Nat → Prop} {w w' : World} {g : Nat} {C : Array Value} {t : TypeId} (h : Turn S w w') (hb : Blk w g C t) (hs : ¬ S g) : Blk w' g C t := by
  unfold Blk; rw [h.block g hb.lt hs]; exact hb
theorem Turn.row {S : Nat → Prop} {w w' : World} {base e z n : Nat} {v : Value} {xs : List Value} (h : Turn S w w') (ho : w.ownsRow base e z v n xs) (hs : ∀ k, v.ownBlock = some k → ¬ S k) : w'.ownsRow base e z v n xs := by
  refine ⟨ho.1, ?_⟩
  rcases ho.2 with h0 | ⟨g, cap, cur, rfl, hb, hg, rest⟩
  · exact .inl h0
  · have hlt := (Array.getElem?_eq_some_iff.1 hg).1
    exact .inr ⟨g, cap, cur, rfl, hb, by rw [h.block g hlt (hs g rfl)]; exact hg, rest⟩

theorem keyL : Go.Maps.Keyed Try.prog 9 := Go.Maps.string_keyed Try.underlying9
theorem zero3 (w : World) : (zeroValue 3).run Try.prog w = .ok (.int .i64 0) w := by kernel_rfl

/-- What a map of rests holds. -/
def MapIs (D : DataW Unit) (ms : Marks) : Prop :=
  ∀ r, (plc ms r = none → Maps.has D (.string r) = false) ∧ ∀ q, plc ms r = some q → Maps.has D (.string r) = true ∧ D.atKey (.string r) (.lit (.int .i64 0)) = .lit (.int .i64 (q : Int))
def MapAt (w : World) (m : Value) (ms : Marks) : Prop :=
  (m = .map none ∧ ms = []) ∨ ∃ b D, m = .map (some b) ∧ w.ownsMap Try.prog 9 (plainElem Try.prog 3) b ms.length D ∧ MapIs D ms
/-- A Writer's blocks. -/
def own (g : Nat) (v m : Value) (k : Nat) : Prop := k = g ∨ v.ownBlock = some k ∨ m = .map (some k)
/-- A Writer of package comp that holds the bytes B and the rests ms lies at g. -/
def CW (w : World) (g : Nat) (v m : Value) (B : List UInt8) (ms : Marks) : Prop :=
  Blk w g #[v, m] 91 ∧ w.ownsRow 0 5 1 v B.length (B.map bv) ∧ MapAt w m ms

theorem CW.blk {w : World} {g : Nat} {v m : Value} {B : List UInt8} {ms : Marks} (h : CW w g v m B ms) : Blk w g #[v, m] 91 := h.1
theorem CW.row {w : World} {g : Nat} {v m : Value} {B : List UInt8} {ms : Marks} (h : CW w g v m B ms) : w.ownsRow 0 5 1 v B.length (B.map bv) := h.2.1
theorem CW.map {w : World} {g : Nat} {v m : Value} {B : List UInt8} {ms : Marks} (h : CW w g v m B ms) : MapAt w m ms := h.2.2
theorem CW.c0 {w : World} {g : Nat} {v m : Value} {B : List UInt8} {ms : Marks} (h : CW w g v m B ms) : w.cell? ⟨g, 0, none⟩ = some v := h.blk.cell 0
theorem CW.c1 {w : World} {g : Nat} {v m : Value} {B : List UInt8} {ms : Marks} (h : CW w g v m B ms) : w.cell? ⟨g, 1, none⟩ = some m := h.blk.cell 1
theorem CW.form {w : World} {g : Nat} {v m : Value} {B : List UInt8} {ms : Marks} (h : CW w g v m B ms) : ∃ x cap, v = .slice x B.length cap := by
  rcases h.row.2 with ⟨h1, h2⟩ | ⟨g, cap, cur, h1, _⟩
  · exact ⟨none, 0, by rw [h1, h2]⟩
  · exact ⟨_, _, h1⟩
theorem CW.sep {w : World} {g : Nat} {v m : Value} {B : List UInt8} {ms : Marks} (h : CW w g v m B ms) : some g ≠ v.ownBlock := by
  intro e
  rcases h.row.2 with ⟨h1, _⟩ | ⟨g', cap, cur, h1, _, hg, _⟩
  · rw [h1] at e; simp [Value.ownBlock] at e
  · rw [h1] at e
    simp [Value.ownBlock] at e
    subst e
    have := h.blk
    unfold Blk at this
    rw [hg] at this
    simp at this
theorem CW.mapSep {w : World} {g b : Nat} {v m : Value} {B : List UInt8} {ms : Marks} (h : CW w g v m B ms) (hm : m = .map (some b)) : b ≠ g ∧ some b ≠ v.ownBlock := by
  rcases h.map with ⟨h1, _⟩ | ⟨b', D, h1, ⟨es, clock, hb, _⟩, _⟩
  · rw [h1] at hm; simp at hm
  · rw [h1] at hm
    simp at hm
    subst hm
    refine ⟨?_, ?_⟩
    · intro e
      subst e
      have := h.blk
      unfold Blk at this
      rw [hb] at this
      simp at this
    · intro e
      rcases h.row.2 with ⟨h2, _⟩ | ⟨g', cap, cur, h2, _, hg, _⟩
      · rw [h2] at e; simp [Value.ownBlock] at e
      · rw [h2] at e
        simp [Value.ownBlock] at e
        subst e
        rw [hb] at hg
        simp at hg
theorem CW.lt {w : World} {g : Nat} {v m : Value} {B : List UInt8} {ms : Marks} (h : CW w g v m B ms) (k : Nat) (hk : own g v m k) : k < w.heap.size := by
  rcases hk with rfl | hk | hk
  · exact h.blk.lt
  · exact (h.row.lt k hk).2
  · rcases h.map with ⟨h1, _⟩ | ⟨b', D, h1, ho, _⟩
    · rw [h1] at hk; simp at hk
    · rw [h1] at hk; simp at hk; subst hk; exact ho.lt
theorem MapAt.turn {S : Nat → Prop} {w w' : World} {m : Value} {ms : Marks} (h : MapAt w m ms) (ht : Turn S w w') (hs : ∀ k, m = .map (some k) → ¬ S k) : MapAt w' m ms := by
  rcases h with h | ⟨b, D, h1, ⟨es, clock, hb, rest⟩, h2⟩
  · exact .inl h
  · have hlt := (Array.getElem?_eq_some_iff.1 hb).1
    exact .inr ⟨b, D, h1, ⟨es, clock, by rw [ht.block b hlt (hs b h1)]; exact hb, rest⟩, h2⟩
/-- A Writer lies as it lay where none of its blocks has turned. -/
theorem CW.turn {S : Nat → Prop} {w w' : World} {g : Nat} {v m : Value} {B : List UInt8} {ms : Marks} (h : CW w g v m B ms) (ht : Turn S w w') (hs : ∀ k, own g v m k → ¬ S k) : CW w' g v m B ms :=
  ⟨ht.blk h.blk (hs g (.inl rfl)), ht.row h.row (fun k hk => hs k (.inr (.inl hk))), h.map.turn ht (fun k hk => hs k (.inr (.inr hk)))⟩
theorem CW.below {w w' : World} {g : Nat} {v m : Value} {B : List UInt8} {ms : Marks} (h : CW w g v m B ms) (hb : Below w.heap.size w w') : CW w' g v m B ms :=
  h.turn (S := fun _ => False) (Turn.of_below hb) (fun _ _ => id)
theorem CW.drewn {w w' : World} {g : Nat} {v m : Value} {B : List UInt8} {ms : Marks} (h : CW w g v m B ms) (hd : ∃ k, w' = w.drewN k) : CW w' g v m B ms := h.below (below_drew hd)
theorem CW.new (w : World) : CW (w.alloc (.cells #[.slice none 0 0, .map none] 91)) w.heap.size (.slice none 0 0) (.map none) [] [] :=
  ⟨Blk.new w _ _, World.ownsRow_nil _ _ _ _, .inl ⟨rfl, rfl⟩⟩

/-- What a call leaves of a Writer. -/
def Left (g : Nat) (v m : Value) (w w' : World) (B : List UInt8) (ms : Marks) : Prop :=
  ∃ v' m', CW w' g v' m' B ms ∧ Turn (own g v m) w w' ∧ ∀ k, own g v' m' k → own g v m k ∨ w.heap.size ≤ k
theorem left_same {w : World} {g : Nat} {v m : Value} {B : List UInt8} {ms : Marks} (h : CW w g v m B ms) : Left g v m w w B ms := ⟨v, m, h, Turn.refl _ _, fun _ hk => .inl hk⟩

theorem new_any (w : World) : Calls Try.prog 18 #[] w fun e w' => e = .returned (.pointer (some ⟨w.heap.size, 0, none⟩)) ∧ w' = w.alloc (.cells #[.slice none 0 0, .map none] 91) := by
  go_enter Try.func18, Try.ntmps18
  go_wp2
  go_ret
  exact ⟨rfl, rfl⟩

theorem room_any (g n cap : Nat) (x : Option Addr) (w : World) (hn : n ≤ 4096) (hc : w.cell? ⟨g, 0, none⟩ = some (.slice x n cap)) :
    Calls Try.prog 58 #[.pointer (some ⟨g, 0, none⟩)] w fun e w' => e = .returned (.int .i64 (4096 - (n : Int))) ∧ w' = w := by
  go_enter Try.func58, Try.ntmps58
  go_wp2
  go_ret
  exact ⟨rfl, rfl⟩

theorem all_any (g : Nat) (v m : Value) (B : List UInt8) (ms : Marks) (w : World) (h : CW w g v m B ms) :
    Calls Try.prog 24 #[.pointer (some ⟨g, 0, none⟩)] w fun e w' => e = .returned (.string ⟨B.toArray⟩) ∧ w' = w := by
  have c0 := h.c0
  have HR : Hid (w.ownsRow 0 5 1 v B.length (B.map bv)) := h.row
  clear h
  go_enter Try.func24, Try.ntmps24
  go_wp2_with (refine wpList_string _ rfl (.tmp 8) rfl 0 B.length v B rfl HR.out ?_)
  go_ret
  exact ⟨rfl, rfl⟩

end Go.Proofs.Ytdogjbblnjjaaab
