/- What the document's Num and Be give. -/
import Derived.Test.YtcmhjlflgedcdaaXP1
import Derived.LoopN
import Derived.WalkSpells
import Derived.Laws.MakeOwn
import Derived.Lib.BufferWrite
import Derived.Lib.UnsafeStr
import Derived.Lib.AppendStr
import Derived.Deep.WholeRow
import Derived.Deep.AppendSrc
import Derived.Deep.Upon
import Derived.Deep.RegionHeld3
import Derived.Deep.RegionLawGrows
import Derived.SizedLaws
import Derived.Deep.RegionWith
import Derived.RegionTactic
import Derived.Deep.RegionLaw
namespace Go.Proofs.Ytcmhjlflgedcdaa
open Go.RowKit

/-- The number of n bytes from k on. -/
def val (s : ByteArray) (k : Nat) : Nat → Int
  | 0 => 0
  | i + 1 => val s k i * 256 + ((s.data.toList.getD (k + i) 0).toNat : Int)
theorem val_lt (s : ByteArray) (k : Nat) : ∀ i, 0 ≤ val s k i ∧ val s k i < 256 ^ i := by
  intro i
  induction i with
  | zero => simp [val]
  | succ i ih =>
    have := (s.data.toList.getD (k + i) 0).toNat_lt
    unfold val
    rw [Int.pow_succ]
    omega
theorem val_getD (s : ByteArray) (k : Nat) (h : k < s.size) : s.data.toList.getD k 0 = s[k] := by
  rw [List.getD_eq_getElem?_getD, List.getElem?_eq_getElem (by rw [data_len]; exact h)]
  rfl
theorem val_two (s : ByteArray) (k : Nat) (h : k + 2 ≤ s.size) : val s k 2 = two s[k] s[k + 1] := by
  unfold val val val two
  rw [val_getD s _ (by omega), val_getD s _ (by omega)]
  simp only [Nat.add_zero]
  omega
theorem val_four (s : ByteArray) (k : Nat) (h : k + 4 ≤ s.size) : val s k 4 = four s[k] s[k + 1] s[k + 2] s[k + 3] := by
  unfold val val val val val four two
  rw [val_getD s _ (by omega), val_getD s _ (by omega), val_getD s _ (by omega), val_getD s _ (by omega)]
  simp only [Nat.add_zero]
  omega

theorem wraps_i64 (n : Int) (h₀ : 0 ≤ n) (h₁ : n < 2 ^ 62) : IntKind.i64.wrap n = n := by rw [IntKind.wrap_i64]; omega



end Go.Proofs.Ytcmhjlflgedcdaa

/- What the document's Be gives. -/
namespace Go.Proofs.Ytcmhjlflgedcdaa
open Go.RowKit


theorem made_zero (n : Nat) : madeCells #[.int .u8 0] n = ((List.replicate n (0 : UInt8)).map bv).toArray := by
  apply Array.ext
  · simp [madeCells]
  · intro i h1 h2
    simp [madeCells, bv, Nat.mod_one]

/-- The last j bytes of a number of n bytes, zeros ahead of them. -/
def beL (x : Int) (n j : Nat) : List UInt8 := (List.range n).map fun p => if n - j ≤ p then oct x (256 ^ (n - 1 - p)) else 0
theorem beL_len (x : Int) (n j : Nat) : (beL x n j).length = n := by simp [beL]
theorem beL_zero (x : Int) (n : Nat) : beL x n 0 = List.replicate n 0 := by
  apply List.ext_getElem (by simp [beL])
  intro i h1 h2
  have : i < n := by simpa [beL] using h1
  simp only [beL, List.getElem_map, List.getElem_range, List.getElem_replicate]
  rw [if_neg (by omega)]
theorem beL_set (x : Int) (n j q : Nat) (h : q + 1 + j = n) : (beL x n j).set q (oct x (256 ^ j)) = beL x n (j + 1) := by
  apply List.ext_getElem (by simp [beL])
  intro i h1 h2
  have hi : i < n := by simpa [beL] using h2
  rw [List.getElem_set]
  simp only [beL, List.getElem_map, List.getElem_range]
  split
  · rename_i e
    subst e
    rw [if_pos (by omega), show n - 1 - q = j from by omega]
  · by_cases hj : n - j ≤ i
    · rw [if_pos hj, if_pos (by omega)]
    · rw [if_neg hj, if_neg (by omega)]
theorem beL_two (x : Int) : beL x 2 2 = [oct x 256, oct x 1] := by
  simp [beL, List.range_succ]
theorem beL_four (x : Int) : beL x 4 4 = [oct x 16777216, oct x 65536, oct x 256, oct x 1] := by
  simp [beL, List.range_succ]

theorem set_cells (l : List UInt8) (i : Nat) (b : UInt8) : (l.map bv).set i (.int .u8 (b.toNat : Int)) = (l.set i b).map bv := by
  rw [List.map_set]; rfl

theorem wraps_u64 (n : Int) (h₀ : 0 ≤ n) (h₁ : n < 2 ^ 64) : IntKind.u64.wrap n = n := by
  have : IntKind.u64.wrap n = n % 18446744073709551616 := by simp [IntKind.wrap, IntKind.bits, IntKind.signed]
  rw [this]; omega

theorem u64_byte (x u : Int) (j : Nat) (hj : j ≤ 4) (hu : u = x % 18446744073709551616 / 256 ^ j) : bits .and .u64 u 255 = ((oct x (256 ^ j)).toNat : Int) := by
  have hd : j = 0 ∨ j = 1 ∨ j = 2 ∨ j = 3 ∨ j = 4 := by omega
  have h0 : 0 ≤ u ∧ u < 18446744073709551616 := by
    rcases hd with rfl | rfl | rfl | rfl | rfl <;> subst hu <;> omega
  have := bits_mask .u64 64 (by decide) wraps_u64 8 (by decide) u h0.1 (by omega)
  rw [oct_nat]
  have h2 : bits .and .u64 u 255 = u % 256 := by simpa using this
  rw [h2]
  rcases hd with rfl | rfl | rfl | rfl | rfl <;> subst hu <;> omega




end Go.Proofs.Ytcmhjlflgedcdaa

/- Blocks, rows and what calls leave of them, where the seat has no text of package wire's to take them from. -/
namespace Go.Proofs.Ytcmhjlflgedcdaa
open Go.RowKit

/-- A block as it was laid. -/
def Blk (w : World) (g : Nat) (C : Array Value) (t : TypeId) : Prop := w.heap[g]? = some (.cells C t (0, 0))
theorem Blk.cell {w : World} {g : Nat} {C : Array Value} {t : TypeId} (h : Blk w g C t) (i : Nat) : w.cell? ⟨g, i, none⟩ = C[i]? := cell_of_row w g i C t _ h
theorem Blk.frozen {w : World} {g : Nat} {C : Array Value} {t : TypeId} (h : Blk w g C t) (i : Nat) : w.frozen? ⟨g, i, none⟩ = false := by
  unfold Blk at h
  simp only [World.frozen?, h]
  simp
theorem Blk.drew {w w' : World} {g : Nat} {C : Array Value} {t : TypeId} (h : Blk w g C t) (hd : ∃ m, w' = w.drewN m) : Blk w' g C t := by
  obtain ⟨m, rfl⟩ := hd; exact h
theorem Blk.lt {w : World} {g : Nat} {C : Array Value} {t : TypeId} (h : Blk w g C t) : g < w.heap.size := (Array.getElem?_eq_some_iff.1 h).1
theorem Blk.below {w w' : World} {g : Nat} {C : Array Value} {t : TypeId} (h : Blk w g C t) (hb : Below w.heap.size w w') : Blk w' g C t := by
  unfold Blk; rw [hb.block g h.lt]; exact h
theorem Blk.alloc {w : World} {g : Nat} {C : Array Value} {t : TypeId} (h : Blk w g C t) (o : Obj) : Blk (w.alloc o) g C t := h.below ((Below.refl _ _).alloc (Nat.le_refl _) o)
theorem Blk.new (w : World) (C : Array Value) (t : TypeId) : Blk (w.alloc (.cells C t)) w.heap.size C t := heap_alloc_new w _
theorem Blk.set {w : World} {g : Nat} {C : Array Value} {t : TypeId} (h : Blk w g C t) (i : Nat) (v : Value) : Blk (w.setCell ⟨g, i, none⟩ v) g (C.setIfInBounds i v) t := heap_setCell_same w g i C t v h
theorem Blk.other {w : World} {g b : Nat} {C : Array Value} {t : TypeId} (h : Blk w g C t) (hb : g ≠ b) (i : Nat) (v : Value) : Blk (w.setCell ⟨b, i, none⟩ v) g C t := by
  unfold Blk; rw [heap_setCell_other w ⟨b, i, none⟩ g v hb]; exact h
/-- A world in which all that w holds lies as it lay. -/
structure Bel (w : World) where
  to : World
  h : Below w.heap.size w to
/-- A region that draws its order, whose calls lay new blocks alone: one walk, in the order of the text. -/
theorem wp_region_bel {P : Program} {id : Nat} {Q : Exit → Act → World → Prop} {a : Act} {w : World} {l : List Oper} (hm : P.follows .mixedOrders = true) (hB : Region.lexB .any l.toArray = true)
    (h : Nonempty (Bel w) → wpQuiet P l.toArray (fun w' => ∃ n : Bel w, w' = n.to) (fun a' => ∀ w', (∃ n : Bel w, w' = n.to) → Q .normal a' w') l a) : (Code.region id l.toArray true).wp P Q a w :=
  wp_region_quiet (C := fun w' => ∃ n : Bel w, w' = n.to) hm hB ⟨⟨_, below_drew ⟨1, rfl⟩⟩, rfl⟩ (h ⟨⟨w, Below.refl _ _⟩⟩)
theorem bel_same {P : Program} {f : FuncId} {args : Array Value} {w : World} {n : Bel w} {v : Value}
    (h : Calls P f args n.to fun e w' => e = .returned v ∧ w' = n.to) : Calls P f args n.to fun e w'' => e = .returned v ∧ ∃ m : Bel w, w'' = m.to :=
  h.mono fun _ _ ⟨he, hm⟩ => ⟨he, n, hm⟩
theorem bel_lays {P : Program} {f : FuncId} {args : Array Value} {w : World} {n : Bel w} {v : Value}
    (h : Calls P f args n.to fun e w' => e = .returned v ∧ Below n.to.heap.size n.to w') : Calls P f args n.to fun e w'' => e = .returned v ∧ ∃ m : Bel w, w'' = m.to :=
  h.mono fun _ w' ⟨he, hm⟩ => ⟨he, ⟨w', next n.h hm⟩, rfl⟩
theorem bel_out {w w' : World} (h : ∃ n : Bel w, w' = n.to) : Below w.heap.size w w' := by
  obtain ⟨n, rfl⟩ := h; exact n.h
theorem Blk.grown {w w' : World} {g : Nat} {C : Array Value} {t : TypeId} {row : Option Nat} (h : Blk w g C t) (hg : w.grownBy w' row) (hne : some g ≠ row) : Blk w' g C t := by
  unfold Blk; rw [hg.block g h.lt hne]; exact h
/-- All that lay in w lies in w' as it lay, but for the blocks of S. -/
structure Turn (S : Nat → Prop) (w w' : World) : Prop where
  os : w'.os = w.os
  tape : w'.tape = w.tape
  output : w'.output = w.output
  size : w.heap.size ≤ w'.heap.size
  block : ∀ k, k < w.heap.size → ¬ S k → w'.heap[k]? = w.heap[k]?
theorem Turn.refl (S : Nat → Prop) (w : World) : Turn S w w := ⟨rfl, rfl, rfl, Nat.le_refl _, fun _ _ _ => rfl⟩
theorem Turn.of_below {S : Nat → Prop} {w w' : World} (h : Below w.heap.size w w') : Turn S w w' := ⟨h.os, h.tape, h.output, h.size, fun k hk _ => h.block k hk⟩
theorem Turn.of_grown {S : Nat → Prop} {w w' : World} {row : Option Nat} (h : w.grownBy w' row) (hr : ∀ k, row = some k → S k) : Turn S w w' :=
  ⟨h.os, h.tape, h.output, h.size, fun k hk hs => h.block k hk (fun e => hs (hr k e.symm))⟩
theorem Turn.of_set {S : Nat → Prop} (w : World) {p : Addr} (hp : S p.block) (v : Value) : Turn S w (w.setCell p v) :=
  ⟨rfl, rfl, rfl, by simp, fun k _ hs => Below.heap_setCell w p v k (fun e => hs (e ▸ hp))⟩
theorem Turn.trans {S S' : Nat → Prop} {a b c : World} (h : Turn S a b) (k : Turn S' b c) (hs : ∀ i, S' i → S i ∨ a.heap.size ≤ i) : Turn S a c :=
  ⟨k.os.trans h.os, k.tape.trans h.tape, k.output.trans h.output, Nat.le_trans h.size k.size, fun i hi hn =>
    (k.block i (Nat.lt_of_lt_of_le hi h.size) (fun e => (hs i e).elim hn (fun g => by omega))).trans (h.block i hi hn)⟩
theorem Turn.below {S : Nat → Prop} {w a b : World} {B : Nat} (hb : Below B w a) (h : Turn S a b) (hB : B ≤ a.heap.size) (hs : ∀ i, S i → B ≤ i) : Below B w b :=
  ⟨h.os.trans hb.os, h.tape.trans hb.tape, h.output.trans hb.output, Nat.le_trans hb.size h.size, fun k hk => (h.block k (by omega) (fun e => by have := hs k e; omega)).trans (hb.block k hk)⟩
theorem Turn.blk {S : Nat → Prop} {w w' : World} {g : Nat} {C : Array Value} {t : TypeId} (h : Turn S w w') (hb : Blk w g C t) (hs : ¬ S g) : Blk w' g C t := by
  unfold Blk; rw [h.block g hb.lt hs]; exact hb
theorem Turn.row {S : Nat → Prop} {w w' : World} {base e z n : Nat} {v : Value} {xs : List Value} (h : Turn S w w') (ho : w.ownsRow base e z v n xs) (hs : ∀ k, v.ownBlock = some k → ¬ S k) : w'.ownsRow base e z v n xs := by
  refine ⟨ho.1, ?_⟩
  rcases ho.2 with h0 | ⟨g, cap, cur, rfl, hb, hg, rest⟩
  · exact .inl h0
  · have hlt := (Array.getElem?_eq_some_iff.1 hg).1
    exact .inr ⟨g, cap, cur, rfl, hb, by rw [h.block g hlt (hs g rfl)]; exact hg, rest⟩
theorem Turn.alloc {S : Nat → Prop} {w a : World} (h : Turn S w a) (o : Obj) : Turn S w (a.alloc o) := h.trans (S' := fun _ => False) (Turn.of_below ((Below.refl _ _).alloc (Nat.le_refl _) o)) (fun _ => False.elim)
theorem Turn.past {S : Nat → Prop} {w a b : World} (h : Turn S w a) (hb : Below a.heap.size a b) : Turn S w b := h.trans (S' := fun _ => False) (Turn.of_below hb) (fun _ => False.elim)
theorem Turn.setNew {S : Nat → Prop} {w a : World} (h : Turn S w a) {k : Nat} (hk : w.heap.size ≤ k) (i : Nat) (v : Value) : Turn S w (a.setCell ⟨k, i, none⟩ v) :=
  h.trans (S' := fun j => j = k) (Turn.of_set (S := fun j => j = k) a (p := ⟨k, i, none⟩) rfl v) (fun _ e => .inr (by rw [e]; exact hk))
theorem Turn.same {S : Nat → Prop} {w a b : World} (h : Turn S w a) (k : Turn S a b) : Turn S w b := h.trans k (fun _ e => .inl e)
theorem Turn.more {S S' : Nat → Prop} {w w' : World} (h : Turn S w w') (hs : ∀ k, S k → S' k) : Turn S' w w' := ⟨h.os, h.tape, h.output, h.size, fun k hk hn => h.block k hk (fun e => hn (hs k e))⟩
theorem row_shape {w : World} {base e z n : Nat} {v : Value} {xs : List Value} (h : w.ownsRow base e z v n xs) : ∃ y c, v = .slice y n c := by
  rcases h.2 with ⟨h1, h2⟩ | ⟨g, cap, cur, h1, _⟩
  · exact ⟨none, 0, by rw [h1, h2]⟩
  · exact ⟨_, _, h1⟩
theorem str_list (s : ByteArray) : Lib.strCells s = s.data.toList.map bv := rfl
/-- A question. -/
structure Qn where
  n : ByteArray
  t : Int
  c : Int
/-- A record. -/
structure Rc where
  n : ByteArray
  t : Int
  c : Int
  l : Int
  d : ByteArray
/-- A header. -/
structure Hd where
  id : Int
  qr : Bool
  op : Int
  aa : Bool
  tc : Bool
  rd : Bool
  ra : Bool
  z : Int
  rc : Int
/-- A message. -/
structure Ms where
  h : Hd
  qs : List Qn
  an : List Rc
  ns : List Rc
  ar : List Rc
theorem arr_list (s : ByteArray) : (⟨s.data.toList.toArray⟩ : ByteArray) = s := by cases s; simp
/-- Questions and records as cells. -/
def qV (q : Qn) : List Value := [.string q.n, .int .i64 q.t, .int .i64 q.c]
def rV (r : Rc) : List Value := [.string r.n, .int .i64 r.t, .int .i64 r.c, .int .i64 r.l, .string r.d]
def qC (qs : List Qn) : List Value := qs.flatMap qV
def rC (rs : List Rc) : List Value := rs.flatMap rV
theorem flat_len {α : Type} {f : α → List Value} {z : Nat} (hz : ∀ x, (f x).length = z) (xs : List α) : (xs.flatMap f).length = xs.length * z := by
  induction xs with
  | nil => simp
  | cons x xs ih => rw [List.flatMap_cons, List.length_append, hz, ih, List.length_cons, Nat.succ_mul]; omega
theorem flat_get {α : Type} {f : α → List Value} {z : Nat} (hz : ∀ x, (f x).length = z) : ∀ (xs : List α) (k : Nat) (hk : k < xs.length) (i : Nat), i < z → (xs.flatMap f)[k * z + i]? = (f xs[k])[i]? := by
  intro xs
  induction xs with
  | nil => intro k hk; simp at hk
  | cons x xs ih =>
    intro k hk i hi
    rw [List.flatMap_cons]
    cases k with
    | zero => rw [Nat.zero_mul, Nat.zero_add, List.getElem?_append_left (by rw [hz]; exact hi)]; rfl
    | succ k =>
      rw [List.getElem?_append_right (by rw [hz, Nat.succ_mul]; omega), hz, show (k + 1) * z + i - z = k * z + i from by rw [Nat.succ_mul]; omega]
      exact ih k (by simpa using hk) i hi
theorem qC_len (qs : List Qn) : (qC qs).length = qs.length * 3 := flat_len (f := qV) (z := 3) (fun _ => rfl) qs
theorem rC_len (rs : List Rc) : (rC rs).length = rs.length * 5 := flat_len (f := rV) (z := 5) (fun _ => rfl) rs
theorem qC_app (a b : List Qn) : qC (a ++ b) = qC a ++ qC b := by simp [qC]
theorem rC_app (a b : List Rc) : rC (a ++ b) = rC a ++ rC b := by simp [rC]
theorem qC_one (a : List Qn) : ∀ u ∈ qC a, u.oneCell' = true := by
  intro u hu
  simp only [qC, List.mem_flatMap] at hu
  obtain ⟨m, _, hu⟩ := hu
  simp [qV] at hu
  rcases hu with rfl | rfl | rfl <;> rfl
theorem rC_one (a : List Rc) : ∀ u ∈ rC a, u.oneCell' = true := by
  intro u hu
  simp only [rC, List.mem_flatMap] at hu
  obtain ⟨m, _, hu⟩ := hu
  simp [rV] at hu
  rcases hu with rfl | rfl | rfl | rfl | rfl <;> rfl
/-- A row that is read: so many elements, their cells. -/
def Row (w : World) (v : Value) (n : Nat) (xs : List Value) : Prop :=
  (v = .slice none 0 0 ∧ n = 0) ∨ ∃ (g o : Nat) (p : Option Nat) (cap : Nat), v = .slice (some ⟨g, o, p⟩) n cap ∧ (0 < n → p = none) ∧ ∀ j u, xs[j]? = some u → w.cell? ⟨g, o + j, none⟩ = some u
theorem Row.below {w w' : World} {v : Value} {n : Nat} {xs : List Value} (h : Row w v n xs) (hb : Below w.heap.size w w') : Row w' v n xs := by
  rcases h with h | ⟨g, o, p, cap, hv, hp, hc⟩
  · exact .inl h
  · exact .inr ⟨g, o, p, cap, hv, hp, fun j u hu => by have h1 := hc j u hu; rw [hb.cell (World.block_lt_of_cell? _ _ h1)]; exact h1⟩
theorem Row.of_own {w : World} {base e z n : Nat} {v : Value} {xs : List Value} (h : w.ownsRow base e z v n xs) : Row w v n xs := by
  rcases h.2 with ⟨h1, h2⟩ | ⟨g, cap, cur, h1, rest⟩
  · exact .inl ⟨h1, h2⟩
  · refine .inr ⟨g, 0, none, cap, h1, fun _ => rfl, fun j u hu => ?_⟩
    have hj : j < n * z := by have := (List.getElem?_eq_some_iff.1 hu).1; rw [← h.1]; exact this
    subst h1
    rw [Nat.zero_add, h.cellAt j hj, hu]
/-- A row of questions, of records: no string is too long. -/
def QRow (w : World) (v : Value) (qs : List Qn) : Prop := Row w v qs.length (qC qs) ∧ qs.length ≤ maxLen ∧ ∀ q ∈ qs, q.n.size ≤ maxLen
def RRow (w : World) (v : Value) (rs : List Rc) : Prop := Row w v rs.length (rC rs) ∧ rs.length ≤ maxLen ∧ ∀ r ∈ rs, r.n.size ≤ maxLen ∧ r.d.size ≤ maxLen
theorem QRow.below {w w' : World} {v : Value} {qs : List Qn} (h : QRow w v qs) (hb : Below w.heap.size w w') : QRow w' v qs := ⟨h.1.below hb, h.2⟩
theorem RRow.below {w w' : World} {v : Value} {rs : List Rc} (h : RRow w v rs) (hb : Below w.heap.size w w') : RRow w' v rs := ⟨h.1.below hb, h.2⟩
theorem row_none {w : World} {v : Value} {xs : List Value} (h : Row w v 0 xs) : ∃ x c, v = .slice x 0 c := by
  rcases h with ⟨h, _⟩ | ⟨g, o, p, cap, h, _⟩
  · exact ⟨_, _, h⟩
  · exact ⟨_, _, h⟩
theorem row_at {w : World} {v : Value} {n : Nat} {xs : List Value} (h : Row w v n xs) (hn : 0 < n) : ∃ g o cap, v = .slice (some ⟨g, o, none⟩) n cap ∧ ∀ j u, xs[j]? = some u → w.cell? ⟨g, o + j, none⟩ = some u := by
  rcases h with ⟨_, h⟩ | ⟨g, o, p, cap, h, hp, hc⟩
  · omega
  · rw [hp hn] at h; exact ⟨g, o, cap, h, hc⟩
theorem row_slice {w : World} {v : Value} {n : Nat} {xs : List Value} (h : Row w v n xs) : ∃ x c, v = .slice x n c := by
  rcases h with ⟨h, rfl⟩ | ⟨g, o, p, cap, h, _⟩
  · exact ⟨_, _, h⟩
  · exact ⟨_, _, h⟩
theorem qC_at {xs : List Qn} {k : Nat} (hk : k < xs.length) (i : Nat) (hi : i < 3) : (qC xs)[k * 3 + i]? = (qV xs[k])[i]? := flat_get (f := qV) (z := 3) (fun _ => rfl) xs k hk i hi
theorem rC_at {xs : List Rc} {k : Nat} (hk : k < xs.length) (i : Nat) (hi : i < 5) : (rC xs)[k * 5 + i]? = (rV xs[k])[i]? := flat_get (f := rV) (z := 5) (fun _ => rfl) xs k hk i hi
/-- The cells of one element. -/
theorem q_cells {w : World} {g o : Nat} {xs : List Qn} (hc : ∀ j u, (qC xs)[j]? = some u → w.cell? ⟨g, o + j, none⟩ = some u) {k : Nat} (hk : k < xs.length) :
    w.cell? ⟨g, o + k * 3, none⟩ = some (.string xs[k].n) ∧ w.cell? ⟨g, o + k * 3 + 1, none⟩ = some (.int .i64 xs[k].t) ∧ w.cell? ⟨g, o + k * 3 + 2, none⟩ = some (.int .i64 xs[k].c) :=
  ⟨hc _ _ (qC_at hk 0 (by decide)), hc _ _ (qC_at hk 1 (by decide)), hc _ _ (qC_at hk 2 (by decide))⟩
theorem r_cells {w : World} {g o : Nat} {xs : List Rc} (hc : ∀ j u, (rC xs)[j]? = some u → w.cell? ⟨g, o + j, none⟩ = some u) {k : Nat} (hk : k < xs.length) :
    w.cell? ⟨g, o + k * 5, none⟩ = some (.string xs[k].n) ∧ w.cell? ⟨g, o + k * 5 + 1, none⟩ = some (.int .i64 xs[k].t) ∧ w.cell? ⟨g, o + k * 5 + 2, none⟩ = some (.int .i64 xs[k].c) ∧ w.cell? ⟨g, o + k * 5 + 3, none⟩ = some (.int .i64 xs[k].l) ∧ w.cell? ⟨g, o + k * 5 + 4, none⟩ = some (.string xs[k].d) :=
  ⟨hc _ _ (rC_at hk 0 (by decide)), hc _ _ (rC_at hk 1 (by decide)), hc _ _ (rC_at hk 2 (by decide)), hc _ _ (rC_at hk 3 (by decide)), hc _ _ (rC_at hk 4 (by decide))⟩
/-- A message as values. -/
def msgC (h : Hd) (v0 v1 v2 v3 : Value) : Array Value := #[.int .i64 h.id, .bool h.qr, .int .i64 h.op, .bool h.aa, .bool h.tc, .bool h.rd, .bool h.ra, .int .i64 h.z, .int .i64 h.rc, v0, v1, v2, v3]
/-- No message. -/
def hdZ : Hd := ⟨0, false, 0, false, false, false, false, 0, 0⟩
def msZ : Ms := ⟨hdZ, [], [], [], []⟩
theorem own_base {w : World} {B B' e z n : Nat} {v : Value} {xs : List Value} (h : w.ownsRow B e z v n xs) (hB : B' ≤ B) : w.ownsRow B' e z v n xs := by
  refine ⟨h.1, ?_⟩
  rcases h.2 with h1 | ⟨g, cap, cur, h1, h2, rest⟩
  · exact .inl h1
  · exact .inr ⟨g, cap, cur, h1, Nat.le_trans hB h2, rest⟩
theorem own_past {w w' : World} {B e z n : Nat} {v : Value} {xs : List Value} (h : w.ownsRow B e z v n xs) (hb : Below w.heap.size w w') : w'.ownsRow B e z v n xs := Turn.row (S := fun _ => False) (Turn.of_below hb) h (fun _ _ => id)
/-- A row that was laid as it is. -/
theorem Row.of_blk {w : World} {g : Nat} {C : Array Value} {t : TypeId} (h : Blk w g C t) {xs : List Value} (hx : C.toList = xs) (n cap : Nat) : Row w (.slice (some ⟨g, 0, none⟩) n cap) n xs := by
  refine .inr ⟨g, 0, none, cap, rfl, fun _ => rfl, fun j u hu => ?_⟩
  rw [Nat.zero_add, h.cell j, ← hu, ← hx]; simp
theorem Row.nil (w : World) (xs : List Value) : Row w (.slice none 0 0) 0 xs := .inl ⟨rfl, rfl⟩
theorem QRow.nil (w : World) : QRow w (.slice none 0 0) [] := ⟨Row.nil _ _, by decide, fun q h => by simp at h⟩
theorem RRow.nil (w : World) : RRow w (.slice none 0 0) [] := ⟨Row.nil _ _, by decide, fun q h => by simp at h⟩
theorem small100 {n : Nat} (h : n ≤ 100000) : n ≤ maxLen := by unfold maxLen; omega
theorem toArr_size (l : List UInt8) : (⟨l.toArray⟩ : ByteArray).size = l.length := by show l.toArray.size = _; simp
/-- Bytes of nought. -/
def zerosB (n : Nat) : ByteArray := ⟨(List.replicate n (0 : UInt8)).toArray⟩
theorem zerosB_size (n : Nat) : (zerosB n).size = n := by unfold zerosB; rw [toArr_size]; simp
/-- The cells at place f of each element are numbers. -/
def Ints (xs : List Value) (z f n : Nat) : Prop := ∀ j, j < n → ∃ t, xs[j * z + f]? = some (.int .i64 t)
theorem Ints.set {xs : List Value} {z f n : Nat} (h : Ints xs z f n) (i : Nat) (x : Int) : Ints (xs.set i (.int .i64 x)) z f n := by
  intro j hj
  obtain ⟨t, ht⟩ := h j hj
  by_cases e : i = j * z + f
  · subst e
    exact ⟨x, List.getElem?_set_self (List.getElem?_eq_some_iff.1 ht).1⟩
  · exact ⟨t, by rw [List.getElem?_set_ne e]; exact ht⟩
theorem own_len {w : World} {B e z n n0 k0 : Nat} {y : Option Addr} {xs : List Value} (h : w.ownsRow B e z (.slice y n0 k0) n xs) : n0 = n := by
  rcases h.2 with ⟨h1, h2⟩ | ⟨g, cap, cur, h1, _⟩
  · simp at h1; omega
  · simp at h1; exact h1.2.1
theorem own_apart {w : World} {B B' e e' z z' n n' : Nat} {v v' : Value} {xs xs' : List Value} (h : w.ownsRow B e z v n xs) (h' : w.ownsRow B' e' z' v' n' xs') (he : e ≠ e') {k : Nat} (hk : v.ownBlock = some k) : v'.ownBlock ≠ some k := by
  intro hk'
  rcases h.2 with ⟨h1, _⟩ | ⟨g, cap, cur, h1, _, hg, _⟩
  · rw [h1] at hk; simp [Value.ownBlock] at hk
  · rcases h'.2 with ⟨h2, _⟩ | ⟨g', cap', cur', h2, _, hg', _⟩
    · rw [h2] at hk'; simp [Value.ownBlock] at hk'
    · rw [h1] at hk
      rw [h2] at hk'
      simp [Value.ownBlock] at hk hk'
      subst hk hk'
      rw [hg] at hg'
      simp at hg'
      exact he hg'.2
theorem ext_to (s : ByteArray) (i : Nat) : (s.extract 0 i).data.toList = s.data.toList.take i := by rw [ext_list]; simp
theorem cut_to (s : ByteArray) (k : Nat) (c : Int) (hc : c = (k : Int)) (h : k ≤ s.size) (u : World) : (Instr.slice 9 (.string s) none (some (.int .i64 c)) none).run Try.prog u = .ok (.string (s.extract 0 k)) u := by
  subst hc
  have := run_slice_string_h (P := Try.prog) (w := u) (t := 9) (s := s) Try.underlying9 .i64 (k : Int) (by omega) (by omega)
  rw [this]; rfl
theorem int_cells : Try.prog.cellsOf 3 = 1 := by kernel_rfl
theorem bool_cells : Try.prog.cellsOf 4 = 1 := by kernel_rfl
/-- What is left where no message is given. -/
theorem blk13 {w : World} {g : Nat} {h : Hd} {v0 v1 v2 v3 : Value} {t : TypeId} (k : Blk w g (msgC h v0 v1 v2 v3) t) :
    w.cell? ⟨g, 0, none⟩ = some (.int .i64 h.id) ∧ w.cell? ⟨g, 1, none⟩ = some (.bool h.qr) ∧ w.cell? ⟨g, 2, none⟩ = some (.int .i64 h.op) ∧ w.cell? ⟨g, 3, none⟩ = some (.bool h.aa) ∧ w.cell? ⟨g, 4, none⟩ = some (.bool h.tc) ∧ w.cell? ⟨g, 5, none⟩ = some (.bool h.rd) ∧ w.cell? ⟨g, 6, none⟩ = some (.bool h.ra) ∧ w.cell? ⟨g, 7, none⟩ = some (.int .i64 h.z) ∧ w.cell? ⟨g, 8, none⟩ = some (.int .i64 h.rc) ∧
    w.cell? ⟨g, 9, none⟩ = some v0 ∧ w.cell? ⟨g, 10, none⟩ = some v1 ∧ w.cell? ⟨g, 11, none⟩ = some v2 ∧ w.cell? ⟨g, 12, none⟩ = some v3 :=
  ⟨k.cell 0, k.cell 1, k.cell 2, k.cell 3, k.cell 4, k.cell 5, k.cell 6, k.cell 7, k.cell 8, k.cell 9, k.cell 10, k.cell 11, k.cell 12⟩
theorem open13 {w : World} {g : Nat} {C : Array Value} {t : TypeId} (k : Blk w g C t) :
    w.frozen? ⟨g, 0, none⟩ = false ∧ w.frozen? ⟨g, 1, none⟩ = false ∧ w.frozen? ⟨g, 2, none⟩ = false ∧ w.frozen? ⟨g, 3, none⟩ = false ∧ w.frozen? ⟨g, 4, none⟩ = false ∧ w.frozen? ⟨g, 5, none⟩ = false ∧ w.frozen? ⟨g, 6, none⟩ = false ∧ w.frozen? ⟨g, 7, none⟩ = false ∧ w.frozen? ⟨g, 8, none⟩ = false ∧ w.frozen? ⟨g, 9, none⟩ = false ∧ w.frozen? ⟨g, 10, none⟩ = false ∧ w.frozen? ⟨g, 11, none⟩ = false ∧ w.frozen? ⟨g, 12, none⟩ = false :=
  ⟨k.frozen 0, k.frozen 1, k.frozen 2, k.frozen 3, k.frozen 4, k.frozen 5, k.frozen 6, k.frozen 7, k.frozen 8, k.frozen 9, k.frozen 10, k.frozen 11, k.frozen 12⟩

end Go.Proofs.Ytcmhjlflgedcdaa

/- Rows that are appended to each other; a region that draws its order; copies of strings. -/
namespace Go.Proofs.Ytcmhjlflgedcdaa
open Go.RowKit

/-- What an append reads of. -/
theorem Row.src {w : World} {v : Value} {n : Nat} {xs : List Value} (h : Row w v n xs) : ∃ x0 c, v = .slice x0 n c ∧ (n = 0 ∨ ∃ ad, x0 = some ad ∧ ∀ j u, xs[j]? = some u → w.cell? (ad.add j) = some u) := by
  by_cases hn : n = 0
  · subst hn
    obtain ⟨x, c, hv⟩ := row_none h
    exact ⟨x, c, hv, .inl rfl⟩
  · obtain ⟨g, o, cap, hv, hc⟩ := row_at h (by omega)
    refine ⟨_, _, hv, .inr ⟨_, rfl, fun j u hu => ?_⟩⟩
    have : (⟨g, o, none⟩ : Addr).add j = ⟨g, o + j, none⟩ := by unfold Addr.add; split <;> simp_all
    rw [this]
    exact hc j u hu
/-- How many have not come up. -/
def unl (l : List Bool) : Nat := (l.filter (fun b => !b)).length
theorem unl_set : ∀ (l : List Bool) (i : Nat), l[i]? = some false → unl (l.set i true) + 1 = unl l := by
  intro l
  induction l with
  | nil => intro i h; simp at h
  | cons b l ih =>
    intro i h
    cases i with
    | zero =>
      simp at h
      subst h
      simp [unl]
    | succ i =>
      have := ih i (by simpa using h)
      unfold unl at this ⊢
      cases b <;> simp [List.set_cons_succ] <;> simpa using this
theorem getD_false {l : Array Bool} {i : Nat} (h : l.getD i true = false) : l.toList[i]? = some false := by
  rw [Array.getD_eq_getD_getElem?] at h
  rw [Array.getElem?_toList]
  cases e : l[i]? with
  | none => rw [e] at h; simp at h
  | some b => rw [e] at h; simp at h; rw [h]
section
variable {P : Program} {md : Region.Mode} {ops : Array Oper} {Q : Exit → Act → World → Prop} {S : World → Prop}
/-- A region that draws its order: what holds behind each operation, whichever comes up. -/
theorem wpAnyH_inv (J : Array Bool → Act → World → Prop) (hS : ∀ l a w, J l a w → S w)
    (hstep : ∀ l a w, J l a w → ∀ i, l.getD i true = false → ∀ o, ops[i]? = some o → (∀ e ∈ o.after, Region.binds md e = true → l.getD e.on false = true) →
      ∀ K : Act → World → Prop, (∀ a' w', J (l.setIfInBounds i true) a' w' → K a' w') → if Region.wanted o (yielded ops a.tmps) = true then Oper.wp P o a w K Q else K (a.put o.dst undef) w)
    (hend : ∀ l a w, J l a w → Region.ready md ops l = [] → Q .normal a w) :
    ∀ fuel l a w, unl l.toList ≤ fuel → J l a w → wpAnyH P md ops Q S fuel l a w := by
  intro fuel
  induction fuel with
  | zero =>
    intro l a w hf hJ
    have hr : Region.ready md ops l = [] := by
      apply List.eq_nil_iff_forall_not_mem.2
      intro i hi
      have h1 := unl_set _ _ (getD_false (mem_ready.1 hi).1)
      omega
    exact ⟨hr, hend l a w hJ hr⟩
  | succ fuel ih =>
    intro l a w hf hJ
    refine ⟨hend l a w hJ, fun i hi => ?_⟩
    obtain ⟨hun, o, ho, hall⟩ := mem_ready.1 hi
    refine wpOp_step ho fun K hK => hstep l a w hJ i hun o ho hall K fun a' w' hJ' => hK a' w' ⟨hS _ _ _ hJ', ih _ a' w' ?_ hJ'⟩
    have h1 := unl_set _ _ (getD_false hun)
    rw [Array.toList_setIfInBounds]
    omega
end
theorem ready_nil {md : Region.Mode} {ops : Array Oper} {l : Array Bool} (htop : (List.range ops.size).all (fun i => ((ops[i]?).map (fun o => o.after.all (fun e => decide (e.on < i)))).getD true) = true) (hsz : l.size = ops.size) (hr : Region.ready md ops l = []) : ∀ i, l.getD i true = true := by
  intro i
  induction i using Nat.strongRecOn with
  | _ i ih =>
    cases hi : l.getD i true with
    | true => rfl
    | false =>
      have hlt : i < l.size := by
        rcases Nat.lt_or_ge i l.size with h | h
        · exact h
        · rw [Array.getD_eq_getD_getElem?, Array.getElem?_eq_none h] at hi
          simp at hi
      have ho : ops[i]? = some ops[i] := Array.getElem?_eq_getElem (by omega)
      have ht := List.all_eq_true.1 htop i (List.mem_range.2 (by omega))
      rw [ho] at ht
      simp only [Option.map_some, Option.getD_some, Array.all_eq_true_iff_forall_mem, decide_eq_true_eq] at ht
      have hm : i ∈ Region.ready md ops l := mem_ready.2 ⟨hi, _, ho, fun e he _ => by
        have h1 := ih e.on (ht e he)
        have h2 : e.on < l.size := by have := ht e he; omega
        rw [Array.getD_eq_getD_getElem?, Array.getElem?_eq_getElem h2] at h1 ⊢
        simpa using h1⟩
      rw [hr] at hm
      cases hm
/-- A row that a copy has: an empty one, or one that the call owns. -/
def CRow (B : Nat) (w : World) (e z : Nat) (v : Value) (n : Nat) (xs : List Value) : Prop := (n = 0 ∧ xs = [] ∧ ∃ g, v = .slice (some g) 0 0) ∨ w.ownsRow B e z v n xs
theorem CRow.below {B : Nat} {w w' : World} {e z : Nat} {v : Value} {n : Nat} {xs : List Value} (h : CRow B w e z v n xs) (hb : Below w.heap.size w w') : CRow B w' e z v n xs := h.imp id (fun o => own_past o hb)
theorem CRow.turn {B g : Nat} {w w' : World} {e z : Nat} {v : Value} {n : Nat} {xs : List Value} (h : CRow B w e z v n xs) (ht : Turn (fun k => k = g) w w') (hg : g < B) : CRow B w' e z v n xs := h.imp id (fun o => ht.row o (fun k hk e => by have := (o.lt k hk).1; omega))
theorem CRow.row {B : Nat} {w : World} {e z : Nat} {v : Value} {n : Nat} {xs : List Value} (h : CRow B w e z v n xs) : Row w v n xs := by
  rcases h with ⟨rfl, rfl, g, rfl⟩ | h
  · exact .inr ⟨g.block, g.off, g.spot, 0, rfl, fun h => by omega, fun j u hu => by simp at hu⟩
  · exact Row.of_own h
theorem grown_below {w w' : World} (h : w.grownBy w' none) : Below w.heap.size w w' := (Below.refl _ _).grown h (Nat.le_refl _) (fun _ e => by simp at e)
/-- A row is appended to an empty one without room. -/
theorem step_copy {P : Program} {ops : Array Oper} {o : Oper} {a : Act} {w : World} {K : Act → World → Prop} {Q : Exit → Act → World → Prop} {E : Prop}
    (hgd : o.guard = none) (s x : Operand) (t : TypeId) (ho : o.op = Op.call { callee := Callee.builtin Builtin.append, args := #[s, x], argTypes := #[t, t] })
    (B : Nat) (e : TypeId) (i : TypeInfo) (z : Value) (size bytes : Nat) (h1 : P.underlying t = some (.slice e)) (h2 : P.info? e = some i) (h3 : i.zero = some z) (h4 : i.size = size) (h5 : i.bytes = bytes) (h6 : z.cells.size = size) (h7 : 0 < size)
    (g : Addr) (hs : a.eval s = .slice (some g) 0 0) (v : Value) (n : Nat) (xs : List Value) (hx : a.eval x = v) (hrow : Row w v n xs) (hl : xs.length = n * size) (h1c : ∀ u ∈ xs, u.oneCell' = true) (hb : n * bytes ≤ 140737488355328) (hm : n ≤ maxLen) (hB : B ≤ w.heap.size)
    (hK : ∀ v' w', CRow B w' e size v' n xs → Below w.heap.size w w' → K (a.put o.dst v') w') :
    if Region.wanted o (yielded ops a.tmps) = true then Oper.wp P o a w K Q else E := by
  obtain ⟨x0, c, rfl, hc⟩ := hrow.src
  by_cases hn : n = 0
  · subst hn
    have hxs : xs = [] := List.eq_nil_of_length_eq_zero (by simpa using hl)
    subst hxs
    have hw : Region.wanted o (yielded ops a.tmps) = true := by simp [Region.wanted, hgd]
    rw [if_pos hw]
    have hsrc : Src P i.size t (.slice x0 0 c) 0 [] w := by
      cases x0 with
      | none => exact Src.ofNil w h1 c
      | some ad => exact Src.ofSlice w h1 ad 0 c [] (by simp) (fun j u hu => by simp at hu) (fun u hu => by cases hu)
    have hrun := run_append_nothing (P := P) w t t o.type e i h1 h2 (some g) 0 0 (Nat.le_refl _) _ hsrc
    unfold Oper.wp
    simp only [execOp, ho, resolve, invoke, builtin, Sem.run_bind, Sem.run_pure, Result.andThen_ok, List.map_toArray, List.map_cons, List.map_nil, hs, hx, hrun]
    exact hK _ w (.inl ⟨rfl, rfl, g, rfl⟩) (Below.refl _ _)
  · rcases hc with h0 | ⟨ad, rfl, hcell⟩
    · exact absurd h0 hn
    refine step_append_grows hgd s x t ho e i z size bytes h1 h2 h3 h4 h5 h6 h7 (some g) 0 0 [] hs (fun e => by cases e) (by simp) (fun b _ j u hu => by simp at hu) ad n c xs hx hl hcell h1c (by omega) (by omega) (by rw [Nat.zero_add]; exact hb) (fun v' w' ow gr => ?_)
    rw [Nat.zero_add, List.nil_append] at ow
    exact hK v' w' (.inr (own_base ow hB)) (grown_below gr)
/-- So many bytes of nought are made, and become a string. -/
theorem madeN (n : Nat) (hn : n ≤ 100000) : ∃ Zc : Array Value, (∀ u : World, (Instr.makeSlice 58 (.int .i64 (n : Int)) (.int .i64 (n : Int))).run Try.prog u = .ok (.slice (some ⟨u.heap.size, 0, none⟩) n n) (u.alloc (.cells Zc 5))) ∧
    ∀ (u : World), (convert 58 9 (.slice (some ⟨u.heap.size, 0, none⟩) n n)).run Try.prog (u.alloc (.cells Zc 5)) = .ok (.string (zerosB n)) (u.alloc (.cells Zc 5)) := by
  obtain ⟨i0, hi, hz0, hz1, hz2⟩ := info_parts info5
  refine ⟨((List.replicate n (0 : UInt8)).map bv).toArray, fun u => ?_, fun u => ?_⟩
  · have := run_make (P := Try.prog) u 58 5 i0 (.int .u8 0) Try.underlying58 hi hz0 .i64 .i64 (n : Int) (n : Int) (by omega) (by omega) (by rw [hz2]; omega) (by omega)
    rw [hz1, show (Value.int .u8 0).cells = #[.int .u8 0] from rfl, Nat.mul_one, Int.toNat_natCast, made_zero] at this
    exact this
  · have := conv_lit (List.replicate n 0) u
    rw [List.length_replicate] at this
    exact this

/-- Elements are appended to a row that the call owns, out of a row that lies anywhere; there may be none. -/
theorem wpList_appG (w : World) {ops : Array Oper} {rest : List Oper} {o : Oper} {a : Act} {Q : Exit → Act → World → Prop} (hgd : o.guard = none) (s x : Operand) (t e : TypeId) (i : TypeInfo) (z : Value) (size bytes : Nat)
    (h1 : Try.prog.underlying t = some (.slice e)) (h2 : Try.prog.info? e = some i) (h3 : i.zero = some z) (h4 : i.size = size) (h5 : i.bytes = bytes) (h6 : z.cells.size = size) (h7 : 0 < size)
    (ho : o.op = .call { callee := .builtin .append, args := #[s, x], argTypes := #[t, t] }) (base : Nat) (v : Value) (n : Nat) (xs : List Value) (hs : a.eval s = v) (hown : w.ownsRow base e size v n xs)
    (u : Value) (m : Nat) (ys : List Value) (hx : a.eval x = u) (hrow : Row w u m ys) (hl : ys.length = m * size) (h1c : ∀ y ∈ ys, y.oneCell' = true) (hb : (n + m) * bytes ≤ 140737488355328) (hm : n + m ≤ maxLen) (hbase : base ≤ w.heap.size)
    (h : ∀ v' w', w'.ownsRow base e size v' (n + m) (xs ++ ys) → w.grownBy w' v.ownBlock → (∀ k, v'.ownBlock = some k → v.ownBlock = some k ∨ w.heap.size ≤ k) → wpList Try.prog ops Q rest (a.put o.dst v') w') :
    wpList Try.prog ops Q (o :: rest) a w := by
  obtain ⟨x0, c, rfl, hc⟩ := hrow.src
  by_cases hm0 : m = 0
  · subst hm0
    have hys : ys = [] := List.eq_nil_of_length_eq_zero (by simpa using hl)
    subst hys
    refine wpList_plain hgd fun K hK => ?_
    have hsrc : Src Try.prog i.size t (.slice x0 0 c) 0 [] w := by
      cases x0 with
      | none => exact Src.ofNil w h1 c
      | some ad => exact Src.ofSlice w h1 ad 0 c [] (by simp) (fun j u hu => by simp at hu) (fun u hu => by cases hu)
    have hv : ∃ b l k, v = .slice b l k ∧ l ≤ k := by
      rcases hown.2 with ⟨rfl, rfl⟩ | ⟨g, cap, cur, rfl, _, _, hnc, _⟩
      · exact ⟨_, _, _, rfl, Nat.le_refl _⟩
      · exact ⟨_, _, _, rfl, hnc⟩
    obtain ⟨b, l, k, hv, hlk⟩ := hv
    have hrun := run_append_nothing (P := Try.prog) w t t o.type e i h1 h2 b l k hlk _ hsrc
    rw [← hv] at hrun
    unfold Oper.wp
    simp only [execOp, ho, resolve, invoke, builtin, Sem.run_bind, Sem.run_pure, Result.andThen_ok, List.map_toArray, List.map_cons, List.map_nil, hs, hx, hrun]
    exact hK _ _ (h v w (by simpa using hown) (World.grownBy.refl w _) (fun k hk => .inl hk))
  · rcases hc with h0 | ⟨ad, rfl, hcell⟩
    · exact absurd h0 hm0
    refine wpList_append_lies w hgd s x t ho base e i z size bytes h1 h2 h3 h4 h5 h6 h7 v n xs hs hown ad m c ys hx hl hcell h1c (by omega) hm (by omega) hbase _ rfl ?_
    intro g cap w' g1 g2 g3 g4
    refine h _ w' g1 g2 (fun k hk => ?_)
    rcases g3 with g3 | g3
    · exact .inl (by rw [g3]; exact hk)
    · have : k = g := by simp [Value.ownBlock] at hk; exact hk.symm
      exact .inr (by omega)

/-- The same in a region that draws its order. -/
theorem step_appG (w : World) {ops : Array Oper} {o : Oper} {a : Act} {K : Act → World → Prop} {Q : Exit → Act → World → Prop} {E : Prop} (hgd : o.guard = none) (s x : Operand) (t e : TypeId) (i : TypeInfo) (z : Value) (size bytes : Nat)
    (h1 : Try.prog.underlying t = some (.slice e)) (h2 : Try.prog.info? e = some i) (h3 : i.zero = some z) (h4 : i.size = size) (h5 : i.bytes = bytes) (h6 : z.cells.size = size) (h7 : 0 < size)
    (ho : o.op = .call { callee := .builtin .append, args := #[s, x], argTypes := #[t, t] }) (base : Nat) (v : Value) (n : Nat) (xs : List Value) (hs : a.eval s = v) (hown : w.ownsRow base e size v n xs)
    (u : Value) (m : Nat) (ys : List Value) (hx : a.eval x = u) (hrow : Row w u m ys) (hl : ys.length = m * size) (h1c : ∀ y ∈ ys, y.oneCell' = true) (hb : (n + m) * bytes ≤ 140737488355328) (hm : n + m ≤ maxLen) (hbase : base ≤ w.heap.size)
    (h : ∀ v' w', w'.ownsRow base e size v' (n + m) (xs ++ ys) → w.grownBy w' v.ownBlock → (∀ k, v'.ownBlock = some k → v.ownBlock = some k ∨ w.heap.size ≤ k) → K (a.put o.dst v') w') :
    if Region.wanted o (yielded ops a.tmps) = true then Oper.wp Try.prog o a w K Q else E := by
  have hw : Region.wanted o (yielded ops a.tmps) = true := by simp [Region.wanted, hgd]
  obtain ⟨x0, c, rfl, hc⟩ := hrow.src
  by_cases hm0 : m = 0
  · rw [if_pos hw]
    subst hm0
    have hys : ys = [] := List.eq_nil_of_length_eq_zero (by simpa using hl)
    subst hys
    have hsrc : Src Try.prog i.size t (.slice x0 0 c) 0 [] w := by
      cases x0 with
      | none => exact Src.ofNil w h1 c
      | some ad => exact Src.ofSlice w h1 ad 0 c [] (by simp) (fun j u hu => by simp at hu) (fun u hu => by cases hu)
    have hv : ∃ b l k, v = .slice b l k ∧ l ≤ k := by
      rcases hown.2 with ⟨rfl, rfl⟩ | ⟨g, cap, cur, rfl, _, _, hnc, _⟩
      · exact ⟨_, _, _, rfl, Nat.le_refl _⟩
      · exact ⟨_, _, _, rfl, hnc⟩
    obtain ⟨b, l, k, hv, hlk⟩ := hv
    have hrun := run_append_nothing (P := Try.prog) w t t o.type e i h1 h2 b l k hlk _ hsrc
    rw [← hv] at hrun
    unfold Oper.wp
    simp only [execOp, ho, resolve, invoke, builtin, Sem.run_bind, Sem.run_pure, Result.andThen_ok, List.map_toArray, List.map_cons, List.map_nil, hs, hx, hrun]
    exact h v w (by simpa using hown) (World.grownBy.refl w _) (fun k hk => .inl hk)
  · rcases hc with h0 | ⟨ad, rfl, hcell⟩
    · exact absurd h0 hm0
    refine step_append_lies w hgd s x t ho base e i z size bytes h1 h2 h3 h4 h5 h6 h7 v n xs hs hown ad m c ys hx hl hcell h1c (by omega) hm (by omega) hbase _ rfl ?_
    intro g cap w' g1 g2 g3 g4
    refine h _ w' g1 g2 (fun k hk => ?_)
    rcases g3 with g3 | g3
    · exact .inl (by rw [g3]; exact hk)
    · have : k = g := by simp [Value.ownBlock] at hk; exact hk.symm
      exact .inr (by omega)

/-- A block that was laid, as a row of the call's own. -/
theorem own_blk {w : World} {g B z n : Nat} {C : Array Value} {t : TypeId} {xs : List Value} (h : Blk w g C t) (hB : B ≤ g) (hx : C.toList = xs) (hl : xs.length = n * z) (hn : n ≤ maxLen) : w.ownsRow B t z (.slice (some ⟨g, 0, none⟩) n n) n xs := by
  have hs : C.size = n * z := by rw [← Array.length_toList, hx, hl]
  exact ⟨hl, .inr ⟨g, n, C, rfl, hB, h, Nat.le_refl _, hn, hs, by rw [← hx, List.take_of_length_le (by rw [Array.length_toList, hs]; exact Nat.le_refl _)]⟩⟩

end Go.Proofs.Ytcmhjlflgedcdaa

/- What Child and Fold of package rel give, for every argument. -/
namespace Go.Proofs.Ytcmhjlflgedcdaa
open Go.RowKit
open Pl

theorem child_no {x l : List UInt8} (h : x.length < 1 ∨ 63 < x.length ∨ isName l = false ∨ 255 < 1 + x.length + l.length) : childR x l = none := by
  unfold childR
  rw [if_neg]
  rintro ⟨h1, h2, h3, h4⟩
  rcases h with h | h | h | h
  · omega
  · omega
  · rw [h] at h3; simp at h3
  · omega

theorem str_cells (s : ByteArray) : Lib.strCells s = s.data.toList.map bv := rfl

theorem child_cells (x s : ByteArray) (h : x.size ≤ 63) : [] ++ [Value.int .u8 (x.size : Int)] ++ Lib.strCells x ++ Lib.strCells s = (UInt8.ofNat x.size :: (x.data.toList ++ s.data.toList)).map bv := by
  rw [str_cells, str_cells]
  simp [bv]
  omega

end Go.Proofs.Ytcmhjlflgedcdaa

/- What Fold of package rel gives, for every argument. -/
namespace Go.Proofs.Ytcmhjlflgedcdaa
open Go.RowKit
open Pl

/-- A block that a string's bytes were laid in: these bytes at its head, and nothing of them frozen. -/
def BRow (w : World) (g : Nat) (l : List UInt8) : Prop :=
  ∃ cur : Array Value, w.heap[g]? = some (.cells cur 5 (cur.size, cur.size + 1)) ∧ l.length ≤ cur.size ∧ ∀ j (h : j < l.length), cur[j]? = some (bv l[j])

theorem BRow.cell {w : World} {g : Nat} {l : List UInt8} (h : BRow w g l) (j : Nat) (hj : j < l.length) : w.cell? ⟨g, j, none⟩ = some (.int .u8 (l[j].toNat : Int)) := by
  obtain ⟨cur, h1, h2, h3⟩ := h
  rw [cell_of_row w g j cur 5 _ h1]
  exact h3 j hj
theorem BRow.frozen {w : World} {g : Nat} {l : List UInt8} (h : BRow w g l) (j : Nat) (hj : j < l.length) : w.frozen? ⟨g, j, none⟩ = false := by
  obtain ⟨cur, h1, h2, h3⟩ := h
  simp only [World.frozen?, h1]
  simp
  omega
theorem BRow.stored {w : World} {g : Nat} {l : List UInt8} (h : BRow w g l) (j : Nat) (hj : j < l.length) (b : UInt8) :
    BRow (w.setCell ⟨g, j, none⟩ (.int .u8 (b.toNat : Int))) g (l.set j b) ∧ w.grownBy (w.setCell ⟨g, j, none⟩ (.int .u8 (b.toNat : Int))) (some g) := by
  obtain ⟨cur, h1, h2, h3⟩ := h
  refine ⟨⟨cur.setIfInBounds j (.int .u8 (b.toNat : Int)), ?_, by simpa using h2, fun i hi => ?_⟩, ⟨rfl, rfl, rfl, by simp, fun k _ hk => heap_setCell_other w ⟨g, j, none⟩ k _ (fun e => hk (by simp [e]))⟩⟩
  · rw [setCell_eq_setRow w g j cur 5 _ _ h1, setRow_heap w g cur _ 5 _ h1]
    simp
  · simp only [List.length_set] at hi
    by_cases e : i = j
    · subst e
      rw [Array.getElem?_setIfInBounds_self_of_lt (by omega), List.getElem_set_self]
      rfl
    · rw [Array.getElem?_setIfInBounds_ne (by omega), List.getElem_set_ne (by omega)]
      exact h3 i hi
theorem BRow.kept {w w' : World} {g : Nat} {l : List UInt8} (h : BRow w g l) (e : w'.heap[g]? = w.heap[g]?) : BRow w' g l := by
  obtain ⟨cur, h1, h2, h3⟩ := h
  exact ⟨cur, by rw [e]; exact h1, h2, h3⟩

/-- A string's bytes are laid in a block of their own. -/
theorem wpList_bytesB (w : World) {ops : Array Oper} {rest : List Oper} {o : Oper} {a : Act} {Q : Exit → Act → World → Prop} (hgd : o.guard = none) (x : Operand)
    (ho : o.op = .convert 9 58 x) (s : ByteArray) (hx : a.eval x = .string s)
    (h : ∀ cap w', BRow w' w.heap.size s.data.toList → w.grownBy w' none → w'.heap.size = w.heap.size + 1 →
      wpList Try.prog ops Q rest (a.put o.dst (.slice (some ⟨w.heap.size, 0, none⟩) s.size cap)) w') : wpList Try.prog ops Q (o :: rest) a w := by
  refine wpList_plain hgd fun K hK => ?_
  have hr := run_bytes_of_string (P := Try.prog) w 9 58 5 s Try.underlying9 Try.underlying58 Try.underlying5
  unfold Oper.wp execOp
  simp only [ho, hx, Sem.run_bind, hr, Result.andThen_ok, Sem.run_pure]
  refine hK _ _ (h _ _ ⟨_, heap_alloc_last w.drew _, ?_, fun j hj => ?_⟩ ⟨rfl, rfl, rfl, by simp, fun k hk _ => Below.heap_alloc w.drew _ k hk⟩ (by simp))
  · unfold bytesRow
    simp
  · unfold bytesRow
    rw [Array.getElem?_append_left (by simpa using hj)]
    have hd : j < s.data.size := by simpa using hj
    rw [Array.getElem?_map, Array.getElem?_eq_getElem hd]
    rfl

/-- Such bytes become a string. -/
theorem wpList_stringC (w : World) {ops : Array Oper} {rest : List Oper} {o : Oper} {a : Act} {Q : Exit → Act → World → Prop} (hgd : o.guard = none) (x : Operand)
    (ho : o.op = .convert 58 9 x) (g n cap : Nat) (l : List UInt8) (hx : a.eval x = .slice (some ⟨g, 0, none⟩) n cap) (hn : l.length = n) (hrow : BRow w g l)
    (h : wpList Try.prog ops Q rest (a.put o.dst (.string ⟨l.toArray⟩)) w) : wpList Try.prog ops Q (o :: rest) a w := by
  refine wpList_plain hgd fun K hK => ?_
  subst hn
  have hr := run_convert_bytes_back w 58 9 5 ⟨g, 0, none⟩ cap l Try.underlying58 Try.underlying5 Try.underlying9 fun j hj => by
    have hadd : (⟨g, 0, none⟩ : Addr).add j = ⟨g, j, none⟩ := by unfold Addr.add; split <;> simp_all
    rw [hadd]
    exact hrow.cell j hj
  unfold Oper.wp execOp
  simp only [ho, hx, Sem.run_bind, hr, Result.andThen_ok, Sem.run_pure]
  exact hK _ _ h

/-- Bytes, the first k of them folded. -/
def foldK (l : List UInt8) (k : Nat) : List UInt8 := foldL (l.take k) ++ l.drop k
theorem foldK_zero (l : List UInt8) : foldK l 0 = l := by simp [foldK, foldL]
theorem foldK_all (l : List UInt8) (k : Nat) (h : l.length ≤ k) : foldK l k = foldL l := by unfold foldK; rw [List.take_of_length_le h, List.drop_of_length_le h, List.append_nil]
theorem foldK_len (l : List UInt8) (k : Nat) : (foldK l k).length = l.length := by simp [foldK, foldL]; omega
theorem foldK_at (l : List UInt8) (k : Nat) (h : k < l.length) : (foldK l k)[k]'(by rw [foldK_len]; exact h) = l[k] := by
  unfold foldK
  rw [List.getElem_append_right (by simp [foldL]; omega), List.getElem_drop]
  congr 1
  simp [foldL]
  omega
theorem foldK_set (l : List UInt8) (k : Nat) (h : k < l.length) : (foldK l k).set k (fb l[k]) = foldK l (k + 1) := by
  unfold foldK
  have hk : (foldL (l.take k)).length = k := by simp [foldL]; omega
  rw [List.set_append_right _ _ (by omega), hk, Nat.sub_self, List.drop_eq_getElem_cons h, List.set_cons_zero, List.take_succ_eq_append_getElem h]
  unfold foldL
  rw [List.map_append, List.append_assoc]
  rfl

theorem foldR_yes {l : List UInt8} (h : isName l = true) : foldR l = foldL l := by unfold foldR; rw [if_pos h]
theorem foldR_no {l : List UInt8} (h : isName l = false) : foldR l = [] := by unfold foldR; rw [if_neg (by rw [h]; simp)]

theorem ret_str {a b : ByteArray} (h : a = b) : Ending.returned (.string a) = .returned (.string b) := by rw [h]

set_option maxRecDepth 20000 in
set_option maxHeartbeats 1000000 in
theorem fold_any (s : ByteArray) (w : World) (hs : s.size ≤ maxLen) :
    Calls Try.prog 45 #[.string s] w fun e w' => e = .returned (.string ⟨(foldR s.data.toList).toArray⟩) ∧ Below w.heap.size w w' := by
  cases h : isName s.data.toList with
  | false =>
    rw [foldR_no h]
    go_enter Try.func45, Try.ntmps45
    go_wp2_with (go_at_call 44; refine (may_as _ false _ hs h).mono ?_; rintro e w' ⟨rfl, hw⟩; obtain rfl := hw.symm)
    go_ret
    exact ⟨rfl, Below.refl _ _⟩
  | true =>
    rw [foldR_yes h]
    have h255 := name_size h
    have hl := data_len s
    go_enter Try.func45, Try.ntmps45
    go_wp2_with (first
      | (go_at_call 44; refine (may_as _ true _ hs h).mono ?_; rintro e w' ⟨rfl, hw⟩; obtain rfl := hw.symm)
      | (refine wpList_bytesB _ rfl (.tmp 9) rfl s rfl ?_; intro cap w1 hrow hg hsz))
    have hb1 := below_of hg
    go_loopw [13] (fun i wr => ∃ (k : Nat), k ≤ s.size ∧ i = .int .i64 k ∧ Hid (BRow wr w.heap.size (foldK s.data.toList k)) ∧ Below w.heap.size w wr ∧ w.heap.size < wr.heap.size) (fun i _ => s.size - (intOf i).toNat)
    case atStart => exact ⟨0, Nat.zero_le _, rfl, by unfold Hid; rw [foldK_zero]; exact hrow, hb1, by omega⟩
    case round =>
      clear hrow hg hsz hb1
      obtain ⟨k, hk, rfl, HR, hbel, hlt⟩ := hrel
      by_cases hks : k < s.size
      · have hkl : k < s.data.toList.length := by omega
        have hkl2 : k < (foldK s.data.toList k).length := by rw [foldK_len]; exact hkl
        have hcell : wr.cell? ⟨w.heap.size, k, none⟩ = some (.int .u8 (s[k].toNat : Int)) := by
          rw [HR.out.cell k hkl2, foldK_at _ _ hkl]; rfl
        have hfro := HR.out.frozen k hkl2
        have hst := HR.out.stored k hkl2 (fb s[k])
        rw [show s[k] = s.data.toList[k] from rfl, foldK_set _ _ hkl] at hst
        have HS : Hid (BRow (wr.setCell ⟨w.heap.size, k, none⟩ (.int .u8 ((fb s[k]).toNat : Int))) w.heap.size (foldK s.data.toList (k + 1)) ∧ wr.grownBy (wr.setCell ⟨w.heap.size, k, none⟩ (.int .u8 ((fb s[k]).toNat : Int))) (some w.heap.size)) := hst
        clear hst
        have hks2 : (k : Int) < (s.size : Int) := by omega
        go_wp2_with (go_at_call 54; go_must (refine (foldByte_any _ _).mono ?_); rintro e w' ⟨rfl, hw⟩; obtain rfl := hw.symm)
        go_roundw
        case rel => exact ⟨k + 1, by omega, by go_num, HS.out.1, hbel.grown HS.out.2 hbel.size (fun j e => by have := Option.some.inj e; omega), Nat.lt_of_lt_of_le hlt HS.out.2.size⟩
        case measure => simp [intOf]; omega
      · have HA : Hid (BRow wr w.heap.size (foldL s.data.toList)) := by unfold Hid; rw [← foldK_all s.data.toList k (by omega)]; exact HR
        have hn : (foldL s.data.toList).length = s.size := by rw [fold_len]; exact hl
        have HNN : Hid ((foldL s.data.toList).length = s.size) := hn
        clear hn
        go_wp2_with (refine wpList_stringC _ rfl (.tmp 24) rfl w.heap.size s.size cap (foldL s.data.toList) rfl HNN.out HA.out ?_)
        go_ret
        exact ⟨rfl, hbel⟩

end Go.Proofs.Ytcmhjlflgedcdaa

/- What places, May, Count and plain of the document's answers give, for every string. -/
namespace Go.Proofs.Ytcmhjlflgedcdaa
open Go.RowKit
open Pl

/-- A place as a cell. -/
def iv (n : Nat) : Value := .int .i64 (n : Int)

theorem info3 : (Try.prog.info? 3).map (fun i => (i.zero, i.size, i.bytes)) = some (some (.int .i64 0), 1, 8) := by kernel_rfl

/-- Numbers that have just been laid in a block of their own are appended to a row of numbers that the call owns. -/
theorem wpList_appI {w0 : World} {ops : Array Oper} {rest : List Oper} {o : Oper} {a : Act} {Q : Exit → Act → World → Prop} (hgd : o.guard = none) (s x : Operand)
    (ho : o.op = .call { callee := .builtin .append, args := #[s, x], argTypes := #[57, 57] }) (w : World) (L : List Value) (hw : w0 = w.alloc (.cells L.toArray 3)) (base : Nat) (v : Value) (n : Nat) (xs : List Value) (hs : a.eval s = v) (hown : w.ownsRow base 3 1 v n xs)
    (hx : a.eval x = .slice (some ⟨w.heap.size, 0, none⟩) L.length L.length) (hL : ∀ u ∈ L, ∃ z, u = .int .i64 z) (hm : 0 < L.length) (hn : n + L.length ≤ 10000000000000) (hbase : base ≤ w.heap.size)
    (h : ∀ g cap w', w'.ownsRow base 3 1 (.slice (some ⟨g, 0, none⟩) (n + L.length) cap) (n + L.length) (xs ++ L) → w.grownBy w' v.ownBlock → (v.ownBlock = some g ∨ w.heap.size ≤ g) → g < w'.heap.size →
      wpList Try.prog ops Q rest (a.put o.dst (.slice (some ⟨g, 0, none⟩) (n + L.length) cap)) w') : wpList Try.prog ops Q (o :: rest) a w0 := by
  subst hw
  obtain ⟨i0, hi, hz0, hz1, hz2⟩ := info_parts info3
  refine wpList_append_lies _ hgd s x 57 ho base 3 i0 (.int .i64 0) 1 8 Try.underlying57 hi hz0 hz1 hz2 rfl (by decide) v n xs hs (hown.alloc _) ⟨w.heap.size, 0, none⟩ L.length L.length L hx (by omega)
    (by simpa using World.news_of_block (heap_alloc_new w (.cells L.toArray 3))) (fun u hu => by obtain ⟨z, rfl⟩ := hL u hu; rfl) hm (by unfold maxLen; omega) (by omega) (by simp; omega) (w.heap.size + 1) (by simp) ?_
  intro g cap w' h1 h2 h3 h4
  refine h g cap w' h1 ?_ (h3.imp id (fun e => by omega)) h4
  refine ⟨h2.os, h2.tape, h2.output, ?_, fun k hk hne => ?_⟩
  · have := h2.size; simp at this; omega
  · exact (h2.block k (by simp; omega) hne).trans (Below.heap_alloc w _ k hk)

/-- What places leaves. -/
def PlPost (l : List UInt8) (w w' : World) (v : Value) : Prop :=
  isName l = true → ∃ g cap qs, v = .slice (some ⟨g, 0, none⟩) qs.length cap ∧ Places l qs ∧ w'.ownsRow w.heap.size 3 1 (.slice (some ⟨g, 0, none⟩) qs.length cap) qs.length (qs.map iv)

theorem pl_no {l : List UInt8} {w w' : World} {v : Value} (h : nm l = none) (hb : Below w.heap.size w w') : ∃ v', Ending.returned (.tuple #[v, .bool false]) = .returned (.tuple #[v', .bool (isName l)]) ∧ Below w.heap.size w w' ∧ PlPost l w w' v' := by
  have hn : isName l = false := by unfold isName; rw [h]; rfl
  exact ⟨v, by rw [hn], hb, fun e => by rw [hn] at e; simp at e⟩

theorem pl_yes {l : List UInt8} {w w' : World} {g cap n p : Nat} {qs : List Nat} (hn : n = qs.length) (hown : w'.ownsRow w.heap.size 3 1 (.slice (some ⟨g, 0, none⟩) (n + 1) cap) (n + 1) (qs.map iv ++ [.int .i64 (p : Int)])) (h : isName l = true ∧ Places l (qs ++ [p])) (hb : Below w.heap.size w w') :
    ∃ v', Ending.returned (.tuple #[.slice (some ⟨g, 0, none⟩) (n + 1) cap, .bool true]) = .returned (.tuple #[v', .bool (isName l)]) ∧ Below w.heap.size w w' ∧ PlPost l w w' v' := by
  subst hn
  refine ⟨_, by rw [h.1], hb, fun _ => ⟨g, cap, qs ++ [p], by simp, h.2, ?_⟩⟩
  have e : (qs ++ [p]).map iv = qs.map iv ++ [.int .i64 (p : Int)] := by simp [iv]
  rw [e, show (qs ++ [p]).length = qs.length + 1 from by simp]
  exact hown

theorem pl_next {w : World} {B n p : Nat} {v : Value} {qs : List Nat} (h : w.ownsRow B 3 1 v n (qs.map iv ++ [.int .i64 (p : Int)])) : w.ownsRow B 3 1 v n ((qs ++ [p]).map iv) := by
  rw [show (qs ++ [p]).map iv = qs.map iv ++ [.int .i64 (p : Int)] from by simp [iv]]; exact h

set_option maxRecDepth 20000 in
set_option maxHeartbeats 1000000 in
theorem places_any (s : ByteArray) (w : World) (hs : s.size ≤ maxLen) :
    Calls Try.prog 42 #[.string s] w fun e w' => ∃ v, e = .returned (.tuple #[v, .bool (isName s.data.toList)]) ∧ Below w.heap.size w w' ∧ PlPost s.data.toList w w' v := by
  unfold maxLen at hs
  have hl := data_len s
  by_cases h : s.size ≤ 255
  · go_enter Try.func42, Try.ntmps42
    go_wp2
    go_loopw [4, 5] (fun v i wr => ∃ (p n : Nat) (qs : List Nat), n ≤ p ∧ p ≤ 400 ∧ i = .int .i64 p ∧ n = qs.length ∧ wr.ownsRow w.heap.size 3 1 v n (qs.map iv) ∧ Below w.heap.size w wr ∧ Hid (At s.data.toList p n) ∧ Hid (LbSteps s.data.toList (qs ++ [p]))) (fun _ i _ => s.size - (intOf i).toNat)
    case atStart => exact ⟨0, 0, [], Nat.zero_le _, by omega, rfl, rfl, World.ownsRow_nil _ _ _ _, Below.refl _ _, at_start _, steps_start _⟩
    case round =>
      obtain ⟨p, n, qs, hnp, hp4, rfl, hnq, hown, hbel, hat, hst⟩ := hrel
      have HNQ : Hid (n = qs.length) := hnq
      clear hnq
      have hB : w.heap.size ≤ wr.heap.size := hbel.size
      have hn := nm_short (l := s.data.toList) (by omega)
      have HN : Hid (nm s.data.toList = nmS 0 s.data.toList) := hn
      clear hn
      by_cases hlt : p < s.size
      · have hb := UInt8.toNat_lt (s[p])
        have hlt' : p < s.data.toList.length := by omega
        by_cases h0 : ((s[p].toNat : Int) == 0) = true
        · have hz : s[p].toNat = 0 := by simpa using h0
          have HZ : Hid (s[p].toNat = 0) := hz
          clear hz
          by_cases he : (((p : Int) + 1) == (s.size : Int)) = true
          · have HP : Hid (isName s.data.toList = true ∧ Places s.data.toList (qs ++ [p])) := places_end hst.out (by rw [← HNQ.out]; exact hat.out) (by omega) hlt' HZ.out (by simp at he; omega)
            go_wp2_with (at_builtin; refine wpList_appI rfl _ _ rfl _ _ rfl w.heap.size _ _ _ rfl hown rfl (by simp) (by simp) (by simp; omega) hB ?_; intro g cap w2 h1 h2 h3 h4)
            have hbel2 := hbel.grown h2 hB (fun k e => (hown.lt k e).1)
            go_ret2
            exact pl_yes HNQ.out h1 HP.out hbel2
          · have HE : Hid (nm s.data.toList = none) := by
              unfold Hid; rw [HN.out, at_end hat.out hlt' HZ.out, if_neg (by simp at he; omega)]
            go_wp2_with (at_builtin; refine wpList_appI rfl _ _ rfl _ _ rfl w.heap.size _ _ _ rfl hown rfl (by simp) (by simp) (by simp; omega) hB ?_; intro g cap w2 h1 h2 h3 h4)
            have hbel2 := hbel.grown h2 hB (fun k e => (hown.lt k e).1)
            go_ret2
            exact pl_no HE.out hbel2
        · have hz : s[p].toNat ≠ 0 := by simpa using h0
          by_cases h63 : s[p].toNat ≤ 63
          · have HE : Hid (At s.data.toList (p + (1 + s[p].toNat)) (n + 1)) := at_step hat hlt' hz h63
            have HSS : Hid (LbSteps s.data.toList (qs ++ [p] ++ [p + 1 + s[p].toNat])) := steps_next hst hlt' hz
            go_wp2_with (at_builtin; refine wpList_appI rfl _ _ rfl _ _ rfl w.heap.size _ _ _ rfl hown rfl (by simp) (by simp) (by simp; omega) hB ?_; intro g cap w2 h1 h2 h3 h4)
            go_roundw
            case rel => exact ⟨p + 1 + s[p].toNat, n + 1, qs ++ [p], by omega, by omega, by go_num, by simp [HNQ.out], pl_next h1, hbel.grown h2 hB (fun k e => (hown.lt k e).1), by rw [show p + 1 + s[p].toNat = p + (1 + s[p].toNat) from by omega]; exact HE, HSS⟩
            case measure => simp [intOf]; omega
          · have HE : Hid (nm s.data.toList = none) := HN.out.trans (at_great hat hlt' (by show 63 < s[p].toNat; omega))
            go_wp2_with (at_builtin; refine wpList_appI rfl _ _ rfl _ _ rfl w.heap.size _ _ _ rfl hown rfl (by simp) (by simp) (by simp; omega) hB ?_; intro g cap w2 h1 h2 h3 h4)
            have hbel2 := hbel.grown h2 hB (fun k e => (hown.lt k e).1)
            go_ret2
            exact pl_no HE.out hbel2
      · have HE : Hid (nm s.data.toList = none) := HN.out.trans (at_past hat (by omega))
        go_wp2
        go_ret2
        exact pl_no HE.out hbel
  · have HE : Hid (nm s.data.toList = none) := by unfold Hid nm; rw [if_pos (by omega)]
    go_enter Try.func42, Try.ntmps42
    go_wp2
    refine wp_loop_rounds 1 ?_
    rw [rounds_succ]
    go_wp2
    all_goals go_ret2
    all_goals exact pl_no HE.out (Below.refl _ _)

theorem cnt_none' {l : List UInt8} (h : isName l = false) : cnt l = 0 := by
  unfold isName at h
  unfold cnt
  cases hn : nm l with
  | none => rfl
  | some n => rw [hn] at h; simp at h

theorem refMay_any (s : ByteArray) (w : World) (hs : s.size ≤ maxLen) :
    Calls Try.prog 24 #[.string s] w fun e w' => e = .returned (.bool (isName s.data.toList)) ∧ Below w.heap.size w w' := by
  go_enter Try.func24, Try.ntmps24
  go_wp2_with (go_at_call 42; refine (places_any _ _ hs).mono ?_; rintro e w' ⟨v, rfl, hb, hp⟩)
  go_ret
  exact ⟨rfl, hb⟩


end Go.Proofs.Ytcmhjlflgedcdaa

/- The contracts of package rel with their answers named; what awake gives: true. -/
namespace Go.Proofs.Ytcmhjlflgedcdaa
open Go.RowKit
open Pl

theorem fold_as (s t : ByteArray) (w : World) (hs : s.size ≤ maxLen) (h : foldR s.data.toList = t.data.toList) :
    Calls Try.prog 45 #[.string s] w fun e w' => e = .returned (.string t) ∧ Below w.heap.size w w' := by
  have := fold_any s w hs
  rw [h] at this
  exact this
theorem compare_as (a b : ByteArray) (c : Int) (w : World) (ha : a.size ≤ maxLen) (hb : b.size ≤ maxLen) (h : cmpN a.data.toList b.data.toList = c) :
    Calls Try.prog 51 #[.string a, .string b] w fun e w' => e = .returned (.int .i64 c) ∧ Below w.heap.size w w' := by rw [← h]; exact compare_any a b w ha hb
theorem refMay_as (s : ByteArray) (b : Bool) (w : World) (hs : s.size ≤ maxLen) (h : isName s.data.toList = b) :
    Calls Try.prog 24 #[.string s] w fun e w' => e = .returned (.bool b) ∧ Below w.heap.size w w' := by rw [← h]; exact refMay_any s w hs

abbrev kA : ByteArray := ⟨#[3, 87, 87, 87, 1, 99, 0]⟩
abbrev kB : ByteArray := ⟨#[1, 67, 0]⟩
abbrev kC : ByteArray := ⟨#[1, 99, 0]⟩
abbrev kX : ByteArray := ⟨#[120]⟩
abbrev kY : ByteArray := ⟨#[1, 120, 1, 67, 0]⟩
abbrev kF : ByteArray := ⟨#[3, 119, 119, 119, 1, 99, 0]⟩
abbrev kR : ByteArray := ⟨#[0]⟩

theorem q1 : parR kA.data.toList = some kC.data.toList := by decide +kernel
theorem q2 : lastR kA.data.toList 1 = some kC.data.toList := by decide +kernel
theorem q3 : childR kX.data.toList kB.data.toList = some kY.data.toList := by decide +kernel
theorem q4 : parR kR.data.toList = none := by decide +kernel
theorem q5 : foldR kA.data.toList = kF.data.toList := by decide +kernel
theorem q6 : sameB kB.data.toList kC.data.toList = true := by decide +kernel
theorem q7 : aboveB kB.data.toList kA.data.toList = true := by decide +kernel
theorem q8 : aboveB kA.data.toList kB.data.toList = false := by decide +kernel
theorem q9 : cmpN kA.data.toList kB.data.toList = 1 := by decide +kernel
theorem q10 : cmpN kB.data.toList kB.data.toList = 0 := by decide +kernel
theorem sz {s : ByteArray} (h : s.size ≤ 1000) : s.size ≤ maxLen := by unfold maxLen; omega

end Go.Proofs.Ytcmhjlflgedcdaa

/- Rules that the order of names and what is above what keep: plain facts on bytes, with no word of the program. -/
namespace Go.Proofs.Ytcmhjlflgedcdaa.Pl

theorem cmp_three (a b : List UInt8) : -1 ≤ cmpN a b ∧ cmpN a b ≤ 1 := by
  rcases cmp_ord.three (fl a) (fl b) with h | h | h <;> (unfold cmpN; omega)
theorem cmp_anti (a b : List UInt8) : cmpN b a = - cmpN a b := cmp_ord.anti _ _
theorem cmp_trans {a b c : List UInt8} (h1 : cmpN a b ≤ 0) (h2 : cmpN b c ≤ 0) : cmpN a c ≤ 0 := cmp_ord.trans _ _ _ h1 h2
theorem cmp_self (a : List UInt8) : cmpN a a = 0 := (cmp_zero a a).2 rfl
theorem same_cmp {a b : List UInt8} (ha : isName a = true) (hb : isName b = true) : sameB a b = (cmpN a b == 0) := by
  rw [Bool.eq_iff_iff, same_iff]
  simp [ha, hb, cmp_zero]
theorem above_root {a : List UInt8} (ha : isName a = true) : aboveB [0] a = true := by
  rw [above_iff]
  refine ⟨root_name, ha, ?_⟩
  unfold fl
  rw [root_labs]
  exact List.nil_prefix
theorem same_fold {a : List UInt8} (ha : isName a = true) : sameB a (foldL a) = true := by
  rw [same_iff]
  exact ⟨ha, by rw [name_fold]; exact ha, (fl_fold a).symm⟩
theorem above_trans {a b c : List UInt8} (h1 : aboveB a b = true) (h2 : aboveB b c = true) : aboveB a c = true := by
  rw [above_iff] at *
  exact ⟨h1.1, h2.2.1, h1.2.2.trans h2.2.2⟩
theorem above_self {a : List UInt8} (ha : isName a = true) : aboveB a a = true := by
  rw [above_iff]; exact ⟨ha, ha, List.prefix_refl _⟩

/-- A label ahead of a name. -/
theorem child_some {x l t : List UInt8} (h : childR x l = some t) : isName l = true ∧ isName t = true ∧ labs t = x :: labs l ∧ t.length = 1 + x.length + l.length ∧ 1 ≤ x.length ∧ x.length ≤ 63 ∧ t.length ≤ 255 := by
  unfold childR at h
  split at h
  · rename_i hc
    obtain ⟨h1, h2, h3, h4⟩ := hc
    have ht := (Option.some.inj h).symm
    obtain ⟨e1, e2, e3, e4⟩ := enc_of h3
    have e5 : t = enc (x :: labs l) := by rw [ht, enc_cons, ← e1]
    have hg : GoodL (x :: labs l) := by
      intro y hy
      rcases List.mem_cons.1 hy with rfl | hy
      · exact ⟨h1, h2⟩
      · exact e2 y hy
    have hlen : t.length = 1 + x.length + l.length := by rw [ht]; simp; omega
    have := name_enc hg (by rw [← e5, hlen]; exact h4)
    rw [← e5] at this
    exact ⟨h3, this.1, this.2.2, hlen, h1, h2, by omega⟩
  · simp at h

theorem child_par {x l t : List UInt8} (h : childR x l = some t) : parR t = some l := by
  obtain ⟨h1, h2, h3, _⟩ := child_some h
  unfold parR
  rw [if_pos ⟨h2, by rw [h3]; simp⟩, h3]
  simp
  exact (enc_of h1).1.symm
theorem child_fl {x l t : List UInt8} (h : childR x l = some t) : fl t = fl l ++ [foldL x] := by
  obtain ⟨_, _, h3, _⟩ := child_some h
  unfold fl
  rw [h3]; simp
theorem child_above {x l t : List UInt8} (h : childR x l = some t) : aboveB l t = true := by
  obtain ⟨h1, h2, _⟩ := child_some h
  rw [above_iff]
  refine ⟨h1, h2, ?_⟩
  rw [child_fl h]
  exact List.prefix_append _ _
theorem child_below {x l t : List UInt8} (h : childR x l = some t) : aboveB t l = false := by
  obtain ⟨h1, h2, h3, _⟩ := child_some h
  exact above_few (by rw [h3]; simp)
theorem child_cmp {x l t : List UInt8} (h : childR x l = some t) : cmpN l t = -1 := by
  unfold cmpN
  rw [child_fl h]
  exact lexG_more ord_ord _ _ (by simp)

end Go.Proofs.Ytcmhjlflgedcdaa.Pl

/- What Fold, last, Same, Above, Parent, Last and Child of the document's answers give, for every argument. -/
namespace Go.Proofs.Ytcmhjlflgedcdaa
open Go.RowKit
open Pl

theorem foldK_still {l : List UInt8} {k : Nat} (h : k < l.length) (hb : fb l[k] = l[k]) : foldK l (k + 1) = foldK l k := by
  rw [← foldK_set l k h, hb]
  apply List.ext_getElem (by simp)
  intro j h1 h2
  rw [List.getElem_set]
  split
  · rename_i e; subst e; rw [foldK_at l _ h]
  · rfl

theorem refFold_no (s : ByteArray) (w : World) (hs : s.size ≤ maxLen) (h : isName s.data.toList = false) :
    Calls Try.prog 27 #[.string s] w fun e w' => e = .returned (.string ⟨(foldR s.data.toList).toArray⟩) ∧ Below w.heap.size w w' := by
  rw [foldR_no h]
  go_enter Try.func27, Try.ntmps27
  go_wp2_with (go_at_call 42; refine (places_any _ _ hs).mono ?_; rintro e w' ⟨v, rfl, hb, hp⟩)
  go_ret
  exact ⟨rfl, hb⟩

/-- The place of a name's label, and the label's length there. -/
theorem name_at {s : ByteArray} (h : isName s.data.toList = true) (i : Nat) (hi : i < (labs s.data.toList).length) :
    ∃ hp : pos (labs s.data.toList) i < s.data.toList.length, (s.data.toList[pos (labs s.data.toList) i]'hp).toNat ≤ 63 := by
  obtain ⟨e1, e2, _, _⟩ := enc_of h
  have hp : pos (labs s.data.toList) i < s.data.toList.length := by have := pos_in h i; rw [data_len]; exact this
  refine ⟨hp, ?_⟩
  have h1 := pos_at (labs s.data.toList) i hi
  have e : ∀ (a b : List UInt8) (k : Nat) (ha : k < a.length) (hb : k < b.length), a = b → a[k] = b[k] := by
    intro a b k ha hb e; subst e; rfl
  rw [e _ _ _ hp (pos_lt _ _) e1, h1, len_byte (e2 _ (List.getElem_mem _)).2]
  exact (e2 _ (List.getElem_mem _)).2

set_option maxRecDepth 20000 in
set_option maxHeartbeats 2000000 in
theorem refFold_yes (s : ByteArray) (w : World) (h : isName s.data.toList = true) :
    Calls Try.prog 27 #[.string s] w fun e w' => e = .returned (.string ⟨(foldR s.data.toList).toArray⟩) ∧ Below w.heap.size w w' := by
  rw [foldR_yes h]
  have h255 := name_size h
  have hsl := data_len s
  have hs : s.size ≤ maxLen := by unfold maxLen; omega
  have h127 := few h
  go_enter Try.func27, Try.ntmps27
  go_wp2_with (first
    | (go_at_call 42; refine (places_any _ _ hs).mono ?_; rintro e w1 ⟨v, rfl, hb1, hp⟩; obtain ⟨gp, cap, qs, rfl, hpl, hown⟩ := hp h; obtain ⟨n, hn⟩ : ∃ n, n = qs.length := ⟨_, rfl⟩; rw [← hn] at hown ⊢; have hq := places_pos h hpl; have HN : Hid (n = (labs s.data.toList).length + 1) := hn.trans hq.1; have HNQ : Hid (n = qs.length) := hn; have HQ : Hid (∀ i, i ≤ (labs s.data.toList).length → qs.getD i 0 = pos (labs s.data.toList) i) := hq.2; have hn3 : n ≤ 128 := (by have := hn.trans hq.1; omega); have hn4 : 1 ≤ n := (by have := hn.trans hq.1; omega); clear hp hpl hn hq)
    | (refine wpList_bytesB _ rfl (.tmp 15) rfl s rfl ?_; intro cap2 w2 hrow hg hsz))
  have hgl1 : gp < w1.heap.size := (hown.lt gp rfl).2
  have hgb : w.heap.size ≤ gp := (hown.lt gp rfl).1
  have hpc : ∀ j, j < n → w2.cell? ⟨gp, j, none⟩ = some (.int .i64 (pos (labs s.data.toList) j : Nat)) := fun j hj => by
    have e : w1.cell? ⟨gp, j, none⟩ = some (.int .i64 (pos (labs s.data.toList) j : Nat)) := by
      rw [hown.cellAt j (by omega)]
      have hj' : j < qs.length := by rw [← HNQ.out]; exact hj
      rw [← HQ.out j (by have := HN.out; omega)]
      simp [hj', iv]
    exact hg.cell e (by simp)
  have hb2 : Below w.heap.size w w2 := next hb1 (below_of hg)
  obtain ⟨go, hgo⟩ : ∃ go, go = w1.heap.size := ⟨_, rfl⟩
  rw [← hgo] at hrow ⊢
  have hne : gp ≠ go := by omega
  have hgo2 : w.heap.size ≤ go := by omega
  have HROW : Hid (BRow w2 go (foldK s.data.toList (pos (labs s.data.toList) 0))) := by unfold Hid; rw [pos_zero, foldK_zero]; exact hrow
  clear hown hrow hg hsz hb1 hgo hgl1
  go_loopw [6] (fun i wr => ∃ (k : Nat), k + 1 ≤ n ∧ i = .int .i64 k ∧ Hid (BRow wr go (foldK s.data.toList (pos (labs s.data.toList) k))) ∧ (∀ j, j < n → wr.cell? ⟨gp, j, none⟩ = some (.int .i64 (pos (labs s.data.toList) j : Nat))) ∧ Below w.heap.size w wr) (fun i _ => n - (intOf i).toNat)
  case atStart => exact ⟨0, by omega, rfl, HROW, hpc, hb2⟩
  case round =>
    clear hpc HROW hb2
    obtain ⟨k, hk, rfl, HR, hpc, hbel⟩ := hrel
    by_cases hkn : k + 1 < n
    · have hkn2 : (k : Int) + 1 < (n : Int) := by omega
      obtain ⟨hPl, h63⟩ := name_at h k (by have := HN.out; omega)
      have hsucc := pos_succ (labs s.data.toList) k (by have := HN.out; omega)
      have hQs := pos_in h (k + 1)
      have hc1 := hpc k (by omega)
      have hc2 := hpc (k + 1) hkn
      have HR2 : Hid (BRow wr go (foldK s.data.toList (pos (labs s.data.toList) k + 1))) := by
        unfold Hid; rw [foldK_still hPl (fb_small h63)]; exact HR
      obtain ⟨P, hP⟩ : ∃ P, P = pos (labs s.data.toList) k := ⟨_, rfl⟩
      obtain ⟨Q, hQ⟩ : ∃ Q, Q = pos (labs s.data.toList) (k + 1) := ⟨_, rfl⟩
      rw [← hP] at hc1 HR2 hsucc
      rw [← hQ] at hc2 hQs hsucc
      have HPC : Hid (∀ j, j < n → wr.cell? ⟨gp, j, none⟩ = some (.int .i64 (pos (labs s.data.toList) j : Nat))) := hpc
      have HQQ : Hid (Q = pos (labs s.data.toList) (k + 1)) := hQ
      have hPQ : P + 1 ≤ Q := by omega
      clear hP hQ hpc hsucc h63 hPl HR
      go_wp2
      go_loopw [7] (fun i wq => ∃ (j : Nat), P + 1 ≤ j ∧ j ≤ Q ∧ i = .int .i64 j ∧ Hid (BRow wq go (foldK s.data.toList j)) ∧ (∀ j, j < n → wq.cell? ⟨gp, j, none⟩ = some (.int .i64 (pos (labs s.data.toList) j : Nat))) ∧ Below w.heap.size w wq) (fun i _ => Q - (intOf i).toNat)
      case atStart => exact ⟨P + 1, Nat.le_refl _, hPQ, by go_num, HR2, HPC.out, hbel⟩
      case round =>
        clear hc1 hc2 HR2 HPC hbel
        obtain ⟨j, hPj, hjQ, rfl, HRj, hpcj, hbelj⟩ := hrel
        have hc2 := hpcj (k + 1) hkn
        rw [← HQQ.out] at hc2
        have HPJ : Hid (∀ j, j < n → wr.cell? ⟨gp, j, none⟩ = some (.int .i64 (pos (labs s.data.toList) j : Nat))) := hpcj
        clear hpcj
        by_cases hjl : j < Q
        · have hjs : j < s.size := by omega
          have hjl2 : j < s.data.toList.length := by omega
          have hjk : j < (foldK s.data.toList j).length := by rw [foldK_len]; exact hjl2
          have hb8 := (s[j]).toNat_lt
          have hcell : wr.cell? ⟨go, j, none⟩ = some (.int .u8 (s[j].toNat : Int)) := by
            rw [HRj.out.cell j hjk, foldK_at _ _ hjl2]; rfl
          by_cases h65 : 65 ≤ s[j].toNat ∧ s[j].toNat ≤ 90
          · have hfro := HRj.out.frozen j hjk
            have hst := HRj.out.stored j hjk (fb s[j])
            have hfn : ((fb s[j]).toNat : Int) = (s[j].toNat : Int) + 32 := by rw [fb_nat, if_pos h65]; omega
            rw [hfn] at hst
            rw [show s[j] = s.data.toList[j] from rfl, foldK_set _ _ hjl2] at hst
            have HST : Hid (BRow (wr.setCell ⟨go, j, none⟩ (.int .u8 ((s[j].toNat : Int) + 32))) go (foldK s.data.toList (j + 1)) ∧ wr.grownBy (wr.setCell ⟨go, j, none⟩ (.int .u8 ((s[j].toNat : Int) + 32))) (some go)) := hst
            have h65a := h65.1
            have h65b := h65.2
            clear hst hfn h65
            go_wp2
            go_roundw
            case rel => exact ⟨j + 1, by omega, by omega, by go_num, HST.out.1, fun i hi => HST.out.2.cell (HPJ.out i hi) (by intro e; exact hne (Option.some.inj e)), hbelj.grown HST.out.2 hbelj.size (fun q e => by have := Option.some.inj e; omega)⟩
            case measure => simp [intOf]; omega
          · have HK : Hid (BRow wr go (foldK s.data.toList (j + 1))) := by
              have h66 : ¬ (65 ≤ s.data.toList[j].toNat ∧ s.data.toList[j].toNat ≤ 90) := h65
              unfold Hid; rw [foldK_still hjl2 (by unfold fb; rw [if_neg h66])]; exact HRj
            by_cases h65a : 65 ≤ s[j].toNat
            · have h65b : decide ((s[j].toNat : Int) ≤ 90) = false := by simp; omega
              clear h65
              go_wp2
              go_roundw
              case rel => exact ⟨j + 1, by omega, by omega, by go_num, HK, HPJ.out, hbelj⟩
              case measure => simp [intOf]; omega
            · have h65b : decide ((65 : Int) ≤ (s[j].toNat : Int)) = false := by simp; omega
              clear h65
              go_wp2
              go_roundw
              case rel => exact ⟨j + 1, by omega, by omega, by go_num, HK, HPJ.out, hbelj⟩
              case measure => simp [intOf]; omega
        · have hjq : j = Q := by omega
          have HJQ : Hid (j = Q) := hjq
          clear hjq
          go_wp2
          go_roundw
          case rel => exact ⟨k + 1, by omega, by go_num, by unfold Hid; rw [← HQQ.out, ← HJQ.out]; exact HRj, HPJ.out, hbelj⟩
          case measure => simp [intOf]; omega
    · have HA : Hid (BRow wr go (foldL s.data.toList)) := by
        have hke : k = (labs s.data.toList).length := by have := HN.out; omega
        obtain ⟨e1, _, _, _⟩ := enc_of h
        have hlast := pos_last (labs s.data.toList)
        rw [← e1] at hlast
        have h1 := pos_end (labs s.data.toList) (labs s.data.toList).length (Nat.le_refl _)
        have hp : pos (labs s.data.toList) (labs s.data.toList).length < s.data.toList.length := by omega
        have e : ∀ (a b : List UInt8) (k : Nat) (ha : k < a.length) (hb : k < b.length), a = b → a[k] = b[k] := by
          intro a b k ha hb e; subst e; rfl
        have h2 : s.data.toList[pos (labs s.data.toList) (labs s.data.toList).length]'hp = 0 := (e _ _ _ hp (pos_lt _ _) e1).trans h1
        have h3 := foldK_still hp (by rw [h2]; decide)
        have h4 := HR.out
        rw [hke, ← h3, foldK_all _ _ (by omega)] at h4
        exact h4
      have hn : (foldL s.data.toList).length = s.size := by rw [fold_len]; exact hsl
      have HNN : Hid ((foldL s.data.toList).length = s.size) := hn
      clear hn hpc
      go_wp2_with (refine wpList_stringC _ rfl (.tmp 58) rfl go s.size cap2 (foldL s.data.toList) rfl HNN.out HA.out ?_)
      go_ret
      exact ⟨rfl, hbel⟩

theorem refFold_any (s : ByteArray) (w : World) (hs : s.size ≤ maxLen) :
    Calls Try.prog 27 #[.string s] w fun e w' => e = .returned (.string ⟨(foldR s.data.toList).toArray⟩) ∧ Below w.heap.size w w' := by
  cases h : isName s.data.toList with
  | false => exact refFold_no s w hs h
  | true => exact refFold_yes s w h

end Go.Proofs.Ytcmhjlflgedcdaa

/- What last, Same, Above, Parent, Last and Child of the document's answers give, for every argument. -/
namespace Go.Proofs.Ytcmhjlflgedcdaa
open Go.RowKit
open Pl

theorem refFold_as (s t : ByteArray) (w : World) (hs : s.size ≤ maxLen) (h : foldR s.data.toList = t.data.toList) :
    Calls Try.prog 27 #[.string s] w fun e w' => e = .returned (.string t) ∧ Below w.heap.size w w' := by
  have := refFold_any s w hs
  rw [h] at this
  exact this
theorem cnt_labs {l : List UInt8} (h : isName l = true) : cnt l = (labs l).length := (enc_of h).2.2.1

theorem list_test (a b : ByteArray) : (a.toList == b.toList) = decide (a.data.toList = b.data.toList) := by
  rw [ByteArray.toList_eq, ByteArray.toList_eq, Bool.eq_iff_iff]; simp

set_option maxRecDepth 20000 in
set_option maxHeartbeats 1000000 in
theorem refSame_any (a b : ByteArray) (w : World) (ha : a.size ≤ maxLen) (hb : b.size ≤ maxLen) :
    Calls Try.prog 28 #[.string a, .string b] w fun e w' => e = .returned (.bool (sameB a.data.toList b.data.toList)) ∧ Below w.heap.size w w' := by
  have hbel : Below w.heap.size w w := Below.refl _ _
  cases h1 : isName a.data.toList with
  | false =>
    have HR : Hid (false = sameB a.data.toList b.data.toList) := by unfold Hid sameB; rw [h1]; rfl
    go_enter Try.func28, Try.ntmps28
    go_wp2_with (go_at_call 24; refine (refMay_as a false _ ha h1).mono ?_; rintro e w1 ⟨rfl, b1⟩; replace hbel := next hbel b1; clear b1)
    go_ret
    exact ⟨ret_bool HR.out, hbel⟩
  | true =>
    cases h2 : isName b.data.toList with
    | false =>
      have HR : Hid (false = sameB a.data.toList b.data.toList) := by unfold Hid sameB; rw [h1, h2]; rfl
      have t1 : True := trivial
      have t2 : True := trivial
      go_enter Try.func28, Try.ntmps28
      go_wp2_with (first
        | (go_at_call 24; have _t := t1; refine (refMay_as a true _ ha h1).mono ?_; rintro e w1 ⟨rfl, b1⟩; replace hbel := next hbel b1; clear b1 t1)
        | (go_at_call 24; have _t := t2; refine (refMay_as b false _ hb h2).mono ?_; rintro e w1 ⟨rfl, b1⟩; replace hbel := next hbel b1; clear b1 t2))
      go_ret
      exact ⟨ret_bool HR.out, hbel⟩
    | true =>
      obtain ⟨F, hF⟩ : ∃ F : ByteArray, foldR a.data.toList = F.data.toList := ⟨⟨(foldR a.data.toList).toArray⟩, by simp⟩
      obtain ⟨G, hG⟩ : ∃ G : ByteArray, foldR b.data.toList = G.data.toList := ⟨⟨(foldR b.data.toList).toArray⟩, by simp⟩
      have HF : Hid (foldR a.data.toList = F.data.toList) := hF
      have HG : Hid (foldR b.data.toList = G.data.toList) := hG
      have HR : Hid ((F.toList == G.toList) = sameB a.data.toList b.data.toList) := by
        unfold Hid sameB
        rw [list_test, ← hF, ← hG, h1, h2, foldR_yes h1, foldR_yes h2]
        simp
      clear hF hG
      have t1 : True := trivial
      have t2 : True := trivial
      have t3 : True := trivial
      have t4 : True := trivial
      go_enter Try.func28, Try.ntmps28
      go_wp2_with (first
        | (go_at_call 24; have _t := t1; refine (refMay_as a true _ ha h1).mono ?_; rintro e w1 ⟨rfl, b1⟩; replace hbel := next hbel b1; clear b1 t1)
        | (go_at_call 24; have _t := t2; refine (refMay_as b true _ hb h2).mono ?_; rintro e w1 ⟨rfl, b1⟩; replace hbel := next hbel b1; clear b1 t2)
        | (go_at_call 27; have _t := t3; refine (refFold_as a F _ ha HF.out).mono ?_; rintro e w1 ⟨rfl, b1⟩; replace hbel := next hbel b1; clear b1 t3)
        | (go_at_call 27; have _t := t4; refine (refFold_as b G _ hb HG.out).mono ?_; rintro e w1 ⟨rfl, b1⟩; replace hbel := next hbel b1; clear b1 t4))
      go_ret
      exact ⟨ret_bool HR.out, hbel⟩
theorem refSame_as (a b : ByteArray) (v : Bool) (w : World) (ha : a.size ≤ maxLen) (hb : b.size ≤ maxLen) (h : sameB a.data.toList b.data.toList = v) :
    Calls Try.prog 28 #[.string a, .string b] w fun e w' => e = .returned (.bool v) ∧ Below w.heap.size w w' := by rw [← h]; exact refSame_any a b w ha hb

end Go.Proofs.Ytcmhjlflgedcdaa

/- What Parent, Last and Child of the document's answers give, for every argument. -/
namespace Go.Proofs.Ytcmhjlflgedcdaa
open Go.RowKit
open Pl

end Go.Proofs.Ytcmhjlflgedcdaa

/- What labels of the document's answers gives, for every string. -/
namespace Go.Proofs.Ytcmhjlflgedcdaa
open Go.RowKit
open Pl

theorem info9 : (Try.prog.info? 9).map (fun i => (i.zero, i.size, i.bytes)) = some (some (.string ⟨#[]⟩), 1, 16) := by kernel_rfl

theorem ne_block {v : Value} {gc g sz n cap : Nat} (h3 : v.ownBlock = some g ∨ sz ≤ g) (hne : v.ownBlock ≠ some gc) (hlt : gc < sz) : Value.ownBlock (.slice (some ⟨g, 0, none⟩) n cap) ≠ some gc := by
  intro e
  have e' : g = gc := by simpa [Value.ownBlock] using e
  subst e'
  rcases h3 with h3 | h3
  · exact hne h3
  · omega

theorem grown_back {w w' : World} {o : Obj} {r : Option Nat} (h3 : (w.alloc o).drew.grownBy w' r) : w.grownBy w' r := by
  refine ⟨h3.os, h3.tape, h3.output, ?_, fun k hk hne => ?_⟩
  · have : (w.alloc o).heap.size ≤ w'.heap.size := h3.size
    simp at this
    omega
  · have e1 := h3.block k (by show k < (w.alloc _).heap.size; simp; omega) hne
    exact e1.trans (Below.heap_alloc w _ k hk)
theorem new_cells (w : World) (t : ByteArray) : ∀ j u, [Value.string t][j]? = some u → (w.alloc (.cells #[.string t] 9)).drew.cell? ((⟨w.heap.size, 0, none⟩ : Addr).add j) = some u := by
  simpa using World.news_of_block (heap_alloc_new w (.cells #[.string t] 9))

/-- Strings that are the labels of a name, folded, the last one first. -/
def Strs (l : List UInt8) (ss : List ByteArray) : Prop := ss.map (fun s => s.data.toList) = fl l

theorem take_step {l : List (List UInt8)} {m J : Nat} (hm : l.length = m) (hJ : J < m) {T : List UInt8} (hT : T = l[m - 1 - J]'(by omega)) : l.take (m - 1 - J) ++ [T] = l.take (m - J) := by
  rw [show m - J = m - 1 - J + 1 from by omega, List.take_succ_eq_append_getElem (by omega), hT]

theorem labels_no (s : ByteArray) (w : World) (hs : s.size ≤ maxLen) (h : isName s.data.toList = false) :
    Calls Try.prog 43 #[.string s] w fun e w' => e = .returned (.slice none 0 0) ∧ Below w.heap.size w w' := by
  go_enter Try.func43, Try.ntmps43
  go_wp2_with (go_at_call 24; refine (refMay_as s false _ hs h).mono ?_; rintro e w1 ⟨rfl, b1⟩)
  go_ret
  exact ⟨rfl, b1⟩

set_option maxRecDepth 20000 in
set_option maxHeartbeats 2000000 in
theorem labels_yes (s : ByteArray) (w : World) (h : isName s.data.toList = true) :
    Calls Try.prog 43 #[.string s] w fun e w' => ∃ v ss, e = .returned v ∧ w'.ownsRow w.heap.size 9 1 v (fl s.data.toList).length (ss.map Value.string) ∧ Strs s.data.toList ss ∧ Below w.heap.size w w' := by
  have h255 := name_size h
  have hs : s.size ≤ maxLen := by unfold maxLen; omega
  obtain ⟨F, hF⟩ : ∃ F : ByteArray, F.data.toList = foldL s.data.toList := ⟨⟨(foldL s.data.toList).toArray⟩, by simp⟩
  have hFn : isName F.data.toList = true := by rw [hF, name_fold]; exact h
  have hFl : labs F.data.toList = (labs s.data.toList).map foldL := by rw [hF, labs_fold]
  have HFO : Hid (foldR s.data.toList = F.data.toList) := by unfold Hid; rw [foldR_yes h, hF]
  have hF255 := name_size hFn
  have hFs : F.size ≤ maxLen := by unfold maxLen; omega
  obtain ⟨m, hm⟩ : ∃ m, m = (labs F.data.toList).length := ⟨_, rfl⟩
  have HM : Hid (m = (labs F.data.toList).length) := hm
  have hm127 : m ≤ 127 := by rw [hm]; exact few hFn
  have hfl : fl s.data.toList = (labs F.data.toList).reverse := by unfold fl; rw [hFl]
  have HFL : Hid (fl s.data.toList = (labs F.data.toList).reverse) := hfl
  have HFM : Hid ((fl s.data.toList).length = m) := by unfold Hid; rw [hfl, List.length_reverse, hm]
  have hbel : Below w.heap.size w w := Below.refl _ _
  clear hF hFl hm hfl
  go_enter Try.func43, Try.ntmps43
  go_wp2_with (first
    | (go_at_call 24; refine (refMay_as s true _ hs h).mono ?_; rintro e w1 ⟨rfl, b1⟩; replace hbel := next hbel b1; clear b1)
    | (go_at_call 27; refine (refFold_as s F _ hs HFO.out).mono ?_; rintro e w2 ⟨rfl, b1⟩; replace hbel := next hbel b1; clear b1)
    | (go_at_call 42; refine (places_any _ _ hFs).mono ?_; rintro e w3 ⟨v, rfl, b1, hp⟩; rw [hFn]; obtain ⟨gp, cap, qs, rfl, hpl, hown⟩ := hp hFn; have hq := places_pos hFn hpl; have hql : qs.length = m + 1 := hq.1.trans (by rw [HM.out]); have hqq := hq.2; have hpc : ∀ j, j ≤ m → w3.cell? ⟨gp, j, none⟩ = some (.int .i64 (pos (labs F.data.toList) j : Nat)) := (fun j hj => by rw [hown.cellAt j (by omega)]; have hj' : j < qs.length := (by omega); rw [← hqq j (by have := HM.out; omega)]; simp [hj', iv]); have hgp := hown.lt gp rfl; rw [hql]; replace hbel := next hbel b1; clear b1 hp hpl hown hq hql hqq))
  go_loopw [6, 7] (fun v i wr => ∃ (n : Nat) (ss : List ByteArray), wr.ownsRow w.heap.size 9 1 v n (ss.map Value.string) ∧ n ≤ m ∧ v.ownBlock ≠ some gp ∧ (∀ j, j ≤ m → wr.cell? ⟨gp, j, none⟩ = some (.int .i64 (pos (labs F.data.toList) j : Nat))) ∧ gp < wr.heap.size ∧ Below w.heap.size w wr ∧ ((∃ J : Nat, J < m ∧ n = m - 1 - J ∧ i = .int .i64 J ∧ Hid (ss.map (fun s => s.data.toList) = (fl s.data.toList).take (m - 1 - J))) ∨ (i = .int .i64 (-1) ∧ n = m ∧ Hid (Strs s.data.toList ss)))) (fun _ i _ => (intOf i + 1).toNat)
  case atStart =>
    refine ⟨0, [], World.ownsRow_nil _ _ _ _, Nat.zero_le _, by simp [Value.ownBlock], hpc, hgp.2, hbel, ?_⟩
    rcases Nat.eq_zero_or_pos m with h0 | h0
    · refine .inr ⟨by go_num, h0.symm, ?_⟩
      unfold Hid Strs
      have := HFM.out
      rw [List.eq_nil_of_length_eq_zero (l := fl s.data.toList) (by omega)]; rfl
    · exact .inl ⟨m - 1, by omega, by omega, by go_num, by unfold Hid; simp⟩
  case round =>
    clear hpc hgp hbel
    obtain ⟨n, ss, hown, hnm, hne, hpc, hgp, hbel, hi⟩ := hrel
    rcases hi with ⟨J, hJ, hn, rfl, HT⟩ | ⟨rfl, hn, HSS⟩
    · have HNJ : Hid (n = m - 1 - J) := hn
      clear hn
      have hc1 := hpc J (by omega)
      have hc2 := hpc (J + 1) (by omega)
      have hsucc := pos_succ (labs F.data.toList) J (by have := HM.out; omega)
      have hQF := pos_in hFn (J + 1)
      have HLX : Hid ((F.extract (pos (labs F.data.toList) J + 1) (pos (labs F.data.toList) (J + 1))).data.toList = (fl s.data.toList)[m - 1 - J]'(by have := HFM.out; omega)) := by
        unfold Hid
        rw [lab_ext hFn J (by have := HM.out; omega)]
        have e : ∀ (a b : List (List UInt8)) (i j : Nat) (ha : i < a.length) (hb : j < b.length), b = a.reverse → i + j + 1 = a.length → a[i] = b[j] := by
          intro a b i j ha hb e f; subst e; rw [List.getElem_reverse]; congr 1; omega
        exact e _ _ _ _ _ _ HFL.out (by have := HM.out; omega)
      obtain ⟨P, hP⟩ : ∃ P, P = pos (labs F.data.toList) J := ⟨_, rfl⟩
      obtain ⟨Q, hQ⟩ : ∃ Q, Q = pos (labs F.data.toList) (J + 1) := ⟨_, rfl⟩
      rw [← hP] at hc1 HLX hsucc
      rw [← hQ] at hc2 HLX hQF hsucc
      have hPQ : P + 1 ≤ Q := by omega
      have HPC : Hid (∀ j, j ≤ m → wr.cell? ⟨gp, j, none⟩ = some (.int .i64 (pos (labs F.data.toList) j : Nat))) := hpc
      have HOW : Hid (wr.ownsRow w.heap.size 9 1 u6 n (ss.map Value.string)) := hown
      have hJ0 : (0 : Int) ≤ (J : Int) := by omega
      have hJ1 : (J : Int) < (m : Int) + 1 := by omega
      have hJ2 : (J : Int) + 1 < (m : Int) + 1 := by omega
      clear hpc hP hQ hown hsucc
      obtain ⟨i0, hi, hz0, hz1, hz2⟩ := info_parts info9
      have hw1 : IntKind.i64.wrap ((J : Int) + 1) = (J : Int) + 1 := by rw [IntKind.wrap_i64]; omega
      have hw2 : IntKind.i64.wrap ((P : Int) + 1) = (P : Int) + 1 := by rw [IntKind.wrap_i64]; omega
      have hJ3 : (0 : Int) ≤ (J : Int) + 1 := by omega
      have hJ4 : ((J : Int) + 1).toNat = J + 1 := by omega
      have hcut : ∀ u : World, (Instr.slice 9 (.string F) (some (.int .i64 ((P : Int) + 1))) (some (.int .i64 (Q : Int))) none).run Try.prog u = .ok (.string (F.extract (P + 1) Q)) u := fun u => by
        have := run_slice_string (P := Try.prog) u 9 F .i64 .i64 ((P : Int) + 1) (Q : Int) Try.underlying9 (by omega) (by omega) (by omega)
        rw [this]; rfl
      go_wp2
      go_region_law ((refine step_append_lies _ (by rfl) _ _ 32 (by rfl) w.heap.size 9 i0 (.string ⟨#[]⟩) 1 16 Try.underlying32 hi hz0 hz1 hz2 rfl (by decide) _ n (ss.map Value.string) (by rfl) ((HOW.out.alloc _).drew) ⟨wr.heap.size, 0, none⟩ 1 1 [.string (F.extract (P + 1) Q)] (by rfl) rfl (new_cells wr _) (by simp [Value.oneCell']) (by omega) (by unfold maxLen; omega) (by omega) (by show w.heap.size ≤ (wr.alloc _).heap.size; have := hbel.size; simp; omega) (wr.heap.size + 1) (by show (wr.alloc _).heap.size = _; simp) ?_; intro g cap2 w5 hown5 hgrow hat hlt))
      all_goals
        have HO5 : Hid (w5.ownsRow w.heap.size 9 1 (.slice (some ⟨g, 0, none⟩) (n + 1) cap2) (n + 1) ((ss ++ [F.extract (P + 1) Q]).map Value.string)) := by unfold Hid; rw [List.map_append]; exact hown5
        have HG5 : Hid (wr.grownBy w5 u6.ownBlock ∧ (u6.ownBlock = some g ∨ wr.heap.size ≤ g) ∧ g < w5.heap.size) := ⟨grown_back hgrow, hat.imp id (fun e => by omega), hlt⟩
        clear hown5 hgrow hat hlt
        go_wp2
        go_roundw
        case rel =>
          have hnj := HNJ.out
          refine ⟨n + 1, ss ++ [F.extract (P + 1) Q], HO5.out, by omega, ne_block HG5.out.2.1 hne hgp, fun j hj => HG5.out.1.cell (HPC.out j hj) (Ne.symm hne), Nat.lt_of_lt_of_le hgp HG5.out.1.size, hbel.grown HG5.out.1 hbel.size (fun k e => (HOW.out.lt k e).1), ?_⟩
          have HX : (ss ++ [F.extract (P + 1) Q]).map (fun s => s.data.toList) = (fl s.data.toList).take (m - J) := by
            rw [List.map_append, HT.out]
            exact take_step HFM.out hJ HLX.out
          rcases Nat.eq_zero_or_pos J with h0 | h0
          · refine .inr ⟨by subst h0; go_num, by omega, ?_⟩
            unfold Hid Strs
            rw [HX, List.take_of_length_le (by have := HFM.out; omega)]
          · exact .inl ⟨J - 1, by omega, by omega, by go_num, by unfold Hid; rw [HX, show m - 1 - (J - 1) = m - J from by omega]⟩
        case measure => simp [intOf]
    · have HO : Hid (wr.ownsRow w.heap.size 9 1 u6 (fl s.data.toList).length (ss.map Value.string)) := by unfold Hid; rw [HFM.out, ← hn]; exact hown
      clear hn hpc hown
      go_wp2
      go_ret
      exact ⟨_, ss, rfl, HO.out, HSS.out, hbel⟩

theorem labels_any (s : ByteArray) (w : World) (hs : s.size ≤ maxLen) :
    Calls Try.prog 43 #[.string s] w fun e w' => ∃ v ss, e = .returned v ∧ w'.ownsRow w.heap.size 9 1 v (fl s.data.toList).length (ss.map Value.string) ∧ Strs s.data.toList ss ∧ Below w.heap.size w w' := by
  cases h : isName s.data.toList with
  | true => exact labels_yes s w h
  | false =>
    have hf : fl s.data.toList = [] := by unfold fl; rw [labs_none h]; rfl
    refine (labels_no s w hs h).mono ?_
    rintro e w' ⟨rfl, hb⟩
    exact ⟨_, [], rfl, by rw [hf]; exact World.ownsRow_nil _ _ _ _, by unfold Strs; rw [hf]; rfl, hb⟩

end Go.Proofs.Ytcmhjlflgedcdaa

/- What Compare of the document's answers gives, for every two strings. -/
namespace Go.Proofs.Ytcmhjlflgedcdaa
open Go.RowKit
open Pl

theorem less_lex : ∀ x y : List UInt8, Op.bytesLess x y = decide (lexG cB x y = -1) := by
  intro x
  induction x with
  | nil =>
    intro y
    cases y with
    | nil => simp [Op.bytesLess, lexG]
    | cons b y => simp [Op.bytesLess, lexG]
  | cons a x ih =>
    intro y
    cases y with
    | nil => simp [Op.bytesLess, lexG]
    | cons b y =>
      rw [Op.bytesLess, ih y, lexG]
      have hl : decide (a < b) = decide (a.toNat < b.toNat) := by rw [Bool.eq_iff_iff]; simp [UInt8.lt_iff_toNat_lt]
      have he : (a == b) = decide (a.toNat = b.toNat) := by rw [Bool.eq_iff_iff]; simp [UInt8.toNat_inj]
      rw [hl, he]
      unfold cB sgn
      rcases Nat.lt_trichotomy a.toNat b.toNat with h | h | h
      · have h1 : (a.toNat : Int) < (b.toNat : Int) := by omega
        have h2 : ¬ a.toNat = b.toNat := by omega
        simp [h, h2]
      · have h1 : ¬ a.toNat < b.toNat := by omega
        have h2 : ¬ b.toNat < a.toNat := by omega
        simp [h]
      · have h1 : ¬ a.toNat < b.toNat := by omega
        have h2 : ¬ a.toNat = b.toNat := by omega
        simp [h, h1, h2]

/-- A row of strings, as a slice and its cells. -/
theorem str_row {w : World} {base n : Nat} {v : Value} {ss : List ByteArray} (h : w.ownsRow base 9 1 v n (ss.map Value.string)) :
    ∃ a c, v = .slice a n c ∧ (n = 0 ∨ ∃ g, a = some ⟨g, 0, none⟩ ∧ ∀ j (hj : j < ss.length), w.cell? ⟨g, j, none⟩ = some (.string ss[j])) := by
  rcases h.2 with ⟨rfl, rfl⟩ | ⟨g, cap, cur, rfl, hb, hg, hnc, hm, hcs, htake⟩
  · exact ⟨none, 0, rfl, .inl rfl⟩
  · refine ⟨_, _, rfl, .inr ⟨g, rfl, fun j hj => ?_⟩⟩
    have hn : ss.length = n := by simpa using h.1
    rw [h.cellAt j (by omega)]
    simp [hj]

theorem cmpK_start (a b : List UInt8) : cmpN a b = lexG (lexG cB) ((fl a).drop 0) ((fl b).drop 0) := rfl

theorem cmpK_step {a b : List UInt8} {ss tt : List ByteArray} {k : Nat} (ha : Strs a ss) (hb : Strs b tt) (h : cmpN a b = lexG (lexG cB) ((fl a).drop k) ((fl b).drop k)) (h1 : k < ss.length) (h2 : k < tt.length) :
    cmpN a b = if lexG cB ss[k].data.toList tt[k].data.toList = 0 then lexG (lexG cB) ((fl a).drop (k + 1)) ((fl b).drop (k + 1)) else lexG cB ss[k].data.toList tt[k].data.toList := by
  unfold Strs at ha hb
  have l1 : (fl a).length = ss.length := by rw [← ha]; simp
  have l2 : (fl b).length = tt.length := by rw [← hb]; simp
  rw [h, lexG_drop ord_ord _ _ k (by omega) (by omega)]
  have e : ∀ (l : List (List UInt8)) (rs : List ByteArray) (i : Nat) (hi : i < l.length) (hj : i < rs.length), rs.map (fun s => s.data.toList) = l → l[i] = rs[i].data.toList := by
    intro l rs i hi hj e; subst e; simp
  rw [e _ _ _ (by omega) h1 ha, e _ _ _ (by omega) h2 hb]

theorem less_as {X Y : ByteArray} {b : Bool} (h : decide (lexG cB X.data.toList Y.data.toList = -1) = b) : Op.bytesLess X.toList Y.toList = b := by
  rw [ByteArray.toList_eq, ByteArray.toList_eq, less_lex]; exact h
theorem gtr_as {X Y : ByteArray} {b : Bool} (h : decide (lexG cB X.data.toList Y.data.toList = 1) = b) : binOp .gtr 9 (.string X) (.string Y) = pure (.bool b) := by
  have e : binOp .gtr 9 (.string X) (.string Y) = pure (.bool !(Op.bytesLess X.toList Y.toList || X.toList == Y.toList)) := by simp [binOp, Op.stringOp]
  rw [e, ← h, ByteArray.toList_eq, ByteArray.toList_eq, less_lex]
  congr 2
  rw [Bool.eq_iff_iff]
  have hz := ord_ord.zero X.data.toList Y.data.toList
  rcases ord_ord.three X.data.toList Y.data.toList with h3 | h3 | h3
  · rw [h3]; simp
  · have := hz.1 h3
    rw [h3]; simp [this]
  · have hne : X.data.toList ≠ Y.data.toList := fun e => by have := hz.2 e; omega
    rw [h3]; simp; exact fun e => hne (by rw [e])

set_option maxRecDepth 20000 in
set_option maxHeartbeats 2000000 in
theorem refCompare_any (a b : ByteArray) (w : World) (ha : a.size ≤ maxLen) (hb : b.size ≤ maxLen) :
    Calls Try.prog 29 #[.string a, .string b] w fun e w' => e = .returned (.int .i64 (cmpN a.data.toList b.data.toList)) ∧ Below w.heap.size w w' := by
  obtain ⟨n, hn⟩ : ∃ n, n = (fl a.data.toList).length := ⟨_, rfl⟩
  obtain ⟨m, hm⟩ : ∃ m, m = (fl b.data.toList).length := ⟨_, rfl⟩
  have HN : Hid (n = (fl a.data.toList).length) := hn
  have HM : Hid (m = (fl b.data.toList).length) := hm
  have hn127 : n ≤ 127 := by
    rw [hn, fl_len]
    cases h : isName a.data.toList with
    | true => exact few h
    | false => rw [labs_none h]; simp
  have hm127 : m ≤ 127 := by
    rw [hm, fl_len]
    cases h : isName b.data.toList with
    | true => exact few h
    | false => rw [labs_none h]; simp
  clear hn hm
  have t1 : True := trivial
  have t2 : True := trivial
  go_enter Try.func29, Try.ntmps29
  go_wp2_with (first
    | (go_at_call 43; have _t := t1; refine (labels_any a _ ha).mono ?_; rintro e w1 ⟨v1, ss, rfl, ho1, hs1, b1⟩; clear t1)
    | (go_at_call 43; have _t := t2; refine (labels_any b _ hb).mono ?_; rintro e w2 ⟨v2, tt, rfl, ho2, hs2, b2⟩; clear t2; rw [← HM.out] at ho2; rw [← HN.out] at ho1; have ho3 := (ho1.kept (w' := w2) (row := none) (by obtain ⟨e1, e2, e3, e4, e5⟩ := b2; exact ⟨e1, e2, e3, e4, fun k hk _ => e5 k hk⟩) (by cases hv : v1.ownBlock <;> simp)); obtain ⟨x1, c1, rfl, hr1⟩ := str_row ho3; obtain ⟨x2, c2, rfl, hr2⟩ := str_row ho2; have hl1 : ss.length = n := (by simpa using ho1.1); have hl2 : tt.length = m := (by simpa using ho2.1); clear ho1 ho2 ho3))
  have HB : Hid (Below w.heap.size w w2) := next b1 b2
  have HS1 : Hid (Strs a.data.toList ss) := hs1
  have HS2 : Hid (Strs b.data.toList tt) := hs2
  have HL1 : Hid (ss.length = n) := hl1
  have HL2 : Hid (tt.length = m) := hl2
  have HEND : Hid (∀ k, (k = n ∨ k = m) → k ≤ n → k ≤ m → cmpN a.data.toList b.data.toList = lexG (lexG cB) ((fl a.data.toList).drop k) ((fl b.data.toList).drop k) → sgn (n : Int) (m : Int) = cmpN a.data.toList b.data.toList) := by
    intro k h1 h2 h3 h4
    rw [h4, lexG_end _ _ k (by rw [← HN.out, ← HM.out]; exact h1) (by rw [← HN.out]; exact h2) (by rw [← HM.out]; exact h3), ← HN.out, ← HM.out]
  clear b1 b2 hs1 hs2 hl1 hl2
  by_cases hz : n = 0 ∨ m = 0
  · have hres := HEND.out 0 (by omega) (by omega) (by omega) (cmpK_start _ _)
    have HRES : Hid (sgn (n : Int) (m : Int) = cmpN a.data.toList b.data.toList) := hres
    have hz2 : decide (0 < n) = false ∨ (decide (0 < n) = true ∧ decide (0 < m) = false) := by
      by_cases h0 : n = 0
      · exact .inl (by simp; omega)
      · exact .inr ⟨by simp; omega, by simp; omega⟩
    clear hres hr1 hr2
    rcases hz2 with e0 | ⟨e0, e3⟩
    all_goals
      refine wp_loop_rounds 1 ?_
      rw [rounds_succ]
      rcases Nat.lt_trichotomy n m with hlt | heq | hgt
      · have hv : Hid ((-1 : Int) = cmpN a.data.toList b.data.toList) := by unfold Hid; rw [← HRES.out]; unfold sgn; rw [if_pos (by omega)]
        have e1 : decide (n < m) = true := by simpa using hlt
        clear hlt
        go_wp2
        go_ret
        exact ⟨ret_int hv.out, HB.out⟩
      · have hv : Hid ((0 : Int) = cmpN a.data.toList b.data.toList) := by unfold Hid; rw [← HRES.out]; unfold sgn; rw [if_neg (by omega), if_neg (by omega)]
        have e1 : decide (n < m) = false := by simp; omega
        have e2 : decide (m < n) = false := by simp; omega
        clear heq
        go_wp2
        go_ret
        exact ⟨ret_int hv.out, HB.out⟩
      · have hv : Hid ((1 : Int) = cmpN a.data.toList b.data.toList) := by unfold Hid; rw [← HRES.out]; unfold sgn; rw [if_neg (by omega), if_pos (by omega)]
        have e1 : decide (n < m) = false := by simp; omega
        have e2 : decide (m < n) = true := by simpa using hgt
        clear hgt
        go_wp2
        go_ret
        exact ⟨ret_int hv.out, HB.out⟩
  · obtain ⟨g1, rfl, hc1⟩ := hr1.resolve_left (by omega)
    obtain ⟨g2, rfl, hc2⟩ := hr2.resolve_left (by omega)
    have HC1 : Hid (∀ j (hj : j < ss.length), w2.cell? ⟨g1, j, none⟩ = some (.string ss[j])) := hc1
    have HC2 : Hid (∀ j (hj : j < tt.length), w2.cell? ⟨g2, j, none⟩ = some (.string tt[j])) := hc2
    clear hr1 hr2 hc1 hc2 hz
    go_loopw [7] (fun i wr => ∃ (k : Nat), k ≤ n ∧ k ≤ m ∧ i = .int .i64 k ∧ Hid (∃ q, wr = w2.drewN q) ∧ Hid (cmpN a.data.toList b.data.toList = lexG (lexG cB) ((fl a.data.toList).drop k) ((fl b.data.toList).drop k))) (fun i _ => n - (intOf i).toNat)
    case atStart => exact ⟨0, Nat.zero_le _, Nat.zero_le _, rfl, ⟨0, rfl⟩, cmpK_start _ _⟩
    case round =>
      obtain ⟨k, hkn, hkm, rfl, hdr, hc⟩ := hrel
      by_cases hkk : k < n ∧ k < m
      · obtain ⟨hk1, hk2⟩ := hkk
        have hks : k < ss.length := by have := HL1.out; omega
        have hkt : k < tt.length := by have := HL2.out; omega
        have hcx : wr.cell? ⟨g1, k, none⟩ = some (.string ss[k]) := by rw [drew_cell hdr.out]; exact HC1.out k hks
        have hcy : wr.cell? ⟨g2, k, none⟩ = some (.string tt[k]) := by rw [drew_cell hdr.out]; exact HC2.out k hkt
        have hst := cmpK_step HS1.out HS2.out hc.out hks hkt
        obtain ⟨X, hX⟩ : ∃ X, X = ss[k] := ⟨_, rfl⟩
        obtain ⟨Y, hY⟩ : ∃ Y, Y = tt[k] := ⟨_, rfl⟩
        rw [← hX] at hcx hst
        rw [← hY] at hcy hst
        have hk1' : (k : Int) < (n : Int) := by omega
        have hk2' : (k : Int) < (m : Int) := by omega
        have e0 : decide (k < n) = true := by simpa using hk1
        have e3 : decide (k < m) = true := by simpa using hk2
        clear hX hY
        rcases ord_ord.three X.data.toList Y.data.toList with h3 | h3 | h3
        · have hv : Hid ((-1 : Int) = cmpN a.data.toList b.data.toList) := by unfold Hid; rw [hst, h3]; simp
          have hl : Op.bytesLess X.toList Y.toList = true := less_as (by rw [h3]; rfl)
          clear hst h3
          go_wp2
          go_quiet (fail)
          go_wp2
          go_ret
          exact ⟨ret_int hv.out, next HB.out (below_drew (drew_more hdr.out))⟩
        · have HX : Hid (cmpN a.data.toList b.data.toList = lexG (lexG cB) ((fl a.data.toList).drop (k + 1)) ((fl b.data.toList).drop (k + 1))) := by unfold Hid; rw [hst, if_pos h3]
          have hl : Op.bytesLess X.toList Y.toList = false := less_as (by rw [h3]; rfl)
          have hg : binOp .gtr 9 (.string X) (.string Y) = pure (.bool false) := gtr_as (by rw [h3]; rfl)
          clear hst h3
          go_wp2
          go_quiet (fail)
          obtain ⟨wq, hwq⟩ : ∃ u : World, u = wr.drewN nq := ⟨_, rfl⟩
          rw [← hwq]
          have hcx' : wq.cell? ⟨g1, k, none⟩ = some (.string X) := by rw [hwq]; exact hcx
          have hcy' : wq.cell? ⟨g2, k, none⟩ = some (.string Y) := by rw [hwq]; exact hcy
          have HDQ : Hid (∃ q, wq = w2.drewN q) := by rw [hwq]; exact drew_more hdr.out
          clear hwq hcx hcy
          go_wp2
          go_quiet (fail)
          go_wp2
          go_roundw
          case rel => exact ⟨k + 1, by omega, by omega, by go_num, drew_more HDQ.out, HX⟩
          case measure => simp [intOf]; omega
        · have hv : Hid ((1 : Int) = cmpN a.data.toList b.data.toList) := by unfold Hid; rw [hst, h3]; simp
          have hl : Op.bytesLess X.toList Y.toList = false := less_as (by rw [h3]; rfl)
          have hg : binOp .gtr 9 (.string X) (.string Y) = pure (.bool true) := gtr_as (by rw [h3]; rfl)
          clear hst h3
          go_wp2
          go_quiet (fail)
          obtain ⟨wq, hwq⟩ : ∃ u : World, u = wr.drewN nq := ⟨_, rfl⟩
          rw [← hwq]
          have hcx' : wq.cell? ⟨g1, k, none⟩ = some (.string X) := by rw [hwq]; exact hcx
          have hcy' : wq.cell? ⟨g2, k, none⟩ = some (.string Y) := by rw [hwq]; exact hcy
          have HDQ : Hid (∃ q, wq = w2.drewN q) := by rw [hwq]; exact drew_more hdr.out
          clear hwq hcx hcy
          go_wp2
          go_quiet (fail)
          go_wp2
          go_ret
          exact ⟨ret_int hv.out, next HB.out (below_drew (drew_more HDQ.out))⟩
      · have hres := HEND.out k (by omega) hkn hkm hc.out
        have HRES : Hid (sgn (n : Int) (m : Int) = cmpN a.data.toList b.data.toList) := hres
        have hz2 : decide (k < n) = false ∨ (decide (k < n) = true ∧ decide (k < m) = false) := by
          by_cases h0 : k < n
          · exact .inr ⟨by simpa using h0, by simp; omega⟩
          · exact .inl (by simp; omega)
        clear hres hkk
        rcases hz2 with e0 | ⟨e0, e3⟩
        all_goals
          rcases Nat.lt_trichotomy n m with hlt | heq | hgt
          · have hv : Hid ((-1 : Int) = cmpN a.data.toList b.data.toList) := by unfold Hid; rw [← HRES.out]; unfold sgn; rw [if_pos (by omega)]
            have e1 : decide (n < m) = true := by simpa using hlt
            clear hlt
            go_wp2
            go_ret
            exact ⟨ret_int hv.out, next HB.out (below_drew hdr.out)⟩
          · have hv : Hid ((0 : Int) = cmpN a.data.toList b.data.toList) := by unfold Hid; rw [← HRES.out]; unfold sgn; rw [if_neg (by omega), if_neg (by omega)]
            have e1 : decide (n < m) = false := by simp; omega
            have e2 : decide (m < n) = false := by simp; omega
            clear heq
            go_wp2
            go_ret
            exact ⟨ret_int hv.out, next HB.out (below_drew hdr.out)⟩
          · have hv : Hid ((1 : Int) = cmpN a.data.toList b.data.toList) := by unfold Hid; rw [← HRES.out]; unfold sgn; rw [if_neg (by omega), if_pos (by omega)]
            have e1 : decide (n < m) = false := by simp; omega
            have e2 : decide (m < n) = true := by simpa using hgt
            clear hgt
            go_wp2
            go_ret
            exact ⟨ret_int hv.out, next HB.out (below_drew hdr.out)⟩

end Go.Proofs.Ytcmhjlflgedcdaa

/- What a store holds, plainly: entries, which is less, what is put, what is told. -/
namespace Go.Proofs.Ytcmhjlflgedcdaa
open Pl

/-- An entry. -/
structure En where
  n : ByteArray
  t : Int
  l : Int
  ds : List ByteArray
  r : Int
  u : Int

/-- Names and types in their row. -/
def cK (a : ByteArray) (s : Int) (b : ByteArray) (t : Int) : Int := if cmpN a.data.toList b.data.toList = 0 then sgn s t else cmpN a.data.toList b.data.toList
theorem sgn_self (s : Int) : sgn s s = 0 := by unfold sgn; simp
theorem sgn_anti (s t : Int) : sgn t s = - sgn s t := by unfold sgn; repeat' split <;> omega
theorem sgn_zero {s t : Int} (h : sgn s t = 0) : s = t := by unfold sgn at h; repeat' split at h <;> omega
theorem sgn_neg (s t : Int) : sgn s t < 0 ↔ s < t := by unfold sgn; repeat' split <;> omega
theorem cK_self (a : ByteArray) (s : Int) : cK a s a s = 0 := by unfold cK; rw [if_pos (cmp_self _), sgn_self]
theorem cK_anti (a : ByteArray) (s : Int) (b : ByteArray) (t : Int) : cK b t a s = - cK a s b t := by
  unfold cK
  rw [cmp_anti a.data.toList b.data.toList]
  by_cases h : cmpN a.data.toList b.data.toList = 0
  · rw [if_pos (by omega), if_pos h, sgn_anti]
  · rw [if_neg (by omega), if_neg h]
theorem cK_three (a : ByteArray) (s : Int) (b : ByteArray) (t : Int) : -1 ≤ cK a s b t ∧ cK a s b t ≤ 1 := by
  unfold cK
  split
  · unfold sgn; repeat' split <;> omega
  · exact cmp_three _ _
theorem cmp_lt {a b c : List UInt8} (h1 : cmpN a b < 0) (h2 : cmpN b c ≤ 0) : cmpN a c < 0 := by
  have h3 := cmp_trans (Int.le_of_lt h1) h2
  rcases Int.lt_or_eq_of_le h3 with h | h
  · exact h
  · exfalso
    have h4 : cmpN c a ≤ 0 := by rw [cmp_anti a c]; omega
    have := cmp_trans h2 h4
    have := cmp_anti a b
    omega
theorem cmp_lt' {a b c : List UInt8} (h1 : cmpN a b ≤ 0) (h2 : cmpN b c < 0) : cmpN a c < 0 := by
  have h3 := cmp_trans h1 (Int.le_of_lt h2)
  rcases Int.lt_or_eq_of_le h3 with h | h
  · exact h
  · exfalso
    have h4 : cmpN c a ≤ 0 := by rw [cmp_anti a c]; omega
    have := cmp_trans h4 h1
    have := cmp_anti b c
    omega
theorem cK_neg {a : ByteArray} {s : Int} {b : ByteArray} {t : Int} : cK a s b t < 0 ↔ cmpN a.data.toList b.data.toList < 0 ∨ cmpN a.data.toList b.data.toList = 0 ∧ s < t := by
  unfold cK
  split
  · rename_i h; rw [sgn_neg]; omega
  · rename_i h; omega
theorem cK_trans {a b c : ByteArray} {s t u : Int} (h1 : cK a s b t < 0) (h2 : cK b t c u < 0) : cK a s c u < 0 := by
  rw [cK_neg] at *
  rcases h1 with h1 | ⟨h1, h3⟩
  · rcases h2 with h2 | ⟨h2, _⟩
    · exact .inl (cmp_lt h1 (Int.le_of_lt h2))
    · exact .inl (cmp_lt h1 (Int.le_of_eq h2))
  · rcases h2 with h2 | ⟨h2, h4⟩
    · exact .inl (cmp_lt' (Int.le_of_eq h1) h2)
    · refine .inr ⟨?_, by omega⟩
      have e := (cmp_zero _ _).1 h1
      have e' := (cmp_zero _ _).1 h2
      exact (cmp_zero _ _).2 (e.trans e')

/-- A name in its small letters and a type: what tells entries apart. -/
structure OkK (n : ByteArray) (t : Int) : Prop where
  nm : isName n.data.toList = true
  fo : foldL n.data.toList = n.data.toList
  lo : 1 ≤ t
  hi : t ≤ 65535
theorem OkK.size {n : ByteArray} {t : Int} (h : OkK n t) : n.size ≤ 255 := by
  have := (name_some h.nm).1
  have e := data_len n
  omega
theorem bytes_ext {a b : ByteArray} (h : a.data.toList = b.data.toList) : a = b := by
  cases a with | mk a => cases b with | mk b => simp at h; rw [h]
theorem cK_zero {a b : ByteArray} {s t : Int} (ha : OkK a s) (hb : OkK b t) (h : cK a s b t = 0) : a = b ∧ s = t := by
  unfold cK at h
  by_cases e : cmpN a.data.toList b.data.toList = 0
  · rw [if_pos e] at h
    refine ⟨bytes_ext ?_, sgn_zero h⟩
    rw [← ha.fo, ← hb.fo]
    exact (fold_inj ha.nm hb.nm).2 ((cmp_zero _ _).1 e)
  · rw [if_neg e] at h
    exact absurd h e

/-- An entry that may be held. -/
structure OkE (e : En) : Prop where
  k : OkK e.n e.t
  len : e.ds.length ≤ 8796093022000
  siz : ∀ d ∈ e.ds, d.size ≤ 140737488351232
/-- Which entry is less: by its end, then by its name and type. -/
def ltE (x y : En) : Bool := decide (x.u < y.u) || (decide (x.u = y.u) && decide (cK x.n x.t y.n y.t < 0))
theorem ltE_iff {x y : En} : ltE x y = true ↔ x.u < y.u ∨ x.u = y.u ∧ cK x.n x.t y.n y.t < 0 := by unfold ltE; simp
theorem ltE_irr (x : En) : ltE x x = false := by
  cases h : ltE x x with
  | false => rfl
  | true => rw [ltE_iff, cK_self] at h; omega
theorem ltE_trans {x y z : En} (h1 : ltE x y = true) (h2 : ltE y z = true) : ltE x z = true := by
  rw [ltE_iff] at *
  rcases h1 with h1 | ⟨h1, h3⟩
  · exact .inl (by omega)
  · rcases h2 with h2 | ⟨h2, h4⟩
    · exact .inl (by omega)
    · exact .inr ⟨by omega, cK_trans h3 h4⟩
def sameK (n : ByteArray) (t : Int) (e : En) : Bool := decide (e.n = n) && decide (e.t = t)
theorem sameK_iff {n : ByteArray} {t : Int} {e : En} : sameK n t e = true ↔ e.n = n ∧ e.t = t := by unfold sameK; simp
theorem ltE_total {x y : En} (hx : OkE x) (hy : OkE y) (h : ltE x y = false) (hk : sameK x.n x.t y = false) : ltE y x = true := by
  rw [ltE_iff]
  have h1 : ¬ (x.u < y.u ∨ x.u = y.u ∧ cK x.n x.t y.n y.t < 0) := fun e => by rw [← ltE_iff, h] at e; cases e
  by_cases e : y.u < x.u
  · exact .inl e
  · refine .inr ⟨by omega, ?_⟩
    have h2 : ¬ cK x.n x.t y.n y.t < 0 := fun e' => h1 (.inr ⟨by omega, e'⟩)
    have h3 : cK x.n x.t y.n y.t ≠ 0 := fun e' => by
      have := cK_zero hx.k hy.k e'
      rw [sameK_iff.2 ⟨this.1.symm, this.2.symm⟩] at hk
      cases hk
    have := cK_anti x.n x.t y.n y.t
    omega

/-- Entries of which no two have one name and type. -/
def Dis (L : List En) : Prop := L.Pairwise (fun x y => sameK x.n x.t y = false)
theorem sameK_symm {x y : En} (h : sameK x.n x.t y = false) : sameK y.n y.t x = false := by
  cases e : sameK y.n y.t x with
  | false => rfl
  | true => rw [sameK_iff] at e; rw [sameK_iff.2 ⟨e.1.symm, e.2.symm⟩] at h; cases h
theorem Dis.at {L : List En} (h : Dis L) {i j : Nat} (hi : i < L.length) (hj : j < L.length) (hij : i ≠ j) : sameK L[i].n L[i].t L[j] = false := by
  rcases Nat.lt_or_gt_of_ne hij with h1 | h1
  · exact List.pairwise_iff_getElem.1 h i j hi hj h1
  · exact sameK_symm (List.pairwise_iff_getElem.1 h j i hj hi h1)
theorem Dis.filter {L : List En} (h : Dis L) (p : En → Bool) : Dis (L.filter p) := List.Pairwise.filter _ h

/-- The place of the least of the first i. -/
def minK (L : List En) : Nat → Nat
  | 0 => 0
  | i + 1 => match L[i]?, L[minK L i]? with
    | some a, some b => if ltE a b then i else minK L i
    | _, _ => minK L i
def minP (L : List En) : Nat := minK L L.length
theorem minK_step {L : List En} {i : Nat} (hi : i < L.length) (hk : minK L i < L.length) : minK L (i + 1) = if ltE L[i] L[minK L i] then i else minK L i := by
  rw [minK, List.getElem?_eq_getElem hi, List.getElem?_eq_getElem hk]
theorem minK_lt {L : List En} : ∀ {i : Nat}, 1 ≤ i → i ≤ L.length → minK L i < i := by
  intro i
  induction i with
  | zero => intro h _; omega
  | succ i ih =>
    intro _ hi
    by_cases h0 : i = 0
    · subst h0
      rw [minK_step (by omega) (by show 0 < _; omega)]
      split
      · omega
      · show minK L 0 < 1; simp [minK]
    · have := ih (by omega) (by omega)
      rw [minK_step (by omega) (by omega)]
      split <;> omega
theorem minK_least {L : List En} (hd : Dis L) (ho : ∀ e ∈ L, OkE e) : ∀ {i : Nat} (_ : 1 ≤ i) (hi : i ≤ L.length) (hk : minK L i < L.length) (j : Nat) (hj : j < i), j ≠ minK L i → ltE L[minK L i] (L[j]'(by omega)) = true := by
  intro i
  induction i with
  | zero => intro h; omega
  | succ i ih =>
    intro _ hi hk j hj hne
    by_cases h0 : i = 0
    · subst h0
      have e0 : minK L 1 = 0 := by have := minK_lt (L := L) (Nat.le_refl 1) (by omega); omega
      rw [e0] at hne
      omega
    · have hm := minK_lt (L := L) (i := i) (by omega) (by omega)
      have hs := minK_step (L := L) (i := i) (by omega) (by omega)
      have hd' := hd.at (i := i) (j := minK L i) (by omega) (by omega) (by omega)
      cases hl : ltE (L[i]'(by omega)) (L[minK L i]'(by omega)) with
      | true =>
        rw [hl, if_pos rfl] at hs
        simp only [hs] at hne ⊢
        by_cases hjm : j = minK L i
        · subst hjm; exact hl
        · exact ltE_trans hl (ih (by omega) (by omega) (by omega) j (by omega) hjm)
      | false =>
        rw [hl, if_neg (by simp)] at hs
        simp only [hs] at hne ⊢
        by_cases hji : j = i
        · subst hji
          exact ltE_total (ho _ (List.getElem_mem _)) (ho _ (List.getElem_mem _)) hl hd'
        · exact ih (by omega) (by omega) (by omega) j (by omega) hne
theorem minP_lt {L : List En} (h : 0 < L.length) : minP L < L.length := minK_lt h (Nat.le_refl _)
theorem minP_least {L : List En} (hd : Dis L) (ho : ∀ e ∈ L, OkE e) (h : 0 < L.length) (j : Nat) (hj : j < L.length) (hne : j ≠ minP L) : ltE (L[minP L]'(minP_lt h)) L[j] = true :=
  minK_least hd ho h (Nat.le_refl _) (minP_lt h) j hj hne
/-- What is less than all others is the least. -/
theorem minP_eq {L : List En} (hd : Dis L) (ho : ∀ e ∈ L, OkE e) {i : Nat} (hi : i < L.length) (h : ∀ j (hj : j < L.length), j ≠ i → ltE L[i] L[j] = true) : i = minP L := by
  by_cases e : i = minP L
  · exact e
  · have h1 := minP_least hd ho (by omega) i hi e
    have h2 := h (minP L) (minP_lt (by omega)) (fun e' => e e'.symm)
    have := ltE_trans h1 h2
    rw [ltE_irr] at this
    cases this

/-- What is put, and what goes. -/
def beatsP (L : List En) (n : ByteArray) (t r now : Int) : Bool := L.any fun y => sameK n t y && decide (now < y.u) && decide (r < y.r)
def leftP (L : List En) (n : ByteArray) (t now : Int) : List En := L.filter fun y => !sameK n t y && decide (now < y.u)
def cutP (most : Nat) (L : List En) : List En := if L.length = most then L.eraseIdx (minP L) else L
def mayE (e : En) (now : Int) : Bool := isName e.n.data.toList && decide (1 ≤ e.t) && decide (e.t ≤ 65535) && decide (e.ds ≠ []) && decide (1 ≤ e.r) && decide (e.r ≤ 3) && decide (now < e.u) && decide (0 ≤ now) && decide (now ≤ 1099511627776)
def fdB (n : ByteArray) : ByteArray := ⟨(foldR n.data.toList).toArray⟩
def heldE (e : En) : En := { e with n := fdB e.n }
def putP (most : Nat) (L : List En) (e : En) (now : Int) : List En := if mayE e now && !beatsP L (fdB e.n) e.t e.r now then cutP most (leftP L (fdB e.n) e.t now) ++ [heldE e] else L
def errP (e : En) (now : Int) : Int := if mayE e now then 0 else 1300
def getP (L : List En) (n : ByteArray) (t now : Int) : Option En := L.find? fun y => sameK (fdB n) t y && decide (now < y.u)

theorem fdB_list (n : ByteArray) : (fdB n).data.toList = foldR n.data.toList := by simp [fdB]
theorem mayE_parts {e : En} {now : Int} (h : mayE e now = true) : isName e.n.data.toList = true ∧ 1 ≤ e.t ∧ e.t ≤ 65535 ∧ e.ds ≠ [] ∧ 1 ≤ e.r ∧ e.r ≤ 3 ∧ now < e.u ∧ 0 ≤ now ∧ now ≤ 1099511627776 := by
  unfold mayE at h
  simp only [Bool.and_eq_true, decide_eq_true_eq] at h
  obtain ⟨⟨⟨⟨⟨⟨⟨⟨h1, h2⟩, h3⟩, h4⟩, h5⟩, h6⟩, h7⟩, h8⟩, h9⟩ := h
  exact ⟨h1, h2, h3, h4, h5, h6, h7, h8, h9⟩
theorem held_ok {e : En} {now : Int} (h : mayE e now = true) (hl : e.ds.length ≤ 8796093022000) (hs : ∀ d ∈ e.ds, d.size ≤ 140737488351232) : OkE (heldE e) := by
  obtain ⟨h1, h2, h3, _⟩ := mayE_parts h
  have e1 : foldR e.n.data.toList = foldL e.n.data.toList := by unfold foldR; rw [if_pos h1]
  refine ⟨⟨?_, ?_, h2, h3⟩, hl, hs⟩
  · show isName (fdB e.n).data.toList = true
    rw [fdB_list, e1, name_fold]; exact h1
  · show foldL (fdB e.n).data.toList = (fdB e.n).data.toList
    rw [fdB_list, e1, fold_twice]

theorem left_ok {L : List En} (h : ∀ e ∈ L, OkE e) (n : ByteArray) (t now : Int) : ∀ e ∈ leftP L n t now, OkE e := fun e he => h e ((List.mem_filter.1 he).1)
theorem cut_mem {most : Nat} {L : List En} {e : En} (h : e ∈ cutP most L) : e ∈ L := by
  unfold cutP at h
  split at h
  · exact List.mem_of_mem_eraseIdx h
  · exact h
theorem cut_len {most : Nat} {L : List En} (h : L.length ≤ most) (hm : 1 ≤ most) : (cutP most L).length + 1 ≤ most := by
  unfold cutP
  split
  · rename_i e; rw [List.length_eraseIdx_of_lt (minP_lt (by omega))]; omega
  · omega
theorem put_ok {most : Nat} {L : List En} {e : En} {now : Int} (h : ∀ e ∈ L, OkE e) (hl : e.ds.length ≤ 8796093022000) (hs : ∀ d ∈ e.ds, d.size ≤ 140737488351232) : ∀ x ∈ putP most L e now, OkE x := by
  intro x hx
  unfold putP at hx
  split at hx
  · rename_i hc
    rcases List.mem_append.1 hx with hx | hx
    · exact left_ok h _ _ _ _ (cut_mem hx)
    · simp at hx; subst hx
      simp only [Bool.and_eq_true] at hc
      exact held_ok hc.1 hl hs
  · exact h x hx
theorem put_len {most : Nat} {L : List En} {e : En} {now : Int} (h : L.length ≤ most) (hm : 1 ≤ most) : (putP most L e now).length ≤ most := by
  unfold putP
  split
  · have h1 : (leftP L (fdB e.n) e.t now).length ≤ most := Nat.le_trans (List.length_filter_le _ _) h
    have := cut_len h1 hm
    simp; omega
  · exact h
theorem Dis.sub {L M : List En} (h : Dis L) (hs : M.Sublist L) : Dis M := List.Pairwise.sublist hs h
theorem cut_dis {most : Nat} {L : List En} (h : Dis L) : Dis (cutP most L) := by
  unfold cutP
  split
  · exact h.sub (List.eraseIdx_sublist _ _)
  · exact h
theorem Dis.snoc {L : List En} {e : En} (h : Dis L) (hn : ∀ x ∈ L, sameK e.n e.t x = false) : Dis (L ++ [e]) := by
  refine List.pairwise_append.2 ⟨h, List.pairwise_singleton _ _, fun x hx y hy => ?_⟩
  simp at hy
  subst hy
  exact sameK_symm (hn x hx)
theorem left_not {L : List En} {n : ByteArray} {t now : Int} {x : En} (h : x ∈ leftP L n t now) : sameK n t x = false := by
  unfold leftP at h
  have := (List.mem_filter.1 h).2
  simp only [Bool.and_eq_true, Bool.not_eq_true'] at this
  exact this.1
theorem put_dis {most : Nat} {L : List En} {e : En} {now : Int} (h : Dis L) : Dis (putP most L e now) := by
  unfold putP
  split
  · exact (cut_dis (h.filter _)).snoc (fun x hx => left_not (cut_mem hx))
  · exact h

/-- Striking one is striking all of its name and type. -/
theorem erase_filter : ∀ {L : List En} (_ : Dis L) {i : Nat} (hi : i < L.length), L.filter (fun y => !sameK L[i].n L[i].t y) = L.eraseIdx i := by
  intro L
  induction L with
  | nil => intro _ i hi; simp at hi
  | cons a L ih =>
    intro hd i hi
    have hd2 := List.pairwise_cons.1 hd
    cases i with
    | zero =>
      have : sameK a.n a.t a = true := sameK_iff.2 ⟨rfl, rfl⟩
      simp only [List.getElem_cons_zero, List.filter_cons, this, List.eraseIdx_cons_zero]
      simp only [Bool.not_true, Bool.false_eq_true, if_false]
      exact List.filter_eq_self.2 (fun y hy => by rw [hd2.1 y hy]; rfl)
    | succ i =>
      simp only [List.getElem_cons_succ, List.filter_cons, List.eraseIdx_cons_succ]
      have hi' : i < L.length := by simp at hi; omega
      have : sameK L[i].n L[i].t a = false := sameK_symm (hd2.1 _ (List.getElem_mem _))
      rw [this, Bool.not_false, if_pos rfl, ih hd2.2 hi']

/-- All, by names and types. -/
def befE (x e : En) : Bool := decide (cK x.n x.t e.n e.t < 0)
def insE (e : En) (out : List En) : List En := out.takeWhile (fun x => befE x e) ++ e :: out.dropWhile (fun x => befE x e)
def allP (L : List En) : List En := L.foldl (fun out e => insE e out) []
def RisE (L : List En) : Prop := L.Pairwise (fun x y => cK x.n x.t y.n y.t < 0)
theorem insE_perm (e : En) (out : List En) : (insE e out).Perm (e :: out) := by
  unfold insE
  have : (out.takeWhile (fun x => befE x e) ++ out.dropWhile (fun x => befE x e)) = out := List.takeWhile_append_dropWhile
  exact List.perm_middle.trans (by rw [this])
theorem insE_rise {e : En} {out : List En} (h : RisE out) (ho : ∀ x ∈ out, OkE x) (he : OkE e) (hn : ∀ x ∈ out, sameK e.n e.t x = false) : RisE (insE e out) := by
  unfold insE
  induction out with
  | nil => exact List.pairwise_singleton _ _
  | cons a out ih =>
    have h2 := List.pairwise_cons.1 h
    have ih2 := ih h2.2 (fun x hx => ho x (List.mem_cons_of_mem _ hx)) (fun x hx => hn x (List.mem_cons_of_mem _ hx))
    cases hb : befE a e with
    | true =>
      rw [List.takeWhile_cons_of_pos (p := fun x => befE x e) hb, List.dropWhile_cons_of_pos (p := fun x => befE x e) hb]
      refine List.pairwise_cons.2 ⟨fun x hx => ?_, ih2⟩
      rcases List.mem_append.1 hx with hx | hx
      · exact h2.1 x ((List.takeWhile_sublist _).subset hx)
      · rcases List.mem_cons.1 hx with rfl | hx
        · unfold befE at hb; simpa using hb
        · exact h2.1 x (List.dropWhile_sublist _ |>.subset hx)
    | false =>
      rw [List.takeWhile_cons_of_neg (p := fun x => befE x e) (by rw [hb]; simp), List.dropWhile_cons_of_neg (p := fun x => befE x e) (by rw [hb]; simp), List.nil_append]
      have hlt : cK e.n e.t a.n a.t < 0 := by
        unfold befE at hb
        simp only [decide_eq_false_iff_not] at hb
        have h3 := cK_anti a.n a.t e.n e.t
        have h4 : cK a.n a.t e.n e.t ≠ 0 := fun e' => by
          have h5 := cK_zero (ho a (List.mem_cons_self ..)).k he.k e'
          have h6 := hn a (List.mem_cons_self ..)
          rw [sameK_iff.2 h5] at h6
          cases h6
        omega
      refine List.pairwise_cons.2 ⟨fun x hx => ?_, h⟩
      rcases List.mem_cons.1 hx with rfl | hx
      · exact hlt
      · exact cK_trans hlt (h2.1 x hx)
theorem all_fold : ∀ (L out : List En), (L.foldl (fun out e => insE e out) out).Perm (out ++ L) := by
  intro L
  induction L with
  | nil => intro out; simp
  | cons e L ih =>
    intro out
    refine (ih (insE e out)).trans ?_
    refine ((insE_perm e out).append_right L).trans ?_
    exact List.perm_middle.symm
theorem all_perm (L : List En) : (allP L).Perm L := by have := all_fold L []; rw [List.nil_append] at this; exact this
theorem all_rise_fold : ∀ (L out : List En), RisE out → (∀ x ∈ out, OkE x) → (∀ x ∈ L, OkE x) → Dis L → (∀ x ∈ L, ∀ y ∈ out, sameK x.n x.t y = false) → RisE (L.foldl (fun out e => insE e out) out) := by
  intro L
  induction L with
  | nil => intro out h _ _ _ _; exact h
  | cons e L ih =>
    intro out h ho hL hd hn
    have hd2 := List.pairwise_cons.1 hd
    refine ih _ (insE_rise h ho (hL e (List.mem_cons_self ..)) (hn e (List.mem_cons_self ..))) (fun x hx => ?_) (fun x hx => hL x (List.mem_cons_of_mem _ hx)) hd2.2 (fun x hx y hy => ?_)
    · rcases List.mem_cons.1 ((insE_perm e out).mem_iff.1 hx) with rfl | hx
      · exact hL x (List.mem_cons_self ..)
      · exact ho x hx
    · rcases List.mem_cons.1 ((insE_perm e out).mem_iff.1 hy) with rfl | hy
      · exact sameK_symm (hd2.1 x hx)
      · exact hn x (List.mem_cons_of_mem _ hx) y hy
theorem all_rise {L : List En} (ho : ∀ x ∈ L, OkE x) (hd : Dis L) : RisE (allP L) := all_rise_fold L [] List.Pairwise.nil (fun x hx => by simp at hx) ho hd (fun _ _ y hy => by simp at hy)
/-- Two rising rows of the same entries are one. -/
theorem rise_one : ∀ {L M : List En}, RisE L → RisE M → L.Perm M → L = M := by
  intro L
  induction L with
  | nil => intro M _ _ hp; exact (List.Perm.nil_eq hp)
  | cons a L ih =>
    intro M hL hM hp
    cases M with
    | nil => exact absurd hp.length_eq (by simp)
    | cons b M =>
      have hL2 := List.pairwise_cons.1 hL
      have hM2 := List.pairwise_cons.1 hM
      have hab : a = b := by
        rcases List.mem_cons.1 (hp.mem_iff.1 (List.mem_cons_self ..)) with h | h
        · exact h
        · rcases List.mem_cons.1 (hp.mem_iff.2 (List.mem_cons_self ..)) with h' | h'
          · exact h'.symm
          · have h1 := hM2.1 a h
            have h2 := hL2.1 b h'
            have := cK_anti a.n a.t b.n b.t
            omega
      subst hab
      rw [ih hL2.2 hM2.2 (List.Perm.cons_inv hp)]
theorem all_len (L : List En) : (allP L).length = L.length := (all_perm L).length_eq

end Go.Proofs.Ytcmhjlflgedcdaa
