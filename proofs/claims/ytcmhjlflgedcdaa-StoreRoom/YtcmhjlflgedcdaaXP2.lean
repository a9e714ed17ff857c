/- What Clone of the library gives: the same bytes; then Parent of package rel. -/
import Derived.Test.YtcmhjlflgedcdaaXP1
import Derived.Lib.BufferWrite
import Derived.Lib.UnsafeStr
import Derived.Laws.MakeOwn
import Derived.Test.YtcmhjlflgedcdaaRows
import Derived.WalkKit
import Derived.WalkMore
import Derived.OwnWalk
import Derived.Deep.LoopGhost
import Derived.Deep.AppendLies
import Derived.Deep.DeepMust
import Derived.Deep.QuietTactic
import Derived.Deep.RegionWith
import Derived.BigQuiet
import Derived.Laws.IdiomStrings
import Derived.Laws.BytesArg
import Derived.Laws.Concat
import Derived.Laws.Bits128
import Derived.LoopN
import Derived.WalkSpells
namespace Go.Proofs.Ytcmhjlflgedcdaa
open Go.RowKit
open Pl

theorem below_drew {w w' : World} (h : ∃ m, w' = w.drewN m) : Below w.heap.size w w' := by
  obtain ⟨m, rfl⟩ := h
  exact ⟨rfl, rfl, rfl, Nat.le_refl _, fun _ _ => rfl⟩

/-- The world behind a copy of bytes. -/
theorem clone_steps (s : ByteArray) (w : World) (h0 : s.size ≠ 0) (h1 : s.size ≤ 140737488355328) : ∃ (wa wb wc : World),
    (∀ u : World, u = w → (Instr.makeSlice 58 (.int .i64 (s.size : Int)) (.int .i64 (s.size : Int))).run Try.prog u = .ok (.slice (some ⟨w.heap.size, 0, none⟩) s.size s.size) wa) ∧
    (Builtin.copy_ #[58, 9] 3 #[.slice (some ⟨w.heap.size, 0, none⟩) s.size s.size, .string s]).run Try.prog wa = .ok (goInt s.size) wb ∧
    (Builtin.unsafeString_ #[106, 3] 9 #[.pointer (some ⟨w.heap.size, 0, none⟩), .int .i64 (s.size : Int)]).run Try.prog wb = .ok (.string s) wc ∧ Below w.heap.size w wc := by
  obtain ⟨i0, hi, hz0, hz1, hz2⟩ := info_parts info5
  have hone : (Try.prog.info? 5).map (·.size) = some 1 := by rw [hi]; simp [hz1]
  have hco : Try.prog.cellsOf 5 = 1 := by simp [Program.cellsOf, hi, hz1]
  have hmk := run_make (P := Try.prog) w 58 5 i0 (.int .u8 0) Try.underlying58 hi hz0 .i64 .i64 (s.size : Int) (s.size : Int) (by omega) (by omega) (by rw [hz2]; omega) (by omega)
  obtain ⟨M, hM⟩ : ∃ M, M = madeCells (Value.int .u8 0).cells (((s.size : Nat) : Int).toNat * i0.size) := ⟨_, rfl⟩
  have hMs : M.size = s.size := by rw [hM, size_madeCells, hz1]; simp
  rw [← hM] at hmk
  have hcp := Lib.run_copy_row_string (P := Try.prog) (w.alloc (.cells M 5)) 58 9 3 5 w.heap.size 0 s.size s.size s M 5 Try.underlying58 hone (heap_alloc_new w _) (Nat.le_refl _) (by omega)
  obtain ⟨Y, hY⟩ : ∃ Y, Y = (M.toList.take 0 ++ Lib.byteCells s.data.toList ++ M.toList.drop (0 + s.size)).toArray := ⟨_, rfl⟩
  rw [← hY] at hcp
  have hYl : Y.toList = Lib.byteCells s.data.toList := by
    rw [hY]
    simp [List.drop_of_length_le, hMs]
  have hYs : Y.size = s.size := by rw [← Array.length_toList, hYl, Lib.byteCells_length, data_len]
  have hgY : ((w.alloc (.cells M 5)).setRow w.heap.size Y).heap[w.heap.size]? = some (.cells Y 5 (0, 0)) := setRow_heap _ _ M _ 5 (0, 0) (heap_alloc_new w _)
  have hne : s.data.toList ≠ [] := fun e => h0 (by rw [← data_len, e]; rfl)
  have hus := Lib.run_unsafeString_row (P := Try.prog) ((w.alloc (.cells M 5)).setRow w.heap.size Y) 106 3 9 5 Try.underlying106 hco w.heap.size Y.size (by unfold World.shape?; rw [hgY]) s.data.toList hne (by rw [data_len]; omega) (by rw [data_len]; omega)
    (fun j x hx => Lib.cells_of_row hgY Y.size j _ (by rw [List.take_of_length_le (by rw [Array.length_toList]; exact Nat.le_refl _), hYl]; simp [Lib.byteCells, hx]))
  rw [data_len] at hus
  refine ⟨_, _, _, fun u hu => by rw [hu]; simpa using hmk, hcp, hus, ?_⟩
  have hb1 : Below w.heap.size w (w.alloc (.cells M 5)) := lay (Below.refl _ _) _
  have hb2 : Below w.heap.size (w.alloc (.cells M 5)) ((w.alloc (.cells M 5)).setRow w.heap.size Y) := ⟨rfl, rfl, rfl, by simp, fun k hk => setRow_other _ _ _ _ (by omega)⟩
  exact Lib.below_freeze (hb1.trans hb2) (p := ⟨w.heap.size, 0, none⟩) (Nat.le_refl _) _

set_option maxRecDepth 20000 in
theorem liteClone_any (s : ByteArray) (w : World) (h1 : s.size ≤ 140737488355328) :
    Calls Try.prog 55 #[.string s] w fun e w' => e = .returned (.string s) ∧ Below w.heap.size w w' := by
  by_cases h0 : s.size = 0
  · have hs : s = ⟨#[]⟩ := by
      apply ByteArray.ext
      exact Array.eq_empty_of_size_eq_zero h0
    subst hs
    go_enter Try.func55, Try.ntmps55
    go_wp2
    go_ret
    exact ⟨rfl, Below.refl _ _⟩
  · obtain ⟨wa, wb, wc, hmk0, hcp, hus, hbel⟩ := clone_steps s w h0 h1
    have hmk := hmk0 w rfl
    clear hmk0
    have h00 : ((s.size : Int) == 0) = false := by rw [beq_eq_false_iff_ne]; omega
    have h02 : (0 : Int) < (s.size : Int) := by omega
    go_enter Try.func55, Try.ntmps55
    go_wp2
    go_ret
    exact ⟨rfl, hbel⟩

theorem clone_far (s : ByteArray) (w : World) (h1 : s.size ≤ 140737488355328) :
    Calls Try.prog 47 #[.string s] w fun e w' => e = .returned (.string s) ∧ Below w.heap.size w w' := by
  go_enter Try.func47, Try.ntmps47
  go_wp2_with (go_at_call 55; refine (liteClone_any _ _ h1).mono ?_; rintro e w1 ⟨rfl, hb1⟩)
  go_ret
  exact ⟨rfl, hb1⟩
theorem clone_any (s : ByteArray) (w : World) (h1 : s.size ≤ 1000000) :
    Calls Try.prog 47 #[.string s] w fun e w' => e = .returned (.string s) ∧ Below w.heap.size w w' := clone_far s w (by omega)

end Go.Proofs.Ytcmhjlflgedcdaa

/- What Parent, Last and Child answer: plain functions on bytes, with no word of the program. -/
namespace Go.Proofs.Ytcmhjlflgedcdaa.Pl

/-- A name without its first label. -/
def parR (l : List UInt8) : Option (List UInt8) := if isName l = true ∧ (labs l).length ≠ 0 then some (enc ((labs l).drop 1)) else none
/-- A name's last k labels. -/
def lastR (l : List UInt8) (k : Int) : Option (List UInt8) := if isName l = true ∧ 0 ≤ k ∧ k ≤ (labs l).length then some (lastN l k.toNat) else none
/-- A label ahead of a name. -/
def childR (x l : List UInt8) : Option (List UInt8) := if 1 ≤ x.length ∧ x.length ≤ 63 ∧ isName l = true ∧ 1 + x.length + l.length ≤ 255 then some (UInt8.ofNat x.length :: (x ++ l)) else none
/-- A name folded. -/
def foldR (l : List UInt8) : List UInt8 := if isName l = true then foldL l else []

theorem last_drop {l : List UInt8} (h : isName l = true) (k : Nat) : lastN l k = l.drop (pos (labs l) ((labs l).length - k)) := by
  obtain ⟨e1, _, _, _⟩ := enc_of h
  unfold lastN
  rw [← enc_drop, ← e1]

theorem name_pos {l : List UInt8} (h : isName l = true) : 0 < l.length := by
  obtain ⟨e1, _, _, _⟩ := enc_of h
  have := pos_lt (labs l) 0
  rw [← e1] at this
  omega

theorem labs_zero {l : List UInt8} (h : isName l = true) : (labs l).length = 0 ↔ l = [0] := by
  obtain ⟨e1, _, _, _⟩ := enc_of h
  constructor
  · intro hz
    rw [e1, List.eq_nil_of_length_eq_zero hz]; rfl
  · intro hz; rw [hz]; decide

/-- The first byte tells where the second label begins. -/
theorem first_len {l : List UInt8} (h : isName l = true) (h0 : (labs l).length ≠ 0) : 1 + (l[0]'(name_pos h)).toNat = pos (labs l) 1 ∧ 1 + (l[0]'(name_pos h)).toNat < l.length ∧ 1 ≤ (l[0]'(name_pos h)).toNat ∧ (l[0]'(name_pos h)).toNat ≤ 63 := by
  obtain ⟨e1, e2, _, _⟩ := enc_of h
  have h1 := pos_at (labs l) 0 (by omega)
  have h2 := e2 (labs l)[0] (List.getElem_mem _)
  have h3 : l[0]'(name_pos h) = UInt8.ofNat (labs l)[0].length := by
    rw [← h1]
    have e : ∀ (a b : List UInt8) (i j : Nat) (ha : i < a.length) (hb : j < b.length), a = b → i = j → a[i] = b[j] := by
      intro a b i j ha hb e f; subst e; subst f; rfl
    exact e _ _ _ _ _ _ e1 (pos_zero _).symm
  have h4 : (l[0]'(name_pos h)).toNat = (labs l)[0].length := by rw [h3, len_byte h2.2]
  have h5 := pos_succ (labs l) 0 (by omega)
  rw [pos_zero, show 0 + 1 = 1 from rfl] at h5
  have h6 := pos_lt (labs l) 1
  rw [← e1] at h6
  omega

theorem par_drop {l : List UInt8} (h : isName l = true) (h0 : (labs l).length ≠ 0) : parR l = some (l.drop (1 + (l[0]'(name_pos h)).toNat)) := by
  obtain ⟨e1, _, _, _⟩ := enc_of h
  unfold parR
  rw [if_pos ⟨h, h0⟩, (first_len h h0).1]
  congr 1
  rw [← enc_drop, ← e1]

theorem par_none {l : List UInt8} (h : isName l = false ∨ (labs l).length = 0) : parR l = none := by
  unfold parR
  rw [if_neg]
  rintro ⟨h1, h2⟩
  rcases h with h | h
  · rw [h] at h1; simp at h1
  · exact h2 h

end Go.Proofs.Ytcmhjlflgedcdaa.Pl

/- What Parent, Last, Same, Above and Compare of package rel give, for every argument. -/
namespace Go.Proofs.Ytcmhjlflgedcdaa
open Go.RowKit
open Pl

/-- What Parent, Last and Child hand back. -/
def optV : Option (List UInt8) → Value
  | some l => .tuple #[.string ⟨l.toArray⟩, .int .i64 0]
  | none => .tuple #[.string ⟨#[]⟩, .int .i64 200]

theorem ret_some {r : Option (List UInt8)} {t : ByteArray} (h : r = some t.data.toList) : Ending.returned (.tuple #[.string t, .int .i64 0]) = .returned (optV r) := by rw [h]; rfl
theorem ret_none {r : Option (List UInt8)} (h : r = none) : Ending.returned (.tuple #[.string ⟨#[]⟩, .int .i64 200]) = .returned (optV r) := by rw [h]; rfl

theorem ext_list (s : ByteArray) (i j : Nat) : (s.extract i j).data.toList = (s.data.toList.drop i).take (j - i) := by simp [List.extract_eq_take_drop]
theorem ext_from (s : ByteArray) (i : Nat) : (s.extract i s.size).data.toList = s.data.toList.drop i := by
  rw [ext_list, List.take_of_length_le (by simp)]

theorem root_test {s : ByteArray} {b : Bool} (h : decide (s.data.toList = [0]) = b) : (s.toList == [0]) = b := by
  rw [ByteArray.toList_eq, ← h, Bool.eq_iff_iff]; simp

theorem orRoot_yes (s : ByteArray) (w : World) (hs : s.size ≤ maxLen) (h : isName s.data.toList = true) :
    Calls Try.prog 59 #[.string s] w fun e w' => e = .returned (.string s) ∧ w' = w := by
  go_enter Try.func59, Try.ntmps59
  go_wp2_with (go_at_call 44; refine (may_as _ true _ hs h).mono ?_; rintro e w' ⟨rfl, hw⟩; obtain rfl := hw.symm)
  go_ret
  exact ⟨rfl, rfl⟩
theorem orRoot_no (s : ByteArray) (w : World) (hs : s.size ≤ maxLen) (h : isName s.data.toList = false) :
    Calls Try.prog 59 #[.string s] w fun e w' => e = .returned (.string ⟨#[0]⟩) ∧ w' = w := by
  go_enter Try.func59, Try.ntmps59
  go_wp2_with (go_at_call 44; refine (may_as _ false _ hs h).mono ?_; rintro e w' ⟨rfl, hw⟩; obtain rfl := hw.symm)
  go_ret
  exact ⟨rfl, rfl⟩

end Go.Proofs.Ytcmhjlflgedcdaa

/- The order of names, label by label from the end: plain facts on bytes, with no word of the program. -/
namespace Go.Proofs.Ytcmhjlflgedcdaa.Pl

theorem fl_at (l : List UInt8) (k : Nat) (h1 : 1 ≤ k) (hk : k ≤ (labs l).length) : (fl l)[k - 1]'(by rw [fl_len]; omega) = foldL ((labs l)[(labs l).length - k]'(by omega)) := by
  unfold fl
  rw [List.getElem_reverse, List.getElem_map]
  congr 2
  simp
  omega

theorem cmp_start (a b : List UInt8) : cmpN a b = lexG (lexG cB) ((fl a).drop (1 - 1)) ((fl b).drop (1 - 1)) := rfl

theorem cmp_step {a b : List UInt8} {k : Nat} (h : cmpN a b = lexG (lexG cB) ((fl a).drop (k - 1)) ((fl b).drop (k - 1))) (h1 : 1 ≤ k) (ha : k ≤ (labs a).length) (hb : k ≤ (labs b).length) :
    cmpN a b = if ord ((labs a)[(labs a).length - k]'(by omega)) ((labs b)[(labs b).length - k]'(by omega)) = 0 then lexG (lexG cB) ((fl a).drop k) ((fl b).drop k) else ord ((labs a)[(labs a).length - k]'(by omega)) ((labs b)[(labs b).length - k]'(by omega)) := by
  rw [h, lexG_drop ord_ord _ _ (k - 1) (by rw [fl_len]; omega) (by rw [fl_len]; omega), fl_at a k h1 ha, fl_at b k h1 hb, show k - 1 + 1 = k from by omega]
  rfl

theorem cmp_next {a b : List UInt8} {k : Nat} (h : cmpN a b = lexG (lexG cB) ((fl a).drop (k - 1)) ((fl b).drop (k - 1))) (h1 : 1 ≤ k) (ha : k ≤ (labs a).length) (hb : k ≤ (labs b).length)
    (hz : ord ((labs a)[(labs a).length - k]'(by omega)) ((labs b)[(labs b).length - k]'(by omega)) = 0) : cmpN a b = lexG (lexG cB) ((fl a).drop (k + 1 - 1)) ((fl b).drop (k + 1 - 1)) := by
  rw [cmp_step h h1 ha hb, if_pos hz, show k + 1 - 1 = k from by omega]
theorem cmp_here {a b : List UInt8} {k : Nat} (h : cmpN a b = lexG (lexG cB) ((fl a).drop (k - 1)) ((fl b).drop (k - 1))) (h1 : 1 ≤ k) (ha : k ≤ (labs a).length) (hb : k ≤ (labs b).length)
    (hz : ord ((labs a)[(labs a).length - k]'(by omega)) ((labs b)[(labs b).length - k]'(by omega)) ≠ 0) : ord ((labs a)[(labs a).length - k]'(by omega)) ((labs b)[(labs b).length - k]'(by omega)) = cmpN a b := by
  rw [cmp_step h h1 ha hb, if_neg hz]
theorem cmp_end {a b : List UInt8} {k : Nat} (h : cmpN a b = lexG (lexG cB) ((fl a).drop (k - 1)) ((fl b).drop (k - 1))) (hk : k - 1 = (labs a).length ∨ k - 1 = (labs b).length) (ha : k - 1 ≤ (labs a).length) (hb : k - 1 ≤ (labs b).length) :
    sgn ((labs a).length : Int) ((labs b).length : Int) = cmpN a b := by
  rw [h, lexG_end _ _ (k - 1) (by rw [fl_len, fl_len]; exact hk) (by rw [fl_len]; exact ha) (by rw [fl_len]; exact hb), fl_len, fl_len]

theorem root_name : isName [0] = true := by decide
theorem root_labs : labs [0] = [] := by decide

/-- A name, or the root in its place. -/
def orR (l : List UInt8) : List UInt8 := if isName l = true then l else [0]
theorem orR_name (l : List UInt8) : isName (orR l) = true := by
  unfold orR; split
  · assumption
  · exact root_name
theorem orR_labs (l : List UInt8) : labs (orR l) = labs l := by
  unfold orR; split
  · rfl
  · rename_i h
    rw [root_labs, labs_none (by simpa using h)]
theorem orR_cmp (a b : List UInt8) : cmpN (orR a) (orR b) = cmpN a b := by unfold cmpN fl; rw [orR_labs, orR_labs]

theorem above_few {a b : List UInt8} (h : (labs b).length < (labs a).length) : aboveB a b = false := by
  unfold aboveB
  rw [show decide ((labs a).length ≤ (labs b).length) = false from by simp; omega]
  simp

end Go.Proofs.Ytcmhjlflgedcdaa.Pl

/- What Last and Above of package rel give, for every argument. -/
namespace Go.Proofs.Ytcmhjlflgedcdaa
open Go.RowKit
open Pl

theorem fill_at {w : World} {g : Nat} {C : Array Value} {ls : List (List UInt8)} (h : w.heap[g]? = some (.cells C 102 (0, 0))) (hF : Fill ls ls.length C) : PlAt w g ls :=
  ⟨by rw [cell_of_row w g 128 C 102 (0, 0) h]; exact hF.2.1, fun i hi => by rw [cell_of_row w g i C 102 (0, 0) h]; exact hF.2.2.1 i hi⟩

theorem Fill.all {ls : List (List UInt8)} {c : Nat} {C : Array Value} (h : Fill ls c C) : C.all (·.oneCell') = true := h.2.2.2

theorem few {s : ByteArray} (h : isName s.data.toList = true) : (labs s.data.toList).length ≤ 127 := by
  obtain ⟨e1, e2, _, e4⟩ := enc_of h
  have := labs_few e2
  rw [← e1] at this
  omega

theorem pos_in {s : ByteArray} (h : isName s.data.toList = true) (i : Nat) : pos (labs s.data.toList) i < s.size := by
  obtain ⟨e1, _, _, _⟩ := enc_of h
  have := pos_lt (labs s.data.toList) i
  rw [← e1, data_len] at this
  exact this

theorem last_ext {s : ByteArray} (h : isName s.data.toList = true) (k : Nat) : (s.extract (pos (labs s.data.toList) ((labs s.data.toList).length - k)) s.size).data.toList = lastN s.data.toList k := by
  rw [ext_from, last_drop h]

theorem zero47 : ∃ Z : Array Value, (∀ w, (zeroValue 102).run Try.prog w = .ok (.agg Z) w) ∧ Z.size = 129 := ⟨Z47, (zero_of_info info47).1, (fill_start []).1⟩

theorem last_no {l : List UInt8} {k : Int} (h : isName l = false ∨ k < 0 ∨ ((labs l).length : Int) < k) : lastR l k = none := by
  unfold lastR
  rw [if_neg]
  rintro ⟨h1, h2, h3⟩
  rcases h with h | h | h
  · rw [h] at h1; simp at h1
  · omega
  · omega
theorem last_yes {l : List UInt8} {k : Nat} (h : isName l = true) (hk : k ≤ (labs l).length) : lastR l (k : Int) = some (lastN l k) := by
  unfold lastR
  rw [if_pos ⟨h, by omega, by omega⟩]; rfl

end Go.Proofs.Ytcmhjlflgedcdaa

/- What Above of package rel gives, for every argument. -/
namespace Go.Proofs.Ytcmhjlflgedcdaa
open Go.RowKit
open Pl

theorem two_first (w : World) (Z : Array Value) : ((w.alloc (.cells Z 102)).alloc (.cells Z 102)).heap[w.heap.size]? = some (.cells Z 102 (0, 0)) := by
  rw [Below.heap_alloc (w.alloc (.cells Z 102)) _ w.heap.size (by simp)]
  exact heap_alloc_last w _
theorem two_second (w : World) (Z : Array Value) : ((w.alloc (.cells Z 102)).alloc (.cells Z 102)).heap[w.heap.size + 1]? = some (.cells Z 102 (0, 0)) := by
  have := heap_alloc_last (w.alloc (.cells Z 102)) (.cells Z 102)
  simpa using this

/-- Two new blocks, each written: what lies there, and that nothing else has turned. -/
theorem two_stored {w w2 w3 w4 : World} {Z C : Array Value} (hb : Below w.heap.size w w2)
    (h1 : w3.heap[w2.heap.size]? = some (.cells C 102 (0, 0))) (h2 : ((w2.alloc (.cells Z 102)).alloc (.cells Z 102)).grownBy w3 (some w2.heap.size)) (h3 : w3.heap.size = ((w2.alloc (.cells Z 102)).alloc (.cells Z 102)).heap.size)
    (k2 : w3.grownBy w4 (some (w2.heap.size + 1))) :
    w4.heap[w2.heap.size]? = some (.cells C 102 (0, 0)) ∧ Below w.heap.size w w4 := by
  have hs := hb.size
  have hs3 : w3.heap.size = w2.heap.size + 2 := by rw [h3]; simp
  refine ⟨?_, ?_⟩
  · rw [k2.block w2.heap.size (by omega) (by intro e; have := Option.some.inj e; omega)]; exact h1
  · have b1 : Below w.heap.size w ((w2.alloc (.cells Z 102)).alloc (.cells Z 102)) := lay (lay hb _) _
    have b2 : Below w.heap.size ((w2.alloc (.cells Z 102)).alloc (.cells Z 102)) w3 := ⟨h2.os, h2.tape, h2.output, h2.size, fun i hi => h2.block i (by simp; omega) (by intro e; have := Option.some.inj e; omega)⟩
    have b3 : Below w.heap.size w3 w4 := ⟨k2.os, k2.tape, k2.output, k2.size, fun i hi => k2.block i (by omega) (by intro e; have := Option.some.inj e; omega)⟩
    exact (b1.trans b2).trans b3

theorem two_left {w2 w3 : World} {Z : Array Value} (h2 : ((w2.alloc (.cells Z 102)).alloc (.cells Z 102)).grownBy w3 (some w2.heap.size)) : w3.heap[w2.heap.size + 1]? = some (.cells Z 102 (0, 0)) := by
  rw [h2.block (w2.heap.size + 1) (by simp) (by intro e; have := Option.some.inj e; omega)]
  exact two_second w2 Z

theorem above_ord {a b t : List UInt8} (h1 : isName a = true) (h2 : isName b = true) (h3 : (labs a).length ≤ (labs b).length) (ht : t = lastN b (labs a).length) : (ord a t == 0) = aboveB a b := by
  unfold aboveB
  rw [h1, h2, ht, Bool.eq_iff_iff]
  simp [h3, ord_zero]

end Go.Proofs.Ytcmhjlflgedcdaa

/- What Compare of package rel gives, for every argument. -/
namespace Go.Proofs.Ytcmhjlflgedcdaa
open Go.RowKit
open Pl

theorem drew_cell {w u : World} (h : ∃ m, u = w.drewN m) (a : Addr) : u.cell? a = w.cell? a := by obtain ⟨m, rfl⟩ := h; rfl
theorem drew_trans {a b c : World} (h : ∃ m, b = a.drewN m) (k : ∃ m, c = b.drewN m) : ∃ m, c = a.drewN m := by
  obtain ⟨m, rfl⟩ := k
  exact drew_more h

theorem lab_ext {s : ByteArray} (h : isName s.data.toList = true) (i : Nat) (hi : i < (labs s.data.toList).length) : (s.extract (pos (labs s.data.toList) i + 1) (pos (labs s.data.toList) (i + 1))).data.toList = (labs s.data.toList)[i] := by
  obtain ⟨e1, _, _, _⟩ := enc_of h
  have := pos_label (labs s.data.toList) i hi
  rw [← e1] at this
  rw [ext_list]
  exact this

/-- The k-th label from the end, as the places tell it. -/
theorem label_of (s : ByteArray) (w : World) (g n k : Nat) (h : isName s.data.toList = true) (hn : n = (labs s.data.toList).length) (hk1 : 1 ≤ k) (hk : k ≤ n) (hp : PlAt w g (labs s.data.toList)) :
    ∃ t : ByteArray, t.data.toList = (labs s.data.toList)[(labs s.data.toList).length - k]'(by omega) ∧ t.size ≤ maxLen ∧ ∀ u : World, (∃ m, u = w.drewN m) →
      Calls Try.prog 62 #[.pointer (some ⟨g, 0, none⟩), .string s, .int .i64 (k : Int)] u fun e w' => e = .returned (.string t) ∧ ∃ m, w' = u.drewN m := by
  subst hn
  have h255 := name_size h
  have hf := few h
  have hi : (labs s.data.toList).length - k < (labs s.data.toList).length := by omega
  have hs := pos_succ (labs s.data.toList) _ hi
  have hq := pos_in h ((labs s.data.toList).length - k + 1)
  refine ⟨_, lab_ext h _ hi, by unfold maxLen; simp; omega, fun u hu => ?_⟩
  refine plLabel_any s _ u g (labs s.data.toList).length k _ _ hk1 hk hf (by rw [drew_cell hu]; exact hp.1) (by rw [drew_cell hu]; exact hp.2 _ (by omega)) (by rw [drew_cell hu]; exact hp.2 _ (by omega)) (by omega) (by omega) (by omega) rfl

set_option maxRecDepth 20000 in
set_option maxHeartbeats 2000000 in
theorem compare_core (a b A B : ByteArray) (w : World) (hA : isName A.data.toList = true) (hB : isName B.data.toList = true)
    (hoa : ∀ u : World, Calls Try.prog 59 #[.string a] u fun e w' => e = .returned (.string A) ∧ w' = u) (hob : ∀ u : World, Calls Try.prog 59 #[.string b] u fun e w' => e = .returned (.string B) ∧ w' = u) :
    Calls Try.prog 51 #[.string a, .string b] w fun e w' => e = .returned (.int .i64 (cmpN A.data.toList B.data.toList)) ∧ Below w.heap.size w w' := by
  have HOA : Hid (∀ u : World, Calls Try.prog 59 #[.string a] u fun e w' => e = .returned (.string A) ∧ w' = u) := hoa
  have HOB : Hid (∀ u : World, Calls Try.prog 59 #[.string b] u fun e w' => e = .returned (.string B) ∧ w' = u) := hob
  clear hoa hob
  obtain ⟨Z, hz, hZs⟩ := zero47
  obtain ⟨n, hn⟩ : ∃ n, n = (labs A.data.toList).length := ⟨_, rfl⟩
  obtain ⟨m, hm⟩ : ∃ m, m = (labs B.data.toList).length := ⟨_, rfl⟩
  have HN : Hid (n = (labs A.data.toList).length) := hn
  have HM : Hid (m = (labs B.data.toList).length) := hm
  have h127 : n ≤ 127 := by rw [hn]; exact few hA
  have h127m : m ≤ 127 := by rw [hm]; exact few hB
  obtain ⟨M, hmin⟩ : ∃ M : Nat, (if m < n then (m : Int) else (n : Int)) = (M : Int) := by
    by_cases h : m < n
    · exact ⟨m, by rw [if_pos h]⟩
    · exact ⟨n, by rw [if_neg h]⟩
  have HMM : Hid ((M = n ∨ M = m) ∧ M ≤ n ∧ M ≤ m) := by
    unfold Hid
    split at hmin <;> omega
  have hM127 : M ≤ 127 := by have := HMM.out; omega
  have t1 : True := trivial
  have t2 : True := trivial
  have t3 : True := trivial
  have t4 : True := trivial
  clear hn hm
  go_enter Try.func51, Try.ntmps51
  go_wp2_with (first
    | (go_at_call 59; have _t := t1; go_must (refine (HOA.out _).mono ?_); rintro e w' ⟨rfl, hw⟩; obtain rfl := hw.symm; clear t1)
    | (go_at_call 59; have _t := t2; go_must (refine (HOB.out _).mono ?_); rintro e w' ⟨rfl, hw⟩; obtain rfl := hw.symm; clear t2)
    | (go_at_call 60; have _t := t3; refine (gather_any _ _ hA).mono ?_; rintro e w1 ⟨C, rfl, hbel1, hF⟩; have HF : Hid (Fill (labs A.data.toList) (labs A.data.toList).length C) := hF; clear hF t3)
    | (go_at_call 60; have _t := t4; refine (gather_any _ _ hB).mono ?_; rintro e w2 ⟨D, rfl, hbel2, hG⟩; have HG : Hid (Fill (labs B.data.toList) (labs B.data.toList).length D) := hG; clear hG t4)
    | (refine wpList_storePl _ rfl (.tmp 5) (.tmp 14) rfl w2.heap.size Z C rfl rfl (two_first _ _) hZs HF.out.1 HF.out.all ?_; intro w3 h1 h2 h3; go_must (refine wpList_storePl _ rfl (.tmp 6) (.tmp 16) rfl (w2.heap.size + 1) Z D rfl rfl (two_left h2) hZs HG.out.1 HG.out.all ?_); intro w4 k1 k2 k3; have hst := two_stored (next hbel1 hbel2) h1 h2 h3 k2; have HPA : Hid (PlAt w4 w2.heap.size (labs A.data.toList)) := fill_at hst.1 HF.out; have HPB : Hid (PlAt w4 (w2.heap.size + 1) (labs B.data.toList)) := fill_at k1 HG.out; have HBEL : Hid (Below w.heap.size w w4) := hst.2; clear hst k1 k2 k3 h1 h2 h3))
  clear hbel1 hbel2 hz hZs HF HG
  go_loopw [7] (fun i wr => ∃ (k : Nat), 1 ≤ k ∧ k ≤ M + 1 ∧ i = .int .i64 k ∧ Hid (∃ m, wr = w4.drewN m) ∧ Hid (cmpN A.data.toList B.data.toList = lexG (lexG cB) ((fl A.data.toList).drop (k - 1)) ((fl B.data.toList).drop (k - 1)))) (fun i _ => M + 1 - (intOf i).toNat)
  case atStart => exact ⟨1, Nat.le_refl _, by omega, rfl, ⟨0, rfl⟩, cmp_start _ _⟩
  case round =>
    obtain ⟨k, hk1, hkM, rfl, hdr, hc⟩ := hrel
    have hca : wr.cell? ⟨w2.heap.size, 128, none⟩ = some (.int .i64 (n : Int)) := by rw [drew_cell hdr.out, HN.out]; exact HPA.out.1
    have hcb : wr.cell? ⟨w2.heap.size + 1, 128, none⟩ = some (.int .i64 (m : Int)) := by rw [drew_cell hdr.out, HM.out]; exact HPB.out.1
    by_cases hkl : k ≤ M
    · have hkl2 : (k : Int) ≤ (M : Int) := by omega
      have hkn : k ≤ n := by have := HMM.out; omega
      have hkm : k ≤ m := by have := HMM.out; omega
      obtain ⟨ta, hta, htas, hla⟩ := label_of A w4 w2.heap.size n k hA HN.out hk1 hkn HPA.out
      obtain ⟨tb, htb, htbs, hlb⟩ := label_of B w4 (w2.heap.size + 1) m k hB HM.out hk1 hkm HPB.out
      have HLA : Hid (∀ u : World, (∃ m, u = w4.drewN m) → Calls Try.prog 62 #[.pointer (some ⟨w2.heap.size, 0, none⟩), .string A, .int .i64 (k : Int)] u fun e w' => e = .returned (.string ta) ∧ ∃ m, w' = u.drewN m) := hla
      have HLB : Hid (∀ u : World, (∃ m, u = w4.drewN m) → Calls Try.prog 62 #[.pointer (some ⟨w2.heap.size + 1, 0, none⟩), .string B, .int .i64 (k : Int)] u fun e w' => e = .returned (.string tb) ∧ ∃ m, w' = u.drewN m) := hlb
      clear hla hlb
      have t1 : True := trivial
      have t2 : True := trivial
      by_cases hz : ord ta.data.toList tb.data.toList = 0
      · have HX : Hid (cmpN A.data.toList B.data.toList = lexG (lexG cB) ((fl A.data.toList).drop (k + 1 - 1)) ((fl B.data.toList).drop (k + 1 - 1))) := cmp_next hc.out hk1 (by have := HN.out; omega) (by have := HM.out; omega) (by rw [← hta, ← htb]; exact hz)
        clear hta htb
        go_wp2_with (first
          | (go_at_call 62; have _t := t1; go_must (refine (HLA.out _ hdr.out).mono ?_); rintro e w5 ⟨rfl, hd5⟩; clear t1; have HD5 := drew_trans hdr.out hd5; clear hd5; have HE5 : Hid (∃ m, w5 = w4.drewN m) := HD5; clear HD5)
          | (go_at_call 62; have _t := t2; go_must (refine (HLB.out _ HE5.out).mono ?_); rintro e w6 ⟨rfl, hd6⟩; clear t2; have HD6 := drew_trans HE5.out hd6; clear hd6; have HE6 : Hid (∃ m, w6 = w4.drewN m) := HD6; clear HD6)
          | (go_at_call 61; go_must (refine (order_any _ _ _ htas htbs).mono ?_); rintro e w7 ⟨rfl, hd7⟩; have HD7 := drew_trans HE6.out hd7; clear hd7; have HE7 : Hid (∃ m, w7 = w4.drewN m) := HD7; clear HD7))
        go_roundw
        case rel => exact ⟨k + 1, by omega, by omega, by go_num, HE7, HX⟩
        case measure => simp [intOf]; omega
      · have HX : Hid (ord ta.data.toList tb.data.toList = cmpN A.data.toList B.data.toList) := by
          have := cmp_here hc.out hk1 (by have := HN.out; omega) (by have := HM.out; omega) (by rw [← hta, ← htb]; exact hz)
          rw [← hta, ← htb] at this
          exact this
        have hz2 : (ord ta.data.toList tb.data.toList != 0) = true := by simpa using hz
        clear hta htb hz
        go_wp2_with (first
          | (go_at_call 62; have _t := t1; go_must (refine (HLA.out _ hdr.out).mono ?_); rintro e w5 ⟨rfl, hd5⟩; clear t1; have HD5 := drew_trans hdr.out hd5; clear hd5; have HE5 : Hid (∃ m, w5 = w4.drewN m) := HD5; clear HD5)
          | (go_at_call 62; have _t := t2; go_must (refine (HLB.out _ HE5.out).mono ?_); rintro e w6 ⟨rfl, hd6⟩; clear t2; have HD6 := drew_trans HE5.out hd6; clear hd6; have HE6 : Hid (∃ m, w6 = w4.drewN m) := HD6; clear HD6)
          | (go_at_call 61; go_must (refine (order_any _ _ _ htas htbs).mono ?_); rintro e w7 ⟨rfl, hd7⟩; have HD7 := drew_trans HE6.out hd7; clear hd7; have HE7 : Hid (∃ m, w7 = w4.drewN m) := HD7; clear HD7))
        go_ret
        exact ⟨ret_int HX.out, next HBEL.out (below_drew HE7.out)⟩
    · have HX : Hid (sgn (n : Int) (m : Int) = cmpN A.data.toList B.data.toList) := by
        unfold Hid
        rw [HN.out, HM.out]
        exact cmp_end hc.out (by have := HMM.out; have := HN.out; have := HM.out; omega) (by have := HMM.out; have := HN.out; omega) (by have := HMM.out; have := HM.out; omega)
      have hkl2 : ¬ (k : Int) ≤ (M : Int) := by omega
      go_wp2_with (go_at_call 52; go_must (refine (cmpI_any _ _ _).mono ?_); rintro e w' ⟨rfl, hw⟩; obtain rfl := hw.symm)
      go_ret
      exact ⟨ret_int HX.out, next HBEL.out (below_drew hdr.out)⟩

theorem compare_any (a b : ByteArray) (w : World) (ha : a.size ≤ maxLen) (hb : b.size ≤ maxLen) :
    Calls Try.prog 51 #[.string a, .string b] w fun e w' => e = .returned (.int .i64 (cmpN a.data.toList b.data.toList)) ∧ Below w.heap.size w w' := by
  have key : ∀ s : ByteArray, s.size ≤ maxLen → ∃ S : ByteArray, S.data.toList = orR s.data.toList ∧ ∀ u : World, Calls Try.prog 59 #[.string s] u fun e w' => e = .returned (.string S) ∧ w' = u := by
    intro s hs
    cases h : isName s.data.toList with
    | true => exact ⟨s, by unfold orR; rw [if_pos h], fun u => orRoot_yes s u hs h⟩
    | false => exact ⟨⟨#[0]⟩, by unfold orR; rw [if_neg (by rw [h]; simp)], fun u => orRoot_no s u hs h⟩
  obtain ⟨A, eA, hA⟩ := key a ha
  obtain ⟨B, eB, hB⟩ := key b hb
  have := compare_core a b A B w (by rw [eA]; exact orR_name _) (by rw [eB]; exact orR_name _) hA hB
  rw [eA, eB, orR_cmp] at this
  exact this

end Go.Proofs.Ytcmhjlflgedcdaa

/- gather and Compare once more: what they draw. -/
namespace Go.Proofs.Ytcmhjlflgedcdaa
open Go.RowKit
open Pl

theorem drawn_drew {w w' : World} (h : ∃ m, w' = w.drewN m) : w.drawn ≤ w'.drawn := by
  obtain ⟨m, rfl⟩ := h
  exact Nat.le_add_right _ _
/-- All the places into a block. -/
theorem wpList_storePlD (w : World) {ops : Array Oper} {rest : List Oper} {o : Oper} {a : Act} {Q : Exit → Act → World → Prop} (hgd : o.guard = none) (x y : Operand)
    (ho : o.op = .store 102 x y) (g : Nat) (Z C : Array Value) (hx : a.eval x = .pointer (some ⟨g, 0, none⟩)) (hy : a.eval y = .agg C) (hg : w.heap[g]? = some (.cells Z 102 (0, 0))) (hZ : Z.size = 129) (hC : C.size = 129) (h1 : C.all (·.oneCell') = true)
    (h : ∀ w', w'.heap[g]? = some (.cells C 102 (0, 0)) → w.grownBy w' (some g) → w'.heap.size = w.heap.size → w'.drawn = w.drawn → wpList Try.prog ops Q rest (a.put o.dst undef) w') : wpList Try.prog ops Q (o :: rest) a w := by
  refine wpList_plain hgd fun K hK => ?_
  have hr := store_pl hg hZ hC h1
  unfold Oper.wp execOp
  simp only [ho, hx, hy, Sem.run_bind, hr, Result.andThen_ok, Sem.run_pure]
  exact hK _ _ (h _ (setRow_heap _ _ Z _ 102 (0, 0) hg) ⟨rfl, rfl, rfl, by simp, fun k _ hne => setRow_other _ _ _ _ (fun e => hne (by rw [e]))⟩ (by simp) rfl)

set_option maxRecDepth 20000 in
set_option maxHeartbeats 1000000 in
theorem gather_d (s : ByteArray) (w : World) (h : isName s.data.toList = true) :
    Calls Try.prog 60 #[.string s] w fun e w' => ∃ C : Array Value, e = .returned (.agg C) ∧ Below w.heap.size w w' ∧ w.drawn ≤ w'.drawn ∧ Fill (labs s.data.toList) (labs s.data.toList).length C := by
  obtain ⟨e1, e2, e3, e4⟩ := enc_of h
  have hfew := labs_few e2
  rw [← e1] at hfew
  have hl := data_len s
  obtain ⟨ls, hls⟩ : ∃ ls, ls = labs s.data.toList := ⟨_, rfl⟩
  rw [← hls] at e1 e2 e3 hfew ⊢
  obtain ⟨hz, hsz⟩ := zero_of_info info47
  have HSZ : Hid ((Try.prog.info? 102).map (·.size) = some 129) := hsz
  obtain ⟨Z, hZ⟩ : ∃ Z, Z = Z47 := ⟨_, rfl⟩
  rw [← hZ] at hz
  have HZ : Hid (Z = Z47) := hZ
  have HE : Hid (s.data.toList = enc ls) := e1
  have HG : Hid (GoodL ls) := e2
  have hn : ls.length ≤ 127 := by omega
  have hs : s.size ≤ 255 := by omega
  clear hZ hsz e1 e2 e3 e4 hls hfew h
  go_enter Try.func60, Try.ntmps60
  go_wp2
  go_loopw [4] (fun i wr => ∃ (c P : Nat) (C : Array Value), c ≤ ls.length ∧ P < s.size ∧ i = .int .i64 P ∧ wr = (w.alloc (.cells Z 102)).alloc (.cells C 102) ∧ Hid (P = pos ls c) ∧ Hid (Fill ls c C)) (fun i _ => s.size - (intOf i).toNat)
  case atStart => exact ⟨0, 0, Z, Nat.zero_le _, by have := pos_lt ls 0; rw [← HE.out, pos_zero] at this; omega, rfl, rfl, (pos_zero ls).symm, by unfold Hid; rw [HZ.out]; exact fill_start ls⟩
  case round =>
    obtain ⟨c, P, C, hc, hPs, rfl, rfl, hP, hF⟩ := hrel
    have hPl : P < s.data.toList.length := by omega
    by_cases hcl : c < ls.length
    · have hat : s[P].toNat = ls[c].length := by
        have h1 := pos_at ls c hcl
        rw [← len_byte (HG.out ls[c] (List.getElem_mem _)).2, ← h1]
        congr 1
        have h2 := HE.out
        have h3 := hP.out
        subst h3
        show s.data.toList[pos ls c] = _
        congr 1
      have h1 := HG.out ls[c] (List.getElem_mem _)
      have hnz : ((s[P].toNat : Int) != 0) = true := by simp; omega
      have h63 : s[P].toNat ≤ 63 := by omega
      have hnext : P + (1 + s[P].toNat) = pos ls (c + 1) := by rw [pos_succ ls c hcl, ← hP.out, hat]; omega
      have hlt : P + (1 + s[P].toNat) < s.size := by have := pos_lt ls (c + 1); rw [← HE.out] at this; omega
      have hcell : ((w.alloc (.cells Z 102)).alloc (.cells C 102)).cell? ⟨w.heap.size + 1, 128, none⟩ = some (.int .i64 (c : Int)) := by
        have := World.cell?_alloc_mark (w.alloc (.cells Z 102)) C 102 (0, 0) 128
        rw [hF.out.2.1] at this
        simpa using this
      have hcell2 : ((w.alloc (.cells Z 102)).alloc (.cells (C.setIfInBounds 128 (.int .i64 ((c : Int) + 1))) 102)).cell? ⟨w.heap.size + 1, 128, none⟩ = some (.int .i64 ((c : Int) + 1)) := by
        have := World.cell?_alloc_mark (w.alloc (.cells Z 102)) (C.setIfInBounds 128 (.int .i64 ((c : Int) + 1))) 102 (0, 0) 128
        rw [Array.getElem?_setIfInBounds_self_of_lt (by rw [hF.out.1]; omega)] at this
        simpa using this
      obtain ⟨x, hx⟩ : ∃ x, (C.setIfInBounds 128 (.int .i64 ((c : Int) + 1)))[c + 1]? = some x := ⟨_, Array.getElem?_eq_getElem (by simp [hF.out.1]; omega)⟩
      have HF2 : Hid (Fill ls (c + 1) ((C.setIfInBounds 128 (.int .i64 ((c : Int) + 1))).setIfInBounds (c + 1) (.int .u8 ((P : Int) + (1 + (s[P].toNat : Int)))))) := by
        have := fill_next hF.out (by omega : c < 127)
        rw [← hnext] at this
        unfold Hid
        simpa using this
      have HN : Hid (P + (1 + s[P].toNat) = pos ls (c + 1)) := hnext
      clear hnext hat h1
      go_wp2
      go_roundw
      case rel => exact ⟨c + 1, P + (1 + s[P].toNat), _, by omega, hlt, by go_num, rfl, HN, HF2⟩
      case measure => simp [intOf]; omega
    · have hat : s[P].toNat = 0 := by
        have h1 := pos_end ls c (by omega)
        have h2 := HE.out
        have h3 := hP.out
        subst h3
        have h4 : s[pos ls c] = 0 := by
          rw [← h1]
          show s.data.toList[pos ls c] = _
          congr 1
        rw [h4]; rfl
      have hnz : ((s[P].toNat : Int) != 0) = false := by simp [hat]
      have hce : c = ls.length := by omega
      have HF : Hid (Fill ls ls.length C) := by rw [← hce]; exact hF
      have hg1 : ((w.alloc (.cells Z 102)).alloc (.cells C 102)).heap[w.heap.size + 1]? = some (.cells C 102 (0, 0)) := by
        have := heap_alloc_last (w.alloc (.cells Z 102)) (.cells C 102)
        simpa using this
      have hg0 : ((w.alloc (.cells Z 102)).alloc (.cells C 102)).heap[w.heap.size]? = some (.cells Z 102 (0, 0)) := by
        rw [Below.heap_alloc (w.alloc (.cells Z 102)) _ w.heap.size (by simp)]
        exact heap_alloc_last w _
      have hZs : Z.size = 129 := by rw [HZ.out]; exact (fill_start ls).1
      clear hat
      have hb1 : Below w.heap.size w ((w.alloc (.cells Z 102)).alloc (.cells C 102)) := lay (lay (Below.refl _ _) _) _
      go_wp2_with (first
        | (refine wpList_loadPl _ rfl (.tmp 3) rfl _ C rfl hg1 HF.out.1 ?_)
        | (refine wpList_storePlD _ rfl (.tmp 2) (.tmp 26) rfl _ Z C rfl rfl hg0 hZs HF.out.1 HF.out.2.2.2 ?_; intro w3 h1 h2 h3 h4))
      have hbel : Below w.heap.size w w3 := hb1.trans ⟨h2.os, h2.tape, h2.output, h2.size, fun k hk => h2.block k (by simp; omega) (by intro e; have := Option.some.inj e; omega)⟩
      have hld2 : (loadVar 102 ⟨w.heap.size, 0, none⟩).run Try.prog w3 = .ok (.agg C) w3 :=
        run_loadVar_row _ _ 102 102 C (0, 0) _ h1 Try.underlying102 rfl (by rw [HF.out.1]; exact (zero_of_info info47).2)
      refine bodyPost_ret (v := .agg C) ?_ rfl ⟨C, rfl, hbel, Nat.le_of_eq h4.symm, HF.out⟩
      rw [results_cell rfl]
      exact hld2

set_option maxRecDepth 20000 in
set_option maxHeartbeats 2000000 in
theorem compare_coreD (a b A B : ByteArray) (w : World) (hA : isName A.data.toList = true) (hB : isName B.data.toList = true)
    (hoa : ∀ u : World, Calls Try.prog 59 #[.string a] u fun e w' => e = .returned (.string A) ∧ w' = u) (hob : ∀ u : World, Calls Try.prog 59 #[.string b] u fun e w' => e = .returned (.string B) ∧ w' = u) :
    Calls Try.prog 51 #[.string a, .string b] w fun e w' => e = .returned (.int .i64 (cmpN A.data.toList B.data.toList)) ∧ Below w.heap.size w w' ∧ w.drawn ≤ w'.drawn := by
  have HOA : Hid (∀ u : World, Calls Try.prog 59 #[.string a] u fun e w' => e = .returned (.string A) ∧ w' = u) := hoa
  have HOB : Hid (∀ u : World, Calls Try.prog 59 #[.string b] u fun e w' => e = .returned (.string B) ∧ w' = u) := hob
  clear hoa hob
  obtain ⟨Z, hz, hZs⟩ := zero47
  obtain ⟨n, hn⟩ : ∃ n, n = (labs A.data.toList).length := ⟨_, rfl⟩
  obtain ⟨m, hm⟩ : ∃ m, m = (labs B.data.toList).length := ⟨_, rfl⟩
  have HN : Hid (n = (labs A.data.toList).length) := hn
  have HM : Hid (m = (labs B.data.toList).length) := hm
  have h127 : n ≤ 127 := by rw [hn]; exact few hA
  have h127m : m ≤ 127 := by rw [hm]; exact few hB
  obtain ⟨M, hmin⟩ : ∃ M : Nat, (if m < n then (m : Int) else (n : Int)) = (M : Int) := by
    by_cases h : m < n
    · exact ⟨m, by rw [if_pos h]⟩
    · exact ⟨n, by rw [if_neg h]⟩
  have HMM : Hid ((M = n ∨ M = m) ∧ M ≤ n ∧ M ≤ m) := by
    unfold Hid
    split at hmin <;> omega
  have hM127 : M ≤ 127 := by have := HMM.out; omega
  have t1 : True := trivial
  have t2 : True := trivial
  have t3 : True := trivial
  have t4 : True := trivial
  clear hn hm
  go_enter Try.func51, Try.ntmps51
  go_wp2_with (first
    | (go_at_call 59; have _t := t1; go_must (refine (HOA.out _).mono ?_); rintro e w' ⟨rfl, hw⟩; obtain rfl := hw.symm; clear t1)
    | (go_at_call 59; have _t := t2; go_must (refine (HOB.out _).mono ?_); rintro e w' ⟨rfl, hw⟩; obtain rfl := hw.symm; clear t2)
    | (go_at_call 60; have _t := t3; refine (gather_d _ _ hA).mono ?_; rintro e w1 ⟨C, rfl, hbel1, hdw1, hF⟩; have HF : Hid (Fill (labs A.data.toList) (labs A.data.toList).length C) := hF; clear hF t3)
    | (go_at_call 60; have _t := t4; refine (gather_d _ _ hB).mono ?_; rintro e w2 ⟨D, rfl, hbel2, hdw2, hG⟩; have HG : Hid (Fill (labs B.data.toList) (labs B.data.toList).length D) := hG; clear hG t4)
    | (refine wpList_storePlD _ rfl (.tmp 5) (.tmp 14) rfl w2.heap.size Z C rfl rfl (two_first _ _) hZs HF.out.1 HF.out.all ?_; intro w3 h1 h2 h3 h4; go_must (refine wpList_storePlD _ rfl (.tmp 6) (.tmp 16) rfl (w2.heap.size + 1) Z D rfl rfl (two_left h2) hZs HG.out.1 HG.out.all ?_); intro w4 k1 k2 k3 k4; have hst := two_stored (next hbel1 hbel2) h1 h2 h3 k2; have HPA : Hid (PlAt w4 w2.heap.size (labs A.data.toList)) := fill_at hst.1 HF.out; have HPB : Hid (PlAt w4 (w2.heap.size + 1) (labs B.data.toList)) := fill_at k1 HG.out; have HBEL : Hid (Below w.heap.size w w4) := hst.2; have HDW : Hid (w.drawn ≤ w4.drawn) := Nat.le_trans hdw1 (Nat.le_trans hdw2 (Nat.le_of_eq (k4.trans h4).symm)); clear hst k1 k2 k3 k4 h1 h2 h3 h4))
  clear hbel1 hbel2 hdw1 hdw2 hz hZs HF HG
  go_loopw [7] (fun i wr => ∃ (k : Nat), 1 ≤ k ∧ k ≤ M + 1 ∧ i = .int .i64 k ∧ Hid (∃ m, wr = w4.drewN m) ∧ Hid (cmpN A.data.toList B.data.toList = lexG (lexG cB) ((fl A.data.toList).drop (k - 1)) ((fl B.data.toList).drop (k - 1)))) (fun i _ => M + 1 - (intOf i).toNat)
  case atStart => exact ⟨1, Nat.le_refl _, by omega, rfl, ⟨0, rfl⟩, cmp_start _ _⟩
  case round =>
    obtain ⟨k, hk1, hkM, rfl, hdr, hc⟩ := hrel
    have hca : wr.cell? ⟨w2.heap.size, 128, none⟩ = some (.int .i64 (n : Int)) := by rw [drew_cell hdr.out, HN.out]; exact HPA.out.1
    have hcb : wr.cell? ⟨w2.heap.size + 1, 128, none⟩ = some (.int .i64 (m : Int)) := by rw [drew_cell hdr.out, HM.out]; exact HPB.out.1
    by_cases hkl : k ≤ M
    · have hkl2 : (k : Int) ≤ (M : Int) := by omega
      have hkn : k ≤ n := by have := HMM.out; omega
      have hkm : k ≤ m := by have := HMM.out; omega
      obtain ⟨ta, hta, htas, hla⟩ := label_of A w4 w2.heap.size n k hA HN.out hk1 hkn HPA.out
      obtain ⟨tb, htb, htbs, hlb⟩ := label_of B w4 (w2.heap.size + 1) m k hB HM.out hk1 hkm HPB.out
      have HLA : Hid (∀ u : World, (∃ m, u = w4.drewN m) → Calls Try.prog 62 #[.pointer (some ⟨w2.heap.size, 0, none⟩), .string A, .int .i64 (k : Int)] u fun e w' => e = .returned (.string ta) ∧ ∃ m, w' = u.drewN m) := hla
      have HLB : Hid (∀ u : World, (∃ m, u = w4.drewN m) → Calls Try.prog 62 #[.pointer (some ⟨w2.heap.size + 1, 0, none⟩), .string B, .int .i64 (k : Int)] u fun e w' => e = .returned (.string tb) ∧ ∃ m, w' = u.drewN m) := hlb
      clear hla hlb
      have t1 : True := trivial
      have t2 : True := trivial
      by_cases hz : ord ta.data.toList tb.data.toList = 0
      · have HX : Hid (cmpN A.data.toList B.data.toList = lexG (lexG cB) ((fl A.data.toList).drop (k + 1 - 1)) ((fl B.data.toList).drop (k + 1 - 1))) := cmp_next hc.out hk1 (by have := HN.out; omega) (by have := HM.out; omega) (by rw [← hta, ← htb]; exact hz)
        clear hta htb
        go_wp2_with (first
          | (go_at_call 62; have _t := t1; go_must (refine (HLA.out _ hdr.out).mono ?_); rintro e w5 ⟨rfl, hd5⟩; clear t1; have HD5 := drew_trans hdr.out hd5; clear hd5; have HE5 : Hid (∃ m, w5 = w4.drewN m) := HD5; clear HD5)
          | (go_at_call 62; have _t := t2; go_must (refine (HLB.out _ HE5.out).mono ?_); rintro e w6 ⟨rfl, hd6⟩; clear t2; have HD6 := drew_trans HE5.out hd6; clear hd6; have HE6 : Hid (∃ m, w6 = w4.drewN m) := HD6; clear HD6)
          | (go_at_call 61; go_must (refine (order_any _ _ _ htas htbs).mono ?_); rintro e w7 ⟨rfl, hd7⟩; have HD7 := drew_trans HE6.out hd7; clear hd7; have HE7 : Hid (∃ m, w7 = w4.drewN m) := HD7; clear HD7))
        go_roundw
        case rel => exact ⟨k + 1, by omega, by omega, by go_num, HE7, HX⟩
        case measure => simp [intOf]; omega
      · have HX : Hid (ord ta.data.toList tb.data.toList = cmpN A.data.toList B.data.toList) := by
          have := cmp_here hc.out hk1 (by have := HN.out; omega) (by have := HM.out; omega) (by rw [← hta, ← htb]; exact hz)
          rw [← hta, ← htb] at this
          exact this
        have hz2 : (ord ta.data.toList tb.data.toList != 0) = true := by simpa using hz
        clear hta htb hz
        go_wp2_with (first
          | (go_at_call 62; have _t := t1; go_must (refine (HLA.out _ hdr.out).mono ?_); rintro e w5 ⟨rfl, hd5⟩; clear t1; have HD5 := drew_trans hdr.out hd5; clear hd5; have HE5 : Hid (∃ m, w5 = w4.drewN m) := HD5; clear HD5)
          | (go_at_call 62; have _t := t2; go_must (refine (HLB.out _ HE5.out).mono ?_); rintro e w6 ⟨rfl, hd6⟩; clear t2; have HD6 := drew_trans HE5.out hd6; clear hd6; have HE6 : Hid (∃ m, w6 = w4.drewN m) := HD6; clear HD6)
          | (go_at_call 61; go_must (refine (order_any _ _ _ htas htbs).mono ?_); rintro e w7 ⟨rfl, hd7⟩; have HD7 := drew_trans HE6.out hd7; clear hd7; have HE7 : Hid (∃ m, w7 = w4.drewN m) := HD7; clear HD7))
        go_ret
        exact ⟨ret_int HX.out, next HBEL.out (below_drew HE7.out), Nat.le_trans HDW.out (drawn_drew HE7.out)⟩
    · have HX : Hid (sgn (n : Int) (m : Int) = cmpN A.data.toList B.data.toList) := by
        unfold Hid
        rw [HN.out, HM.out]
        exact cmp_end hc.out (by have := HMM.out; have := HN.out; have := HM.out; omega) (by have := HMM.out; have := HN.out; omega) (by have := HMM.out; have := HM.out; omega)
      have hkl2 : ¬ (k : Int) ≤ (M : Int) := by omega
      go_wp2_with (go_at_call 52; go_must (refine (cmpI_any _ _ _).mono ?_); rintro e w' ⟨rfl, hw⟩; obtain rfl := hw.symm)
      go_ret
      exact ⟨ret_int HX.out, next HBEL.out (below_drew hdr.out), Nat.le_trans HDW.out (drawn_drew hdr.out)⟩

theorem compare_d (a b : ByteArray) (w : World) (ha : a.size ≤ maxLen) (hb : b.size ≤ maxLen) :
    Calls Try.prog 51 #[.string a, .string b] w fun e w' => e = .returned (.int .i64 (cmpN a.data.toList b.data.toList)) ∧ Below w.heap.size w w' ∧ w.drawn ≤ w'.drawn := by
  have key : ∀ s : ByteArray, s.size ≤ maxLen → ∃ S : ByteArray, S.data.toList = orR s.data.toList ∧ ∀ u : World, Calls Try.prog 59 #[.string s] u fun e w' => e = .returned (.string S) ∧ w' = u := by
    intro s hs
    cases h : isName s.data.toList with
    | true => exact ⟨s, by unfold orR; rw [if_pos h], fun u => orRoot_yes s u hs h⟩
    | false => exact ⟨⟨#[0]⟩, by unfold orR; rw [if_neg (by rw [h]; simp)], fun u => orRoot_no s u hs h⟩
  obtain ⟨A, eA, hA⟩ := key a ha
  obtain ⟨B, eB, hB⟩ := key b hb
  have := compare_coreD a b A B w (by rw [eA]; exact orR_name _) (by rw [eB]; exact orR_name _) hA hB
  rw [eA, eB, orR_cmp] at this
  exact this

end Go.Proofs.Ytcmhjlflgedcdaa

/- What U16, U32, Put16 and Put32 of package octet give, for every argument. -/
namespace Go.Proofs.Ytcmhjlflgedcdaa
open Go.RowKit

/-- The byte of a number that stands at d, a power of 256. -/
def oct (x d : Int) : UInt8 := UInt8.ofNat (x / d % 256).toNat
theorem oct_nat (x d : Int) : ((oct x d).toNat : Int) = x / d % 256 := by
  unfold oct
  have h0 : 0 ≤ x / d % 256 := Int.emod_nonneg _ (by decide)
  have h1 : x / d % 256 < 256 := Int.emod_lt_of_pos _ (by decide)
  rw [UInt8.toNat_ofNat']
  omega

/-- The number of two bytes, of four. -/
def two (a b : UInt8) : Int := 256 * (a.toNat : Int) + (b.toNat : Int)
def four (a b c d : UInt8) : Int := 65536 * two a b + two c d
/-- A number as two bytes, as four. -/
def be2 (x : Int) : ByteArray := ⟨#[oct x 256, oct x 1]⟩
def be4 (x : Int) : ByteArray := ⟨#[oct x 16777216, oct x 65536, oct x 256, oct x 1]⟩

theorem two_be (x : Int) : two (oct x 256) (oct x 1) = x % 65536 := by
  unfold two; rw [oct_nat, oct_nat]; omega
theorem four_be (x : Int) : four (oct x 16777216) (oct x 65536) (oct x 256) (oct x 1) = x % 4294967296 := by
  unfold four two; rw [oct_nat, oct_nat, oct_nat, oct_nat]; omega
theorem two_lt (a b : UInt8) : 0 ≤ two a b ∧ two a b < 65536 := by
  unfold two; have := a.toNat_lt; have := b.toNat_lt; omega


theorem or8 (a b : Nat) (ha : a < 256) (hb : b < 256) : bits .or .u16 ((a : Int) * 256) (b : Int) = 256 * (a : Int) + (b : Int) := by
  have e : ((a : Int) * 256) = ((a * 2 ^ 8 : Nat) : Int) := by omega
  rw [e, u16_or_nat _ _ (by omega) (by omega), Nat.mul_comm, ← Nat.two_pow_add_eq_or_of_lt (by omega)]
  omega
theorem or16 (a b : Nat) (ha : a < 65536) (hb : b < 65536) : bits .or .u32 ((a : Int) * 65536) (b : Int) = 65536 * (a : Int) + (b : Int) := by
  have e : ((a : Int) * 65536) = ((a * 2 ^ 16 : Nat) : Int) := by omega
  rw [e, u32_or_nat _ _ (by omega) (by omega), Nat.mul_comm, ← Nat.two_pow_add_eq_or_of_lt (by omega)]
  omega






theorem ext_at (s : ByteArray) (k j : Nat) (h : k + j < s.size) : (s.extract k s.size)[j]'(by simp; omega) = s[k + j] := by
  show (s.extract k s.size).data[j]'(by have : j < (s.extract k s.size).size := by simp; omega
                                        exact this) = s.data[k + j]'h
  simp only [ByteArray.data_extract, Array.getElem_extract]






theorem cut_from (s : ByteArray) (k : Nat) (h : k ≤ s.size) (u : World) : (Instr.slice 9 (.string s) (some (.int .i64 (k : Int))) none none).run Try.prog u = .ok (.string (s.extract k s.size)) u := by
  have := run_slice_string_l (P := Try.prog) (w := u) (t := 9) (s := s) Try.underlying9 .i64 (k : Int) (by omega) (by omega)
  rw [this]; rfl





end Go.Proofs.Ytcmhjlflgedcdaa

/- What awake gives: true. -/
namespace Go.Proofs.Ytcmhjlflgedcdaa
open Go.RowKit



end Go.Proofs.Ytcmhjlflgedcdaa

/- U16 and U32 at a place where a number was put; masks. -/
namespace Go.Proofs.Ytcmhjlflgedcdaa
open Go.RowKit

theorem app_list (a b : ByteArray) : (a ++ b).data.toList = a.data.toList ++ b.data.toList := by simp

theorem drop_get {s : ByteArray} {k : Nat} {l : List UInt8} (h : s.data.toList.drop k = l) (j : Nat) (hj : j < l.length) : ∃ h2 : k + j < s.size, s[k + j] = l[j] := by
  have h1 : l.length = s.size - k := by rw [← h, List.length_drop, data_len]
  have h2 : k + j < s.size := by omega
  refine ⟨h2, ?_⟩
  subst h
  rw [List.getElem_drop]
  rfl



theorem mask (n : Int) (j : Nat) (hj : j ≤ 62) : bits .and .i64 n (((2 ^ j - 1 : Nat)) : Int) = n % ((2 ^ j : Nat) : Int) := by
  have h2 : 2 ^ j ≤ 2 ^ 62 := Nat.pow_le_pow_right (by decide) hj
  have h1 : 1 ≤ 2 ^ j := Nat.one_le_two_pow
  have h3 : (BitVec.ofInt 64 (((2 ^ j - 1 : Nat)) : Int)).toNat = 2 ^ j - 1 := by
    rw [BitVec.ofInt_natCast, BitVec.toNat_ofNat]; exact Nat.mod_eq_of_lt (by omega)
  have key : (BitVec.ofInt 64 n &&& BitVec.ofInt 64 (((2 ^ j - 1 : Nat)) : Int)).toNat = (n % ((2 ^ 64 : Nat) : Int)).toNat % 2 ^ j := by
    rw [BitVec.toNat_and, BitVec.toNat_ofInt, h3, Nat.and_two_pow_sub_one_eq_mod]
  show IntKind.i64.wrap ((BitVec.ofInt 64 n &&& BitVec.ofInt 64 (((2 ^ j - 1 : Nat)) : Int)).toNat : Nat) = _
  have hl : (n % ((2 ^ 64 : Nat) : Int)).toNat % 2 ^ j < 2 ^ j := Nat.mod_lt _ h1
  rw [key, IntKind.wrap_i64]
  have e1 : (((n % ((2 ^ 64 : Nat) : Int)).toNat % 2 ^ j : Nat) : Int) = n % ((2 ^ j : Nat) : Int) := by
    rw [Int.natCast_emod, Int.toNat_of_nonneg (Int.emod_nonneg _ (by decide))]
    exact Int.emod_emod_of_dvd _ (Int.natCast_dvd_natCast.2 (Nat.pow_dvd_pow 2 (by omega)))
  omega
theorem mask16 (n : Int) : bits .and .i64 n 65535 = n % 65536 := mask n 16 (by decide)
theorem mask32 (n : Int) : bits .and .i64 n 4294967295 = n % 4294967296 := mask n 32 (by decide)
theorem mask1 (n : Int) : bits .and .i64 n 1 = n % 2 := mask n 1 (by decide)

end Go.Proofs.Ytcmhjlflgedcdaa

/- What the document's Num and Be give. -/
namespace Go.Proofs.Ytcmhjlflgedcdaa
open Go.RowKit

/-- The number of n bytes from k on. -/
def val (s : ByteArray) (k : Nat) : Nat → Int
  | 0 => 0
  | i + 1 => val s k i * 256 + ((s.data.toList.getD (k + i) 0).toNat : Int)
theorem val_lt (s : ByteArray) (k : Nat) : ∀ i, 0 ≤ val s k i ∧ val s k i < 256 ^ i := by
  intro i
  induction i with
  | zero => simp [val]
  | succ i ih =>
    have := (s.data.toList.getD (k + i) 0).toNat_lt
    unfold val
    rw [Int.pow_succ]
    omega
theorem val_getD (s : ByteArray) (k : Nat) (h : k < s.size) : s.data.toList.getD k 0 = s[k] := by
  rw [List.getD_eq_getElem?_getD, List.getElem?_eq_getElem (by rw [data_len]; exact h)]
  rfl
theorem val_two (s : ByteArray) (k : Nat) (h : k + 2 ≤ s.size) : val s k 2 = two s[k] s[k + 1] := by
  unfold val val val two
  rw [val_getD s _ (by omega), val_getD s _ (by omega)]
  simp only [Nat.add_zero]
  omega
theorem val_four (s : ByteArray) (k : Nat) (h : k + 4 ≤ s.size) : val s k 4 = four s[k] s[k + 1] s[k + 2] s[k + 3] := by
  unfold val val val val val four two
  rw [val_getD s _ (by omega), val_getD s _ (by omega), val_getD s _ (by omega), val_getD s _ (by omega)]
  simp only [Nat.add_zero]
  omega

theorem wraps_i64 (n : Int) (h₀ : 0 ≤ n) (h₁ : n < 2 ^ 62) : IntKind.i64.wrap n = n := by rw [IntKind.wrap_i64]; omega



end Go.Proofs.Ytcmhjlflgedcdaa
