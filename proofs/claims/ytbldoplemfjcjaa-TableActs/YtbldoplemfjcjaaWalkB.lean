/- Laws for rows of bytes that a call owns; small words on strings and worlds. -/
import Derived.Test.YtbldoplemfjcjaaWalkA
import Derived.OwnWalk
import Derived.Deep.AppendLies
import Derived.Laws.IdiomStrings
import Derived.Laws.BytesArg
import Derived.Test.YtbldoplemfjcjaaPlainC
import Derived.Laws.Concat
import Derived.Laws.AppendOwnNone
import Derived.Deep.QuietTactic
import Derived.BigQuiet
namespace Go.Proofs.Ytbldoplemfjcjaa
open Go.RowKit
open Pl

/-- A byte as a cell. -/
def bv (b : UInt8) : Value := .int .u8 (b.toNat : Int)

theorem info5 : (Try.prog.info? 5).map (fun i => (i.zero, i.size, i.bytes)) = some (some (.int .u8 0), 1, 1) := by kernel_rfl

/-- Bytes that have just been laid in a block of their own are appended to a row of bytes that the call owns. -/
theorem wpList_app {w0 : World} {ops : Array Oper} {rest : List Oper} {o : Oper} {a : Act} {Q : Exit → Act → World → Prop} (hgd : o.guard = none) (s x : Operand)
    (ho : o.op = .call { callee := .builtin .append, args := #[s, x], argTypes := #[90, 90] }) (w : World) (L : List Value) (hw : w0 = w.alloc (.cells L.toArray 5)) (base : Nat) (v : Value) (n : Nat) (xs : List Value) (hs : a.eval s = v) (hown : w.ownsRow base 5 1 v n xs)
    (hx : a.eval x = .slice (some ⟨w.heap.size, 0, none⟩) L.length L.length) (hL : ∀ u ∈ L, ∃ z, u = .int .u8 z) (hm : 0 < L.length) (hn : n + L.length ≤ 140737488355328) (hbase : base ≤ w.heap.size)
    (h : ∀ g cap w', w'.ownsRow base 5 1 (.slice (some ⟨g, 0, none⟩) (n + L.length) cap) (n + L.length) (xs ++ L) → w.grownBy w' v.ownBlock → (v.ownBlock = some g ∨ w.heap.size ≤ g) → g < w'.heap.size →
      wpList Try.prog ops Q rest (a.put o.dst (.slice (some ⟨g, 0, none⟩) (n + L.length) cap)) w') : wpList Try.prog ops Q (o :: rest) a w0 := by
  subst hw
  obtain ⟨i0, hi, hz0, hz1, hz2⟩ := info_parts info5
  refine wpList_append_lies _ hgd s x 90 ho base 5 i0 (.int .u8 0) 1 1 Try.underlying90 hi hz0 hz1 hz2 rfl (by decide) v n xs hs (hown.alloc _) ⟨w.heap.size, 0, none⟩ L.length L.length L hx (by omega)
    (by simpa using World.news_of_block (heap_alloc_new w (.cells L.toArray 5))) (fun u hu => by obtain ⟨z, rfl⟩ := hL u hu; rfl) hm (by unfold maxLen; omega) (by omega) (by simp; omega) (w.heap.size + 1) (by simp) ?_
  intro g cap w' h1 h2 h3 h4
  refine h g cap w' h1 ?_ (h3.imp id (fun e => by omega)) h4
  refine ⟨h2.os, h2.tape, h2.output, ?_, fun k hk hne => ?_⟩
  · have := h2.size; simp at this; omega
  · exact (h2.block k (by simp; omega) hne).trans (Below.heap_alloc w _ k hk)

/-- A string's bytes are laid in a block of their own. -/
theorem wpList_bytes (w : World) {ops : Array Oper} {rest : List Oper} {o : Oper} {a : Act} {Q : Exit → Act → World → Prop} (hgd : o.guard = none) (x : Operand)
    (ho : o.op = .convert 9 90 x) (s : ByteArray) (hx : a.eval x = .string s) (l : List UInt8) (hl : s.data.toList = l) (n : Nat) (hn : l.length = n)
    (h : ∀ cap w', (∀ j (hj : j < l.length), w'.cell? ⟨w.heap.size, j, none⟩ = some (.int .u8 (l[j].toNat : Int))) → w.grownBy w' none → w'.heap.size = w.heap.size + 1 →
      wpList Try.prog ops Q rest (a.put o.dst (.slice (some ⟨w.heap.size, 0, none⟩) n cap)) w') : wpList Try.prog ops Q (o :: rest) a w := by
  refine wpList_plain hgd fun K hK => ?_
  have hr := run_bytes_of_string (P := Try.prog) w 9 90 5 s Try.underlying9 Try.underlying90 Try.underlying5
  have hsz : s.size = n := by rw [← hn, ← hl, Array.length_toList]; rfl
  unfold Oper.wp execOp
  simp only [ho, hx, Sem.run_bind, hr, Result.andThen_ok, Sem.run_pure]
  rw [hsz]
  refine hK _ _ (h _ _ (fun j hj => ?_) ⟨rfl, rfl, rfl, by simp, fun k hk _ => Below.heap_alloc w.drew _ k hk⟩ (by simp))
  subst hl
  have hj' : j < s.size := by omega
  rw [show w.heap.size = w.drew.heap.size from rfl, World.cell?_alloc_mark]
  unfold bytesRow
  rw [Array.getElem?_append_left (by simpa using hj)]
  have hd : j < s.data.size := hj'
  rw [Array.getElem?_map, Array.getElem?_eq_getElem hd]
  rfl

/-- A row of bytes that the call owns becomes a string. -/
theorem wpList_string (w : World) {ops : Array Oper} {rest : List Oper} {o : Oper} {a : Act} {Q : Exit → Act → World → Prop} (hgd : o.guard = none) (x : Operand)
    (ho : o.op = .convert 90 9 x) (base n : Nat) (v : Value) (l : List UInt8) (hx : a.eval x = v) (hown : w.ownsRow base 5 1 v n (l.map bv))
    (h : wpList Try.prog ops Q rest (a.put o.dst (.string ⟨l.toArray⟩)) w) : wpList Try.prog ops Q (o :: rest) a w := by
  refine wpList_plain hgd fun K hK => ?_
  have hln : l.length = n := by simpa using hown.1
  have hr : (convert 90 9 v).run Try.prog w = .ok (.string ⟨l.toArray⟩) w := by
    rcases hown.2 with ⟨rfl, rfl⟩ | ⟨g, cap, cur, rfl, hb, hg, hnc, hm, hcs, htake⟩
    · have hl : l = [] := List.eq_nil_of_length_eq_zero hln
      subst hl
      exact run_convert_bytes_nil w 90 5 Try.underlying90 Try.underlying5 0 0 9 Try.underlying9
    · subst hln
      refine run_convert_bytes_back w 90 9 5 ⟨g, 0, none⟩ cap l Try.underlying90 Try.underlying5 Try.underlying9 fun j hj => ?_
      refine World.news_of_block hg j _ ?_
      have : (cur.toList.take (l.length * 1))[j]? = (l.map bv)[j]? := by rw [htake]
      rw [List.getElem?_take_of_lt (by omega)] at this
      rw [this]
      simp [hj, bv]
  unfold Oper.wp execOp
  simp only [ho, hx, Sem.run_bind, hr, Result.andThen_ok, Sem.run_pure]
  exact hK _ _ h


theorem list_at (s : ByteArray) (k : Nat) (h : k < s.size) : s.data.toList.drop k = s[k] :: s.data.toList.drop (k + 1) :=
  List.drop_eq_getElem_cons (by rw [Array.length_toList]; exact h)
theorem below_of {w w' : World} (h : w.grownBy w' none) : Below w.heap.size w w' := ⟨h.os, h.tape, h.output, h.size, fun k hk => h.block k hk (by simp)⟩

theorem next {w b c : World} (h : Below w.heap.size w b) (k : Below b.heap.size b c) : Below w.heap.size w c := h.trans (k.mono h.size)
theorem lay {w b : World} (h : Below w.heap.size w b) (o : Obj) : Below w.heap.size w (b.alloc o) := h.alloc h.size o
theorem mk_data (s : ByteArray) : (⟨s.data.toList.toArray⟩ : ByteArray) = s := rfl
theorem mk_of {s : ByteArray} {l : List UInt8} (h : s.data.toList = l) : (⟨l.toArray⟩ : ByteArray) = s := by rw [← h]
theorem data_len (s : ByteArray) : s.data.toList.length = s.size := by rw [Array.length_toList]; rfl
theorem name_size {s : ByteArray} (h : isName s.data.toList = true) : s.size ≤ 255 := by rw [← data_len]; exact (name_some h).1
theorem may_as (s : ByteArray) (b : Bool) (w : World) (hs : s.size ≤ maxLen) (h : isName s.data.toList = b) :
    Calls Try.prog 34 #[.string s] w fun e w' => e = .returned (.bool b) ∧ w' = w := by rw [← h]; exact may_any s w hs
theorem conv_lit (l : List UInt8) (u : World) : (convert 90 9 (.slice (some ⟨u.heap.size, 0, none⟩) l.length l.length)).run Try.prog (u.alloc (.cells (l.map bv).toArray 5)) = .ok (.string ⟨l.toArray⟩) (u.alloc (.cells (l.map bv).toArray 5)) := by
  refine run_convert_bytes_back _ 90 9 5 ⟨u.heap.size, 0, none⟩ l.length l Try.underlying90 Try.underlying5 Try.underlying9 fun j hj => ?_
  refine World.news_of_block (heap_alloc_new u (.cells (l.map bv).toArray 5)) j _ ?_
  simp [hj, bv]

/-- The bytes of one row that the call owns are appended to another one, which is not empty. -/
theorem wpList_appv (w : World) {ops : Array Oper} {rest : List Oper} {o : Oper} {a : Act} {Q : Exit → Act → World → Prop} (hgd : o.guard = none) (s x : Operand)
    (ho : o.op = .call { callee := .builtin .append, args := #[s, x], argTypes := #[90, 90] }) (base : Nat) (g n cap : Nat) (xs : List Value) (hs : a.eval s = .slice (some ⟨g, 0, none⟩) n cap) (hown : w.ownsRow base 5 1 (.slice (some ⟨g, 0, none⟩) n cap) n xs)
    (a2 : Option Addr) (m c2 : Nat) (lb : List UInt8) (hx : a.eval x = .slice a2 m c2) (hlab : w.ownsRow base 5 1 (.slice a2 m c2) m (lb.map bv)) (hnil : m = 0 → a2 = none) (hn : n + m ≤ 140737488355328) (hbase : base ≤ w.heap.size)
    (h : ∀ g' cap' w', w'.ownsRow base 5 1 (.slice (some ⟨g', 0, none⟩) (n + m) cap') (n + m) (xs ++ lb.map bv) → w.grownBy w' (some g) →
      wpList Try.prog ops Q rest (a.put o.dst (.slice (some ⟨g', 0, none⟩) (n + m) cap')) w') : wpList Try.prog ops Q (o :: rest) a w := by
  obtain ⟨i0, hi, hz0, hz1, hz2⟩ := info_parts info5
  have hml : lb.length = m := by simpa using hlab.1
  by_cases hm : m = 0
  · have ha := hnil hm
    subst hm
    subst ha
    have hl : lb = [] := List.eq_nil_of_length_eq_zero hml
    subst hl
    have hc : c2 = 0 := by
      rcases hlab.2 with ⟨e, _⟩ | ⟨g', cap', cur, e, _⟩
      · simp at e; exact e
      · simp at e
    subst hc
    refine wpList_append_own_none hgd s x 90 ho base 5 i0 1 Try.underlying90 hi _ n xs hs hown hx ?_
    exact h g cap w (by simpa using hown) (World.grownBy.refl w _)
  · obtain ⟨g2, cap2, e, _, _⟩ := hlab.form (by omega)
    simp only [Value.slice.injEq, true_and] at e
    obtain ⟨rfl, rfl⟩ := e
    refine wpList_append_lies w hgd s x 90 ho base 5 i0 (.int .u8 0) 1 1 Try.underlying90 hi hz0 hz1 hz2 rfl (by decide) _ n xs hs hown ⟨g2, 0, none⟩ m c2 (lb.map bv) hx (by simpa using hml)
      (fun j u hu => ?_) (fun u hu => ?_) (by omega) (by unfold maxLen; omega) (by omega) hbase _ rfl ?_
    · have hj : j < m := by rw [← hml]; have := (List.getElem?_eq_some_iff.1 hu).1; simpa using this
      have hadd : (⟨g2, 0, none⟩ : Addr).add j = ⟨g2, j, none⟩ := by unfold Addr.add; split <;> simp_all
      rw [hadd, hlab.cellAt j (by omega), hu]
    · simp only [List.mem_map] at hu
      obtain ⟨b, _, rfl⟩ := hu
      rfl
    · intro g' cap' w' h1 h2 _ _
      exact h g' cap' w' h1 h2

/-- Two rows lie apart. -/
def Sep (v u : Value) : Prop := ∀ k, v.ownBlock = some k → u.ownBlock ≠ some k

theorem Sep.left {v u : Value} (h : Sep v u) : v.ownBlock = none ∨ v.ownBlock ≠ u.ownBlock := by
  cases hv : v.ownBlock with
  | none => exact .inl rfl
  | some k => exact .inr (fun e => h k hv e.symm)
theorem Sep.symm {v u : Value} (h : Sep v u) : Sep u v := fun k hk e => h k e hk
theorem sep_nil (v : Value) : Sep v (.slice none 0 0) := fun _ _ e => by simp [Value.ownBlock] at e

/-- A row that was appended to lies apart from one that lay apart from it. -/
theorem sep_grown {w : World} {base n g m cap : Nat} {v u : Value} {xs : List Value} (hs : Sep v u) (h3 : v.ownBlock = some g ∨ w.heap.size ≤ g) (hu : w.ownsRow base 5 1 u n xs) : Sep (.slice (some ⟨g, 0, none⟩) m cap) u := by
  intro k hk
  have e : g = k := by simpa [Value.ownBlock] using hk
  subst e
  rcases h3 with h3 | h3
  · exact hs g h3
  · intro he; have := (hu.lt g he).2; omega


theorem idx (s : ByteArray) (i : Nat) (c : Int) (hc : c = (i : Int)) (h : i < s.size) (u : World) : (Instr.index 9 (.string s) (.int .i64 c)).run Try.prog u = .ok (.int .u8 (s[i].toNat : Int)) u := by
  subst hc
  rw [run_index_string u 9 s .i64 (i : Int) Try.underlying9, dif_pos ⟨by omega, by omega⟩]
  rfl


/-- A row of bytes that the call owns becomes a string that has a name. -/
theorem wpList_stringB (w : World) {ops : Array Oper} {rest : List Oper} {o : Oper} {a : Act} {Q : Exit → Act → World → Prop} (hgd : o.guard = none) (x : Operand)
    (ho : o.op = .convert 90 9 x) (base n : Nat) (v : Value) (sb : ByteArray) (hx : a.eval x = v) (hown : w.ownsRow base 5 1 v n (sb.data.toList.map bv))
    (h : wpList Try.prog ops Q rest (a.put o.dst (.string sb)) w) : wpList Try.prog ops Q (o :: rest) a w :=
  wpList_string w hgd x ho base n v sb.data.toList hx hown h

end Go.Proofs.Ytbldoplemfjcjaa
