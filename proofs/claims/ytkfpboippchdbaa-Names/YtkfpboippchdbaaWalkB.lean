/- What appendByte gives, for every byte and every row of the call's own. -/
import Derived.Test.YtkfpboippchdbaaWalkA
import Derived.OwnWalk
import Derived.Deep.AppendLies
import Derived.Laws.IdiomStrings
import Derived.Laws.BytesArg
namespace Go.Proofs.Ytkfpboippchdbaa
open Go.RowKit
open Pl

/-- A byte as a cell. -/
def bv (b : UInt8) : Value := .int .u8 (b.toNat : Int)

theorem info5 : (Try.prog.info? 5).map (fun i => (i.zero, i.size, i.bytes)) = some (some (.int .u8 0), 1, 1) := by kernel_rfl

theorem esc_yes {b : UInt8} (h : standsB b.toNat = true) : (esc b).map bv = [.int .u8 b.toNat] := by unfold esc; rw [if_pos h]; rfl
theorem esc_no {b : UInt8} (h : standsB b.toNat = false) : (esc b).map bv = [.int .u8 92, .int .u8 (48 + (b.toNat : Int) / 100), .int .u8 (48 + (b.toNat : Int) / 10 % 10), .int .u8 (48 + (b.toNat : Int) % 10)] := by
  have hb := b.toNat_lt
  unfold esc; rw [if_neg (by simp [h])]
  simp [bv]
  omega

/-- Bytes that have just been laid in a block of their own are appended to a row of bytes that the call owns. -/
theorem wpList_app {w0 : World} {ops : Array Oper} {rest : List Oper} {o : Oper} {a : Act} {Q : Exit → Act → World → Prop} (hgd : o.guard = none) (s x : Operand)
    (ho : o.op = .call { callee := .builtin .append, args := #[s, x], argTypes := #[32, 32] }) (w : World) (L : List Value) (hw : w0 = w.alloc (.cells L.toArray 5)) (base : Nat) (v : Value) (n : Nat) (xs : List Value) (hs : a.eval s = v) (hown : w.ownsRow base 5 1 v n xs)
    (hx : a.eval x = .slice (some ⟨w.heap.size, 0, none⟩) L.length L.length) (hL : ∀ u ∈ L, ∃ z, u = .int .u8 z) (hm : 0 < L.length) (hn : n + L.length ≤ 140737488355328) (hbase : base ≤ w.heap.size)
    (h : ∀ g cap w', w'.ownsRow base 5 1 (.slice (some ⟨g, 0, none⟩) (n + L.length) cap) (n + L.length) (xs ++ L) → w.grownBy w' v.ownBlock → (v.ownBlock = some g ∨ w.heap.size ≤ g) → g < w'.heap.size →
      wpList Try.prog ops Q rest (a.put o.dst (.slice (some ⟨g, 0, none⟩) (n + L.length) cap)) w') : wpList Try.prog ops Q (o :: rest) a w0 := by
  subst hw
  obtain ⟨i0, hi, hz0, hz1, hz2⟩ := info_parts info5
  refine wpList_append_lies _ hgd s x 32 ho base 5 i0 (.int .u8 0) 1 1 Try.underlying32 hi hz0 hz1 hz2 rfl (by decide) v n xs hs (hown.alloc _) ⟨w.heap.size, 0, none⟩ L.length L.length L hx (by omega)
    (by simpa using World.news_of_block (heap_alloc_new w (.cells L.toArray 5))) (fun u hu => by obtain ⟨z, rfl⟩ := hL u hu; rfl) hm (by unfold maxLen; omega) (by omega) (by simp; omega) (w.heap.size + 1) (by simp) ?_
  intro g cap w' h1 h2 h3 h4
  refine h g cap w' h1 ?_ (h3.imp id (fun e => by omega)) h4
  refine ⟨h2.os, h2.tape, h2.output, ?_, fun k hk hne => ?_⟩
  · have := h2.size; simp at this; omega
  · exact (h2.block k (by simp; omega) hne).trans (Below.heap_alloc w _ k hk)

theorem appendByte_any (base : Nat) (v : Value) (n : Nat) (xs : List Value) (b : UInt8) (w : World) (hown : w.ownsRow base 5 1 v n xs) (hn : n ≤ 1000000) (hb : base ≤ w.heap.size) :
    Calls Try.prog 19 #[v, .int .u8 (b.toNat : Int)] w fun e w' => ∃ g cap, e = .returned (.slice (some ⟨g, 0, none⟩) (n + (esc b).length) cap) ∧
      w'.ownsRow base 5 1 (.slice (some ⟨g, 0, none⟩) (n + (esc b).length) cap) (n + (esc b).length) (xs ++ (esc b).map bv) ∧ w.grownBy w' v.ownBlock ∧ (v.ownBlock = some g ∨ w.heap.size ≤ g) ∧ g < w'.heap.size := by
  have hb8 := b.toNat_lt
  cases hst : standsB b.toNat with
  | true =>
    have he := esc_yes hst
    have hl : (esc b).length = 1 := by simpa using congrArg List.length he
    rw [he, hl]
    clear he hl
    go_enter Try.func19, Try.ntmps19
    go_wp2_with (first | (go_at_call 25; refine (stands_any _ _ (by omega) (by omega)).mono ?_; rintro e w' ⟨rfl, hw⟩; obtain rfl := hw.symm) | (at_builtin; refine wpList_app rfl _ _ rfl _ _ rfl base _ _ _ rfl hown rfl (by simp) (by simp) (by simp; omega) hb ?_; intro g cap w' h1 h2 h3 h4))
    go_ret
    exact ⟨_, _, rfl, h1, h2, h3, h4⟩
  | false =>
    have he := esc_no hst
    have hl : (esc b).length = 4 := by simpa using congrArg List.length he
    rw [he, hl]
    clear he hl
    go_enter Try.func19, Try.ntmps19
    go_wp2_with (first | (go_at_call 25; refine (stands_any _ _ (by omega) (by omega)).mono ?_; rintro e w' ⟨rfl, hw⟩; obtain rfl := hw.symm) | (at_builtin; refine wpList_app rfl _ _ rfl _ _ rfl base _ _ _ rfl hown rfl (by simp) (by simp) (by simp; omega) hb ?_; intro g cap w' h1 h2 h3 h4))
    go_ret
    exact ⟨_, _, rfl, h1, h2, h3, h4⟩

/-- A string's bytes are laid in a block of their own. -/
theorem wpList_bytes (w : World) {ops : Array Oper} {rest : List Oper} {o : Oper} {a : Act} {Q : Exit → Act → World → Prop} (hgd : o.guard = none) (x : Operand)
    (ho : o.op = .convert 9 32 x) (s : ByteArray) (hx : a.eval x = .string s) (l : List UInt8) (hl : s.data.toList = l) (n : Nat) (hn : l.length = n)
    (h : ∀ cap w', (∀ j (hj : j < l.length), w'.cell? ⟨w.heap.size, j, none⟩ = some (.int .u8 (l[j].toNat : Int))) → w.grownBy w' none → w'.heap.size = w.heap.size + 1 →
      wpList Try.prog ops Q rest (a.put o.dst (.slice (some ⟨w.heap.size, 0, none⟩) n cap)) w') : wpList Try.prog ops Q (o :: rest) a w := by
  refine wpList_plain hgd fun K hK => ?_
  have hr := run_bytes_of_string (P := Try.prog) w 9 32 5 s Try.underlying9 Try.underlying32 Try.underlying5
  have hsz : s.size = n := by rw [← hn, ← hl, Array.length_toList]; rfl
  unfold Oper.wp execOp
  simp only [ho, hx, Sem.run_bind, hr, Result.andThen_ok, Sem.run_pure]
  rw [hsz]
  refine hK _ _ (h _ _ (fun j hj => ?_) ⟨rfl, rfl, rfl, by simp, fun k hk _ => Below.heap_alloc w.drew _ k hk⟩ (by simp))
  subst hl
  have hj' : j < s.size := by omega
  rw [show w.heap.size = w.drew.heap.size from rfl, World.cell?_alloc_mark]
  unfold bytesRow
  rw [Array.getElem?_append_left (by simpa using hj)]
  have hd : j < s.data.size := hj'
  rw [Array.getElem?_map, Array.getElem?_eq_getElem hd]
  rfl

/-- A row of bytes that the call owns becomes a string. -/
theorem wpList_string (w : World) {ops : Array Oper} {rest : List Oper} {o : Oper} {a : Act} {Q : Exit → Act → World → Prop} (hgd : o.guard = none) (x : Operand)
    (ho : o.op = .convert 32 9 x) (base n : Nat) (v : Value) (l : List UInt8) (hx : a.eval x = v) (hown : w.ownsRow base 5 1 v n (l.map bv))
    (h : wpList Try.prog ops Q rest (a.put o.dst (.string ⟨l.toArray⟩)) w) : wpList Try.prog ops Q (o :: rest) a w := by
  refine wpList_plain hgd fun K hK => ?_
  have hln : l.length = n := by simpa using hown.1
  have hr : (convert 32 9 v).run Try.prog w = .ok (.string ⟨l.toArray⟩) w := by
    rcases hown.2 with ⟨rfl, rfl⟩ | ⟨g, cap, cur, rfl, hb, hg, hnc, hm, hcs, htake⟩
    · have hl : l = [] := List.eq_nil_of_length_eq_zero hln
      subst hl
      exact run_convert_bytes_nil w 32 5 Try.underlying32 Try.underlying5 0 0 9 Try.underlying9
    · subst hln
      refine run_convert_bytes_back w 32 9 5 ⟨g, 0, none⟩ cap l Try.underlying32 Try.underlying5 Try.underlying9 fun j hj => ?_
      refine World.news_of_block hg j _ ?_
      have : (cur.toList.take (l.length * 1))[j]? = (l.map bv)[j]? := by rw [htake]
      rw [List.getElem?_take_of_lt (by omega)] at this
      rw [this]
      simp [hj, bv]
  unfold Oper.wp execOp
  simp only [ho, hx, Sem.run_bind, hr, Result.andThen_ok, Sem.run_pure]
  exact hK _ _ h


/-- What readByte hands back. -/
def rbV (l : List UInt8) : Value := .tuple #[.int .u8 (((rb l).map (fun p => p.1.toNat)).getD 0 : Nat), .int .i64 (((rb l).map (fun p => p.2)).getD 0 : Nat)]

theorem rbV_none {l : List UInt8} (h : rb l = none) : Ending.returned (.tuple #[.int .u8 0, .int .i64 0]) = .returned (rbV l) := by unfold rbV; rw [h]; rfl
theorem rbV_some {l : List UInt8} {b : UInt8} {k : Nat} (h : rb l = some (b, k)) : Ending.returned (.tuple #[.int .u8 (b.toNat : Int), .int .i64 (k : Int)]) = .returned (rbV l) := by unfold rbV; rw [h]; rfl

theorem list_at (s : ByteArray) (k : Nat) (h : k < s.size) : s.data.toList.drop k = s[k] :: s.data.toList.drop (k + 1) :=
  List.drop_eq_getElem_cons (by rw [Array.length_toList]; exact h)
theorem list_one (s : ByteArray) (h : 0 < s.size) : ∃ r, s.data.toList = s[0] :: r := ⟨_, list_at s 0 h⟩
theorem list_four (s : ByteArray) (h : 4 ≤ s.size) : ∃ x y z r, s.data.toList = s[0] :: x :: y :: z :: r ∧ (s.extract 1 4).data.toList = [x, y, z] := by
  have e0 := list_at s 0 (by omega)
  have e1 := list_at s 1 (by omega)
  have e2 := list_at s 2 (by omega)
  have e3 := list_at s 3 (by omega)
  rw [List.drop_zero, e1, e2, e3] at e0
  refine ⟨_, _, _, _, e0, ?_⟩
  have : (s.extract 1 4).data.toList = (s.data.toList.drop 1).take 3 := by simp
  rw [this, e0]; rfl

theorem stands_as (c : Int) (b : Bool) (w : World) (h0 : 0 ≤ c) (h1 : c ≤ 255) (h : standsB c = b) :
    Calls Try.prog 25 #[.int .u8 c] w fun e w' => e = .returned (.bool b) ∧ w' = w := by rw [← h]; exact stands_any c w h0 h1

theorem below_of {w w' : World} (h : w.grownBy w' none) : Below w.heap.size w w' := ⟨h.os, h.tape, h.output, h.size, fun k hk => h.block k hk (by simp)⟩

end Go.Proofs.Ytkfpboippchdbaa
