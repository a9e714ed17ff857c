/- A region that draws its order and whose calls lay new blocks alone; rows of strings appended to each other. -/
import Derived.Test.YtfojghfdmlaedaaWalkO
import Derived.Deep.AppendSrc
import Derived.Deep.Upon
import Derived.Deep.RegionWith
namespace Go.Proofs.Ytfojghfdmlaedaa
open Go.RowKit
open Pl

/-- A world in which all that w holds lies as it lay. -/
structure Bel (w : World) where
  to : World
  h : Below w.heap.size w to

/-- A region that draws its order, whose calls lay new blocks alone: one walk, in the order of the text. -/
theorem wp_region_bel {P : Program} {id : Nat} {Q : Exit → Act → World → Prop} {a : Act} {w : World} {l : List Oper} (hm : P.follows .mixedOrders = true) (hB : Region.lexB .any l.toArray = true)
    (h : Nonempty (Bel w) → wpQuiet P l.toArray (fun w' => ∃ n : Bel w, w' = n.to) (fun a' => ∀ w', (∃ n : Bel w, w' = n.to) → Q .normal a' w') l a) : (Code.region id l.toArray true).wp P Q a w :=
  wp_region_quiet (C := fun w' => ∃ n : Bel w, w' = n.to) hm hB ⟨⟨_, below_drew ⟨1, rfl⟩⟩, rfl⟩ (h ⟨⟨w, Below.refl _ _⟩⟩)

theorem bel_lays {P : Program} {f : FuncId} {args : Array Value} {w : World} {n : Bel w} {v : Value}
    (h : Calls P f args n.to fun e w' => e = .returned v ∧ Below n.to.heap.size n.to w') : Calls P f args n.to fun e w'' => e = .returned v ∧ ∃ m : Bel w, w'' = m.to :=
  h.mono fun _ w' ⟨he, hm⟩ => ⟨he, ⟨w', next n.h hm⟩, rfl⟩
theorem bel_out {w w' : World} (h : ∃ n : Bel w, w' = n.to) : Below w.heap.size w w' := by
  obtain ⟨n, rfl⟩ := h
  exact n.h

theorem info9 : (Try.prog.info? 9).map (fun i => (i.zero, i.size, i.bytes)) = some (some (.string ⟨#[]⟩), 1, 16) := by kernel_rfl

/-- A row that the call owns lies in every such world. -/
theorem own_below {w w' : World} {base n : Nat} {v : Value} {xs : List Value} (h : w.ownsRow base 9 1 v n xs) (hb : Below w.heap.size w w') : w'.ownsRow base 9 1 v n xs :=
  h.kept (row := none) ⟨hb.os, hb.tape, hb.output, hb.size, fun k hk _ => hb.block k hk⟩ (by cases v.ownBlock with | none => exact .inl rfl | some k => exact .inr (by simp))

/-- Strings are appended to a row of strings that the call owns, out of a row that lies anywhere; there may be none. -/
theorem wpList_appS (w : World) {ops : Array Oper} {rest : List Oper} {o : Oper} {a : Act} {Q : Exit → Act → World → Prop} (hgd : o.guard = none) (s x : Operand)
    (ho : o.op = .call { callee := .builtin .append, args := #[s, x], argTypes := #[22, 22] }) (base : Nat) (v : Value) (n : Nat) (ss : List ByteArray) (hs : a.eval s = v)
    (hown : w.ownsRow base 9 1 v n (ss.map Value.string)) (hnil : n = 0 → v = .slice none 0 0) (x0 : Option Addr) (m c : Nat) (ms : List ByteArray) (hx : a.eval x = .slice x0 m c) (hml : ms.length = m)
    (hcell : m = 0 ∨ ∃ ad, x0 = some ad ∧ ∀ j (hj : j < ms.length), w.cell? (ad.add j) = some (.string ms[j])) (hn : n + m ≤ 1000) (hbase : base ≤ w.heap.size)
    (h : ∀ v' w', w'.ownsRow base 9 1 v' (n + m) ((ss ++ ms).map Value.string) → (n + m = 0 → v' = .slice none 0 0) → w.grownBy w' v.ownBlock → (v'.ownBlock = v.ownBlock ∨ ∃ g, v'.ownBlock = some g ∧ w.heap.size ≤ g) → wpList Try.prog ops Q rest (a.put o.dst v') w') :
    wpList Try.prog ops Q (o :: rest) a w := by
  obtain ⟨i0, hi, hz0, hz1, hz2⟩ := info_parts info9
  by_cases hm : m = 0
  · subst hm
    have hms : ms = [] := List.eq_nil_of_length_eq_zero hml
    subst hms
    refine wpList_plain hgd fun K hK => ?_
    have hsrc : Src Try.prog i0.size 22 (.slice x0 0 c) 0 [] w := by
      cases x0 with
      | none => exact Src.ofNil w Try.underlying22 c
      | some ad => exact Src.ofSlice w Try.underlying22 ad 0 c [] (by simp) (fun j u hu => by simp at hu) (fun u hu => by cases hu)
    have hv : ∃ b l k, v = .slice b l k ∧ l ≤ k := by
      rcases hown.2 with ⟨rfl, rfl⟩ | ⟨g, cap, cur, rfl, _, _, hnc, _⟩
      · exact ⟨_, _, _, rfl, Nat.le_refl _⟩
      · exact ⟨_, _, _, rfl, hnc⟩
    obtain ⟨b, l, k, hv, hlk⟩ := hv
    have hrun := run_append_nothing (P := Try.prog) w 22 22 o.type 9 i0 Try.underlying22 hi b l k hlk _ hsrc
    rw [← hv] at hrun
    unfold Oper.wp
    simp only [execOp, ho, resolve, invoke, builtin, Sem.run_bind, Sem.run_pure, Result.andThen_ok, List.map_toArray, List.map_cons, List.map_nil, hs, hx, hrun]
    exact hK _ _ (h v w (by simpa using hown) (by simpa using hnil) (World.grownBy.refl w _) (.inl rfl))
  · rcases hcell with h0 | ⟨ad, rfl, hcell⟩
    · exact absurd h0 hm
    refine wpList_append_lies w hgd s x 22 ho base 9 i0 (.string ⟨#[]⟩) 1 16 Try.underlying22 hi hz0 hz1 hz2 rfl (by decide) v n (ss.map Value.string) hs hown ad m c (ms.map Value.string) hx (by simpa using hml)
      (fun j u hu => ?_) (fun u hu => ?_) (by omega) (by unfold maxLen; omega) (by omega) hbase _ rfl ?_
    · have hj : j < ms.length := by have := (List.getElem?_eq_some_iff.1 hu).1; simpa using this
      rw [hcell j hj]
      simpa [hj] using hu
    · simp only [List.mem_map] at hu
      obtain ⟨b, _, rfl⟩ := hu
      rfl
    · intro g cap w' h1 h2 h3 h4
      refine h _ w' (by rw [List.map_append]; exact h1) (fun e => by omega) h2 ?_
      rcases h3 with h3 | h3
      · exact .inl h3.symm
      · exact .inr ⟨g, rfl, by omega⟩

end Go.Proofs.Ytfojghfdmlaedaa
