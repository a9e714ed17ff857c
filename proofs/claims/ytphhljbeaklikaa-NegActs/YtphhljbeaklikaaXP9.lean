/- A Negs that a law made; what awake of the laws of package neg gives. -/
import Derived.Test.YtphhljbeaklikaaXP8
import Derived.Test.YtphhljbeaklikaaXP6
namespace Go.Proofs.Ytphhljbeaklikaa
open Go.RowKit
open Pl
namespace Ng

structure LW (w0 w : World) (gs most : Nat) (mb : Option Nat) (F : List En) : Prop where
  st : St w gs most mb F
  bel : Below w0.heap.size w0 w
  new : ∀ k, foot gs mb k → w0.heap.size ≤ k
theorem LW.below {w0 w w' : World} {gs most : Nat} {mb : Option Nat} {F : List En} (h : LW w0 w gs most mb F) (hb : Below w.heap.size w w') : LW w0 w' gs most mb F := ⟨h.st.below hb, next h.bel hb, h.new⟩
/-- Another block of the law's own is written. -/
theorem LW.own {w0 w w' : World} {gs most : Nat} {mb : Option Nat} {F : List En} {g : Nat} (h : LW w0 w gs most mb F) (ht : Turn (fun k => k = g) w w') (hg : w0.heap.size ≤ g) (hn : ¬ foot gs mb g) : LW w0 w' gs most mb F :=
  ⟨h.st.turn ht (fun k hk e => hn (by rw [← e]; exact hk)), ht.one_below h.bel hg, h.new⟩
theorem lw_new {w0 w : World} (hb : Below w0.heap.size w0 w) (m : Nat) (h1 : 1 ≤ m) (h2 : m ≤ 256) : Calls Try.prog 8 #[.int .i64 (m : Int)] w fun e w' => ∃ gs, e = .returned (.tuple #[.pointer (some ⟨gs, 0, none⟩), .int .i64 0]) ∧ LW w0 w' gs m none [] ∧ Below w.heap.size w w' ∧ w.heap.size ≤ gs := by
  refine (new_yes m w h1 h2).mono ?_
  rintro e w' ⟨gs, rfl, s, hg, b⟩
  refine ⟨gs, rfl, ⟨s, next hb b, ?_⟩, b, hg⟩
  rintro k (e | e)
  · have := hb.size; omega
  · cases e
theorem lw_put {w0 w : World} {gs most : Nat} {mb : Option Nat} {F : List En} (h : LW w0 w gs most mb F) (n : ByteArray) (t u now : Int) (hn : n.size ≤ maxLen) (x : Int) (hx : errN (nE n t u) now = x) (F' : List En) (hF : putN most F (nE n t u) now = F') :
    Calls Try.prog 12 #[.pointer (some ⟨gs, 0, none⟩), .agg #[.string n, .int .i64 t, .int .i64 u], .int .i64 now] w fun e w' => e = .returned (.int .i64 x) ∧
      ∃ mb', LW w0 w' gs most mb' F' ∧ Turn (foot gs mb) w w' ∧ (∀ k, foot gs mb' k → foot gs mb k ∨ w.heap.size ≤ k) := by
  refine (put_any h.st n t u now hn).mono ?_
  rintro e w' ⟨he, mb', s, T, ft⟩
  rw [hF] at s
  rw [hx] at he
  refine ⟨he, mb', ⟨s, Turn.below h.bel T h.bel.size (fun i hi => h.new i hi), fun k hk => ?_⟩, T, ft⟩
  rcases ft k hk with e | e
  · exact h.new k e
  · have := h.bel.size; omega
theorem LW.all {w0 w : World} {gs most : Nat} {mb : Option Nat} {F : List En} (h : LW w0 w gs most mb F) (N : Nat) (hN : F.length = N) : Calls Try.prog 17 #[.pointer (some ⟨gs, 0, none⟩)] w fun e w' => ∃ y c, e = .returned (.slice y N c) ∧ w'.ownsRow w.heap.size 33 3 (.slice y N c) N (nC (allP F)) ∧ LW w0 w' gs most mb F ∧ Below w.heap.size w w' := by
  refine (all_any h.st).mono ?_
  rintro e w' ⟨v, rfl, es, b⟩
  rw [hN] at es
  obtain ⟨y, c, rfl⟩ := row_shape es
  exact ⟨y, c, rfl, es, h.below b, b⟩
theorem LW.nx {w0 w : World} {gs most : Nat} {mb : Option Nat} {F : List En} (h : LW w0 w gs most mb F) (n : ByteArray) (now : Int) (hn : n.size ≤ maxLen) (b : Bool) (hb : hasN F n 0 now = b) :
    Calls Try.prog 14 #[.pointer (some ⟨gs, 0, none⟩), .string n, .int .i64 now] w fun e w' => e = .returned (.bool b) ∧ LW w0 w' gs most mb F ∧ Below w.heap.size w w' :=
  (nx_any h.st n now hn b hb).mono fun _ _ ⟨he, hw⟩ => ⟨he, h.below hw, hw⟩
theorem LW.nodata {w0 w : World} {gs most : Nat} {mb : Option Nat} {F : List En} (h : LW w0 w gs most mb F) (n : ByteArray) (t now : Int) (hn : n.size ≤ maxLen) (ht : (Lit.int .i64 t).wf = true) (b : Bool) (hb : (!decide (t = 0) && hasN F n t now) = b) :
    Calls Try.prog 16 #[.pointer (some ⟨gs, 0, none⟩), .string n, .int .i64 t, .int .i64 now] w fun e w' => e = .returned (.bool b) ∧ LW w0 w' gs most mb F ∧ Below w.heap.size w w' :=
  (nodata_any h.st n t now hn ht b hb).mono fun _ _ ⟨he, hw⟩ => ⟨he, h.below hw, hw⟩

def aw1 : En := nE ⟨#[1, 97, 0]⟩ 0 9
def aw2 : En := nE ⟨#[1, 98, 0]⟩ 5 9
theorem awE1 : errN (nE ⟨#[1, 65, 0]⟩ 0 9) 3 = 0 := by decide
theorem awP1 : putN 2 [] (nE ⟨#[1, 65, 0]⟩ 0 9) 3 = [aw1] := by rfl
theorem awE2 : errN (nE ⟨#[1, 98, 0]⟩ 5 9) 3 = 0 := by decide
theorem awP2 : putN 2 [aw1] (nE ⟨#[1, 98, 0]⟩ 5 9) 3 = [aw1, aw2] := by rfl
theorem awE3 : errN (nE ⟨#[]⟩ 0 0) 3 = 1400 := by decide
theorem awP3 : putN 2 [aw1, aw2] (nE ⟨#[]⟩ 0 0) 3 = [aw1, aw2] := by rfl
theorem awG1 : hasN [aw1, aw2] ⟨#[1, 97, 0]⟩ 0 8 = true := by decide
theorem awG2 : hasN [aw1, aw2] ⟨#[1, 97, 0]⟩ 0 9 = false := by decide
theorem awG3 : (!decide ((5 : Int) = 0) && hasN [aw1, aw2] ⟨#[1, 66, 0]⟩ 5 4) = true := by decide
theorem awG4 : (!decide ((6 : Int) = 0) && hasN [aw1, aw2] ⟨#[1, 98, 0]⟩ 6 4) = false := by decide

set_option maxRecDepth 20000 in
set_option maxHeartbeats 4000000 in
theorem awake_any (w : World) : Calls Try.prog 11 #[] w fun e w' => e = .returned (.bool true) ∧ Below w.heap.size w w' := by
  have t1 : True := trivial
  have t2 : True := trivial
  have t3 : True := trivial
  have t4 : True := trivial
  have t5 : True := trivial
  have t6 : True := trivial
  have t7 : True := trivial
  have t8 : True := trivial
  have t9 : True := trivial
  go_enter Try.func11, Try.ntmps11
  go_wp2_with (first
    | (go_at_call 8; have _t := t1; go_must (refine (lw_new (Below.refl w.heap.size w) 2 (by decide) (by decide)).mono ?_); rintro e w1 ⟨gs, rfl, s1, _, _⟩; have hp1 := lw_put s1 ⟨#[1, 65, 0]⟩ 0 9 3 (by decide) 0 awE1 [aw1] awP1; clear t1)
    | (go_at_call 8; have _t := t2; go_must (refine (new_no 0 _ (by decide)).mono ?_); rintro e w' ⟨rfl, hw⟩; obtain rfl := hw.symm; clear t2)
    | (go_at_call 10; refine (num_any _ _).mono ?_; rintro e w' ⟨rfl, hw⟩; obtain rfl := hw.symm)
    | (go_at_call 12; have _t := t3; go_must (refine hp1.mono ?_); rintro e w2 ⟨rfl, mb2, s2, _, _⟩; have hp2 := lw_put s2 ⟨#[1, 98, 0]⟩ 5 9 3 (by decide) 0 awE2 [aw1, aw2] awP2; clear t3 hp1 s1)
    | (go_at_call 12; have _t := t4; go_must (refine hp2.mono ?_); rintro e w3 ⟨rfl, mb3, s3, _, _⟩; have hp3 := lw_put s3 ⟨#[]⟩ 0 0 3 (by decide) 1400 awE3 [aw1, aw2] awP3; clear t4 hp2 s2)
    | (go_at_call 12; have _t := t5; go_must (refine hp3.mono ?_); rintro e w4 ⟨rfl, mb4, s4, _, _⟩; clear t5 hp3 s3)
    | (go_at_call 14; have _t := t6; go_must (refine (s4.nx ⟨#[1, 97, 0]⟩ 8 (by decide) true awG1).mono ?_); rintro e w5 ⟨rfl, s5, _⟩; clear t6 s4)
    | (go_at_call 14; have _t := t7; go_must (refine (s5.nx ⟨#[1, 97, 0]⟩ 9 (by decide) false awG2).mono ?_); rintro e w6 ⟨rfl, s6, _⟩; clear t7 s5)
    | (go_at_call 16; have _t := t8; go_must (refine (s6.nodata ⟨#[1, 66, 0]⟩ 5 4 (by decide) (by decide) true awG3).mono ?_); rintro e w7 ⟨rfl, s7, _⟩; clear t8 s6)
    | (go_at_call 16; have _t := t9; go_must (refine (s7.nodata ⟨#[1, 98, 0]⟩ 6 4 (by decide) (by decide) false awG4).mono ?_); rintro e w8 ⟨rfl, s8, _⟩; clear t9 s7)
    | (go_at_call 17; go_must (refine (s8.all 2 rfl).mono ?_); rintro e w9 ⟨y9, c9, rfl, _, s9, _⟩))
  go_ret
  exact ⟨rfl, s9.bel⟩

end Ng
end Go.Proofs.Ytphhljbeaklikaa

/- s[:k] and s[k:] of a row of the call's own, as rows: the result a letter. -/
namespace Go.Proofs.Ytphhljbeaklikaa
open Go.RowKit
open Pl

theorem elem_of {t e : TypeId} (h : Try.prog.underlying t = some (.slice e)) : Try.prog.underlying t = some (.slice (Try.prog.elem t)) := by
  rw [h]; simp [Program.elem, h]
theorem elem_is {t e : TypeId} (h : Try.prog.underlying t = some (.slice e)) : Try.prog.elem t = e := by simp [Program.elem, h]
theorem run_sliceTo {w : World} {t e : TypeId} {base size n k : Nat} {v : Value} {xs : List Value} (hu : Try.prog.underlying t = some (.slice e)) (hz : (sizeOf e).run Try.prog w = .ok size w) (hown : w.ownsRow base e size v n xs) (hk : k ≤ n) :
    ∃ v', (Instr.sliceAt t v none (some (.int .i64 (k : Int))) none).run Try.prog w = .ok v' w ∧ Row w v' k (xs.take (k * size)) := by
  rcases hown.2 with ⟨rfl, h0⟩ | ⟨g, cap, cur, rfl, hb, hg, hnc, hr⟩
  · have hk0 : k = 0 := by omega
    subst hk0
    refine ⟨.slice none 0 0, ?_, Row.nil _ _⟩
    rw [run_sliceAt_slice w t _ _ _ _ (elem_of hu), run_slice_h w t none 0 0 (elem_of hu) .i64 _ (by omega) (by omega), elem_is hu, hz]
    simp [Result.andThen, sliced]
  · refine ⟨.slice (some ⟨g, 0, none⟩) k cap, ?_, .inr ⟨g, 0, none, cap, rfl, fun _ => rfl, fun j u hj => ?_⟩⟩
    · rw [run_sliceAt_slice w t _ _ _ _ (elem_of hu), run_slice_h w t _ n cap (elem_of hu) .i64 _ (by omega) (by omega), elem_is hu, hz]
      simp [Result.andThen, sliced, Addr.add]
    · have h1 := (List.getElem?_eq_some_iff.1 hj).1
      rw [List.length_take] at h1
      have h2 : k * size ≤ n * size := Nat.mul_le_mul_right _ hk
      rw [Nat.zero_add, hown.cellAt j (by omega), ← hj, List.getElem?_take_of_lt (by omega)]
theorem run_sliceFrom {w : World} {t e : TypeId} {base size n k : Nat} {v : Value} {xs : List Value} (hu : Try.prog.underlying t = some (.slice e)) (hz : (sizeOf e).run Try.prog w = .ok size w) (hown : w.ownsRow base e size v n xs) (hk : k ≤ n) :
    ∃ v', (Instr.sliceAt t v (some (.int .i64 (k : Int))) none none).run Try.prog w = .ok v' w ∧ Row w v' (n - k) (xs.drop (k * size)) := by
  have hlen := hown.1
  rcases hown.2 with ⟨rfl, h0⟩ | ⟨g, cap, cur, rfl, hb, hg, hnc, hr⟩
  · have hk0 : k = 0 := by omega
    subst hk0
    subst h0
    refine ⟨.slice none 0 0, ?_, Row.nil _ _⟩
    rw [run_sliceAt_slice w t _ _ _ _ (elem_of hu), run_slice_l w t none 0 0 (elem_of hu) .i64 _ (by omega) (by omega), elem_is hu, hz]
    simp [Result.andThen, sliced]
  · refine ⟨.slice (if cap = k then some ⟨g, 0, none⟩ else some ⟨g, k * size, none⟩) (n - k) (cap - k), ?_, ?_⟩
    · rw [run_sliceAt_slice w t _ _ _ _ (elem_of hu), run_slice_l w t _ n cap (elem_of hu) .i64 _ (by omega) (by omega), elem_is hu, hz]
      simp [Result.andThen, sliced, Addr.add]
      split
      · rfl
      · split <;> simp_all
    · by_cases hc : cap = k
      · rw [if_pos hc]
        refine .inr ⟨g, 0, none, cap - k, rfl, fun _ => rfl, fun j u hj => ?_⟩
        have hnk : n = k := by omega
        rw [List.drop_of_length_le (by rw [hlen, hnk]; exact Nat.le_refl _)] at hj
        simp at hj
      · rw [if_neg hc]
        refine .inr ⟨g, k * size, none, cap - k, rfl, fun _ => rfl, fun j u hj => ?_⟩
        have h1 := (List.getElem?_eq_some_iff.1 hj).1
        rw [List.length_drop, hlen] at h1
        rw [hown.cellAt (k * size + j) (by omega), ← hj, List.getElem?_drop]
theorem wpList_sliceTo (w : World) {ops : Array Oper} {rest : List Oper} {o : Oper} {a : Act} {Q : Exit → Act → World → Prop} (hgd : o.guard = none) (s x : Operand) (t e : TypeId) (base size : Nat) (hu : Try.prog.underlying t = some (.slice e)) (hz : (sizeOf e).run Try.prog w = .ok size w)
    (ho : o.op = .slice t s none (some x) none) (v : Value) (n k : Nat) (xs : List Value) (hs : a.eval s = v) (hx : a.eval x = .int .i64 (k : Int)) (hown : w.ownsRow base e size v n xs) (hk : k ≤ n)
    (h : ∀ v', Row w v' k (xs.take (k * size)) → wpList Try.prog ops Q rest (a.put o.dst v') w) : wpList Try.prog ops Q (o :: rest) a w := by
  obtain ⟨v', hr, hrow⟩ := run_sliceTo hu hz hown hk
  refine wpList_plain hgd fun K hK => ?_
  unfold Oper.wp
  simp only [execOp, ho, hs, hx, Option.map, Sem.run_bind, hr, Result.andThen_ok, Sem.run_pure]
  exact hK _ _ (h v' hrow)
theorem wpList_sliceFrom (w : World) {ops : Array Oper} {rest : List Oper} {o : Oper} {a : Act} {Q : Exit → Act → World → Prop} (hgd : o.guard = none) (s x : Operand) (t e : TypeId) (base size : Nat) (hu : Try.prog.underlying t = some (.slice e)) (hz : (sizeOf e).run Try.prog w = .ok size w)
    (ho : o.op = .slice t s (some x) none none) (v : Value) (n k : Nat) (xs : List Value) (hs : a.eval s = v) (hx : a.eval x = .int .i64 (k : Int)) (hown : w.ownsRow base e size v n xs) (hk : k ≤ n)
    (h : ∀ v', Row w v' (n - k) (xs.drop (k * size)) → wpList Try.prog ops Q rest (a.put o.dst v') w) : wpList Try.prog ops Q (o :: rest) a w := by
  obtain ⟨v', hr, hrow⟩ := run_sliceFrom hu hz hown hk
  refine wpList_plain hgd fun K hK => ?_
  unfold Oper.wp
  simp only [execOp, ho, hs, hx, Option.map, Sem.run_bind, hr, Result.andThen_ok, Sem.run_pure]
  exact hK _ _ (h v' hrow)

end Go.Proofs.Ytphhljbeaklikaa
