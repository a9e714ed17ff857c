/- A row of questions, of records that lies anywhere, appended to an empty row of the call's own. -/
import Derived.Test.YtbffnicfibfceaaXP7
import Derived.Deep.RegionHeld3
import Derived.Deep.RegionLawGrows
import Derived.Test.YtbffnicfibfceaaXP2
import Derived.Test.YtbffnicfibfceaaXP3
namespace Go.Proofs.Ytbffnicfibfceaa
open Go.RowKit
open Pl

/-- What an append reads of. -/
theorem Row.src {w : World} {v : Value} {n : Nat} {xs : List Value} (h : Row w v n xs) : ∃ x0 c, v = .slice x0 n c ∧ (n = 0 ∨ ∃ ad, x0 = some ad ∧ ∀ j u, xs[j]? = some u → w.cell? (ad.add j) = some u) := by
  by_cases hn : n = 0
  · subst hn
    obtain ⟨x, c, hv⟩ := row_none h
    exact ⟨x, c, hv, .inl rfl⟩
  · obtain ⟨g, o, cap, hv, hc⟩ := row_at h (by omega)
    refine ⟨_, _, hv, .inr ⟨_, rfl, fun j u hu => ?_⟩⟩
    have : (⟨g, o, none⟩ : Addr).add j = ⟨g, o + j, none⟩ := by unfold Addr.add; split <;> simp_all
    rw [this]
    exact hc j u hu

/-- How many have not come up. -/
def unl (l : List Bool) : Nat := (l.filter (fun b => !b)).length
theorem unl_set : ∀ (l : List Bool) (i : Nat), l[i]? = some false → unl (l.set i true) + 1 = unl l := by
  intro l
  induction l with
  | nil => intro i h; simp at h
  | cons b l ih =>
    intro i h
    cases i with
    | zero =>
      simp at h
      subst h
      simp [unl]
    | succ i =>
      have := ih i (by simpa using h)
      unfold unl at this ⊢
      cases b <;> simp [List.set_cons_succ] <;> simpa using this
theorem getD_false {l : Array Bool} {i : Nat} (h : l.getD i true = false) : l.toList[i]? = some false := by
  rw [Array.getD_eq_getD_getElem?] at h
  rw [Array.getElem?_toList]
  cases e : l[i]? with
  | none => rw [e] at h; simp at h
  | some b => rw [e] at h; simp at h; rw [h]

section
variable {P : Program} {md : Region.Mode} {ops : Array Oper} {Q : Exit → Act → World → Prop} {S : World → Prop}
/-- A region that draws its order: what holds behind each operation, whichever comes up. -/
theorem wpAnyH_inv (J : Array Bool → Act → World → Prop) (hS : ∀ l a w, J l a w → S w)
    (hstep : ∀ l a w, J l a w → ∀ i, l.getD i true = false → ∀ o, ops[i]? = some o → (∀ e ∈ o.after, Region.binds md e = true → l.getD e.on false = true) →
      ∀ K : Act → World → Prop, (∀ a' w', J (l.setIfInBounds i true) a' w' → K a' w') → if Region.wanted o (yielded ops a.tmps) = true then Oper.wp P o a w K Q else K (a.put o.dst undef) w)
    (hend : ∀ l a w, J l a w → Region.ready md ops l = [] → Q .normal a w) :
    ∀ fuel l a w, unl l.toList ≤ fuel → J l a w → wpAnyH P md ops Q S fuel l a w := by
  intro fuel
  induction fuel with
  | zero =>
    intro l a w hf hJ
    have hr : Region.ready md ops l = [] := by
      apply List.eq_nil_iff_forall_not_mem.2
      intro i hi
      have h1 := unl_set _ _ (getD_false (mem_ready.1 hi).1)
      omega
    exact ⟨hr, hend l a w hJ hr⟩
  | succ fuel ih =>
    intro l a w hf hJ
    refine ⟨hend l a w hJ, fun i hi => ?_⟩
    obtain ⟨hun, o, ho, hall⟩ := mem_ready.1 hi
    refine wpOp_step ho fun K hK => hstep l a w hJ i hun o ho hall K fun a' w' hJ' => hK a' w' ⟨hS _ _ _ hJ', ih _ a' w' ?_ hJ'⟩
    have h1 := unl_set _ _ (getD_false hun)
    rw [Array.toList_setIfInBounds]
    omega
end

theorem ready_nil {md : Region.Mode} {ops : Array Oper} {l : Array Bool} (htop : (List.range ops.size).all (fun i => ((ops[i]?).map (fun o => o.after.all (fun e => decide (e.on < i)))).getD true) = true) (hsz : l.size = ops.size) (hr : Region.ready md ops l = []) : ∀ i, l.getD i true = true := by
  intro i
  induction i using Nat.strongRecOn with
  | _ i ih =>
    cases hi : l.getD i true with
    | true => rfl
    | false =>
      have hlt : i < l.size := by
        rcases Nat.lt_or_ge i l.size with h | h
        · exact h
        · rw [Array.getD_eq_getD_getElem?, Array.getElem?_eq_none h] at hi
          simp at hi
      have ho : ops[i]? = some ops[i] := Array.getElem?_eq_getElem (by omega)
      have ht := List.all_eq_true.1 htop i (List.mem_range.2 (by omega))
      rw [ho] at ht
      simp only [Option.map_some, Option.getD_some, Array.all_eq_true_iff_forall_mem, decide_eq_true_eq] at ht
      have hm : i ∈ Region.ready md ops l := mem_ready.2 ⟨hi, _, ho, fun e he _ => by
        have h1 := ih e.on (ht e he)
        have h2 : e.on < l.size := by have := ht e he; omega
        rw [Array.getD_eq_getD_getElem?, Array.getElem?_eq_getElem h2] at h1 ⊢
        simpa using h1⟩
      rw [hr] at hm
      cases hm

/-- A row that a copy has: an empty one, or one that the call owns. -/
def CRow (B : Nat) (w : World) (e z : Nat) (v : Value) (n : Nat) (xs : List Value) : Prop := (n = 0 ∧ xs = [] ∧ ∃ g, v = .slice (some g) 0 0) ∨ w.ownsRow B e z v n xs
theorem CRow.below {B : Nat} {w w' : World} {e z : Nat} {v : Value} {n : Nat} {xs : List Value} (h : CRow B w e z v n xs) (hb : Below w.heap.size w w') : CRow B w' e z v n xs := h.imp id (fun o => own_past o hb)
theorem CRow.turn {B g : Nat} {w w' : World} {e z : Nat} {v : Value} {n : Nat} {xs : List Value} (h : CRow B w e z v n xs) (ht : Turn (fun k => k = g) w w') (hg : g < B) : CRow B w' e z v n xs := h.imp id (fun o => ht.row o (fun k hk e => by have := (o.lt k hk).1; omega))
theorem CRow.row {B : Nat} {w : World} {e z : Nat} {v : Value} {n : Nat} {xs : List Value} (h : CRow B w e z v n xs) : Row w v n xs := by
  rcases h with ⟨rfl, rfl, g, rfl⟩ | h
  · exact .inr ⟨g.block, g.off, g.spot, 0, rfl, fun h => by omega, fun j u hu => by simp at hu⟩
  · exact Row.of_own h

theorem grown_below {w w' : World} (h : w.grownBy w' none) : Below w.heap.size w w' := (Below.refl _ _).grown h (Nat.le_refl _) (fun _ e => by simp at e)

/-- A row is appended to an empty one without room. -/
theorem step_copy {P : Program} {ops : Array Oper} {o : Oper} {a : Act} {w : World} {K : Act → World → Prop} {Q : Exit → Act → World → Prop} {E : Prop}
    (hgd : o.guard = none) (s x : Operand) (t : TypeId) (ho : o.op = Op.call { callee := Callee.builtin Builtin.append, args := #[s, x], argTypes := #[t, t] })
    (B : Nat) (e : TypeId) (i : TypeInfo) (z : Value) (size bytes : Nat) (h1 : P.underlying t = some (.slice e)) (h2 : P.info? e = some i) (h3 : i.zero = some z) (h4 : i.size = size) (h5 : i.bytes = bytes) (h6 : z.cells.size = size) (h7 : 0 < size)
    (g : Addr) (hs : a.eval s = .slice (some g) 0 0) (v : Value) (n : Nat) (xs : List Value) (hx : a.eval x = v) (hrow : Row w v n xs) (hl : xs.length = n * size) (h1c : ∀ u ∈ xs, u.oneCell' = true) (hb : n * bytes ≤ 140737488355328) (hm : n ≤ maxLen) (hB : B ≤ w.heap.size)
    (hK : ∀ v' w', CRow B w' e size v' n xs → Below w.heap.size w w' → K (a.put o.dst v') w') :
    if Region.wanted o (yielded ops a.tmps) = true then Oper.wp P o a w K Q else E := by
  obtain ⟨x0, c, rfl, hc⟩ := hrow.src
  by_cases hn : n = 0
  · subst hn
    have hxs : xs = [] := List.eq_nil_of_length_eq_zero (by simpa using hl)
    subst hxs
    have hw : Region.wanted o (yielded ops a.tmps) = true := by simp [Region.wanted, hgd]
    rw [if_pos hw]
    have hsrc : Src P i.size t (.slice x0 0 c) 0 [] w := by
      cases x0 with
      | none => exact Src.ofNil w h1 c
      | some ad => exact Src.ofSlice w h1 ad 0 c [] (by simp) (fun j u hu => by simp at hu) (fun u hu => by cases hu)
    have hrun := run_append_nothing (P := P) w t t o.type e i h1 h2 (some g) 0 0 (Nat.le_refl _) _ hsrc
    unfold Oper.wp
    simp only [execOp, ho, resolve, invoke, builtin, Sem.run_bind, Sem.run_pure, Result.andThen_ok, List.map_toArray, List.map_cons, List.map_nil, hs, hx, hrun]
    exact hK _ w (.inl ⟨rfl, rfl, g, rfl⟩) (Below.refl _ _)
  · rcases hc with h0 | ⟨ad, rfl, hcell⟩
    · exact absurd h0 hn
    refine step_append_grows hgd s x t ho e i z size bytes h1 h2 h3 h4 h5 h6 h7 (some g) 0 0 [] hs (fun e => by cases e) (by simp) (fun b _ j u hu => by simp at hu) ad n c xs hx hl hcell h1c (by omega) (by omega) (by rw [Nat.zero_add]; exact hb) (fun v' w' ow gr => ?_)
    rw [Nat.zero_add, List.nil_append] at ow
    exact hK v' w' (.inr (own_base ow hB)) (grown_below gr)

end Go.Proofs.Ytbffnicfibfceaa

/- What CopyMsg gives. -/
namespace Go.Proofs.Ytbffnicfibfceaa
open Go.RowKit
open Pl

/-- What holds while a message is copied; what holds once it is. -/
def CJ (W : World) (gm gr : Nat) (id : Int) (qr : Bool) (op : Int) (aa tc rd ra : Bool) (z rc : Int) (qs : List Qn) (an ns ar : List Rc) (x0 x1 x2 x3 : Option Addr) (c0 c1 c2 c3 : Nat) (l : Array Bool) (a : Act) (u : World) : Prop :=
  ∃ (p1 p2 p3 p4 q1 q2 q3 q4 d : Bool) (b1 b2 b3 b4 r1 r2 r3 r4 bl : Value), l = #[true, true, p1, true, true, q1, p2, true, true, q2, p3, true, true, q3, p4, true, true, q4, d, false] ∧ a = ⟨#[.agg #[.int .i64 id, .bool qr, .int .i64 op, .bool aa, .bool tc, .bool rd, .bool ra, .int .i64 z, .int .i64 rc, .slice x0 qs.length c0, .slice x1 an.length c1, .slice x2 ns.length c2, .slice x3 ar.length c3], .pointer (some ⟨gm, 0, none⟩), .pointer (some ⟨gr, 0, none⟩), .pointer (some ⟨gm, 0, none⟩), .agg #[.int .i64 id, .bool qr, .int .i64 op, .bool aa, .bool tc, .bool rd, .bool ra, .int .i64 z, .int .i64 rc], b1, .pointer (some ⟨gm, 9, none⟩), .slice x0 qs.length c0, r1, b2, .pointer (some ⟨gm, 10, none⟩), .slice x1 an.length c1, r2, b3, .pointer (some ⟨gm, 11, none⟩), .slice x2 ns.length c2, r3, b4, .pointer (some ⟨gm, 12, none⟩), .slice x3 ar.length c3, r4, bl], []⟩ ∧ Below W.heap.size W u ∧
    (p1 = true → ∃ g, b1 = .slice (some g) 0 0) ∧ (p2 = true → ∃ g, b2 = .slice (some g) 0 0) ∧ (p3 = true → ∃ g, b3 = .slice (some g) 0 0) ∧ (p4 = true → ∃ g, b4 = .slice (some g) 0 0) ∧
    (q1 = true → CRow W.heap.size u 40 3 r1 qs.length (qC qs)) ∧ (q2 = true → CRow W.heap.size u 54 5 r2 an.length (rC an)) ∧ (q3 = true → CRow W.heap.size u 54 5 r3 ns.length (rC ns)) ∧ (q4 = true → CRow W.heap.size u 54 5 r4 ar.length (rC ar)) ∧
    (d = true → q1 = true ∧ q2 = true ∧ q3 = true ∧ q4 = true ∧ bl = .agg #[.int .i64 id, .bool qr, .int .i64 op, .bool aa, .bool tc, .bool rd, .bool ra, .int .i64 z, .int .i64 rc, r1, r2, r3, r4])
def CE (w W : World) (gm gr : Nat) (id : Int) (qr : Bool) (op : Int) (aa tc rd ra : Bool) (z rc : Int) (qs : List Qn) (an ns ar : List Rc) (x0 x1 x2 x3 : Option Addr) (c0 c1 c2 c3 : Nat) (l : Array Bool) (a : Act) (u : World) : Prop :=
  ∃ (b1 b2 b3 b4 r1 r2 r3 r4 bl : Value), l = #[true, true, true, true, true, true, true, true, true, true, true, true, true, true, true, true, true, true, true, true] ∧ a = ⟨#[.agg #[.int .i64 id, .bool qr, .int .i64 op, .bool aa, .bool tc, .bool rd, .bool ra, .int .i64 z, .int .i64 rc, .slice x0 qs.length c0, .slice x1 an.length c1, .slice x2 ns.length c2, .slice x3 ar.length c3], .pointer (some ⟨gm, 0, none⟩), .pointer (some ⟨gr, 0, none⟩), .pointer (some ⟨gm, 0, none⟩), .agg #[.int .i64 id, .bool qr, .int .i64 op, .bool aa, .bool tc, .bool rd, .bool ra, .int .i64 z, .int .i64 rc], b1, .pointer (some ⟨gm, 9, none⟩), .slice x0 qs.length c0, r1, b2, .pointer (some ⟨gm, 10, none⟩), .slice x1 an.length c1, r2, b3, .pointer (some ⟨gm, 11, none⟩), .slice x2 ns.length c2, r3, b4, .pointer (some ⟨gm, 12, none⟩), .slice x3 ar.length c3, r4, bl], []⟩ ∧ Below w.heap.size w u ∧ Blk u gm (msgC ⟨id, qr, op, aa, tc, rd, ra, z, rc⟩ (.slice x0 qs.length c0) (.slice x1 an.length c1) (.slice x2 ns.length c2) (.slice x3 ar.length c3)) 27 ∧ Blk u gr #[.int .i64 id, .bool qr, .int .i64 op, .bool aa, .bool tc, .bool rd, .bool ra, .int .i64 z, .int .i64 rc, r1, r2, r3, r4] 27 ∧
    CRow W.heap.size u 40 3 r1 qs.length (qC qs) ∧ CRow W.heap.size u 54 5 r2 an.length (rC an) ∧ CRow W.heap.size u 54 5 r3 ns.length (rC ns) ∧ CRow W.heap.size u 54 5 r4 ar.length (rC ar)

theorem all_listed {i : Nat} : Array.getD #[true, true, true, true, true, true, true, true, true, true, true, true, true, true, true, true, true, true, true, true] i true = true := by
  rw [Array.getD_eq_getD_getElem?]
  by_cases h : i < 20
  · match i, h with
    | 0, _ => rfl
    | 1, _ => rfl
    | 2, _ => rfl
    | 3, _ => rfl
    | 4, _ => rfl
    | 5, _ => rfl
    | 6, _ => rfl
    | 7, _ => rfl
    | 8, _ => rfl
    | 9, _ => rfl
    | 10, _ => rfl
    | 11, _ => rfl
    | 12, _ => rfl
    | 13, _ => rfl
    | 14, _ => rfl
    | 15, _ => rfl
    | 16, _ => rfl
    | 17, _ => rfl
    | 18, _ => rfl
    | 19, _ => rfl
    | n + 20, h => exact absurd h (by omega)
  · rw [Array.getElem?_eq_none (by show 20 ≤ i; omega)]; rfl

end Go.Proofs.Ytbffnicfibfceaa

/- What SpoilMsg leaves. -/
namespace Go.Proofs.Ytbffnicfibfceaa
open Go.RowKit
open Pl

/-- The cells at place f of each element are numbers. -/
def Ints (xs : List Value) (z f n : Nat) : Prop := ∀ j, j < n → ∃ t, xs[j * z + f]? = some (.int .i64 t)
theorem Ints.set {xs : List Value} {z f n : Nat} (h : Ints xs z f n) (i : Nat) (x : Int) : Ints (xs.set i (.int .i64 x)) z f n := by
  intro j hj
  obtain ⟨t, ht⟩ := h j hj
  by_cases e : i = j * z + f
  · subst e
    exact ⟨x, List.getElem?_set_self (List.getElem?_eq_some_iff.1 ht).1⟩
  · exact ⟨t, by rw [List.getElem?_set_ne e]; exact ht⟩
theorem ints_q (qs : List Qn) : Ints (qC qs) 3 1 qs.length := fun j hj => ⟨_, by rw [qC_at hj 1 (by decide)]; rfl⟩
theorem ints_r (rs : List Rc) : Ints (rC rs) 5 3 rs.length := fun j hj => ⟨_, by rw [rC_at hj 3 (by decide)]; rfl⟩

theorem own_len {w : World} {B e z n n0 k0 : Nat} {y : Option Addr} {xs : List Value} (h : w.ownsRow B e z (.slice y n0 k0) n xs) : n0 = n := by
  rcases h.2 with ⟨h1, h2⟩ | ⟨g, cap, cur, h1, _⟩
  · simp at h1; omega
  · simp at h1; exact h1.2.1
theorem own_apart {w : World} {B B' e e' z z' n n' : Nat} {v v' : Value} {xs xs' : List Value} (h : w.ownsRow B e z v n xs) (h' : w.ownsRow B' e' z' v' n' xs') (he : e ≠ e') {k : Nat} (hk : v.ownBlock = some k) : v'.ownBlock ≠ some k := by
  intro hk'
  rcases h.2 with ⟨h1, _⟩ | ⟨g, cap, cur, h1, _, hg, _⟩
  · rw [h1] at hk; simp [Value.ownBlock] at hk
  · rcases h'.2 with ⟨h2, _⟩ | ⟨g', cap', cur', h2, _, hg', _⟩
    · rw [h2] at hk'; simp [Value.ownBlock] at hk'
    · rw [h1] at hk
      rw [h2] at hk'
      simp [Value.ownBlock] at hk hk'
      subst hk hk'
      rw [hg] at hg'
      simp at hg'
      exact he hg'.2
/-- The blocks of a message's rows. -/
def SB (v0 v1 v2 v3 : Value) (k : Nat) : Prop := v0.ownBlock = some k ∨ v1.ownBlock = some k ∨ v2.ownBlock = some k ∨ v3.ownBlock = some k
theorem Turn.more {S S' : Nat → Prop} {w w' : World} (h : Turn S w w') (hs : ∀ k, S k → S' k) : Turn S' w w' := ⟨h.os, h.tape, h.output, h.size, fun k hk hn => h.block k hk (fun e => hn (hs k e))⟩
theorem Own.sb {B : Nat} {w : World} {v0 v1 v2 v3 : Value} {m : Ms} (h : Own B w v0 v1 v2 v3 m) {k : Nat} (hk : SB v0 v1 v2 v3 k) : B ≤ k ∧ k < w.heap.size := by
  rcases hk with hk | hk | hk | hk
  · exact h.q.lt k hk
  · exact h.an.lt k hk
  · exact h.ns.lt k hk
  · exact h.ar.lt k hk

end Go.Proofs.Ytbffnicfibfceaa

/- What the document's whole, texts, DataMay, wide, A, Addr, Mx and Host give. -/
namespace Go.Proofs.Ytbffnicfibfceaa
open Go.RowKit
open Pl

theorem refMay_as (s : ByteArray) (b : Bool) (w : World) (hs : s.size ≤ maxLen) (h : isName s.data.toList = b) :
    Calls Try.prog 31 #[.string s] w fun e w' => e = .returned (.bool b) ∧ Below w.heap.size w w' := by rw [← h]; exact refMay_any s w hs
theorem drop_getE (s : ByteArray) (k p : Nat) (h : k + p < s.size) : (s.data.toList.drop k)[p]'(by rw [List.length_drop, data_len]; omega) = s[k + p] := by
  rw [List.getElem_drop]; rfl
/-- What whole gives. -/
def wholeI (l : List UInt8) (k : Nat) : Int :=
  match cutL (l.drop k) with
  | none => -1
  | some e => (k : Int) + (e : Int)
theorem whole_none {l : List UInt8} {k : Nat} (h : cutL (l.drop k) = none) : wholeI l k = -1 := by unfold wholeI; rw [h]
theorem whole_some {l : List UInt8} {k e : Nat} (h : cutL (l.drop k) = some e) : wholeI l k = (k : Int) + (e : Int) := by unfold wholeI; rw [h]
theorem ret_i {a b : Int} (h : a = b) : Ending.returned (.int .i64 a) = .returned (.int .i64 b) := by rw [h]

set_option maxRecDepth 20000 in
set_option maxHeartbeats 2000000 in
theorem whole_any (s : ByteArray) (k : Nat) (w : World) (hs : s.size ≤ 65535) (hk : k ≤ s.size) :
    Calls Try.prog 56 #[.string s, .int .i64 (k : Int)] w fun e w' => e = .returned (.int .i64 (wholeI s.data.toList k)) ∧ Below w.heap.size w w' := by
  have hl := data_len s
  have hb : Below w.heap.size w w := Below.refl _ _
  go_enter Try.func56, Try.ntmps56
  go_wp2
  go_loop [5] (fun i => ∃ p : Nat, p ≤ s.size + 300 ∧ i = .int .i64 ((k : Int) + (p : Int)) ∧ Hid (ZAt (s.data.toList.drop k) p)) (fun i => s.size + s.size + 600 - (intOf i).toNat)
  case atStart => exact ⟨0, by omega, by simp, zat_start _⟩
  case round =>
    obtain ⟨p, hp, rfl, HA⟩ := hrel
    by_cases hlt : k + p < s.size
    · have hlt' : p < (s.data.toList.drop k).length := by rw [List.length_drop, hl]; omega
      have hbyte := drop_getE s k p hlt
      have hb8 := UInt8.toNat_lt (s[k + p])
      have hi := idx s (k + p) ((k : Int) + (p : Int)) (by omega) hlt
      have hltI : (k : Int) + (p : Int) < (s.size : Int) := by omega
      obtain ⟨c, hc⟩ : ∃ c : UInt8, c = s[k + p] := ⟨_, rfl⟩
      rw [← hc] at hbyte hb8 hi
      by_cases h0 : c.toNat = 0
      · have HZ : Hid (cutL (s.data.toList.drop k) = if isName ((s.data.toList.drop k).take (p + 1)) = true then some (p + 1) else none) := cut_at (zat_end HA.out hlt' (by rw [hbyte]; exact h0))
        have h0' : ((c.toNat : Int) == 0) = true := by simpa using h0
        have hcut : ∀ u : World, (Instr.slice 9 (.string s) (some (.int .i64 (k : Int))) (some (.int .i64 ((k : Int) + (p : Int) + 1))) none).run Try.prog u = .ok (.string (s.extract k (k + p + 1))) u := fun u => by
          have := run_slice_string (P := Try.prog) u 9 s .i64 .i64 (k : Int) ((k : Int) + (p : Int) + 1) Try.underlying9 (by omega) (by omega) (by omega)
          rw [this, show ((k : Int) + (p : Int) + 1).toNat = k + p + 1 from by omega]; rfl
        have hxl : (s.extract k (k + p + 1)).data.toList = (s.data.toList.drop k).take (p + 1) := by rw [ext_list, show k + p + 1 - k = p + 1 from by omega]
        obtain ⟨X, hX⟩ : ∃ X, X = s.extract k (k + p + 1) := ⟨_, rfl⟩
        have hXs : X.size ≤ maxLen := by rw [hX]; unfold maxLen; simp; omega
        rw [← hX] at hcut hxl
        clear hc h0 hX hbyte
        cases hn : isName X.data.toList with
        | true =>
          have HR : Hid (wholeI s.data.toList k = (k : Int) + (p : Int) + 1) := by
            unfold Hid; rw [whole_some (HZ.out.trans (if_pos (by rw [← hxl]; exact hn)))]; omega
          go_wp2_with (go_at_call 31; go_must (refine (refMay_as X true _ hXs hn).mono ?_); rintro e w1 ⟨rfl, b1⟩)
          go_ret
          exact ⟨ret_i HR.out.symm, b1⟩
        | false =>
          have HR : Hid (wholeI s.data.toList k = -1) := whole_none (HZ.out.trans (if_neg (by rw [← hxl, hn]; simp)))
          go_wp2_with (go_at_call 31; go_must (refine (refMay_as X false _ hXs hn).mono ?_); rintro e w1 ⟨rfl, b1⟩)
          go_ret
          exact ⟨ret_i HR.out.symm, b1⟩
      · have HE : Hid (ZAt (s.data.toList.drop k) (p + (1 + c.toNat))) := by
          have := zat_step HA.out hlt' (by rw [hbyte]; exact h0)
          rw [hbyte] at this
          exact this
        have h0' : ((c.toNat : Int) == 0) = false := by simpa using h0
        clear hc hbyte
        go_wp2
        go_round
        case rel => exact ⟨p + (1 + c.toNat), by omega, by go_num, HE⟩
        case measure => simp [intOf]; omega
    · have HR : Hid (wholeI s.data.toList k = -1) := whole_none (cut_none (zat_past HA.out (by rw [List.length_drop, hl]; omega)))
      have hlt' : decide ((k : Int) + (p : Int) < (s.size : Int)) = false := by simp; omega
      go_wp2
      go_ret
      exact ⟨ret_i HR.out.symm, hb⟩

theorem refTexts_any (s : ByteArray) (w : World) (hs : s.size ≤ 65535) :
    Calls Try.prog 57 #[.string s] w fun e w' => e = .returned (.bool (texts s.data.toList)) ∧ w' = w := by
  have hl := data_len s
  go_enter Try.func57, Try.ntmps57
  go_wp2
  go_loop [3] (fun i => ∃ p : Nat, p ≤ s.size + 256 ∧ i = .int .i64 (p : Int) ∧ Hid (QAt s.data.toList p)) (fun i => s.size + 256 - (intOf i).toNat)
  case atStart => exact ⟨0, Nat.zero_le _, rfl, qat_start _⟩
  case round =>
    obtain ⟨p, hp, rfl, HQ⟩ := hrel
    by_cases hlt : p < s.size
    · have hb := UInt8.toNat_lt (s[p])
      have HE : Hid (QAt s.data.toList (p + (1 + s[p].toNat))) := qat_step HQ.out (by rw [hl]; exact hlt)
      go_wp2
      go_round
      case rel => exact ⟨p + (1 + s[p].toNat), by omega, by go_num, HE⟩
      case measure => simp [intOf]; omega
    · have HE : Hid (tq 0 s.data.toList = decide (p = s.data.toList.length)) := qat_end HQ.out (by omega)
      by_cases h1 : p = s.size
      · have HT : Hid (texts s.data.toList = decide (0 < p)) := by
          unfold Hid texts
          rw [HE.out, hl, Bool.eq_iff_iff]; simp; omega
        have h1' : ((p : Int) == (s.size : Int)) = true := by rw [h1]; simp
        have hlt' : decide (p < s.size) = false := by simp; omega
        clear h1
        go_wp2
        go_ret
        exact ⟨ret_bool HT.out.symm, rfl⟩
      · have HT : Hid (texts s.data.toList = false) := by
          unfold Hid texts; rw [HE.out, hl]; simp; omega
        have h1' : ((p : Int) == (s.size : Int)) = false := by simp; omega
        go_wp2
        go_ret
        exact ⟨ret_bool HT.out.symm, rfl⟩

end Go.Proofs.Ytbffnicfibfceaa

/- What the document's DataMay, wide, A, Addr, Mx and Host give. -/
namespace Go.Proofs.Ytbffnicfibfceaa
open Go.RowKit
open Pl

set_option maxRecDepth 20000 in
set_option maxHeartbeats 1000000 in
theorem dataMay_any (t : Int) (s : ByteArray) (w : World) (hs : s.size ≤ maxLen) :
    Calls Try.prog 48 #[.int .i64 t, .string s] w fun e w' => e = .returned (.bool (mayD t s.data.toList)) ∧ Below w.heap.size w w' := by
  have hm := hs
  unfold maxLen at hs
  have hl := data_len s
  have hb : Below w.heap.size w w := Below.refl _ _
  by_cases p1 : 1 ≤ t
  · have q1 : decide (t < 1) = false := by simpa using p1
    by_cases p2 : t ≤ 65535
    · have q2 : decide (65535 < t) = false := by simpa using p2
      by_cases p3 : s.size ≤ 65535
      · have q3 : decide ((65535 : Int) < (s.size : Int)) = false := by simp; omega
        rcases kinds t with rfl | rfl | h | rfl | rfl | rfl | h
        · have HR : Hid (mayD 1 s.data.toList = ((s.size : Int) == 4)) := by unfold Hid; rw [may_1, Bool.eq_iff_iff]; simp; omega
          clear p1 p2 q1 q2
          go_enter Try.func48, Try.ntmps48
          go_wp2
          go_ret
          exact ⟨ret_bool HR.out.symm, hb⟩
        · have HR : Hid (mayD 28 s.data.toList = ((s.size : Int) == 16)) := by unfold Hid; rw [may_28, Bool.eq_iff_iff]; simp; omega
          clear p1 p2 q1 q2
          go_enter Try.func48, Try.ntmps48
          go_wp2
          go_ret
          exact ⟨ret_bool HR.out.symm, hb⟩
        · have HR := may_n h s.data.toList
          rw [HR]
          rcases h with rfl | rfl | rfl
          all_goals
            clear p1 p2 q1 q2
            go_enter Try.func48, Try.ntmps48
            go_wp2_with (go_at_call 31; go_must (refine (refMay_any _ _ hm).mono ?_); rintro e w1 ⟨rfl, b1⟩)
            go_ret
            exact ⟨rfl, b1⟩
        · clear p1 p2 q1 q2
          by_cases h2 : 2 < s.size
          · have hcut := cut_rest s 2 2 rfl (by omega)
            obtain ⟨r, hr⟩ : ∃ r, isName (s.extract 2 s.size).data.toList = r := ⟨_, rfl⟩
            have HR : Hid (mayD 15 s.data.toList = r) := by unfold Hid; rw [← hr, may_15, ext_from]; simp; omega
            have h2' : (2 : Int) < (s.size : Int) := by omega
            go_enter Try.func48, Try.ntmps48
            go_wp2_with (go_at_call 31; go_must (refine (refMay_as _ r _ (by unfold maxLen; simp; omega) hr).mono ?_); rintro e w1 ⟨rfl, b1⟩)
            go_ret
            exact ⟨ret_bool HR.out.symm, b1⟩
          · have HR : Hid (mayD 15 s.data.toList = false) := by unfold Hid; rw [may_15]; simp; omega
            have h2' : decide ((2 : Int) < (s.size : Int)) = false := by simp; omega
            go_enter Try.func48, Try.ntmps48
            go_wp2
            go_ret
            exact ⟨ret_bool HR.out.symm, hb⟩
        · clear p1 p2 q1 q2
          rw [may_6]
          have k0 := fun u => whole_any s 0 u p3 (Nat.zero_le _)
          cases hc : cutL s.data.toList with
          | none =>
            rw [soa_cut hc]
            have e0 : wholeI s.data.toList 0 = -1 := whole_none (by rw [List.drop_zero]; exact hc)
            rw [e0] at k0
            go_enter Try.func48, Try.ntmps48
            go_wp2_with (go_at_call 56; go_must (refine (k0 _).mono ?_); rintro e w1 ⟨rfl, b1⟩)
            go_ret
            exact ⟨rfl, b1⟩
          | some a =>
            have ca := cut_some hc
            rw [hl] at ca
            have e0 : wholeI s.data.toList 0 = (a : Int) := by rw [whole_some (k := 0) (e := a) (by rw [List.drop_zero]; exact hc)]; omega
            rw [e0] at k0
            have k1 := fun u => whole_any s a u p3 ca.2.1
            have ha0 : decide ((a : Int) < 0) = false := by simp
            cases hc2 : cutL (s.data.toList.drop a) with
            | none =>
              rw [soa_cut2 hc hc2]
              rw [whole_none hc2] at k1
              go_enter Try.func48, Try.ntmps48
              go_wp2_with (first
                | (go_at_call_of 56 (#[Value.string s, Value.int IntKind.i64 0]); go_must (refine (k0 _).mono ?_); rintro e w1 ⟨rfl, b1⟩; replace hb := next hb b1; clear b1)
                | (go_at_call 56; go_must (refine (k1 _).mono ?_); rintro e w2 ⟨rfl, b1⟩; replace hb := next hb b1; clear b1))
              go_ret
              exact ⟨rfl, hb⟩
            | some b =>
              have cb := cut_some hc2
              rw [List.length_drop, hl] at cb
              rw [whole_some hc2] at k1
              have HR : Hid ((soaL s.data.toList).isSome = ((s.size : Int) == (a : Int) + (b : Int) + 20)) := by
                unfold Hid
                rw [soa_at hc hc2, hl]
                by_cases e : s.size = a + b + 20
                · rw [if_pos e, Bool.eq_iff_iff]; simp; omega
                · rw [if_neg e, Bool.eq_iff_iff]; simp; omega
              have hab : (0 : Int) ≤ (a : Int) + (b : Int) := by omega
              go_enter Try.func48, Try.ntmps48
              go_wp2_with (first
                | (go_at_call_of 56 (#[Value.string s, Value.int IntKind.i64 0]); go_must (refine (k0 _).mono ?_); rintro e w1 ⟨rfl, b1⟩; replace hb := next hb b1; clear b1)
                | (go_at_call 56; go_must (refine (k1 _).mono ?_); rintro e w2 ⟨rfl, b1⟩; replace hb := next hb b1; clear b1))
              go_ret
              exact ⟨ret_bool HR.out.symm, hb⟩
        · have HR : Hid (mayD 16 s.data.toList = texts s.data.toList) := by unfold Hid; rw [may_16]; simp; omega
          clear p1 p2 q1 q2
          go_enter Try.func48, Try.ntmps48
          go_wp2_with (go_at_call 57; go_must (refine (refTexts_any _ _ p3).mono ?_); rintro e w' ⟨rfl, hw⟩; obtain rfl := hw.symm)
          go_ret
          exact ⟨ret_bool HR.out.symm, hb⟩
        · have HR : Hid (mayD t s.data.toList = true) := by unfold Hid; rw [may_o h]; simp; omega
          obtain ⟨h1, h2, h3, h4, h5, h6, h7, h8⟩ := other_tests h
          clear h
          go_enter Try.func48, Try.ntmps48
          go_wp2
          go_ret
          exact ⟨ret_bool HR.out.symm, hb⟩
      · have q3 : (65535 : Int) < (s.size : Int) := by omega
        have HR : Hid (mayD t s.data.toList = false) := may_long t (by omega)
        go_enter Try.func48, Try.ntmps48
        go_wp2
        go_ret
        exact ⟨ret_bool HR.out.symm, hb⟩
    · have q2 : 65535 < t := by omega
      have HR : Hid (mayD t s.data.toList = false) := may_none (.inr q2) _
      go_enter Try.func48, Try.ntmps48
      go_wp2
      go_ret
      exact ⟨ret_bool HR.out.symm, hb⟩
  · have q1 : t < 1 := by omega
    have HR : Hid (mayD t s.data.toList = false) := may_none (.inl q1) _
    go_enter Try.func48, Try.ntmps48
    go_wp2
    go_ret
    exact ⟨ret_bool HR.out.symm, hb⟩

theorem dataMay_as (t : Int) (s : ByteArray) (r : Bool) (w : World) (hs : s.size ≤ maxLen) (h : mayD t s.data.toList = r) :
    Calls Try.prog 48 #[.int .i64 t, .string s] w fun e w' => e = .returned (.bool r) ∧ Below w.heap.size w w' := by rw [← h]; exact dataMay_any t s w hs

theorem wide_any (x : Int) (w : World) : Calls Try.prog 47 #[.int .i64 x] w fun e w' => e = .returned (.bool (inB 4294967295 x)) ∧ w' = w := by
  by_cases h0 : 0 ≤ x
  · have HR : Hid (inB 4294967295 x = decide (x ≤ 4294967295)) := by unfold Hid inB; rw [Bool.eq_iff_iff]; simp; omega
    go_enter Try.func47, Try.ntmps47
    go_wp2
    go_ret
    exact ⟨ret_bool HR.out.symm, rfl⟩
  · have HR : Hid (inB 4294967295 x = false) := by unfold Hid inB; simp; omega
    have h0' : decide (0 ≤ x) = false := by simpa using h0
    go_enter Try.func47, Try.ntmps47
    go_wp2
    go_ret
    exact ⟨ret_bool HR.out.symm, rfl⟩
theorem wide_as (x : Int) (r : Bool) (w : World) (h : inB 4294967295 x = r) : Calls Try.prog 47 #[.int .i64 x] w fun e w' => e = .returned (.bool r) ∧ w' = w := by rw [← h]; exact wide_any x w

end Go.Proofs.Ytbffnicfibfceaa

/- What the document's Name and Data (compressed) give, for every argument. -/
namespace Go.Proofs.Ytbffnicfibfceaa
open Go.RowKit
open Pl

/-- How long a string is. -/
def lenOf : Value → Nat
  | .string s => s.size
  | _ => 0
/-- The place behind, as the document keeps it. -/
def nxI : Option Nat → Int
  | none => -1
  | some y => (y : Int)

theorem nx_some (y : Nat) : nxI (some y) = (y : Int) := rfl
theorem app_take (s : ByteArray) (p k : Nat) : (s.extract p (p + 1 + k)).data.toList = (s.data.toList.drop p).take (1 + k) := by
  rw [ext_list, show p + 1 + k - p = 1 + k from by omega]

set_option maxRecDepth 20000 in
set_option maxHeartbeats 1000000 in
theorem rName_any (s : ByteArray) (p : Nat) (w : World) (hs : s.size ≤ 140737488355328) :
    Calls Try.prog 44 #[.string s, .int .i64 (p : Int)] w fun e w' => e = .returned (nmV (nameOf s.data.toList p)) ∧ Below w.heap.size w w' := by
  have hsm := max_of hs
  have hl := data_len s
  have HST : Hid (RAt s.data.toList p p [] none (nameOf s.data.toList p)) := r_start _ _
  obtain ⟨R, hR⟩ : ∃ R, R = nameOf s.data.toList p := ⟨_, rfl⟩
  rw [← hR] at HST ⊢
  clear hR
  have hb : Below w.heap.size w w := Below.refl _ _
  go_enter Try.func44, Try.ntmps44
  go_wp2
  go_loopw [1, 7, 8, 9] (fun a v fr nx wr => ∃ (p g : Nat) (o : ByteArray) (x : Option Nat) (X : Int), a = .int .i64 (p : Int) ∧ v = .string o ∧ fr = .int .i64 (g : Int) ∧ nx = .int .i64 X ∧ o.size ≤ 400 ∧ Hid (X = nxI x) ∧ Hid (∀ y, x = some y → 0 < y) ∧ Hid (RAt s.data.toList p g o.data.toList x R) ∧ Hid (Labs o.data.toList) ∧ Below w.heap.size w wr) (fun _ v fr _ _ => (intOf fr).toNat * 1000 + (500 - lenOf v))
  case atStart => exact ⟨p, p, ⟨#[]⟩, none, -1, rfl, rfl, rfl, rfl, by decide, rfl, fun y hy => by simp at hy, HST, labs_nil, hb⟩
  case round =>
    clear hb HST
    obtain ⟨p, g, o, x, X, rfl, rfl, rfl, rfl, ho4, HX, HXP, HR, HL, hb⟩ := hrel
    have hol := data_len o
    by_cases hlt : p < s.size
    · have hlt' : p < s.data.toList.length := by omega
      have hpi : (p : Int) < (s.size : Int) := by omega
      have hk := UInt8.toNat_lt (s[p])
      by_cases ho : o.size ≤ 255
      · have ho' : (o.size : Int) ≤ 255 := by omega
        have hX : (x = none ∧ X = -1 ∧ decide (X < 0) = true) ∨ (∃ y : Nat, x = some y ∧ 0 < y ∧ X = (y : Int) ∧ decide (X < 0) = false) := by
          cases x with
          | none => exact .inl ⟨rfl, HX.out, by rw [HX.out]; rfl⟩
          | some y => exact .inr ⟨y, rfl, HXP.out y rfl, HX.out, decide_eq_false (by rw [HX.out, nx_some]; omega)⟩
        clear HX HXP
        by_cases h0 : s[p].toNat = 0
        · have h0' : ((s[p].toNat : Int) == 0) = true := by simpa using h0
          by_cases h254 : o.size ≤ 254
          · have HRR : Hid (R = some (o.data.toList ++ [0], x.getD (p + 1))) := r_zero HR.out hlt' h0 (by omega)
            obtain ⟨O, hO⟩ : ∃ O : ByteArray, O = o ++ ⟨#[0]⟩ := ⟨_, rfl⟩
            have hOl : O.data.toList = o.data.toList ++ [0] := by rw [hO, app_list]
            have hOs : O.size ≤ maxLen := by unfold maxLen; rw [hO, ByteArray.size_append]; show o.size + 1 ≤ _; omega
            have HM : Hid (isName O.data.toList = true) := by unfold Hid; rw [hOl]; exact labs_name HL.out (by omega)
            have HOE : Hid (O = o ++ ⟨#[0]⟩) := hO
            have hOO := hO.symm
            clear hO
            rcases hX with ⟨rfl, rfl, hXd⟩ | ⟨y, rfl, hy, rfl, hXd⟩
            all_goals
              go_wp2_with (go_at_call 31; go_must (refine (refMay_at O true _ hOs HM.out).mono ?_); rintro e w1 ⟨rfl, b1⟩; replace hb := next hb b1; clear b1)
              go_ret3
              refine ⟨ret_nm HRR.out ?_, hb⟩
              unfold nmV
              rw [← hOl]
              rfl
          · have HRR : Hid (R = none) := r_long HR.out (by omega)
            obtain ⟨O, hO⟩ : ∃ O : ByteArray, O = o ++ ⟨#[0]⟩ := ⟨_, rfl⟩
            have hOl : O.data.toList = o.data.toList ++ [0] := by rw [hO, app_list]
            have hOs : O.size ≤ maxLen := by unfold maxLen; rw [hO, ByteArray.size_append]; show o.size + 1 ≤ _; omega
            have HM : Hid (isName O.data.toList = false) := by unfold Hid; rw [hOl]; exact not_long (by rw [List.length_append]; simp; omega)
            have hOO := hO.symm
            clear hO
            rcases hX with ⟨rfl, rfl, hXd⟩ | ⟨y, rfl, hy, rfl, hXd⟩
            all_goals
              go_wp2_with (go_at_call 31; go_must (refine (refMay_at O false _ hOs HM.out).mono ?_); rintro e w1 ⟨rfl, b1⟩; replace hb := next hb b1; clear b1)
              go_ret3
              exact ⟨ret_nm HRR.out rfl, hb⟩
        · have h0' : ((s[p].toNat : Int) == 0) = false := by simpa using h0
          by_cases h191 : 191 < s[p].toNat
          · have h191' : (191 : Int) < (s[p].toNat : Int) := by omega
            by_cases h2 : p + 2 ≤ s.size
            · have hv := val_two s p h2
              have hvl := two_lt s[p] s[p + 1]
              have hm : bits .and .i64 (val s p 2) 16383 = (ptrAt s.data.toList p : Int) := by
                have := mask (val s p 2) 14 (by decide)
                rw [show ((2 ^ 14 - 1 : Nat) : Int) = 16383 from by decide] at this
                rw [this, ptr_at s p h2, hv]
                unfold two
                omega
              obtain ⟨T, hT⟩ : ∃ T, T = ptrAt s.data.toList p := ⟨_, rfl⟩
              rw [← hT] at hm
              have HV : Hid (Calls Try.prog 43 #[.string s, .int .i64 (p : Int), .int .i64 2] wr fun e w' => e = .returned (.tuple #[.int .i64 (val s p 2), .int .i64 ((p : Int) + 2), .int .i64 0]) ∧ w' = wr) := refNum_yes s p 2 wr hsm (by decide) h2
              obtain ⟨V, hV⟩ : ∃ V, V = val s p 2 := ⟨_, rfl⟩
              rw [← hV] at HV hm
              clear hv hvl hV
              by_cases hg : T < g
              · have hg' : decide (g ≤ T) = false := by simp; omega
                have HRR : Hid (RAt s.data.toList T T o.data.toList (some (x.getD (p + 2))) R) := by unfold Hid; rw [hT]; exact r_ptr HR.out hlt' (by show 191 < s[p].toNat; exact h191) (by rw [hl]; exact h2) (by rw [← hT]; exact hg)
                clear hT
                rcases hX with ⟨rfl, rfl, hXd⟩ | ⟨y, rfl, hy, rfl, hXd⟩
                · go_wp2_with (go_at_call 43; go_must (refine HV.out.mono ?_); rintro e w' ⟨rfl, hw⟩; obtain rfl := hw.symm)
                  go_roundw
                  case rel => exact ⟨T, T, o, some (p + 2), (p : Int) + 2, rfl, rfl, rfl, rfl, ho4, by unfold Hid; rw [nx_some]; omega, fun y hy => by simp at hy; omega, HRR, HL, hb⟩
                  case measure => simp only [intOf, lenOf]; omega
                · go_wp2_with (go_at_call 43; go_must (refine HV.out.mono ?_); rintro e w' ⟨rfl, hw⟩; obtain rfl := hw.symm)
                  go_roundw
                  case rel => exact ⟨T, T, o, some y, (y : Int), rfl, rfl, rfl, rfl, ho4, by unfold Hid nxI; rfl, fun y' hy' => by simp at hy'; omega, HRR, HL, hb⟩
                  case measure => simp only [intOf, lenOf]; omega
              · have hg' : g ≤ T := by omega
                have HRR : Hid (R = none) := r_ptr_no HR.out hlt' (by show 191 < s[p].toNat; exact h191) (.inr (by rw [← hT]; exact hg'))
                clear hT
                go_wp2_with (go_at_call 43; go_must (refine HV.out.mono ?_); rintro e w' ⟨rfl, hw⟩; obtain rfl := hw.symm)
                go_ret3
                exact ⟨ret_nm HRR.out rfl, hb⟩
            · have HRR : Hid (R = none) := r_ptr_no HR.out hlt' (by show 191 < s[p].toNat; exact h191) (.inl (by rw [hl]; omega))
              have HV : Hid (Calls Try.prog 43 #[.string s, .int .i64 (p : Int), .int .i64 2] wr fun e w' => e = .returned (.tuple #[.int .i64 0, .int .i64 0, .int .i64 300]) ∧ w' = wr) := refNum_no s (p : Int) 2 wr hsm (by decide) (.inr (by omega))
              go_wp2_with (go_at_call 43; go_must (refine HV.out.mono ?_); rintro e w' ⟨rfl, hw⟩; obtain rfl := hw.symm)
              go_ret3
              exact ⟨ret_nm HRR.out rfl, hb⟩
          · have h191' : decide ((191 : Int) < (s[p].toNat : Int)) = false := by simp; omega
            by_cases h63 : 63 < s[p].toNat
            · have h63' : (63 : Int) < (s[p].toNat : Int) := by omega
              have HRR : Hid (R = none) := r_bad HR.out hlt' (by show 63 < s[p].toNat; exact h63) (by show s[p].toNat ≤ 191; omega)
              go_wp2
              go_ret3
              exact ⟨ret_nm HRR.out rfl, hb⟩
            · have h63' : decide ((63 : Int) < (s[p].toNat : Int)) = false := by simp; omega
              by_cases hcut : (s.size : Int) - (p : Int) - 1 < (s[p].toNat : Int)
              · have HRR : Hid (R = none) := r_cut HR.out hlt' h0 (by show s[p].toNat ≤ 63; omega) (by show _ ≤ p + 1 + s[p].toNat; omega)
                go_wp2
                go_ret3
                exact ⟨ret_nm HRR.out rfl, hb⟩
              · have hcut' : decide ((s.size : Int) - (p : Int) - 1 < (s[p].toNat : Int)) = false := by simpa using hcut
                have hle : p + 1 + s[p].toNat ≤ s.size := by omega
                have hsl := cut_both s p (p + 1 + s[p].toNat) (by omega) hle
                rw [show ((p + 1 + s[p].toNat : Nat) : Int) = (p : Int) + 1 + (s[p].toNat : Int) from by omega] at hsl
                have HRR : Hid (RAt s.data.toList (p + 1 + s[p].toNat) g (o ++ s.extract p (p + 1 + s[p].toNat)).data.toList x R) := by
                  unfold Hid
                  rw [app_list, app_take]
                  exact r_lab HR.out hlt' h0 (by show s[p].toNat ≤ 63; omega) (by show p + 1 + s[p].toNat ≤ _; omega) (by omega)
                have HLL : Hid (Labs (o ++ s.extract p (p + 1 + s[p].toNat)).data.toList) := by
                  unfold Hid
                  rw [app_list, app_take]
                  exact labs_step HL.out hlt' h0 (by show s[p].toNat ≤ 63; omega) (by show p + 1 + s[p].toNat ≤ _; omega)
                obtain ⟨D, hD⟩ : ∃ D, D = s.extract p (p + 1 + s[p].toNat) := ⟨_, rfl⟩
                have hDs : D.size = 1 + s[p].toNat := by rw [hD, ext_size s _ _ (by omega) hle]; omega
                rw [← hD] at hsl HRR HLL
                clear hD
                have HDS : Hid ((o ++ D).size = o.size + (1 + s[p].toNat)) := by unfold Hid; rw [ByteArray.size_append, hDs]
                have HXX : Hid (X = nxI x ∧ ∀ y, x = some y → 0 < y) := by
                  rcases hX with ⟨rfl, rfl, _⟩ | ⟨y, rfl, hy, rfl, _⟩
                  · exact ⟨rfl, fun y hy => by simp at hy⟩
                  · exact ⟨rfl, fun y' hy' => by simp at hy'; omega⟩
                clear hX
                go_wp2
                go_roundw
                case rel => exact ⟨p + 1 + s[p].toNat, g, o ++ D, x, X, by go_num, rfl, rfl, rfl, by rw [HDS.out]; omega, HXX.out.1, HXX.out.2, HRR, HLL, hb⟩
                case measure => simp only [intOf, lenOf]; rw [HDS.out]; omega
      · have ho' : decide ((o.size : Int) ≤ 255) = false := by simp; omega
        have HRR : Hid (R = none) := r_long HR.out (by omega)
        go_wp2
        go_ret3
        exact ⟨ret_nm HRR.out rfl, hb⟩
    · have hlt2 : decide (p < s.size) = false := by simpa using hlt
      have HRR : Hid (R = none) := r_past HR.out (by omega)
      go_wp2
      go_ret3
      exact ⟨ret_nm HRR.out rfl, hb⟩

theorem rName_neg (s : ByteArray) (p : Int) (w : World) (h : p < 0) :
    Calls Try.prog 44 #[.string s, .int .i64 p] w fun e w' => e = .returned (nmV none) ∧ Below w.heap.size w w' := by
  go_enter Try.func44, Try.ntmps44
  go_wp2
  go_ret3
  exact ⟨rfl, Below.refl _ _⟩

end Go.Proofs.Ytbffnicfibfceaa
