/- A law's Table beside the document's, act by act. -/
import Derived.Test.YtbldoplemfjcjaaOuX
import Derived.Test.YtbldoplemfjcjaaOuY
import Derived.Test.YtbldoplemfjcjaaOuZ
namespace Go.Proofs.Ytbldoplemfjcjaa
open Go.RowKit
open Pl
namespace Ou

/-- Ours holds D, the document's holds E. -/
structure TS (w wr : World) (gs r most n : Nat) (v : Value) (D E : List Ak) : Prop where
  a : LW w wr gs most n D
  b : RS w.heap.size wr r most v E
/-- What lies at or behind M is as it was. -/
structure KM (M : Nat) (w w' : World) : Prop where
  blk : ∀ (g : Nat) (C : Array Value) (t : TypeId), M ≤ g → Blk w g C t → Blk w' g C t
  row : ∀ (B e z n : Nat) (v : Value) (ys : List Value), M ≤ B → w.ownsRow B e z v n ys → w'.ownsRow B e z v n ys

section
variable {w wr w' : World} {gs r most n M : Nat} {v : Value} {D E : List Ak}
theorem TS.below (h : TS w wr gs r most n v D E) (hb : Below wr.heap.size wr w') : TS w w' gs r most n v D E := ⟨h.a.below hb, h.b.below hb⟩
theorem RS.low {B : Nat} (h : RS B w r most v D) {k : Nat} (hk : rft r v k) : B ≤ k ∧ k < w.heap.size := by
  rcases hk with rfl | hk
  · exact ⟨h.new, h.blk.lt⟩
  · exact h.own.lt k hk
theorem KM.of_turn (ht : Turn (rft r v) w w') (hM : ∀ k, rft r v k → k < M) : KM M w w' :=
  ⟨fun g _ _ hg hb => ht.blk hb (fun e => by have := hM g e; omega), fun _ _ _ _ _ _ hB ho => ht.row ho (fun k hk e => by have h1 := hM k e; have h2 := (ho.lt k hk).1; omega)⟩
theorem TS.turn (h : TS w wr gs r most n v D E) (ht : Turn (rft r v) wr w') : LW w w' gs most n D := by
  obtain ⟨a, b, L, T, q1, q2, q3, q4, q5, q6⟩ := h.a
  exact ⟨a, b, L, T, q1, q2, q3.turn ht (fun k hk e => by
    rcases e with rfl | e
    · exact blk_foot q3 h.b.blk (by decide) (by decide) hk
    · exact row_foot q3 h.b.own (by decide) (by decide) k e hk), Turn.below q4 ht q4.size (fun i e => (h.b.low e).1), q5, q6⟩
theorem radd_any {B : Nat} (h : RS B w r most v D) (j i a : Int) (c g nm : ByteArray) (t u : Int) (hn : nm.size ≤ maxLen) (hB : B ≤ w.heap.size) (e : Int) (D' : List Ak) (he : addE most D ⟨j, i, a, c, g, nm, t, u⟩ = e) (hD : addD most D ⟨j, i, a, c, g, nm, t, u⟩ = D') :
    Calls Try.prog 13 #[.pointer (some ⟨r, 0, none⟩), .agg #[.int .i64 j, .int .i64 i, .int .i64 a, .string c, .string g, .string nm, .int .i64 t, .int .i64 u]] w fun x w' => x = .returned (.int .i64 e) ∧ ∃ v', RS B w' r most v' D' ∧ Turn (rft r v) w w' ∧ ∀ k, rft r v' k → rft r v k ∨ w.heap.size ≤ k := by
  unfold addE at he
  unfold addD at hD
  cases hw : wrongA ⟨j, i, a, c, g, nm, t, u⟩ with
  | true =>
    rw [if_pos hw] at he hD
    subst he hD
    refine (radd_wrong r j i a c g nm t u w hn hw).mono ?_
    rintro x w' ⟨rfl, b⟩
    exact ⟨rfl, v, h.below b, Turn.of_below b, fun k hk => .inl hk⟩
  | false =>
    rw [if_neg (by simp [hw])] at he hD
    by_cases hf : D.length = most
    · rw [if_pos hf] at he hD
      subst he hD
      refine (radd_full h j i a c g nm t u hn hw hf).mono ?_
      rintro x w' ⟨rfl, b⟩
      exact ⟨rfl, v, h.below b, Turn.of_below b, fun k hk => .inl hk⟩
    · rw [if_neg hf] at he hD
      subst he hD
      have := h.len
      exact radd_yes h j i a c g nm t u hn hw (by omega) hB
theorem TS.add (h : TS w wr gs r most n v D E) (hn : n ≤ 1000000) (j i a : Int) (c g nm : ByteArray) (t u : Int) (hfar : Far ⟨j, i, a, c, g, nm, t, u⟩) (e : Int) (D' : List Ak) (he : addE most D ⟨j, i, a, c, g, nm, t, u⟩ = e) (hD : addD most D ⟨j, i, a, c, g, nm, t, u⟩ = D') :
    Calls Try.prog 12 #[.pointer (some ⟨gs, 0, none⟩), .agg #[.int .i64 j, .int .i64 i, .int .i64 a, .string c, .string g, .string nm, .int .i64 t, .int .i64 u]] wr fun x w' => x = .returned (.int .i64 e) ∧ TS w w' gs r most (n + 1) v D' E ∧ Kp wr w' := by
  refine (h.a.add hn j i a c g nm t u hfar e D' he hD).mono ?_
  rintro x w' ⟨rfl, s, p⟩
  exact ⟨rfl, ⟨s, h.b.kp p⟩, p⟩
theorem TS.radd (h : TS w wr gs r most n v D E) (hM : ∀ k, rft r v k → k < M) (j i a : Int) (c g nm : ByteArray) (t u : Int) (hfar : Far ⟨j, i, a, c, g, nm, t, u⟩) (e : Int) (D' : List Ak) (he : addE most E ⟨j, i, a, c, g, nm, t, u⟩ = e) (hD : addD most E ⟨j, i, a, c, g, nm, t, u⟩ = D') :
    Calls Try.prog 13 #[.pointer (some ⟨r, 0, none⟩), .agg #[.int .i64 j, .int .i64 i, .int .i64 a, .string c, .string g, .string nm, .int .i64 t, .int .i64 u]] wr fun x w' => x = .returned (.int .i64 e) ∧ ∃ v', TS w w' gs r most n v' D D' ∧ KM M wr w' := by
  have hnm : nm.size ≤ maxLen := by have := hfar.2.2; simp only at this; unfold maxLen; omega
  refine (radd_any h.b j i a c g nm t u hnm h.a.bel.size e D' he hD).mono ?_
  rintro x w' ⟨rfl, v', s, ht, _⟩
  exact ⟨rfl, v', ⟨h.turn ht, s⟩, KM.of_turn ht hM⟩
theorem TS.take (h : TS w wr gs r most n v D E) (a i : Int) (nm : ByteArray) (t c : Int) (hnm : nm.size ≤ maxLen) (hk : OkK (keyQ a i nm t c)) (xj xi xa : Int) (xc xg xn : ByteArray) (xt xu : Int) (e : Int) (D' : List Ak)
    (hx : takeX (keyQ a i nm t c) D = ⟨xj, xi, xa, xc, xg, xn, xt, xu⟩) (he : takeE (keyQ a i nm t c) D = e) (hD : D.eraseP (mtA (keyQ a i nm t c)) = D') :
    Calls Try.prog 14 #[.pointer (some ⟨gs, 0, none⟩), .int .i64 a, .int .i64 i, .agg #[.string nm, .int .i64 t, .int .i64 c]] wr fun x w' => x = .returned (.tuple #[.agg #[.int .i64 xj, .int .i64 xi, .int .i64 xa, .string xc, .string xg, .string xn, .int .i64 xt, .int .i64 xu], .int .i64 e]) ∧ TS w w' gs r most n v D' E ∧ Kp wr w' := by
  refine (h.a.take a i nm t c hnm hk xj xi xa xc xg xn xt xu e D' hx he hD).mono ?_
  rintro x w' ⟨rfl, s, p⟩
  exact ⟨rfl, ⟨s, h.b.kp p⟩, p⟩
theorem TS.rtake (h : TS w wr gs r most n v D E) (hM : ∀ k, rft r v k → k < M) (a i : Int) (nm : ByteArray) (t c : Int) (hnm : nm.size ≤ maxLen) (xj xi xa : Int) (xc xg xn : ByteArray) (xt xu : Int) (e : Int) (D' : List Ak)
    (hx : takeX (keyQ a i nm t c) E = ⟨xj, xi, xa, xc, xg, xn, xt, xu⟩) (he : takeE (keyQ a i nm t c) E = e) (hD : E.eraseP (mtA (keyQ a i nm t c)) = D') :
    Calls Try.prog 15 #[.pointer (some ⟨r, 0, none⟩), .int .i64 a, .int .i64 i, .agg #[.string nm, .int .i64 t, .int .i64 c]] wr fun x w' => x = .returned (.tuple #[.agg #[.int .i64 xj, .int .i64 xi, .int .i64 xa, .string xc, .string xg, .string xn, .int .i64 xt, .int .i64 xu], .int .i64 e]) ∧ ∃ v', TS w w' gs r most n v' D D' ∧ KM M wr w' := by
  refine (rtake_any h.b a i nm t c hnm h.a.bel.size xj xi xa xc xg xn xt xu e D' hx he hD).mono ?_
  rintro x w' ⟨rfl, v', s, ht, _⟩
  exact ⟨rfl, v', ⟨h.turn ht, s⟩, KM.of_turn ht hM⟩
theorem TS.due (h : TS w wr gs r most n v D E) (now : Int) (A R : List Ak) (N : Nat) (hA : D.filter (dueA now) = A) (hR : (D.filter fun x => !dueA now x) = R) (hN : A.length = N) :
    Calls Try.prog 16 #[.pointer (some ⟨gs, 0, none⟩), .int .i64 now] wr fun x w' => ∃ y c, x = .returned (.slice y N c) ∧ w'.ownsRow wr.heap.size 35 8 (.slice y N c) N (aF A) ∧ TS w w' gs r most n v R E ∧ Kp wr w' := by
  refine (h.a.due now A R N hA hR hN).mono ?_
  rintro x w' ⟨y, c, rfl, o, s, p⟩
  exact ⟨y, c, rfl, o, ⟨s, h.b.kp p⟩, p⟩
/-- The document's Due, with the row that ours handed out lying beside. -/
theorem TS.rdue (h : TS w wr gs r most n v D E) (hM : ∀ k, rft r v k → k < M) (now : Int) (A R : List Ak) (N : Nat) (hA : E.filter (dueA now) = A) (hR : (E.filter fun x => !dueA now x) = R) (hN : A.length = N) {B m : Nat} {y0 : Value} {ys : List Value} (ho : wr.ownsRow B 35 8 y0 m ys) (hB : M ≤ B) :
    Calls Try.prog 18 #[.pointer (some ⟨r, 0, none⟩), .int .i64 now] wr fun x w' => ∃ y c v', x = .returned (.slice y N c) ∧ w'.ownsRow wr.heap.size 35 8 (.slice y N c) N (aF A) ∧ TS w w' gs r most n v' D R ∧ w'.ownsRow B 35 8 y0 m ys ∧ ∀ k, y0.ownBlock = some k → ¬ rft r v' k := by
  refine (rdue_any h.b now h.a.bel.size A R N hA hR hN).mono ?_
  rintro x w' ⟨y, c, v', rfl, o, s, ht, hft⟩
  refine ⟨y, c, v', rfl, o, ⟨h.turn ht, s⟩, (KM.of_turn ht hM).row _ _ _ _ _ _ hB ho, fun k hk e => ?_⟩
  have h1 := ho.lt k hk
  rcases hft k e with h2 | h2
  · have := hM k h2; omega
  · omega
theorem TS.all (h : TS w wr gs r most n v D E) (N : Nat) (hN : D.length = N) :
    Calls Try.prog 20 #[.pointer (some ⟨gs, 0, none⟩)] wr fun x w' => ∃ y c, x = .returned (.slice y N c) ∧ w'.ownsRow wr.heap.size 35 8 (.slice y N c) N (aF D) ∧ TS w w' gs r most n v D E ∧ ∀ k, (Value.slice y N c).ownBlock = some k → ¬ rft r v k := by
  refine (h.a.all N hN).mono ?_
  rintro x w' ⟨y, c, rfl, o, s, b⟩
  exact ⟨y, c, rfl, o, h.below b, fun k hk e => by have h1 := o.lt k hk; have h2 := h.b.low e; omega⟩
theorem TS.rall (h : TS w wr gs r most n v D E) (N : Nat) (hN : E.length = N) {B m : Nat} {y0 : Value} {ys : List Value} (ho : wr.ownsRow B 35 8 y0 m ys) :
    Calls Try.prog 21 #[.pointer (some ⟨r, 0, none⟩)] wr fun x w' => ∃ y c, x = .returned (.slice y N c) ∧ w'.ownsRow wr.heap.size 35 8 (.slice y N c) N (aF E) ∧ TS w w' gs r most n v D E ∧ w'.ownsRow B 35 8 y0 m ys := by
  refine (rall_any h.b N hN).mono ?_
  rintro x w' ⟨y, c, rfl, o, b⟩
  exact ⟨y, c, rfl, o, h.below b, own_past ho b⟩
/-- Both rows are the same; then the first one is still as it was. -/
theorem TS.same (h : TS w wr gs r most n v D E) {A : List Ak} {B B' N c1 c2 : Nat} {y1 y2 : Option Addr} (h1 : wr.ownsRow B 35 8 (.slice y1 N c1) N (aF A)) (h2 : wr.ownsRow B' 35 8 (.slice y2 N c2) N (aF A)) (hN : N = A.length) (hs : N ≤ 1000) :
    Calls Try.prog 17 #[.slice y1 N c1, .slice y2 N c2] wr fun e w' => e = .returned (.bool true) ∧ TS w w' gs r most n v D E ∧ w'.ownsRow B 35 8 (.slice y1 N c1) N (aF A) := by
  refine (sameA_any y1 y2 N c1 c2 A wr hN (Row.of_own h1) (Row.of_own h2) hs).mono ?_
  rintro e w' ⟨rfl, b⟩
  exact ⟨rfl, h.below b, own_past h1 b⟩
theorem TS.spoil (h : TS w wr gs r most n v D E) {A : List Ak} {B N c : Nat} {y : Option Addr} (ho : wr.ownsRow B 35 8 (.slice y N c) N (aF A)) (hB : w.heap.size ≤ B) (hne : ∀ k, (Value.slice y N c).ownBlock = some k → ¬ rft r v k) (hN : N = A.length) (hs : N ≤ 1000) :
    Calls Try.prog 19 #[.slice y N c] wr fun e w' => e = .returned (.tuple #[]) ∧ TS w w' gs r most n v D E := by
  refine (spoilA_any y N c B A wr hN ho hs).mono ?_
  rintro e w' ⟨rfl, ht⟩
  exact ⟨rfl, h.a.turn ho (by decide) (by decide) hB ht, h.b.turn ht (fun k hk e => hne k e hk)⟩
theorem addD_len {x : Ak} (h : D.length ≤ most) : (addD most D x).length ≤ most := by
  unfold addD
  split
  · exact h
  · split
    · exact h
    · simp; omega
theorem TS.far (h : TS w wr gs r most n v D E) : D.length ≤ 16 := by have := h.a.len; omega
end

end Ou
end Go.Proofs.Ytbldoplemfjcjaa
