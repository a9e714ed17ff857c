/- A Table that a law made: what it answers, told by what is held in its row. -/
import Derived.Test.YtbldoplemfjcjaaOuL
import Derived.Test.YtbldoplemfjcjaaOuM
import Derived.Test.YtbldoplemfjcjaaOuP
import Derived.Laws.StructEq
namespace Go.Proofs.Ytbldoplemfjcjaa
open Go.RowKit
open Pl
namespace Ou

/-- Rows and blocks of other types lie as they lay. -/
structure Kp (w w' : World) : Prop where
  row : ∀ (B e z n : Nat) (v : Value) (ys : List Value), e ≠ 73 → e ≠ 61 → w.ownsRow B e z v n ys → w'.ownsRow B e z v n ys
  blk : ∀ (g : Nat) (C : Array Value) (t : TypeId), t ≠ 73 → t ≠ 61 → Blk w g C t → Blk w' g C t
theorem Kp.of_below {w w' : World} (h : Below w.heap.size w w') : Kp w w' := ⟨fun _ _ _ _ _ _ _ _ hr => own_past hr h, fun _ _ _ _ _ hb => hb.below h⟩
theorem Kp.trans {a b c : World} (h : Kp a b) (k : Kp b c) : Kp a c := ⟨fun _ _ _ _ _ _ h1 h2 hr => k.row _ _ _ _ _ _ h1 h2 (h.row _ _ _ _ _ _ h1 h2 hr), fun _ _ _ h1 h2 hb => k.blk _ _ _ h1 h2 (h.blk _ _ _ h1 h2 hb)⟩
theorem blk_foot {w : World} {gs most added b : Nat} {L : List Gr} {T : List Tn} (h : St w gs most added b L T) {g : Nat} {C : Array Value} {t : TypeId} (hb : Blk w g C t) (h1 : t ≠ 73) (h2 : t ≠ 61) : ¬ foot gs b L g := by
  have h' : w.heap[g]? = some (.cells C t (0, 0)) := hb
  rintro (rfl | rfl | ⟨q, hq, e⟩)
  · have h3 : w.heap[g]? = some (.cells _ 61 (0, 0)) := h.blk
    rw [h3] at h'
    simp only [Option.some.injEq, Obj.cells.injEq] at h'
    exact h2 h'.2.1.symm
  · obtain ⟨es, clock, hbm⟩ := h.hold.bmap
    rw [h'] at hbm; cases hbm
  · exact own_apartT (h.hold.row q hq) hb (fun e => h1 e.symm) e
theorem row_foot {w : World} {gs most added b : Nat} {L : List Gr} {T : List Tn} (h : St w gs most added b L T) {B e z n : Nat} {v : Value} {ys : List Value} (hr : w.ownsRow B e z v n ys) (h1 : e ≠ 73) (h2 : e ≠ 61) : ∀ k, v.ownBlock = some k → ¬ foot gs b L k := by
  intro k hk
  rcases hr.2 with ⟨hv, _⟩ | ⟨g', cap, cur, hv, _, hh, _⟩
  · rw [hv] at hk; simp [Value.ownBlock] at hk
  · rw [hv] at hk
    simp [Value.ownBlock] at hk
    subst hk
    exact blk_foot h (C := cur) (t := e) hh h1 h2
theorem Kp.of_turn {w w' : World} {gs most added b : Nat} {L : List Gr} {T : List Tn} (h : St w gs most added b L T) (ht : Turn (foot gs b L) w w') : Kp w w' :=
  ⟨fun _ _ _ _ _ _ h1 h2 hr => ht.row hr (row_foot h hr h1 h2), fun _ _ _ h1 h2 hb => ht.blk hb (blk_foot h hb h1 h2)⟩

/-- Does a reply of that key fit? -/
def mtA (k : Ke) (x : Ak) : Bool := decide (keyA x = k)
def dueA (now : Int) (x : Ak) : Bool := decide (x.u ≤ now)
/-- A Table that a law made holds D. -/
def LW (w0 w : World) (gs most n : Nat) (D : List Ak) : Prop :=
  ∃ (added b : Nat) (L : List Gr) (T : List Tn), D = T.map (·.x) ∧ added ≤ n ∧ St w gs most added b L T ∧ Below w0.heap.size w0 w ∧ (∀ k, foot gs b L k → w0.heap.size ≤ k) ∧ ∀ t ∈ T, Far t.x
theorem LW.bel {w0 w : World} {gs most n : Nat} {D : List Ak} (h : LW w0 w gs most n D) : Below w0.heap.size w0 w := by
  obtain ⟨_, _, _, _, _, _, _, h4, _⟩ := h
  exact h4
theorem LW.below {w0 w w' : World} {gs most n : Nat} {D : List Ak} (h : LW w0 w gs most n D) (hb : Below w.heap.size w w') : LW w0 w' gs most n D := by
  obtain ⟨a, b, L, T, h1, h2, h3, h4, h5, h6⟩ := h
  exact ⟨a, b, L, T, h1, h2, h3.below hb, next h4 hb, h5, h6⟩
theorem LW.more {w0 w : World} {gs most n m : Nat} {D : List Ak} (h : LW w0 w gs most n D) (hm : n ≤ m) : LW w0 w gs most m D := by
  obtain ⟨a, b, L, T, h1, h2, h3⟩ := h
  exact ⟨a, b, L, T, h1, Nat.le_trans h2 hm, h3⟩
/-- A row of another type is written. -/
theorem LW.turn {w0 w w' : World} {gs most n : Nat} {D : List Ak} (h : LW w0 w gs most n D) {B e z m : Nat} {v : Value} {ys : List Value} (hr : w.ownsRow B e z v m ys) (h1 : e ≠ 73) (h2 : e ≠ 61) (hB : w0.heap.size ≤ B) (ht : Turn (fun k => v.ownBlock = some k) w w') : LW w0 w' gs most n D := by
  obtain ⟨a, b, L, T, q1, q2, q3, q4, q5, q6⟩ := h
  exact ⟨a, b, L, T, q1, q2, q3.turn ht (fun k hk e => row_foot q3 hr h1 h2 k e hk), Turn.below q4 ht q4.size (fun i e => Nat.le_trans hB (hr.lt i e).1), q5, q6⟩
theorem LW.len {w0 w : World} {gs most n : Nat} {D : List Ak} (h : LW w0 w gs most n D) : D.length ≤ most ∧ 1 ≤ most ∧ most ≤ 16 := by
  obtain ⟨a, b, L, T, rfl, q2, q3, _⟩ := h
  exact ⟨by rw [List.length_map]; exact q3.len, q3.m1, q3.m2⟩
theorem lw_end {w0 w w' : World} {gs most added' n b : Nat} {L L' : List Gr} {T' : List Tn} (h0 : Below w0.heap.size w0 w) (h1 : ∀ k, foot gs b L k → w0.heap.size ≤ k) (hs : St w' gs most added' b L' T') (ht : Turn (foot gs b L) w w') (hf : ∀ k, foot gs b L' k → foot gs b L k ∨ w.heap.size ≤ k) (hfar : ∀ t ∈ T', Far t.x) (hn : added' ≤ n) : LW w0 w' gs most n (T'.map (·.x)) :=
  ⟨added', b, L', T', rfl, hn, hs, Turn.below h0 ht h0.size h1, fun k hk => by
    rcases hf k hk with h2 | h2
    · exact h1 k h2
    · exact Nat.le_trans h0.size h2, hfar⟩

theorem lw_new {w0 w : World} (h : Below w0.heap.size w0 w) (most : Nat) (h1 : 1 ≤ most) (h2 : most ≤ 16) :
    Calls Try.prog 8 #[.int .i64 (most : Int)] w fun e w' => ∃ gs, e = .returned (.tuple #[.pointer (some ⟨gs, 0, none⟩), .int .i64 0]) ∧ LW w0 w' gs most 0 [] ∧ Below w.heap.size w w' := by
  refine (new_yes most w h1 h2).mono ?_
  rintro e w' ⟨g, b, rfl, hs, hb, hg, hbb⟩
  refine ⟨g, rfl, ⟨0, b, [], [], rfl, Nat.le_refl _, hs, next h hb, fun k hk => ?_, by simp⟩, hb⟩
  have := h.size
  rcases hk with rfl | rfl | ⟨q, hq, _⟩
  · omega
  · omega
  · simp at hq

/-- What Add answers, and what is held then. -/
def addE (most : Nat) (D : List Ak) (x : Ak) : Int := if wrongA x = true then 1900 else if D.length = most then 1901 else 0
def addD (most : Nat) (D : List Ak) (x : Ak) : List Ak := if wrongA x = true then D else if D.length = most then D else D ++ [x]
theorem LW.add {w0 w : World} {gs most n : Nat} {D : List Ak} (h : LW w0 w gs most n D) (hn : n ≤ 1000000) (j i a : Int) (c g nm : ByteArray) (t u : Int) (hfar : Far ⟨j, i, a, c, g, nm, t, u⟩) (e : Int) (D' : List Ak) (he : addE most D ⟨j, i, a, c, g, nm, t, u⟩ = e) (hD : addD most D ⟨j, i, a, c, g, nm, t, u⟩ = D') :
    Calls Try.prog 12 #[.pointer (some ⟨gs, 0, none⟩), .agg #[.int .i64 j, .int .i64 i, .int .i64 a, .string c, .string g, .string nm, .int .i64 t, .int .i64 u]] w fun r w' => r = .returned (.int .i64 e) ∧ LW w0 w' gs most (n + 1) D' ∧ Kp w w' := by
  have hL := h
  obtain ⟨added, b, L, T, hT, q2, q3, q4, q5, q6⟩ := h
  have hnm : nm.size ≤ maxLen := by have := hfar.2.2; simp only at this; unfold maxLen; omega
  cases hw : wrongA ⟨j, i, a, c, g, nm, t, u⟩ with
  | true =>
    unfold addE at he
    unfold addD at hD
    rw [if_pos hw] at he hD
    subst he hD
    refine (add_wrong gs j i a c g nm t u hnm hw).mono ?_
    rintro r w' ⟨rfl, hb⟩
    exact ⟨rfl, (hL.below hb).more (by omega), Kp.of_below hb⟩
  | false =>
    unfold addE at he
    unfold addD at hD
    rw [if_neg (by rw [hw]; simp)] at he hD
    have hl : D.length = T.length := by rw [hT, List.length_map]
    by_cases hf : D.length = most
    · rw [if_pos hf] at he hD
      subst he hD
      refine (add_full q3 j i a c g nm t u hnm hw (by omega)).mono ?_
      rintro r w' ⟨rfl, hb⟩
      exact ⟨rfl, (hL.below hb).more (by omega), Kp.of_below hb⟩
    · rw [if_neg hf] at he hD
      subst he hD
      have := q3.len
      refine (add_yes q3 j i a c g nm t u hnm hw (by omega) hfar (by omega)).mono ?_
      rintro r w' ⟨rfl, L', hs, ht, hft⟩
      refine ⟨rfl, ?_, Kp.of_turn q3 ht⟩
      have := lw_end (n := n + 1) q4 q5 hs ht hft (fun s hs' => by
        rcases List.mem_append.1 hs' with h1 | h1
        · exact q6 s h1
        · simp at h1; subst h1; exact hfar) (by omega)
      rw [List.map_append, ← hT] at this
      exact this

def takeX (k : Ke) (D : List Ak) : Ak := (D.find? (mtA k)).getD akZ
def takeE (k : Ke) (D : List Ak) : Int := if (D.find? (mtA k)).isSome then 0 else 1902
theorem find_map (k : Ke) (T : List Tn) : (T.map (·.x)).find? (mtA k) = (T.find? (mt k)).map (·.x) := by
  rw [List.find?_map]; rfl
theorem erase_map (k : Ke) (T : List Tn) : (T.map (·.x)).eraseP (mtA k) = (T.eraseP (mt k)).map (·.x) := by
  rw [List.eraseP_map]; rfl
theorem LW.take {w0 w : World} {gs most n : Nat} {D : List Ak} (h : LW w0 w gs most n D) (a i : Int) (nm : ByteArray) (t c : Int) (hnm : nm.size ≤ maxLen) (hk : OkK (keyQ a i nm t c)) (xj xi xa : Int) (xc xg xn : ByteArray) (xt xu : Int) (e : Int) (D' : List Ak)
    (hx : takeX (keyQ a i nm t c) D = ⟨xj, xi, xa, xc, xg, xn, xt, xu⟩) (he : takeE (keyQ a i nm t c) D = e) (hD : D.eraseP (mtA (keyQ a i nm t c)) = D') :
    Calls Try.prog 14 #[.pointer (some ⟨gs, 0, none⟩), .int .i64 a, .int .i64 i, .agg #[.string nm, .int .i64 t, .int .i64 c]] w fun r w' => r = .returned (.tuple #[.agg #[.int .i64 xj, .int .i64 xi, .int .i64 xa, .string xc, .string xg, .string xn, .int .i64 xt, .int .i64 xu], .int .i64 e]) ∧ LW w0 w' gs most n D' ∧ Kp w w' := by
  have hL := h
  obtain ⟨added, b, L, T, hT, q2, q3, q4, q5, q6⟩ := h
  cases hf : T.find? (mt (keyQ a i nm t c)) with
  | none =>
    have hf2 : D.find? (mtA (keyQ a i nm t c)) = none := by rw [hT, find_map, hf]; rfl
    unfold takeX at hx
    unfold takeE at he
    rw [hf2] at hx he
    have hD2 : D = D' := by
      rw [← hD, List.eraseP_of_forall_not (fun x hx => by simpa using List.find?_eq_none.1 hf2 x hx)]
    subst hD2
    have hx2 : akZ = ⟨xj, xi, xa, xc, xg, xn, xt, xu⟩ := hx
    unfold akZ at hx2
    cases hx2
    have he2 : (1902 : Int) = e := he
    subst he2
    refine (take_none q3 a i nm t c hnm hk hf).mono ?_
    rintro r w' ⟨rfl, hb⟩
    exact ⟨rfl, hL.below hb, Kp.of_below hb⟩
  | some s =>
    have hf2 : D.find? (mtA (keyQ a i nm t c)) = some s.x := by rw [hT, find_map, hf]; rfl
    unfold takeX at hx
    unfold takeE at he
    rw [hf2] at hx he
    have hx2 : s.x = ⟨xj, xi, xa, xc, xg, xn, xt, xu⟩ := hx
    obtain ⟨sp, sx⟩ := s
    simp only at hx2
    subst hx2
    have he2 : (0 : Int) = e := he
    subst he2
    refine (take_some q3 a i nm t c hnm hk sp xj xi xa xc xg xn xt xu hf).mono ?_
    rintro r w' ⟨rfl, L', hs, ht, hft⟩
    refine ⟨rfl, ?_, Kp.of_turn q3 ht⟩
    have := lw_end (n := n) q4 q5 hs ht hft (fun s hs' => q6 s (List.eraseP_sublist.subset hs')) q2
    rw [← erase_map, ← hT, hD] at this
    exact this

theorem LW.due {w0 w : World} {gs most n : Nat} {D : List Ak} (h : LW w0 w gs most n D) (now : Int) (A R : List Ak) (N : Nat) (hA : D.filter (dueA now) = A) (hR : (D.filter fun x => !dueA now x) = R) (hN : A.length = N) :
    Calls Try.prog 16 #[.pointer (some ⟨gs, 0, none⟩), .int .i64 now] w fun r w' => ∃ y c, r = .returned (.slice y N c) ∧ w'.ownsRow w.heap.size 35 8 (.slice y N c) N (aF A) ∧ LW w0 w' gs most n R ∧ Kp w w' := by
  obtain ⟨added, b, L, T, hT, q2, q3, q4, q5, q6⟩ := h
  refine (due_any q3 q6 now).mono ?_
  rintro r w' ⟨v, L', rfl, ho, hs, ht, hft⟩
  have hA2 : (T.filter (dueB now)).map (·.x) = A := by rw [← hA, hT, List.filter_map]; rfl
  have hR2 : (restT now T).map (·.x) = R := by rw [← hR, hT, List.filter_map]; rfl
  have hl : (T.filter (dueB now)).length = N := by rw [← hN, ← hA2, List.length_map]
  rw [hA2, hl] at ho
  obtain ⟨y, c, rfl⟩ := row_shape ho
  refine ⟨y, c, rfl, ho, ?_, Kp.of_turn q3 ht⟩
  have := lw_end (n := n) q4 q5 hs ht hft (fun s hs' => q6 s (List.mem_filter.1 hs').1) q2
  rw [hR2] at this
  exact this
theorem LW.all {w0 w : World} {gs most n : Nat} {D : List Ak} (h : LW w0 w gs most n D) (N : Nat) (hN : D.length = N) :
    Calls Try.prog 20 #[.pointer (some ⟨gs, 0, none⟩)] w fun r w' => ∃ y c, r = .returned (.slice y N c) ∧ w'.ownsRow w.heap.size 35 8 (.slice y N c) N (aF D) ∧ LW w0 w' gs most n D ∧ Below w.heap.size w w' := by
  have hL := h
  obtain ⟨added, b, L, T, hT, q2, q3, q4, q5, q6⟩ := h
  refine (all_any q3 q6).mono ?_
  rintro r w' ⟨v, rfl, ho, hb⟩
  rw [← hT, show T.length = N from by rw [← hN, hT, List.length_map]] at ho
  obtain ⟨y, c, rfl⟩ := row_shape ho
  exact ⟨y, c, rfl, ho, hL.below hb, hb⟩

end Ou
end Go.Proofs.Ytbldoplemfjcjaa
