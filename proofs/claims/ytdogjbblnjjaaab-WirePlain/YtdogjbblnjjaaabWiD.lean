/- Questions and records in rows; what within, mayQuestion and mayRecord give. -/
import Derived.Test.YtdogjbblnjjaaabWiC
namespace Go.Proofs.Ytdogjbblnjjaaab
open Go.RowKit
open Pl

/-- Questions and records as cells. -/
def qV (q : Qn) : List Value := [.string q.n, .int .i64 q.t, .int .i64 q.c]
def rV (r : Rc) : List Value := [.string r.n, .int .i64 r.t, .int .i64 r.c, .int .i64 r.l, .string r.d]
def qC (qs : List Qn) : List Value := qs.flatMap qV
def rC (rs : List Rc) : List Value := rs.flatMap rV

theorem flat_len {α : Type} {f : α → List Value} {z : Nat} (hz : ∀ x, (f x).length = z) (xs : List α) : (xs.flatMap f).length = xs.length * z := by
  induction xs with
  | nil => simp
  | cons x xs ih => rw [List.flatMap_cons, List.length_append, hz, ih, List.length_cons, Nat.succ_mul]; omega
theorem flat_get {α : Type} {f : α → List Value} {z : Nat} (hz : ∀ x, (f x).length = z) : ∀ (xs : List α) (k : Nat) (hk : k < xs.length) (i : Nat), i < z → (xs.flatMap f)[k * z + i]? = (f xs[k])[i]? := by
  intro xs
  induction xs with
  | nil => intro k hk; simp at hk
  | cons x xs ih =>
    intro k hk i hi
    rw [List.flatMap_cons]
    cases k with
    | zero => rw [Nat.zero_mul, Nat.zero_add, List.getElem?_append_left (by rw [hz]; exact hi)]; rfl
    | succ k =>
      rw [List.getElem?_append_right (by rw [hz, Nat.succ_mul]; omega), hz, show (k + 1) * z + i - z = k * z + i from by rw [Nat.succ_mul]; omega]
      exact ih k (by simpa using hk) i hi
theorem qC_len (qs : List Qn) : (qC qs).length = qs.length * 3 := flat_len (f := qV) (z := 3) (fun _ => rfl) qs
theorem rC_len (rs : List Rc) : (rC rs).length = rs.length * 5 := flat_len (f := rV) (z := 5) (fun _ => rfl) rs
theorem qC_app (a b : List Qn) : qC (a ++ b) = qC a ++ qC b := by simp [qC]
theorem rC_app (a b : List Rc) : rC (a ++ b) = rC a ++ rC b := by simp [rC]
theorem qC_one (a : List Qn) : ∀ u ∈ qC a, u.oneCell' = true := by
  intro u hu
  simp only [qC, List.mem_flatMap] at hu
  obtain ⟨m, _, hu⟩ := hu
  simp [qV] at hu
  rcases hu with rfl | rfl | rfl <;> rfl
theorem rC_one (a : List Rc) : ∀ u ∈ rC a, u.oneCell' = true := by
  intro u hu
  simp only [rC, List.mem_flatMap] at hu
  obtain ⟨m, _, hu⟩ := hu
  simp [rV] at hu
  rcases hu with rfl | rfl | rfl | rfl | rfl <;> rfl

/-- A row that is read: so many elements, their cells. -/
def Row (w : World) (v : Value) (n : Nat) (xs : List Value) : Prop :=
  (v = .slice none 0 0 ∧ n = 0) ∨ ∃ (g o : Nat) (p : Option Nat) (cap : Nat), v = .slice (some ⟨g, o, p⟩) n cap ∧ (0 < n → p = none) ∧ ∀ j u, xs[j]? = some u → w.cell? ⟨g, o + j, none⟩ = some u
theorem Row.below {w w' : World} {v : Value} {n : Nat} {xs : List Value} (h : Row w v n xs) (hb : Below w.heap.size w w') : Row w' v n xs := by
  rcases h with h | ⟨g, o, p, cap, hv, hp, hc⟩
  · exact .inl h
  · exact .inr ⟨g, o, p, cap, hv, hp, fun j u hu => by have h1 := hc j u hu; rw [hb.cell (World.block_lt_of_cell? _ _ h1)]; exact h1⟩
theorem Row.of_own {w : World} {base e z n : Nat} {v : Value} {xs : List Value} (h : w.ownsRow base e z v n xs) : Row w v n xs := by
  rcases h.2 with ⟨h1, h2⟩ | ⟨g, cap, cur, h1, rest⟩
  · exact .inl ⟨h1, h2⟩
  · refine .inr ⟨g, 0, none, cap, h1, fun _ => rfl, fun j u hu => ?_⟩
    have hj : j < n * z := by have := (List.getElem?_eq_some_iff.1 hu).1; rw [← h.1]; exact this
    subst h1
    rw [Nat.zero_add, h.cellAt j hj, hu]
/-- A row of questions, of records: no string is too long. -/
def QRow (w : World) (v : Value) (qs : List Qn) : Prop := Row w v qs.length (qC qs) ∧ qs.length ≤ maxLen ∧ ∀ q ∈ qs, q.n.size ≤ maxLen
def RRow (w : World) (v : Value) (rs : List Rc) : Prop := Row w v rs.length (rC rs) ∧ rs.length ≤ maxLen ∧ ∀ r ∈ rs, r.n.size ≤ maxLen ∧ r.d.size ≤ maxLen
theorem QRow.below {w w' : World} {v : Value} {qs : List Qn} (h : QRow w v qs) (hb : Below w.heap.size w w') : QRow w' v qs := ⟨h.1.below hb, h.2⟩
theorem RRow.below {w w' : World} {v : Value} {rs : List Rc} (h : RRow w v rs) (hb : Below w.heap.size w w') : RRow w' v rs := ⟨h.1.below hb, h.2⟩

theorem within_as (x lo hi : Int) (b : Bool) (w : World) (h : (decide (lo ≤ x) && decide (x ≤ hi)) = b) :
    Calls Try.prog 56 #[.int .i64 x, .int .i64 lo, .int .i64 hi] w fun e w' => e = .returned (.bool b) ∧ w' = w := by
  by_cases h1 : lo ≤ x
  · have HR : Hid (b = decide (x ≤ hi)) := by unfold Hid; rw [← h]; simp [h1]
    clear h
    go_enter Try.func56, Try.ntmps56
    go_wp2
    go_ret
    exact ⟨ret_bool HR.out.symm, rfl⟩
  · have h1' : decide (lo ≤ x) = false := by simpa using h1
    have HR : Hid (b = false) := by unfold Hid; rw [← h]; simp [h1']
    clear h
    go_enter Try.func56, Try.ntmps56
    go_wp2
    go_ret
    exact ⟨ret_bool HR.out.symm, rfl⟩
theorem may_at (s : ByteArray) (b : Bool) (w : World) (hs : s.size ≤ maxLen) (h : isName s.data.toList = b) :
    Calls Try.prog 55 #[.string s] w fun e w' => e = .returned (.bool b) ∧ w' = w := may_as s b w hs h
theorem within0_as (x hi : Int) (b : Bool) (w : World) (h : inB hi x = b) :
    Calls Try.prog 56 #[.int .i64 x, .int .i64 0, .int .i64 hi] w fun e w' => e = .returned (.bool b) ∧ w' = w :=
  within_as x 0 hi b w (by rw [← h]; unfold inB; rw [Bool.eq_iff_iff]; simp)

set_option maxRecDepth 20000 in
theorem mayQuestion_any (q : Qn) (w : World) (hs : q.n.size ≤ maxLen) :
    Calls Try.prog 38 #[.agg #[.string q.n, .int .i64 q.t, .int .i64 q.c]] w fun e w' => e = .returned (.bool (mayQ q)) ∧ Below w.heap.size w w' := by
  obtain ⟨n, t, c⟩ := q
  simp only at hs ⊢
  obtain ⟨b1, h1⟩ : ∃ b, isName n.data.toList = b := ⟨_, rfl⟩
  obtain ⟨b2, h2⟩ : ∃ b, (decide ((1 : Int) ≤ t) && decide (t ≤ 65535)) = b := ⟨_, rfl⟩
  obtain ⟨b3, h3⟩ : ∃ b, inB 65535 c = b := ⟨_, rfl⟩
  have HR : Hid (mayQ ⟨n, t, c⟩ = (b1 && b2 && b3)) := by unfold Hid mayQ; rw [h1, h2, h3]
  have hb : Below w.heap.size w (w.alloc (.cells #[.string n, .int .i64 t, .int .i64 c] 38)) := lay (Below.refl _ _) _
  have k1 := fun u => may_at n b1 u hs h1
  have k2 := fun u => within_as t 1 65535 b2 u h2
  have k3 := fun u => within0_as c 65535 b3 u h3
  clear h1 h2 h3 hs
  have t1 : True := trivial
  cases b1 with
  | false =>
    go_enter Try.func38, Try.ntmps38
    go_wp2_with (go_at_call 55; go_must (refine (k1 _).mono ?_); rintro e w' ⟨rfl, hw⟩; obtain rfl := hw.symm)
    go_ret
    exact ⟨ret_bool (by rw [HR.out]; rfl), hb⟩
  | true =>
    cases b2 with
    | false =>
      go_enter Try.func38, Try.ntmps38
      go_wp2_with (first
        | (go_at_call 55; go_must (refine (k1 _).mono ?_); rintro e w' ⟨rfl, hw⟩; obtain rfl := hw.symm)
        | (go_at_call 56; go_must (refine (k2 _).mono ?_); rintro e w' ⟨rfl, hw⟩; obtain rfl := hw.symm))
      go_ret
      exact ⟨ret_bool (by rw [HR.out]; rfl), hb⟩
    | true =>
      go_enter Try.func38, Try.ntmps38
      go_wp2_with (first
        | (go_at_call 55; go_must (refine (k1 _).mono ?_); rintro e w' ⟨rfl, hw⟩; obtain rfl := hw.symm)
        | (go_at_call 56; have _t := t1; go_must (refine (k2 _).mono ?_); rintro e w' ⟨rfl, hw⟩; obtain rfl := hw.symm; clear t1 _t)
        | (go_at_call 56; go_must (refine (k3 _).mono ?_); rintro e w' ⟨rfl, hw⟩; obtain rfl := hw.symm))
      go_ret
      exact ⟨ret_bool (by rw [HR.out]; rfl), hb⟩

set_option maxRecDepth 20000 in
theorem mayRecord_any (r : Rc) (w : World) (hs : r.n.size ≤ maxLen) (hd : r.d.size ≤ maxLen) :
    Calls Try.prog 40 #[.agg #[.string r.n, .int .i64 r.t, .int .i64 r.c, .int .i64 r.l, .string r.d]] w fun e w' => e = .returned (.bool (mayR r)) ∧ Below w.heap.size w w' := by
  obtain ⟨n, t, c, l, d⟩ := r
  simp only at hs hd ⊢
  obtain ⟨b1, h1⟩ : ∃ b, isName n.data.toList = b := ⟨_, rfl⟩
  obtain ⟨b2, h2⟩ : ∃ b, inB 65535 c = b := ⟨_, rfl⟩
  obtain ⟨b3, h3⟩ : ∃ b, inB 4294967295 l = b := ⟨_, rfl⟩
  obtain ⟨b4, h4⟩ : ∃ b, mayD t d.data.toList = b := ⟨_, rfl⟩
  have HR : Hid (mayR ⟨n, t, c, l, d⟩ = (b1 && b2 && b3 && b4)) := by unfold Hid mayR; rw [h1, h2, h3, h4]
  have hb : Below w.heap.size w (w.alloc (.cells #[.string n, .int .i64 t, .int .i64 c, .int .i64 l, .string d] 25)) := lay (Below.refl _ _) _
  have k1 := fun u => may_at n b1 u hs h1
  have k2 := fun u => within0_as c 65535 b2 u h2
  have k3 := fun u => within0_as l 4294967295 b3 u h3
  have k4 := fun u => may4_at t d b4 u hd h4
  clear h1 h2 h3 h4 hs hd
  have t1 : True := trivial
  cases b1 with
  | false =>
    go_enter Try.func40, Try.ntmps40
    go_wp2_with (go_at_call 55; go_must (refine (k1 _).mono ?_); rintro e w' ⟨rfl, hw⟩; obtain rfl := hw.symm)
    go_ret
    exact ⟨ret_bool (by rw [HR.out]; rfl), hb⟩
  | true =>
    cases b2 with
    | false =>
      go_enter Try.func40, Try.ntmps40
      go_wp2_with (first
        | (go_at_call 55; go_must (refine (k1 _).mono ?_); rintro e w' ⟨rfl, hw⟩; obtain rfl := hw.symm)
        | (go_at_call 56; go_must (refine (k2 _).mono ?_); rintro e w' ⟨rfl, hw⟩; obtain rfl := hw.symm))
      go_ret
      exact ⟨ret_bool (by rw [HR.out]; rfl), hb⟩
    | true =>
      cases b3 with
      | false =>
        go_enter Try.func40, Try.ntmps40
        go_wp2_with (first
          | (go_at_call 55; go_must (refine (k1 _).mono ?_); rintro e w' ⟨rfl, hw⟩; obtain rfl := hw.symm)
          | (go_at_call 56; have _t := t1; go_must (refine (k2 _).mono ?_); rintro e w' ⟨rfl, hw⟩; obtain rfl := hw.symm; clear t1 _t)
          | (go_at_call 56; go_must (refine (k3 _).mono ?_); rintro e w' ⟨rfl, hw⟩; obtain rfl := hw.symm))
        go_ret
        exact ⟨ret_bool (by rw [HR.out]; rfl), hb⟩
      | true =>
        go_enter Try.func40, Try.ntmps40
        go_wp2_with (first
          | (go_at_call 55; go_must (refine (k1 _).mono ?_); rintro e w' ⟨rfl, hw⟩; obtain rfl := hw.symm)
          | (go_at_call 56; have _t := t1; go_must (refine (k2 _).mono ?_); rintro e w' ⟨rfl, hw⟩; obtain rfl := hw.symm; clear t1 _t)
          | (go_at_call 56; go_must (refine (k3 _).mono ?_); rintro e w' ⟨rfl, hw⟩; obtain rfl := hw.symm)
          | (go_at_call 57; go_must (refine (k4 _).mono ?_); rintro e w4 ⟨rfl, b4⟩; replace hb := next hb (below_drew b4)))
        go_ret
        exact ⟨ret_bool (by rw [HR.out]; simp), hb⟩

end Go.Proofs.Ytdogjbblnjjaaab
