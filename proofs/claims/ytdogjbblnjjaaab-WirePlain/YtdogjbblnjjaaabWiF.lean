/- The writer of package wire: what note, raw, name, question and record leave. -/
import Derived.Test.YtdogjbblnjjaaabWiE
namespace Go.Proofs.Ytdogjbblnjjaaab
open Go.RowKit
open Pl

/-- Rows of other types than a writer's lie as they lay. -/
def Bes (w w' : World) : Prop := ∀ (k : Nat) (c : Array Value) (t : TypeId) (f : Nat × Nat), w.heap[k]? = some (Obj.cells c t f) → t ≠ 5 → t ≠ 91 → t ≠ 65 → w'.heap[k]? = some (Obj.cells c t f)
theorem Bes.refl (w : World) : Bes w w := fun _ _ _ _ h _ _ _ => h
theorem Bes.trans {a b c : World} (h : Bes a b) (k : Bes b c) : Bes a c := fun i x t f hi h1 h2 h3 => k i x t f (h i x t f hi h1 h2 h3) h1 h2 h3
theorem Bes.of_beside {a b : World} (h : Beside a b) : Bes a b := fun i x t f hi h1 h2 _ => h i x t f hi h1 h2
theorem Bes.of_below {w w' : World} (h : Below w.heap.size w w') : Bes w w' := Bes.of_beside (Beside.of_below h)
theorem Bes.blk {w w' : World} {g : Nat} {C : Array Value} {t : TypeId} (h : Bes w w') (hb : Blk w g C t) (h1 : t ≠ 5) (h2 : t ≠ 91) (h3 : t ≠ 65) : Blk w' g C t := h g C t (0, 0) hb h1 h2 h3

/-- At g lies a writer over the Writer at h. -/
def WH (w0 w : World) (g h : Nat) (B : List UInt8) (ms : Marks) (f : Bool) : Prop := Blk w g #[.pointer (some ⟨h, 0, none⟩), .bool f] 65 ∧ w0.heap.size ≤ g ∧ Holds w0 w h B ms
/-- .. that stands as o says. -/
def WO (w0 w : World) (g h : Nat) (o : Option St) : Prop := ∃ B ms f, WH w0 w g h B ms f ∧ ((f = false ∧ o = some (B, ms)) ∨ (f = true ∧ o = none))
theorem WO.below {w0 w w' : World} {g h : Nat} {o : Option St} (a : WO w0 w g h o) (hb : Below w.heap.size w w') : WO w0 w' g h o := by
  obtain ⟨B, ms, f, ⟨h1, h2, h3⟩, h4⟩ := a
  exact ⟨B, ms, f, ⟨h1.below hb, h2, h3.below hb⟩, h4⟩
theorem WO.out {w0 w : World} {g h : Nat} {o : Option St} (a : WO w0 w g h o) : Below w0.heap.size w0 w := by
  obtain ⟨B, ms, f, ⟨h1, h2, h3⟩, h4⟩ := a
  exact h3.out

/-- The mark of a writer is set. -/
theorem WH.set {w0 w : World} {g h : Nat} {B : List UInt8} {ms : Marks} {f : Bool} (a : WH w0 w g h B ms f) : WH w0 (w.setCell ⟨g, 1, none⟩ (.bool true)) g h B ms true ∧ Bes w (w.setCell ⟨g, 1, none⟩ (.bool true)) := by
  obtain ⟨h1, h2, u, m, a1, a2, a3, a4⟩ := a
  have hne : ∀ k, own h u m k → k ≠ g := fun k hk e => by
    subst e
    exact a1.apart h1 (by decide) (by decide) hk
  refine ⟨⟨h1.set 1 _, h2, u, m, a1.turn (S := fun k => k = g) (Turn.of_set (S := fun k => k = g) w (p := ⟨g, 1, none⟩) rfl _) (fun k hk => hne k hk), a2, a3, a4.setCell h2 _⟩, fun k c t f hk _ _ h5 => ?_⟩
  rw [heap_setCell_other w ⟨g, 1, none⟩ k _ (fun e => ?_)]
  · exact hk
  · subst e
    unfold Blk at h1
    rw [hk] at h1
    simp at h1
    exact h5 h1.2.1

theorem note_any {w0 w : World} {g h : Nat} {B : List UInt8} {ms : Marks} {f : Bool} (E : Int) (a : WH w0 w g h B ms f) :
    Calls Try.prog 41 #[.pointer (some ⟨g, 0, none⟩), .int .i64 E] w fun e w' => e = .returned (.tuple #[]) ∧ WH w0 w' g h B ms (f || !(E == 0)) ∧ Bes w w' := by
  have f1 := a.1.frozen 1
  have c1 : w.cell? ⟨g, 1, none⟩ = some (.bool f) := a.1.cell 1
  have HA : Hid (WH w0 w g h B ms f) := a
  clear a
  by_cases hE : E = 0
  · subst hE
    go_enter Try.func41, Try.ntmps41
    go_wp2
    go_end0
    exact ⟨rfl, by simpa using HA.out, Bes.refl _⟩
  · have hE' : (E == 0) = false := by simpa using hE
    go_enter Try.func41, Try.ntmps41
    go_wp2
    go_end0
    obtain ⟨b1, b2⟩ := HA.out.set
    exact ⟨rfl, by rw [hE', Bool.not_false, Bool.or_true]; exact b1, b2⟩

theorem WH.beside {w0 w w' : World} {g h : Nat} {B B' : List UInt8} {ms ms' : Marks} {f : Bool} (a : WH w0 w g h B ms f) (hb : Beside w w') (hh : Holds w0 w' h B' ms') : WH w0 w' g h B' ms' f :=
  ⟨hb g _ _ _ a.1 (by decide) (by decide), a.2.1, hh⟩
theorem WO.of_raw {w0 w : World} {g h : Nat} {B : List UInt8} {ms : Marks} {f : Bool} {o : Option St} {s : ByteArray} (ho : (f = false ∧ o = some (B, ms)) ∨ (f = true ∧ o = none)) (a : WH w0 w g h (rawB B s) ms (f || !(rawE B s == 0))) : WO w0 w g h (o.bind fun x => stR x s) := by
  refine ⟨_, _, _, a, ?_⟩
  rcases ho with ⟨rfl, rfl⟩ | ⟨rfl, rfl⟩
  · simp only [Option.bind_some, stR, Bool.false_or]
    by_cases h1 : rawE B s = 0
    · rw [if_pos h1, h1]; exact .inl ⟨rfl, rfl⟩
    · rw [if_neg h1]; exact .inr ⟨by simpa using h1, rfl⟩
  · exact .inr ⟨rfl, rfl⟩
theorem WO.of_name {w0 w : World} {g h : Nat} {B : List UInt8} {ms : Marks} {f : Bool} {o : Option St} {s : ByteArray} (ho : (f = false ∧ o = some (B, ms)) ∨ (f = true ∧ o = none)) (a : WH w0 w g h (namB B ms s.data.toList) (namM B ms s.data.toList) (f || !(namE B ms s.data.toList == 0))) : WO w0 w g h (o.bind fun x => stN x s) := by
  refine ⟨_, _, _, a, ?_⟩
  rcases ho with ⟨rfl, rfl⟩ | ⟨rfl, rfl⟩
  · simp only [Option.bind_some, stN, Bool.false_or]
    by_cases h1 : namE B ms s.data.toList = 0
    · rw [if_pos h1, h1]; exact .inl ⟨rfl, rfl⟩
    · rw [if_neg h1]; exact .inr ⟨by simpa using h1, rfl⟩
  · exact .inr ⟨rfl, rfl⟩

theorem wraw_any {w0 w : World} {g h : Nat} {o : Option St} (s : ByteArray) (hs : s.size ≤ maxLen) (a : WO w0 w g h o) :
    Calls Try.prog 19 #[.pointer (some ⟨g, 0, none⟩), .string s] w fun e w' => e = .returned (.tuple #[]) ∧ WO w0 w' g h (o.bind fun x => stR x s) ∧ Bes w w' := by
  obtain ⟨B, ms, f, a1, ho⟩ := a
  have c0 : w.cell? ⟨g, 0, none⟩ = some (.pointer (some ⟨h, 0, none⟩)) := a1.1.cell 0
  have HA : Hid (WH w0 w g h B ms f) := a1
  have HO : Hid ((f = false ∧ o = some (B, ms)) ∨ (f = true ∧ o = none)) := ho
  clear a1 ho
  go_enter Try.func19, Try.ntmps19
  go_wp2_with (first
    | (go_at_call 42; go_must (refine (raw_h s hs HA.out.2.2).mono ?_); rintro e w1 ⟨rfl, h1, b1⟩; have H1 : Hid (WH w0 w1 g h (rawB B s) ms f) := HA.out.beside b1 h1; have B1 : Hid (Bes w w1) := Bes.of_beside b1; clear h1 b1)
    | (go_at_call 41; go_must (refine (note_any _ H1.out).mono ?_); rintro e w2 ⟨rfl, h2, b2⟩; have H2 : Hid (WH w0 w2 g h (rawB B s) ms (f || !(rawE B s == 0))) := h2; have B2 : Hid (Bes w w2) := B1.out.trans b2; clear h2 b2))
  go_end0
  exact ⟨rfl, WO.of_raw HO.out H2.out, B2.out⟩
theorem wnam_any {w0 w : World} {g h : Nat} {o : Option St} (s : ByteArray) (hs : s.size ≤ maxLen) (a : WO w0 w g h o) :
    Calls Try.prog 43 #[.pointer (some ⟨g, 0, none⟩), .string s] w fun e w' => e = .returned (.tuple #[]) ∧ WO w0 w' g h (o.bind fun x => stN x s) ∧ Bes w w' := by
  obtain ⟨B, ms, f, a1, ho⟩ := a
  have c0 : w.cell? ⟨g, 0, none⟩ = some (.pointer (some ⟨h, 0, none⟩)) := a1.1.cell 0
  have HA : Hid (WH w0 w g h B ms f) := a1
  have HO : Hid ((f = false ∧ o = some (B, ms)) ∨ (f = true ∧ o = none)) := ho
  clear a1 ho
  go_enter Try.func43, Try.ntmps43
  go_wp2_with (first
    | (go_at_call 59; go_must (refine (name_h s hs HA.out.2.2).mono ?_); rintro e w1 ⟨rfl, h1, b1⟩; have H1 : Hid (WH w0 w1 g h (namB B ms s.data.toList) (namM B ms s.data.toList) f) := HA.out.beside b1 h1; have B1 : Hid (Bes w w1) := Bes.of_beside b1; clear h1 b1)
    | (go_at_call 41; go_must (refine (note_any _ H1.out).mono ?_); rintro e w2 ⟨rfl, h2, b2⟩; have H2 : Hid (WH w0 w2 g h (namB B ms s.data.toList) (namM B ms s.data.toList) (f || !(namE B ms s.data.toList == 0))) := h2; have B2 : Hid (Bes w w2) := B1.out.trans b2; clear h2 b2))
  go_end0
  exact ⟨rfl, WO.of_name HO.out H2.out, B2.out⟩

set_option maxRecDepth 20000 in
set_option maxHeartbeats 1000000 in
theorem wquestion_any {w0 w : World} {g h : Nat} {o : Option St} (q : Qn) (hs : q.n.size ≤ maxLen) (a : WO w0 w g h o) :
    Calls Try.prog 21 #[.pointer (some ⟨g, 0, none⟩), .agg #[.string q.n, .int .i64 q.t, .int .i64 q.c]] w fun e w' => e = .returned (.tuple #[]) ∧ WO w0 w' g h (o.bind fun x => stQ x q) ∧ Bes w w' := by
  obtain ⟨n, t, c⟩ := q
  simp only at hs ⊢
  have HA : Hid (WO w0 w g h o) := a
  have KB := Blk.new w #[.string n, .int .i64 t, .int .i64 c] 38
  have z : (be2 t).size + (be2 c).size ≤ 1000 := by rw [size2, size2]; decide
  have HZ : Hid ((be2 t ++ be2 c).size ≤ maxLen) := by unfold Hid maxLen; rw [ByteArray.size_append]; simp [size2]
  obtain ⟨X, hX⟩ : ∃ X, X = be2 t := ⟨_, rfl⟩
  obtain ⟨Y, hY⟩ : ∃ Y, Y = be2 c := ⟨_, rfl⟩
  have HF : Hid (((o.bind fun x => stN x n).bind fun x => stR x (X ++ Y)) = o.bind fun x => stQ x ⟨n, t, c⟩) := by
    unfold Hid; rw [hX, hY, Option.bind_assoc]; rfl
  have k1 := fun u => put16_any t u
  have k2 := fun u => put16_any c u
  rw [← hX] at k1 z HZ
  rw [← hY] at k2 z HZ
  have zz : ∀ u : World, (Op.stringOp .add X Y).run Try.prog u = .ok (.string (X ++ Y)) u := fun u => run_string_add_sum u X Y (by omega)
  clear a hX hY
  have t1 : True := trivial
  go_enter Try.func21, Try.ntmps21
  go_wp2_with (go_at_call 43; go_must (refine (wnam_any n hs (HA.out.below (lay (Below.refl _ _) _))).mono ?_); rintro e w1 ⟨rfl, h1, b1⟩; have H1 : Hid (WO w0 w1 g h (o.bind fun x => stN x n)) := h1; have B1 : Hid (Bes w w1) := (Bes.of_below (lay (Below.refl _ _) _)).trans b1; replace KB := b1.blk KB (by decide) (by decide) (by decide); have c1 : w1.cell? ⟨w.heap.size, 1, none⟩ = some (.int .i64 t) := KB.cell 1; have c2 : w1.cell? ⟨w.heap.size, 2, none⟩ = some (.int .i64 c) := KB.cell 2; clear h1 b1)
  go_region_held3 (fun u => u.cell? ⟨w.heap.size, 1, none⟩ = some (.int .i64 t) ∧ u.cell? ⟨w.heap.size, 2, none⟩ = some (.int .i64 c)) (first | (simp only [World.cell?_drew, c1, c2, and_self]; done))
    (first
      | (go_at_call 35; have _t := t1; refine (k1 _).mono ?_; rintro e w2 ⟨rfl, b2⟩; replace b2 := next (Below.refl _ _).drew b2; have KB2 := KB.below b2; have c1 : w2.cell? ⟨w.heap.size, 1, none⟩ = some (.int .i64 t) := KB2.cell 1; have c2 : w2.cell? ⟨w.heap.size, 2, none⟩ = some (.int .i64 c) := KB2.cell 2; clear _t t1)
      | (go_at_call 35; refine (k2 _).mono ?_; rintro e w3 ⟨rfl, b3⟩; replace b3 := next b2 b3; have KB3 := KB.below b3; have c1 : w3.cell? ⟨w.heap.size, 1, none⟩ = some (.int .i64 t) := KB3.cell 1; have c2 : w3.cell? ⟨w.heap.size, 2, none⟩ = some (.int .i64 c) := KB3.cell 2)
      | (go_at_call 19; refine (wraw_any _ HZ.out (H1.out.below b3)).mono ?_; rintro e w4 ⟨rfl, h4, b4⟩; have H4 : Hid (WO w0 w4 g h ((o.bind fun x => stN x n).bind fun x => stR x (X ++ Y))) := h4; have B4 : Hid (Bes w w4) := (B1.out.trans (Bes.of_below b3)).trans b4; have KB4 := b4.blk KB3 (by decide) (by decide) (by decide); have c1 : w4.cell? ⟨w.heap.size, 1, none⟩ = some (.int .i64 t) := KB4.cell 1; have c2 : w4.cell? ⟨w.heap.size, 2, none⟩ = some (.int .i64 c) := KB4.cell 2; clear h4 b4))
  go_wp2
  go_end0
  exact ⟨rfl, by rw [← HF.out]; exact H4.out, B4.out⟩

/-- Bytes in two parts. -/
theorem stR_two (x : St) (a b : ByteArray) : stR x (a ++ b) = (stR x a).bind fun y => stR y b := by
  unfold stR rawE rawB
  rw [ByteArray.size_append]
  by_cases h1 : x.1.length + a.size ≤ 4096
  · rw [if_pos h1, if_pos h1, if_pos rfl]
    simp only [Option.bind_some]
    rw [List.length_append, data_len]
    by_cases h2 : x.1.length + (a.size + b.size) ≤ 4096
    · rw [if_pos h2, if_pos h2, if_pos (by omega), if_pos (by omega), if_pos (by omega), app_list, List.append_assoc]
    · rw [if_neg h2, if_neg (by omega)]; simp; omega
  · rw [if_neg h1, if_neg (by omega)]; simp

set_option maxRecDepth 20000 in
set_option maxHeartbeats 2000000 in
theorem wrecord_any {w0 w : World} {g h : Nat} {o : Option St} (r : Rc) (hs : r.n.size ≤ maxLen) (hd : r.d.size ≤ maxLen) (a : WO w0 w g h o) :
    Calls Try.prog 23 #[.pointer (some ⟨g, 0, none⟩), .agg #[.string r.n, .int .i64 r.t, .int .i64 r.c, .int .i64 r.l, .string r.d]] w fun e w' => e = .returned (.tuple #[]) ∧ WO w0 w' g h (o.bind fun x => stC x r) ∧ Bes w w' := by
  obtain ⟨n, t, c, l, d⟩ := r
  simp only at hs hd ⊢
  have HA : Hid (WO w0 w g h o) := a
  have KB := Blk.new w #[.string n, .int .i64 t, .int .i64 c, .int .i64 l, .string d] 25
  obtain ⟨X, hX⟩ : ∃ X, X = be2 t := ⟨_, rfl⟩
  obtain ⟨Y, hY⟩ : ∃ Y, Y = be2 c := ⟨_, rfl⟩
  obtain ⟨Z, hZ⟩ : ∃ Z, Z = be4 l := ⟨_, rfl⟩
  obtain ⟨U, hU⟩ : ∃ U, U = be2 (d.size : Int) := ⟨_, rfl⟩
  have sX : X.size = 2 := by rw [hX]; rfl
  have sY : Y.size = 2 := by rw [hY]; rfl
  have sZ : Z.size = 4 := by rw [hZ]; rfl
  have sU : U.size = 2 := by rw [hU]; rfl
  have HF : Hid ((((o.bind fun x => stN x n).bind fun x => stR x (X ++ Y ++ Z ++ U)).bind fun x => stR x d) = o.bind fun x => stC x ⟨n, t, c, l, d⟩) := by
    unfold Hid
    rw [Option.bind_assoc, Option.bind_assoc]
    refine congrArg (Option.bind o) (funext fun x => ?_)
    unfold stC rB
    refine congrArg (Option.bind _) (funext fun y => ?_)
    simp only
    rw [stR_two _ (be2 t ++ be2 c ++ be4 l ++ be2 (d.size : Int)) d, hX, hY, hZ, hU]
  have HZ : Hid ((X ++ Y ++ Z ++ U).size ≤ maxLen) := by unfold Hid maxLen; simp only [ByteArray.size_append]; omega
  have k1 := fun u => put16_any t u
  have k2 := fun u => put16_any c u
  have k3 := fun u => put32_any l u
  have k4 := fun u => put16_any (d.size : Int) u
  rw [← hX] at k1
  rw [← hY] at k2
  rw [← hZ] at k3
  rw [← hU] at k4
  have z1 : ∀ u : World, (Op.stringOp .add X Y).run Try.prog u = .ok (.string (X ++ Y)) u := fun u => run_string_add_sum u X Y (by omega)
  have z2 : ∀ u : World, (Op.stringOp .add (X ++ Y) Z).run Try.prog u = .ok (.string (X ++ Y ++ Z)) u := fun u => run_string_add_sum u _ Z (by rw [ByteArray.size_append]; omega)
  have z3 : ∀ u : World, (Op.stringOp .add (X ++ Y ++ Z) U).run Try.prog u = .ok (.string (X ++ Y ++ Z ++ U)) u := fun u => run_string_add_sum u _ U (by rw [ByteArray.size_append, ByteArray.size_append]; omega)
  clear a hX hY hZ hU sX sY sZ sU
  have t1 : True := trivial
  have t2 : True := trivial
  have hd := hd
  unfold maxLen at hd
  go_enter Try.func23, Try.ntmps23
  go_wp2_with (go_at_call 43; go_must (refine (wnam_any n hs (HA.out.below (lay (Below.refl _ _) _))).mono ?_); rintro e w1 ⟨rfl, h1, b1⟩; have H1 : Hid (WO w0 w1 g h (o.bind fun x => stN x n)) := h1; have B1 : Hid (Bes w w1) := (Bes.of_below (lay (Below.refl _ _) _)).trans b1; replace KB := b1.blk KB (by decide) (by decide) (by decide); have c1 : w1.cell? ⟨w.heap.size, 1, none⟩ = some (.int .i64 t) := KB.cell 1; have c2 : w1.cell? ⟨w.heap.size, 2, none⟩ = some (.int .i64 c) := KB.cell 2; have c3 : w1.cell? ⟨w.heap.size, 3, none⟩ = some (.int .i64 l) := KB.cell 3; have c4 : w1.cell? ⟨w.heap.size, 4, none⟩ = some (.string d) := KB.cell 4; clear h1 b1)
  go_region_held3 (fun u => u.cell? ⟨w.heap.size, 1, none⟩ = some (.int .i64 t) ∧ u.cell? ⟨w.heap.size, 2, none⟩ = some (.int .i64 c) ∧ u.cell? ⟨w.heap.size, 3, none⟩ = some (.int .i64 l) ∧ u.cell? ⟨w.heap.size, 4, none⟩ = some (.string d)) (first | (simp only [World.cell?_drew, c1, c2, c3, c4, and_self]; done))
    (first
      | (go_at_call 35; have _t := t1; refine (k1 _).mono ?_; rintro e w2 ⟨rfl, b2⟩; replace b2 := next (Below.refl _ _).drew b2; have KB2 := KB.below b2; have c1 : w2.cell? ⟨w.heap.size, 1, none⟩ = some (.int .i64 t) := KB2.cell 1; have c2 : w2.cell? ⟨w.heap.size, 2, none⟩ = some (.int .i64 c) := KB2.cell 2; have c3 : w2.cell? ⟨w.heap.size, 3, none⟩ = some (.int .i64 l) := KB2.cell 3; have c4 : w2.cell? ⟨w.heap.size, 4, none⟩ = some (.string d) := KB2.cell 4; clear _t t1)
      | (go_at_call 35; have _t := t2; refine (k2 _).mono ?_; rintro e w3 ⟨rfl, b3⟩; replace b3 := next b2 b3; have KB3 := KB.below b3; have c1 : w3.cell? ⟨w.heap.size, 1, none⟩ = some (.int .i64 t) := KB3.cell 1; have c2 : w3.cell? ⟨w.heap.size, 2, none⟩ = some (.int .i64 c) := KB3.cell 2; have c3 : w3.cell? ⟨w.heap.size, 3, none⟩ = some (.int .i64 l) := KB3.cell 3; have c4 : w3.cell? ⟨w.heap.size, 4, none⟩ = some (.string d) := KB3.cell 4; clear _t t2)
      | (go_at_call 44; refine (k3 _).mono ?_; rintro e w4 ⟨rfl, b4⟩; replace b4 := next b3 b4; have KB4 := KB.below b4; have c1 : w4.cell? ⟨w.heap.size, 1, none⟩ = some (.int .i64 t) := KB4.cell 1; have c2 : w4.cell? ⟨w.heap.size, 2, none⟩ = some (.int .i64 c) := KB4.cell 2; have c3 : w4.cell? ⟨w.heap.size, 3, none⟩ = some (.int .i64 l) := KB4.cell 3; have c4 : w4.cell? ⟨w.heap.size, 4, none⟩ = some (.string d) := KB4.cell 4)
      | (go_at_call 35; refine (k4 _).mono ?_; rintro e w5 ⟨rfl, b5⟩; replace b5 := next b4 b5; have KB5 := KB.below b5; have c1 : w5.cell? ⟨w.heap.size, 1, none⟩ = some (.int .i64 t) := KB5.cell 1; have c2 : w5.cell? ⟨w.heap.size, 2, none⟩ = some (.int .i64 c) := KB5.cell 2; have c3 : w5.cell? ⟨w.heap.size, 3, none⟩ = some (.int .i64 l) := KB5.cell 3; have c4 : w5.cell? ⟨w.heap.size, 4, none⟩ = some (.string d) := KB5.cell 4)
      | (go_at_call 19; refine (wraw_any _ HZ.out (H1.out.below b5)).mono ?_; rintro e w6 ⟨rfl, h6, b6⟩; have H6 : Hid (WO w0 w6 g h ((o.bind fun x => stN x n).bind fun x => stR x (X ++ Y ++ Z ++ U))) := h6; have B6 : Hid (Bes w w6) := (B1.out.trans (Bes.of_below b5)).trans b6; have KB6 := b6.blk KB5 (by decide) (by decide) (by decide); have c1 : w6.cell? ⟨w.heap.size, 1, none⟩ = some (.int .i64 t) := KB6.cell 1; have c2 : w6.cell? ⟨w.heap.size, 2, none⟩ = some (.int .i64 c) := KB6.cell 2; have c3 : w6.cell? ⟨w.heap.size, 3, none⟩ = some (.int .i64 l) := KB6.cell 3; have c4 : w6.cell? ⟨w.heap.size, 4, none⟩ = some (.string d) := KB6.cell 4; clear h6 b6))
  go_wp2_with (go_at_call 19; go_must (refine (wraw_any d hd H6.out).mono ?_); rintro e w7 ⟨rfl, h7, b7⟩; have H7 : Hid (WO w0 w7 g h (((o.bind fun x => stN x n).bind fun x => stR x (X ++ Y ++ Z ++ U)).bind fun x => stR x d)) := h7; have B7 : Hid (Bes w w7) := B6.out.trans b7; clear h7 b7)
  go_end0
  exact ⟨rfl, by rw [← HF.out]; exact H7.out, B7.out⟩

end Go.Proofs.Ytdogjbblnjjaaab
