/- The document's Writer, alone: what Raw, Name, All and rr leave. -/
import Derived.Test.YtcapankhobnfeaaXWjE
import Derived.Test.YtcapankhobnfeaaXCpQ
import Derived.Deep.RegionHeld3
namespace Go.Proofs.Ytcapankhobnfeaa
open Go.RowKit
open Pl

/-- Rows of other types than the document's Writer's lie as they lay. -/
def Bew (w w' : World) : Prop := ∀ (k : Nat) (c : Array Value) (t : TypeId) (f : Nat × Nat), w.heap[k]? = some (Obj.cells c t f) → t ≠ 100 → t ≠ 130 → w'.heap[k]? = some (Obj.cells c t f)
theorem Bew.refl (w : World) : Bew w w := fun _ _ _ _ h _ _ => h
theorem Bew.trans {a b c : World} (h : Bew a b) (k : Bew b c) : Bew a c := fun i x t f hi h1 h2 => k i x t f (h i x t f hi h1 h2) h1 h2
theorem Bew.of_below {w w' : World} (h : Below w.heap.size w w') : Bew w w' := fun k c t f hk _ _ => by
  rw [h.block k (Array.getElem?_eq_some_iff.1 hk).1]; exact hk
theorem Bew.blk {w w' : World} {g : Nat} {C : Array Value} {t : TypeId} (h : Bew w w') (hb : Blk w g C t) (h1 : t ≠ 100) (h2 : t ≠ 130) : Blk w' g C t := h g C t (0, 0) hb h1 h2

/-- At h lies a Writer of the document's that was made since w0. -/
def RO (w0 w : World) (h : Nat) (B : List UInt8) (ms : Marks) : Prop := (∃ v, RW w h ⟨B.toArray⟩ v ms ∧ ∀ k, own2 h v k → w0.heap.size ≤ k) ∧ Fine B ms ∧ Below w0.heap.size w0 w
section
variable {w0 w w' : World} {h : Nat} {B B2 : List UInt8} {ms ms2 : Marks}
theorem RO.out (a : RO w0 w h B ms) : Below w0.heap.size w0 w := a.2.2
theorem RO.below (a : RO w0 w h B ms) (hb : Below w.heap.size w w') : RO w0 w' h B ms := by
  obtain ⟨⟨v, a1, a2⟩, a3, a4⟩ := a
  exact ⟨⟨v, a1.below hb, a2⟩, a3, next a4 hb⟩
theorem RW.kind {O : ByteArray} {v : Value} (a : RW w h O v ms) {k : Nat} (hk : own2 h v k) : ∃ c t f, w.heap[k]? = some (Obj.cells c t f) ∧ (t = 100 ∨ t = 130) := by
  rcases hk with rfl | hk
  · exact ⟨_, _, _, a.1, .inl rfl⟩
  · rcases a.2.2 with ⟨h3, _⟩ | ⟨g', cap, cur, h3, _, hg, _⟩
    · rw [h3] at hk; simp [Value.ownBlock] at hk
    · rw [h3] at hk
      simp [Value.ownBlock] at hk
      subst hk
      exact ⟨_, _, _, hg, .inr rfl⟩
theorem ro_left {v : Value} (a1 : RW w h ⟨B.toArray⟩ v ms) (a2 : ∀ k, own2 h v k → w0.heap.size ≤ k) (a4 : Below w0.heap.size w0 w) (hf : Fine B2 ms2) (hl : RLeft h v w w' B2 ms2) : RO w0 w' h B2 ms2 ∧ Bew w w' := by
  obtain ⟨O, v2, r1, r2, r3, r4⟩ := hl
  refine ⟨⟨⟨v2, ?_, fun k hk => ?_⟩, hf, Turn.below a4 r3 a4.size a2⟩, fun k c t f hk h1 h2 => ?_⟩
  · rw [← r2]; exact r1
  · rcases r4 k hk with e | e
    · exact a2 k e
    · exact Nat.le_trans a4.size e
  · rw [r3.block k (Array.getElem?_eq_some_iff.1 hk).1 (fun e => ?_)]
    · exact hk
    · obtain ⟨c', t', f', e1, e2⟩ := a1.kind e
      rw [e1] at hk
      simp at hk
      rcases e2 with e2 | e2
      · exact h1 (by rw [← hk.2.1]; exact e2)
      · exact h2 (by rw [← hk.2.1]; exact e2)
theorem rraw_o (s : ByteArray) (hs : s.size ≤ maxLen) (a : RO w0 w h B ms) :
    Calls Try.prog 51 #[.pointer (some ⟨h, 0, none⟩), .string s] w fun e w' => e = .returned (.int .i64 (rawE B s)) ∧ RO w0 w' h (rawB B s) ms ∧ Bew w w' := by
  obtain ⟨⟨v, a1, a2⟩, a3, a4⟩ := a
  exact (rRaw_any h _ v B ms s w (by simp) a3.1 hs a1).mono fun e w' ⟨he, hl⟩ => ⟨he, ro_left a1 a2 a4 (fine_raw a3 s) hl⟩
theorem rname_o (s : ByteArray) (hs : s.size ≤ maxLen) (a : RO w0 w h B ms) :
    Calls Try.prog 52 #[.pointer (some ⟨h, 0, none⟩), .string s] w fun e w' => e = .returned (.int .i64 (namE B ms s.data.toList)) ∧ RO w0 w' h (namB B ms s.data.toList) (namM B ms s.data.toList) ∧ Bew w w' := by
  obtain ⟨⟨v, a1, a2⟩, a3, a4⟩ := a
  exact (rwName_any h _ v B ms s w (by simp) a3 hs a1).mono fun e w' ⟨he, hl⟩ => ⟨he, ro_left a1 a2 a4 (fine_name a3 _) hl⟩
theorem rall_o (a : RO w0 w h B ms) : Calls Try.prog 55 #[.pointer (some ⟨h, 0, none⟩)] w fun e w' => e = .returned (.string ⟨B.toArray⟩) ∧ w' = w := by
  obtain ⟨⟨v, a1, _⟩, _⟩ := a
  exact rAll_any h _ v ms w a1
theorem ro_new (hb : Below w0.heap.size w0 w) : RO w0 (w.alloc (.cells #[.string ⟨#[]⟩, .slice none 0 0] 100)) w.heap.size [] [] := by
  refine ⟨⟨_, RW.new w, fun k hk => ?_⟩, fine_nil, lay hb _⟩
  rcases hk with rfl | hk
  · exact hb.size
  · simp [Value.ownBlock] at hk
end

/-- How a step ends: as o says. -/
def SO (w0 w' : World) (h : Nat) (b : Bool) (o : Option St) : Prop := (b = true ∧ ∃ B ms, o = some (B, ms) ∧ RO w0 w' h B ms) ∨ (b = false ∧ o = none ∧ Below w0.heap.size w0 w')
theorem so_name {w0 w' : World} {h : Nat} {B : List UInt8} {ms : Marks} {n : ByteArray} (a : RO w0 w' h (namB B ms n.data.toList) (namM B ms n.data.toList)) (f : St → Option St) (he : namE B ms n.data.toList ≠ 0) : SO w0 w' h false ((stN (B, ms) n).bind f) := by
  refine .inr ⟨rfl, ?_, a.out⟩
  unfold stN
  rw [if_neg he]; rfl
theorem so_raw {w0 w' : World} {h : Nat} {B : List UInt8} {ms : Marks} {s : ByteArray} (a : RO w0 w' h (rawB B s) ms) {b : Bool} (hb : b = (rawE B s == 0)) {o : Option St} (ho : o = stR (B, ms) s) : SO w0 w' h b o := by
  subst ho
  unfold stR
  by_cases he : rawE B s = 0
  · rw [if_pos he]
    exact .inl ⟨by rw [hb, he]; rfl, _, _, rfl, a⟩
  · rw [if_neg he]
    exact .inr ⟨by rw [hb]; simpa using he, rfl, a.out⟩

set_option maxRecDepth 20000 in
set_option maxHeartbeats 2000000 in
theorem rr_any {w0 w : World} {h : Nat} {B : List UInt8} {ms : Marks} (r : Rc) (hs : r.n.size ≤ maxLen) (hd : r.d.size ≤ 65535) (a : RO w0 w h B ms) :
    Calls Try.prog 54 #[.pointer (some ⟨h, 0, none⟩), .agg #[.string r.n, .int .i64 r.t, .int .i64 r.c, .int .i64 r.l, .string r.d]] w fun e w' => ∃ b, e = .returned (.bool b) ∧ SO w0 w' h b (stC (B, ms) r) ∧ Bew w w' := by
  obtain ⟨n, t, c, l, d⟩ := r
  simp only at hs hd ⊢
  have HA : Hid (RO w0 w h B ms) := a
  have KB := Blk.new w #[.string n, .int .i64 t, .int .i64 c, .int .i64 l, .string d] 54
  obtain ⟨X, hX⟩ : ∃ X, X = be2 t := ⟨_, rfl⟩
  obtain ⟨Y, hY⟩ : ∃ Y, Y = be2 c := ⟨_, rfl⟩
  obtain ⟨Z, hZ⟩ : ∃ Z, Z = be4 l := ⟨_, rfl⟩
  obtain ⟨U, hU⟩ : ∃ U, U = be2 (d.size : Int) := ⟨_, rfl⟩
  have sX : X.size = 2 := by rw [hX]; rfl
  have sY : Y.size = 2 := by rw [hY]; rfl
  have sZ : Z.size = 4 := by rw [hZ]; rfl
  have sU : U.size = 2 := by rw [hU]; rfl
  have HQ : Hid (rB ⟨n, t, c, l, d⟩ ++ d = X ++ Y ++ Z ++ U ++ d) := by unfold Hid rB; rw [hX, hY, hZ, hU]
  have HZ : Hid ((X ++ Y ++ Z ++ U ++ d).size ≤ maxLen) := by unfold Hid maxLen; simp only [ByteArray.size_append]; omega
  have k1 := fun u => be_two t u
  have k2 := fun u => be_two c u
  have k3 := fun u => be_four l u
  have k4 := fun u => be_two (d.size : Int) u
  rw [← hX] at k1
  rw [← hY] at k2
  rw [← hZ] at k3
  rw [← hU] at k4
  have z1 : ∀ u : World, (Op.stringOp .add X Y).run Try.prog u = .ok (.string (X ++ Y)) u := fun u => run_string_add_sum u X Y (by omega)
  have z2 : ∀ u : World, (Op.stringOp .add (X ++ Y) Z).run Try.prog u = .ok (.string (X ++ Y ++ Z)) u := fun u => run_string_add_sum u _ Z (by rw [ByteArray.size_append]; omega)
  have z3 : ∀ u : World, (Op.stringOp .add (X ++ Y ++ Z) U).run Try.prog u = .ok (.string (X ++ Y ++ Z ++ U)) u := fun u => run_string_add_sum u _ U (by rw [ByteArray.size_append, ByteArray.size_append]; omega)
  have z4 : ∀ u : World, (Op.stringOp .add (X ++ Y ++ Z ++ U) d).run Try.prog u = .ok (.string (X ++ Y ++ Z ++ U ++ d)) u := fun u => run_string_add_sum u _ d (by rw [ByteArray.size_append, ByteArray.size_append, ByteArray.size_append]; omega)
  clear a hX hY hZ hU sX sY sZ sU
  have t1 : True := trivial
  have t2 : True := trivial
  have t3 : True := trivial
  by_cases hE : namE B ms n.data.toList = 0
  · have HN : Hid (stC (B, ms) ⟨n, t, c, l, d⟩ = stR (namB B ms n.data.toList, namM B ms n.data.toList) (X ++ Y ++ Z ++ U ++ d)) := by
      unfold Hid stC stN
      rw [if_pos hE, HQ.out]; rfl
    have hk := rname_o (w0 := w0) (h := h) (B := B) (ms := ms) n hs (HA.out.below (lay (Below.refl _ _) (.cells #[.string n, .int .i64 t, .int .i64 c, .int .i64 l, .string d] 54)))
    rw [hE] at hk
    obtain ⟨EE, hEE⟩ : ∃ EE, rawE (namB B ms n.data.toList) (X ++ Y ++ Z ++ U ++ d) = EE := ⟨_, rfl⟩
    have HEE : Hid (rawE (namB B ms n.data.toList) (X ++ Y ++ Z ++ U ++ d) = EE) := hEE
    have kr : ∀ u, RO w0 u h (namB B ms n.data.toList) (namM B ms n.data.toList) → Calls Try.prog 51 #[.pointer (some ⟨h, 0, none⟩), .string (X ++ Y ++ Z ++ U ++ d)] u fun e w' => e = .returned (.int .i64 EE) ∧ RO w0 w' h (rawB (namB B ms n.data.toList) (X ++ Y ++ Z ++ U ++ d)) (namM B ms n.data.toList) ∧ Bew u w' := fun u hu => by rw [← hEE]; exact rraw_o _ HZ.out hu
    clear hE hEE
    go_enter Try.func54, Try.ntmps54
    go_wp2_with (go_at_call 52; go_must (refine hk.mono ?_); rintro e w1 ⟨rfl, h1, b1⟩; have H1 : Hid (RO w0 w1 h (namB B ms n.data.toList) (namM B ms n.data.toList)) := h1; have B1 : Hid (Bew w w1) := (Bew.of_below (lay (Below.refl _ _) _)).trans b1; replace KB := b1.blk KB (by decide) (by decide); have c1 : w1.cell? ⟨w.heap.size, 1, none⟩ = some (.int .i64 t) := KB.cell 1; have c2 : w1.cell? ⟨w.heap.size, 2, none⟩ = some (.int .i64 c) := KB.cell 2; have c3 : w1.cell? ⟨w.heap.size, 3, none⟩ = some (.int .i64 l) := KB.cell 3; have c4 : w1.cell? ⟨w.heap.size, 4, none⟩ = some (.string d) := KB.cell 4; clear h1 b1)
    go_region_held3 (fun u => u.cell? ⟨w.heap.size, 1, none⟩ = some (.int .i64 t) ∧ u.cell? ⟨w.heap.size, 2, none⟩ = some (.int .i64 c) ∧ u.cell? ⟨w.heap.size, 3, none⟩ = some (.int .i64 l) ∧ u.cell? ⟨w.heap.size, 4, none⟩ = some (.string d)) (first | (simp only [World.cell?_drew, c1, c2, c3, c4, and_self]; done))
      (first
        | (go_at_call 53; have _t := t1; refine (k1 _).mono ?_; rintro e w2 ⟨rfl, b2⟩; replace b2 := next (Below.refl _ _).drew b2; have KB2 := KB.below b2; have c1 : w2.cell? ⟨w.heap.size, 1, none⟩ = some (.int .i64 t) := KB2.cell 1; have c2 : w2.cell? ⟨w.heap.size, 2, none⟩ = some (.int .i64 c) := KB2.cell 2; have c3 : w2.cell? ⟨w.heap.size, 3, none⟩ = some (.int .i64 l) := KB2.cell 3; have c4 : w2.cell? ⟨w.heap.size, 4, none⟩ = some (.string d) := KB2.cell 4; clear _t t1)
        | (go_at_call 53; have _t := t2; refine (k2 _).mono ?_; rintro e w3 ⟨rfl, b3⟩; replace b3 := next b2 b3; have KB3 := KB.below b3; have c1 : w3.cell? ⟨w.heap.size, 1, none⟩ = some (.int .i64 t) := KB3.cell 1; have c2 : w3.cell? ⟨w.heap.size, 2, none⟩ = some (.int .i64 c) := KB3.cell 2; have c3 : w3.cell? ⟨w.heap.size, 3, none⟩ = some (.int .i64 l) := KB3.cell 3; have c4 : w3.cell? ⟨w.heap.size, 4, none⟩ = some (.string d) := KB3.cell 4; clear _t t2)
        | (go_at_call 53; have _t := t3; refine (k3 _).mono ?_; rintro e w4 ⟨rfl, b4⟩; replace b4 := next b3 b4; have KB4 := KB.below b4; have c1 : w4.cell? ⟨w.heap.size, 1, none⟩ = some (.int .i64 t) := KB4.cell 1; have c2 : w4.cell? ⟨w.heap.size, 2, none⟩ = some (.int .i64 c) := KB4.cell 2; have c3 : w4.cell? ⟨w.heap.size, 3, none⟩ = some (.int .i64 l) := KB4.cell 3; have c4 : w4.cell? ⟨w.heap.size, 4, none⟩ = some (.string d) := KB4.cell 4; clear _t t3)
        | (go_at_call 53; refine (k4 _).mono ?_; rintro e w5 ⟨rfl, b5⟩; replace b5 := next b4 b5; have KB5 := KB.below b5; have c1 : w5.cell? ⟨w.heap.size, 1, none⟩ = some (.int .i64 t) := KB5.cell 1; have c2 : w5.cell? ⟨w.heap.size, 2, none⟩ = some (.int .i64 c) := KB5.cell 2; have c3 : w5.cell? ⟨w.heap.size, 3, none⟩ = some (.int .i64 l) := KB5.cell 3; have c4 : w5.cell? ⟨w.heap.size, 4, none⟩ = some (.string d) := KB5.cell 4)
        | (go_at_call 51; refine (kr _ (H1.out.below b5)).mono ?_; rintro e w6 ⟨rfl, h6, b6⟩; have H6 : Hid (RO w0 w6 h (rawB (namB B ms n.data.toList) (X ++ Y ++ Z ++ U ++ d)) (namM B ms n.data.toList)) := h6; have B6 : Hid (Bew w w6) := (B1.out.trans (Bew.of_below b5)).trans b6; have KB6 := b6.blk KB5 (by decide) (by decide); have c1 : w6.cell? ⟨w.heap.size, 1, none⟩ = some (.int .i64 t) := KB6.cell 1; have c2 : w6.cell? ⟨w.heap.size, 2, none⟩ = some (.int .i64 c) := KB6.cell 2; have c3 : w6.cell? ⟨w.heap.size, 3, none⟩ = some (.int .i64 l) := KB6.cell 3; have c4 : w6.cell? ⟨w.heap.size, 4, none⟩ = some (.string d) := KB6.cell 4; clear h6 b6))
    go_wp2
    go_ret
    exact ⟨_, rfl, so_raw H6.out (by rw [HEE.out]) HN.out, B6.out⟩
  · have hE' : (namE B ms n.data.toList == 0) = false := by simpa using hE
    obtain ⟨EE, hEE⟩ : ∃ EE, namE B ms n.data.toList = EE := ⟨_, rfl⟩
    have HE : Hid (namE B ms n.data.toList ≠ 0) := hE
    have hk := rname_o (w0 := w0) (h := h) (B := B) (ms := ms) n hs (HA.out.below (lay (Below.refl _ _) (.cells #[.string n, .int .i64 t, .int .i64 c, .int .i64 l, .string d] 54)))
    rw [hEE] at hk hE'
    clear hE hEE
    go_enter Try.func54, Try.ntmps54
    go_wp2_with (go_at_call 52; go_must (refine hk.mono ?_); rintro e w1 ⟨rfl, h1, b1⟩; have H1 : Hid (RO w0 w1 h (namB B ms n.data.toList) (namM B ms n.data.toList)) := h1; have B1 : Hid (Bew w w1) := (Bew.of_below (lay (Below.refl _ _) _)).trans b1; clear h1 b1)
    go_ret
    exact ⟨_, rfl, so_name H1.out _ HE.out, B1.out⟩

end Go.Proofs.Ytcapankhobnfeaa
