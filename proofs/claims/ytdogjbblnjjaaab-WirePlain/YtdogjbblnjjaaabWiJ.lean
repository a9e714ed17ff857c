/- The reader of package wire: what question and record give. -/
import Derived.Test.YtdogjbblnjjaaabWiI
namespace Go.Proofs.Ytdogjbblnjjaaab
open Go.RowKit
open Pl

/-- What question and record hold: the reader, the result, the part that is read. -/
structure Loc (w w' : World) (g : Nat) (s : ByteArray) (p : Nat) (b : Bool) (T : TypeId) (Z C : Array Value) : Prop where
  rd : RD w' g s p b
  tg : TG g w w'
  res : Blk w' w.heap.size Z T
  loc : Blk w' (w.heap.size + 1) C T
  lt : g < w.heap.size
section
variable {w w' w'' : World} {g : Nat} {s : ByteArray} {p p' : Nat} {b b' : Bool} {T : TypeId} {Z C : Array Value}
theorem Loc.step (j : Loc w w' g s p b T Z C) (hr : RD w'' g s p' b') (ht : TG g w' w'') : Loc w w'' g s p' b' T Z C :=
  ⟨hr, j.tg.same ht, ht.blk j.res (by have := j.lt; omega), ht.blk j.loc (by have := j.lt; omega), j.lt⟩
theorem Loc.put (j : Loc w w' g s p b T Z C) (i : Nat) (v : Value) (C' : Array Value) (hC : C.setIfInBounds i v = C') : Loc w (w'.setCell ⟨w.heap.size + 1, i, none⟩ v) g s p b T Z C' :=
  ⟨j.rd.other (by have := j.lt; omega) i v, j.tg.setNew (by omega) i v, j.res.other (by omega) i v, by rw [← hC]; exact j.loc.set i v, j.lt⟩
theorem Loc.give (j : Loc w w' g s p b T Z C) (i : Nat) (v : Value) (Z' : Array Value) (hC : Z.setIfInBounds i v = Z') : Loc w (w'.setCell ⟨w.heap.size, i, none⟩ v) g s p b T Z' C :=
  ⟨j.rd.other (by have := j.lt; omega) i v, j.tg.setNew (by omega) i v, by rw [← hC]; exact j.res.set i v, j.loc.other (by omega) i v, j.lt⟩
theorem Loc.bad (j : Loc w w' g s p b T Z C) : Loc w (w'.setCell ⟨g, 2, none⟩ (.bool true)) g s p true T Z C := j.step j.rd.setBad.1 j.rd.setBad.2
theorem Loc.start (h : RD w g s p b) (T : TypeId) (Z : Array Value) : Loc w ((w.alloc (.cells Z T)).alloc (.cells Z T)) g s p b T Z Z := by
  have e1 : (w.alloc (.cells Z T)).heap.size = w.heap.size + 1 := by simp
  refine ⟨h.below (lay (lay (Below.refl _ _) _) _), Turn.of_below (lay (lay (Below.refl _ _) _) _), (Blk.new w _ _).alloc _, ?_, h.1.lt⟩
  have := Blk.new (w.alloc (.cells Z T)) Z T
  rw [e1] at this; exact this
end

/-- A question, with the three steps of its reading. -/
theorem q_fin {s : ByteArray} {p p1 p2 p3 q1 q2 q3 : Nat} {N : ByteArray} {E1 E2 E3 x y : Int} (_hp : p ≤ s.size)
    (h1 : (E1 = 0 ∧ nameOf s.data.toList p = some (N.data.toList, q1)) ∨ (E1 ≠ 0 ∧ nameOf s.data.toList p = none)) (e1 : p1 = if E1 = 0 then q1 else p)
    (h2 : NumR s p1 2 x E2 q2) (e2 : p2 = if E2 = 0 then q2 else p1) (h3 : NumR s p2 2 y E3 q3) (e3 : p3 = if E3 = 0 then q3 else p2) :
    (x ≠ 0 → ((((false || !(E1 == 0)) || !(E2 == 0)) || !(E3 == 0)) = false ∧ getQ s p = some (⟨N, x, y⟩, p3)) ∨ ((((false || !(E1 == 0)) || !(E2 == 0)) || !(E3 == 0)) = true ∧ getQ s p = none)) ∧ (x = 0 → getQ s p = none) := by
  unfold getQ
  rcases h1 with ⟨rfl, h1⟩ | ⟨n1, h1⟩
  · rw [if_pos rfl] at e1
    subst e1
    rw [h1]
    simp only
    rcases h2.2 with ⟨rfl, a2, rfl, rfl⟩ | ⟨n2, a2, rfl⟩
    · rw [if_pos rfl] at e2
      subst e2
      rcases h3.2 with ⟨rfl, a3, rfl, rfl⟩ | ⟨n3, a3, rfl⟩
      · rw [if_pos rfl] at e3
        subst e3
        refine ⟨fun hx => .inl ⟨rfl, ?_⟩, fun hx => ?_⟩
        · rw [if_pos ⟨by omega, hx⟩, arr_list]
        · rw [if_neg (fun h => h.2 hx)]
      · exact ⟨fun hx => .inr ⟨by simp [n3], by rw [if_neg (by omega)]⟩, fun hx => by rw [if_neg (by omega)]⟩
    · exact ⟨fun hx => absurd rfl hx, fun _ => by rw [if_neg (by omega)]⟩
  · rw [h1]
    exact ⟨fun _ => .inr ⟨by simp [n1], rfl⟩, fun _ => rfl⟩

set_option maxRecDepth 20000 in
set_option maxHeartbeats 1000000 in
theorem question_r {w : World} {g : Nat} {s : ByteArray} {p : Nat} (hs : s.size ≤ 4096) (h : RD w g s p false) :
    Calls Try.prog 13 #[.pointer (some ⟨g, 0, none⟩)] w fun e w' => ∃ (q : Qn) (p' : Nat) (b' : Bool), e = .returned (.agg #[.string q.n, .int .i64 q.t, .int .i64 q.c]) ∧ RD w' g s p' b' ∧ TG g w w' ∧ ((b' = false ∧ getQ s p = some (q, p')) ∨ (b' = true ∧ getQ s p = none)) := by
  have j := Loc.start h 38 #[.string ⟨#[]⟩, .int .i64 0, .int .i64 0]
  have HP : Hid (p ≤ s.size) := h.2
  have hlt := h.1.lt
  have t1 : True := trivial
  clear h
  go_enter Try.func13, Try.ntmps13
  go_wp2_with (first
    | (go_at_call 30; obtain ⟨N, E1, q1, hN, cN⟩ := rname_r hs j.rd; have HN : Hid _ := hN; go_must (refine cN.mono ?_); rintro e w1 ⟨rfl, h1, u1⟩; obtain ⟨p1, e1⟩ : ∃ p1, p1 = if E1 = 0 then q1 else p := ⟨_, rfl⟩; rw [← e1] at h1; have HE1 : Hid (p1 = if E1 = 0 then q1 else p) := e1; replace j := j.step h1 u1; clear h1 u1 e1 cN hN; have fz := j.loc.frozen 0; have cl : w1.cell? ⟨w.heap.size + 1, 0, none⟩ = some (.string ⟨#[]⟩) := j.loc.cell 0)
    | (go_at_call 31; have _t := t1; replace j := j.put 0 (.string N) _ rfl; obtain ⟨x, E2, q2, hN2, cN⟩ := num16_r hs j.rd; have HN2 : Hid _ := hN2; go_must (refine cN.mono ?_); rintro e w2 ⟨rfl, h1, u1⟩; obtain ⟨p2, e2⟩ : ∃ p2, p2 = if E2 = 0 then q2 else p1 := ⟨_, rfl⟩; rw [← e2] at h1; have HE2 : Hid (p2 = if E2 = 0 then q2 else p1) := e2; replace j := j.step h1 u1; clear h1 u1 e2 cN hN2 fz cl t1 _t; have fz := j.loc.frozen 1; have cl : w2.cell? ⟨w.heap.size + 1, 1, none⟩ = some (.int .i64 0) := j.loc.cell 1)
    | (go_at_call 31; replace j := j.put 1 (.int .i64 x) _ rfl; obtain ⟨y, E3, q3, hN3, cN⟩ := num16_r hs j.rd; have HN3 : Hid _ := hN3; go_must (refine cN.mono ?_); rintro e w3 ⟨rfl, h1, u1⟩; obtain ⟨p3, e3⟩ : ∃ p3, p3 = if E3 = 0 then q3 else p2 := ⟨_, rfl⟩; rw [← e3] at h1; have HE3 : Hid (p3 = if E3 = 0 then q3 else p2) := e3; replace j := j.step h1 u1; clear h1 u1 e3 cN hN3 fz cl; have fz := j.loc.frozen 2; have cl : w3.cell? ⟨w.heap.size + 1, 2, none⟩ = some (.int .i64 0) := j.loc.cell 2; have cl1 : w3.cell? ⟨w.heap.size + 1, 1, none⟩ = some (.int .i64 x) := j.loc.cell 1; have HF : Hid _ := q_fin HP.out HN.out HE1.out HN2.out HE2.out HN3.out HE3.out; have cl0 : w3.cell? ⟨w.heap.size + 1, 0, none⟩ = some (.string N) := j.loc.cell 0; have r0 : w3.cell? ⟨w.heap.size, 0, none⟩ = some (.string ⟨#[]⟩) := j.res.cell 0; have r1 : w3.cell? ⟨w.heap.size, 1, none⟩ = some (.int .i64 0) := j.res.cell 1; have r2 : w3.cell? ⟨w.heap.size, 2, none⟩ = some (.int .i64 0) := j.res.cell 2; have y0 := j.res.frozen 0; have y1 := j.res.frozen 1; have y2 := j.res.frozen 2; have gb := j.rd.cells.2.2; have gf := j.rd.1.frozen 2; clear HP HN HE1 HN2 HE2 HN3 HE3))
  · rename_i hx0
    have hx : x = 0 := by simpa using hx0
    have j1 := (((((j.put 2 (.int .i64 y) _ rfl).bad).give 0 (.string N) _ rfl).give 1 (.int .i64 x) _ rfl).give 2 (.int .i64 y) _ rfl)
    have m0 := j1.res.cell 0
    have m1 := j1.res.cell 1
    have m2 := j1.res.cell 2
    refine bodyPost_ret (v := .agg #[.string N, .int .i64 x, .int .i64 y]) (by simp [results, Try.results13, go_sem, m0, m1, m2]) rfl ⟨⟨N, x, y⟩, _, _, rfl, j1.rd, j1.tg, .inr ⟨rfl, HF.out.2 hx⟩⟩
  · rename_i hx0
    have hx : x ≠ 0 := by simpa using hx0
    have j1 := ((((j.put 2 (.int .i64 y) _ rfl).give 0 (.string N) _ rfl).give 1 (.int .i64 x) _ rfl).give 2 (.int .i64 y) _ rfl)
    have m0 := j1.res.cell 0
    have m1 := j1.res.cell 1
    have m2 := j1.res.cell 2
    refine bodyPost_ret (v := .agg #[.string N, .int .i64 x, .int .i64 y]) (by simp [results, Try.results13, go_sem, m0, m1, m2]) rfl ⟨⟨N, x, y⟩, _, _, rfl, j1.rd, j1.tg, HF.out.1 hx⟩

/-- A record, with the five steps of its reading. -/
theorem r_fin {s : ByteArray} {p p1 p2 p3 p4 p5 q1 q2 q3 q4 : Nat} {N D : ByteArray} {E1 E2 E3 E4 x y l : Int} {b' : Bool}
    (h1 : (E1 = 0 ∧ nameOf s.data.toList p = some (N.data.toList, q1)) ∨ (E1 ≠ 0 ∧ nameOf s.data.toList p = none)) (e1 : p1 = if E1 = 0 then q1 else p)
    (h2 : NumR s p1 2 x E2 q2) (e2 : p2 = if E2 = 0 then q2 else p1) (h3 : NumR s p2 2 y E3 q3) (e3 : p3 = if E3 = 0 then q3 else p2) (h4 : NumR s p3 4 l E4 q4) (e4 : p4 = if E4 = 0 then q4 else p3)
    (h5 : DatR s p4 x D (((((false || !(E1 == 0)) || !(E2 == 0)) || !(E3 == 0))) || !(E4 == 0)) b' p5) :
    (b' = false ∧ getR s p = some (⟨N, x, y, l, D⟩, p5)) ∨ (b' = true ∧ getR s p = none) := by
  have hbad : (((((false || !(E1 == 0)) || !(E2 == 0)) || !(E3 == 0))) || !(E4 == 0)) = true → b' = true := fun h => by
    rcases h5.2 with ⟨a, _⟩ | ⟨a, _⟩
    · rw [a, h]
    · exact a
  unfold getR
  rcases h1 with ⟨rfl, h1⟩ | ⟨n1, h1⟩
  · rw [if_pos rfl] at e1
    subst e1
    rw [h1]
    simp only
    rcases h2.2 with ⟨rfl, a2, rfl, rfl⟩ | ⟨n2, a2, rfl⟩
    · rw [if_pos rfl] at e2
      subst e2
      rcases h3.2 with ⟨rfl, a3, rfl, rfl⟩ | ⟨n3, a3, rfl⟩
      · rw [if_pos rfl] at e3
        subst e3
        rcases h4.2 with ⟨rfl, a4, rfl, rfl⟩ | ⟨n4, a4, rfl⟩
        · rw [if_pos rfl] at e4
          subst e4
          have f1 : p1 + 2 + 2 + 4 = p1 + 8 := by omega
          have f2 : p1 + 2 + 2 = p1 + 4 := by omega
          have f3 : p1 + 8 + 2 = p1 + 10 := by omega
          rw [f1] at h5
          rw [f2]
          unfold DatR at h5
          rw [f3] at h5
          rcases h5.2 with ⟨hb, a5, a6, rfl⟩ | ⟨hb, a5⟩
          · left
            refine ⟨hb, ?_⟩
            rw [if_pos a5, a6, arr_list]
          · right
            refine ⟨hb, ?_⟩
            rcases a5 with a5 | a5
            · rw [if_neg (by omega)]
            · split
              · rw [a5]
              · rfl
        · exact .inr ⟨hbad (by simp [n4]), by rw [if_neg (by omega)]⟩
      · exact .inr ⟨hbad (by simp [n3]), by rw [if_neg (by omega)]⟩
    · exact .inr ⟨hbad (by simp [n2]), by rw [if_neg (by omega)]⟩
  · rw [h1]
    exact .inr ⟨hbad (by simp [n1]), rfl⟩

set_option maxRecDepth 20000 in
set_option maxHeartbeats 2000000 in
theorem record_r {w : World} {g : Nat} {s : ByteArray} {p : Nat} (hs : s.size ≤ 4096) (h : RD w g s p false) :
    Calls Try.prog 15 #[.pointer (some ⟨g, 0, none⟩)] w fun e w' => ∃ (r : Rc) (p' : Nat) (b' : Bool), e = .returned (.agg #[.string r.n, .int .i64 r.t, .int .i64 r.c, .int .i64 r.l, .string r.d]) ∧ RD w' g s p' b' ∧ TG g w w' ∧ ((b' = false ∧ getR s p = some (r, p')) ∨ (b' = true ∧ getR s p = none)) := by
  have j := Loc.start h 25 #[.string ⟨#[]⟩, .int .i64 0, .int .i64 0, .int .i64 0, .string ⟨#[]⟩]
  have hlt := h.1.lt
  have t1 : True := trivial
  have t2 : True := trivial
  clear h
  go_enter Try.func15, Try.ntmps15
  go_wp2_with (first
    | (go_at_call 30; obtain ⟨N, E1, q1, hN, cN⟩ := rname_r hs j.rd; have HN : Hid _ := hN; go_must (refine cN.mono ?_); rintro e w1 ⟨rfl, h1, u1⟩; obtain ⟨p1, e1⟩ : ∃ p1, p1 = if E1 = 0 then q1 else p := ⟨_, rfl⟩; rw [← e1] at h1; have HE1 : Hid (p1 = if E1 = 0 then q1 else p) := e1; replace j := j.step h1 u1; clear h1 u1 e1 cN hN; have fz := j.loc.frozen 0; have cl : w1.cell? ⟨w.heap.size + 1, 0, none⟩ = some (.string ⟨#[]⟩) := j.loc.cell 0)
    | (go_at_call 31; have _t := t1; replace j := j.put 0 (.string N) _ rfl; obtain ⟨x, E2, q2, hN2, cN⟩ := num16_r hs j.rd; have HN2 : Hid _ := hN2; go_must (refine cN.mono ?_); rintro e w2 ⟨rfl, h1, u1⟩; obtain ⟨p2, e2⟩ : ∃ p2, p2 = if E2 = 0 then q2 else p1 := ⟨_, rfl⟩; rw [← e2] at h1; have HE2 : Hid (p2 = if E2 = 0 then q2 else p1) := e2; replace j := j.step h1 u1; clear h1 u1 e2 cN hN2 fz cl t1 _t; have fz := j.loc.frozen 1; have cl : w2.cell? ⟨w.heap.size + 1, 1, none⟩ = some (.int .i64 0) := j.loc.cell 1)
    | (go_at_call 31; have _t := t2; replace j := j.put 1 (.int .i64 x) _ rfl; obtain ⟨y, E3, q3, hN3, cN⟩ := num16_r hs j.rd; have HN3 : Hid _ := hN3; go_must (refine cN.mono ?_); rintro e w3 ⟨rfl, h1, u1⟩; obtain ⟨p3, e3⟩ : ∃ p3, p3 = if E3 = 0 then q3 else p2 := ⟨_, rfl⟩; rw [← e3] at h1; have HE3 : Hid (p3 = if E3 = 0 then q3 else p2) := e3; replace j := j.step h1 u1; clear h1 u1 e3 cN hN3 fz cl t2 _t; have fz := j.loc.frozen 2; have cl : w3.cell? ⟨w.heap.size + 1, 2, none⟩ = some (.int .i64 0) := j.loc.cell 2)
    | (go_at_call 31; replace j := j.put 2 (.int .i64 y) _ rfl; obtain ⟨l, E4, q4, hN4, cN⟩ := num32_r hs j.rd; have HN4 : Hid _ := hN4; go_must (refine cN.mono ?_); rintro e w4 ⟨rfl, h1, u1⟩; obtain ⟨p4, e4⟩ : ∃ p4, p4 = if E4 = 0 then q4 else p3 := ⟨_, rfl⟩; rw [← e4] at h1; have HE4 : Hid (p4 = if E4 = 0 then q4 else p3) := e4; replace j := j.step h1 u1; clear h1 u1 e4 cN hN4 fz cl; have fz := j.loc.frozen 3; have cl : w4.cell? ⟨w.heap.size + 1, 3, none⟩ = some (.int .i64 0) := j.loc.cell 3; have cl1 : w4.cell? ⟨w.heap.size + 1, 1, none⟩ = some (.int .i64 x) := j.loc.cell 1)
    | (go_at_call 33; replace j := j.put 3 (.int .i64 l) _ rfl; obtain ⟨D, b', p', hD, cN⟩ := data_r x hs j.rd; have HF : Hid _ := r_fin HN.out HE1.out HN2.out HE2.out HN3.out HE3.out HN4.out HE4.out hD; go_must (refine cN.mono ?_); rintro e w5 ⟨rfl, h1, u1⟩; replace j := j.step h1 u1; clear h1 u1 cN hD fz cl cl1 HN HE1 HN2 HE2 HN3 HE3 HN4 HE4; have fz := j.loc.frozen 4; have cl : w5.cell? ⟨w.heap.size + 1, 4, none⟩ = some (.string ⟨#[]⟩) := j.loc.cell 4; have cl0 : w5.cell? ⟨w.heap.size + 1, 0, none⟩ = some (.string N) := j.loc.cell 0; have cl1 : w5.cell? ⟨w.heap.size + 1, 1, none⟩ = some (.int .i64 x) := j.loc.cell 1; have cl2 : w5.cell? ⟨w.heap.size + 1, 2, none⟩ = some (.int .i64 y) := j.loc.cell 2; have cl3 : w5.cell? ⟨w.heap.size + 1, 3, none⟩ = some (.int .i64 l) := j.loc.cell 3; have r0 : w5.cell? ⟨w.heap.size, 0, none⟩ = some (.string ⟨#[]⟩) := j.res.cell 0; have r1 : w5.cell? ⟨w.heap.size, 1, none⟩ = some (.int .i64 0) := j.res.cell 1; have r2 : w5.cell? ⟨w.heap.size, 2, none⟩ = some (.int .i64 0) := j.res.cell 2; have r3 : w5.cell? ⟨w.heap.size, 3, none⟩ = some (.int .i64 0) := j.res.cell 3; have r4 : w5.cell? ⟨w.heap.size, 4, none⟩ = some (.string ⟨#[]⟩) := j.res.cell 4; have y0 := j.res.frozen 0; have y1 := j.res.frozen 1; have y2 := j.res.frozen 2; have y3 := j.res.frozen 3; have y4 := j.res.frozen 4))
  have j1 := ((((((j.put 4 (.string D) _ rfl).give 0 (.string N) _ rfl).give 1 (.int .i64 x) _ rfl).give 2 (.int .i64 y) _ rfl).give 3 (.int .i64 l) _ rfl).give 4 (.string D) _ rfl)
  have m0 := j1.res.cell 0
  have m1 := j1.res.cell 1
  have m2 := j1.res.cell 2
  have m3 := j1.res.cell 3
  have m4 := j1.res.cell 4
  refine bodyPost_ret (v := .agg #[.string N, .int .i64 x, .int .i64 y, .int .i64 l, .string D]) (by simp [results, Try.results15, go_sem, m0, m1, m2, m3, m4]) rfl ⟨⟨N, x, y, l, D⟩, _, _, rfl, j1.rd, j1.tg, HF.out⟩

end Go.Proofs.Ytdogjbblnjjaaab
