/- RdataBack holds: what is put together may be, and comes apart again. -/
import Derived.Test.YtoeaogbeifkliaaRdH
namespace Go.Proofs.Ytoeaogbeifkliaa.rdataBack
open Go.ChangeShapes Go.WideShapes Go.ChangeAt Go.RowKit
open Go.ChangeMaps (open_string shut_string)
open Pl

/-- A call of a function gives a value, and lays new blocks alone. -/
def Lays (f : Nat) (args : Array Value) (v : Value) : Prop := ∀ w, Calls Try.prog f args w fun e w' => e = .returned v ∧ Below w.heap.size w w'
theorem Lays.of_drew {f : Nat} {args : Array Value} {v : Value} (h : ∀ w, Calls Try.prog f args w fun e w' => e = .returned v ∧ ∃ m, w' = w.drewN m) : Lays f args v :=
  fun w => (h w).mono fun _ _ ⟨h1, h2⟩ => ⟨h1, below_drew h2⟩

theorem part1 (R : Int) (h0 : 0 ≤ R) (h1 : R < 4294967296) : ∃ F : ByteArray, Lays 8 #[.int .i64 R] (.tuple #[.string F, .int .i64 0]) ∧ Lays 10 #[.string F] (.tuple #[.int .i64 R, .int .i64 0]) ∧ Lays 17 #[.int .i64 1, .string F] (.bool true) := by
  refine ⟨be4 R, fun w => a_yes R w (by unfold inB; rw [decide_eq_true_iff]; omega), .of_drew fun w => ?_, .of_drew fun w => may4_as 1 _ true w (max9 (by rw [size4]; omega)) (by rw [may_1, data_len, size4]; rfl)⟩
  have this : Calls Try.prog 10 #[.string (be4 R)] w fun e w' => e = .returned (.tuple #[.int .i64 (four (oct R 16777216) (oct R 65536) (oct R 256) (oct R 1)), .int .i64 0]) ∧ ∃ m, w' = w.drewN m := addr_yes (be4 R) w rfl
  rw [four_be, show R % 4294967296 = R from by omega] at this
  exact this

theorem mx_list (P : Int) (h : ByteArray) : (be2 P ++ h).data.toList.drop 2 = h.data.toList := by rw [app_list]; rfl
theorem mx_ext (P : Int) (h : ByteArray) : (be2 P ++ h).extract 2 (be2 P ++ h).size = h := by
  apply ByteArray.ext; apply Array.toList_inj.1
  rw [ext_from, mx_list]
theorem part2 (P : Int) (h : ByteArray) (hs : h.size ≤ maxLen) (h0 : 0 ≤ P) (h1 : P < 65536) :
    (isName h.data.toList = true ∧ ∃ m : ByteArray, Lays 12 #[.int .i64 P, .string h] (.tuple #[.string m, .int .i64 0]) ∧ Lays 14 #[.int .i64 15, .string m] (.tuple #[.string h, .int .i64 0]) ∧ Lays 14 #[.int .i64 2, .string h] (.tuple #[.string h, .int .i64 0]) ∧ Lays 17 #[.int .i64 15, .string m] (.bool true) ∧ Lays 17 #[.int .i64 5, .string h] (.bool true)) ∨
    (isName h.data.toList = false ∧ Lays 12 #[.int .i64 P, .string h] (.tuple #[.string ⟨#[]⟩, .int .i64 400])) := by
  have hin : inB 65535 P = true := by unfold inB; rw [decide_eq_true_iff]; omega
  cases hn : isName h.data.toList with
  | false => exact .inr ⟨rfl, fun w => mx_no P h w hs (by rw [hn]; simp)⟩
  | true =>
    have hz := name_size hn
    have hz2 := name_ne hn
    rw [data_len] at hz2
    have hm : (be2 P ++ h).size ≤ maxLen := by rw [ByteArray.size_append]; have : (be2 P).size = 2 := rfl; unfold maxLen; omega
    have hmay : mayD 15 (be2 P ++ h).data.toList = true := by
      rw [may_15, mx_list, hn, data_len, ByteArray.size_append]; have : (be2 P).size = 2 := rfl; simp; omega
    refine .inl ⟨rfl, be2 P ++ h, fun w => mx_yes P h w hin hn, fun w => ?_, fun w => ?_, .of_drew fun w => may4_as 15 _ true w hm hmay, .of_drew fun w => may4_as 5 h true w hs ((may_n (by omega) _).trans hn)⟩
    · have := host_any 15 (be2 P ++ h) w hm
      rw [show hostD 15 (be2 P ++ h) = some h from by unfold hostD; rw [if_neg (by omega), if_pos rfl, if_pos hmay, mx_ext]] at this
      exact this
    · have := host_any 2 h w hs
      rw [show hostD 2 h = some h from by unfold hostD; rw [if_pos (by omega), if_pos hn]] at this
      exact this

/-- A number's four bytes, read. -/
theorem val_at (s : ByteArray) (k : Nat) (x : Int) (post : List UInt8) (h : s.data.toList.drop k = (be4 x).data.toList ++ post) (h0 : 0 ≤ x) (h1 : x < 4294967296) : val s k 4 = x := by
  have g : ∀ i, s.data.toList.getD (k + i) 0 = ((be4 x).data.toList ++ post).getD i 0 := fun i => by
    rw [← h, List.getD_eq_getElem?_getD, List.getD_eq_getElem?_getD, List.getElem?_drop]
  have e0 := g 0
  have e1 := g 1
  have e2 := g 2
  have e3 := g 3
  have f0 : ((be4 x).data.toList ++ post).getD 0 0 = oct x 16777216 := rfl
  have f1 : ((be4 x).data.toList ++ post).getD 1 0 = oct x 65536 := rfl
  have f2 : ((be4 x).data.toList ++ post).getD 2 0 = oct x 256 := rfl
  have f3 : ((be4 x).data.toList ++ post).getD 3 0 = oct x 1 := rfl
  unfold val val val val val
  rw [e0, e1, e2, e3, f0, f1, f2, f3, oct_nat, oct_nat, oct_nat, oct_nat]
  omega

theorem soa_list (h m : ByteArray) (a b c d e : Int) : (soaS h m a b c d e 5).data.toList = h.data.toList ++ (m.data.toList ++ ((be4 a).data.toList ++ ((be4 b).data.toList ++ ((be4 c).data.toList ++ ((be4 d).data.toList ++ (be4 e).data.toList))))) := by
  show (h ++ m ++ be4 a ++ be4 b ++ be4 c ++ be4 d ++ be4 e).data.toList = _
  simp only [app_list, List.append_assoc]
theorem four_len (x : Int) : (be4 x).data.toList.length = 4 := rfl
theorem drop_past {l a r : List UInt8} {k : Nat} (h : l.drop k = a ++ r) (n : Nat) (hn : a.length = n) : l.drop (k + n) = r := by
  rw [← List.drop_drop, h, ← hn, List.drop_left]

theorem part3 (h m : ByteArray) (a b c d e : Int) (s1 : h.size ≤ maxLen) (s2 : m.size ≤ maxLen) :
    (∃ s : ByteArray, s.size + 1 ≤ 1000 ∧ Lays 19 #[.agg (soaV h m a b c d e)] (.tuple #[.string s, .int .i64 0]) ∧ Lays 21 #[.string s] (.tuple #[.agg (soaV h m a b c d e), .int .i64 0]) ∧ Lays 17 #[.int .i64 6, .string s] (.bool true) ∧ Lays 17 #[.int .i64 6, .string (s ++ ⟨#[97]⟩)] (.bool false)) ∨
    Lays 19 #[.agg (soaV h m a b c d e)] (.tuple #[.string ⟨#[]⟩, .int .i64 400]) := by
  cases hv : (isName h.data.toList && isName m.data.toList && allIn 4294967295 [a, b, c, d, e]) with
  | false => exact .inr fun w => soa_no h m a b c d e w s1 s2 hv
  | true =>
    rw [Bool.and_eq_true, Bool.and_eq_true] at hv
    obtain ⟨⟨hh, hm⟩, hz⟩ := hv
    have z1 := name_size hh
    have z2 := name_size hm
    have hall : (0 ≤ a ∧ a < 4294967296) ∧ (0 ≤ b ∧ b < 4294967296) ∧ (0 ≤ c ∧ c < 4294967296) ∧ (0 ≤ d ∧ d < 4294967296) ∧ (0 ≤ e ∧ e < 4294967296) := by
      simp [allIn] at hz; omega
    obtain ⟨ha, hb, hc, hd, he⟩ := hall
    have hl := soa_list h m a b c d e
    have hsz : (soaS h m a b c d e 5).size = h.size + m.size + 20 := by
      rw [← data_len, hl]; simp only [List.length_append, data_len, size4]; omega
    have hsoa : soaL (soaS h m a b c d e 5).data.toList = some (h.size, m.size) := by
      rw [hl, soa_names hh hm, if_pos (by simp only [List.length_append, data_len, size4]), data_len, data_len]
    have hsoa2 : soaL (soaS h m a b c d e 5 ++ (⟨#[97]⟩ : ByteArray)).data.toList = none := by
      rw [app_list, hl, List.append_assoc, List.append_assoc, soa_names hh hm, if_neg]
      simp only [List.length_append, data_len, size4]
      decide
    obtain ⟨S, hS⟩ : ∃ S, S = soaS h m a b c d e 5 := ⟨_, rfl⟩
    rw [← hS] at hl hsz hsoa hsoa2
    have hmx : S.size ≤ maxLen := by unfold maxLen; omega
    refine .inl ⟨S, by omega, fun w => ?_, fun w => ?_, .of_drew fun w => may4_as 6 S true w hmx (by rw [may_6, hsoa]; rfl), .of_drew fun w => may4_as 6 _ false w (by rw [ByteArray.size_append]; have : (⟨#[97]⟩ : ByteArray).size = 1 := rfl; unfold maxLen; omega) (by rw [may_6, hsoa2]; rfl)⟩
    · rw [hS]; exact soa_yes h m a b c d e w hh hm hz
    · have hu := unsoa_yes S h.size m.size (h.size + m.size) w hmx hsoa rfl
      have d0 : S.data.toList.drop 0 = h.data.toList ++ (m.data.toList ++ ((be4 a).data.toList ++ ((be4 b).data.toList ++ ((be4 c).data.toList ++ ((be4 d).data.toList ++ (be4 e).data.toList))))) := hl
      have d1 := drop_past d0 h.size (data_len h)
      have d2 := drop_past d1 m.size (data_len m)
      have d3 := drop_past d2 4 (four_len a)
      have d4 := drop_past d3 4 (four_len b)
      have d5 := drop_past d4 4 (four_len c)
      have d6 := drop_past d5 4 (four_len d)
      rw [Nat.zero_add] at d1 d2 d3 d4 d5 d6
      have x1 : S.extract 0 h.size = h := by
        apply ByteArray.ext; apply Array.toList_inj.1
        rw [ext_to, hl, ← data_len h, List.take_left]
      have x2 : (S.extract h.size S.size).extract 0 m.size = m := by
        apply ByteArray.ext; apply Array.toList_inj.1
        rw [ext_to, ext_from, d1, ← data_len m, List.take_left]
      have v1 := val_at S _ a _ d2 ha.1 ha.2
      have v2 := val_at S _ b _ d3 hb.1 hb.2
      have v3 := val_at S _ c _ d4 hc.1 hc.2
      have v4 := val_at S _ d _ d5 hd.1 hd.2
      have v5 := val_at S _ e [] (by rw [List.append_nil]; exact d6) he.1 he.2
      rw [x1, x2, v1, v2, show h.size + m.size + 8 = h.size + m.size + 4 + 4 from rfl, v3, show h.size + m.size + 12 = h.size + m.size + 4 + 4 + 4 from rfl, v4, show h.size + m.size + 16 = h.size + m.size + 4 + 4 + 4 + 4 from rfl, v5] at hu
      exact hu

theorem tq_txO (p : ByteArray) (r : List UInt8) (hp : p.size ≤ 255) : tq 0 (txO p ++ r) = tq 0 r := by
  have hb : (UInt8.ofNat p.size).toNat = p.size := by rw [UInt8.toNat_ofNat']; omega
  show tq (UInt8.ofNat p.size).toNat (p.data.toList ++ r) = tq 0 r
  rw [hb, tq_drop, if_pos (by rw [List.length_append, data_len]; omega), ← data_len p, List.drop_left]
theorem tq_txE (ps : List ByteArray) (h : ∀ k, k < ps.length → (ps.getD k ⟨#[]⟩).size ≤ 255) : tq 0 (txE ps) = true := by
  induction ps with
  | nil => rfl
  | cons p ps ih =>
    have e : txE (p :: ps) = txO p ++ txE ps := by simp [txE]
    rw [e, tq_txO p _ (h 0 (by simp))]
    exact ih fun k hk => h (k + 1) (by simpa using hk)
theorem part4 (v : Value) (ps : List ByteArray) :
    (∃ T : ByteArray, (∀ w, SRow w v ps → Calls Try.prog 24 #[v] w fun e w' => e = .returned (.tuple #[.string T, .int .i64 0]) ∧ Below w.heap.size w w') ∧ Lays 17 #[.int .i64 16, .string T] (.bool true)) ∨
    (∀ w, SRow w v ps → Calls Try.prog 24 #[v] w fun e w' => e = .returned (.tuple #[.string ⟨#[]⟩, .int .i64 400]) ∧ Below w.heap.size w w') := by
  by_cases h : (∀ k, k < ps.length → (ps.getD k ⟨#[]⟩).size ≤ 255) ∧ 1 ≤ ps.length ∧ (txE ps).length ≤ 65535
  · have hT : txtB ps = some ⟨(txE ps).toArray⟩ := if_pos h
    have hge := txE_ge ps
    refine .inl ⟨⟨(txE ps).toArray⟩, fun w hw => ?_, .of_drew fun w => may4_as 16 _ true w (by show (txE ps).toArray.size ≤ maxLen; unfold maxLen; simp; omega) ?_⟩
    · have := txt_any v ps w hw
      rw [hT] at this
      exact this
    · rw [may_16]
      show (decide ((txE ps).length ≤ 65535) && texts (txE ps)) = true
      unfold texts
      rw [tq_txE ps h.1]
      simp; omega
  · have hT : txtB ps = none := if_neg h
    refine .inr fun w hw => ?_
    have := txt_any v ps w hw
    rw [hT] at this
    exact this

set_option maxRecDepth 20000 in
set_option maxHeartbeats 4000000 in
theorem walk_x (x R P : Int) (host h m : ByteArray) (a b c d f : Int) (v : Value) (ps : List ByteArray) (w : World) (hs : host.size ≤ maxLen) (s1 : h.size ≤ maxLen) (s2 : m.size ≤ maxLen) (hr : SRow w v ps) (hR : bits .and .i64 x 4294967295 = R) (r0 : 0 ≤ R) (r1 : R < 4294967296) (hP : bits .and .i64 x 65535 = P) (p0 : 0 ≤ P) (p1 : P < 65536) :
    Calls Try.prog 4 #[.int .i64 x, .string host, .agg (soaV h m a b c d f), v] w fun e w' => e = .returned (.bool true) ∧ Below w.heap.size w w' := by
  obtain ⟨F, q1, q2, q3⟩ := part1 R r0 r1
  have p2 := part2 P host hs p0 p1
  have p3 := part3 h m a b c d f s1 s2
  have p4 := part4 v ps
  simp only [soaV] at p3
  unfold soaV
  have hb : Below w.heap.size w w := Below.refl _ _
  go_enter Try.func4, Try.ntmps4
  go_wp2_with (first
    | (go_at_call 27; go_must (refine (awake_any _).mono ?_); rintro e wn ⟨rfl, b1⟩; have kb : Blk wn w.heap.size #[.string h, .string m, .int .i64 a, .int .i64 b, .int .i64 c, .int .i64 d, .int .i64 f] 23 := (Blk.new w _ _).below b1; replace hb := next (lay hb _) b1; (try clear g0 g1 g2 g3 g4 g5 g6 klt); obtain ⟨g0, g1, g2, g3, g4, g5, g6⟩ := Blk.seven (h := h) (m := m) (a := a) (b := b) (c := c) (d := d) (e := f) kb; have klt := kb.lt; clear b1)
    | (go_at_call 8; go_must (refine (q1 _).mono ?_); rintro e wn ⟨rfl, b1⟩; replace kb := (by first | exact kb.below b1 | exact (kb.alloc _).below b1 : Blk wn w.heap.size #[.string h, .string m, .int .i64 a, .int .i64 b, .int .i64 c, .int .i64 d, .int .i64 f] 23); replace hb := (by first | exact next hb b1 | exact next (lay hb _) b1 : Below w.heap.size w wn); (try clear g0 g1 g2 g3 g4 g5 g6 klt); obtain ⟨g0, g1, g2, g3, g4, g5, g6⟩ := Blk.seven (h := h) (m := m) (a := a) (b := b) (c := c) (d := d) (e := f) kb; have klt := kb.lt; clear b1)
    | (go_at_call 10; go_must (refine (q2 _).mono ?_); rintro e wn ⟨rfl, b1⟩; replace kb := (by first | exact kb.below b1 | exact (kb.alloc _).below b1 : Blk wn w.heap.size #[.string h, .string m, .int .i64 a, .int .i64 b, .int .i64 c, .int .i64 d, .int .i64 f] 23); replace hb := (by first | exact next hb b1 | exact next (lay hb _) b1 : Below w.heap.size w wn); (try clear g0 g1 g2 g3 g4 g5 g6 klt); obtain ⟨g0, g1, g2, g3, g4, g5, g6⟩ := Blk.seven (h := h) (m := m) (a := a) (b := b) (c := c) (d := d) (e := f) kb; have klt := kb.lt; clear b1)
    | (go_at_call_of 17 (#[Value.int IntKind.i64 1, Value.string F]); go_must (refine (q3 _).mono ?_); rintro e wn ⟨rfl, b1⟩; replace kb := (by first | exact kb.below b1 | exact (kb.alloc _).below b1 : Blk wn w.heap.size #[.string h, .string m, .int .i64 a, .int .i64 b, .int .i64 c, .int .i64 d, .int .i64 f] 23); replace hb := (by first | exact next hb b1 | exact next (lay hb _) b1 : Below w.heap.size w wn); (try clear g0 g1 g2 g3 g4 g5 g6 klt); obtain ⟨g0, g1, g2, g3, g4, g5, g6⟩ := Blk.seven (h := h) (m := m) (a := a) (b := b) (c := c) (d := d) (e := f) kb; have klt := kb.lt; clear b1)
    | (go_at_call 12; rcases p2 with ⟨hn, M, c1, c2, c3, c4, c5⟩ | ⟨hn, c1⟩ <;> (go_must (refine (c1 _).mono ?_); rintro e wn ⟨rfl, b1⟩; replace kb := (by first | exact kb.below b1 | exact (kb.alloc _).below b1 : Blk wn w.heap.size #[.string h, .string m, .int .i64 a, .int .i64 b, .int .i64 c, .int .i64 d, .int .i64 f] 23); replace hb := (by first | exact next hb b1 | exact next (lay hb _) b1 : Below w.heap.size w wn); (try clear g0 g1 g2 g3 g4 g5 g6 klt); obtain ⟨g0, g1, g2, g3, g4, g5, g6⟩ := Blk.seven (h := h) (m := m) (a := a) (b := b) (c := c) (d := d) (e := f) kb; have klt := kb.lt; clear b1))
    | (go_at_call 28; go_must (refine (refMay_as host _ _ hs hn).mono ?_); rintro e wn ⟨rfl, b1⟩; replace kb := (by first | exact kb.below b1 | exact (kb.alloc _).below b1 : Blk wn w.heap.size #[.string h, .string m, .int .i64 a, .int .i64 b, .int .i64 c, .int .i64 d, .int .i64 f] 23); replace hb := (by first | exact next hb b1 | exact next (lay hb _) b1 : Below w.heap.size w wn); (try clear g0 g1 g2 g3 g4 g5 g6 klt); obtain ⟨g0, g1, g2, g3, g4, g5, g6⟩ := Blk.seven (h := h) (m := m) (a := a) (b := b) (c := c) (d := d) (e := f) kb; have klt := kb.lt; clear b1)
    | (go_at_call_of 14 (#[Value.int IntKind.i64 15, Value.string M]); go_must (refine (c2 _).mono ?_); rintro e wn ⟨rfl, b1⟩; replace kb := (by first | exact kb.below b1 | exact (kb.alloc _).below b1 : Blk wn w.heap.size #[.string h, .string m, .int .i64 a, .int .i64 b, .int .i64 c, .int .i64 d, .int .i64 f] 23); replace hb := (by first | exact next hb b1 | exact next (lay hb _) b1 : Below w.heap.size w wn); (try clear g0 g1 g2 g3 g4 g5 g6 klt); obtain ⟨g0, g1, g2, g3, g4, g5, g6⟩ := Blk.seven (h := h) (m := m) (a := a) (b := b) (c := c) (d := d) (e := f) kb; have klt := kb.lt; clear b1)
    | (go_at_call_of 14 (#[Value.int IntKind.i64 2, Value.string host]); go_must (refine (c3 _).mono ?_); rintro e wn ⟨rfl, b1⟩; replace kb := (by first | exact kb.below b1 | exact (kb.alloc _).below b1 : Blk wn w.heap.size #[.string h, .string m, .int .i64 a, .int .i64 b, .int .i64 c, .int .i64 d, .int .i64 f] 23); replace hb := (by first | exact next hb b1 | exact next (lay hb _) b1 : Below w.heap.size w wn); (try clear g0 g1 g2 g3 g4 g5 g6 klt); obtain ⟨g0, g1, g2, g3, g4, g5, g6⟩ := Blk.seven (h := h) (m := m) (a := a) (b := b) (c := c) (d := d) (e := f) kb; have klt := kb.lt; clear b1)
    | (go_at_call_of 17 (#[Value.int IntKind.i64 15, Value.string M]); go_must (refine (c4 _).mono ?_); rintro e wn ⟨rfl, b1⟩; replace kb := (by first | exact kb.below b1 | exact (kb.alloc _).below b1 : Blk wn w.heap.size #[.string h, .string m, .int .i64 a, .int .i64 b, .int .i64 c, .int .i64 d, .int .i64 f] 23); replace hb := (by first | exact next hb b1 | exact next (lay hb _) b1 : Below w.heap.size w wn); (try clear g0 g1 g2 g3 g4 g5 g6 klt); obtain ⟨g0, g1, g2, g3, g4, g5, g6⟩ := Blk.seven (h := h) (m := m) (a := a) (b := b) (c := c) (d := d) (e := f) kb; have klt := kb.lt; clear b1)
    | (go_at_call_of 17 (#[Value.int IntKind.i64 5, Value.string host]); go_must (refine (c5 _).mono ?_); rintro e wn ⟨rfl, b1⟩; replace kb := (by first | exact kb.below b1 | exact (kb.alloc _).below b1 : Blk wn w.heap.size #[.string h, .string m, .int .i64 a, .int .i64 b, .int .i64 c, .int .i64 d, .int .i64 f] 23); replace hb := (by first | exact next hb b1 | exact next (lay hb _) b1 : Below w.heap.size w wn); (try clear g0 g1 g2 g3 g4 g5 g6 klt); obtain ⟨g0, g1, g2, g3, g4, g5, g6⟩ := Blk.seven (h := h) (m := m) (a := a) (b := b) (c := c) (d := d) (e := f) kb; have klt := kb.lt; clear b1)
    | (go_at_call 19; rcases p3 with ⟨S, zS, d1, d2, d3, d4⟩ | d1 <;> (go_must (refine (d1 _).mono ?_); rintro e wn ⟨rfl, b1⟩; replace kb := (by first | exact kb.below b1 | exact (kb.alloc _).below b1 : Blk wn w.heap.size #[.string h, .string m, .int .i64 a, .int .i64 b, .int .i64 c, .int .i64 d, .int .i64 f] 23); replace hb := (by first | exact next hb b1 | exact next (lay hb _) b1 : Below w.heap.size w wn); (try clear g0 g1 g2 g3 g4 g5 g6 klt); obtain ⟨g0, g1, g2, g3, g4, g5, g6⟩ := Blk.seven (h := h) (m := m) (a := a) (b := b) (c := c) (d := d) (e := f) kb; have klt := kb.lt; clear b1))
    | (go_at_call 21; go_must (refine (d2 _).mono ?_); rintro e wn ⟨rfl, b1⟩; replace kb := (by first | exact kb.below b1 | exact (kb.alloc _).below b1 : Blk wn w.heap.size #[.string h, .string m, .int .i64 a, .int .i64 b, .int .i64 c, .int .i64 d, .int .i64 f] 23); replace hb := (by first | exact next hb b1 | exact next (lay hb _) b1 : Below w.heap.size w wn); (try clear g0 g1 g2 g3 g4 g5 g6 klt); obtain ⟨g0, g1, g2, g3, g4, g5, g6⟩ := Blk.seven (h := h) (m := m) (a := a) (b := b) (c := c) (d := d) (e := f) kb; have klt := kb.lt; clear b1)
    | (go_at_call_of 17 (#[Value.int IntKind.i64 6, Value.string S]); go_must (refine (d3 _).mono ?_); rintro e wn ⟨rfl, b1⟩; replace kb := (by first | exact kb.below b1 | exact (kb.alloc _).below b1 : Blk wn w.heap.size #[.string h, .string m, .int .i64 a, .int .i64 b, .int .i64 c, .int .i64 d, .int .i64 f] 23); replace hb := (by first | exact next hb b1 | exact next (lay hb _) b1 : Below w.heap.size w wn); (try clear g0 g1 g2 g3 g4 g5 g6 klt); obtain ⟨g0, g1, g2, g3, g4, g5, g6⟩ := Blk.seven (h := h) (m := m) (a := a) (b := b) (c := c) (d := d) (e := f) kb; have klt := kb.lt; clear b1)
    | (go_at_call_of 17 (#[Value.int IntKind.i64 6, Value.string (S ++ (⟨#[97]⟩ : ByteArray))]); go_must (refine (d4 _).mono ?_); rintro e wn ⟨rfl, b1⟩; replace kb := (by first | exact kb.below b1 | exact (kb.alloc _).below b1 : Blk wn w.heap.size #[.string h, .string m, .int .i64 a, .int .i64 b, .int .i64 c, .int .i64 d, .int .i64 f] 23); replace hb := (by first | exact next hb b1 | exact next (lay hb _) b1 : Below w.heap.size w wn); (try clear g0 g1 g2 g3 g4 g5 g6 klt); obtain ⟨g0, g1, g2, g3, g4, g5, g6⟩ := Blk.seven (h := h) (m := m) (a := a) (b := b) (c := c) (d := d) (e := f) kb; have klt := kb.lt; clear b1)
    | (go_at_call 24; have hrow := hr.below hb; rcases p4 with ⟨T, f1, f2⟩ | f1 <;> (go_must (refine (f1 _ hrow).mono ?_); rintro e wn ⟨rfl, b1⟩; replace kb := (by first | exact kb.below b1 | exact (kb.alloc _).below b1 : Blk wn w.heap.size #[.string h, .string m, .int .i64 a, .int .i64 b, .int .i64 c, .int .i64 d, .int .i64 f] 23); replace hb := (by first | exact next hb b1 | exact next (lay hb _) b1 : Below w.heap.size w wn); (try clear g0 g1 g2 g3 g4 g5 g6 klt); obtain ⟨g0, g1, g2, g3, g4, g5, g6⟩ := Blk.seven (h := h) (m := m) (a := a) (b := b) (c := c) (d := d) (e := f) kb; have klt := kb.lt; clear b1))
    | (go_at_call_of 17 (#[Value.int IntKind.i64 16, Value.string T]); go_must (refine (f2 _).mono ?_); rintro e wn ⟨rfl, b1⟩; replace kb := (by first | exact kb.below b1 | exact (kb.alloc _).below b1 : Blk wn w.heap.size #[.string h, .string m, .int .i64 a, .int .i64 b, .int .i64 c, .int .i64 d, .int .i64 f] 23); replace hb := (by first | exact next hb b1 | exact next (lay hb _) b1 : Below w.heap.size w wn); (try clear g0 g1 g2 g3 g4 g5 g6 klt); obtain ⟨g0, g1, g2, g3, g4, g5, g6⟩ := Blk.seven (h := h) (m := m) (a := a) (b := b) (c := c) (d := d) (e := f) kb; have klt := kb.lt; clear b1)
    | (go_at_call 16; refine (num_any _ _).mono ?_; rintro e w' ⟨rfl, hw⟩; obtain rfl := hw.symm))
  all_goals go_ret
  all_goals exact ⟨rfl, hb⟩

theorem walk (x : Int) (host h m : ByteArray) (a b c d f : Int) (v : Value) (ps : List ByteArray) (_ : (Lit.int .i64 x).wf = true) (hs : host.size ≤ maxLen) (s1 : h.size ≤ maxLen) (s2 : m.size ≤ maxLen) (w : World) (hr : SRow w v ps) :
    Calls Try.prog 4 #[.int .i64 x, .string host, .agg (soaV h m a b c d f), v] w fun e w' => e = .returned (.bool true) ∧ Below w.heap.size w w' :=
  walk_x x (x % 4294967296) (x % 65536) host h m a b c d f v ps w hs s1 s2 hr (mask32 x) (Int.emod_nonneg _ (by decide)) (Int.emod_lt_of_pos _ (by decide)) (mask16 x) (Int.emod_nonneg _ (by decide)) (Int.emod_lt_of_pos _ (by decide))

theorem own : ownKnob Try.prog.godebug = none := by kernel_rfl
theorem laidOut : laidOutB Try.prog = true := by kernel_rfl
theorem cells9 : Try.prog.cellsOf 9 = 1 := by kernel_rfl

set_option maxRecDepth 100000 in
theorem lifted (os : Os) (started : os.Started) (H : Type) (enc : TypeId × Value → H) :
    ReturnsInHanded {} Try.checked os 4 .any (Rows.rdataBackSpec.pre6 enc Try.prog Try.f4 Rows.rdataBackRow.domain false) (Rows.rdataBackSpec.post enc Try.prog Try.f4 false true false false) := by
  refine returnsInHanded_of_change (C := Try.checked) own started (by kernel_rfl) Try.func4
    (ChangeSpec.witness6 (enc := enc) (C := Try.checked) false ⟨#[], #[.int .i64 0, .string ByteArray.empty, .agg soaZ, .slice none 0 0], []⟩ 8 (by kernel_rfl) (by kernel_rfl) (by kernel_rfl) (by kernel_rfl)) ?_
  intro W base args ds gs before hval0 hW _ _
  have hval : ∀ (j : Nat) t v, Try.f4.params[j]? = some t → args[j]? = some v → Value.okWide Try.prog W .any base t v := hval0
  have hW' := hW
  obtain ⟨p, q, hA0, hV, rfl, hfz, hnd⟩ := hW
  have hA : DataW.TrodAll enc Try.prog W 0 (fun _ => true) true Try.f4.params.toList args.toList ds p := hA0
  rw [Try.params4] at hA hval
  obtain ⟨v0, vs0, d0, ds0, p0, q0, hargs, rfl, rfl, h0, r0⟩ := trodAll_cons hA
  obtain ⟨v1, vs1, d1, ds1, p1, q1, rfl, rfl, rfl, h1, r1⟩ := trodAll_cons r0
  obtain ⟨v2, vs2, d2, ds2, p2, q2, rfl, rfl, rfl, h2, r2⟩ := trodAll_cons r1
  obtain ⟨v3, vs3, d3, ds3, p3, q3, rfl, rfl, rfl, h3, r3⟩ := trodAll_cons r2
  obtain ⟨rfl, rfl, rfl⟩ := trodAll_nil r3
  obtain rfl : args = #[v0, v1, v2, v3] := by cases args; simp_all
  obtain ⟨rfl, rfl⟩ := trodVars_none hV
  obtain ⟨a0, rfl, rfl, rfl, w0⟩ := open_int Try.underlying3 (hval 0 3 v0 rfl rfl) h0
  obtain ⟨a1, rfl, rfl, rfl, w1⟩ := open_string Try.underlying9 (hval 1 9 v1 rfl rfl) h1
  obtain ⟨a2h, a2m, a2a, a2b, a2c, a2d, a2e, rfl, rfl, w2h, w2m⟩ := open_soa (hval 2 23 v2 rfl rfl) h2
  obtain ⟨a3, h3k, d3k, w3⟩ := open_srow (hval 3 24 v3 rfl rfl) h3
  have hlt3 : ∀ x ∈ p3, x.block < W.heap.size := fun x hx => by
    have := hW'.lt x (by simp [hx])
    simpa using this
  clear hA0 hval0
  simp only [List.append_nil] at hW'
  refine (walk a0 a1 a2h a2m a2a a2b a2c a2d a2e v3 a3 w0 w1 w2h w2m W w3).mono fun e W' ⟨he, bel⟩ => ?_
  subst he
  exact ⟨_, rfl, _, _, _, [], _, [], hW', trodAll_mk1 (shut_bool Try.underlying4 _), (trodAll_cons_mk (shut_int Try.underlying3 w0) (trodAll_cons_mk (shut_string Try.underlying9 w1) (trodAll_cons_mk (Below.trod laidOut (by kernel_rfl) (of_decide_eq_true (by kernel_rfl)) h2 bel (by simp)) (trodAll_cons_mk (Below.trod laidOut (by kernel_rfl) (of_decide_eq_true (by kernel_rfl)) h3k bel hlt3) trodAll_mk0)))), rfl, bel.frame _, fun h => by cases h⟩

/-- The statement. -/
theorem proved : Rows.RdataBackSaid :=
  OpenClaim.holds_of_wide 4 Try.f4 rfl rfl rfl rfl rfl rfl rfl ⟨rfl, rfl, rfl, rfl, rfl⟩ rfl rfl rfl rfl rfl (by kernel_rfl) Try.func4 (by kernel_rfl)
    (of_decide_eq_true (by kernel_rfl)) (by unfold Func.isWrapper; first | (rw [if_pos (by decide +kernel)]; kernel_rfl) | (rw [if_neg (by decide +kernel)]; exact ⟨rfl, rfl⟩))
    (fun os started H enc _ => lifted os started H enc)
#print axioms proved


end Go.Proofs.Ytoeaogbeifkliaa.rdataBack
