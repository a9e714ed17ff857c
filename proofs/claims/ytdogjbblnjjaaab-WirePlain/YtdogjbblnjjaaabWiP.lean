/- What awake gives: true. -/
import Derived.Test.YtdogjbblnjjaaabWiO
namespace Go.Proofs.Ytdogjbblnjjaaab
open Go.RowKit
open Pl

/-- A row that was laid as it is. -/
theorem Row.of_blk {w : World} {g : Nat} {C : Array Value} {t : TypeId} (h : Blk w g C t) {xs : List Value} (hx : C.toList = xs) (n cap : Nat) : Row w (.slice (some ⟨g, 0, none⟩) n cap) n xs := by
  refine .inr ⟨g, 0, none, cap, rfl, fun _ => rfl, fun j u hu => ?_⟩
  rw [Nat.zero_add, h.cell j, ← hu, ← hx]; simp
theorem Row.nil (w : World) (xs : List Value) : Row w (.slice none 0 0) 0 xs := .inl ⟨rfl, rfl⟩
theorem QRow.nil (w : World) : QRow w (.slice none 0 0) [] := ⟨Row.nil _ _, by decide, fun q h => by simp at h⟩
theorem RRow.nil (w : World) : RRow w (.slice none 0 0) [] := ⟨Row.nil _ _, by decide, fun q h => by simp at h⟩
theorem Own.mr {B : Nat} {w : World} {v0 v1 v2 v3 : Value} {m : Ms} (h : Own B w v0 v1 v2 v3 m) (hm : m.qs.length ≤ 64 ∧ m.an.length ≤ 64 ∧ m.ns.length ≤ 64 ∧ m.ar.length ≤ 64) : MR w v0 v1 v2 v3 m :=
  ⟨Row.of_own h.q, Row.of_own h.an, Row.of_own h.ns, Row.of_own h.ar, by unfold maxLen; omega, by unfold maxLen; omega, by unfold maxLen; omega, by unfold maxLen; omega⟩
/-- A message that was read has few parts. -/
theorem gM_few (s : ByteArray) : (gM s).qs.length ≤ 64 ∧ (gM s).an.length ≤ 64 ∧ (gM s).ns.length ≤ 64 ∧ (gM s).ar.length ≤ 64 := by
  unfold gM
  split
  · cases h : getM s with
    | none => decide
    | some m =>
      have := get_may h
      unfold mayM at this
      simp only [Bool.and_eq_true] at this
      obtain ⟨_, ⟨⟨h0, h1⟩, h2⟩, h3⟩ := this
      exact ⟨(few_iff h0).1, (few_iff h1).1, (few_iff h2).1, (few_iff h3).1⟩
  · decide
theorem MRow.mr {w : World} {v0 v1 v2 v3 : Value} {m : Ms} (h0 : QRow w v0 m.qs) (h1 : RRow w v1 m.an) (h2 : RRow w v2 m.ns) (h3 : RRow w v3 m.ar) : MR w v0 v1 v2 v3 m :=
  ⟨h0.1, h1.1, h2.1, h3.1, h0.2.1, h1.2.1, h2.2.1, h3.2.1⟩

/-- Get, where it is known what it gives. -/
theorem get_k (s : ByteArray) (m : Ms) (E : Int) (w : World) (hs : s.size ≤ maxLen) (h : gM s = m ∧ gE s = E) :
    Calls Try.prog 6 #[.string s] w fun e w' => ∃ (y0 y1 y2 y3 : Option Addr) (n0 n1 n2 n3 k0 k1 k2 k3 : Nat), e = .returned (.tuple #[.agg (msgC m.h (.slice y0 n0 k0) (.slice y1 n1 k1) (.slice y2 n2 k2) (.slice y3 n3 k3)), .int .i64 E]) ∧ Own w.heap.size w' (.slice y0 n0 k0) (.slice y1 n1 k1) (.slice y2 n2 k2) (.slice y3 n3 k3) m ∧ Below w.heap.size w w' := by
  have := get_w s w hs
  unfold GetP at this
  rw [h.1, h.2] at this
  refine this.mono fun e w' ⟨v0, v1, v2, v3, he, ho, hb⟩ => ?_
  obtain ⟨y0, k0, rfl⟩ := row_shape ho.q
  obtain ⟨y1, k1, rfl⟩ := row_shape ho.an
  obtain ⟨y2, k2, rfl⟩ := row_shape ho.ns
  obtain ⟨y3, k3, rfl⟩ := row_shape ho.ar
  exact ⟨_, _, _, _, _, _, _, _, _, _, _, _, he, ho, hb⟩

/-- So many bytes of nought are made, and become a string. -/
theorem madeN (n : Nat) (hn : n ≤ 100000) : ∃ Zc : Array Value, (∀ u : World, (Instr.makeSlice 27 (.int .i64 (n : Int)) (.int .i64 (n : Int))).run Try.prog u = .ok (.slice (some ⟨u.heap.size, 0, none⟩) n n) (u.alloc (.cells Zc 5))) ∧
    ∀ (u : World), (convert 27 9 (.slice (some ⟨u.heap.size, 0, none⟩) n n)).run Try.prog (u.alloc (.cells Zc 5)) = .ok (.string (zerosB n)) (u.alloc (.cells Zc 5)) := by
  obtain ⟨i0, hi, hz0, hz1, hz2⟩ := info_parts info5
  refine ⟨((List.replicate n (0 : UInt8)).map bv).toArray, fun u => ?_, fun u => ?_⟩
  · have := run_make (P := Try.prog) u 27 5 i0 (.int .u8 0) Try.underlying27 hi hz0 .i64 .i64 (n : Int) (n : Int) (by omega) (by omega) (by rw [hz2]; omega) (by omega)
    rw [hz1, show (Value.int .u8 0).cells = #[.int .u8 0] from rfl, Nat.mul_one, Int.toNat_natCast, made_zero] at this
    exact this
  · have := conv_lit (List.replicate n 0) u
    rw [List.length_replicate] at this
    exact this

/-- .. a message with no header's bit set. -/
theorem get_kz (s : ByteArray) (m : Ms) (E : Int) (w : World) (hs : s.size ≤ maxLen) (h : gM s = m ∧ gE s = E) (hh : m.h = hdZ) :
    Calls Try.prog 6 #[.string s] w fun e w' => ∃ (y0 y1 y2 y3 : Option Addr) (n0 n1 n2 n3 k0 k1 k2 k3 : Nat), e = .returned (.tuple #[.agg #[.int .i64 0, .bool false, .int .i64 0, .bool false, .bool false, .bool false, .bool false, .int .i64 0, .int .i64 0, .slice y0 n0 k0, .slice y1 n1 k1, .slice y2 n2 k2, .slice y3 n3 k3], .int .i64 E]) ∧ Own w.heap.size w' (.slice y0 n0 k0) (.slice y1 n1 k1) (.slice y2 n2 k2) (.slice y3 n3 k3) m ∧ Below w.heap.size w w' := by
  have := get_k s m E w hs h
  rw [hh] at this
  exact this
theorem same_z (m : Ms) (v0 v1 v2 v3 u0 u1 u2 u3 : Value) (w : World) (hh : m.h = hdZ) (a : MR w v0 v1 v2 v3 m) (b : MR w u0 u1 u2 u3 m) :
    Calls Try.prog 9 #[.agg #[.int .i64 0, .bool false, .int .i64 0, .bool false, .bool false, .bool false, .bool false, .int .i64 0, .int .i64 0, v0, v1, v2, v3], .agg #[.int .i64 0, .bool false, .int .i64 0, .bool false, .bool false, .bool false, .bool false, .int .i64 0, .int .i64 0, u0, u1, u2, u3]] w fun e w' => e = .returned (.bool true) ∧ Below w.heap.size w w' := by
  have := sameMsg_yes m v0 v1 v2 v3 u0 u1 u2 u3 w a b
  rw [hh] at this
  exact this

def awQ : Qn := ⟨⟨#[1, 97, 0]⟩, 1, 1⟩
def awR : Rc := ⟨⟨#[1, 97, 0]⟩, 1, 1, 5, ⟨#[97, 98, 99, 100]⟩⟩
def awM : Ms := ⟨hdZ, [awQ], [awR], [], []⟩
def awB : ByteArray := ⟨#[0, 0, 0, 0, 0, 1, 0, 1, 0, 0, 0, 0, 1, 97, 0, 0, 1, 0, 1, 192, 12, 0, 1, 0, 1, 0, 0, 0, 5, 0, 4, 97, 98, 99, 100]⟩
theorem aw_may : mayM awM = true := by decide +kernel
theorem aw_st : putSt awM = some (awB.data.toList, [([1, 97, 0], 12)]) := by decide +kernel
theorem aw_put : putV awM = .tuple #[.string awB, .int .i64 0] := by rw [putV_yes aw_may, aw_st]; rfl
theorem aw_get : getM awB = some awM := by have := (there_back aw_may aw_st).1; rwa [arr_list] at this
theorem aw_gm : gM awB = awM ∧ gE awB = 0 := g_some (by decide) aw_get
theorem aw_more : gM (awB ++ ⟨#[97]⟩) = msZ ∧ gE (awB ++ ⟨#[97]⟩) = 700 := by
  refine g_none (by decide) ?_
  cases h : getM (awB ++ ⟨#[97]⟩) with
  | none => rfl
  | some m => exact absurd aw_get (get_behind (by decide) h)
theorem aw_long : gM (zerosB 4097) = msZ ∧ gE (zerosB 4097) = 701 := g_long (by rw [zerosB_size]; decide)
def awZ : Ms := ⟨hdZ, [⟨⟨#[]⟩, 0, 0⟩], [], [], []⟩
theorem aw_bad : putV awZ = .tuple #[.string ⟨#[]⟩, .int .i64 700] := putV_no (by decide +kernel)

theorem small100 {n : Nat} (h : n ≤ 100000) : n ≤ maxLen := by unfold maxLen; omega
/-- A question, a record as a row of its own. -/
theorem qrow_lit {w : World} {g : Nat} {q : Qn} (h : Blk w g (qV q).toArray 38) (hs : q.n.size ≤ 100000) : QRow w (.slice (some ⟨g, 0, none⟩) 1 1) [q] :=
  ⟨Row.of_blk h (by simp [qC]) 1 1, by show 1 ≤ maxLen; exact small100 (by decide), fun x hx => by simp at hx; subst hx; exact small100 hs⟩
theorem rrow_lit {w : World} {g : Nat} {r : Rc} (h : Blk w g (rV r).toArray 25) (hs : r.n.size ≤ 100000) (hd : r.d.size ≤ 100000) : RRow w (.slice (some ⟨g, 0, none⟩) 1 1) [r] :=
  ⟨Row.of_blk h (by simp [rC]) 1 1, by show 1 ≤ maxLen; exact small100 (by decide), fun x hx => by simp at hx; subst hx; exact ⟨small100 hs, small100 hd⟩⟩

theorem aw_p1 {v0 v1 : Value} (u : World) (h0 : QRow u v0 [awQ]) (h1 : RRow u v1 [awR]) : Calls Try.prog 7 #[.agg #[.int .i64 0, .bool false, .int .i64 0, .bool false, .bool false, .bool false, .bool false, .int .i64 0, .int .i64 0, v0, v1, .slice none 0 0, .slice none 0 0]] u fun e w' => e = .returned (.tuple #[.string awB, .int .i64 0]) ∧ Below u.heap.size u w' := by
  have := put_w (msgC hdZ v0 v1 (.slice none 0 0) (.slice none 0 0)) awM u ⟨v0, v1, _, _, rfl, h0, h1, RRow.nil _, RRow.nil _⟩
  rw [aw_put] at this
  exact this
theorem aw_p2 {v0 : Value} (u : World) (h0 : QRow u v0 [⟨⟨#[]⟩, 0, 0⟩]) : Calls Try.prog 7 #[.agg #[.int .i64 0, .bool false, .int .i64 0, .bool false, .bool false, .bool false, .bool false, .int .i64 0, .int .i64 0, v0, .slice none 0 0, .slice none 0 0, .slice none 0 0]] u fun e w' => e = .returned (.tuple #[.string ⟨#[]⟩, .int .i64 700]) ∧ Below u.heap.size u w' := by
  have := put_w (msgC hdZ v0 (.slice none 0 0) (.slice none 0 0) (.slice none 0 0)) awZ u ⟨v0, _, _, _, rfl, h0, RRow.nil _, RRow.nil _, RRow.nil _⟩
  rw [aw_bad] at this
  exact this
theorem aw_z (u : World) (o : Obj) : QRow ((u.alloc o).alloc (.cells #[.string ⟨#[]⟩, .int .i64 0, .int .i64 0] 38)) (.slice (some ⟨u.heap.size + 1, 0, none⟩) 1 1) [⟨⟨#[]⟩, 0, 0⟩] := by
  have k := Blk.new (u.alloc o) #[.string ⟨#[]⟩, .int .i64 0, .int .i64 0] 38
  rw [show (u.alloc o).heap.size = u.heap.size + 1 from by simp] at k
  exact qrow_lit (q := ⟨⟨#[]⟩, 0, 0⟩) k (by decide)
theorem aw_rows (w : World) : QRow (((w.alloc (.cells (qV awQ).toArray 38)).alloc (.cells (rV awR).toArray 25)).alloc (.cells #[.int .i64 0, .bool false, .int .i64 0, .bool false, .bool false, .bool false, .bool false, .int .i64 0, .int .i64 0, .slice (some ⟨w.heap.size, 0, none⟩) 1 1, .slice (some ⟨w.heap.size + 1, 0, none⟩) 1 1, .slice none 0 0, .slice none 0 0] 33)) (.slice (some ⟨w.heap.size, 0, none⟩) 1 1) [awQ] ∧ RRow (((w.alloc (.cells (qV awQ).toArray 38)).alloc (.cells (rV awR).toArray 25)).alloc (.cells #[.int .i64 0, .bool false, .int .i64 0, .bool false, .bool false, .bool false, .bool false, .int .i64 0, .int .i64 0, .slice (some ⟨w.heap.size, 0, none⟩) 1 1, .slice (some ⟨w.heap.size + 1, 0, none⟩) 1 1, .slice none 0 0, .slice none 0 0] 33)) (.slice (some ⟨w.heap.size + 1, 0, none⟩) 1 1) [awR] ∧ Blk (((w.alloc (.cells (qV awQ).toArray 38)).alloc (.cells (rV awR).toArray 25)).alloc (.cells #[.int .i64 0, .bool false, .int .i64 0, .bool false, .bool false, .bool false, .bool false, .int .i64 0, .int .i64 0, .slice (some ⟨w.heap.size, 0, none⟩) 1 1, .slice (some ⟨w.heap.size + 1, 0, none⟩) 1 1, .slice none 0 0, .slice none 0 0] 33)) (w.heap.size + 1 + 1) (msgC hdZ (.slice (some ⟨w.heap.size, 0, none⟩) 1 1) (.slice (some ⟨w.heap.size + 1, 0, none⟩) 1 1) (.slice none 0 0) (.slice none 0 0)) 33 := by
  have e1 : (w.alloc (.cells (qV awQ).toArray 38)).heap.size = w.heap.size + 1 := by simp
  have e2 : ((w.alloc (.cells (qV awQ).toArray 38)).alloc (.cells (rV awR).toArray 25)).heap.size = w.heap.size + 1 + 1 := by simp
  have k1 := ((Blk.new w (qV awQ).toArray 38).alloc (.cells (rV awR).toArray 25)).alloc (.cells #[.int .i64 0, .bool false, .int .i64 0, .bool false, .bool false, .bool false, .bool false, .int .i64 0, .int .i64 0, .slice (some ⟨w.heap.size, 0, none⟩) 1 1, .slice (some ⟨w.heap.size + 1, 0, none⟩) 1 1, .slice none 0 0, .slice none 0 0] 33)
  have k2 := (Blk.new (w.alloc (.cells (qV awQ).toArray 38)) (rV awR).toArray 25).alloc (.cells #[.int .i64 0, .bool false, .int .i64 0, .bool false, .bool false, .bool false, .bool false, .int .i64 0, .int .i64 0, .slice (some ⟨w.heap.size, 0, none⟩) 1 1, .slice (some ⟨w.heap.size + 1, 0, none⟩) 1 1, .slice none 0 0, .slice none 0 0] 33)
  have k3 := Blk.new ((w.alloc (.cells (qV awQ).toArray 38)).alloc (.cells (rV awR).toArray 25)) #[.int .i64 0, .bool false, .int .i64 0, .bool false, .bool false, .bool false, .bool false, .int .i64 0, .int .i64 0, .slice (some ⟨w.heap.size, 0, none⟩) 1 1, .slice (some ⟨w.heap.size + 1, 0, none⟩) 1 1, .slice none 0 0, .slice none 0 0] 33
  rw [e1] at k2
  rw [e2] at k3
  exact ⟨qrow_lit k1 (by decide), rrow_lit k2 (by decide) (by decide), k3⟩

set_option maxRecDepth 20000 in
set_option maxHeartbeats 1000000 in
theorem awake_any (w : World) : Calls Try.prog 4 #[] w fun e w' => e = .returned (.bool true) ∧ Below w.heap.size w w' := by
  have hb : Below w.heap.size w w := Below.refl _ _
  obtain ⟨Zc, hmk, hcz⟩ := madeN 4097 (by decide)
  rw [show ((4097 : Nat) : Int) = 4097 from rfl] at hmk
  obtain ⟨ZZ, hZZ⟩ : ∃ Z, Z = zerosB 4097 := ⟨_, rfl⟩
  have kl := fun u => get_kz (zerosB 4097) _ _ u (small100 (by rw [zerosB_size]; decide)) aw_long rfl
  have cA := fun u => get_kz awB _ _ u (small100 (by decide)) aw_gm rfl
  have cB := fun u => get_kz (awB ++ ⟨#[97]⟩) _ _ u (small100 (by decide)) aw_more rfl
  have p1 := @aw_p1
  simp only [← hZZ] at kl hcz
  have sz : awB.size = 35 := by decide
  have HSM := fun (v0 v1 v2 v3 u0 u1 u2 u3 : Value) (u : World) (a : MR u v0 v1 v2 v3 awM) (b : MR u u0 u1 u2 u3 awM) => same_z awM v0 v1 v2 v3 u0 u1 u2 u3 u rfl a b
  obtain ⟨S, hS⟩ : ∃ S, S = awB := ⟨_, rfl⟩
  simp only [← hS] at cA cB p1 sz
  have szi : (S.size : Int) = 35 := by omega
  obtain ⟨q1, q2, q3⟩ := aw_rows w
  have Q1 : Hid (QRow _ (.slice (some ⟨w.heap.size, 0, none⟩) 1 1) [awQ]) := q1
  have Q2 : Hid (RRow _ (.slice (some ⟨w.heap.size + 1, 0, none⟩) 1 1) [awR]) := q2
  clear q1 q2 hZZ hS
  have t1 : True := trivial
  have t2 : True := trivial
  have t3 : True := trivial
  go_enter Try.func4, Try.ntmps4
  go_wp2_with (first
    | (go_at_call 7; have _t := t1; go_must (refine (p1 _ Q1.out Q2.out).mono ?_); rintro e w1 ⟨rfl, b1⟩; replace Q1 : Hid (QRow w1 (.slice (some ⟨w.heap.size, 0, none⟩) 1 1) [awQ]) := Q1.out.below b1; replace Q2 : Hid (RRow w1 (.slice (some ⟨w.heap.size + 1, 0, none⟩) 1 1) [awR]) := Q2.out.below b1; replace q3 := q3.below b1; replace hb := next (lay (lay (lay hb _) _) _) b1; clear b1 t1 _t p1)
    | (go_at_call 6; have _t := t2; go_must (refine (cA _).mono ?_); rintro e w2 ⟨y0, y1, y2, y3, n0, n1, n2, n3, k0, k1, k2, k3, rfl, o1, b1⟩; have O1 : Hid (MR w2 (.slice y0 n0 k0) (.slice y1 n1 k1) (.slice y2 n2 k2) (.slice y3 n3 k3) awM) := o1.mr (by decide); replace Q1 : Hid (QRow w2 (.slice (some ⟨w.heap.size, 0, none⟩) 1 1) [awQ]) := Q1.out.below b1; replace Q2 : Hid (RRow w2 (.slice (some ⟨w.heap.size + 1, 0, none⟩) 1 1) [awR]) := Q2.out.below b1; replace q3 := q3.below b1; replace hb := next hb b1; clear b1 o1 t2 _t cA)
    | (go_at_call 6; have _t := t3; go_must (refine (cB _).mono ?_); rintro e w3 ⟨a0, a1, a2, a3, c0, c1, c2, c3, l0, l1, l2, l3, rfl, -, b1⟩; have q4 := Blk.new w2 #[.int .i64 0, .bool false, .int .i64 0, .bool false, .bool false, .bool false, .bool false, .int .i64 0, .int .i64 0, .slice y0 n0 k0, .slice y1 n1 k1, .slice y2 n2 k2, .slice y3 n3 k3] 33; replace q3 := q3.alloc (.cells #[.int .i64 0, .bool false, .int .i64 0, .bool false, .bool false, .bool false, .bool false, .int .i64 0, .int .i64 0, .slice y0 n0 k0, .slice y1 n1 k1, .slice y2 n2 k2, .slice y3 n3 k3] 33); replace O1 : Hid (MR _ (.slice y0 n0 k0) (.slice y1 n1 k1) (.slice y2 n2 k2) (.slice y3 n3 k3) awM) := O1.out.below (lay (Below.refl _ _) (.cells #[.int .i64 0, .bool false, .int .i64 0, .bool false, .bool false, .bool false, .bool false, .int .i64 0, .int .i64 0, .slice y0 n0 k0, .slice y1 n1 k1, .slice y2 n2 k2, .slice y3 n3 k3] 33)); replace Q1 : Hid (QRow _ (.slice (some ⟨w.heap.size, 0, none⟩) 1 1) [awQ]) := Q1.out.below (lay (Below.refl _ _) (.cells #[.int .i64 0, .bool false, .int .i64 0, .bool false, .bool false, .bool false, .bool false, .int .i64 0, .int .i64 0, .slice y0 n0 k0, .slice y1 n1 k1, .slice y2 n2 k2, .slice y3 n3 k3] 33)); replace Q2 : Hid (RRow _ (.slice (some ⟨w.heap.size + 1, 0, none⟩) 1 1) [awR]) := Q2.out.below (lay (Below.refl _ _) (.cells #[.int .i64 0, .bool false, .int .i64 0, .bool false, .bool false, .bool false, .bool false, .int .i64 0, .int .i64 0, .slice y0 n0 k0, .slice y1 n1 k1, .slice y2 n2 k2, .slice y3 n3 k3] 33)); replace hb := lay hb (.cells #[.int .i64 0, .bool false, .int .i64 0, .bool false, .bool false, .bool false, .bool false, .int .i64 0, .int .i64 0, .slice y0 n0 k0, .slice y1 n1 k1, .slice y2 n2 k2, .slice y3 n3 k3] 33); replace O1 : Hid (MR w3 (.slice y0 n0 k0) (.slice y1 n1 k1) (.slice y2 n2 k2) (.slice y3 n3 k3) awM) := O1.out.below b1; replace Q1 : Hid (QRow w3 (.slice (some ⟨w.heap.size, 0, none⟩) 1 1) [awQ]) := Q1.out.below b1; replace Q2 : Hid (RRow w3 (.slice (some ⟨w.heap.size + 1, 0, none⟩) 1 1) [awR]) := Q2.out.below b1; replace q3 := q3.below b1; replace q4 := q4.below b1; replace hb := next hb b1; clear b1 t3 _t cB)
    | (go_at_call 7; go_must (refine (aw_p2 _ (aw_z _ _)).mono ?_); rintro e w4 ⟨rfl, b1⟩; replace b1 := next (lay (lay (Below.refl _ _) _) _) b1; replace O1 : Hid (MR w4 (.slice y0 n0 k0) (.slice y1 n1 k1) (.slice y2 n2 k2) (.slice y3 n3 k3) awM) := O1.out.below b1; replace Q1 : Hid (QRow w4 (.slice (some ⟨w.heap.size, 0, none⟩) 1 1) [awQ]) := Q1.out.below b1; replace Q2 : Hid (RRow w4 (.slice (some ⟨w.heap.size + 1, 0, none⟩) 1 1) [awR]) := Q2.out.below b1; replace q3 := q3.below b1; replace q4 := q4.below b1; replace hb := next hb b1; clear b1)
    | (go_at_call 6; go_must (refine (kl _).mono ?_); rintro e w5 ⟨e0, e1, e2, e3, f0, f1, f2, f3, m0, m1, m2, m3, rfl, -, b1⟩; replace b1 := next (lay (Below.refl _ _) _) b1; replace O1 : Hid (MR w5 (.slice y0 n0 k0) (.slice y1 n1 k1) (.slice y2 n2 k2) (.slice y3 n3 k3) awM) := O1.out.below b1; replace Q1 : Hid (QRow w5 (.slice (some ⟨w.heap.size, 0, none⟩) 1 1) [awQ]) := Q1.out.below b1; replace Q2 : Hid (RRow w5 (.slice (some ⟨w.heap.size + 1, 0, none⟩) 1 1) [awR]) := Q2.out.below b1; replace q3 := q3.below b1; replace q4 := q4.below b1; replace hb := next hb b1; clear b1 kl hmk hcz; have lt3 := q3.lt; have lt4 := q4.lt; have g0 : w5.cell? ⟨w.heap.size + 1 + 1, 0, none⟩ = some (.int .i64 0) := q3.cell 0; have g1 : w5.cell? ⟨w.heap.size + 1 + 1, 1, none⟩ = some (.bool false) := q3.cell 1; have g2 : w5.cell? ⟨w.heap.size + 1 + 1, 2, none⟩ = some (.int .i64 0) := q3.cell 2; have g3 : w5.cell? ⟨w.heap.size + 1 + 1, 3, none⟩ = some (.bool false) := q3.cell 3; have g4 : w5.cell? ⟨w.heap.size + 1 + 1, 4, none⟩ = some (.bool false) := q3.cell 4; have g5 : w5.cell? ⟨w.heap.size + 1 + 1, 5, none⟩ = some (.bool false) := q3.cell 5; have g6 : w5.cell? ⟨w.heap.size + 1 + 1, 6, none⟩ = some (.bool false) := q3.cell 6; have g7 : w5.cell? ⟨w.heap.size + 1 + 1, 7, none⟩ = some (.int .i64 0) := q3.cell 7; have g8 : w5.cell? ⟨w.heap.size + 1 + 1, 8, none⟩ = some (.int .i64 0) := q3.cell 8; have g9 : w5.cell? ⟨w.heap.size + 1 + 1, 9, none⟩ = some (.slice (some ⟨w.heap.size, 0, none⟩) 1 1) := q3.cell 9; have g10 : w5.cell? ⟨w.heap.size + 1 + 1, 10, none⟩ = some (.slice (some ⟨w.heap.size + 1, 0, none⟩) 1 1) := q3.cell 10; have g11 : w5.cell? ⟨w.heap.size + 1 + 1, 11, none⟩ = some (.slice none 0 0) := q3.cell 11; have g12 : w5.cell? ⟨w.heap.size + 1 + 1, 12, none⟩ = some (.slice none 0 0) := q3.cell 12; have h0 : w5.cell? ⟨w2.heap.size, 0, none⟩ = some (.int .i64 0) := q4.cell 0; have h1 : w5.cell? ⟨w2.heap.size, 1, none⟩ = some (.bool false) := q4.cell 1; have h2 : w5.cell? ⟨w2.heap.size, 2, none⟩ = some (.int .i64 0) := q4.cell 2; have h3 : w5.cell? ⟨w2.heap.size, 3, none⟩ = some (.bool false) := q4.cell 3; have h4 : w5.cell? ⟨w2.heap.size, 4, none⟩ = some (.bool false) := q4.cell 4; have h5 : w5.cell? ⟨w2.heap.size, 5, none⟩ = some (.bool false) := q4.cell 5; have h6 : w5.cell? ⟨w2.heap.size, 6, none⟩ = some (.bool false) := q4.cell 6; have h7 : w5.cell? ⟨w2.heap.size, 7, none⟩ = some (.int .i64 0) := q4.cell 7; have h8 : w5.cell? ⟨w2.heap.size, 8, none⟩ = some (.int .i64 0) := q4.cell 8; have h9 : w5.cell? ⟨w2.heap.size, 9, none⟩ = some (.slice y0 n0 k0) := q4.cell 9; have h10 : w5.cell? ⟨w2.heap.size, 10, none⟩ = some (.slice y1 n1 k1) := q4.cell 10; have h11 : w5.cell? ⟨w2.heap.size, 11, none⟩ = some (.slice y2 n2 k2) := q4.cell 11; have h12 : w5.cell? ⟨w2.heap.size, 12, none⟩ = some (.slice y3 n3 k3) := q4.cell 12)
    | (go_at_call 9; go_must (refine (HSM _ _ _ _ _ _ _ _ _ (O1.out.below (lay (Below.refl _ _) _)) (MRow.mr (m := awM) (Q1.out.below (lay (Below.refl _ _) _)) (Q2.out.below (lay (Below.refl _ _) _)) (RRow.nil _) (RRow.nil _))).mono ?_); rintro e w6 ⟨rfl, b1⟩; replace hb := next (lay hb _) b1; clear b1)
    | (go_at_call 8; refine (num_any _ _).mono ?_; rintro e w' ⟨rfl, hw⟩; obtain rfl := hw.symm))
  go_ret
  exact ⟨ret_bool (by simp), hb⟩

end Go.Proofs.Ytdogjbblnjjaaab
