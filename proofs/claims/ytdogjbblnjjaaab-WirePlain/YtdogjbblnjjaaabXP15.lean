/- What awake gives: true. -/
import Derived.Test.YtdogjbblnjjaaabXP14
namespace Go.Proofs.Ytdogjbblnjjaaab
open Go.RowKit
open Pl

/-- A row that was laid as it is. -/
theorem Row.of_blk {w : World} {g : Nat} {C : Array Value} {t : TypeId} (h : Blk w g C t) {xs : List Value} (hx : C.toList = xs) (n cap : Nat) : Row w (.slice (some ⟨g, 0, none⟩) n cap) n xs := by
  refine .inr ⟨g, 0, none, cap, rfl, fun _ => rfl, fun j u hu => ?_⟩
  rw [Nat.zero_add, h.cell j, ← hu, ← hx]; simp
theorem Row.nil (w : World) (xs : List Value) : Row w (.slice none 0 0) 0 xs := .inl ⟨rfl, rfl⟩
theorem QRow.nil (w : World) : QRow w (.slice none 0 0) [] := ⟨Row.nil _ _, by decide, fun q h => by simp at h⟩
theorem RRow.nil (w : World) : RRow w (.slice none 0 0) [] := ⟨Row.nil _ _, by decide, fun q h => by simp at h⟩
theorem Own.mr {B : Nat} {w : World} {v0 v1 v2 v3 : Value} {m : Ms} (h : Own B w v0 v1 v2 v3 m) (hm : m.qs.length ≤ 64 ∧ m.an.length ≤ 64 ∧ m.ns.length ≤ 64 ∧ m.ar.length ≤ 64) : MR w v0 v1 v2 v3 m :=
  ⟨Row.of_own h.q, Row.of_own h.an, Row.of_own h.ns, Row.of_own h.ar, by unfold maxLen; omega, by unfold maxLen; omega, by unfold maxLen; omega, by unfold maxLen; omega⟩
/-- A message that was read has few parts. -/
theorem gM_few (s : ByteArray) : (gM s).qs.length ≤ 64 ∧ (gM s).an.length ≤ 64 ∧ (gM s).ns.length ≤ 64 ∧ (gM s).ar.length ≤ 64 := by
  unfold gM
  split
  · cases h : getM s with
    | none => decide
    | some m =>
      have := get_may h
      unfold mayM at this
      simp only [Bool.and_eq_true] at this
      obtain ⟨_, ⟨⟨h0, h1⟩, h2⟩, h3⟩ := this
      exact ⟨(few_iff h0).1, (few_iff h1).1, (few_iff h2).1, (few_iff h3).1⟩
  · decide
theorem MRow.mr {w : World} {v0 v1 v2 v3 : Value} {m : Ms} (h0 : QRow w v0 m.qs) (h1 : RRow w v1 m.an) (h2 : RRow w v2 m.ns) (h3 : RRow w v3 m.ar) : MR w v0 v1 v2 v3 m :=
  ⟨h0.1, h1.1, h2.1, h3.1, h0.2.1, h1.2.1, h2.2.1, h3.2.1⟩

/-- Get, where it is known what it gives. -/
theorem get_k (s : ByteArray) (m : Ms) (E : Int) (w : World) (hs : s.size ≤ maxLen) (h : gM s = m ∧ gE s = E) :
    Calls Try.prog 6 #[.string s] w fun e w' => ∃ (y0 y1 y2 y3 : Option Addr) (n0 n1 n2 n3 k0 k1 k2 k3 : Nat), e = .returned (.tuple #[.agg (msgC m.h (.slice y0 n0 k0) (.slice y1 n1 k1) (.slice y2 n2 k2) (.slice y3 n3 k3)), .int .i64 E]) ∧ Own w.heap.size w' (.slice y0 n0 k0) (.slice y1 n1 k1) (.slice y2 n2 k2) (.slice y3 n3 k3) m ∧ Below w.heap.size w w' := by
  have := get_w s w hs
  unfold GetP at this
  rw [h.1, h.2] at this
  refine this.mono fun e w' ⟨v0, v1, v2, v3, he, ho, hb⟩ => ?_
  obtain ⟨y0, k0, rfl⟩ := row_shape ho.q
  obtain ⟨y1, k1, rfl⟩ := row_shape ho.an
  obtain ⟨y2, k2, rfl⟩ := row_shape ho.ns
  obtain ⟨y3, k3, rfl⟩ := row_shape ho.ar
  exact ⟨_, _, _, _, _, _, _, _, _, _, _, _, he, ho, hb⟩

/-- So many bytes of nought are made, and become a string. -/
theorem madeN (n : Nat) (hn : n ≤ 100000) : ∃ Zc : Array Value, (∀ u : World, (Instr.makeSlice 27 (.int .i64 (n : Int)) (.int .i64 (n : Int))).run Try.prog u = .ok (.slice (some ⟨u.heap.size, 0, none⟩) n n) (u.alloc (.cells Zc 5))) ∧
    ∀ (u : World), (convert 27 9 (.slice (some ⟨u.heap.size, 0, none⟩) n n)).run Try.prog (u.alloc (.cells Zc 5)) = .ok (.string (zerosB n)) (u.alloc (.cells Zc 5)) := by
  obtain ⟨i0, hi, hz0, hz1, hz2⟩ := info_parts info5
  refine ⟨((List.replicate n (0 : UInt8)).map bv).toArray, fun u => ?_, fun u => ?_⟩
  · have := run_make (P := Try.prog) u 27 5 i0 (.int .u8 0) Try.underlying27 hi hz0 .i64 .i64 (n : Int) (n : Int) (by omega) (by omega) (by rw [hz2]; omega) (by omega)
    rw [hz1, show (Value.int .u8 0).cells = #[.int .u8 0] from rfl, Nat.mul_one, Int.toNat_natCast, made_zero] at this
    exact this
  · have := conv_lit (List.replicate n 0) u
    rw [List.length_replicate] at this
    exact this

/-- .. a message with no header's bit set. -/
theorem get_kz (s : ByteArray) (m : Ms) (E : Int) (w : World) (hs : s.size ≤ maxLen) (h : gM s = m ∧ gE s = E) (hh : m.h = hdZ) :
    Calls Try.prog 6 #[.string s] w fun e w' => ∃ (y0 y1 y2 y3 : Option Addr) (n0 n1 n2 n3 k0 k1 k2 k3 : Nat), e = .returned (.tuple #[.agg #[.int .i64 0, .bool false, .int .i64 0, .bool false, .bool false, .bool false, .bool false, .int .i64 0, .int .i64 0, .slice y0 n0 k0, .slice y1 n1 k1, .slice y2 n2 k2, .slice y3 n3 k3], .int .i64 E]) ∧ Own w.heap.size w' (.slice y0 n0 k0) (.slice y1 n1 k1) (.slice y2 n2 k2) (.slice y3 n3 k3) m ∧ Below w.heap.size w w' := by
  have := get_k s m E w hs h
  rw [hh] at this
  exact this
theorem same_z (m : Ms) (v0 v1 v2 v3 u0 u1 u2 u3 : Value) (w : World) (hh : m.h = hdZ) (a : MR w v0 v1 v2 v3 m) (b : MR w u0 u1 u2 u3 m) :
    Calls Try.prog 9 #[.agg #[.int .i64 0, .bool false, .int .i64 0, .bool false, .bool false, .bool false, .bool false, .int .i64 0, .int .i64 0, v0, v1, v2, v3], .agg #[.int .i64 0, .bool false, .int .i64 0, .bool false, .bool false, .bool false, .bool false, .int .i64 0, .int .i64 0, u0, u1, u2, u3]] w fun e w' => e = .returned (.bool true) ∧ Below w.heap.size w w' := by
  have := sameMsg_yes m v0 v1 v2 v3 u0 u1 u2 u3 w a b
  rw [hh] at this
  exact this

def awQ : Qn := ⟨⟨#[1, 97, 0]⟩, 1, 1⟩
def awR : Rc := ⟨⟨#[1, 97, 0]⟩, 1, 1, 5, ⟨#[97, 98, 99, 100]⟩⟩
def awM : Ms := ⟨hdZ, [awQ], [awR], [], []⟩
def awB : ByteArray := ⟨#[0, 0, 0, 0, 0, 1, 0, 1, 0, 0, 0, 0, 1, 97, 0, 0, 1, 0, 1, 192, 12, 0, 1, 0, 1, 0, 0, 0, 5, 0, 4, 97, 98, 99, 100]⟩
theorem aw_may : mayM awM = true := by decide +kernel
theorem aw_st : putSt awM = some (awB.data.toList, [([1, 97, 0], 12)]) := by decide +kernel
theorem aw_put : putV awM = .tuple #[.string awB, .int .i64 0] := by rw [putV_yes aw_may, aw_st]; rfl
theorem aw_get : getM awB = some awM := by have := (there_back aw_may aw_st).1; rwa [arr_list] at this
theorem aw_gm : gM awB = awM ∧ gE awB = 0 := g_some (by decide) aw_get
theorem aw_more : gM (awB ++ ⟨#[97]⟩) = msZ ∧ gE (awB ++ ⟨#[97]⟩) = 700 := by
  refine g_none (by decide) ?_
  cases h : getM (awB ++ ⟨#[97]⟩) with
  | none => rfl
  | some m => exact absurd aw_get (get_behind (by decide) h)
theorem aw_long : gM (zerosB 4097) = msZ ∧ gE (zerosB 4097) = 701 := g_long (by rw [zerosB_size]; decide)
def awZ : Ms := ⟨hdZ, [⟨⟨#[]⟩, 0, 0⟩], [], [], []⟩
theorem aw_bad : putV awZ = .tuple #[.string ⟨#[]⟩, .int .i64 700] := putV_no (by decide +kernel)

theorem small100 {n : Nat} (h : n ≤ 100000) : n ≤ maxLen := by unfold maxLen; omega
/-- A question, a record as a row of its own. -/
theorem qrow_lit {w : World} {g : Nat} {q : Qn} (h : Blk w g (qV q).toArray 38) (hs : q.n.size ≤ 100000) : QRow w (.slice (some ⟨g, 0, none⟩) 1 1) [q] :=
  ⟨Row.of_blk h (by simp [qC]) 1 1, by show 1 ≤ maxLen; exact small100 (by decide), fun x hx => by simp at hx; subst hx; exact small100 hs⟩
theorem rrow_lit {w : World} {g : Nat} {r : Rc} (h : Blk w g (rV r).toArray 25) (hs : r.n.size ≤ 100000) (hd : r.d.size ≤ 100000) : RRow w (.slice (some ⟨g, 0, none⟩) 1 1) [r] :=
  ⟨Row.of_blk h (by simp [rC]) 1 1, by show 1 ≤ maxLen; exact small100 (by decide), fun x hx => by simp at hx; subst hx; exact ⟨small100 hs, small100 hd⟩⟩

theorem aw_p1 {v0 v1 : Value} (u : World) (h0 : QRow u v0 [awQ]) (h1 : RRow u v1 [awR]) : Calls Try.prog 7 #[.agg #[.int .i64 0, .bool false, .int .i64 0, .bool false, .bool false, .bool false, .bool false, .int .i64 0, .int .i64 0, v0, v1, .slice none 0 0, .slice none 0 0]] u fun e w' => e = .returned (.tuple #[.string awB, .int .i64 0]) ∧ Below u.heap.size u w' := by
  have := put_w (msgC hdZ v0 v1 (.slice none 0 0) (.slice none 0 0)) awM u ⟨v0, v1, _, _, rfl, h0, h1, RRow.nil _, RRow.nil _⟩
  rw [aw_put] at this
  exact this
theorem aw_p2 {v0 : Value} (u : World) (h0 : QRow u v0 [⟨⟨#[]⟩, 0, 0⟩]) : Calls Try.prog 7 #[.agg #[.int .i64 0, .bool false, .int .i64 0, .bool false, .bool false, .bool false, .bool false, .int .i64 0, .int .i64 0, v0, .slice none 0 0, .slice none 0 0, .slice none 0 0]] u fun e w' => e = .returned (.tuple #[.string ⟨#[]⟩, .int .i64 700]) ∧ Below u.heap.size u w' := by
  have := put_w (msgC hdZ v0 (.slice none 0 0) (.slice none 0 0) (.slice none 0 0)) awZ u ⟨v0, _, _, _, rfl, h0, RRow.nil _, RRow.nil _, RRow.nil _⟩
  rw [aw_bad] at this
  exact this
theorem aw_z (u : World) (o : Obj) : QRow ((u.alloc o).alloc (.cells #[.string ⟨#[]⟩, .int .i64 0, .int .i64 0] 38)) (.slice (some ⟨u.heap.size + 1, 0, none⟩) 1 1) [⟨⟨#[]⟩, 0, 0⟩] := by
  have k := Blk.new (u.alloc o) #[.string ⟨#[]⟩, .int .i64 0, .int .i64 0] 38
  rw [show (u.alloc o).heap.size = u.heap.size + 1 from by simp] at k
  exact qrow_lit (q := ⟨⟨#[]⟩, 0, 0⟩) k (by decide)
theorem aw_rows (w : World) : QRow (((w.alloc (.cells (qV awQ).toArray 38)).alloc (.cells (rV awR).toArray 25)).alloc (.cells #[.int .i64 0, .bool false, .int .i64 0, .bool false, .bool false, .bool false, .bool false, .int .i64 0, .int .i64 0, .slice (some ⟨w.heap.size, 0, none⟩) 1 1, .slice (some ⟨w.heap.size + 1, 0, none⟩) 1 1, .slice none 0 0, .slice none 0 0] 33)) (.slice (some ⟨w.heap.size, 0, none⟩) 1 1) [awQ] ∧ RRow (((w.alloc (.cells (qV awQ).toArray 38)).alloc (.cells (rV awR).toArray 25)).alloc (.cells #[.int .i64 0, .bool false, .int .i64 0, .bool false, .bool false, .bool false, .bool false, .int .i64 0, .int .i64 0, .slice (some ⟨w.heap.size, 0, none⟩) 1 1, .slice (some ⟨w.heap.size + 1, 0, none⟩) 1 1, .slice none 0 0, .slice none 0 0] 33)) (.slice (some ⟨w.heap.size + 1, 0, none⟩) 1 1) [awR] ∧ Blk (((w.alloc (.cells (qV awQ).toArray 38)).alloc (.cells (rV awR).toArray 25)).alloc (.cells #[.int .i64 0, .bool false, .int .i64 0, .bool false, .bool false, .bool false, .bool false, .int .i64 0, .int .i64 0, .slice (some ⟨w.heap.size, 0, none⟩) 1 1, .slice (some ⟨w.heap.size + 1, 0, none⟩) 1 1, .slice none 0 0, .slice none 0 0] 33)) (w.heap.size + 1 + 1) (msgC hdZ (.slice (some ⟨w.heap.size, 0, none⟩) 1 1) (.slice (some ⟨w.heap.size + 1, 0, none⟩) 1 1) (.slice none 0 0) (.slice none 0 0)) 33 := by
  have e1 : (w.alloc (.cells (qV awQ).toArray 38)).heap.size = w.heap.size + 1 := by simp
  have e2 : ((w.alloc (.cells (qV awQ).toArray 38)).alloc (.cells (rV awR).toArray 25)).heap.size = w.heap.size + 1 + 1 := by simp
  have k1 := ((Blk.new w (qV awQ).toArray 38).alloc (.cells (rV awR).toArray 25)).alloc (.cells #[.int .i64 0, .bool false, .int .i64 0, .bool false, .bool false, .bool false, .bool false, .int .i64 0, .int .i64 0, .slice (some ⟨w.heap.size, 0, none⟩) 1 1, .slice (some ⟨w.heap.size + 1, 0, none⟩) 1 1, .slice none 0 0, .slice none 0 0] 33)
  have k2 := (Blk.new (w.alloc (.cells (qV awQ).toArray 38)) (rV awR).toArray 25).alloc (.cells #[.int .i64 0, .bool false, .int .i64 0, .bool false, .bool false, .bool false, .bool false, .int .i64 0, .int .i64 0, .slice (some ⟨w.heap.size, 0, none⟩) 1 1, .slice (some ⟨w.heap.size + 1, 0, none⟩) 1 1, .slice none 0 0, .slice none 0 0] 33)
  have k3 := Blk.new ((w.alloc (.cells (qV awQ).toArray 38)).alloc (.cells (rV awR).toArray 25)) #[.int .i64 0, .bool false, .int .i64 0, .bool false, .bool false, .bool false, .bool false, .int .i64 0, .int .i64 0, .slice (some ⟨w.heap.size, 0, none⟩) 1 1, .slice (some ⟨w.heap.size + 1, 0, none⟩) 1 1, .slice none 0 0, .slice none 0 0] 33
  rw [e1] at k2
  rw [e2] at k3
  exact ⟨qrow_lit k1 (by decide), rrow_lit k2 (by decide) (by decide), k3⟩

set_option maxRecDepth 20000 in
set_option maxHeartbeats 1000000 in
theorem awake_any (w : World) : Calls Try.prog 4 #[] w fun e w' => e = .returned (.bool true) ∧ Below w.heap.size w w' := by
  have hb : Below w.heap.size w w := Below.refl _ _
  obtain ⟨Zc, hmk, hcz⟩ := madeN 4097 (by decide)
  rw [show ((4097 : Nat) : Int) = 4097 from rfl] at hmk
  obtain ⟨ZZ, hZZ⟩ : ∃ Z, Z = zerosB 4097 := ⟨_, rfl⟩
  have kl := fun u => get_kz (zerosB 4097) _ _ u (small100 (by rw [zerosB_size]; decide)) aw_long rfl
  have cA := fun u => get_kz awB _ _ u (small100 (by decide)) aw_gm rfl
  have cB := fun u => get_kz (awB ++ ⟨#[97]⟩) _ _ u (small100 (by decide)) aw_more rfl
  have p1 := @aw_p1
  simp only [← hZZ] at kl hcz
  have sz : awB.size = 35 := by decide
  have HSM := fun (v0 v1 v2 v3 u0 u1 u2 u3 : Value) (u : World) (a : MR u v0 v1 v2 v3 awM) (b : MR u u0 u1 u2 u3 awM) => same_z awM v0 v1 v2 v3 u0 u1 u2 u3 u rfl a b
  obtain ⟨S, hS⟩ : ∃ S, S = awB := ⟨_, rfl⟩
  simp only [← hS] at cA cB p1 sz
  have szi : (S.size : Int) = 35 := by omega
  obtain ⟨q1, q2, q3⟩ := aw_rows w
  have Q1 : Hid (QRow _ (.slice (some ⟨w.heap.size, 0, none⟩) 1 1) [awQ]) := q1
  have Q2 : Hid (RRow _ (.slice (some ⟨w.heap.size + 1, 0, none⟩) 1 1) [awR]) := q2
  clear q1 q2 hZZ hS
  have t1 : True := trivial
  have t2 : True := trivial
  have t3 : True := trivial
  go_enter Try.func4, Try.ntmps4
  go_wp2_with (first
    | (go_at_call 7; have _t := t1; go_must (refine (p1 _ Q1.out Q2.out).mono ?_); rintro e w1 ⟨rfl, b1⟩; replace Q1 : Hid (QRow w1 (.slice (some ⟨w.heap.size, 0, none⟩) 1 1) [awQ]) := Q1.out.below b1; replace Q2 : Hid (RRow w1 (.slice (some ⟨w.heap.size + 1, 0, none⟩) 1 1) [awR]) := Q2.out.below b1; replace q3 := q3.below b1; replace hb := next (lay (lay (lay hb _) _) _) b1; clear b1 t1 _t p1)
    | (go_at_call 6; have _t := t2; go_must (refine (cA _).mono ?_); rintro e w2 ⟨y0, y1, y2, y3, n0, n1, n2, n3, k0, k1, k2, k3, rfl, o1, b1⟩; have O1 : Hid (MR w2 (.slice y0 n0 k0) (.slice y1 n1 k1) (.slice y2 n2 k2) (.slice y3 n3 k3) awM) := o1.mr (by decide); replace Q1 : Hid (QRow w2 (.slice (some ⟨w.heap.size, 0, none⟩) 1 1) [awQ]) := Q1.out.below b1; replace Q2 : Hid (RRow w2 (.slice (some ⟨w.heap.size + 1, 0, none⟩) 1 1) [awR]) := Q2.out.below b1; replace q3 := q3.below b1; replace hb := next hb b1; clear b1 o1 t2 _t cA)
    | (go_at_call 6; have _t := t3; go_must (refine (cB _).mono ?_); rintro e w3 ⟨a0, a1, a2, a3, c0, c1, c2, c3, l0, l1, l2, l3, rfl, -, b1⟩; have q4 := Blk.new w2 #[.int .i64 0, .bool false, .int .i64 0, .bool false, .bool false, .bool false, .bool false, .int .i64 0, .int .i64 0, .slice y0 n0 k0, .slice y1 n1 k1, .slice y2 n2 k2, .slice y3 n3 k3] 33; replace q3 := q3.alloc (.cells #[.int .i64 0, .bool false, .int .i64 0, .bool false, .bool false, .bool false, .bool false, .int .i64 0, .int .i64 0, .slice y0 n0 k0, .slice y1 n1 k1, .slice y2 n2 k2, .slice y3 n3 k3] 33); replace O1 : Hid (MR _ (.slice y0 n0 k0) (.slice y1 n1 k1) (.slice y2 n2 k2) (.slice y3 n3 k3) awM) := O1.out.below (lay (Below.refl _ _) (.cells #[.int .i64 0, .bool false, .int .i64 0, .bool false, .bool false, .bool false, .bool false, .int .i64 0, .int .i64 0, .slice y0 n0 k0, .slice y1 n1 k1, .slice y2 n2 k2, .slice y3 n3 k3] 33)); replace Q1 : Hid (QRow _ (.slice (some ⟨w.heap.size, 0, none⟩) 1 1) [awQ]) := Q1.out.below (lay (Below.refl _ _) (.cells #[.int .i64 0, .bool false, .int .i64 0, .bool false, .bool false, .bool false, .bool false, .int .i64 0, .int .i64 0, .slice y0 n0 k0, .slice y1 n1 k1, .slice y2 n2 k2, .slice y3 n3 k3] 33)); replace Q2 : Hid (RRow _ (.slice (some ⟨w.heap.size + 1, 0, none⟩) 1 1) [awR]) := Q2.out.below (lay (Below.refl _ _) (.cells #[.int .i64 0, .bool false, .int .i64 0, .bool false, .bool false, .bool false, .bool false, .int .i64 0, .int .i64 0, .slice y0 n0 k0, .slice y1 n1 k1, .slice y2 n2 k2, .slice y3 n3 k3] 33)); replace hb := lay hb (.cells #[.int .i64 0, .bool false, .int .i64 0, .bool false, .bool false, .bool false, .bool false, .int .i64 0, .int .i64 0, .slice y0 n0 k0, .slice y1 n1 k1, .slice y2 n2 k2, .slice y3 n3 k3] 33); replace O1 : Hid (MR w3 (.slice y0 n0 k0) (.slice y1 n1 k1) (.slice y2 n2 k2) (.slice y3 n3 k3) awM) := O1.out.below b1; replace Q1 : Hid (QRow w3 (.slice (some ⟨w.heap.size, 0, none⟩) 1 1) [awQ]) := Q1.out.below b1; replace Q2 : Hid (RRow w3 (.slice (some ⟨w.heap.size + 1, 0, none⟩) 1 1) [awR]) := Q2.out.below b1; replace q3 := q3.below b1; replace q4 := q4.below b1; replace hb := next hb b1; clear b1 t3 _t cB)
    | (go_at_call 7; go_must (refine (aw_p2 _ (aw_z _ _)).mono ?_); rintro e w4 ⟨rfl, b1⟩; replace b1 := next (lay (lay (Below.refl _ _) _) _) b1; replace O1 : Hid (MR w4 (.slice y0 n0 k0) (.slice y1 n1 k1) (.slice y2 n2 k2) (.slice y3 n3 k3) awM) := O1.out.below b1; replace Q1 : Hid (QRow w4 (.slice (some ⟨w.heap.size, 0, none⟩) 1 1) [awQ]) := Q1.out.below b1; replace Q2 : Hid (RRow w4 (.slice (some ⟨w.heap.size + 1, 0, none⟩) 1 1) [awR]) := Q2.out.below b1; replace q3 := q3.below b1; replace q4 := q4.below b1; replace hb := next hb b1; clear b1)
    | (go_at_call 6; go_must (refine (kl _).mono ?_); rintro e w5 ⟨e0, e1, e2, e3, f0, f1, f2, f3, m0, m1, m2, m3, rfl, -, b1⟩; replace b1 := next (lay (Below.refl _ _) _) b1; replace O1 : Hid (MR w5 (.slice y0 n0 k0) (.slice y1 n1 k1) (.slice y2 n2 k2) (.slice y3 n3 k3) awM) := O1.out.below b1; replace Q1 : Hid (QRow w5 (.slice (some ⟨w.heap.size, 0, none⟩) 1 1) [awQ]) := Q1.out.below b1; replace Q2 : Hid (RRow w5 (.slice (some ⟨w.heap.size + 1, 0, none⟩) 1 1) [awR]) := Q2.out.below b1; replace q3 := q3.below b1; replace q4 := q4.below b1; replace hb := next hb b1; clear b1 kl hmk hcz; have lt3 := q3.lt; have lt4 := q4.lt; have g0 : w5.cell? ⟨w.heap.size + 1 + 1, 0, none⟩ = some (.int .i64 0) := q3.cell 0; have g1 : w5.cell? ⟨w.heap.size + 1 + 1, 1, none⟩ = some (.bool false) := q3.cell 1; have g2 : w5.cell? ⟨w.heap.size + 1 + 1, 2, none⟩ = some (.int .i64 0) := q3.cell 2; have g3 : w5.cell? ⟨w.heap.size + 1 + 1, 3, none⟩ = some (.bool false) := q3.cell 3; have g4 : w5.cell? ⟨w.heap.size + 1 + 1, 4, none⟩ = some (.bool false) := q3.cell 4; have g5 : w5.cell? ⟨w.heap.size + 1 + 1, 5, none⟩ = some (.bool false) := q3.cell 5; have g6 : w5.cell? ⟨w.heap.size + 1 + 1, 6, none⟩ = some (.bool false) := q3.cell 6; have g7 : w5.cell? ⟨w.heap.size + 1 + 1, 7, none⟩ = some (.int .i64 0) := q3.cell 7; have g8 : w5.cell? ⟨w.heap.size + 1 + 1, 8, none⟩ = some (.int .i64 0) := q3.cell 8; have g9 : w5.cell? ⟨w.heap.size + 1 + 1, 9, none⟩ = some (.slice (some ⟨w.heap.size, 0, none⟩) 1 1) := q3.cell 9; have g10 : w5.cell? ⟨w.heap.size + 1 + 1, 10, none⟩ = some (.slice (some ⟨w.heap.size + 1, 0, none⟩) 1 1) := q3.cell 10; have g11 : w5.cell? ⟨w.heap.size + 1 + 1, 11, none⟩ = some (.slice none 0 0) := q3.cell 11; have g12 : w5.cell? ⟨w.heap.size + 1 + 1, 12, none⟩ = some (.slice none 0 0) := q3.cell 12; have h0 : w5.cell? ⟨w2.heap.size, 0, none⟩ = some (.int .i64 0) := q4.cell 0; have h1 : w5.cell? ⟨w2.heap.size, 1, none⟩ = some (.bool false) := q4.cell 1; have h2 : w5.cell? ⟨w2.heap.size, 2, none⟩ = some (.int .i64 0) := q4.cell 2; have h3 : w5.cell? ⟨w2.heap.size, 3, none⟩ = some (.bool false) := q4.cell 3; have h4 : w5.cell? ⟨w2.heap.size, 4, none⟩ = some (.bool false) := q4.cell 4; have h5 : w5.cell? ⟨w2.heap.size, 5, none⟩ = some (.bool false) := q4.cell 5; have h6 : w5.cell? ⟨w2.heap.size, 6, none⟩ = some (.bool false) := q4.cell 6; have h7 : w5.cell? ⟨w2.heap.size, 7, none⟩ = some (.int .i64 0) := q4.cell 7; have h8 : w5.cell? ⟨w2.heap.size, 8, none⟩ = some (.int .i64 0) := q4.cell 8; have h9 : w5.cell? ⟨w2.heap.size, 9, none⟩ = some (.slice y0 n0 k0) := q4.cell 9; have h10 : w5.cell? ⟨w2.heap.size, 10, none⟩ = some (.slice y1 n1 k1) := q4.cell 10; have h11 : w5.cell? ⟨w2.heap.size, 11, none⟩ = some (.slice y2 n2 k2) := q4.cell 11; have h12 : w5.cell? ⟨w2.heap.size, 12, none⟩ = some (.slice y3 n3 k3) := q4.cell 12)
    | (go_at_call 9; go_must (refine (HSM _ _ _ _ _ _ _ _ _ (O1.out.below (lay (Below.refl _ _) _)) (MRow.mr (m := awM) (Q1.out.below (lay (Below.refl _ _) _)) (Q2.out.below (lay (Below.refl _ _) _)) (RRow.nil _) (RRow.nil _))).mono ?_); rintro e w6 ⟨rfl, b1⟩; replace hb := next (lay hb _) b1; clear b1)
    | (go_at_call 8; refine (num_any _ _).mono ?_; rintro e w' ⟨rfl, hw⟩; obtain rfl := hw.symm))
  go_ret
  exact ⟨ret_bool (by simp), hb⟩

end Go.Proofs.Ytdogjbblnjjaaab

/- A row that a string's bytes were laid in; a record's bytes that are turned. -/
namespace Go.Proofs.Ytdogjbblnjjaaab
open Go.RowKit
open Pl

/-- A block that a string's bytes were laid in: these bytes at its head, and nothing of them frozen. -/
def BRow (w : World) (g : Nat) (l : List UInt8) : Prop :=
  ∃ cur : Array Value, w.heap[g]? = some (.cells cur 5 (cur.size, cur.size + 1)) ∧ l.length ≤ cur.size ∧ ∀ j (h : j < l.length), cur[j]? = some (bv l[j])

theorem BRow.cell {w : World} {g : Nat} {l : List UInt8} (h : BRow w g l) (j : Nat) (hj : j < l.length) : w.cell? ⟨g, j, none⟩ = some (.int .u8 (l[j].toNat : Int)) := by
  obtain ⟨cur, h1, h2, h3⟩ := h
  rw [cell_of_row w g j cur 5 _ h1]
  exact h3 j hj
theorem BRow.frozen {w : World} {g : Nat} {l : List UInt8} (h : BRow w g l) (j : Nat) (hj : j < l.length) : w.frozen? ⟨g, j, none⟩ = false := by
  obtain ⟨cur, h1, h2, h3⟩ := h
  simp only [World.frozen?, h1]
  simp
  omega
theorem BRow.stored {w : World} {g : Nat} {l : List UInt8} (h : BRow w g l) (j : Nat) (hj : j < l.length) (b : UInt8) :
    BRow (w.setCell ⟨g, j, none⟩ (.int .u8 (b.toNat : Int))) g (l.set j b) ∧ w.grownBy (w.setCell ⟨g, j, none⟩ (.int .u8 (b.toNat : Int))) (some g) := by
  obtain ⟨cur, h1, h2, h3⟩ := h
  refine ⟨⟨cur.setIfInBounds j (.int .u8 (b.toNat : Int)), ?_, by simpa using h2, fun i hi => ?_⟩, ⟨rfl, rfl, rfl, by simp, fun k _ hk => heap_setCell_other w ⟨g, j, none⟩ k _ (fun e => hk (by simp [e]))⟩⟩
  · rw [setCell_eq_setRow w g j cur 5 _ _ h1, setRow_heap w g cur _ 5 _ h1]
    simp
  · simp only [List.length_set] at hi
    by_cases e : i = j
    · subst e
      rw [Array.getElem?_setIfInBounds_self_of_lt (by omega), List.getElem_set_self]
      rfl
    · rw [Array.getElem?_setIfInBounds_ne (by omega), List.getElem_set_ne (by omega)]
      exact h3 i hi
theorem BRow.kept {w w' : World} {g : Nat} {l : List UInt8} (h : BRow w g l) (e : w'.heap[g]? = w.heap[g]?) : BRow w' g l := by
  obtain ⟨cur, h1, h2, h3⟩ := h
  exact ⟨cur, by rw [e]; exact h1, h2, h3⟩

/-- A string's bytes are laid in a block of their own. -/
theorem wpList_bytesB (w : World) {ops : Array Oper} {rest : List Oper} {o : Oper} {a : Act} {Q : Exit → Act → World → Prop} (hgd : o.guard = none) (x : Operand)
    (ho : o.op = .convert 9 27 x) (s : ByteArray) (hx : a.eval x = .string s)
    (h : ∀ cap w', BRow w' w.heap.size s.data.toList → w.grownBy w' none → w'.heap.size = w.heap.size + 1 →
      wpList Try.prog ops Q rest (a.put o.dst (.slice (some ⟨w.heap.size, 0, none⟩) s.size cap)) w') : wpList Try.prog ops Q (o :: rest) a w := by
  refine wpList_plain hgd fun K hK => ?_
  have hr := run_bytes_of_string (P := Try.prog) w 9 27 5 s Try.underlying9 Try.underlying27 Try.underlying5
  unfold Oper.wp execOp
  simp only [ho, hx, Sem.run_bind, hr, Result.andThen_ok, Sem.run_pure]
  refine hK _ _ (h _ _ ⟨_, heap_alloc_last w.drew _, ?_, fun j hj => ?_⟩ ⟨rfl, rfl, rfl, by simp, fun k hk _ => Below.heap_alloc w.drew _ k hk⟩ (by simp))
  · unfold bytesRow
    simp
  · unfold bytesRow
    rw [Array.getElem?_append_left (by simpa using hj)]
    have hd : j < s.data.size := by simpa using hj
    rw [Array.getElem?_map, Array.getElem?_eq_getElem hd]
    rfl

/-- Such bytes become a string. -/
theorem wpList_stringC (w : World) {ops : Array Oper} {rest : List Oper} {o : Oper} {a : Act} {Q : Exit → Act → World → Prop} (hgd : o.guard = none) (x : Operand)
    (ho : o.op = .convert 27 9 x) (g n cap : Nat) (l : List UInt8) (hx : a.eval x = .slice (some ⟨g, 0, none⟩) n cap) (hn : l.length = n) (hrow : BRow w g l)
    (h : wpList Try.prog ops Q rest (a.put o.dst (.string ⟨l.toArray⟩)) w) : wpList Try.prog ops Q (o :: rest) a w := by
  refine wpList_plain hgd fun K hK => ?_
  subst hn
  have hr := run_convert_bytes_back w 27 9 5 ⟨g, 0, none⟩ cap l Try.underlying27 Try.underlying5 Try.underlying9 fun j hj => by
    have hadd : (⟨g, 0, none⟩ : Addr).add j = ⟨g, j, none⟩ := by unfold Addr.add; split <;> simp_all
    rw [hadd]
    exact hrow.cell j hj
  unfold Oper.wp execOp
  simp only [ho, hx, Sem.run_bind, hr, Result.andThen_ok, Sem.run_pure]
  exact hK _ _ h

/-- Such bytes become a string. -/
theorem conv_brow {w : World} {g n cap : Nat} {l : List UInt8} (hrow : BRow w g l) (hn : l.length = n) : (convert 27 9 (.slice (some ⟨g, 0, none⟩) n cap)).run Try.prog w = .ok (.string ⟨l.toArray⟩) w := by
  subst hn
  refine run_convert_bytes_back w 27 9 5 ⟨g, 0, none⟩ cap l Try.underlying27 Try.underlying5 Try.underlying9 fun j hj => ?_
  have hadd : (⟨g, 0, none⟩ : Addr).add j = ⟨g, j, none⟩ := by unfold Addr.add; split <;> simp_all
  rw [hadd]
  exact hrow.cell j hj
theorem BRow.lt {w : World} {g : Nat} {l : List UInt8} (h : BRow w g l) : g < w.heap.size := by
  obtain ⟨cur, h1, _⟩ := h
  exact (Array.getElem?_eq_some_iff.1 h1).1
theorem BRow.below {w w' : World} {g : Nat} {l : List UInt8} (h : BRow w g l) (hb : Below w.heap.size w w') : BRow w' g l := h.kept (hb.block g h.lt)

end Go.Proofs.Ytdogjbblnjjaaab

/- A message as it comes in. -/
namespace Go.Proofs.Ytdogjbblnjjaaab
open Go.ChangeShapes Go.WideShapes Go.ChangeAt Go.RowKit
open Pl

theorem spot_none {w : World} {a : Addr} {v : Value} (h : w.cell? a = some v) : a.spot = none := by
  unfold World.cell? at h
  split at h
  · split at h
    · simp at h
    · rename_i h1; simpa using h1
  · simp at h
/-- One thing for each number below n. -/
theorem list_of {α : Type} {P : Nat → α → Prop} : ∀ (n : Nat), (∀ i, i < n → ∃ x, P i x) → ∃ xs : List α, xs.length = n ∧ ∀ i (h : i < xs.length), P i xs[i] := by
  intro n
  induction n with
  | zero => intro _; exact ⟨[], rfl, fun i h => by simp at h⟩
  | succ n ih =>
    intro h
    obtain ⟨xs, hl, hx⟩ := ih (fun i hi => h i (by omega))
    obtain ⟨x, hp⟩ := h n (by omega)
    refine ⟨xs ++ [x], by simp [hl], fun i hi => ?_⟩
    by_cases e : i < xs.length
    · rw [List.getElem_append_left e]; exact hx i e
    · have : i = n := by simp at hi; omega
      subst this
      rw [List.getElem_append_right (by omega)]
      simpa [hl] using hp
theorem add_in {g o k j : Nat} : ((⟨g, o, none⟩ : Addr).add k).add j = ⟨g, o + (k + j), none⟩ := by
  unfold Addr.add
  split <;> split <;> simp_all <;> omega
/-- A row of elements of z cells each, as it is read. -/
theorem row_of {α : Type} {f : α → List Value} {z : Nat} (hz : ∀ x, (f x).length = z) (hz0 : 0 < z) {w : World} {a : Addr} {len cap : Nat} {xs : List α} (hl : xs.length = len)
    (h : ∀ i (hi : i < xs.length), ∀ j, j < z → w.cell? ((a.add (i * z)).add j) = (f xs[i])[j]?) : Row w (.slice (some a) len cap) len (xs.flatMap f) := by
  obtain ⟨g, o, p⟩ := a
  have hp : 0 < len → p = none := fun h0 => by
    have h1 := h 0 (by omega) 0 hz0
    have h2 : w.cell? ⟨g, o, p⟩ = (f xs[0])[0]? := by simpa [Addr.add] using h1
    rw [List.getElem?_eq_getElem (by rw [hz]; exact hz0)] at h2
    exact spot_none h2
  refine .inr ⟨g, o, p, cap, rfl, hp, fun j u hu => ?_⟩
  have hj : j < xs.length * z := by have := (List.getElem?_eq_some_iff.1 hu).1; rwa [flat_len hz] at this
  have hlen : 0 < len := by
    cases len with
    | zero => rw [hl] at hj; simp at hj
    | succ n => omega
  have hp0 := hp hlen
  subst hp0
  have hi : j / z < xs.length := Nat.div_lt_of_lt_mul (by rw [Nat.mul_comm]; exact hj)
  have hm := Nat.mod_lt j hz0
  have e : j / z * z + j % z = j := by rw [Nat.mul_comm]; exact Nat.div_add_mod j z
  have h1 := h (j / z) hi (j % z) hm
  rw [add_in, e] at h1
  rw [h1, ← flat_get hz xs (j / z) hi (j % z) hm, e]
  exact hu

theorem q_cellsOf : Try.prog.cellsOf 38 = 3 := by kernel_rfl
theorem r_cellsOf : Try.prog.cellsOf 25 = 5 := by kernel_rfl
theorem m_cellsOf : Try.prog.cellsOf 33 = 13 := by kernel_rfl
theorem s_cellsOf : Try.prog.cellsOf 9 = 1 := by kernel_rfl
theorem qs_cellsOf : Try.prog.cellsOf 30 = 1 := by kernel_rfl
theorem rs_cellsOf : Try.prog.cellsOf 31 = 1 := by kernel_rfl

section
variable {H : Type} {enc : TypeId × Value → H} {W : World}
set_option maxRecDepth 20000 in
theorem open_qrow {fuel : Nat} {c : Value} {x : DataW H × List MemPlace} (h : DataW.trod enc Try.prog W 0 (fun _ => true) true fuel 30 [c] = some x) : ∃ qs, QRow W c qs := by
  rcases DataW.trod_slice Try.underlying30 h with ⟨h0, _⟩ | ⟨a, len, cap, elems, rest, n, _, hcs, _, _, hlc, hcm, hlen, hel, _, _⟩
  · simp at h0
    subst h0
    exact ⟨[], QRow.nil W⟩
  · simp at hcs
    subst hcs
    have each : ∀ i, i < len → ∃ q : Qn, (∀ j, j < 3 → W.cell? ((a.add (i * 3)).add j) = (qV q)[j]?) ∧ q.n.size ≤ maxLen := by
      intro i hi
      have hb := hel i hi
      rw [q_cellsOf] at hb
      have hs : (elems[i]?).isSome = true := by rw [List.getElem?_eq_getElem (by omega)]; rfl
      rw [← hb] at hs
      obtain ⟨y, hy⟩ := Option.isSome_iff_exists.1 hs
      rw [Option.bind_eq_some_iff] at hy
      obtain ⟨cs, hcs, hy⟩ := hy
      obtain ⟨_, hcl, hcell⟩ := World.cells?_some hcs
      obtain ⟨xs, k, _, _, _, hxl, hf⟩ := DataW.trod_struct Try.underlying38 hy
      match xs, hxl, cs, hcl, hcell, hf with
      | [y0, y1, y2], _, [c0, c1, c2], _, hcell, hf =>
        have t0 := hf 0 _ rfl
        have t1 := hf 1 _ rfl
        have t2 := hf 2 _ rfl
        simp [s_cellsOf, int_cells] at t0 t1 t2
        obtain ⟨s, e0, _, hss⟩ := DataW.trod_string Try.underlying9 t0
        obtain ⟨t, e1, _, _⟩ := DataW.trod_int Try.underlying3 t1
        obtain ⟨u, e2, _, _⟩ := DataW.trod_int Try.underlying3 t2
        simp at e0 e1 e2
        refine ⟨⟨s, t, u⟩, fun j hj => ?_, hss⟩
        have := hcell j (by simpa using hj)
        rw [this]
        subst e0 e1 e2
        rfl
    obtain ⟨qs, hl, hq⟩ := list_of len each
    refine ⟨qs, ?_, by omega, fun q hq' => ?_⟩
    · rw [hl]
      exact row_of (f := qV) (z := 3) (fun _ => rfl) (by decide) hl (fun i hi j hj => (hq i hi).1 j hj)
    · obtain ⟨i, hi, rfl⟩ := List.getElem_of_mem hq'
      exact (hq i hi).2
set_option maxRecDepth 20000 in
theorem open_rrow {fuel : Nat} {c : Value} {x : DataW H × List MemPlace} (h : DataW.trod enc Try.prog W 0 (fun _ => true) true fuel 31 [c] = some x) : ∃ rs, RRow W c rs := by
  rcases DataW.trod_slice Try.underlying31 h with ⟨h0, _⟩ | ⟨a, len, cap, elems, rest, n, _, hcs, _, _, hlc, hcm, hlen, hel, _, _⟩
  · simp at h0
    subst h0
    exact ⟨[], RRow.nil W⟩
  · simp at hcs
    subst hcs
    have each : ∀ i, i < len → ∃ q : Rc, (∀ j, j < 5 → W.cell? ((a.add (i * 5)).add j) = (rV q)[j]?) ∧ q.n.size ≤ maxLen ∧ q.d.size ≤ maxLen := by
      intro i hi
      have hb := hel i hi
      rw [r_cellsOf] at hb
      have hs : (elems[i]?).isSome = true := by rw [List.getElem?_eq_getElem (by omega)]; rfl
      rw [← hb] at hs
      obtain ⟨y, hy⟩ := Option.isSome_iff_exists.1 hs
      rw [Option.bind_eq_some_iff] at hy
      obtain ⟨cs, hcs, hy⟩ := hy
      obtain ⟨_, hcl, hcell⟩ := World.cells?_some hcs
      obtain ⟨xs, k, _, _, _, hxl, hf⟩ := DataW.trod_struct Try.underlying25 hy
      match xs, hxl, cs, hcl, hcell, hf with
      | [y0, y1, y2, y3, y4], _, [c0, c1, c2, c3, c4], _, hcell, hf =>
        have t0 := hf 0 _ rfl
        have t1 := hf 1 _ rfl
        have t2 := hf 2 _ rfl
        have t3 := hf 3 _ rfl
        have t4 := hf 4 _ rfl
        simp [s_cellsOf, int_cells] at t0 t1 t2 t3 t4
        obtain ⟨s, e0, _, hss⟩ := DataW.trod_string Try.underlying9 t0
        obtain ⟨t, e1, _, _⟩ := DataW.trod_int Try.underlying3 t1
        obtain ⟨u, e2, _, _⟩ := DataW.trod_int Try.underlying3 t2
        obtain ⟨l, e3, _, _⟩ := DataW.trod_int Try.underlying3 t3
        obtain ⟨d, e4, _, hds⟩ := DataW.trod_string Try.underlying9 t4
        simp at e0 e1 e2 e3 e4
        refine ⟨⟨s, t, u, l, d⟩, fun j hj => ?_, hss, hds⟩
        have := hcell j (by simpa using hj)
        rw [this]
        subst e0 e1 e2 e3 e4
        rfl
    obtain ⟨qs, hl, hq⟩ := list_of len each
    refine ⟨qs, ?_, by omega, fun q hq' => ?_⟩
    · rw [hl]
      exact row_of (f := rV) (z := 5) (fun _ => rfl) (by decide) hl (fun i hi j hj => (hq i hi).1 j hj)
    · obtain ⟨i, hi, rfl⟩ := List.getElem_of_mem hq'
      exact (hq i hi).2
end

set_option maxRecDepth 100000 in
set_option maxHeartbeats 1000000 in
/-- An api.Msg as it comes in. -/
theorem open_msg {H : Type} {enc : TypeId × Value → H} {W : World} {r : Reach} {b0 : Nat} {v : Value} {d : DataW H} {p : List MemPlace} (hval : Value.okWide Try.prog W r b0 33 v) (h0 : DataW.Trod enc Try.prog W 0 (fun _ => true) true 33 v d p) :
    ∃ (m : Ms) (v0 v1 v2 v3 : Value), v = .agg (msgC m.h v0 v1 v2 v3) ∧ QRow W v0 m.qs ∧ RRow W v1 m.an ∧ RRow W v2 m.ns ∧ RRow W v3 m.ar := by
  obtain ⟨cs, rfl, hsz⟩ := okWide_struct Try.underlying33 hval
  obtain ⟨fuel, hf⟩ := h0
  obtain ⟨xs, n, _, hx, hl, hlen, hfs⟩ := DataW.trod_struct Try.underlying33 hf
  obtain ⟨l, rfl⟩ : ∃ l : List Value, cs = l.toArray := ⟨cs.toList, by simp⟩
  have hl13 : l.length = 13 := by rw [m_cellsOf] at hsz; simpa using hsz
  match l, hl13 with
  | [c0, c1, c2, c3, c4, c5, c6, c7, c8, c9, c10, c11, c12], _ =>
  match xs, hlen with
  | [y0, y1, y2, y3, y4], _ =>
    have t0 := hfs 0 _ rfl
    have t1 := hfs 1 _ rfl
    have t2 := hfs 2 _ rfl
    have t3 := hfs 3 _ rfl
    have t4 := hfs 4 _ rfl
    simp [head_cells, qs_cellsOf, rs_cellsOf, Value.cells] at t0 t1 t2 t3 t4
    obtain ⟨q0, h1⟩ := open_qrow t1
    obtain ⟨q1, h2⟩ := open_rrow t2
    obtain ⟨q2, h3⟩ := open_rrow t3
    obtain ⟨q3, h4⟩ := open_rrow t4
    obtain ⟨zs, k, _, _, _, hzl, hz⟩ := DataW.trod_struct Try.underlying29 t0
    match zs, hzl with
    | [z0, z1, z2, z3, z4, z5, z6, z7, z8], _ =>
      have u0 := hz 0 _ rfl
      have u1 := hz 1 _ rfl
      have u2 := hz 2 _ rfl
      have u3 := hz 3 _ rfl
      have u4 := hz 4 _ rfl
      have u5 := hz 5 _ rfl
      have u6 := hz 6 _ rfl
      have u7 := hz 7 _ rfl
      have u8 := hz 8 _ rfl
      simp [bool_cells, int_cells] at u0 u1 u2 u3 u4 u5 u6 u7 u8
      obtain ⟨id, e0, x0, _⟩ := DataW.trod_int Try.underlying3 u0
      obtain ⟨qr, e1, x1⟩ := DataW.trod_bool Try.underlying4 u1
      obtain ⟨op, e2, x2, _⟩ := DataW.trod_int Try.underlying3 u2
      obtain ⟨aa, e3, x3⟩ := DataW.trod_bool Try.underlying4 u3
      obtain ⟨tc, e4, x4⟩ := DataW.trod_bool Try.underlying4 u4
      obtain ⟨rd, e5, x5⟩ := DataW.trod_bool Try.underlying4 u5
      obtain ⟨ra, e6, x6⟩ := DataW.trod_bool Try.underlying4 u6
      obtain ⟨z, e7, x7, _⟩ := DataW.trod_int Try.underlying3 u7
      obtain ⟨rc, e8, x8, _⟩ := DataW.trod_int Try.underlying3 u8
      simp at e0 e1 e2 e3 e4 e5 e6 e7 e8
      subst e0 e1 e2 e3 e4 e5 e6 e7 e8
      exact ⟨⟨⟨id, qr, op, aa, tc, rd, ra, z, rc⟩, q0, q1, q2, q3⟩, c9, c10, c11, c12, rfl, h1, h2, h3, h4⟩

end Go.Proofs.Ytdogjbblnjjaaab

/- Put, Get and SameMsg, of a message whose parts are told one by one. -/
namespace Go.Proofs.Ytdogjbblnjjaaab
open Go.RowKit
open Pl

/-- Get of a message with this header. -/
theorem get_h (s : ByteArray) (id : Int) (qr : Bool) (op : Int) (aa tc rd ra : Bool) (z rc : Int) (qs : List Qn) (an ns ar : List Rc) (E : Int) (w : World) (hs : s.size ≤ maxLen) (h : gM s = ⟨⟨id, qr, op, aa, tc, rd, ra, z, rc⟩, qs, an, ns, ar⟩ ∧ gE s = E) :
    Calls Try.prog 6 #[.string s] w fun e w' => ∃ (y0 y1 y2 y3 : Option Addr) (n0 n1 n2 n3 k0 k1 k2 k3 : Nat), e = .returned (.tuple #[.agg #[.int .i64 id, .bool qr, .int .i64 op, .bool aa, .bool tc, .bool rd, .bool ra, .int .i64 z, .int .i64 rc, .slice y0 n0 k0, .slice y1 n1 k1, .slice y2 n2 k2, .slice y3 n3 k3], .int .i64 E]) ∧ Own w.heap.size w' (.slice y0 n0 k0) (.slice y1 n1 k1) (.slice y2 n2 k2) (.slice y3 n3 k3) ⟨⟨id, qr, op, aa, tc, rd, ra, z, rc⟩, qs, an, ns, ar⟩ ∧ Below w.heap.size w w' := get_k s _ E w hs h
theorem same_h (id : Int) (qr : Bool) (op : Int) (aa tc rd ra : Bool) (z rc : Int) (qs : List Qn) (an ns ar : List Rc) (v0 v1 v2 v3 u0 u1 u2 u3 : Value) (w : World) (a : MR w v0 v1 v2 v3 ⟨⟨id, qr, op, aa, tc, rd, ra, z, rc⟩, qs, an, ns, ar⟩) (b : MR w u0 u1 u2 u3 ⟨⟨id, qr, op, aa, tc, rd, ra, z, rc⟩, qs, an, ns, ar⟩) :
    Calls Try.prog 9 #[.agg #[.int .i64 id, .bool qr, .int .i64 op, .bool aa, .bool tc, .bool rd, .bool ra, .int .i64 z, .int .i64 rc, v0, v1, v2, v3], .agg #[.int .i64 id, .bool qr, .int .i64 op, .bool aa, .bool tc, .bool rd, .bool ra, .int .i64 z, .int .i64 rc, u0, u1, u2, u3]] w fun e w' => e = .returned (.bool true) ∧ Below w.heap.size w w' := sameMsg_yes ⟨⟨id, qr, op, aa, tc, rd, ra, z, rc⟩, qs, an, ns, ar⟩ v0 v1 v2 v3 u0 u1 u2 u3 w a b
theorem put_h (id : Int) (qr : Bool) (op : Int) (aa tc rd ra : Bool) (z rc : Int) (qs : List Qn) (an ns ar : List Rc) (T : ByteArray) (E : Int) (v0 v1 v2 v3 : Value) (w : World) (h : putV ⟨⟨id, qr, op, aa, tc, rd, ra, z, rc⟩, qs, an, ns, ar⟩ = .tuple #[.string T, .int .i64 E]) (h0 : QRow w v0 qs) (h1 : RRow w v1 an) (h2 : RRow w v2 ns) (h3 : RRow w v3 ar) :
    Calls Try.prog 7 #[.agg #[.int .i64 id, .bool qr, .int .i64 op, .bool aa, .bool tc, .bool rd, .bool ra, .int .i64 z, .int .i64 rc, v0, v1, v2, v3]] w fun e w' => e = .returned (.tuple #[.string T, .int .i64 E]) ∧ Below w.heap.size w w' := by
  have := put_w (msgC ⟨id, qr, op, aa, tc, rd, ra, z, rc⟩ v0 v1 v2 v3) ⟨⟨id, qr, op, aa, tc, rd, ra, z, rc⟩, qs, an, ns, ar⟩ w ⟨v0, v1, v2, v3, rfl, h0, h1, h2, h3⟩
  rw [h] at this
  exact this
/-- What Put gives: bytes that are read, or none. -/
theorem put_ways (m : Ms) : (∃ T : ByteArray, putV m = .tuple #[.string T, .int .i64 0] ∧ getM T = some m ∧ T.size ≤ 4096 ∧ 12 ≤ T.size) ∨ ∃ E : Int, putV m = .tuple #[.string ⟨#[]⟩, .int .i64 E] ∧ (E = 700 ∨ E = 701) ∧ (mayM m = true → E = 701) := by
  cases hm : mayM m with
  | false => exact .inr ⟨700, putV_no hm, .inl rfl, fun h => by simp at h⟩
  | true =>
    rw [putV_yes hm]
    cases hp : putSt m with
    | none => exact .inr ⟨701, rfl, .inr rfl, fun _ => rfl⟩
    | some st =>
      obtain ⟨h1, h2, h3⟩ := there_back hm hp
      exact .inl ⟨⟨st.1.toArray⟩, rfl, h1, by rw [toArr_size]; exact h2, by rw [toArr_size]; exact h3⟩
theorem own_q {B : Nat} {w : World} {v0 v1 v2 v3 : Value} {m : Ms} (h : Own B w v0 v1 v2 v3 m) (hm : mayM m = true) : QRow w v0 m.qs ∧ RRow w v1 m.an ∧ RRow w v2 m.ns ∧ RRow w v3 m.ar := by
  unfold mayM at hm
  simp only [Bool.and_eq_true] at hm
  obtain ⟨_, ⟨⟨h0, h1⟩, h2⟩, h3⟩ := hm
  have f0 := few_iff h0
  have f1 := few_iff h1
  have f2 := few_iff h2
  have f3 := few_iff h3
  have R : ∀ rs : List Rc, rs.all mayR = true → ∀ r ∈ rs, r.n.size ≤ maxLen ∧ r.d.size ≤ maxLen := fun rs hr r hm => by
    have := List.all_eq_true.1 hr r hm
    unfold mayR at this
    simp only [Bool.and_eq_true] at this
    have a := (name_some this.1.1.1).1
    have b := (may_top this.2).2.2
    rw [data_len] at a b
    exact ⟨small100 (by omega), small100 (by omega)⟩
  refine ⟨⟨Row.of_own h.q, small100 (by omega), fun q hq => ?_⟩, ⟨Row.of_own h.an, small100 (by omega), R _ f1.2⟩, ⟨Row.of_own h.ns, small100 (by omega), R _ f2.2⟩, ⟨Row.of_own h.ar, small100 (by omega), R _ f3.2⟩⟩
  have := List.all_eq_true.1 f0.2 q hq
  unfold mayQ at this
  simp only [Bool.and_eq_true] at this
  have a := (name_some this.1.1).1
  rw [data_len] at a
  exact small100 (by omega)
theorem may_few {m : Ms} (hm : mayM m = true) : m.qs.length ≤ 64 ∧ m.an.length ≤ 64 ∧ m.ns.length ≤ 64 ∧ m.ar.length ≤ 64 := by
  unfold mayM at hm
  simp only [Bool.and_eq_true] at hm
  obtain ⟨_, ⟨⟨h0, h1⟩, h2⟩, h3⟩ := hm
  exact ⟨(few_iff h0).1, (few_iff h1).1, (few_iff h2).1, (few_iff h3).1⟩

end Go.Proofs.Ytdogjbblnjjaaab
