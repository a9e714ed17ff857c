/- TableMatch: a reply is taken just if all is as it was asked. -/
import Derived.Test.YtbldoplemfjcjaaOuR
import Derived.Deep.CutRange
namespace Go.Proofs.Ytbldoplemfjcjaa
open Go.RowKit
open Pl
namespace Ou

/-- Does a reply fit? -/
def ms (a i : Int) (n : ByteArray) (t c : Int) : Bool := decide (a = 7) && (decide (i = 5) && (sameB [1, 97, 0] n.data.toList && (decide (t = 1) && decide (c = 1))))
theorem ms_mt (a i : Int) (n : ByteArray) (t c : Int) : mtA (keyQ a i n t c) (awA 3 5 7 9) = ms a i n t c := by
  unfold mtA ms
  rw [Bool.eq_iff_iff, decide_eq_true_eq, key_iff (wrong_iff.1 (by decide))]
  show ((7 : Int) = a ∧ (5 : Int) = i ∧ c = 1 ∧ (1 : Int) = t ∧ sameB [1, 97, 0] n.data.toList = true) ↔ _
  simp only [Bool.and_eq_true, decide_eq_true_eq]
  constructor
  · rintro ⟨rfl, rfl, rfl, rfl, h⟩; exact ⟨rfl, rfl, h, rfl, rfl⟩
  · rintro ⟨rfl, rfl, h, rfl, rfl⟩; exact ⟨rfl, rfl, rfl, rfl, h⟩
theorem ms_yes {k : Ke} (h : mtA k (awA 3 5 7 9) = true) : takeX k [awA 3 5 7 9] = awA 3 5 7 9 ∧ takeE k [awA 3 5 7 9] = 0 ∧ ([awA 3 5 7 9] : List Ak).eraseP (mtA k) = [] := by
  simp [takeX, takeE, h]
theorem ms_no {k : Ke} (h : mtA k (awA 3 5 7 9) = false) : takeX k [awA 3 5 7 9] = akZ ∧ takeE k [awA 3 5 7 9] = 1902 ∧ ([awA 3 5 7 9] : List Ak).eraseP (mtA k) = [awA 3 5 7 9] := by
  simp [takeX, takeE, h]
theorem ms_again : takeX (keyQ 7 5 ⟨#[1, 97, 0]⟩ 1 1) [awA 3 5 7 9] = awA 3 5 7 9 ∧ takeE (keyQ 7 5 ⟨#[1, 97, 0]⟩ 1 1) [awA 3 5 7 9] = 0 ∧ ([awA 3 5 7 9] : List Ak).eraseP (mtA (keyQ 7 5 ⟨#[1, 97, 0]⟩ 1 1)) = [] := ms_yes (by decide)
theorem ms_gone (k : Ke) : takeX k [] = akZ ∧ takeE k [] = 1902 ∧ ([] : List Ak).eraseP (mtA k) = [] := ⟨rfl, rfl, rfl⟩
/-- A block of another type is written. -/
theorem LW.set {w0 w : World} {gs most n : Nat} {D : List Ak} (h : LW w0 w gs most n D) {g : Nat} {C : Array Value} {t : TypeId} (hb : Blk w g C t) (h1 : t ≠ 73) (h2 : t ≠ 61) (hg : w0.heap.size ≤ g) (i : Nat) (v : Value) : LW w0 (w.setCell ⟨g, i, none⟩ v) gs most n D := by
  obtain ⟨a, b, L, T, q1, q2, q3, q4, q5, q6⟩ := h
  exact ⟨a, b, L, T, q1, q2, q3.turn (Turn.of_set (S := fun k => k = g) w rfl v) (fun k hk e => by subst e; exact blk_foot q3 hb h1 h2 hk), q4.setCell (p := ⟨g, i, none⟩) hg v, q5, q6⟩

set_option maxRecDepth 20000 in
set_option maxHeartbeats 8000000 in
theorem match_any (wrong c f : Int) (w : World) (m7 : bits .and .i64 c 7 = f) (f0 : 0 ≤ f) (f1 : f ≤ 7) :
    Calls Try.prog 6 #[.int .i64 wrong, .int .i64 c] w fun e w' => e = .returned (.bool true) ∧ Below w.heap.size w w' := by
  go_enter Try.func6, Try.ntmps6
  go_upto_if 27 with (first
    | (go_at_call 11; go_must (refine (awake_any _).mono ?_); rintro e w1 ⟨rfl, b1⟩)
    | (go_at_call 8; go_must (refine (lw_new b1 4 (by decide) (by decide)).mono ?_); rintro e w2 ⟨gs, rfl, s2, _⟩)
    | (go_at_call 22; go_must (refine (asked_any 3 5 7 9 _).mono ?_); rintro e w3 ⟨rfl, b3⟩; have ha1 := (s2.below b3).add (by decide) 3 5 7 ⟨#[0]⟩ ⟨#[1, 97, 0]⟩ ⟨#[1, 97, 0]⟩ 1 9 (awA_far 3 5 7 9) 0 [awA 3 5 7 9] (by decide) rfl; clear s2 b3)
    | (go_at_call 12; go_must (refine ha1.mono ?_); rintro e w4 ⟨rfl, s4, _⟩))
  have HS1 : Hid (LW w (w4.alloc (.cells #[.string ⟨#[1, 65, 0]⟩, .int .i64 1, .int .i64 1] 37)) gs 4 (0 + 1) [awA 3 5 7 9] ∧ Blk (w4.alloc (.cells #[.string ⟨#[1, 65, 0]⟩, .int .i64 1, .int .i64 1] 37)) w4.heap.size #[.string ⟨#[1, 65, 0]⟩, .int .i64 1, .int .i64 1] 37 ∧ w.heap.size ≤ w4.heap.size) := ⟨s4.below (lay (Below.refl _ _) _), Blk.new _ _ _, s4.bel.size⟩
  clear s4 ha1
  have t1 : True := trivial
  generalize (w4.alloc (.cells #[.string ⟨#[1, 65, 0]⟩, .int .i64 1, .int .i64 1] 37)) = W1 at HS1 ⊢
  generalize w4.heap.size = gq at HS1 ⊢
  go_cut [7, 10] from 27 to 30 (fun A F wx => ∃ (a : Int) (f : Bool), A = .int .i64 a ∧ F = .bool f ∧ wx = W1 ∧ Hid (f = ms a 5 ⟨#[1, 65, 0]⟩ 1 1 ∧ -100 ≤ a ∧ a ≤ 100))
  case first =>
    cases h1 : (bits .and .i64 wrong 1 == 1) with
    | true =>
      go_wp2
      go_meet
      case rel => exact ⟨8 + f, false, rfl, rfl, rfl, by unfold ms; rw [show decide (8 + f = 7) = false from by simp; omega]; rfl, by omega, by omega⟩
    | false =>
      go_wp2
      go_meet
      case rel => exact ⟨7, true, rfl, rfl, rfl, rfl, by omega, by omega⟩
  case rest =>
  obtain ⟨a, f2, rfl, rfl, rfl, H1⟩ := hcut
  go_upto_if 33 with fail
  go_cut [8, 10] from 33 to 36 (fun I F wx => ∃ (i : Int) (f : Bool), I = .int .i64 i ∧ F = .bool f ∧ wx = wc ∧ Hid (f = ms a i ⟨#[1, 65, 0]⟩ 1 1 ∧ -100 ≤ a ∧ a ≤ 100 ∧ -100 ≤ i ∧ i ≤ 100))
  case first =>
    cases h1 : (bits .and .i64 wrong 2 == 2) with
    | true =>
      go_wp2
      go_meet
      case rel => exact ⟨6 + f, false, rfl, rfl, rfl, by unfold ms; rw [show decide (6 + f = 5) = false from by simp; omega]; simp, H1.out.2.1, H1.out.2.2, by omega, by omega⟩
    | false =>
      go_wp2
      go_meet
      case rel => exact ⟨5, f2, rfl, rfl, rfl, H1.out.1, H1.out.2.1, H1.out.2.2, by omega, by omega⟩
  case rest =>
  obtain ⟨i, f3, rfl, rfl, rfl, H2⟩ := hcut
  clear H1
  go_upto_if 39 with fail
  have HS3 : Hid (LW w wc gs 4 (0 + 1) [awA 3 5 7 9] ∧ Blk wc gq #[.string ⟨#[1, 65, 0]⟩, .int .i64 1, .int .i64 1] 37 ∧ w.heap.size ≤ gq) := HS1
  clear HS1
  go_cut [10] from 39 to 40 (fun F wx => ∃ (n : ByteArray) (f : Bool), F = .bool f ∧ Hid (LW w wx gs 4 (0 + 1) [awA 3 5 7 9] ∧ Blk wx gq #[.string n, .int .i64 1, .int .i64 1] 37 ∧ w.heap.size ≤ gq) ∧ Hid (f = ms a i n 1 1 ∧ n.size ≤ 3))
  case first =>
    have kq := HS3.out.2.1
    have fz := kq.frozen 0
    have c0 := kq.cell 0
    simp only [List.getElem?_toArray, List.getElem?_cons_zero] at c0
    cases h1 : (bits .and .i64 wrong 4 == 4) with
    | true =>
      go_wp2
      go_meet
      case rel => exact ⟨⟨#[1, 98, 0]⟩, false, rfl, ⟨HS3.out.1.set kq (by decide) (by decide) HS3.out.2.2 0 _, kq.set 0 _, HS3.out.2.2⟩, by unfold ms; rw [show sameB [1, 97, 0] (ByteArray.mk #[1, 98, 0]).data.toList = false from by decide]; simp, by decide⟩
    | false =>
      go_wp2
      go_meet
      case rel => exact ⟨⟨#[1, 65, 0]⟩, f3, rfl, HS3.out, H2.out.1, by decide⟩
  case rest =>
  obtain ⟨n, f4, rfl, HS4, H3⟩ := hcut
  clear HS3
  go_upto_if 43 with fail
  go_cut [10] from 43 to 47 (fun F wx => ∃ (t : Int) (f : Bool), F = .bool f ∧ Hid (LW w wx gs 4 (0 + 1) [awA 3 5 7 9] ∧ Blk wx gq #[.string n, .int .i64 t, .int .i64 1] 37 ∧ w.heap.size ≤ gq) ∧ Hid (f = ms a i n t 1 ∧ -100 ≤ t ∧ t ≤ 100))
  case first =>
    have kq := HS4.out.2.1
    have fz := kq.frozen 1
    have c0 := kq.cell 1
    simp only [List.getElem?_toArray, List.getElem?_cons_succ, List.getElem?_cons_zero] at c0
    cases h1 : (bits .and .i64 wrong 8 == 8) with
    | true =>
      go_wp2
      go_meet
      case rel => exact ⟨2 + f, false, rfl, ⟨HS4.out.1.set kq (by decide) (by decide) HS4.out.2.2 1 _, kq.set 1 _, HS4.out.2.2⟩, by unfold ms; rw [show decide (2 + f = 1) = false from by simp; omega]; simp, by omega, by omega⟩
    | false =>
      go_wp2
      go_meet
      case rel => exact ⟨1, f4, rfl, HS4.out, H3.out.1, by omega, by omega⟩
  case rest =>
  obtain ⟨t, f5, rfl, HS5, H4⟩ := hcut
  clear HS4
  go_upto_if 50 with fail
  go_cut [10] from 50 to 54 (fun F wx => ∃ (cl : Int) (f : Bool), F = .bool f ∧ Hid (LW w wx gs 4 (0 + 1) [awA 3 5 7 9] ∧ Blk wx gq #[.string n, .int .i64 t, .int .i64 cl] 37 ∧ w.heap.size ≤ gq) ∧ Hid (f = ms a i n t cl ∧ -100 ≤ cl ∧ cl ≤ 100))
  case first =>
    have kq := HS5.out.2.1
    have fz := kq.frozen 2
    have c0 := kq.cell 2
    simp only [List.getElem?_toArray, List.getElem?_cons_succ, List.getElem?_cons_zero] at c0
    cases h1 : (bits .and .i64 wrong 16 == 16) with
    | true =>
      go_wp2
      go_meet
      case rel => exact ⟨2 + f, false, rfl, ⟨HS5.out.1.set kq (by decide) (by decide) HS5.out.2.2 2 _, kq.set 2 _, HS5.out.2.2⟩, by unfold ms; rw [show decide (2 + f = 1) = false from by simp; omega]; simp, by omega, by omega⟩
    | false =>
      go_wp2
      go_meet
      case rel => exact ⟨1, f5, rfl, HS5.out, H4.out.1, by omega, by omega⟩
  case rest =>
  obtain ⟨cl, f6, rfl, HS6, H5⟩ := hcut
  clear HS5
  have hmt : mtA (keyQ a i n t cl) (awA 3 5 7 9) = f6 := by rw [ms_mt, H5.out.1]
  have hok : OkK (keyQ a i n t cl) := okQ n (by have := H3.out.2; omega) a i t cl (by have := H2.out; omega) (by have := H2.out; omega) (by have := H4.out; omega) (by have := H5.out; omega)
  have hns : n.size ≤ maxLen := by have := H3.out.2; unfold maxLen; omega
  have kq := HS6.out.2.1
  have hlw := HS6.out.1
  clear H2 H3 H4 H5 HS6
  cases f6 with
  | true =>
    obtain ⟨x1, x2, x3⟩ := ms_yes hmt
    have ht1 := hlw.take a i n t cl hns hok 3 5 7 ⟨#[0]⟩ ⟨#[1, 97, 0]⟩ ⟨#[1, 97, 0]⟩ 1 9 0 _ x1 x2 x3
    clear hlw hmt hok x1 x2 x3
    go_wp2_with (first
      | (refine wpList_loadS _ rfl (.tmp 9) 37 rfl gq _ 37 rfl kq ⟨_, Try.underlying37⟩ (by kernel_rfl) ?_)
      | (go_at_call 14; have _t := t1; go_must (refine ht1.mono ?_); rintro e w5 ⟨rfl, s5, _⟩; have s5' := s5.below (lay (Below.refl _ _) (.cells #[.int .i64 3, .int .i64 5, .int .i64 7, .string ⟨#[0]⟩, .string ⟨#[1, 97, 0]⟩, .string ⟨#[1, 97, 0]⟩, .int .i64 1, .int .i64 9] 35)); have k5 := Blk.new w5 #[.int .i64 3, .int .i64 5, .int .i64 7, .string ⟨#[0]⟩, .string ⟨#[1, 97, 0]⟩, .string ⟨#[1, 97, 0]⟩, .int .i64 1, .int .i64 9] 35; obtain ⟨x1, x2, x3⟩ := ms_gone (keyQ 7 5 ⟨#[1, 97, 0]⟩ 1 1); have ht2 := s5'.take 7 5 ⟨#[1, 97, 0]⟩ 1 1 (by decide) (okQ _ (by decide) 7 5 1 1 (by decide) (by decide) (by decide) (by decide)) 0 0 0 ⟨#[]⟩ ⟨#[]⟩ ⟨#[]⟩ 0 0 1902 _ x1 x2 x3; clear t1 s5 s5' x1 x2 x3)
      | (go_at_call 14; go_must (refine ht2.mono ?_); rintro e w6 ⟨rfl, s6, p6⟩; have k6 := (p6.blk _ _ _ (by decide) (by decide) k5); have k7 := k6.below (lay (Below.refl _ _) (.cells #[.int .i64 0, .int .i64 0, .int .i64 0, .string ⟨#[]⟩, .string ⟨#[]⟩, .string ⟨#[]⟩, .int .i64 0, .int .i64 0] 35)); have s7 := s6.below (lay (Below.refl w6.heap.size w6) (.cells #[.int .i64 0, .int .i64 0, .int .i64 0, .string ⟨#[]⟩, .string ⟨#[]⟩, .string ⟨#[]⟩, .int .i64 0, .int .i64 0] 35))))
    have HSS : Hid (∀ u, Below (w6.alloc (.cells #[.int .i64 0, .int .i64 0, .int .i64 0, .string ⟨#[]⟩, .string ⟨#[]⟩, .string ⟨#[]⟩, .int .i64 0, .int .i64 0] 35)).heap.size (w6.alloc (.cells #[.int .i64 0, .int .i64 0, .int .i64 0, .string ⟨#[]⟩, .string ⟨#[]⟩, .string ⟨#[]⟩, .int .i64 0, .int .i64 0] 35)) u → u.cell? ⟨w5.heap.size, 0, none⟩ = some (.int .i64 3) ∧ u.cell? ⟨w5.heap.size, 1, none⟩ = some (.int .i64 5) ∧ u.cell? ⟨w5.heap.size, 2, none⟩ = some (.int .i64 7) ∧ u.cell? ⟨w5.heap.size, 3, none⟩ = some (.string ⟨#[0]⟩) ∧ u.cell? ⟨w5.heap.size, 4, none⟩ = some (.string ⟨#[1, 97, 0]⟩) ∧ u.cell? ⟨w5.heap.size, 5, none⟩ = some (.string ⟨#[1, 97, 0]⟩) ∧ u.cell? ⟨w5.heap.size, 6, none⟩ = some (.int .i64 1) ∧ u.cell? ⟨w5.heap.size, 7, none⟩ = some (.int .i64 9)) := fun u hb => by
      have k8 := k7.below hb
      exact ⟨k8.cell 0, k8.cell 1, k8.cell 2, k8.cell 3, k8.cell 4, k8.cell 5, k8.cell 6, k8.cell 7⟩
    have b0 : Below (w6.alloc (.cells #[.int .i64 0, .int .i64 0, .int .i64 0, .string ⟨#[]⟩, .string ⟨#[]⟩, .string ⟨#[]⟩, .int .i64 0, .int .i64 0] 35)).heap.size (w6.alloc (.cells #[.int .i64 0, .int .i64 0, .int .i64 0, .string ⟨#[]⟩, .string ⟨#[]⟩, .string ⟨#[]⟩, .int .i64 0, .int .i64 0] 35)) (w6.alloc (.cells #[.int .i64 0, .int .i64 0, .int .i64 0, .string ⟨#[]⟩, .string ⟨#[]⟩, .string ⟨#[]⟩, .int .i64 0, .int .i64 0] 35)).drew := (Below.refl _ _).drew
    have s0 := HSS.out _ b0
    have hask := asked_any 3 5 7 9
    have heq := fun q : World => ak_eq 3 5 7 ⟨#[0]⟩ ⟨#[1, 97, 0]⟩ ⟨#[1, 97, 0]⟩ 1 9 3 5 7 ⟨#[0]⟩ ⟨#[1, 97, 0]⟩ ⟨#[1, 97, 0]⟩ 1 9 true (by decide) q
    have HBE : Hid (Below w.heap.size w (w6.alloc (.cells #[.int .i64 0, .int .i64 0, .int .i64 0, .string ⟨#[]⟩, .string ⟨#[]⟩, .string ⟨#[]⟩, .int .i64 0, .int .i64 0] 35)).drew) := s7.bel.drew
    clear k5 k6 p6 s6 ht2 kq ht1
    have z0 : ∀ nb : Bel (w6.alloc (.cells #[.int .i64 0, .int .i64 0, .int .i64 0, .string ⟨#[]⟩, .string ⟨#[]⟩, .string ⟨#[]⟩, .int .i64 0, .int .i64 0] 35)), nb.to.cell? ⟨w5.heap.size, 0, none⟩ = some (.int .i64 3) := fun nb => (k7.below nb.h).cell 0
    have z1 : ∀ nb : Bel (w6.alloc (.cells #[.int .i64 0, .int .i64 0, .int .i64 0, .string ⟨#[]⟩, .string ⟨#[]⟩, .string ⟨#[]⟩, .int .i64 0, .int .i64 0] 35)), nb.to.cell? ⟨w5.heap.size, 1, none⟩ = some (.int .i64 5) := fun nb => (k7.below nb.h).cell 1
    have z2 : ∀ nb : Bel (w6.alloc (.cells #[.int .i64 0, .int .i64 0, .int .i64 0, .string ⟨#[]⟩, .string ⟨#[]⟩, .string ⟨#[]⟩, .int .i64 0, .int .i64 0] 35)), nb.to.cell? ⟨w5.heap.size, 2, none⟩ = some (.int .i64 7) := fun nb => (k7.below nb.h).cell 2
    have z3 : ∀ nb : Bel (w6.alloc (.cells #[.int .i64 0, .int .i64 0, .int .i64 0, .string ⟨#[]⟩, .string ⟨#[]⟩, .string ⟨#[]⟩, .int .i64 0, .int .i64 0] 35)), nb.to.cell? ⟨w5.heap.size, 3, none⟩ = some (.string ⟨#[0]⟩) := fun nb => (k7.below nb.h).cell 3
    have z4 : ∀ nb : Bel (w6.alloc (.cells #[.int .i64 0, .int .i64 0, .int .i64 0, .string ⟨#[]⟩, .string ⟨#[]⟩, .string ⟨#[]⟩, .int .i64 0, .int .i64 0] 35)), nb.to.cell? ⟨w5.heap.size, 4, none⟩ = some (.string ⟨#[1, 97, 0]⟩) := fun nb => (k7.below nb.h).cell 4
    have z5 : ∀ nb : Bel (w6.alloc (.cells #[.int .i64 0, .int .i64 0, .int .i64 0, .string ⟨#[]⟩, .string ⟨#[]⟩, .string ⟨#[]⟩, .int .i64 0, .int .i64 0] 35)), nb.to.cell? ⟨w5.heap.size, 5, none⟩ = some (.string ⟨#[1, 97, 0]⟩) := fun nb => (k7.below nb.h).cell 5
    have z6 : ∀ nb : Bel (w6.alloc (.cells #[.int .i64 0, .int .i64 0, .int .i64 0, .string ⟨#[]⟩, .string ⟨#[]⟩, .string ⟨#[]⟩, .int .i64 0, .int .i64 0] 35)), nb.to.cell? ⟨w5.heap.size, 6, none⟩ = some (.int .i64 1) := fun nb => (k7.below nb.h).cell 6
    have z7 : ∀ nb : Bel (w6.alloc (.cells #[.int .i64 0, .int .i64 0, .int .i64 0, .string ⟨#[]⟩, .string ⟨#[]⟩, .string ⟨#[]⟩, .int .i64 0, .int .i64 0] 35)), nb.to.cell? ⟨w5.heap.size, 7, none⟩ = some (.int .i64 9) := fun nb => (k7.below nb.h).cell 7
    clear HSS b0 s0 k7
    refine wp_region_bel (by kernel_rfl) (by kernel_rfl) (fun _ => ?_)
    repeat (go_big_quiet_step (first
      | (go_at_call 10; go_must (exact bel_same (num_any _ _)))
      | (go_at_call 22; go_must (exact bel_lays (hask _)))))
    refine wpQuiet_nil ?_
    intro wn hwn
    have HB11 := next s7.bel (bel_out hwn)
    go_wp2
    go_ret
    exact ⟨rfl, HB11⟩
  | false =>
    obtain ⟨x1, x2, x3⟩ := ms_no hmt
    have ht1 := hlw.take a i n t cl hns hok 0 0 0 ⟨#[]⟩ ⟨#[]⟩ ⟨#[]⟩ 0 0 1902 _ x1 x2 x3
    clear hlw hmt hok x1 x2 x3
    go_wp2_with (first
      | (refine wpList_loadS _ rfl (.tmp 9) 37 rfl gq _ 37 rfl kq ⟨_, Try.underlying37⟩ (by kernel_rfl) ?_)
      | (go_at_call 14; have _t := t1; go_must (refine ht1.mono ?_); rintro e w5 ⟨rfl, s5, _⟩; have s5' := s5.below (lay (Below.refl _ _) (.cells #[.int .i64 0, .int .i64 0, .int .i64 0, .string ⟨#[]⟩, .string ⟨#[]⟩, .string ⟨#[]⟩, .int .i64 0, .int .i64 0] 35)); have k5 := Blk.new w5 #[.int .i64 0, .int .i64 0, .int .i64 0, .string ⟨#[]⟩, .string ⟨#[]⟩, .string ⟨#[]⟩, .int .i64 0, .int .i64 0] 35; obtain ⟨x1, x2, x3⟩ := ms_again; have ht2 := s5'.take 7 5 ⟨#[1, 97, 0]⟩ 1 1 (by decide) (okQ _ (by decide) 7 5 1 1 (by decide) (by decide) (by decide) (by decide)) 3 5 7 ⟨#[0]⟩ ⟨#[1, 97, 0]⟩ ⟨#[1, 97, 0]⟩ 1 9 0 _ x1 x2 x3; clear t1 s5 s5' x1 x2 x3)
      | (go_at_call 14; go_must (refine ht2.mono ?_); rintro e w6 ⟨rfl, s6, p6⟩; have k6 := (p6.blk _ _ _ (by decide) (by decide) k5); have k7 := k6.below (lay (Below.refl _ _) (.cells #[.int .i64 3, .int .i64 5, .int .i64 7, .string ⟨#[0]⟩, .string ⟨#[1, 97, 0]⟩, .string ⟨#[1, 97, 0]⟩, .int .i64 1, .int .i64 9] 35)); have s7 := s6.below (lay (Below.refl w6.heap.size w6) (.cells #[.int .i64 3, .int .i64 5, .int .i64 7, .string ⟨#[0]⟩, .string ⟨#[1, 97, 0]⟩, .string ⟨#[1, 97, 0]⟩, .int .i64 1, .int .i64 9] 35))))
    have HSS : Hid (∀ u, Below (w6.alloc (.cells #[.int .i64 3, .int .i64 5, .int .i64 7, .string ⟨#[0]⟩, .string ⟨#[1, 97, 0]⟩, .string ⟨#[1, 97, 0]⟩, .int .i64 1, .int .i64 9] 35)).heap.size (w6.alloc (.cells #[.int .i64 3, .int .i64 5, .int .i64 7, .string ⟨#[0]⟩, .string ⟨#[1, 97, 0]⟩, .string ⟨#[1, 97, 0]⟩, .int .i64 1, .int .i64 9] 35)) u → u.cell? ⟨w5.heap.size, 0, none⟩ = some (.int .i64 0) ∧ u.cell? ⟨w5.heap.size, 1, none⟩ = some (.int .i64 0) ∧ u.cell? ⟨w5.heap.size, 2, none⟩ = some (.int .i64 0) ∧ u.cell? ⟨w5.heap.size, 3, none⟩ = some (.string ⟨#[]⟩) ∧ u.cell? ⟨w5.heap.size, 4, none⟩ = some (.string ⟨#[]⟩) ∧ u.cell? ⟨w5.heap.size, 5, none⟩ = some (.string ⟨#[]⟩) ∧ u.cell? ⟨w5.heap.size, 6, none⟩ = some (.int .i64 0) ∧ u.cell? ⟨w5.heap.size, 7, none⟩ = some (.int .i64 0)) := fun u hb => by
      have k8 := k7.below hb
      exact ⟨k8.cell 0, k8.cell 1, k8.cell 2, k8.cell 3, k8.cell 4, k8.cell 5, k8.cell 6, k8.cell 7⟩
    have b0 : Below (w6.alloc (.cells #[.int .i64 3, .int .i64 5, .int .i64 7, .string ⟨#[0]⟩, .string ⟨#[1, 97, 0]⟩, .string ⟨#[1, 97, 0]⟩, .int .i64 1, .int .i64 9] 35)).heap.size (w6.alloc (.cells #[.int .i64 3, .int .i64 5, .int .i64 7, .string ⟨#[0]⟩, .string ⟨#[1, 97, 0]⟩, .string ⟨#[1, 97, 0]⟩, .int .i64 1, .int .i64 9] 35)) (w6.alloc (.cells #[.int .i64 3, .int .i64 5, .int .i64 7, .string ⟨#[0]⟩, .string ⟨#[1, 97, 0]⟩, .string ⟨#[1, 97, 0]⟩, .int .i64 1, .int .i64 9] 35)).drew := (Below.refl _ _).drew
    have s0 := HSS.out _ b0
    have hask := asked_any 3 5 7 9
    have heq := fun q : World => ak_eq 0 0 0 ⟨#[]⟩ ⟨#[]⟩ ⟨#[]⟩ 0 0 0 0 0 ⟨#[]⟩ ⟨#[]⟩ ⟨#[]⟩ 0 0 true (by decide) q
    have HBE : Hid (Below w.heap.size w (w6.alloc (.cells #[.int .i64 3, .int .i64 5, .int .i64 7, .string ⟨#[0]⟩, .string ⟨#[1, 97, 0]⟩, .string ⟨#[1, 97, 0]⟩, .int .i64 1, .int .i64 9] 35)).drew) := s7.bel.drew
    clear k5 k6 p6 s6 ht2 kq ht1
    have z0 : ∀ nb : Bel (w6.alloc (.cells #[.int .i64 3, .int .i64 5, .int .i64 7, .string ⟨#[0]⟩, .string ⟨#[1, 97, 0]⟩, .string ⟨#[1, 97, 0]⟩, .int .i64 1, .int .i64 9] 35)), nb.to.cell? ⟨w5.heap.size, 0, none⟩ = some (.int .i64 0) := fun nb => (k7.below nb.h).cell 0
    have z1 : ∀ nb : Bel (w6.alloc (.cells #[.int .i64 3, .int .i64 5, .int .i64 7, .string ⟨#[0]⟩, .string ⟨#[1, 97, 0]⟩, .string ⟨#[1, 97, 0]⟩, .int .i64 1, .int .i64 9] 35)), nb.to.cell? ⟨w5.heap.size, 1, none⟩ = some (.int .i64 0) := fun nb => (k7.below nb.h).cell 1
    have z2 : ∀ nb : Bel (w6.alloc (.cells #[.int .i64 3, .int .i64 5, .int .i64 7, .string ⟨#[0]⟩, .string ⟨#[1, 97, 0]⟩, .string ⟨#[1, 97, 0]⟩, .int .i64 1, .int .i64 9] 35)), nb.to.cell? ⟨w5.heap.size, 2, none⟩ = some (.int .i64 0) := fun nb => (k7.below nb.h).cell 2
    have z3 : ∀ nb : Bel (w6.alloc (.cells #[.int .i64 3, .int .i64 5, .int .i64 7, .string ⟨#[0]⟩, .string ⟨#[1, 97, 0]⟩, .string ⟨#[1, 97, 0]⟩, .int .i64 1, .int .i64 9] 35)), nb.to.cell? ⟨w5.heap.size, 3, none⟩ = some (.string ⟨#[]⟩) := fun nb => (k7.below nb.h).cell 3
    have z4 : ∀ nb : Bel (w6.alloc (.cells #[.int .i64 3, .int .i64 5, .int .i64 7, .string ⟨#[0]⟩, .string ⟨#[1, 97, 0]⟩, .string ⟨#[1, 97, 0]⟩, .int .i64 1, .int .i64 9] 35)), nb.to.cell? ⟨w5.heap.size, 4, none⟩ = some (.string ⟨#[]⟩) := fun nb => (k7.below nb.h).cell 4
    have z5 : ∀ nb : Bel (w6.alloc (.cells #[.int .i64 3, .int .i64 5, .int .i64 7, .string ⟨#[0]⟩, .string ⟨#[1, 97, 0]⟩, .string ⟨#[1, 97, 0]⟩, .int .i64 1, .int .i64 9] 35)), nb.to.cell? ⟨w5.heap.size, 5, none⟩ = some (.string ⟨#[]⟩) := fun nb => (k7.below nb.h).cell 5
    have z6 : ∀ nb : Bel (w6.alloc (.cells #[.int .i64 3, .int .i64 5, .int .i64 7, .string ⟨#[0]⟩, .string ⟨#[1, 97, 0]⟩, .string ⟨#[1, 97, 0]⟩, .int .i64 1, .int .i64 9] 35)), nb.to.cell? ⟨w5.heap.size, 6, none⟩ = some (.int .i64 0) := fun nb => (k7.below nb.h).cell 6
    have z7 : ∀ nb : Bel (w6.alloc (.cells #[.int .i64 3, .int .i64 5, .int .i64 7, .string ⟨#[0]⟩, .string ⟨#[1, 97, 0]⟩, .string ⟨#[1, 97, 0]⟩, .int .i64 1, .int .i64 9] 35)), nb.to.cell? ⟨w5.heap.size, 7, none⟩ = some (.int .i64 0) := fun nb => (k7.below nb.h).cell 7
    clear HSS b0 s0 k7
    refine wp_region_bel (by kernel_rfl) (by kernel_rfl) (fun _ => ?_)
    repeat (go_big_quiet_step (first
      | (go_at_call 10; go_must (exact bel_same (num_any _ _)))
      | (go_at_call 22; go_must (exact bel_lays (hask _)))))
    refine wpQuiet_nil ?_
    intro wn hwn
    have HB11 := next s7.bel (bel_out hwn)
    go_wp2
    go_ret
    exact ⟨rfl, HB11⟩

end Ou
end Go.Proofs.Ytbldoplemfjcjaa
