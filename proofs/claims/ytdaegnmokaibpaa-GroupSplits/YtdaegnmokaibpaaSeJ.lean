/- awake of the statements over package sets. -/
import Derived.Test.YtdaegnmokaibpaaSeG
import Derived.Test.YtdaegnmokaibpaaSeI
import Derived.Laws.StructEq
namespace Go.Proofs.Ytdaegnmokaibpaa
open Go.RowKit
open Pl

/-- What awake asks for. -/
def awA : Rc := ⟨⟨#[1, 65, 0]⟩, 1, 1, 9, ⟨#[98, 98, 98, 98]⟩⟩
def awB : Rc := ⟨⟨#[1, 65, 0]⟩, 1, 1, 5, ⟨#[97, 97, 97, 97]⟩⟩
def awS : Sn := ⟨⟨#[1, 97, 0]⟩, 1, 5, [⟨#[97, 97, 97, 97]⟩, ⟨#[98, 98, 98, 98]⟩]⟩
theorem aw11_1 : grpS [awA, awB, awA] = [awS] := by kernel_rfl
theorem aw11_2 : badG [awA, awB, awA] = false := by kernel_rfl
theorem aw11_3 : badG [⟨⟨#[]⟩, 0, 0, 0, ⟨#[]⟩⟩] = true := by kernel_rfl

theorem ps_one {ps : List (Sn × Value)} {s : Sn} (h : ps.map Prod.fst = [s]) : ∃ v, ps = [(s, v)] := by
  match ps, h with
  | [(s', v)], h => simp at h; subst h; exact ⟨v, rfl⟩
/-- A row of records that was laid. -/
theorem rrow_blk {w : World} {g : Nat} {C : Array Value} {rs : List Rc} (h : Blk w g C 43) (hx : C.toList = rC rs) (hn : rs.length ≤ 1000) (hs : ∀ r ∈ rs, r.n.size ≤ 100000 ∧ r.d.size ≤ 100000) : RRow w (.slice (some ⟨g, 0, none⟩) rs.length rs.length) rs :=
  ⟨Row.of_blk h hx _ _, small100 (by omega), fun r hr => ⟨small100 (hs r hr).1, small100 (hs r hr).2⟩⟩
theorem GS.row {B : Nat} {w : World} {v : Value} {ps : List (Sn × Value)} (h : GS B w v ps) {k : Nat} (hk : k < ps.length) : Row w ps[k].2 ps[k].1.ds.length (tC ps[k].1.ds) := Row.of_own (h.dat _ (List.getElem_mem hk))

theorem GS.base {B B' : Nat} {w : World} {v : Value} {ps : List (Sn × Value)} (h : GS B w v ps) (hB : B' ≤ B) : GS B' w v ps := ⟨own_base h.own hB, fun p hp => own_base (h.dat p hp) hB, h.sep⟩
theorem aw_cells {B : Nat} {w : World} {g c : Nat} {v : Value} (h : GS B w (.slice (some ⟨g, 0, none⟩) 1 c) [(awS, v)]) : w.cell? ⟨g, 0, none⟩ = some (.string ⟨#[1, 97, 0]⟩) ∧ w.cell? ⟨g, 1, none⟩ = some (.int .i64 1) ∧ w.cell? ⟨g, 2, none⟩ = some (.int .i64 5) ∧ w.cell? ⟨g, 3, none⟩ = some v :=
  (own_four h.own (k := 0) (by simp)).1
theorem aw_rec {B : Nat} {w : World} {g c : Nat} {r : Rc} (h : w.ownsRow B 43 5 (.slice (some ⟨g, 0, none⟩) 1 c) 1 (rC [r])) : w.cell? ⟨g, 0, none⟩ = some (.string r.n) ∧ w.cell? ⟨g, 1, none⟩ = some (.int .i64 r.t) ∧ w.cell? ⟨g, 2, none⟩ = some (.int .i64 r.c) ∧ w.cell? ⟨g, 3, none⟩ = some (.int .i64 r.l) ∧ w.cell? ⟨g, 4, none⟩ = some (.string r.d) := by
  refine ⟨?_, ?_, ?_, ?_, ?_⟩ <;> rw [h.cellAt _ (by decide)] <;> rfl
theorem blk3 (w : World) (o o' : Obj) (C : Array Value) (t : TypeId) : Blk (((w.alloc o).alloc o').alloc (.cells C t)) (w.heap.size + 1 + 1) C t := by
  have := Blk.new ((w.alloc o).alloc o') C t
  rw [World.size_alloc, World.size_alloc] at this
  exact this
theorem aw_group1 (u : World) (g : Nat) (h : Blk u g (rC [awA, awB, awA]).toArray 43) : Calls Try.prog 10 #[.slice (some ⟨g, 0, none⟩) 3 3] u fun e w' => ∃ (g c : Nat) (y : Option Addr) (c' : Nat), e = .returned (.tuple #[.slice (some ⟨g, 0, none⟩) 1 c, .int .i64 0]) ∧ GS u.heap.size w' (.slice (some ⟨g, 0, none⟩) 1 c) [(awS, .slice y 2 c')] ∧ Below u.heap.size u w' :=
  (group_ok _ [awA, awB, awA] u (rrow_blk h (by simp) (by decide) (by intro r hr; simp at hr; rcases hr with rfl | rfl | rfl <;> decide)) aw11_2).mono fun e w' ⟨y, c, ps, h1, h2, h3, h4⟩ => by
    rw [aw11_1] at h2
    obtain ⟨v, rfl⟩ := ps_one h2
    obtain ⟨g, cap, hv, _, _⟩ := h3.own.form (by simp)
    simp only [Value.slice.injEq] at hv
    obtain ⟨rfl, -, rfl⟩ := hv
    obtain ⟨y, c', hv⟩ := row_shape (h3.dat (awS, v) (by simp))
    have hv' : v = .slice y 2 c' := hv
    subst hv'
    exact ⟨g, c, y, c', h1, h3, h4⟩
theorem aw_group2 (u : World) (g : Nat) (h : Blk u g #[.string ⟨#[]⟩, .int .i64 0, .int .i64 0, .int .i64 0, .string ⟨#[]⟩] 43) : Calls Try.prog 10 #[.slice (some ⟨g, 0, none⟩) 1 1] u fun e w' => e = .returned (.tuple #[.slice none 0 0, .int .i64 1100]) ∧ Below u.heap.size u w' :=
  group_bad _ [⟨⟨#[]⟩, 0, 0, 0, ⟨#[]⟩⟩] u (rrow_blk (rs := [⟨⟨#[]⟩, 0, 0, 0, ⟨#[]⟩⟩]) h (by simp [rC, rV]) (by decide) (by intro r hr; simp at hr; subst hr; decide)) aw11_3
theorem aw_rrs (u : World) (g : Nat) (h : Blk u g #[.string ⟨#[97, 97, 97, 97]⟩] 9) : Calls Try.prog 13 #[.agg #[.string ⟨#[1, 97, 0]⟩, .int .i64 1, .int .i64 5, .slice (some ⟨g, 0, none⟩) 1 1]] u fun e w' => ∃ g c, e = .returned (.slice (some ⟨g, 0, none⟩) 1 c) ∧ w'.ownsRow u.heap.size 43 5 (.slice (some ⟨g, 0, none⟩) 1 c) 1 (rC [⟨⟨#[1, 97, 0]⟩, 1, 1, 5, ⟨#[97, 97, 97, 97]⟩⟩]) ∧ Below u.heap.size u w' :=
  (rrs_any ⟨#[1, 97, 0]⟩ 1 5 _ [⟨#[97, 97, 97, 97]⟩] u (Row.of_blk h (by simp [tC]) 1 1) (by decide) (by intro d hd; simp at hd; subst hd; decide) (by decide)).mono fun e w' ⟨y, c, h1, h2, h3⟩ => by
    obtain ⟨g, cap, hv, _, _⟩ := h2.form (by simp)
    simp only [Value.slice.injEq] at hv
    obtain ⟨rfl, -, rfl⟩ := hv
    exact ⟨g, c, h1, h2, h3⟩
theorem aw_same {B : Nat} {u w1 : World} {v : Value} {y : Option Addr} {c' : Nat} (h : GS B u v [(awS, .slice y 2 c')]) (hb : Below u.heap.size u w1) : Calls Try.prog 22 #[.agg #[.string ⟨#[1, 97, 0]⟩, .int .i64 1, .int .i64 5, .slice y 2 c'], .agg #[.string ⟨#[1, 97, 0]⟩, .int .i64 1, .int .i64 5, .slice (some ⟨w1.heap.size, 0, none⟩) 2 2]] (w1.alloc (.cells #[.string ⟨#[97, 97, 97, 97]⟩, .string ⟨#[98, 98, 98, 98]⟩] 9)) fun e w' => e = .returned (.bool true) ∧ Below (w1.alloc (.cells #[.string ⟨#[97, 97, 97, 97]⟩, .string ⟨#[98, 98, 98, 98]⟩] 9)).heap.size (w1.alloc (.cells #[.string ⟨#[97, 97, 97, 97]⟩, .string ⟨#[98, 98, 98, 98]⟩] 9)) w' := by
  have h1 := (h.below (next hb (lay (Below.refl _ _) (.cells #[.string ⟨#[97, 97, 97, 97]⟩, .string ⟨#[98, 98, 98, 98]⟩] 9)))).row (k := 0) (by simp)
  exact sameS_any _ _ _ _ [⟨#[97, 97, 97, 97]⟩, ⟨#[98, 98, 98, 98]⟩] _ _ _ _ [⟨#[97, 97, 97, 97]⟩, ⟨#[98, 98, 98, 98]⟩] _ h1 (Row.of_blk (Blk.new w1 _ 9) rfl 2 2) (by decide) (by decide) true (by simp)

set_option maxRecDepth 20000 in
set_option maxHeartbeats 2000000 in
theorem awake_any (w : World) : Calls Try.prog 21 #[] w fun e w' => e = .returned (.bool true) ∧ Below w.heap.size w w' := by
  have hb : Below w.heap.size w w := Below.refl _ _
  have t1 : True := trivial
  have t2 : True := trivial
  go_enter Try.func21, Try.ntmps21
  go_wp2_with (first
    | (go_at_call 10; have _t := t1; go_must (refine (aw_group1 _ _ (blk3 _ _ _ _ _)).mono ?_); rintro e w1 ⟨g, c, y, c', rfl, gs, b1⟩; have HG : Hid (GS w.heap.size w1 (.slice (some ⟨g, 0, none⟩) 1 c) [(awS, .slice y 2 c')]) := gs.base (lay (lay (lay hb _) _) _).size; replace hb := next (lay (lay (lay hb _) _) _) b1; clear gs b1 t1)
    | (go_at_call 13; go_must (refine (aw_rrs _ _ (Blk.new _ _ _)).mono ?_); rintro e w2 ⟨g2, c2, rfl, o2, b2⟩; have HO : Hid (w2.ownsRow w.heap.size 43 5 (.slice (some ⟨g2, 0, none⟩) 1 c2) 1 (rC [⟨⟨#[1, 97, 0]⟩, 1, 1, 5, ⟨#[97, 97, 97, 97]⟩⟩])) := own_base o2 (lay hb _).size; replace HG : Hid (GS w.heap.size w2 (.slice (some ⟨g, 0, none⟩) 1 c) [(awS, .slice y 2 c')]) := HG.out.below (next (lay (Below.refl _ _) _) b2); replace hb := next (lay hb _) b2; clear o2 b2)
    | (go_at_call 10; have _t := t2; go_must (refine (aw_group2 _ _ (Blk.new _ _ _)).mono ?_); rintro e w3 ⟨rfl, b3⟩; replace HO : Hid (w3.ownsRow w.heap.size 43 5 (.slice (some ⟨g2, 0, none⟩) 1 c2) 1 (rC [⟨⟨#[1, 97, 0]⟩, 1, 1, 5, ⟨#[97, 97, 97, 97]⟩⟩])) := own_past HO.out (next (lay (Below.refl _ _) _) b3); replace HG : Hid (GS w.heap.size w3 (.slice (some ⟨g, 0, none⟩) 1 c) [(awS, .slice y 2 c')]) := HG.out.below (next (lay (Below.refl _ _) _) b3); replace hb := next (lay hb _) b3; obtain ⟨a0, a1, a2, a3⟩ := aw_cells HG.out; clear b3 t2)
    | (go_at_call 22; go_must (refine (aw_same HG.out (Below.refl _ _)).mono ?_); rintro e w4 ⟨rfl, b4⟩; obtain ⟨x0, x1, x2, x3, x4⟩ := aw_rec (own_past HO.out (next (lay (Below.refl _ _) _) b4)); replace hb := next (lay hb _) b4; clear b4)
    | (go_at_call 16; refine (num_any _ _).mono ?_; rintro e w' ⟨rfl, hw⟩; obtain rfl := hw.symm))
  go_ret
  exact ⟨rfl, hb⟩

end Go.Proofs.Ytdaegnmokaibpaa
