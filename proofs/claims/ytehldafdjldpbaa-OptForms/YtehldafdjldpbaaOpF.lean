/- What Get of package opt gives. -/
import Derived.Test.YtehldafdjldpbaaOpE
namespace Go.Proofs.Ytehldafdjldpbaa
open Go.RowKit

/-- What Get answers. -/
def GetOP (w : World) (O : Ot) (E : Int) (e : Ending) (w' : World) : Prop :=
  ∃ (y : Option Addr) (n cap : Nat), e = .returned (.tuple #[.agg (optC O (.slice y n cap)), .int .i64 E]) ∧ w'.ownsRow w.heap.size 52 2 (.slice y n cap) O.os.length (oC O.os) ∧ Below w.heap.size w w'

theorem get_blks (w : World) (r : Rc) : Blk ((w.alloc (.cells (rrC r) 26)).alloc (.cells (optC otZ (.slice none 0 0)) 24)) w.heap.size (rrC r) 26 ∧ Blk ((w.alloc (.cells (rrC r) 26)).alloc (.cells (optC otZ (.slice none 0 0)) 24)) (w.heap.size + 1) (optC otZ (.slice none 0 0)) 24 ∧ Below w.heap.size w ((w.alloc (.cells (rrC r) 26)).alloc (.cells (optC otZ (.slice none 0 0)) 24)) := by
  have h2 := Blk.new (w.alloc (.cells (rrC r) 26)) (optC otZ (.slice none 0 0)) 24
  rw [show (w.alloc (.cells (rrC r) 26)).heap.size = w.heap.size + 1 from by simp] at h2
  exact ⟨(Blk.new w (rrC r) 26).alloc _, h2, lay (lay (Below.refl _ _) _) _⟩

set_option maxRecDepth 20000 in
set_option maxHeartbeats 1000000 in
theorem optGet_any (r : Rc) (w : World) (hd : r.d.size ≤ maxLen) : Calls Try.prog 11 #[.agg (rrC r)] w (GetOP w (getO r) (getE r)) := by
  obtain ⟨KA, KB, hb⟩ := get_blks w r
  have K1 := fun u => mayRecordO_any r u hd
  cases hm : mayRc r with
  | false =>
    have HR : Hid (getO r = otZ ∧ getE r = 800) := get_no hm
    rw [hm] at K1
    clear hm
    obtain ⟨n, t, c, l, d⟩ := r
    unfold rrC at *
    simp only at *
    go_enter Try.func11, Try.ntmps11
    go_wp2_with (go_at_call 28; go_must (refine (K1 _).mono ?_); rintro e w1 ⟨rfl, b1⟩; replace KB := KB.below b1; replace hb := next hb b1; obtain ⟨f0, f1, f2, f3, f4, f5⟩ := KB.six; obtain ⟨e0, e1, e2, e3, e4, e5⟩ := KB.open6; clear b1)
    have q := set6_blk (o := otZ) (v := .slice none 0 0) KB
    have qb := set6_below hb (Nat.le_succ _) hb.size otZ (.slice none 0 0)
    change bodyPost Try.prog Try.f11 _ _ _ (set6 w1 (w.heap.size + 1) otZ (.slice none 0 0))
    revert q qb
    generalize set6 w1 (w.heap.size + 1) otZ (.slice none 0 0) = W
    intro q qb
    obtain ⟨q0, q1, q2, q3, q4, q5⟩ := q.six
    refine bodyPost_ret (v := .tuple #[.agg (optC otZ (.slice none 0 0)), .int .i64 800]) (by simp [results, Try.results11, go_sem, q0, q1, q2, q3, q4, q5, optC]) rfl ?_
    rw [HR.out.1, HR.out.2]
    exact ⟨_, _, _, rfl, World.ownsRow_nil _ _ _ _, qb⟩
  | true =>
    rw [hm] at K1
    have hm' := hm
    unfold mayRc at hm'
    simp only [Bool.and_eq_true, decide_eq_true_eq] at hm'
    obtain ⟨⟨⟨-, hc⟩, hl⟩, hz⟩ := hm'
    replace hl := fitO_iff.1 hl
    have K2 := fun u => getOptions_any r.d u hz
    cases hrd : rdL r.d.data.toList with
    | none =>
      have HR : Hid (getO r = otZ ∧ getE r = 800) := get_none hrd
      have K2' : ∀ u, Calls Try.prog 29 #[.string r.d] u fun e w' => ∃ (y : Option Addr) (n cap : Nat), e = .returned (.tuple #[.slice y n cap, .bool false]) ∧ Below u.heap.size u w' := fun u => (K2 u).mono fun e w' ⟨y, n, cap, ok, he, hb, h⟩ => by
        rcases h with ⟨_, os, h1, _⟩ | ⟨h1, _⟩
        · rw [hrd] at h1; simp at h1
        · subst h1; exact ⟨y, n, cap, he, hb⟩
      clear hm hrd K2 hd hc hl hz
      obtain ⟨n, t, c, l, d⟩ := r
      unfold rrC at *
      simp only at *
      go_enter Try.func11, Try.ntmps11
      go_wp2_with (first
        | (go_at_call 28; go_must (refine (K1 _).mono ?_); rintro e w1 ⟨rfl, b1⟩; replace KA := KA.below b1; replace KB := KB.below b1; replace hb := next hb b1; have d4 : w1.cell? ⟨w.heap.size, 4, none⟩ = some (.string d) := KA.cell 4; clear b1)
        | (go_at_call 29; go_must (refine (K2' _).mono ?_); rintro e w2 ⟨y, n, cap, rfl, b1⟩; replace KB := KB.below b1; replace hb := next hb b1; obtain ⟨f0, f1, f2, f3, f4, f5⟩ := KB.six; obtain ⟨e0, e1, e2, e3, e4, e5⟩ := KB.open6; clear b1))
      have q := set6_blk (o := otZ) (v := .slice none 0 0) KB
      have qb := set6_below hb (Nat.le_succ _) hb.size otZ (.slice none 0 0)
      change bodyPost Try.prog Try.f11 _ _ _ (set6 w2 (w.heap.size + 1) otZ (.slice none 0 0))
      revert q qb
      generalize set6 w2 (w.heap.size + 1) otZ (.slice none 0 0) = W
      intro q qb
      obtain ⟨q0, q1, q2, q3, q4, q5⟩ := q.six
      refine bodyPost_ret (v := .tuple #[.agg (optC otZ (.slice none 0 0)), .int .i64 800]) (by simp [results, Try.results11, go_sem, q0, q1, q2, q3, q4, q5, optC]) rfl ?_
      rw [HR.out.1, HR.out.2]
      exact ⟨_, _, _, rfl, World.ownsRow_nil _ _ _ _, qb⟩
    | some os =>
      have HR : Hid (getO r = splO r os ∧ getE r = 0) := get_some hm hrd
      have K2' : ∀ u, Calls Try.prog 29 #[.string r.d] u fun e w' => ∃ (y : Option Addr) (n cap : Nat), e = .returned (.tuple #[.slice y n cap, .bool true]) ∧ Below u.heap.size u w' ∧ w'.ownsRow u.heap.size 52 2 (.slice y n cap) os.length (oC os) := fun u => (K2 u).mono fun e w' ⟨y, n, cap, ok, he, hb, h⟩ => by
        rcases h with ⟨h1, os', h2, h3⟩ | ⟨_, h1⟩
        · subst h1
          rw [hrd] at h2
          simp at h2
          subst h2
          exact ⟨y, n, cap, he, hb, h3⟩
        · rw [hrd] at h1; simp at h1
      have K3 := fun u => split_any r.l u hl
      have wl : IntKind.u32.wrap r.l = r.l := by rw [IntKind.wrap_u32]; omega
      clear hm hrd K2 hd hc hz
      obtain ⟨n, t, c, l, d⟩ := r
      unfold rrC at *
      simp only at *
      obtain ⟨E, hE⟩ : ∃ x, l / 16777216 = x := ⟨_, rfl⟩
      obtain ⟨V, hV⟩ : ∃ x, l / 65536 % 256 = x := ⟨_, rfl⟩
      obtain ⟨D, hD⟩ : ∃ x, (l / 32768 % 2 == 1) = x := ⟨_, rfl⟩
      obtain ⟨Z, hZ⟩ : ∃ x, l % 32768 = x := ⟨_, rfl⟩
      have HS : Hid (splO ⟨n, t, c, l, d⟩ os = ⟨c, E, V, D, Z, os⟩) := by unfold Hid splO; rw [hE, hV, hD, hZ]
      rw [hE, hV, hD, hZ] at K3
      unfold optC at K3
      simp only at K3
      clear hE hV hD hZ
      go_enter Try.func11, Try.ntmps11
      go_wp2_with (first
        | (go_at_call 28; go_must (refine (K1 _).mono ?_); rintro e w1 ⟨rfl, b1⟩; replace KA := KA.below b1; replace KB := KB.below b1; replace hb := next hb b1; have d4 : w1.cell? ⟨w.heap.size, 4, none⟩ = some (.string d) := KA.cell 4; clear b1)
        | (go_at_call 29; go_must (refine (K2' _).mono ?_); rintro e w2 ⟨y, m, cap, rfl, b1, own⟩; have OWN : Hid (w2.ownsRow w.heap.size 52 2 (.slice y m cap) os.length (oC os)) := own_base own hb.size; replace KA := KA.below b1; replace KB := KB.below b1; replace hb := next hb b1; have d3 : w2.cell? ⟨w.heap.size, 3, none⟩ = some (.int .i64 l) := KA.cell 3; clear b1 own d4)
        | (go_at_call 30; go_must (refine (K3 _).mono ?_); rintro e w3 ⟨rfl, b1⟩; replace OWN : Hid (w3.ownsRow w.heap.size 52 2 (.slice y m cap) os.length (oC os)) := own_past OWN.out b1; replace KA := KA.below b1; replace KB := KB.below b1; replace hb := next hb b1; have d2 : (w3.alloc (.cells #[.int .i64 0, .int .i64 E, .int .i64 V, .bool D, .int .i64 Z, .slice none 0 0] 24)).cell? ⟨w.heap.size, 2, none⟩ = some (.int .i64 c) := (KA.alloc _).cell 2; have KB2 := KB.alloc (.cells #[.int .i64 c, .int .i64 E, .int .i64 V, .bool D, .int .i64 Z, .slice y m cap] 24); obtain ⟨f0, f1, f2, f3, f4, f5⟩ := KB2.six; obtain ⟨e0, e1, e2, e3, e4, e5⟩ := KB2.open6; clear b1 d3))
      have hb2 := lay hb (.cells #[.int .i64 c, .int .i64 E, .int .i64 V, .bool D, .int .i64 Z, .slice y m cap] 24)
      have q := set6_blk (o := ⟨c, E, V, D, Z, os⟩) (v := .slice y m cap) KB2
      have qt := set6_turn (w3.alloc (.cells #[.int .i64 c, .int .i64 E, .int .i64 V, .bool D, .int .i64 Z, .slice y m cap] 24)) (w.heap.size + 1) ⟨c, E, V, D, Z, os⟩ (.slice y m cap)
      have qb := set6_below hb2 (Nat.le_succ _) hb2.size ⟨c, E, V, D, Z, os⟩ (.slice y m cap)
      have qo := qt.row (OWN.out.alloc _) (fun k hk e => own_sep (OWN.out.alloc _) KB2 (by decide) (by rw [hk, e]))
      change bodyPost Try.prog Try.f11 _ _ _ (set6 (w3.alloc (.cells #[.int .i64 c, .int .i64 E, .int .i64 V, .bool D, .int .i64 Z, .slice y m cap] 24)) (w.heap.size + 1) ⟨c, E, V, D, Z, os⟩ (.slice y m cap))
      clear qt
      revert q qb qo
      generalize set6 (w3.alloc (.cells #[.int .i64 c, .int .i64 E, .int .i64 V, .bool D, .int .i64 Z, .slice y m cap] 24)) (w.heap.size + 1) ⟨c, E, V, D, Z, os⟩ (.slice y m cap) = W
      intro q qb qo
      obtain ⟨q0, q1, q2, q3, q4, q5⟩ := q.six
      refine bodyPost_ret (v := .tuple #[.agg (optC ⟨c, E, V, D, Z, os⟩ (.slice y m cap)), .int .i64 0]) (by simp [results, Try.results11, go_sem, q0, q1, q2, q3, q4, q5, optC]) rfl ?_
      rw [HR.out.1, HR.out.2, HS.out]
      exact ⟨_, _, _, rfl, qo, qb⟩

end Go.Proofs.Ytehldafdjldpbaa
