/- What SpoilMsg leaves. -/
import Derived.Test.YtnecdpieoipjdaaWlB
namespace Go.Proofs.Ytnecdpieoipjdaa
open Go.RowKit
open Pl

theorem ints_q (qs : List Qn) : Ints (qC qs) 3 1 qs.length := fun j hj => ⟨_, by rw [qC_at hj 1 (by decide)]; rfl⟩
theorem ints_r (rs : List Rc) : Ints (rC rs) 5 3 rs.length := fun j hj => ⟨_, by rw [rC_at hj 3 (by decide)]; rfl⟩

set_option maxRecDepth 20000 in
theorem spoilQ_far {B n cap : Nat} {y : Option Addr} {xs : List Value} {w : World} (hown : w.ownsRow B 58 3 (.slice y n cap) n xs) (hi : Ints xs 3 1 n) (hn : n ≤ maxLen) :
    Calls Try.prog 22 #[.slice y n cap] w fun e w' => e = .returned (.tuple #[]) ∧ Turn (fun k => (Value.slice y n cap).ownBlock = some k) w w' := by
  unfold maxLen at hn
  have HT : Hid (Turn (fun k => (Value.slice y n cap).ownBlock = some k) w w) := Turn.refl _ _
  by_cases h0 : n = 0
  · subst h0
    clear hown hi
    go_enter Try.func22, Try.ntmps22
    go_wp2
    go_loopw [2] (fun i wr => i = .int .i64 0 ∧ wr = w) (fun _ _ => 0)
    case atStart => exact ⟨rfl, rfl⟩
    case round =>
      obtain ⟨rfl, rfl⟩ := hrel
      go_wp2
      go_end0
      exact ⟨rfl, HT.out⟩
  · obtain ⟨g, cap', e1, _, _⟩ := hown.form (by omega)
    simp only [Value.slice.injEq, true_and] at e1
    obtain ⟨rfl, rfl⟩ := e1
    have HS : Hid (w.ownsRow B 58 3 (.slice (some ⟨g, 0, none⟩) n cap) n xs ∧ Ints xs 3 1 n ∧ Turn (fun k => (Value.slice (some ⟨g, 0, none⟩) n cap).ownBlock = some k) w w) := ⟨hown, hi, HT.out⟩
    clear hown hi HT
    go_enter Try.func22, Try.ntmps22
    go_wp2
    go_loopw [2] (fun i wr => ∃ (j : Nat) (xs' : List Value), j ≤ n ∧ i = .int .i64 (j : Int) ∧ Hid (wr.ownsRow B 58 3 (.slice (some ⟨g, 0, none⟩) n cap) n xs' ∧ Ints xs' 3 1 n ∧ Turn (fun k => (Value.slice (some ⟨g, 0, none⟩) n cap).ownBlock = some k) w wr)) (fun i _ => n - (intOf i).toNat)
    case atStart => exact ⟨0, xs, Nat.zero_le _, rfl, HS⟩
    case round =>
      clear HS
      obtain ⟨j, xs', hj, rfl, HS⟩ := hrel
      by_cases hjn : j < n
      · obtain ⟨t, ht⟩ := HS.out.2.1 j hjn
        have c1 : wr.cell? ⟨g, j * 3 + 1, none⟩ = some (.int .i64 t) := by rw [HS.out.1.cellAt (j * 3 + 1) (by omega), ht]
        have f1 := HS.out.1.frozenAt (j * 3 + 1)
        have HST : Hid (∀ x : Int, (wr.setCell ⟨g, j * 3 + 1, none⟩ (.int .i64 x)).ownsRow B 58 3 (.slice (some ⟨g, 0, none⟩) n cap) n (xs'.set (j * 3 + 1) (.int .i64 x)) ∧ Ints (xs'.set (j * 3 + 1) (.int .i64 x)) 3 1 n ∧ Turn (fun k => (Value.slice (some ⟨g, 0, none⟩) n cap).ownBlock = some k) w (wr.setCell ⟨g, j * 3 + 1, none⟩ (.int .i64 x))) := fun x =>
          ⟨(HS.out.1.stored _ _).1, HS.out.2.1.set _ _, HS.out.2.2.same (Turn.of_set (S := fun k => (Value.slice (some ⟨g, 0, none⟩) n cap).ownBlock = some k) wr (p := ⟨g, j * 3 + 1, none⟩) rfl _)⟩
        clear ht
        go_wp2
        go_roundw
        case rel => exact ⟨j + 1, _, by omega, by go_num, HST.out _⟩
        case measure => simp [intOf]; omega
      · have hjn' : decide (j < n) = false := by simpa using hjn
        go_wp2
        go_end0
        exact ⟨rfl, HS.out.2.2⟩
theorem spoilQ_any {B n cap : Nat} {y : Option Addr} {xs : List Value} {w : World} (hown : w.ownsRow B 58 3 (.slice y n cap) n xs) (hi : Ints xs 3 1 n) (hn : n ≤ 1000) :
    Calls Try.prog 22 #[.slice y n cap] w fun e w' => e = .returned (.tuple #[]) ∧ Turn (fun k => (Value.slice y n cap).ownBlock = some k) w w' := spoilQ_far hown hi (by unfold maxLen; omega)

set_option maxRecDepth 20000 in
theorem spoilR_far {B n cap : Nat} {y : Option Addr} {xs : List Value} {w : World} (hown : w.ownsRow B 42 5 (.slice y n cap) n xs) (hi : Ints xs 5 3 n) (hn : n ≤ maxLen) :
    Calls Try.prog 23 #[.slice y n cap] w fun e w' => e = .returned (.tuple #[]) ∧ Turn (fun k => (Value.slice y n cap).ownBlock = some k) w w' := by
  unfold maxLen at hn
  have HT : Hid (Turn (fun k => (Value.slice y n cap).ownBlock = some k) w w) := Turn.refl _ _
  by_cases h0 : n = 0
  · subst h0
    clear hown hi
    go_enter Try.func23, Try.ntmps23
    go_wp2
    go_loopw [2] (fun i wr => i = .int .i64 0 ∧ wr = w) (fun _ _ => 0)
    case atStart => exact ⟨rfl, rfl⟩
    case round =>
      obtain ⟨rfl, rfl⟩ := hrel
      go_wp2
      go_end0
      exact ⟨rfl, HT.out⟩
  · obtain ⟨g, cap', e1, _, _⟩ := hown.form (by omega)
    simp only [Value.slice.injEq, true_and] at e1
    obtain ⟨rfl, rfl⟩ := e1
    have HS : Hid (w.ownsRow B 42 5 (.slice (some ⟨g, 0, none⟩) n cap) n xs ∧ Ints xs 5 3 n ∧ Turn (fun k => (Value.slice (some ⟨g, 0, none⟩) n cap).ownBlock = some k) w w) := ⟨hown, hi, HT.out⟩
    clear hown hi HT
    go_enter Try.func23, Try.ntmps23
    go_wp2
    go_loopw [2] (fun i wr => ∃ (j : Nat) (xs' : List Value), j ≤ n ∧ i = .int .i64 (j : Int) ∧ Hid (wr.ownsRow B 42 5 (.slice (some ⟨g, 0, none⟩) n cap) n xs' ∧ Ints xs' 5 3 n ∧ Turn (fun k => (Value.slice (some ⟨g, 0, none⟩) n cap).ownBlock = some k) w wr)) (fun i _ => n - (intOf i).toNat)
    case atStart => exact ⟨0, xs, Nat.zero_le _, rfl, HS⟩
    case round =>
      clear HS
      obtain ⟨j, xs', hj, rfl, HS⟩ := hrel
      by_cases hjn : j < n
      · obtain ⟨t, ht⟩ := HS.out.2.1 j hjn
        have c1 : wr.cell? ⟨g, j * 5 + 3, none⟩ = some (.int .i64 t) := by rw [HS.out.1.cellAt (j * 5 + 3) (by omega), ht]
        have f1 := HS.out.1.frozenAt (j * 5 + 3)
        have HST : Hid (∀ x : Int, (wr.setCell ⟨g, j * 5 + 3, none⟩ (.int .i64 x)).ownsRow B 42 5 (.slice (some ⟨g, 0, none⟩) n cap) n (xs'.set (j * 5 + 3) (.int .i64 x)) ∧ Ints (xs'.set (j * 5 + 3) (.int .i64 x)) 5 3 n ∧ Turn (fun k => (Value.slice (some ⟨g, 0, none⟩) n cap).ownBlock = some k) w (wr.setCell ⟨g, j * 5 + 3, none⟩ (.int .i64 x))) := fun x =>
          ⟨(HS.out.1.stored _ _).1, HS.out.2.1.set _ _, HS.out.2.2.same (Turn.of_set (S := fun k => (Value.slice (some ⟨g, 0, none⟩) n cap).ownBlock = some k) wr (p := ⟨g, j * 5 + 3, none⟩) rfl _)⟩
        clear ht
        go_wp2
        go_roundw
        case rel => exact ⟨j + 1, _, by omega, by go_num, HST.out _⟩
        case measure => simp [intOf]; omega
      · have hjn' : decide (j < n) = false := by simpa using hjn
        go_wp2
        go_end0
        exact ⟨rfl, HS.out.2.2⟩
theorem spoilR_any {B n cap : Nat} {y : Option Addr} {xs : List Value} {w : World} (hown : w.ownsRow B 42 5 (.slice y n cap) n xs) (hi : Ints xs 5 3 n) (hn : n ≤ 1000) :
    Calls Try.prog 23 #[.slice y n cap] w fun e w' => e = .returned (.tuple #[]) ∧ Turn (fun k => (Value.slice y n cap).ownBlock = some k) w w' := spoilR_far hown hi (by unfold maxLen; omega)

/-- The blocks of a message's rows. -/
def SB (v0 v1 v2 v3 : Value) (k : Nat) : Prop := v0.ownBlock = some k ∨ v1.ownBlock = some k ∨ v2.ownBlock = some k ∨ v3.ownBlock = some k
theorem Own.sb {B : Nat} {w : World} {v0 v1 v2 v3 : Value} {m : Ms} (h : Own B w v0 v1 v2 v3 m) {k : Nat} (hk : SB v0 v1 v2 v3 k) : B ≤ k ∧ k < w.heap.size := by
  rcases hk with hk | hk | hk | hk
  · exact h.q.lt k hk
  · exact h.an.lt k hk
  · exact h.ns.lt k hk
  · exact h.ar.lt k hk

set_option maxRecDepth 20000 in
set_option maxHeartbeats 1000000 in
theorem spoilMsg_far {B : Nat} {w : World} (id : Int) (qr : Bool) (op : Int) (aa tc rd ra : Bool) (z rc : Int) (qs : List Qn) (an ns ar : List Rc) (y0 y1 y2 y3 : Option Addr) (n0 n1 n2 n3 k0 k1 k2 k3 : Nat) (h : Own B w (.slice y0 n0 k0) (.slice y1 n1 k1) (.slice y2 n2 k2) (.slice y3 n3 k3) ⟨⟨id, qr, op, aa, tc, rd, ra, z, rc⟩, qs, an, ns, ar⟩)
    (hf : qs.length ≤ maxLen ∧ an.length ≤ maxLen ∧ ns.length ≤ maxLen ∧ ar.length ≤ maxLen) :
    Calls Try.prog 12 #[.agg #[.int .i64 id, .bool qr, .int .i64 op, .bool aa, .bool tc, .bool rd, .bool ra, .int .i64 z, .int .i64 rc, .slice y0 n0 k0, .slice y1 n1 k1, .slice y2 n2 k2, .slice y3 n3 k3]] w fun e w' => e = .returned (.tuple #[]) ∧ Turn (SB (.slice y0 n0 k0) (.slice y1 n1 k1) (.slice y2 n2 k2) (.slice y3 n3 k3)) w w' := by
  obtain rfl := own_len h.q
  obtain rfl := own_len h.an
  obtain rfl := own_len h.ns
  obtain rfl := own_len h.ar
  simp only at h ⊢
  obtain ⟨f0, f1, f2, f3⟩ := hf
  have KB := Blk.new w #[.int .i64 id, .bool qr, .int .i64 op, .bool aa, .bool tc, .bool rd, .bool ra, .int .i64 z, .int .i64 rc, .slice y0 qs.length k0, .slice y1 an.length k1, .slice y2 ns.length k2, .slice y3 ar.length k3] 27
  have hb : Below w.heap.size w (w.alloc (.cells #[.int .i64 id, .bool qr, .int .i64 op, .bool aa, .bool tc, .bool rd, .bool ra, .int .i64 z, .int .i64 rc, .slice y0 qs.length k0, .slice y1 an.length k1, .slice y2 ns.length k2, .slice y3 ar.length k3] 27)) := lay (Below.refl _ _) _
  have HS : Hid (∀ k, SB (.slice y0 qs.length k0) (.slice y1 an.length k1) (.slice y2 ns.length k2) (.slice y3 ar.length k3) k → k ≠ w.heap.size) := fun k hk => by have := h.sb hk; omega
  have HO : Hid (Own B (w.alloc (.cells #[.int .i64 id, .bool qr, .int .i64 op, .bool aa, .bool tc, .bool rd, .bool ra, .int .i64 z, .int .i64 rc, .slice y0 qs.length k0, .slice y1 an.length k1, .slice y2 ns.length k2, .slice y3 ar.length k3] 27)) (.slice y0 qs.length k0) (.slice y1 an.length k1) (.slice y2 ns.length k2) (.slice y3 ar.length k3) ⟨⟨id, qr, op, aa, tc, rd, ra, z, rc⟩, qs, an, ns, ar⟩) := h.below hb
  have HT0 : Hid (Turn (SB (.slice y0 qs.length k0) (.slice y1 an.length k1) (.slice y2 ns.length k2) (.slice y3 ar.length k3)) w (w.alloc (.cells #[.int .i64 id, .bool qr, .int .i64 op, .bool aa, .bool tc, .bool rd, .bool ra, .int .i64 z, .int .i64 rc, .slice y0 qs.length k0, .slice y1 an.length k1, .slice y2 ns.length k2, .slice y3 ar.length k3] 27))) := Turn.of_below hb
  clear h hb
  have t1 : True := trivial
  have t2 : True := trivial
  go_enter Try.func12, Try.ntmps12
  go_wp2_with (first
    | (go_at_call 22; go_must (refine (spoilQ_far HO.out.q (ints_q qs) f0).mono ?_); rintro e w1 ⟨rfl, tt⟩; have TT1 := tt.more (S' := SB (.slice y0 qs.length k0) (.slice y1 an.length k1) (.slice y2 ns.length k2) (.slice y3 ar.length k3)) (fun k hk => .inl hk); have R1 : Hid _ := tt.row HO.out.an (fun k hk e => own_apart HO.out.an HO.out.q (by decide) hk e); have R2 : Hid _ := tt.row HO.out.ns (fun k hk e => own_apart HO.out.ns HO.out.q (by decide) hk e); have R3 : Hid _ := tt.row HO.out.ar (fun k hk e => own_apart HO.out.ar HO.out.q (by decide) hk e); replace KB := TT1.blk KB (fun e => HS.out _ e rfl); have HT1 : Hid (Turn (SB (.slice y0 qs.length k0) (.slice y1 an.length k1) (.slice y2 ns.length k2) (.slice y3 ar.length k3)) w w1) := HT0.out.same TT1; have g10 := KB.cell 10; have g11 := KB.cell 11; have g12 := KB.cell 12; clear tt TT1)
    | (go_at_call 23; have _t := t1; go_must (refine (spoilR_far R1.out (ints_r an) f1).mono ?_); rintro e w2 ⟨rfl, tt⟩; have TT1 := tt.more (S' := SB (.slice y0 qs.length k0) (.slice y1 an.length k1) (.slice y2 ns.length k2) (.slice y3 ar.length k3)) (fun k hk => .inr (.inl hk)); have Q2 : Hid _ := tt.row R2.out (fun k hk e => HO.out.d12 k e hk); have Q3 : Hid _ := tt.row R3.out (fun k hk e => HO.out.d13 k e hk); replace KB := TT1.blk KB (fun e => HS.out _ e rfl); have HT2 : Hid (Turn (SB (.slice y0 qs.length k0) (.slice y1 an.length k1) (.slice y2 ns.length k2) (.slice y3 ar.length k3)) w w2) := HT1.out.same TT1; clear g10 g11 g12; have g11 := KB.cell 11; have g12 := KB.cell 12; clear tt TT1 t1 _t)
    | (go_at_call 23; have _t := t2; go_must (refine (spoilR_far Q2.out (ints_r ns) f2).mono ?_); rintro e w3 ⟨rfl, tt⟩; have TT1 := tt.more (S' := SB (.slice y0 qs.length k0) (.slice y1 an.length k1) (.slice y2 ns.length k2) (.slice y3 ar.length k3)) (fun k hk => .inr (.inr (.inl hk))); have P3 : Hid _ := tt.row Q3.out (fun k hk e => HO.out.d23 k e hk); replace KB := TT1.blk KB (fun e => HS.out _ e rfl); have HT3 : Hid (Turn (SB (.slice y0 qs.length k0) (.slice y1 an.length k1) (.slice y2 ns.length k2) (.slice y3 ar.length k3)) w w3) := HT2.out.same TT1; clear g11 g12; have g12 := KB.cell 12; clear tt TT1 t2 _t)
    | (go_at_call 23; go_must (refine (spoilR_far P3.out (ints_r ar) f3).mono ?_); rintro e w4 ⟨rfl, tt⟩; have TT1 := tt.more (S' := SB (.slice y0 qs.length k0) (.slice y1 an.length k1) (.slice y2 ns.length k2) (.slice y3 ar.length k3)) (fun k hk => .inr (.inr (.inr hk))); have HT4 : Hid (Turn (SB (.slice y0 qs.length k0) (.slice y1 an.length k1) (.slice y2 ns.length k2) (.slice y3 ar.length k3)) w w4) := HT3.out.same TT1; clear tt TT1))
  go_end0
  exact ⟨rfl, HT4.out⟩
theorem spoilMsg_any {B : Nat} {w : World} (id : Int) (qr : Bool) (op : Int) (aa tc rd ra : Bool) (z rc : Int) (qs : List Qn) (an ns ar : List Rc) (y0 y1 y2 y3 : Option Addr) (n0 n1 n2 n3 k0 k1 k2 k3 : Nat) (h : Own B w (.slice y0 n0 k0) (.slice y1 n1 k1) (.slice y2 n2 k2) (.slice y3 n3 k3) ⟨⟨id, qr, op, aa, tc, rd, ra, z, rc⟩, qs, an, ns, ar⟩)
    (hf : qs.length ≤ 64 ∧ an.length ≤ 64 ∧ ns.length ≤ 64 ∧ ar.length ≤ 64) :
    Calls Try.prog 12 #[.agg #[.int .i64 id, .bool qr, .int .i64 op, .bool aa, .bool tc, .bool rd, .bool ra, .int .i64 z, .int .i64 rc, .slice y0 n0 k0, .slice y1 n1 k1, .slice y2 n2 k2, .slice y3 n3 k3]] w fun e w' => e = .returned (.tuple #[]) ∧ Turn (SB (.slice y0 n0 k0) (.slice y1 n1 k1) (.slice y2 n2 k2) (.slice y3 n3 k3)) w w' :=
  spoilMsg_far id qr op aa tc rd ra z rc qs an ns ar y0 y1 y2 y3 n0 n1 n2 n3 k0 k1 k2 k3 h (by unfold maxLen; omega)

end Go.Proofs.Ytnecdpieoipjdaa
