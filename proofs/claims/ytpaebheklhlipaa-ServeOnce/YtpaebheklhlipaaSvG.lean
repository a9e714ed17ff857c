/- The document's Addrs and Wanting. -/
import Derived.Test.YtpaebheklhlipaaSvF
import Derived.BigQuiet
namespace Go.Proofs.Ytpaebheklhlipaa
open Go.RowKit
open Pl
namespace Sv

def hasI (acc : List Int) (a : Int) : Bool := acc.any fun z => decide (z = a)
theorem hasI_eq (acc : List Int) (a : Int) : hasI acc a = acc.contains a := by
  rw [Bool.eq_iff_iff, List.contains_iff_mem]
  unfold hasI
  rw [List.any_eq_true]
  constructor
  · rintro ⟨z, hz, e⟩
    rw [decide_eq_true_eq] at e
    exact e ▸ hz
  · intro h
    exact ⟨a, h, by simp⟩
theorem hasI_take {acc : List Int} {a : Int} {j : Nat} (hj : j < acc.length) : hasI (acc.take (j + 1)) a = (hasI (acc.take j) a || decide (acc[j] = a)) := by
  rw [List.take_succ_eq_append_getElem hj]
  unfold hasI
  rw [List.any_append]
  simp only [List.any_cons, List.any_nil, Bool.or_false]
/-- How far the document's Addrs is. -/
structure RaAt (w wr : World) (v : Value) (bs : List Bn) (j n : Nat) : Prop where
  len : n = (adF ((asL bs).take j)).length
  out : wr.ownsRow w.heap.size 3 1 v n (iC (adF ((asL bs).take j)))
  bel : Below w.heap.size w wr
theorem RaAt.seen {w wr w3 : World} {v : Value} {bs : List Bn} {j n : Nat} (h : RaAt w wr v bs j n) (hj : j < bs.length) (hb : Below wr.heap.size wr w3) (hh : hasI (adF ((asL bs).take j)) bs[j].a = true) : RaAt w w3 v bs (j + 1) n := by
  have hja : j < (asL bs).length := by rw [asL_len]; exact hj
  have e : adF ((asL bs).take (j + 1)) = adF ((asL bs).take j) := by
    rw [adF_take hja, asL_at hj]
    unfold stepF
    rw [← hasI_eq, hh]
    rfl
  exact ⟨by rw [e]; exact h.len, by rw [e]; exact own_past h.out hb, next h.bel hb⟩
theorem RaAt.fresh {w wr wa w2 : World} {v v' : Value} {bs : List Bn} {j n : Nat} {xa : Int} (h : RaAt w wr v bs j n) (hj : j < bs.length) (hx : bs[j].a = xa) (hh : hasI (adF ((asL bs).take j)) xa = false) (hb : Below wr.heap.size wr wa)
    (own2 : w2.ownsRow w.heap.size 3 1 v' (n + 1) (iC (adF ((asL bs).take j)) ++ iC [xa])) (grow2 : wa.grownBy w2 v.ownBlock) : RaAt w w2 v' bs (j + 1) (n + 1) := by
  have hja : j < (asL bs).length := by rw [asL_len]; exact hj
  have e : adF ((asL bs).take (j + 1)) = adF ((asL bs).take j) ++ [xa] := by
    rw [adF_take hja, asL_at hj, hx]
    unfold stepF
    rw [← hasI_eq, hh]
    rfl
  have hbw := next h.bel hb
  exact ⟨by rw [e, List.length_append, ← h.len]; rfl, by rw [e, iC_app]; exact own2, hbw.grown grow2 hbw.size (fun i hi => (h.out.lt i hi).1)⟩

set_option maxRecDepth 20000 in
set_option maxHeartbeats 4000000 in
theorem refAddrs_any (v : Value) (bs : List Bn) (w : World) (hi : BnIn w v bs) :
    Calls Try.prog 11 #[v] w fun e w' => ∃ v', e = .returned v' ∧ w'.ownsRow w.heap.size 3 1 v' (adF (asL bs)).length (iC (adF (asL bs))) ∧ Below w.heap.size w w' := by
  obtain ⟨i0, hi0, hz0, hz1, hz2⟩ := info_parts info3'
  have hr := hi.row
  have hl := hi.len
  obtain ⟨N, hN⟩ : ∃ N, N = bs.length := ⟨_, rfl⟩
  have HN : Hid (N = bs.length) := hN
  rw [← hN] at hr hl
  have HR : Hid (Row w v N (bC bs)) := hr
  obtain ⟨x0, c0, rfl, _⟩ := hr.src
  have HA0 : Hid (RaAt w w (.slice none 0 0) bs 0 0) := ⟨rfl, ⟨rfl, .inl ⟨rfl, rfl⟩⟩, Below.refl _ _⟩
  clear hr hN hi
  go_enter Try.func11, Try.ntmps11
  go_wp2
  go_loopw [3, 4] (fun s ii wr => ∃ (i n : Nat) (y : Option Addr) (c : Nat), i ≤ N ∧ n ≤ i ∧ s = .slice y n c ∧ ii = .int .i64 (i : Int) ∧ Hid (RaAt w wr (.slice y n c) bs i n)) (fun _ ii _ => N - (intOf ii).toNat)
  case atStart => exact ⟨0, 0, none, 0, Nat.zero_le _, Nat.le_refl _, rfl, rfl, HA0⟩
  case round =>
    clear HA0
    obtain ⟨i, n, y, c, hiN, hni, rfl, rfl, HA⟩ := hrel
    obtain ⟨we, hwe⟩ : ∃ z, z = wr := ⟨_, rfl⟩
    subst hwe
    by_cases hin : i < N
    · have hin' : (i : Int) < (N : Int) := by omega
      have hiu : i < bs.length := by have := HN.out; omega
      obtain ⟨g, o, cap, hx, hc⟩ := row_at (HR.out.below HA.out.bel) (by omega)
      simp only [Value.slice.injEq, true_and] at hx
      obtain ⟨rfl, rfl⟩ := hx
      obtain ⟨xa, hxa⟩ : ∃ xa, xa = bs[i].a := ⟨_, rfl⟩
      have HXA : Hid (bs[i].a = xa) := hxa.symm
      have HD : Hid (∀ u, Below we.heap.size we u → u.cell? ⟨g, o + i * 5 + 2, none⟩ = some (.int .i64 xa)) := fun u hu => by
        obtain ⟨g', o', cap', hx', hc'⟩ := row_at (HR.out.below (next HA.out.bel hu)) (by omega)
        simp only [Value.slice.injEq, true_and, Option.some.injEq, Addr.mk.injEq, and_true] at hx'
        obtain ⟨⟨rfl, rfl⟩, rfl⟩ := hx'
        have := hc' (i * 5 + 2) _ (atBg hiu 2 (by decide))
        rw [hxa, Nat.add_assoc]
        exact this
      obtain ⟨acc, hacc⟩ : ∃ acc, acc = adF ((asL bs).take i) := ⟨_, rfl⟩
      have HACC : Hid (acc = adF ((asL bs).take i)) := hacc
      have HL : Hid (n = acc.length) := by unfold Hid; rw [hacc]; exact HA.out.len
      have HO : Hid (we.ownsRow w.heap.size 3 1 (.slice y n c) n (iC acc)) := by unfold Hid; rw [hacc]; exact HA.out.out
      clear hc hxa hacc
      go_wp2
      go_loopw [5, 6] (fun t jj wr => ∃ (j : Nat) (b : Bool), j ≤ n ∧ t = .bool b ∧ jj = .int .i64 (j : Int) ∧ Hid (b = hasI (acc.take j) xa) ∧ Hid (Below we.heap.size we wr)) (fun _ jj _ => n - (intOf jj).toNat)
      case atStart => exact ⟨0, false, Nat.zero_le _, rfl, rfl, rfl, Below.refl _ _⟩
      case round =>
        obtain ⟨j, b, hjn, rfl, rfl, HB, HW⟩ := hrel
        by_cases hj : j < n
        · have hj' : (j : Int) < (n : Int) := by omega
          have hju : j < acc.length := by have := HL.out; omega
          cases b with
          | true =>
            have HB2 : Hid (true = hasI (acc.take (j + 1)) xa) := by unfold Hid; rw [hasI_take hju, ← HB.out]; rfl
            go_wp2
            go_quiet (fail)
            go_wp2
            go_roundw
            case rel => exact ⟨j + 1, true, by omega, rfl, by go_num, HB2, next HW.out (below_drew ⟨_, rfl⟩)⟩
            case measure => simp [intOf]; omega
          | false =>
            obtain ⟨q, hq⟩ : ∃ q, q = acc[j] := ⟨_, rfl⟩
            obtain ⟨g3, o3, cap3, hx3, hc3⟩ := row_at (Row.of_own (own_past HO.out HW.out)) (by omega)
            simp only [Value.slice.injEq, true_and] at hx3
            obtain ⟨rfl, rfl⟩ := hx3
            have d3 := hc3 j _ (iC_at hju)
            rw [← hq] at d3
            have d2 := HD.out wr HW.out
            obtain ⟨r, hr⟩ : ∃ r, (q == xa) = r := ⟨_, rfl⟩
            have HB2 : Hid (r = hasI (acc.take (j + 1)) xa) := by
              unfold Hid
              rw [hasI_take hju, ← HB.out, ← hq, ← hr, Bool.false_or]
              rw [Bool.eq_iff_iff]
              simp
            clear hc3 hq
            go_wp2
            go_quiet (fail)
            go_wp2
            go_roundw
            case rel => exact ⟨j + 1, r, by omega, rfl, by go_num, HB2, next HW.out (below_drew ⟨_, rfl⟩)⟩
            case measure => simp [intOf]; omega
        · have hj' : decide (j < n) = false := by simpa using hj
          have HBF : Hid (b = hasI acc xa) := by
            unfold Hid
            rw [HB.out, List.take_of_length_le (by have := HL.out; omega)]
          cases b with
          | true =>
            have HS : Hid (RaAt w wr (.slice y n c) bs (i + 1) n) := HA.out.seen hiu HW.out (by rw [HXA.out, ← HACC.out]; exact HBF.out.symm)
            go_wp2
            go_roundw
            case rel => exact ⟨i + 1, n, y, c, by omega, by omega, rfl, by go_num, HS⟩
            case measure => simp [intOf]; omega
          | false =>
            have d2 := HD.out wr HW.out
            have HBZ : Hid (Below we.heap.size we (wr.alloc (.cells #[.int .i64 xa] 3))) := lay HW.out _
            have hoR := own_past HO.out HBZ.out
            have hrow1 := Row.of_blk (Blk.new wr #[.int .i64 xa] 3) (xs := iC [xa]) rfl 1 1
            have hbs := (next HA.out.bel HBZ.out).size
            go_wp2_with (at_builtin; refine wpList_appG _ rfl (.tmp 34) (.tmp 40) 26 3 i0 _ 1 8 Try.underlying26 hi0 hz0 hz1 hz2 rfl (by decide) rfl w.heap.size _ n _ rfl hoR _ 1 (iC [xa]) rfl hrow1 rfl (iC_one _) (by omega) (by unfold maxLen; omega) hbs ?_; intro v2 w2 own2 grow2 _; obtain ⟨y2, q2, rfl⟩ := row_slice (Row.of_own own2); have HS : Hid (RaAt w w2 (.slice y2 (n + 1) q2) bs (i + 1) (n + 1)) := HA.out.fresh hiu HXA.out (by rw [← HACC.out]; exact HBF.out.symm) HBZ.out (by rw [← HACC.out]; exact own2) grow2; clear own2 grow2 hoR hrow1)
            go_roundw
            case rel => exact ⟨i + 1, n + 1, y2, q2, by omega, by omega, rfl, by go_num, HS⟩
            case measure => simp [intOf]; omega
    · have hin' : decide (i < N) = false := by simpa using hin
      have HE : Hid (we.ownsRow w.heap.size 3 1 (.slice y n c) (adF (asL bs)).length (iC (adF (asL bs))) ∧ Below w.heap.size w we) := by
        have h1 := HA.out.out
        have h2 := HA.out.len
        rw [List.take_of_length_le (by rw [asL_len, ← HN.out]; omega)] at h1 h2
        rw [← h2]
        exact ⟨h1, HA.out.bel⟩
      clear HA
      go_wp2
      go_ret
      exact ⟨_, rfl, HE.out.1, HE.out.2⟩

end Sv
end Go.Proofs.Ytpaebheklhlipaa
