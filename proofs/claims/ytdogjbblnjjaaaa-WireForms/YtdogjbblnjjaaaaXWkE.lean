/- WireForms holds: for every two numbers, a message of which a part may not be is refused. -/
import Derived.Test.YtdogjbblnjjaaaaXWkD
namespace Go.Proofs.Ytdogjbblnjjaaaa.wireForms
open Go.RowKit
open Pl

set_option maxRecDepth 20000 in
set_option maxHeartbeats 4000000 in
theorem c10 (which x U e : Int) (w : World) (hU : IntKind.u64.wrap which = U) (hm : U.tmod 14 = 10) (m63 : bits .and .i64 x 63 = e) (e0 : 0 ≤ e) (e1 : e < 64) :
    Calls Try.prog 6 #[.int .i64 which, .int .i64 x] w fun e w' => e = .returned (.bool true) ∧ Below w.heap.size w w' := by
  have hb : Below w.heap.size w w := Below.refl _ _
  obtain ⟨T, hT⟩ := wf_put
  have HP1 : Hid _ := hT
  clear hT
  have t1 : True := trivial
  obtain ⟨K, hKE⟩ : ∃ K : Nat, (64 + (1 + e) : Int) = (K : Int) := ⟨(64 + (1 + e)).toNat, by omega⟩
  have hK : K ≤ 1000 := by omega
  have hK6 : 64 < K := by omega
  have hmk := madeQ K hK
  go_enter Try.func6, Try.ntmps6
  go_wp2_with (first
    | (go_at_call 14; refine (num_any _ _).mono ?_; rintro e w' ⟨rfl, hw⟩; obtain rfl := hw.symm)
    | (go_at_call 17; go_must (refine (awake_any _).mono ?_); rintro e w0 ⟨rfl, bb⟩; replace hb := next hb bb; have lt0 := hb.size; clear bb)
    | (go_at_call 10; have _t := t1; go_must (refine (put_h 0 false 0 false false false false 0 0 [⟨⟨#[0]⟩, 1, 1⟩] [⟨⟨#[1, 97, 0]⟩, 1, 1, 5, ⟨#[97, 98, 99, 100]⟩⟩] [⟨⟨#[1, 97, 0]⟩, 1, 1, 5, ⟨#[97, 98, 99, 100]⟩⟩] [⟨⟨#[1, 97, 0]⟩, 1, 1, 5, ⟨#[97, 98, 99, 100]⟩⟩] T 0 _ _ _ _ (wfW w0) HP1.out (wf_new w0).rows.1 (wf_new w0).rows.2.1 (wf_new w0).rows.2.2.1 (wf_new w0).rows.2.2.2).mono ?_); rintro e w1 ⟨rfl, bb⟩; have KW : Hid (WF w1 w0.heap.size) := (wf_new w0).below bb; have m0 : w1.cell? ⟨w0.heap.size + 1 + 1 + 1 + 1 + 1, 0, none⟩ = some (.int .i64 0) := KW.out.m.cell 0; have m1 : w1.cell? ⟨w0.heap.size + 1 + 1 + 1 + 1 + 1, 1, none⟩ = some (.bool false) := KW.out.m.cell 1; have m2 : w1.cell? ⟨w0.heap.size + 1 + 1 + 1 + 1 + 1, 2, none⟩ = some (.int .i64 0) := KW.out.m.cell 2; have m3 : w1.cell? ⟨w0.heap.size + 1 + 1 + 1 + 1 + 1, 3, none⟩ = some (.bool false) := KW.out.m.cell 3; have m4 : w1.cell? ⟨w0.heap.size + 1 + 1 + 1 + 1 + 1, 4, none⟩ = some (.bool false) := KW.out.m.cell 4; have m5 : w1.cell? ⟨w0.heap.size + 1 + 1 + 1 + 1 + 1, 5, none⟩ = some (.bool false) := KW.out.m.cell 5; have m6 : w1.cell? ⟨w0.heap.size + 1 + 1 + 1 + 1 + 1, 6, none⟩ = some (.bool false) := KW.out.m.cell 6; have m7 : w1.cell? ⟨w0.heap.size + 1 + 1 + 1 + 1 + 1, 7, none⟩ = some (.int .i64 0) := KW.out.m.cell 7; have m8 : w1.cell? ⟨w0.heap.size + 1 + 1 + 1 + 1 + 1, 8, none⟩ = some (.int .i64 0) := KW.out.m.cell 8; have m9 : w1.cell? ⟨w0.heap.size + 1 + 1 + 1 + 1 + 1, 9, none⟩ = some (.slice (some ⟨w0.heap.size + 1, 0, none⟩) 1 1) := KW.out.m.cell 9; have m10 : w1.cell? ⟨w0.heap.size + 1 + 1 + 1 + 1 + 1, 10, none⟩ = some (.slice (some ⟨w0.heap.size + 1 + 1, 0, none⟩) 1 1) := KW.out.m.cell 10; have m11 : w1.cell? ⟨w0.heap.size + 1 + 1 + 1 + 1 + 1, 11, none⟩ = some (.slice (some ⟨w0.heap.size + 1 + 1 + 1, 0, none⟩) 1 1) := KW.out.m.cell 11; have m12 : w1.cell? ⟨w0.heap.size + 1 + 1 + 1 + 1 + 1, 12, none⟩ = some (.slice (some ⟨w0.heap.size + 1 + 1 + 1 + 1, 0, none⟩) 1 1) := KW.out.m.cell 12; have lt1 := KW.out.m.lt; have ff := KW.out.m.frozen 9; replace hb := next (wf_bel hb) bb; clear bb t1 _t))
  have HG : Hid (WG w ((w1.setCell ⟨w0.heap.size + 1 + 1 + 1 + 1 + 1, 9, none⟩ (.slice (some ⟨w1.heap.size, 0, none⟩) K K)).alloc (.cells (qC (List.replicate K ⟨⟨#[]⟩, 0, 0⟩)).toArray 50)) w0.heap.size w1.heap.size K (List.replicate K ⟨⟨#[]⟩, 0, 0⟩)) :=
    ⟨by simp, fun q hq => by obtain ⟨_, rfl⟩ := List.mem_replicate.1 hq; decide, by have := Blk.new (w1.setCell ⟨w0.heap.size + 1 + 1 + 1 + 1 + 1, 9, none⟩ (.slice (some ⟨w1.heap.size, 0, none⟩) K K)) (qC (List.replicate K ⟨⟨#[]⟩, 0, 0⟩)).toArray 50; rw [World.size_setCell] at this; exact this, (KW.out.a.other (by omega) _ _).alloc _, (KW.out.n.other (by omega) _ _).alloc _, (KW.out.r.other (by omega) _ _).alloc _, (KW.out.m.set 9 _).alloc _, lay (hb.setCell (p := ⟨w0.heap.size + 1 + 1 + 1 + 1 + 1, 9, none⟩) (by show w.heap.size ≤ w0.heap.size + 1 + 1 + 1 + 1 + 1; omega) _) _⟩
  clear KW hb m0 m1 m2 m3 m4 m5 m6 m7 m8 m9 m10 m11 m12 ff hmk
  have ltg : w.heap.size ≤ w1.heap.size := by omega
  go_loopw [10] (fun i wr => ∃ (k : Nat) (qs : List Qn), k ≤ K ∧ i = .int .i64 (k : Int) ∧ Hid (WG w wr w0.heap.size w1.heap.size K qs)) (fun i _ => K - (intOf i).toNat)
  case atStart => exact ⟨0, _, Nat.zero_le _, rfl, HG⟩
  case round =>
    clear HG
    obtain ⟨k, qs, hk, rfl, HI⟩ := hrel
    have m0 : wr.cell? ⟨w0.heap.size + 1 + 1 + 1 + 1 + 1, 0, none⟩ = some (.int .i64 0) := HI.out.m.cell 0
    have m1 : wr.cell? ⟨w0.heap.size + 1 + 1 + 1 + 1 + 1, 1, none⟩ = some (.bool false) := HI.out.m.cell 1
    have m2 : wr.cell? ⟨w0.heap.size + 1 + 1 + 1 + 1 + 1, 2, none⟩ = some (.int .i64 0) := HI.out.m.cell 2
    have m3 : wr.cell? ⟨w0.heap.size + 1 + 1 + 1 + 1 + 1, 3, none⟩ = some (.bool false) := HI.out.m.cell 3
    have m4 : wr.cell? ⟨w0.heap.size + 1 + 1 + 1 + 1 + 1, 4, none⟩ = some (.bool false) := HI.out.m.cell 4
    have m5 : wr.cell? ⟨w0.heap.size + 1 + 1 + 1 + 1 + 1, 5, none⟩ = some (.bool false) := HI.out.m.cell 5
    have m6 : wr.cell? ⟨w0.heap.size + 1 + 1 + 1 + 1 + 1, 6, none⟩ = some (.bool false) := HI.out.m.cell 6
    have m7 : wr.cell? ⟨w0.heap.size + 1 + 1 + 1 + 1 + 1, 7, none⟩ = some (.int .i64 0) := HI.out.m.cell 7
    have m8 : wr.cell? ⟨w0.heap.size + 1 + 1 + 1 + 1 + 1, 8, none⟩ = some (.int .i64 0) := HI.out.m.cell 8
    have m9 : wr.cell? ⟨w0.heap.size + 1 + 1 + 1 + 1 + 1, 9, none⟩ = some (.slice (some ⟨w1.heap.size, 0, none⟩) K K) := HI.out.m.cell 9
    have m10 : wr.cell? ⟨w0.heap.size + 1 + 1 + 1 + 1 + 1, 10, none⟩ = some (.slice (some ⟨w0.heap.size + 1 + 1, 0, none⟩) 1 1) := HI.out.m.cell 10
    have m11 : wr.cell? ⟨w0.heap.size + 1 + 1 + 1 + 1 + 1, 11, none⟩ = some (.slice (some ⟨w0.heap.size + 1 + 1 + 1, 0, none⟩) 1 1) := HI.out.m.cell 11
    have m12 : wr.cell? ⟨w0.heap.size + 1 + 1 + 1 + 1 + 1, 12, none⟩ = some (.slice (some ⟨w0.heap.size + 1 + 1 + 1 + 1, 0, none⟩) 1 1) := HI.out.m.cell 12
    by_cases hkc : k < K
    · have hkc' : (k : Int) < (K : Int) := by omega
      obtain ⟨X, t, c, c0, c1, c2⟩ := HI.out.cells hkc
      have f0 := HI.out.row.frozen (k * 3)
      have f1 := HI.out.row.frozen (k * 3 + 1)
      have f2 := HI.out.row.frozen (k * 3 + 2)
      have HN : Hid _ := HI.out.next hkc lt1 ltg
      go_wp2
      go_roundw
      case rel => exact ⟨k + 1, _, by omega, by go_num, HN.out⟩
      case measure => simp [intOf]; omega
    · have hkc' : decide (k < K) = false := by simpa using hkc
      have HQ : Hid (64 < qs.length) := by unfold Hid; rw [HI.out.len]; exact hK6
      go_wp2_with (first
    | (go_at_call 14; refine (num_any _ _).mono ?_; rintro e w' ⟨rfl, hw⟩; obtain rfl := hw.symm)
    | (go_at_call 10; go_must (refine (put_h 0 false 0 false false false false 0 0 qs [⟨⟨#[1, 97, 0]⟩, 1, 1, 5, ⟨#[97, 98, 99, 100]⟩⟩] [⟨⟨#[1, 97, 0]⟩, 1, 1, 5, ⟨#[97, 98, 99, 100]⟩⟩] [⟨⟨#[1, 97, 0]⟩, 1, 1, 5, ⟨#[97, 98, 99, 100]⟩⟩] ⟨#[]⟩ 700 _ _ _ _ wr (wf_many (.inl HQ.out)) (HI.out.qrow hK) (rrow_lit (r := ⟨⟨#[1, 97, 0]⟩, 1, 1, 5, ⟨#[97, 98, 99, 100]⟩⟩) HI.out.a (by simp only; decide) (by simp only; decide)) (rrow_lit (r := ⟨⟨#[1, 97, 0]⟩, 1, 1, 5, ⟨#[97, 98, 99, 100]⟩⟩) HI.out.n (by simp only; decide) (by simp only; decide)) (rrow_lit (r := ⟨⟨#[1, 97, 0]⟩, 1, 1, 5, ⟨#[97, 98, 99, 100]⟩⟩) HI.out.r (by simp only; decide) (by simp only; decide))).mono ?_); rintro e w2 ⟨rfl, bb⟩; have hb := next HI.out.bel bb; clear bb))
      go_ret
      exact ⟨ret_bool (by simp), hb⟩

end Go.Proofs.Ytdogjbblnjjaaaa.wireForms
