/- What the document's Rrs gives. -/
import Derived.Test.YtdaegnmokaibpaaSeQ
namespace Go.Proofs.Ytdaegnmokaibpaa
open Go.RowKit
open Pl

theorem rrsOf_take (n : ByteArray) (t l : Int) (ds : List ByteArray) (j : Nat) (hj : j < ds.length) : (rrsOf n t l ds).take (j + 1) = (rrsOf n t l ds).take j ++ [⟨n, t, 1, l, ds[j]⟩] := by
  rw [List.take_succ_eq_append_getElem (by rw [rrsOf_len]; exact hj)]
  simp [rrsOf]

set_option maxRecDepth 20000 in
set_option maxHeartbeats 1000000 in
theorem refRrs_any (n : ByteArray) (t l : Int) (v : Value) (ds : List ByteArray) (w : World) (h : Row w v ds.length (tC ds)) (hl : ds.length ≤ 2000000) :
    Calls Try.prog 14 #[.agg #[.string n, .int .i64 t, .int .i64 l, v]] w fun e w' => ∃ (y : Option Addr) (c : Nat), e = .returned (.slice y ds.length c) ∧ w'.ownsRow w.heap.size 43 5 (.slice y ds.length c) ds.length (rC (rrsOf n t l ds)) ∧ Below w.heap.size w w' := by
  obtain ⟨i0, hi, hz0, hz1, hz2⟩ := info_parts infoR'
  obtain ⟨N, hN⟩ : ∃ N, N = ds.length := ⟨_, rfl⟩
  obtain ⟨x, c, hv⟩ := row_slice h
  rw [← hN] at hv hl
  subst hv
  have HN : Hid (N = ds.length) := hN
  have HR : Hid (Row w (.slice x N c) ds.length (tC ds)) := h
  rw [← hN]
  have HB0 : Hid (Below w.heap.size w (w.alloc (.cells #[.string n, .int .i64 t, .int .i64 l, .slice x N c] 25))) := lay (Below.refl _ _) _
  clear hN h
  go_enter Try.func14, Try.ntmps14
  go_wp2
  go_loopw [3, 4] (fun a i wr => ∃ (y : Option Addr) (j c1 : Nat), j ≤ N ∧ a = .slice y j c1 ∧ i = .int .i64 (j : Int) ∧ Hid (wr.ownsRow (w.alloc (.cells #[.string n, .int .i64 t, .int .i64 l, .slice x N c] 25)).heap.size 43 5 (.slice y j c1) j (rC ((rrsOf n t l ds).take j))) ∧ Hid (Below (w.alloc (.cells #[.string n, .int .i64 t, .int .i64 l, .slice x N c] 25)).heap.size (w.alloc (.cells #[.string n, .int .i64 t, .int .i64 l, .slice x N c] 25)) wr)) (fun _ i _ => N - (intOf i).toNat)
  case atStart => exact ⟨none, 0, 0, Nat.zero_le _, rfl, rfl, World.ownsRow_nil _ _ _ _, Below.refl _ _⟩
  case round =>
    obtain ⟨y, j, c1, hj, rfl, rfl, HO, HB⟩ := hrel
    have q0 : wr.cell? ⟨w.heap.size, 0, none⟩ = some (.string n) := ((Blk.new w _ _).below HB.out).cell 0
    have q1 : wr.cell? ⟨w.heap.size, 1, none⟩ = some (.int .i64 t) := ((Blk.new w _ _).below HB.out).cell 1
    have q2 : wr.cell? ⟨w.heap.size, 2, none⟩ = some (.int .i64 l) := ((Blk.new w _ _).below HB.out).cell 2
    have q3 : wr.cell? ⟨w.heap.size, 3, none⟩ = some (.slice x N c) := ((Blk.new w _ _).below HB.out).cell 3
    by_cases hjn : j < N
    · have hjm : j < ds.length := by have := HN.out; omega
      have hjn' : (j : Int) < (N : Int) := by omega
      obtain ⟨g', o, cap, hx, hcc⟩ := row_at (HN.out ▸ HR.out) (by omega)
      simp only [Value.slice.injEq] at hx
      obtain ⟨rfl, -, rfl⟩ := hx
      have HD : Hid (w.cell? ⟨g', o + j, none⟩ = some (.string ds[j])) := hcc j _ (tC_at hjm)
      have d0 : wr.cell? ⟨g', o + j, none⟩ = some (.string ds[j]) := by rw [(next HB0.out HB.out).cell (World.block_lt_of_cell? _ _ HD.out)]; exact HD.out
      have HT : Hid ((rrsOf n t l ds).take (j + 1) = (rrsOf n t l ds).take j ++ [⟨n, t, 1, l, ds[j]⟩]) := rrsOf_take n t l ds j hjm
      obtain ⟨d, hd⟩ : ∃ d, d = ds[j] := ⟨_, rfl⟩
      simp only [← hd] at d0 HT HD
      clear hcc hd
      have hrow2 : Row (wr.alloc (.cells #[.string n, .int .i64 t, .int .i64 1, .int .i64 l, .string d] 43)).drew (.slice (some ⟨wr.heap.size, 0, none⟩) 1 1) 1 (rC [⟨n, t, 1, l, d⟩]) := Row.of_blk ((Blk.new wr #[.string n, .int .i64 t, .int .i64 1, .int .i64 l, .string d] 43).drew ⟨1, rfl⟩) rfl 1 1
      have HO2 : (wr.alloc (.cells #[.string n, .int .i64 t, .int .i64 1, .int .i64 l, .string d] 43)).drew.ownsRow (w.alloc (.cells #[.string n, .int .i64 t, .int .i64 l, .slice (some ⟨g', o, none⟩) N c] 25)).heap.size 43 5 (.slice y j c1) j (rC ((rrsOf n t l ds).take j)) := HO.out.alloc _
      have HB2 : Hid (Below (w.alloc (.cells #[.string n, .int .i64 t, .int .i64 l, .slice (some ⟨g', o, none⟩) N c] 25)).heap.size (w.alloc (.cells #[.string n, .int .i64 t, .int .i64 l, .slice (some ⟨g', o, none⟩) N c] 25)) (wr.alloc (.cells #[.string n, .int .i64 t, .int .i64 1, .int .i64 l, .string d] 43)).drew) := (lay HB.out _).drew
      go_wp2
      have p0 : (wr.alloc (.cells #[.string n, .int .i64 t, .int .i64 1, .int .i64 l, .string d] 43)).cell? ⟨w.heap.size, 0, none⟩ = some (.string n) := (((Blk.new w _ _).below HB.out).alloc _).cell 0
      have p1 : (wr.alloc (.cells #[.string n, .int .i64 t, .int .i64 1, .int .i64 l, .string d] 43)).cell? ⟨w.heap.size, 1, none⟩ = some (.int .i64 t) := (((Blk.new w _ _).below HB.out).alloc _).cell 1
      have p2 : (wr.alloc (.cells #[.string n, .int .i64 t, .int .i64 1, .int .i64 l, .string d] 43)).cell? ⟨w.heap.size, 2, none⟩ = some (.int .i64 l) := (((Blk.new w _ _).below HB.out).alloc _).cell 2
      have p3 : (wr.alloc (.cells #[.string n, .int .i64 t, .int .i64 1, .int .i64 l, .string d] 43)).cell? ⟨w.heap.size, 3, none⟩ = some (.slice (some ⟨g', o, none⟩) N c) := (((Blk.new w _ _).below HB.out).alloc _).cell 3
      have p4 : (wr.alloc (.cells #[.string n, .int .i64 t, .int .i64 1, .int .i64 l, .string d] 43)).cell? ⟨g', o + j, none⟩ = some (.string d) := by rw [(lay (Below.refl _ _) _ : Below wr.heap.size wr _).cell (World.block_lt_of_cell? _ _ d0)]; exact d0
      go_region_held3 (fun u => u.cell? ⟨w.heap.size, 0, none⟩ = some (.string n) ∧ u.cell? ⟨w.heap.size, 1, none⟩ = some (.int .i64 t) ∧ u.cell? ⟨w.heap.size, 2, none⟩ = some (.int .i64 l) ∧ u.cell? ⟨w.heap.size, 3, none⟩ = some (.slice (some ⟨g', o, none⟩) N c) ∧ u.cell? ⟨g', o + j, none⟩ = some (.string d)) (first | (simp only [World.cell?_drew, q0, q1, q2, q3, d0, and_self]; done) | (simp only [World.cell?_drew, p0, p1, p2, p3, p4, and_self]; done) | (simp only [r0, r1, r2, r3, r4, and_self]; done)) (first | ((refine step_appG _ (by rfl) (.tmp 12) (.tmp 25) 22 43 i0 _ 5 56 Try.underlying22 hi hz0 hz1 hz2 rfl (by decide) (by rfl) (w.alloc (.cells #[.string n, .int .i64 t, .int .i64 l, .slice (some ⟨g', o, none⟩) N c] 25)).heap.size _ j (rC ((rrsOf n t l ds).take j)) (by rfl) HO2 _ 1 (rC [⟨n, t, 1, l, d⟩]) (by rfl) hrow2 rfl (rC_one _) (by omega) (by unfold maxLen; omega) HB2.out.size ?_; intro v3 w3 h1 h3 _; obtain ⟨y3, c3, rfl⟩ := row_shape h1; have O3 : Hid (w3.ownsRow (w.alloc (.cells #[.string n, .int .i64 t, .int .i64 l, .slice (some ⟨g', o, none⟩) N c] 25)).heap.size 43 5 (.slice y3 (j + 1) c3) (j + 1) (rC ((rrsOf n t l ds).take j) ++ rC [⟨n, t, 1, l, d⟩])) := h1; have B3 : Hid (Below (w.alloc (.cells #[.string n, .int .i64 t, .int .i64 l, .slice (some ⟨g', o, none⟩) N c] 25)).heap.size (w.alloc (.cells #[.string n, .int .i64 t, .int .i64 l, .slice (some ⟨g', o, none⟩) N c] 25)) w3) := HB2.out.grown h3 HB2.out.size (fun k e => (HO2.lt k e).1); have r0 : w3.cell? ⟨w.heap.size, 0, none⟩ = some (.string n) := ((Blk.new w _ _).below B3.out).cell 0; have r1 : w3.cell? ⟨w.heap.size, 1, none⟩ = some (.int .i64 t) := ((Blk.new w _ _).below B3.out).cell 1; have r2 : w3.cell? ⟨w.heap.size, 2, none⟩ = some (.int .i64 l) := ((Blk.new w _ _).below B3.out).cell 2; have r3 : w3.cell? ⟨w.heap.size, 3, none⟩ = some (.slice (some ⟨g', o, none⟩) N c) := ((Blk.new w _ _).below B3.out).cell 3; have r4 : w3.cell? ⟨g', o + j, none⟩ = some (.string d) := ((next HB0.out B3.out).cell (World.block_lt_of_cell? _ _ HD.out)).trans HD.out; clear h1 h3)))
      all_goals
        (go_wp2
         go_roundw
         case rel => exact ⟨y3, j + 1, c3, by omega, rfl, by go_num, by unfold Hid; rw [HT.out, rC_app]; exact O3.out, B3⟩
         case measure => simp [intOf]; omega)
    · have hjn' : decide ((j : Int) < (N : Int)) = false := by simp; omega
      have hjN : j = N := by omega
      have HE : Hid ((rrsOf n t l ds).take j = rrsOf n t l ds) := by unfold Hid; rw [List.take_of_length_le (by rw [rrsOf_len]; have := HN.out; omega)]
      go_wp2
      go_ret
      subst hjN
      exact ⟨_, _, rfl, by rw [← HE.out]; exact own_base HO.out HB0.out.size, next HB0.out HB.out⟩

end Go.Proofs.Ytdaegnmokaibpaa
