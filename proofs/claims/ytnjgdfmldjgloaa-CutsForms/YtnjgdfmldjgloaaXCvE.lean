/- CutsForms' way 11: too much glue. -/
import Derived.Test.YtnjgdfmldjgloaaXCvD
namespace Go.Proofs.Ytnjgdfmldjgloaa
open Go.RowKit
open Pl
namespace Cu

set_option maxRecDepth 20000 in
set_option maxHeartbeats 4000000 in
theorem cf11 (which x U e : Int) (w : World) (hU : IntKind.u64.wrap which = U) (hm : U.tmod 14 = 11) (m63 : bits .and .i64 x 63 = e) (e0 : 0 ≤ e) (e1 : e < 64) :
    Calls Try.prog 5 #[.int .i64 which, .int .i64 x] w fun e w' => e = .returned (.bool true) ∧ Below w.heap.size w w' := by
  obtain ⟨i0, hi, hz0, hz1, hz2⟩ := info_parts infoBn
  have t1 : True := trivial
  go_enter Try.func5, Try.ntmps5
  go_wp2_with (first
    | (go_at_call 8; go_must (refine (awake_any _).mono ?_); rintro e w1 ⟨rfl, b1⟩)
    | (go_at_call 10; go_must (refine (hints_any _).mono ?_); rintro e wh ⟨rfl, rfl⟩)
    | (go_at_call 9; go_must (refine (lw_hints (M := fun _ => False) b1 (fun _ h => h.elim)).mono ?_); rintro e w2 ⟨o, rfl, s2, _⟩; clear b1)
    | (go_at_call 22; go_must (refine (del_any ⟨#[1, 97, 1, 98, 0]⟩ 5 9 _).mono ?_); rintro e w3 ⟨X, Y, rfl, kx, ky, b3, hX, hY⟩; obtain ⟨BX, s3, kxa, kya, kz⟩ := del_box (cn := ⟨#[1, 97, 1, 98, 0]⟩) s2 kx ky b3 hX hY; have hp1 := s3.put (din_del (cn := ⟨#[1, 97, 1, 98, 0]⟩) kxa kya (by decide)) ⟨#[1, 98, 0]⟩ 3 (by decide) 0 cfE1 cfF cfP1; clear hX hY kx ky b3 s2 s3)
    | (go_at_call 11; have _t := t1; go_must (refine hp1.mono ?_); rintro e w4 ⟨rfl, s4, T4⟩; have kx4 := T4.blk kxa (fun h => h.2 BX.x); have ky4 := T4.blk kya (fun h => h.2 BX.y); have kz4 := T4.blk kz (fun h => h.2 BX.z); have HAX : Hid (AX w w2 w4 o w3.heap.size #[.string ⟨#[1, 97, 1, 98, 0]⟩, (.slice (some ⟨X, 0, none⟩) 1 1), (.slice (some ⟨Y, 0, none⟩) 1 1), .int .i64 9] 45 5 (.slice (some ⟨Y, 0, none⟩) 1 1) 1 [.string ⟨#[]⟩, .string ⟨#[1, 72, 0]⟩, .int .i64 5, .string ⟨#[]⟩, .int .i64 9] X #[.string ⟨#[1, 104, 0]⟩] 9) := ax_start BX s4 kz4 ky4 kx4 (by decide) (by decide) (by decide) BX.y.1 rfl (by decide) rfl BX.y; clear t1 hp1 s4 T4 kxa kya kz kx4 ky4 kz4))
  generalize w3.heap.size = Z at HAX BX ⊢
  have HA0 : Hid (∃ GL : List Bn, GL.length = 1 + 0 ∧ (∀ x ∈ GL, x.h.size ≤ 10) ∧ AX w w2 w4 o Z #[.string ⟨#[1, 97, 1, 98, 0]⟩, .slice (some ⟨X, 0, none⟩) 1 1, (.slice (some ⟨Y, 0, none⟩) (1 + 0) 1), .int .i64 9] 45 5 (.slice (some ⟨Y, 0, none⟩) (1 + 0) 1) (1 + 0) (bC GL) X #[.string ⟨#[1, 104, 0]⟩] 9) := ⟨[delG 5 9], rfl, fun x hx => by simp at hx; subst hx; show ByteArray.size ⟨#[1, 72, 0]⟩ ≤ 10; decide, HAX.out⟩
  go_loopw [13] (fun k wr => ∃ (j : Nat) (y : Option Addr) (c : Nat), j ≤ 8 ∧ k = .int .i64 (j : Int) ∧ Hid (∃ GL : List Bn, GL.length = 1 + j ∧ (∀ x ∈ GL, x.h.size ≤ 10) ∧ AX w w2 wr o Z #[.string ⟨#[1, 97, 1, 98, 0]⟩, .slice (some ⟨X, 0, none⟩) 1 1, (.slice y (1 + j) c), .int .i64 9] 45 5 (.slice y (1 + j) c) (1 + j) (bC GL) X #[.string ⟨#[1, 104, 0]⟩] 9)) (fun k _ => 8 - (intOf k).toNat)
  case atStart => exact ⟨0, _, _, by omega, rfl, HA0⟩
  case round =>
    clear HA0 HAX
    obtain ⟨j, y, c, hj, rfl, HX⟩ := hrel
    by_cases hjn : j < 8
    · have hjn' : (j : Int) < 8 := by omega
      obtain ⟨GL, hGL, hGS, hA⟩ := HX.out
      obtain ⟨gg, cc, hs, hle, _⟩ := hA.row.form (by omega)
      simp only [Value.slice.injEq] at hs
      obtain ⟨rfl, -, rfl⟩ := hs
      obtain ⟨⟨xc, xh, xa, xf, xu⟩, GT, hGT⟩ : ∃ x T, GL = x :: T := by
        cases GL with
        | nil => rw [List.length_nil] at hGL; omega
        | cons x T => exact ⟨x, T, rfl⟩
      have HAA : Hid (AX w w2 wr o Z #[.string ⟨#[1, 97, 1, 98, 0]⟩, .slice (some ⟨X, 0, none⟩) 1 1, (.slice (some ⟨gg, 0, none⟩) (1 + j) c), .int .i64 9] 45 5 (.slice (some ⟨gg, 0, none⟩) (1 + j) c) (1 + j) (bC GL) X #[.string ⟨#[1, 104, 0]⟩] 9) := hA
      have HGL : Hid (GL.length = 1 + j ∧ ∀ x ∈ GL, x.h.size ≤ 10) := ⟨hGL, hGS⟩
      have HX1 : Hid ((⟨xc, xh, xa, xf, xu⟩ : Bn) ∈ GL) := by unfold Hid; rw [hGT]; simp
      have hL := (lies_own hA.row).1
      rw [hGT] at hL
      have d0 : wr.cell? ⟨gg, 0, none⟩ = some (.string xc) := hL 0 _ rfl
      have d1 : wr.cell? ⟨gg, 1, none⟩ = some (.string xh) := hL 1 _ rfl
      have d2 : wr.cell? ⟨gg, 2, none⟩ = some (.int .i64 xa) := hL 2 _ rfl
      have d3 : wr.cell? ⟨gg, 3, none⟩ = some (.string xf) := hL 3 _ rfl
      have d4 : wr.cell? ⟨gg, 4, none⟩ = some (.int .i64 xu) := hL 4 _ rfl
      obtain ⟨N, hN⟩ : ∃ N, N = 1 + j := ⟨_, rfl⟩
      have HN : Hid (N = 1 + j) := hN
      have hN1 : 0 < N := by omega
      have hbd : Below wr.heap.size wr (wr.alloc (.cells #[.string xc, .string xh, .int .i64 xa, .string xf, .int .i64 xu] 45)).drew := (lay (Below.refl _ _) _).drew
      have kX : Blk (wr.alloc (.cells #[.string xc, .string xh, .int .i64 xa, .string xf, .int .i64 xu] 45)).drew wr.heap.size #[.string xc, .string xh, .int .i64 xa, .string xf, .int .i64 xu] 45 := Blk.new wr _ _
      have hAb := hA.below hbd
      have q1 : wr.cell? ⟨Z, 2, none⟩ = some (.slice (some ⟨gg, 0, none⟩) N c) := by rw [hN]; exact hA.kz.cell 2
      have q2 : (wr.alloc (.cells #[.string xc, .string xh, .int .i64 xa, .string xf, .int .i64 xu] 45)).cell? ⟨Z, 2, none⟩ = some (.slice (some ⟨gg, 0, none⟩) N c) := by rw [hN]; exact hAb.kz.cell 2
      have hto := hAb.row
      rw [← hN] at hto
      have HBD : Hid (Below wr.heap.size wr (wr.alloc (.cells #[.string xc, .string xh, .int .i64 xa, .string xf, .int .i64 xu] 45)).drew) := hbd
      have HKG : Hid (Blk (wr.alloc (.cells #[.string xc, .string xh, .int .i64 xa, .string xf, .int .i64 xu] 45)).drew Z #[.string ⟨#[1, 97, 1, 98, 0]⟩, .slice (some ⟨X, 0, none⟩) 1 1, (.slice (some ⟨gg, 0, none⟩) N c), .int .i64 9] 33) := by rw [hN]; exact hAb.kz
      have hb9 : w2.heap.size ≤ (wr.alloc (.cells #[.string xc, .string xh, .int .i64 xa, .string xf, .int .i64 xu] 45)).drew.heap.size := by
        have h1 := hA.zz
        have h2 := hA.kz.lt
        have h3 := hbd.size
        omega
      have hNl : N ≤ 16 := by omega
      clear hA hAb hbd hL HX hGL hGS hGT hle
      go_wp2
      clear hN
      go_region_law ((refine step_appG _ (by rfl) (.tmp 102) (.tmp 107) 31 45 i0 _ 5 64 Try.underlying31 hi hz0 hz1 hz2 rfl (by decide) (by rfl) w2.heap.size _ N (bC GL) (by rfl) hto (.slice (some ⟨wr.heap.size, 0, none⟩) 1 1) 1 [.string xc, .string xh, .int .i64 xa, .string xf, .int .i64 xu] (by rfl) (Row.of_blk kX rfl 1 1) rfl (by simp [Value.oneCell']) (by omega) (by unfold maxLen; omega) hb9 ?_; intro v7 w7 h1 h3 h4; have hks := HKG.out.grown h3 (fun e => absurd (own_tag hto e.symm HKG.out) (by decide)); have q6 : w7.cell? ⟨Z, 2, none⟩ = some (.slice (some ⟨gg, 0, none⟩) N c) := hks.cell 2; have q7 : w7.frozen? ⟨Z, 2, none⟩ = false := hks.frozen 2; obtain ⟨y7, c7, rfl⟩ := row_shape h1; have HH7 : Hid (w7.ownsRow w2.heap.size 45 5 (.slice y7 (N + 1) c7) (N + 1) (bC GL ++ [.string xc, .string xh, .int .i64 xa, .string xf, .int .i64 xu]) ∧ (wr.alloc (.cells #[.string xc, .string xh, .int .i64 xa, .string xf, .int .i64 xu] 45)).drew.grownBy w7 (Value.slice (some ⟨gg, 0, none⟩) N c).ownBlock ∧ (∀ k, (Value.slice y7 (N + 1) c7).ownBlock = some k → (Value.slice (some ⟨gg, 0, none⟩) N c).ownBlock = some k ∨ (wr.alloc (.cells #[.string xc, .string xh, .int .i64 xa, .string xf, .int .i64 xu] 45)).drew.heap.size ≤ k)) := ⟨h1, h3, h4⟩; clear h1 h3 h4 hks hto))
      all_goals
        have hA7 := HAA.out.step (v' := .slice y7 (N + 1) c7) (m := N + 1) HBD.out HH7.out.1 (by have := HH7.out.2.1; rw [HN.out] at this; exact this) (fun k hk => (HH7.out.2.2 k hk).imp (fun e => by rw [HN.out] at e; exact e) id) 2
        simp only [List.setIfInBounds_toArray, List.set_cons_zero, List.set_cons_succ] at hA7
        have HA8 : Hid (∃ GL' : List Bn, GL'.length = 1 + (j + 1) ∧ (∀ x ∈ GL', x.h.size ≤ 10) ∧ AX w w2 (w7.setCell ⟨Z, 2, none⟩ (.slice y7 (N + 1) c7)) o Z #[.string ⟨#[1, 97, 1, 98, 0]⟩, .slice (some ⟨X, 0, none⟩) 1 1, (.slice y7 (1 + (j + 1)) c7), .int .i64 9] 45 5 (.slice y7 (1 + (j + 1)) c7) (1 + (j + 1)) (bC GL') X #[.string ⟨#[1, 104, 0]⟩] 9) :=
          ⟨GL ++ [⟨xc, xh, xa, xf, xu⟩], by rw [List.length_append, HGL.out.1]; rfl, fun x hx => by
            rcases List.mem_append.1 hx with hx | hx
            · exact HGL.out.2 x hx
            · simp at hx; subst hx; exact HGL.out.2 _ HX1.out, by
            rw [bC_app, show bC [⟨xc, xh, xa, xf, xu⟩] = [.string xc, .string xh, .int .i64 xa, .string xf, .int .i64 xu] from rfl, show 1 + (j + 1) = N + 1 by have := HN.out; omega]
            exact hA7⟩
        have HNN : Hid (N + 1 = 1 + (j + 1)) := by have := HN.out; unfold Hid; omega
        clear hA7 HH7 q6 q7
        go_wp2
        go_roundw
        case rel => exact ⟨j + 1, y7, c7, by omega, by go_num, by rw [← HNN.out] at HA8; rw [← HNN.out]; exact HA8⟩
        case measure => simp [intOf]; omega
    · have hjn' : decide ((j : Int) < 8) = false := by simp; omega
      obtain ⟨GL, hGL, hGS, hA⟩ := HX.out
      have q0 := hA.kz.cell 0
      have q1 := hA.kz.cell 1
      have q2 := hA.kz.cell 2
      have q3 := hA.kz.cell 3
      simp only [List.getElem?_toArray, List.getElem?_cons_succ, List.getElem?_cons_zero] at q0 q1 q2 q3
      have hno := no_may (fr := ⟨#[1, 98, 0]⟩) (now := 3) (glue_many (c := ⟨#[1, 97, 1, 98, 0]⟩) (hs := [⟨#[1, 104, 0]⟩]) (t := 9) (gl := GL) (by omega))
      have hp2 := hA.lw.put (d := ⟨⟨#[1, 97, 1, 98, 0]⟩, [⟨#[1, 104, 0]⟩], GL, 9⟩) (hv := .slice (some ⟨X, 0, none⟩) 1 1) (gv := .slice y (1 + j) c) ⟨Row.of_blk hA.ku rfl 1 1, ⟨_, 1, rfl, Nat.le_refl _⟩, by rw [hGL]; exact Row.of_own hA.row, show 1 ≤ maxLen by decide, by show GL.length ≤ maxLen; unfold maxLen; omega, by show ByteArray.size ⟨#[1, 97, 1, 98, 0]⟩ ≤ maxLen; decide, fun z hz => by simp at hz; subst hz; show ByteArray.size ⟨#[1, 104, 0]⟩ ≤ maxLen; decide, fun z hz => by have := hGS z hz; unfold maxLen; omega⟩ ⟨#[1, 98, 0]⟩ 3 (by decide) 1500 hno.1 cfF (hno.2 _)
      clear hA HX hGL hGS hno
      go_wp2_with (first
        | (go_at_call 11; go_must (refine hp2.mono ?_); rintro e w6 ⟨rfl, s6, _⟩; clear hp2 q0 q1 q2 q3)
        | (go_at_call 20; refine (num_any _ _).mono ?_; rintro e w' ⟨rfl, hw⟩; obtain rfl := hw.symm)
        | (go_at_call 18; go_must (refine (s6.binds ⟨#[1, 97, 1, 98, 0]⟩ 4 (by decide) [cfB] cfB1 1 rfl).mono ?_); rintro e w7 ⟨y7, c7, rfl, _, s7, _⟩; clear s6))
      go_ret
      exact ⟨rfl, s7.bel⟩

end Cu
end Go.Proofs.Ytnjgdfmldjgloaa
