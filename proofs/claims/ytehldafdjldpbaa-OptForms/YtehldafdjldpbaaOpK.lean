/- OptForms, cases 8 and 9: an OPT of which a part may not be is refused. -/
import Derived.Test.YtehldafdjldpbaaOpJ
namespace Go.Proofs.Ytehldafdjldpbaa.optForms
open Go.RowKit

set_option maxRecDepth 20000 in
set_option maxHeartbeats 2000000 in
theorem c8 (which x U e : Int) (w : World) (hU : IntKind.u64.wrap which = U) (hm : U.tmod 10 = 8) (m63 : bits .and .i64 x 63 = e) (e0 : 0 ≤ e) (e1 : e < 64) :
    Calls Try.prog 5 #[.int .i64 which, .int .i64 x] w fun e w' => e = .returned (.bool true) ∧ Below w.heap.size w w' := by
  have hb : Below w.heap.size w w := Below.refl _ _
  obtain ⟨T, P1⟩ := of_p1
  have t1 : True := trivial
  obtain ⟨K, hKE⟩ : ∃ K : Nat, (65535 + (1 + e) : Int) = (K : Int) := ⟨(65535 + (1 + e)).toNat, by omega⟩
  have hK : K ≤ 100000 := by omega
  obtain ⟨Zc, hmk, hcz⟩ := madeN K hK
  have hZ : Hid (∀ h : 0 < 1, mayOt ⟨5, 0, 0, false, 0, [⟨1, zerosB K⟩]⟩ = false) := fun _ => of_no (.inr (.inr (.inr (.inr (mayOs_long (k := 1) (by simp [osB, oB_len, zerosB_size]; omega))))))
  have hZs : Hid ((zerosB K).size ≤ far) := by unfold Hid far; rw [zerosB_size]; omega
  obtain ⟨ZZ, hZZ⟩ : ∃ Z, Z = zerosB K := ⟨_, rfl⟩
  rw [← hZZ] at hcz hZ hZs
  clear hZZ
  go_enter Try.func5, Try.ntmps5
  go_wp2_with (first
    | (go_at_call 15; refine (num_any _ _).mono ?_; rintro e w' ⟨rfl, hw⟩; obtain rfl := hw.symm)
    | (go_at_call 19; go_must (refine (awake_any _).mono ?_); rintro e w0 ⟨rfl, bb⟩; replace hb := next hb bb; have lt0 := hb.size; clear bb)
    | (go_at_call 9; have _t := t1; go_must (refine (P1 _ (of_new w0).row).mono ?_); rintro e w1 ⟨rfl, bb⟩; replace bb := next bb (lay (Below.refl _ _) (.cells #[.string ⟨#[0]⟩, .int .i64 41, .int .i64 5, .int .i64 0, .string T] 26)); have KW : Hid (OF (w1.alloc (.cells #[.string ⟨#[0]⟩, .int .i64 41, .int .i64 5, .int .i64 0, .string T] 26)) w0.heap.size) := (of_new w0).below bb; obtain ⟨m0, m1, m2, m3, m4, m5⟩ := KW.out.m.six'; have ff : ((w1.alloc (.cells #[.string ⟨#[0]⟩, .int .i64 41, .int .i64 5, .int .i64 0, .string T] 26)).alloc (.cells Zc 5)).frozen? ⟨w0.heap.size, 1, none⟩ = false := (KW.out.o.alloc _).frozen 1; have kk : ((w1.alloc (.cells #[.string ⟨#[0]⟩, .int .i64 41, .int .i64 5, .int .i64 0, .string T] 26)).alloc (.cells Zc 5)).cell? ⟨w0.heap.size, 1, none⟩ = some (.string ⟨#[97]⟩) := (KW.out.o.alloc _).cell 1; have m5b : ((w1.alloc (.cells #[.string ⟨#[0]⟩, .int .i64 41, .int .i64 5, .int .i64 0, .string T] 26)).alloc (.cells Zc 5)).cell? ⟨w0.heap.size + 1, 5, none⟩ = some (.slice (some ⟨w0.heap.size, 0, none⟩) 1 1) := (KW.out.m.alloc _).cell 5; have hc8 : (convert 54 9 (.slice (some ⟨w1.heap.size + 1, 0, none⟩) K K)).run Try.prog ((w1.alloc (.cells #[.string ⟨#[0]⟩, .int .i64 41, .int .i64 5, .int .i64 0, .string T] 26)).alloc (.cells Zc 5)).drew = .ok (.string ZZ) ((w1.alloc (.cells #[.string ⟨#[0]⟩, .int .i64 41, .int .i64 5, .int .i64 0, .string T] 26)).alloc (.cells Zc 5)).drew := (by have h := hcz (w1.alloc (.cells #[.string ⟨#[0]⟩, .int .i64 41, .int .i64 5, .int .i64 0, .string T] 26)).drew; rw [show (w1.alloc (.cells #[.string ⟨#[0]⟩, .int .i64 41, .int .i64 5, .int .i64 0, .string T] 26)).drew.heap.size = w1.heap.size + 1 from by show (w1.alloc (.cells #[.string ⟨#[0]⟩, .int .i64 41, .int .i64 5, .int .i64 0, .string T] 26)).heap.size = _; simp] at h; exact h); replace hb := next (lay (lay hb _) _) bb; clear bb t1 _t))
  go_region
  have k1 := ((KW.out.o.alloc (.cells Zc 5)).set 1 (.string ZZ)).drew (w' := (((w1.alloc (.cells #[.string ⟨#[0]⟩, .int .i64 41, .int .i64 5, .int .i64 0, .string T] 26)).alloc (.cells Zc 5)).setCell ⟨w0.heap.size, 1, none⟩ (.string ZZ)).drew) ⟨1, rfl⟩
  have k2 := ((KW.out.m.alloc (.cells Zc 5)).other (by omega) 1 (.string ZZ)).drew (w' := (((w1.alloc (.cells #[.string ⟨#[0]⟩, .int .i64 41, .int .i64 5, .int .i64 0, .string T] 26)).alloc (.cells Zc 5)).setCell ⟨w0.heap.size, 1, none⟩ (.string ZZ)).drew) ⟨1, rfl⟩
  have kb := next ((lay hb (.cells Zc 5)).setCell (p := ⟨w0.heap.size, 1, none⟩) (by show w.heap.size ≤ w0.heap.size; omega) (.string ZZ)) (below_drew (w' := (((w1.alloc (.cells #[.string ⟨#[0]⟩, .int .i64 41, .int .i64 5, .int .i64 0, .string T] 26)).alloc (.cells Zc 5)).setCell ⟨w0.heap.size, 1, none⟩ (.string ZZ)).drew) ⟨1, rfl⟩)
  clear KW m0 m1 m2 m3 m4 m5 ff kk m5b hc8 hb
  revert k1 k2 kb
  generalize (((w1.alloc (.cells #[.string ⟨#[0]⟩, .int .i64 41, .int .i64 5, .int .i64 0, .string T] 26)).alloc (.cells Zc 5)).setCell ⟨w0.heap.size, 1, none⟩ (.string ZZ)).drew = W
  intro k1 k2 kb
  obtain ⟨m0, m1, m2, m3, m4, m5⟩ := k2.six'
  go_wp2_with (first
    | (go_at_call 15; refine (num_any _ _).mono ?_; rintro e w' ⟨rfl, hw⟩; obtain rfl := hw.symm)
    | (go_at_call 9; go_must (refine (of_p2 5 0 0 false 0 [⟨1, ZZ⟩] _ W (hZ.out (by decide)) (orow_lit (o := ⟨1, ZZ⟩) k1 hZs.out)).mono ?_); rintro e w2 ⟨rfl, bb⟩; replace kb := next kb bb; clear bb))
  go_ret
  exact ⟨rfl, lay kb _⟩

set_option maxRecDepth 20000 in
set_option maxHeartbeats 2000000 in
theorem c9 (which x U e : Int) (w : World) (hU : IntKind.u64.wrap which = U) (hm : U.tmod 10 = 9) (m63 : bits .and .i64 x 63 = e) (e0 : 0 ≤ e) (e1 : e < 64) :
    Calls Try.prog 5 #[.int .i64 which, .int .i64 x] w fun e w' => e = .returned (.bool true) ∧ Below w.heap.size w w' := by
  have hb : Below w.heap.size w w := Below.refl _ _
  obtain ⟨T, P1⟩ := of_p1
  have t1 : True := trivial
  obtain ⟨i0, hi, hz0, hz1, hz2⟩ := info_parts infoO
  obtain ⟨Zc, hmk, hcz⟩ := madeN 65530 (by decide)
  rw [show ((65530 : Nat) : Int) = 65530 from rfl] at hmk
  have hZ : Hid (∀ h : 0 < 1, mayOt ⟨5, 0, 0, false, 0, [⟨1, ⟨#[97]⟩⟩, ⟨0, zerosB 65530⟩]⟩ = false) := fun _ => of_no (.inr (.inr (.inr (.inr (mayOs_long (k := 2) (by have h1 : (#[97] : Array UInt8).size = 1 := rfl; simp [osB, oB_len, zerosB_size]; show 65535 < 4 + (ByteArray.mk #[97]).size + (4 + 65530); decide))))))
  have hZs : Hid ((zerosB 65530).size ≤ far) := by unfold Hid far; rw [zerosB_size]; decide
  obtain ⟨ZZ, hZZ⟩ : ∃ Z, Z = zerosB 65530 := ⟨_, rfl⟩
  rw [← hZZ] at hcz hZ hZs
  clear hZZ
  go_enter Try.func5, Try.ntmps5
  go_wp2_with (first
    | (go_at_call 15; refine (num_any _ _).mono ?_; rintro e w' ⟨rfl, hw⟩; obtain rfl := hw.symm)
    | (go_at_call 19; go_must (refine (awake_any _).mono ?_); rintro e w0 ⟨rfl, bb⟩; replace hb := next hb bb; have lt0 := hb.size; clear bb)
    | (go_at_call 9; have _t := t1; go_must (refine (P1 _ (of_new w0).row).mono ?_); rintro e w1 ⟨rfl, bb⟩; replace bb := next bb (lay (Below.refl _ _) (.cells #[.string ⟨#[0]⟩, .int .i64 41, .int .i64 5, .int .i64 0, .string T] 26)); have KW : Hid (OF (w1.alloc (.cells #[.string ⟨#[0]⟩, .int .i64 41, .int .i64 5, .int .i64 0, .string T] 26)) w0.heap.size) := (of_new w0).below bb; obtain ⟨m0, m1, m2, m3, m4, m5⟩ := KW.out.m.six'; replace hb := next (lay (lay hb _) _) bb; clear bb t1 _t))
  clear m0 m1 m2 m3 m4
  revert KW m5 hb
  generalize (w1.alloc (.cells #[.string ⟨#[0]⟩, .int .i64 41, .int .i64 5, .int .i64 0, .string T] 26)) = wq
  intro KW m5 hb
  have hd : Below w.heap.size w wq.drew := next hb (below_drew ⟨1, rfl⟩)
  have K1 : OF (wq.alloc (.cells Zc 5)) w0.heap.size := KW.out.below (lay (Below.refl _ _) _)
  have K2 : OF (((wq.alloc (.cells Zc 5)).alloc (.cells #[.int .i64 0, .string ZZ] 52)).drew) w0.heap.size := (K1.below (lay (Below.refl _ _) (.cells #[.int .i64 0, .string ZZ] 52))).below (below_drew ⟨1, rfl⟩)
  have h2 : Below w.heap.size w (((wq.alloc (.cells Zc 5)).alloc (.cells #[.int .i64 0, .string ZZ] 52)).drew) := lay (lay hd (.cells Zc 5)) (.cells #[.int .i64 0, .string ZZ] 52)
  have r2 := own_blk (B := w0.heap.size) (z := 2) (n := 1) K2.o (Nat.le_refl _) (xs := oC [⟨1, ⟨#[97]⟩⟩]) rfl rfl (small100 (by decide))
  have n2 : Row (((wq.alloc (.cells Zc 5)).alloc (.cells #[.int .i64 0, .string ZZ] 52)).drew) (.slice (some ⟨wq.heap.size + 1, 0, none⟩) 1 1) 1 (oV ⟨0, ZZ⟩) := by
    have h := Row.of_blk (Blk.new (wq.drew.alloc (.cells Zc 5)) #[.int .i64 0, .string ZZ] 52) (xs := oV ⟨0, ZZ⟩) rfl 1 1
    rw [show (wq.drew.alloc (.cells Zc 5)).heap.size = wq.heap.size + 1 from by simp] at h
    exact h
  have hcv : (convert 54 9 (.slice (some ⟨wq.heap.size, 0, none⟩) 65530 65530)).run Try.prog (wq.alloc (.cells Zc 5)).drew = .ok (.string ZZ) (wq.alloc (.cells Zc 5)).drew := hcz wq.drew
  have c1 : (wq.alloc (.cells Zc 5)).cell? ⟨w0.heap.size + 1, 5, none⟩ = some (.slice (some ⟨w0.heap.size, 0, none⟩) 1 1) := K1.m.cell 5
  have c2 : ((wq.alloc (.cells Zc 5)).alloc (.cells #[.int .i64 0, .string ZZ] 52)).cell? ⟨w0.heap.size + 1, 5, none⟩ = some (.slice (some ⟨w0.heap.size, 0, none⟩) 1 1) := (K1.m.alloc _).cell 5
  have H2 : Hid (Below w.heap.size w (((wq.alloc (.cells Zc 5)).alloc (.cells #[.int .i64 0, .string ZZ] 52)).drew)) := h2
  have hB0 : w0.heap.size ≤ (((wq.alloc (.cells Zc 5)).alloc (.cells #[.int .i64 0, .string ZZ] 52)).drew).heap.size := by have := K2.o.lt; omega
  clear h2 hd hb
  go_region_law ((refine step_appG _ (by rfl) (.tmp 28) (.tmp 32) 22 52 i0 _ 2 24 Try.underlying22 hi hz0 hz1 hz2 rfl (by decide) (by rfl) w0.heap.size _ 1 _ (by rfl) r2 _ 1 (oV ⟨0, ZZ⟩) (by rfl) n2 rfl (fun u hu => oC_one [⟨0, ZZ⟩] u (by simpa [oC] using hu)) (by decide) (small100 (by decide)) hB0 ?_; intro v6 w6 own6 grow6 _; obtain ⟨y6, k6, rfl⟩ := row_shape own6; have K6 := K2.m.grown grow6 (own_sep r2 K2.m (by decide)); have hb6 := H2.out.grown grow6 H2.out.size (fun k e => (Nat.le_trans lt0 (r2.lt k e).1)); have mm : w6.cell? ⟨w0.heap.size + 1, 5, none⟩ = some (.slice (some ⟨w0.heap.size, 0, none⟩) 1 1) := K6.cell 5; have ff : w6.frozen? ⟨w0.heap.size + 1, 5, none⟩ = false := K6.frozen 5))
  all_goals
    have K7 := K6.set 5 (.slice y6 2 k6)
    have own7 : (w6.setCell ⟨w0.heap.size + 1, 5, none⟩ (.slice y6 2 k6)).ownsRow w0.heap.size 52 2 (.slice y6 2 k6) 2 (oC [⟨1, ⟨#[97]⟩⟩, ⟨0, ZZ⟩]) := (Turn.of_set (S := fun k => k = w0.heap.size + 1) w6 (p := ⟨w0.heap.size + 1, 5, none⟩) rfl (.slice y6 2 k6)).row own6 (fun k hk e => own_sep own6 K6 (by decide) (by rw [hk, e]))
    have hb7 := hb6.setCell (p := ⟨w0.heap.size + 1, 5, none⟩) (by show w.heap.size ≤ w0.heap.size + 1; omega) (.slice y6 2 k6)
    clear K6 own6 grow6 hb6 mm ff
    revert K7 own7 hb7
    generalize w6.setCell ⟨w0.heap.size + 1, 5, none⟩ (.slice y6 2 k6) = W
    intro K7 own7 hb7
    obtain ⟨m0, m1, m2, m3, m4, m5⟩ := Blk.six' (a := .int .i64 5) (b := .int .i64 0) (c := .int .i64 0) (d := .bool false) (e := .int .i64 0) (f := .slice y6 2 k6) K7
    go_wp2_with (first
      | (go_at_call 15; refine (num_any _ _).mono ?_; rintro e w' ⟨rfl, hw⟩; obtain rfl := hw.symm)
      | (go_at_call 9; go_must (refine (of_p2 5 0 0 false 0 [⟨1, ⟨#[97]⟩⟩, ⟨0, ZZ⟩] _ W (hZ.out (by decide)) ⟨Row.of_own own7, small100 (show 2 ≤ 100000 from by decide), (fun o ho => (by simp at ho; rcases ho with rfl | rfl; exact (by simp only; decide); exact hZs.out))⟩).mono ?_); rintro e w2 ⟨rfl, bb⟩; replace hb7 := next hb7 bb; clear bb))
    go_ret
    exact ⟨rfl, lay hb7 _⟩

end Go.Proofs.Ytehldafdjldpbaa.optForms
