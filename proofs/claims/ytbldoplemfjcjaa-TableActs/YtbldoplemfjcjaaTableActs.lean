/- TableActs holds: for every number and every row of acts, a Table under any calls answers as the document's does, and shares no memory with what it hands out. -/
import Derived.Test.YtbldoplemfjcjaaOvA
import Derived.Test.YtbldoplemfjcjaaOuR
import Derived.ProofKit
import Derived.OpenShut
import Derived.ShutString
import Derived.Deep.RegionHeld
import Derived.Deep.RegionHeldLaw
namespace Go.Proofs.Ytbldoplemfjcjaa.tableActs
open Go.ChangeShapes Go.WideShapes Go.ChangeAt Go.RowKit
open Go.ChangeMaps (open_string shut_string)
open Pl
open Ou

set_option maxRecDepth 20000 in
set_option maxHeartbeats 16000000 in
theorem walk (most : Int) (v : Value) (acts : List Ta) (wf : (Lit.int .i64 most).wf = true) (w : World) (hr : Row w v acts.length (taC acts) ∧ acts.length ≤ maxLen ∧ ∀ r ∈ acts, TaOk r) :
    Calls Try.prog 3 #[.int .i64 most, v] w fun e w' => e = .returned (.bool true) ∧ Below w.heap.size w w' := by
  have _ := wf
  obtain ⟨hrow, hlen, hok⟩ := hr
  obtain ⟨na, hna⟩ : ∃ na, na = acts.length := ⟨_, rfl⟩
  obtain ⟨xv, cv, hv⟩ := row_slice hrow
  rw [← hna] at hv hlen
  unfold maxLen at hlen
  subst hv
  have HNA : Hid (na = acts.length) := hna
  have HR : Hid (Row w (.slice xv na cv) acts.length (taC acts)) := hrow
  have HOK : Hid (∀ p ∈ acts, TaOk p) := hok
  clear hrow hna hok wf
  by_cases hmm : most < 1 ∨ 16 < most
  · go_enter Try.func3, Try.ntmps3
    go_wp2_with (first
      | (go_at_call 10; refine (num_any _ _).mono ?_; rintro e w' ⟨rfl, hw⟩; obtain rfl := hw.symm)
      | (go_at_call 8; go_must (refine (new_no most _ hmm).mono ?_); rintro e w' ⟨rfl, hw⟩; obtain rfl := hw.symm)
      | (go_at_call 9; go_must (refine (rnew_no most _ hmm).mono ?_); rintro e w' ⟨rfl, hw⟩; obtain rfl := hw.symm)
      | (go_at_call 11; go_must (refine (awake_any _).mono ?_); rintro e w1 ⟨rfl, b1⟩))
    go_ret
    exact ⟨rfl, b1⟩
  · obtain ⟨m, rfl⟩ : ∃ m : Nat, most = (m : Int) := ⟨most.toNat, by omega⟩
    have hm1 : 1 ≤ m := by omega
    have hm2 : m ≤ 16 := by omega
    clear hmm
    go_enter Try.func3, Try.ntmps3
    go_wp2_with (first
      | (go_at_call 10; refine (num_any _ _).mono ?_; rintro e w' ⟨rfl, hw⟩; obtain rfl := hw.symm)
      | (go_at_call 8; go_must (refine (lw_new (Below.refl w.heap.size w) m hm1 hm2).mono ?_); rintro e w1 ⟨gs, rfl, lw1, _⟩)
      | (go_at_call 9; go_must (refine (rnew_yes w.heap.size m _ lw1.bel.size hm1 hm2).mono ?_); rintro e w2 ⟨gr, rfl, rs2, b2⟩; have HS0 : Hid (TS w w2 gs gr m 0 (.slice none 0 0) [] []) := ⟨lw1.below b2, rs2⟩; clear lw1 rs2 b2))
    go_loopw [9] (fun iv wr => ∃ (j : Nat) (V : Value) (D : List Ak), iv = .int .i64 (j : Int) ∧ j ≤ na ∧ j ≤ 80 ∧ Hid (TS w wr gs gr m j V D D)) (fun i _ => na - (intOf i).toNat)
    case atStart => exact ⟨0, .slice none 0 0, [], rfl, Nat.zero_le _, Nat.zero_le _, HS0⟩
    case round =>
      clear HS0
      obtain ⟨j, V, D, rfl, hjn, hj8, HS⟩ := hrel
      by_cases hlt : j < na ∧ j < 80
      · obtain ⟨hj, h8⟩ := hlt
        have hj' : (j : Int) < (na : Int) := by omega
        have h8' : (j : Int) < 80 := by omega
        have hjp : j < acts.length := by rw [← HNA.out]; exact hj
        obtain ⟨gp, op, cp, hx, hc⟩ := row_at HR.out (by omega)
        simp only [Value.slice.injEq] at hx
        obtain ⟨rfl, -, rfl⟩ := hx
        obtain ⟨p, hp⟩ : ∃ p, p = acts[j] := ⟨_, rfl⟩
        have hpo : TaOk p := by rw [hp]; exact HOK.out _ (List.getElem_mem _)
        have hce : ∀ i, i < 13 → wr.cell? ⟨gp, op + j * 13 + i, none⟩ = (taV p)[i]? := fun i hi => by
          cases hu : (taV p)[i]? with
          | none => rw [List.getElem?_eq_none_iff] at hu; simp [taV] at hu; omega
          | some z =>
            have := hc (j * 13 + i) z (by rw [taC_at hjp i hi, ← hp]; exact hu)
            rw [Nat.add_assoc, HS.out.a.bel.cell (World.block_lt_of_cell? _ _ this)]
            exact this
        have c0 := hce 0 (by decide)
        have c1 := hce 1 (by decide)
        have c2 := hce 2 (by decide)
        have c3 := hce 3 (by decide)
        have c4 := hce 4 (by decide)
        have c5 := hce 5 (by decide)
        have c6 := hce 6 (by decide)
        have c7 := hce 7 (by decide)
        have c8 := hce 8 (by decide)
        have c9 := hce 9 (by decide)
        have c10 := hce 10 (by decide)
        have c11 := hce 11 (by decide)
        have c12 := hce 12 (by decide)
        rw [Nat.add_zero] at c0
        have HFAR : Hid (Far p.x) := hpo.far
        have HNM : Hid (p.qn.size ≤ maxLen) := hpo.nam
        have HKY : Hid (OkK (keyQ p.x.a p.x.i p.qn p.qt p.qc)) := hpo.key
        clear hce hc hp hpo hjp
        obtain ⟨kd, x, qn, qt, qc, now⟩ := p
        obtain ⟨xj, xi, xa, xc, xg, xn, xt, xu⟩ := x
        simp only at HFAR HNM HKY
        simp only [taV, List.getElem?_cons_succ, List.getElem?_cons_zero] at c0 c1 c2 c3 c4 c5 c6 c7 c8 c9 c10 c11 c12
        have HLOW : Hid (∀ k, rft gr V k → k < wr.heap.size) := fun k hk => (HS.out.b.low hk).2
        have HSZ : w.heap.size ≤ wr.heap.size := HS.out.a.bel.size
        have HK0 : Hid (Blk (wr.alloc (.cells #[.int .i64 kd, .int .i64 xj, .int .i64 xi, .int .i64 xa, .string xc, .string xg, .string xn, .int .i64 xt, .int .i64 xu, .string qn, .int .i64 qt, .int .i64 qc, .int .i64 now] 39)) wr.heap.size #[.int .i64 kd, .int .i64 xj, .int .i64 xi, .int .i64 xa, .string xc, .string xg, .string xn, .int .i64 xt, .int .i64 xu, .string qn, .int .i64 qt, .int .i64 qc, .int .i64 now] 39) := Blk.new wr _ _
        have HS1 : Hid (TS w (wr.alloc (.cells #[.int .i64 kd, .int .i64 xj, .int .i64 xi, .int .i64 xa, .string xc, .string xg, .string xn, .int .i64 xt, .int .i64 xu, .string qn, .int .i64 qt, .int .i64 qc, .int .i64 now] 39)) gs gr m j V D D) := HS.out.below (lay (Below.refl _ _) _)
        have HZ1 : wr.heap.size ≤ (wr.alloc (.cells #[.int .i64 kd, .int .i64 xj, .int .i64 xi, .int .i64 xa, .string xc, .string xg, .string xn, .int .i64 xt, .int .i64 xu, .string qn, .int .i64 qt, .int .i64 qc, .int .i64 now] 39)).heap.size := (lay (Below.refl wr.heap.size wr) _).size
        clear HS
        by_cases hk5 : kd < 5
        · obtain ⟨e0, he0⟩ : ∃ e0, addE m D ⟨xj, xi, xa, xc, xg, xn, xt, xu⟩ = e0 := ⟨_, rfl⟩
          obtain ⟨D2, hD2⟩ : ∃ D2, addD m D ⟨xj, xi, xa, xc, xg, xn, xt, xu⟩ = D2 := ⟨_, rfl⟩
          have HE : Hid (addE m D ⟨xj, xi, xa, xc, xg, xn, xt, xu⟩ = e0 ∧ addD m D ⟨xj, xi, xa, xc, xg, xn, xt, xu⟩ = D2) := ⟨he0, hD2⟩
          have hee : (e0 != e0) = false := by simp
          clear he0 hD2
          have ha := HS1.out.add (by omega) xj xi xa xc xg xn xt xu HFAR.out e0 D2 HE.out.1 HE.out.2
          go_wp2_with (first
            | (go_at_call 12; go_must (refine ha.mono ?_); rintro e w3 ⟨rfl, s3, p3⟩; have HS3 : Hid (TS w w3 gs gr m (j + 1) V D2 D) := s3; have HK3 : Hid (Blk w3 wr.heap.size #[.int .i64 kd, .int .i64 xj, .int .i64 xi, .int .i64 xa, .string xc, .string xg, .string xn, .int .i64 xt, .int .i64 xu, .string qn, .int .i64 qt, .int .i64 qc, .int .i64 now] 39) := p3.blk _ _ _ (by decide) (by decide) HK0.out; clear s3 p3 ha))
          have HKC : Hid (∀ u, Blk u wr.heap.size #[.int .i64 kd, .int .i64 xj, .int .i64 xi, .int .i64 xa, .string xc, .string xg, .string xn, .int .i64 xt, .int .i64 xu, .string qn, .int .i64 qt, .int .i64 qc, .int .i64 now] 39 → u.cell? ⟨wr.heap.size, 1, none⟩ = some (.int .i64 xj) ∧ u.cell? ⟨wr.heap.size, 2, none⟩ = some (.int .i64 xi) ∧ u.cell? ⟨wr.heap.size, 3, none⟩ = some (.int .i64 xa) ∧ u.cell? ⟨wr.heap.size, 4, none⟩ = some (.string xc) ∧ u.cell? ⟨wr.heap.size, 5, none⟩ = some (.string xg) ∧ u.cell? ⟨wr.heap.size, 6, none⟩ = some (.string xn) ∧ u.cell? ⟨wr.heap.size, 7, none⟩ = some (.int .i64 xt) ∧ u.cell? ⟨wr.heap.size, 8, none⟩ = some (.int .i64 xu)) := fun u k => ⟨k.cell 1, k.cell 2, k.cell 3, k.cell 4, k.cell 5, k.cell 6, k.cell 7, k.cell 8⟩
          have k4 : Hid (Blk w3.drew wr.heap.size #[.int .i64 kd, .int .i64 xj, .int .i64 xi, .int .i64 xa, .string xc, .string xg, .string xn, .int .i64 xt, .int .i64 xu, .string qn, .int .i64 qt, .int .i64 qc, .int .i64 now] 39) := HK3.out.drew ⟨1, rfl⟩
          have s0 := HKC.out w3.drew k4.out
          have hra := (HS3.out.below (Below.refl _ _).drew).radd HLOW.out xj xi xa xc xg xn xt xu HFAR.out e0 D2 HE.out.1 HE.out.2
          clear c0 c1 c2 c3 c4 c5 c6 c7 c8 c9 c10 c11 c12 HK0 HS1 HK3 HS3
          go_region_held_law (fun u => u.cell? ⟨wr.heap.size, 1, none⟩ = some (.int .i64 xj) ∧ u.cell? ⟨wr.heap.size, 2, none⟩ = some (.int .i64 xi) ∧ u.cell? ⟨wr.heap.size, 3, none⟩ = some (.int .i64 xa) ∧ u.cell? ⟨wr.heap.size, 4, none⟩ = some (.string xc) ∧ u.cell? ⟨wr.heap.size, 5, none⟩ = some (.string xg) ∧ u.cell? ⟨wr.heap.size, 6, none⟩ = some (.string xn) ∧ u.cell? ⟨wr.heap.size, 7, none⟩ = some (.int .i64 xt) ∧ u.cell? ⟨wr.heap.size, 8, none⟩ = some (.int .i64 xu)) (first | with_reducible exact s0 | with_reducible exact s4') (first
            | (go_at_call 10; refine (num_any _ _).mono ?_; rintro e w' ⟨rfl, hw⟩; obtain rfl := hw.symm)
            | (go_at_call 13; go_must (refine hra.mono ?_); rintro e w4 ⟨rfl, V2, s4, m4⟩; have s4' := HKC.out w4 (m4.blk _ _ _ (Nat.le_refl _) k4.out); have HSX : Hid (TS w w4 gs gr m (j + 1) V2 D2 D2) := s4; clear s4 m4 hra))
          clear s0 s4' k4 HKC HE HLOW
          obtain ⟨N, hN⟩ : ∃ N, N = D2.length := ⟨_, rfl⟩
          have HN : Hid (N = D2.length) := hN
          have hN16 : N ≤ 1000 := by have := HSX.out.far; omega
          have hsx : w.heap.size ≤ w4.heap.size := HSX.out.a.bel.size
          clear hN
          have hal := HSX.out.all N HN.out.symm
          go_wp2_with (first
            | (go_at_call 20; go_must (refine hal.mono ?_); rintro e wa ⟨ya, ca, rfl, oa, sa, fa⟩; have HFR : Hid (∀ k, (Value.slice ya N ca).ownBlock = some k → ¬ rft gr V2 k) := fa; have hrl := sa.rall N HN.out.symm oa; clear fa hal oa sa)
            | (go_at_call 21; go_must (refine hrl.mono ?_); rintro e wb ⟨yb, cb, rfl, ob, sb, oa⟩; have hsm := sb.same oa ob HN.out hN16; clear hrl ob oa sb)
            | (go_at_call 17; go_must (refine hsm.mono ?_); rintro e wc ⟨rfl, sc, oc⟩; have hsp := sc.spoil oc hsx HFR.out HN.out hN16; clear hsm oc sc)
            | (go_at_call 19; go_must (refine hsp.mono ?_); rintro e wd ⟨rfl, sd⟩; have HSE : Hid (TS w wd gs gr m (j + 1) V2 D2 D2) := sd; clear hsp sd))
          go_roundw
          case rel => exact ⟨j + 1, V2, D2, by go_num, by omega, by omega, HSE⟩
          case measure => simp [intOf]; omega
        · have hk5' : decide (kd < 5) = false := by simpa using hk5
          by_cases hk8 : kd < 8
          · obtain ⟨z, hz⟩ : ∃ z, takeX (keyQ xa xi qn qt qc) D = z := ⟨_, rfl⟩
            obtain ⟨e0, he0⟩ : ∃ e0, takeE (keyQ xa xi qn qt qc) D = e0 := ⟨_, rfl⟩
            obtain ⟨D2, hD2⟩ : ∃ D2, D.eraseP (mtA (keyQ xa xi qn qt qc)) = D2 := ⟨_, rfl⟩
            obtain ⟨zj, zi, za, zc, zg, zn, zt, zu⟩ := z
            have HE : Hid (takeX (keyQ xa xi qn qt qc) D = ⟨zj, zi, za, zc, zg, zn, zt, zu⟩ ∧ takeE (keyQ xa xi qn qt qc) D = e0 ∧ D.eraseP (mtA (keyQ xa xi qn qt qc)) = D2) := ⟨hz, he0, hD2⟩
            have hee : (e0 != e0) = false := by simp
            have hne := fun U : World => ak_ne zj zi za zc zg zn zt zu U
            obtain ⟨N, hN⟩ : ∃ N, N = D2.length := ⟨_, rfl⟩
            have HN : Hid (N = D2.length) := hN
            have hN16 : N ≤ 1000 := by
              have h1 := HS1.out.far
              have h2 : D2.length ≤ D.length := by rw [← hD2]; exact List.eraseP_sublist.length_le
              omega
            clear hz he0 hD2 hN
            have ha := HS1.out.take xa xi qn qt qc HNM.out HKY.out zj zi za zc zg zn zt zu e0 D2 HE.out.1 HE.out.2.1 HE.out.2.2
            go_wp2_with (first
              | (go_at_call 10; refine (num_any _ _).mono ?_; rintro e w' ⟨rfl, hw⟩; obtain rfl := hw.symm)
              | (go_at_call 14; go_must (refine ha.mono ?_); rintro e w3 ⟨rfl, s3, p3⟩; have b3 := lay (Below.refl w3.heap.size w3) (.cells #[.int .i64 zj, .int .i64 zi, .int .i64 za, .string zc, .string zg, .string zn, .int .i64 zt, .int .i64 zu] 35); have k3 := (p3.blk _ _ _ (by decide) (by decide) HK0.out).below b3; have z3 := Blk.new w3 #[.int .i64 zj, .int .i64 zi, .int .i64 za, .string zc, .string zg, .string zn, .int .i64 zt, .int .i64 zu] 35; have hz3 : wr.heap.size ≤ w3.heap.size := Nat.le_of_lt (p3.blk _ _ _ (by decide) (by decide) HK0.out).lt; have x2 := k3.cell 2; have x3 := k3.cell 3; have x9 := k3.cell 9; have x10 := k3.cell 10; have x11 := k3.cell 11; simp only [List.getElem?_toArray, List.getElem?_cons_succ, List.getElem?_cons_zero] at x2 x3 x9 x10 x11; have hra := (s3.below b3).rtake HLOW.out xa xi qn qt qc HNM.out zj zi za zc zg zn zt zu e0 D2 HE.out.1 HE.out.2.1 HE.out.2.2; clear s3 p3 ha b3 k3)
              | (go_at_call 15; go_must (refine hra.mono ?_); rintro e w5 ⟨rfl, V2, s5, m5⟩; have b5 := lay (Below.refl w5.heap.size w5) (.cells #[.int .i64 zj, .int .i64 zi, .int .i64 za, .string zc, .string zg, .string zn, .int .i64 zt, .int .i64 zu] 35); have z5 := (m5.blk _ _ _ hz3 z3).below b5; have z6 := Blk.new w5 #[.int .i64 zj, .int .i64 zi, .int .i64 za, .string zc, .string zg, .string zn, .int .i64 zt, .int .i64 zu] 35; have HSX : Hid (TS w (w5.alloc (.cells #[.int .i64 zj, .int .i64 zi, .int .i64 za, .string zc, .string zg, .string zn, .int .i64 zt, .int .i64 zu] 35)) gs gr m j V2 D2 D2) := s5.below b5; clear s5 m5 b5 hra z3 x2 x3 x9 x10 x11)
              | (refine wpList_loadS _ rfl (.tmp 12) 35 rfl w3.heap.size _ 35 rfl z5 ⟨_, Try.underlying35⟩ (by kernel_rfl) ?_)
              | (refine wpList_loadS _ rfl (.tmp 14) 35 rfl w5.heap.size _ 35 rfl z6 ⟨_, Try.underlying35⟩ (by kernel_rfl) ?_)
              | (go_at_call 20; go_must (refine (HSX.out.all N HN.out.symm).mono ?_); rintro e wa ⟨ya, ca, rfl, oa, sa, fa⟩; have hsx : w.heap.size ≤ _ := HSX.out.a.bel.size; have HFR : Hid (∀ k, (Value.slice ya N ca).ownBlock = some k → ¬ rft gr V2 k) := fa; have hrl := sa.rall N HN.out.symm oa; clear fa oa sa HSX)
              | (go_at_call 21; go_must (refine hrl.mono ?_); rintro e wb ⟨yb, cb, rfl, ob, sb, oa⟩; have hsm := sb.same oa ob HN.out hN16; clear hrl ob oa sb)
              | (go_at_call 17; go_must (refine hsm.mono ?_); rintro e wc ⟨rfl, sc, oc⟩; have hsp := sc.spoil oc hsx HFR.out HN.out hN16; clear hsm oc sc)
              | (go_at_call 19; go_must (refine hsp.mono ?_); rintro e wd ⟨rfl, sd⟩; have HSE : Hid (TS w wd gs gr m (j + 1) V2 D2 D2) := ⟨sd.a.more (Nat.le_succ _), sd.b⟩; clear hsp sd))
            go_roundw
            case rel => exact ⟨j + 1, V2, D2, by go_num, by omega, by omega, HSE⟩
            case measure => simp [intOf]; omega
          · have hk8' : decide (kd < 8) = false := by simpa using hk8
            obtain ⟨A, hA⟩ : ∃ A, D.filter (dueA now) = A := ⟨_, rfl⟩
            obtain ⟨D2, hD2⟩ : ∃ D2, (D.filter fun x => !dueA now x) = D2 := ⟨_, rfl⟩
            have HE : Hid (D.filter (dueA now) = A ∧ (D.filter fun x => !dueA now x) = D2) := ⟨hA, hD2⟩
            obtain ⟨N, hN⟩ : ∃ N, N = D2.length := ⟨_, rfl⟩
            have HN : Hid (N = D2.length) := hN
            have hN16 : N ≤ 1000 := by
              have h1 := HS1.out.far
              have h2 : D2.length ≤ D.length := by rw [← hD2]; exact List.length_filter_le _ _
              omega
            obtain ⟨NA, hNA⟩ : ∃ NA, NA = A.length := ⟨_, rfl⟩
            have HNA2 : Hid (NA = A.length) := hNA
            have hNA16 : NA ≤ 1000 := by
              have h1 := HS1.out.far
              have h2 : A.length ≤ D.length := by rw [← hA]; exact List.length_filter_le _ _
              omega
            clear hA hD2 hN hNA
            have ha := HS1.out.due now A D2 NA HE.out.1 HE.out.2 HNA2.out.symm
            have t1 : True := trivial
            have t2 : True := trivial
            go_wp2_with (first
              | (go_at_call 16; go_must (refine ha.mono ?_); rintro e w3 ⟨yx, cx, rfl, ox, s3, p3⟩; have k3 := p3.blk _ _ _ (by decide) (by decide) HK0.out; have x12 := k3.cell 12; simp only [List.getElem?_toArray, List.getElem?_cons_succ, List.getElem?_cons_zero] at x12; have hra := s3.rdue HLOW.out now A D2 NA HE.out.1 HE.out.2 HNA2.out.symm ox HZ1; clear s3 p3 ha k3 ox)
              | (go_at_call 18; go_must (refine hra.mono ?_); rintro e w5 ⟨yy, cy, V2, rfl, oy, s5, ox, fx⟩; have HFX : Hid (∀ k, (Value.slice yx NA cx).ownBlock = some k → ¬ rft gr V2 k) := fx; have hsm := s5.same ox oy HNA2.out hNA16; clear s5 ox oy fx hra x12)
              | (go_at_call 17; have _t := t1; go_must (refine hsm.mono ?_); rintro e w6 ⟨rfl, s6, o6⟩; have hsp := s6.spoil o6 (Nat.le_trans HSZ HZ1) HFX.out HNA2.out hNA16; clear hsm o6 s6 t1)
              | (go_at_call 19; have _t := t2; go_must (refine hsp.mono ?_); rintro e w7 ⟨rfl, s7⟩; have HSX : Hid (TS w w7 gs gr m j V2 D2 D2) := s7; clear hsp s7 t2 HFX)
              | (go_at_call 20; go_must (refine (HSX.out.all N HN.out.symm).mono ?_); rintro e wa ⟨ya, ca, rfl, oa, sa, fa⟩; have hsx : w.heap.size ≤ _ := HSX.out.a.bel.size; have HFR : Hid (∀ k, (Value.slice ya N ca).ownBlock = some k → ¬ rft gr V2 k) := fa; have hrl := sa.rall N HN.out.symm oa; clear fa oa sa HSX)
              | (go_at_call 21; go_must (refine hrl.mono ?_); rintro e wb ⟨yb, cb, rfl, ob, sb, oa⟩; have hsm := sb.same oa ob HN.out hN16; clear hrl ob oa sb)
              | (go_at_call 17; go_must (refine hsm.mono ?_); rintro e wc ⟨rfl, sc, oc⟩; have hsp := sc.spoil oc hsx HFR.out HN.out hN16; clear hsm oc sc)
              | (go_at_call 19; go_must (refine hsp.mono ?_); rintro e wd ⟨rfl, sd⟩; have HSE : Hid (TS w wd gs gr m (j + 1) V2 D2 D2) := ⟨sd.a.more (Nat.le_succ _), sd.b⟩; clear hsp sd))
            go_roundw
            case rel => exact ⟨j + 1, V2, D2, by go_num, by omega, by omega, HSE⟩
            case measure => simp [intOf]; omega
      · have hend : ((decide ((j : Int) < (na : Int)) && decide ((j : Int) < 80)) = false) := by
          rw [Bool.and_eq_false_iff, decide_eq_false_iff_not, decide_eq_false_iff_not]
          omega
        by_cases hj : j < na
        · have hj' : (j : Int) < (na : Int) := by omega
          have h8' : decide ((j : Int) < 80) = false := by rw [decide_eq_false_iff_not]; omega
          clear hend
          go_wp2_with (go_at_call 11; go_must (refine (awake_any _).mono ?_); rintro e w1 ⟨rfl, b1⟩)
          go_ret
          exact ⟨rfl, next HS.out.a.bel b1⟩
        · have hj' : decide (j < na) = false := by simpa using hj
          clear hend
          go_wp2_with (go_at_call 11; go_must (refine (awake_any _).mono ?_); rintro e w1 ⟨rfl, b1⟩)
          go_ret
          exact ⟨rfl, next HS.out.a.bel b1⟩

theorem own : ownKnob Try.prog.godebug = none := by kernel_rfl
theorem laidOut : laidOutB Try.prog = true := by kernel_rfl

set_option maxRecDepth 100000 in
theorem lifted (os : Os) (started : os.Started) (H : Type) (enc : TypeId × Value → H) :
    ReturnsInHanded {} Try.checked os 3 .any (Rows.tableActsSpec.pre6 enc Try.prog Try.f3 Rows.tableActsRow.domain false) (Rows.tableActsSpec.post enc Try.prog Try.f3 false true false false) := by
  refine returnsInHanded_of_change_sized (C := Try.checked) own started (by kernel_rfl) Try.func3
    (ChangeSpec.witness6 (enc := enc) (C := Try.checked) false ⟨#[], #[.int .i64 0, .slice none 0 0], []⟩ 8 (by kernel_rfl) (by kernel_rfl) (by kernel_rfl) (by kernel_rfl)) ?_
  intro W base args ds gs before hval0 hW _ hsz0 _
  have hval : ∀ (j : Nat) t v, Try.f3.params[j]? = some t → args[j]? = some v → Value.okWide Try.prog W .any base t v := hval0
  have hsz : (DataW.weightsEach Try.prog (Try.f3.params.toList ++ Rows.tableActsSpec.plain.varTypes Try.prog) (ds ++ gs)).all (· ≤ reachBytes) = true := hsz0
  have hW' := hW
  obtain ⟨p, q, hA0, hV, rfl, hfz, hnd⟩ := hW
  have hA : DataW.TrodAll enc Try.prog W 0 (fun _ => true) true Try.f3.params.toList args.toList ds p := hA0
  rw [Try.params3] at hA hval hsz
  obtain ⟨v0, vs0, d0, ds0, p0, q0, hargs, rfl, rfl, h0, r0⟩ := trodAll_cons hA
  obtain ⟨v1, vs1, d1, ds1, p1, q1, rfl, rfl, rfl, h1, r1⟩ := trodAll_cons r0
  obtain ⟨rfl, rfl, rfl⟩ := trodAll_nil r1
  obtain rfl : args = #[v0, v1] := by cases args; simp_all
  obtain ⟨rfl, rfl⟩ := trodVars_none hV
  obtain ⟨a0, rfl, rfl, rfl, w0⟩ := open_int Try.underlying3 (hval 0 3 v0 rfl rfl) h0
  obtain ⟨a1, w1⟩ := Ou.open_tacts (hval 1 22 v1 rfl rfl) h1 (weights_all hsz (j := 1) rfl rfl)
  have hlt1 : ∀ x ∈ p1, x.block < W.heap.size := fun x hx => by
    have := hW'.lt x (by simp [hx])
    simpa using this
  clear hA0 hval0 hsz0 hsz
  simp only [List.append_nil] at hW'
  refine (walk a0 v1 a1 w0  W w1).mono fun e W' ⟨he, bel⟩ => ?_
  subst he
  exact ⟨_, rfl, _, _, _, [], _, [], hW', trodAll_mk1 (shut_bool Try.underlying4 _), (trodAll_cons_mk (shut_int Try.underlying3 w0) (trodAll_cons_mk (Below.trod laidOut (by kernel_rfl) (of_decide_eq_true (by kernel_rfl)) h1 bel hlt1) trodAll_mk0)), rfl, bel.frame _, fun h => by cases h⟩

/-- The statement. -/
theorem proved : Rows.TableActsSaid :=
  OpenClaim.holds_of_wide 3 Try.f3 rfl rfl rfl rfl rfl rfl rfl ⟨rfl, rfl, rfl, rfl, rfl⟩ rfl rfl rfl rfl rfl (by kernel_rfl) Try.func3 (by kernel_rfl)
    (of_decide_eq_true (by kernel_rfl)) (by unfold Func.isWrapper; first | (rw [if_pos (by decide +kernel)]; kernel_rfl) | (rw [if_neg (by decide +kernel)]; exact ⟨rfl, rfl⟩))
    (fun os started H enc _ => lifted os started H enc)
#print axioms proved


end Go.Proofs.Ytbldoplemfjcjaa.tableActs
