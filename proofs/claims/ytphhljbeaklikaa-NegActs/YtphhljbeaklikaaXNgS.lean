/- The document's Nodata and All of a Negs. -/
import Derived.Test.YtphhljbeaklikaaXNgR
import Derived.Test.YtphhljbeaklikaaXNgO
import Derived.BigQuiet
namespace Go.Proofs.Ytphhljbeaklikaa
open Go.RowKit
open Pl
namespace Ng

theorem same_fd {y n : ByteArray} {t : Int} (h : OkK y t) : sameB y.data.toList n.data.toList = decide (y = fdB n) := by
  unfold sameB
  rw [h.nm, h.fo, Bool.true_and]
  cases hn : isName n.data.toList with
  | true =>
    rw [Bool.true_and, decide_eq_decide]
    have e : (fdB n).data.toList = foldL n.data.toList := by rw [fdB_list]; unfold foldR; rw [if_pos hn]
    exact ⟨fun h1 => bytes_ext (by rw [e]; exact h1), fun h1 => by rw [← e, ← h1]⟩
  | false =>
    rw [Bool.false_and]
    symm
    rw [decide_eq_false_iff_not]
    intro e
    have e2 : (fdB n).data.toList = [] := by rw [fdB_list]; unfold foldR; rw [if_neg (by rw [hn]; decide)]
    have := h.nm
    rw [e, e2] at this
    exact absurd this (by decide)


set_option maxRecDepth 20000 in
set_option maxHeartbeats 4000000 in
theorem rhas_any {B : Nat} {w : World} {gr most : Nat} {V : Value} {M : List En} (h : RS B w gr most V M) (n : ByteArray) (t now : Int) (hn : n.size ≤ maxLen) (r : Bool) (hr : hasN M n t now = r) :
    Calls Try.prog 15 #[.pointer (some ⟨gr, 0, none⟩), .string n, .int .i64 t, .int .i64 now] w fun e w' => e = .returned (.bool r) ∧ Below w.heap.size w w' := by
  have HRS : Hid (RS B w gr most V M) := h
  have HR : Hid (hasN M n t now = r) := hr
  have hm256 : M.length ≤ 256 := Nat.le_trans h.len h.m2
  obtain ⟨m, hmM⟩ : ∃ m, m = M.length := ⟨_, rfl⟩
  have HM : Hid (m = M.length) := hmM
  rw [← hmM] at hm256
  obtain ⟨yv, cv, hV⟩ := row_shape h.es
  rw [← hmM] at hV
  subst hV
  clear h hmM hr
  go_enter Try.func15, Try.ntmps15
  go_wp2
  go_loopw [9] (fun iv wr => ∃ j : Nat, iv = .int .i64 (j : Int) ∧ j ≤ m ∧ Hid (hasN (M.take j) n t now = false) ∧ Hid (Below w.heap.size w wr)) (fun i _ => m - (intOf i).toNat)
  case atStart => exact ⟨0, rfl, Nat.zero_le _, rfl, Below.refl _ _⟩
  case round =>
    obtain ⟨j, rfl, hjm, HF, HB⟩ := hrel
    have HRR : Hid (RS B wr gr most (.slice yv m cv) M) := HRS.out.below HB.out
    have cg : wr.cell? ⟨gr, 1, none⟩ = some (.slice yv m cv) := HRR.out.blk.cell 1
    by_cases hj : j < m
    · have hj' : (j : Int) < (m : Int) := by omega
      have hjM : j < M.length := by rw [← HM.out]; exact hj
      obtain ⟨gv, cap, hyv, _, _⟩ := HRR.out.es.form (by omega)
      rw [← HM.out] at hyv
      simp only [Value.slice.injEq, true_and] at hyv
      obtain ⟨rfl, rfl⟩ := hyv
      obtain ⟨p, hp⟩ : ∃ p, p = M[j] := ⟨_, rfl⟩
      have hpM : p ∈ M := by rw [hp]; exact List.getElem_mem _
      have hcc : ∀ i, i < 3 → wr.cell? ⟨gv, j * 3 + i, none⟩ = (nVc p)[i]? := fun i hi' => by
        have h1 := HRR.out.es
        rw [← HM.out] at h1
        rw [h1.cellAt (j * 3 + i) (by omega), hp]
        exact nC_at hjM i hi'
      have HNX : Hid ((sameK (fdB n) t p && decide (now < p.u)) = false → hasN (M.take (j + 1)) n t now = false) := fun hk => by
        rw [List.take_succ_eq_append_getElem hjM, has_app, HF.out, ← hp]
        unfold hasN
        simp [hk]
      have HYS : Hid ((sameK (fdB n) t p && decide (now < p.u)) = true → r = true) := fun hk => by
        rw [← HR.out]
        unfold hasN
        exact List.any_eq_true.2 ⟨p, hpM, hk⟩
      have hok := (HRS.out.ok p hpM).k
      have HSM : Hid (∀ u v, decide (p.n = fdB n) = v → Calls Try.prog 22 #[.string p.n, .string n] u fun e w' => e = .returned (.bool v) ∧ Below u.heap.size u w') := fun u v hv => refSame_as p.n n v u (max_ok hok) hn (by rw [same_fd hok]; exact hv)
      have c0 := hcc 0 (by decide)
      have c1 := hcc 1 (by decide)
      have c2 := hcc 2 (by decide)
      rw [Nat.add_zero] at c0
      clear hcc hp hpM hok
      obtain ⟨qn, qt, ql, qds, qr, qu⟩ := p
      simp only [sameK] at HNX HYS HSM
      simp only [nVc, List.getElem?_cons_succ, List.getElem?_cons_zero] at c0 c1 c2
      have hb1 : Below wr.heap.size wr (wr.alloc (.cells #[.string qn, .int .i64 qt, .int .i64 qu] 33)) := lay (Below.refl _ _) _
      have k1 := Blk.new wr #[.string qn, .int .i64 qt, .int .i64 qu] 33
      cases hs : decide (qn = fdB n) with
      | false =>
        have HN2 : Hid (hasN (M.take (j + 1)) n t now = false) := HNX.out (by rw [hs]; rfl)
        have hsm := fun u => HSM.out u false hs
        clear HNX HYS HSM hs HF
        go_wp2_with (go_at_call 22; go_must (refine (hsm _).mono ?_); rintro e w2 ⟨rfl, b2⟩; have HB2 : Hid (Below w.heap.size w w2) := next HB.out (next hb1 b2); clear b2)
        go_roundw
        case rel => exact ⟨j + 1, by go_num, by omega, HN2, HB2⟩
        case measure => simp [intOf]; omega
      | true =>
        have hsm := fun u => HSM.out u true hs
        by_cases ht : qt = t
        · subst ht
          have htt : (qt == qt) = true := by simp
          by_cases hl : now < qu
          · have HRT : Hid (r = true) := HYS.out (by rw [hs]; simp [hl])
            clear HNX HYS HSM hs HF
            go_wp2_with (go_at_call 22; go_must (refine (hsm _).mono ?_); rintro e w2 ⟨rfl, b2⟩; have HB2 : Hid (Below w.heap.size w w2) := next HB.out (next hb1 b2); have k2 := k1.below b2; have y1 := k2.cell 1; have y2 := k2.cell 2; simp only [List.getElem?_toArray, List.getElem?_cons_succ, List.getElem?_cons_zero] at y1 y2; clear b2)
            go_ret
            exact ⟨ret_bool HRT.out.symm, HB2.out⟩
          · have hl' : decide (now < qu) = false := by simpa using hl
            have HN2 : Hid (hasN (M.take (j + 1)) n qt now = false) := HNX.out (by rw [hl', Bool.and_false])
            clear HNX HYS HSM hs HF hl
            go_wp2_with (go_at_call 22; go_must (refine (hsm _).mono ?_); rintro e w2 ⟨rfl, b2⟩; have HB2 : Hid (Below w.heap.size w w2) := next HB.out (next hb1 b2); have k2 := k1.below b2; have y1 := k2.cell 1; have y2 := k2.cell 2; simp only [List.getElem?_toArray, List.getElem?_cons_succ, List.getElem?_cons_zero] at y1 y2; clear b2)
            go_roundw
            case rel => exact ⟨j + 1, by go_num, by omega, HN2, HB2⟩
            case measure => simp [intOf]; omega
        · have htt : (qt == t) = false := by simpa using ht
          have HN2 : Hid (hasN (M.take (j + 1)) n t now = false) := HNX.out (by simp [ht])
          clear HNX HYS HSM hs HF ht
          go_wp2_with (go_at_call 22; go_must (refine (hsm _).mono ?_); rintro e w2 ⟨rfl, b2⟩; have HB2 : Hid (Below w.heap.size w w2) := next HB.out (next hb1 b2); have k2 := k1.below b2; have y1 := k2.cell 1; have y2 := k2.cell 2; simp only [List.getElem?_toArray, List.getElem?_cons_succ, List.getElem?_cons_zero] at y1 y2; clear b2)
          go_roundw
          case rel => exact ⟨j + 1, by go_num, by omega, HN2, HB2⟩
          case measure => simp [intOf]; omega
    · have hj' : decide (j < m) = false := by simpa using hj
      have HRT : Hid (false = r) := by
        have := HF.out
        rw [List.take_of_length_le (by rw [← HM.out]; omega), HR.out] at this
        exact this.symm
      clear HF
      go_wp2
      go_ret
      exact ⟨ret_bool HRT.out, HB.out⟩

theorem ins_at {Mo : List En} {k : Nat} {e : En} (hk : k ≤ Mo.length) (h1 : ∀ x ∈ Mo.take k, befE x e = true) (h2 : ∀ h : k < Mo.length, befE Mo[k] e = false) : insE e Mo = Mo.take k ++ e :: Mo.drop k := by
  have _ := hk
  have t1 : (Mo.drop k).takeWhile (fun x => befE x e) = [] ∧ (Mo.drop k).dropWhile (fun x => befE x e) = Mo.drop k := by
    by_cases hl : k < Mo.length
    · rw [List.drop_eq_getElem_cons hl, List.takeWhile_cons, List.dropWhile_cons, h2 hl]
      exact ⟨rfl, rfl⟩
    · rw [List.drop_of_length_le (by omega)]
      exact ⟨rfl, rfl⟩
  unfold insE
  conv => lhs; rw [show Mo = Mo.take k ++ Mo.drop k from (List.take_append_drop k Mo).symm]
  rw [List.takeWhile_append_of_pos h1, List.dropWhile_append_of_pos h1, t1.1, t1.2, List.append_nil]
/-- How far All is: the row that it gives, and the variable e. -/
structure AW (w wr : World) (bx : Nat) (E : Array Value) (ov : Value) (Mo : List En) : Prop where
  es : wr.ownsRow w.heap.size 33 3 ov Mo.length (nC Mo)
  box : Blk wr bx E 33
  bel : Below w.heap.size w wr
theorem AW.below {w wr wn : World} {bx : Nat} {E : Array Value} {ov : Value} {Mo : List En} (h : AW w wr bx E ov Mo) (hb : Below wr.heap.size wr wn) : AW w wn bx E ov Mo := ⟨own_past h.es hb, h.box.below hb, next h.bel hb⟩
theorem AW.new {w wr : World} {ov : Value} {Mo : List En} (h : wr.ownsRow w.heap.size 33 3 ov Mo.length (nC Mo)) (hb : Below w.heap.size w wr) (E : Array Value) : AW w (wr.alloc (.cells E 33)) wr.heap.size E ov Mo :=
  ⟨own_past h (lay (Below.refl _ _) _), Blk.new wr E _, next hb (lay (Below.refl _ _) _)⟩

set_option maxRecDepth 20000 in
set_option maxHeartbeats 8000000 in
theorem rall_any {B : Nat} {w : World} {gr most : Nat} {V : Value} {M : List En} (h : RS B w gr most V M) :
    Calls Try.prog 19 #[.pointer (some ⟨gr, 0, none⟩)] w fun e w' => ∃ v, e = .returned v ∧ w'.ownsRow w.heap.size 33 3 v M.length (nC (allP M)) ∧ Below w.heap.size w w' := by
  obtain ⟨i0, hi, hz0, hz1, hz2⟩ := info_parts infoNg
  have HRS : Hid (RS B w gr most V M) := h
  have hm256 : M.length ≤ 256 := Nat.le_trans h.len h.m2
  obtain ⟨m, hmM⟩ : ∃ m, m = M.length := ⟨_, rfl⟩
  have HM : Hid (m = M.length) := hmM
  rw [← hmM] at hm256
  obtain ⟨yv, cv, hV⟩ := row_shape h.es
  rw [← hmM] at hV
  subst hV
  clear h hmM
  go_enter Try.func19, Try.ntmps19
  go_wp2
  go_loopw [3, 4] (fun ov iv wr => ∃ (j no co : Nat) (yo : Option Addr) (Mo : List En), ov = .slice yo no co ∧ iv = .int .i64 (j : Int) ∧ j ≤ m ∧ no ≤ j ∧ Hid (no = Mo.length) ∧ Hid (Mo = allP (M.take j)) ∧ Hid (∀ p ∈ Mo, OkE p) ∧ Hid (wr.ownsRow w.heap.size 33 3 (.slice yo no co) Mo.length (nC Mo) ∧ Below w.heap.size w wr)) (fun _ i _ => m - (intOf i).toNat)
  case atStart => exact ⟨0, 0, 0, none, [], rfl, rfl, Nat.zero_le _, Nat.le_refl _, rfl, rfl, fun p hp => by simp at hp, World.ownsRow_nil _ _ _ _, Below.refl _ _⟩
  case round =>
    obtain ⟨j, no, co, yo, Mo, rfl, rfl, hjm, hnj, HNO, HFO, HOK, HES⟩ := hrel
    have HRR : Hid (RS B wr gr most (.slice yv m cv) M) := HRS.out.below HES.out.2
    have cg : wr.cell? ⟨gr, 1, none⟩ = some (.slice yv m cv) := HRR.out.blk.cell 1
    by_cases hj : j < m
    · have hj' : (j : Int) < (m : Int) := by omega
      have hjM : j < M.length := by rw [← HM.out]; exact hj
      obtain ⟨gv, cap, hyv, _, _⟩ := HRR.out.es.form (by omega)
      rw [← HM.out] at hyv
      simp only [Value.slice.injEq, true_and] at hyv
      obtain ⟨rfl, rfl⟩ := hyv
      obtain ⟨p, hp⟩ : ∃ p, p = M[j] := ⟨_, rfl⟩
      have hpM : p ∈ M := by rw [hp]; exact List.getElem_mem _
      have hcc : ∀ i, i < 3 → wr.cell? ⟨gv, j * 3 + i, none⟩ = (nVc p)[i]? := fun i hi' => by
        have h1 := HRR.out.es
        rw [← HM.out] at h1
        rw [h1.cellAt (j * 3 + i) (by omega), hp]
        exact nC_at hjM i hi'
      have HALL : Hid (∀ L, insE p Mo = L → L = allP (M.take (j + 1))) := fun L hL => by
        rw [← hL, List.take_succ_eq_append_getElem hjM, HFO.out, ← hp]
        unfold allP
        rw [List.foldl_append]
        rfl
      have HPOK : Hid (OkE p) := HRS.out.ok p hpM
      have HSB : Hid (p.n.size ≤ maxLen) := max_ok (HRS.out.ok p hpM).k
      have c0 := hcc 0 (by decide)
      have c1 := hcc 1 (by decide)
      have c2 := hcc 2 (by decide)
      rw [Nat.add_zero] at c0
      clear hcc hp hpM HFO
      obtain ⟨qn, qt, ql, qds, qr, qu⟩ := p
      simp only at HSB
      simp only [nVc, List.getElem?_cons_succ, List.getElem?_cons_zero] at c0 c1 c2
      obtain ⟨bx, hbx⟩ : ∃ bx, bx = wr.heap.size := ⟨_, rfl⟩
      have HAW : Hid (AW w (wr.alloc (.cells #[.string qn, .int .i64 qt, .int .i64 qu] 33)) bx #[.string qn, .int .i64 qt, .int .i64 qu] (.slice yo no co) Mo) := by rw [hbx]; exact AW.new HES.out.1 HES.out.2 _
      have HBX : Hid (bx = wr.heap.size) := hbx
      clear HES hbx
      go_wp2
      rw [← HBX.out]
      clear c0 c1 c2 cg HRR HBX
      go_loopw [6] (fun kv wq => ∃ k : Nat, kv = .int .i64 (k : Int) ∧ k ≤ no ∧ Hid (∀ x ∈ Mo.take k, befE x ⟨qn, qt, ql, qds, qr, qu⟩ = true) ∧ Hid (AW w wq bx #[.string qn, .int .i64 qt, .int .i64 qu] (.slice yo no co) Mo)) (fun k _ => no - (intOf k).toNat)
      case atStart => exact ⟨0, rfl, Nat.zero_le _, fun x hx => by simp at hx, HAW⟩
      case round =>
        clear HAW
        obtain ⟨k, rfl, hkn, HBF, HAW⟩ := hrel
        have e0 : ∀ nb : Bel wr, nb.to.cell? ⟨bx, 0, none⟩ = some (.string qn) := fun nb => (HAW.out.box.below nb.h).cell 0
        have e1 : ∀ nb : Bel wr, nb.to.cell? ⟨bx, 1, none⟩ = some (.int .i64 qt) := fun nb => (HAW.out.box.below nb.h).cell 1
        by_cases hk : k < no
        · have hk' : (k : Int) < (no : Int) := by omega
          have hkM : k < Mo.length := by rw [← HNO.out]; exact hk
          obtain ⟨go, cap, hyo, _, _⟩ := HAW.out.es.form (by omega)
          rw [← HNO.out] at hyo
          simp only [Value.slice.injEq, true_and] at hyo
          obtain ⟨rfl, rfl⟩ := hyo
          obtain ⟨a, ha⟩ : ∃ a, a = Mo[k] := ⟨_, rfl⟩
          have HOW : Hid (wr.ownsRow w.heap.size 33 3 (.slice (some ⟨go, 0, none⟩) no co) no (nC Mo)) := by have := HAW.out.es; rw [← HNO.out] at this; exact this
          have HSA : Hid (a.n.size ≤ maxLen) := by unfold Hid; rw [ha]; exact max_ok (HOK.out _ (List.getElem_mem hkM)).k
          have a0 : ∀ nb : Bel wr, nb.to.cell? ⟨go, k * 3, none⟩ = some (.string a.n) := fun nb => by
            have := (own_past HOW.out nb.h).cellAt (k * 3 + 0) (by omega)
            rw [nC_at hkM 0 (by decide), Nat.add_zero] at this
            rw [this, ha]
            rfl
          have a1 : ∀ nb : Bel wr, nb.to.cell? ⟨go, k * 3 + 1, none⟩ = some (.int .i64 a.t) := fun nb => by
            rw [(own_past HOW.out nb.h).cellAt (k * 3 + 1) (by omega), nC_at hkM 1 (by decide), ha]
            rfl
          have HBK : Hid (∀ x, decide (cK a.n a.t qn qt < 0) = x → befE Mo[k] ⟨qn, qt, ql, qds, qr, qu⟩ = x) := fun x hx => by rw [← ha, ← hx]; rfl
          have HTM : Hid (befE Mo[k] ⟨qn, qt, ql, qds, qr, qu⟩ = true → ∀ x ∈ Mo.take (k + 1), befE x ⟨qn, qt, ql, qds, qr, qu⟩ = true) := fun hb x hx => by
            rw [List.take_succ_eq_append_getElem hkM, List.mem_append] at hx
            rcases hx with hx | hx
            · exact HBF.out x hx
            · simp at hx; rw [hx]; exact hb
          have HBC : Hid (∀ v x, decide (cK a.n a.t qn qt < 0) = x → Calls Try.prog 30 #[.string a.n, .int .i64 a.t, .string qn, .int .i64 qt] v fun e w' => e = .returned (.bool x) ∧ Below v.heap.size v w') := fun v x hx => before_any a.n qn a.t qt v HSA.out HSB.out x hx
          clear ha HOW
          obtain ⟨an, at', al, ads, ar, au⟩ := a
          simp only at a0 a1 HBK HBC
          cases hx : decide (cK an at' qn qt < 0) with
          | true =>
            have S := fun nb : Bel wr => HBC.out nb.to true hx
            have HT2 : Hid (∀ x ∈ Mo.take (k + 1), befE x ⟨qn, qt, ql, qds, qr, qu⟩ = true) := HTM.out (HBK.out true hx)
            clear hx HBC HBK HTM HBF hkM
            go_wp2
            refine wp_region_bel (by kernel_rfl) (by kernel_rfl) (fun _ => ?_)
            repeat (go_big_quiet_step ((go_at_call 30; go_must (exact bel_lays (S _)))))
            refine wpQuiet_nil ?_
            intro wn hwn
            have H5 : Hid (AW w wn bx #[.string qn, .int .i64 qt, .int .i64 qu] (.slice (some ⟨go, 0, none⟩) no co) Mo) := HAW.out.below (bel_out hwn)
            clear hwn HAW a0 a1 e0 e1 S
            go_wp2
            go_roundw
            case rel => exact ⟨k + 1, by go_num, by omega, HT2, H5⟩
            case measure => simp [intOf]; omega
          | false =>
            have S := fun nb : Bel wr => HBC.out nb.to false hx
            have HIN : Hid (insE ⟨qn, qt, ql, qds, qr, qu⟩ Mo = Mo.take k ++ ⟨qn, qt, ql, qds, qr, qu⟩ :: Mo.drop k) := ins_at (by omega) HBF.out (fun _ => HBK.out false hx)
            clear hx HBC HBK HTM HBF hkM
            go_wp2
            refine wp_region_bel (by kernel_rfl) (by kernel_rfl) (fun _ => ?_)
            repeat (go_big_quiet_step ((go_at_call 30; go_must (exact bel_lays (S _)))))
            refine wpQuiet_nil ?_
            intro wn hwn
            have H5 : Hid (AW w wn bx #[.string qn, .int .i64 qt, .int .i64 qu] (.slice (some ⟨go, 0, none⟩) no co) Mo) := HAW.out.below (bel_out hwn)
            clear hwn HAW a0 a1 e0 e1 S
            obtain ⟨M2, hM2⟩ : ∃ M2 : List En, M2 = Mo.take k ++ ⟨qn, qt, ql, qds, qr, qu⟩ :: Mo.drop k := ⟨_, rfl⟩
            obtain ⟨N2, hN2⟩ : ∃ N2, N2 = k + 1 + (no - k) := ⟨_, rfl⟩
            have HN2 : Hid (k + 1 + (no - k) = N2) := hN2.symm
            have hN2b : N2 ≤ j + 1 := by omega
            have HL2 : Hid (N2 = M2.length) := by unfold Hid; rw [hM2, hN2]; simp; have := HNO.out; omega
            have HF2 : Hid (M2 = allP (M.take (j + 1))) := HALL.out _ (by rw [HIN.out, hM2])
            have HK2 : Hid (∀ p ∈ M2, OkE p) := fun p hp => by
              rw [hM2] at hp
              rcases List.mem_append.1 hp with hp | hp
              · exact HOK.out p (List.mem_of_mem_take hp)
              · rcases List.mem_cons.1 hp with rfl | hp
                · exact HPOK.out
                · exact HOK.out p (List.mem_of_mem_drop hp)
            have HE2 : Hid ((nC Mo).take (k * 3) ++ [.string qn, .int .i64 qt, .int .i64 qu] ++ (nC Mo).drop (k * 3) = nC M2) := by
              unfold Hid
              rw [hM2, nC_take, nC_drop]
              simp [nC, nVc]
            have HC1 : Hid (∀ x ∈ (nC Mo).take (k * 3), x.oneCell' = true) := fun x hx => nC_one Mo x (List.mem_of_mem_take hx)
            have HC2 : Hid (∀ x ∈ (nC Mo).drop (k * 3), x.oneCell' = true) := fun x hx => nC_one Mo x (List.mem_of_mem_drop hx)
            have HLA : Hid (((nC Mo).take (k * 3)).length = k * 3) := by unfold Hid; rw [List.length_take, nC_len]; have := HNO.out; omega
            have HLD : Hid (((nC Mo).drop (k * 3)).length = (no - k) * 3) := by unfold Hid; rw [List.length_drop, nC_len, ← HNO.out, Nat.sub_mul]
            have HBE : Hid (Below wn.heap.size wn (wn.alloc (.cells #[] 33))) := lay (Below.refl _ _) _
            have HOA : Hid ((wn.alloc (.cells #[] 33)).ownsRow w.heap.size 33 3 (.slice (some ⟨go, 0, none⟩) no co) no (nC Mo)) := by have := own_past H5.out.es HBE.out; rw [← HNO.out] at this; exact this
            have HOE : Hid ((wn.alloc (.cells #[] 33)).ownsRow wn.heap.size 33 3 (.slice (some ⟨wn.heap.size, 0, none⟩) 0 0) 0 []) := own_blk (B := wn.heap.size) (z := 3) (n := 0) (xs := []) (Blk.new wn #[] 33) (Nat.le_refl _) rfl rfl (Nat.zero_le _)
            have hwn := H5.out.bel.size
            have tk2 : True := trivial
            have tk3 : True := trivial
            have tk4 : True := trivial
            have tk5 : True := trivial
            have tk6 : True := trivial
            clear hN2 hM2 HIN HALL
            go_wp2_with (first
              | (have _t := tk2; refine wpList_sliceTo _ rfl (.tmp 48) (.tmp 49) 40 33 w.heap.size 3 Try.underlying40 (Try.sizeOf33 _) rfl _ no k (nC Mo) rfl rfl HOA.out (by omega) ?_; intro va hra; clear tk2)
              | (at_builtin; have _t := tk3; refine wpList_appG _ rfl (.tmp 47) (.tmp 50) 40 33 i0 _ 3 32 Try.underlying40 hi hz0 hz1 hz2 rfl (by decide) rfl wn.heap.size _ 0 [] rfl HOE.out _ k ((nC Mo).take (k * 3)) rfl hra HLA.out HC1.out (by omega) (by unfold maxLen; omega) HBE.out.size ?_; intro v5 w5 h1 h3 _; rw [Nat.zero_add, List.nil_append] at h1; have HB5 : Hid (Below wn.heap.size wn w5) := HBE.out.grown h3 HBE.out.size (fun i e => (HOE.out.lt i e).1); have HA5 : Hid (AW w w5 bx #[.string qn, .int .i64 qt, .int .i64 qu] (.slice (some ⟨go, 0, none⟩) no co) Mo) := H5.out.below HB5.out; have g0 : w5.cell? ⟨bx, 0, none⟩ = some (.string qn) := HA5.out.box.cell 0; have g1 : w5.cell? ⟨bx, 1, none⟩ = some (.int .i64 qt) := HA5.out.box.cell 1; have g2 : w5.cell? ⟨bx, 2, none⟩ = some (.int .i64 qu) := HA5.out.box.cell 2; have HB6 : Hid (Below wn.heap.size wn (w5.alloc (.cells #[.string qn, .int .i64 qt, .int .i64 qu] 33))) := lay HB5.out _; have HO6 : Hid ((w5.alloc (.cells #[.string qn, .int .i64 qt, .int .i64 qu] 33)).ownsRow wn.heap.size 33 3 v5 k ((nC Mo).take (k * 3))) := h1.alloc _; have HR6 := Row.of_blk (Blk.new w5 #[.string qn, .int .i64 qt, .int .i64 qu] 33) (xs := [.string qn, .int .i64 qt, .int .i64 qu]) rfl 1 1; clear h1 h3 tk3 hra)
              | (at_builtin; have _t := tk4; refine wpList_appG _ rfl (.tmp 52) (.tmp 54) 40 33 i0 _ 3 32 Try.underlying40 hi hz0 hz1 hz2 rfl (by decide) rfl wn.heap.size _ k ((nC Mo).take (k * 3)) rfl HO6.out _ 1 [.string qn, .int .i64 qt, .int .i64 qu] rfl HR6 rfl (fun v hv => by simp at hv; rcases hv with rfl | rfl | rfl <;> rfl) (by omega) (by unfold maxLen; omega) HB6.out.size ?_; intro v6 w6 h1 h3 _; have HB7 : Hid (Below wn.heap.size wn w6) := HB6.out.grown h3 HB6.out.size (fun i e => (HO6.out.lt i e).1); have HA6 := H5.out.below HB7.out; have HOB : Hid (w6.ownsRow w.heap.size 33 3 (.slice (some ⟨go, 0, none⟩) no co) no (nC Mo)) := (by have := HA6.es; rw [← HNO.out] at this; exact this); have H16 : Hid (w6.ownsRow wn.heap.size 33 3 v6 (k + 1) ((nC Mo).take (k * 3) ++ [.string qn, .int .i64 qt, .int .i64 qu])) := h1; clear h1 h3 tk4 HR6 HO6 g0 g1 g2 HA6)
              | (have _t := tk5; refine wpList_sliceFrom _ rfl (.tmp 57) (.tmp 58) 40 33 w.heap.size 3 Try.underlying40 (Try.sizeOf33 _) rfl _ no k (nC Mo) rfl rfl HOB.out (by omega) ?_; intro vb hrb; clear tk5)
              | (at_builtin; have _t := tk6; refine wpList_appG _ rfl (.tmp 56) (.tmp 59) 40 33 i0 _ 3 32 Try.underlying40 hi hz0 hz1 hz2 rfl (by decide) rfl wn.heap.size _ (k + 1) _ rfl H16.out _ (no - k) ((nC Mo).drop (k * 3)) rfl hrb HLD.out HC2.out (by omega) (by unfold maxLen; omega) HB7.out.size ?_; intro v8 w8 h1 h3 _; rw [HE2.out, HN2.out] at h1; have B8 : Below wn.heap.size wn w8 := HB7.out.grown h3 HB7.out.size (fun i e => (H16.out.lt i e).1); obtain ⟨y8, c8, hv8⟩ := row_shape h1; subst hv8; have HA8 := H5.out.below B8; have HES8 : Hid (w8.ownsRow w.heap.size 33 3 (.slice y8 N2 c8) M2.length (nC M2) ∧ Below w.heap.size w w8) := ⟨(by rw [← HL2.out]; exact own_base h1 hwn), HA8.bel⟩; clear h1 h3 tk6 hrb B8))
            go_roundw
            case rel => exact ⟨j + 1, N2, c8, y8, M2, rfl, by go_num, by omega, hN2b, HL2.out, HF2.out, HK2.out, HES8⟩
            case measure => simp [intOf]; omega
        · obtain rfl : k = no := by omega
          have hk' : decide (k < k) = false := by simp
          have HIN : Hid (insE ⟨qn, qt, ql, qds, qr, qu⟩ Mo = Mo.take k ++ ⟨qn, qt, ql, qds, qr, qu⟩ :: Mo.drop k) := ins_at (by rw [← HNO.out]; omega) HBF.out (fun hh => by have := HNO.out; omega)
          clear HBF
          go_wp2
          refine wp_region_bel (by kernel_rfl) (by kernel_rfl) (fun _ => ?_)
          repeat (go_big_quiet_step (fail))
          refine wpQuiet_nil ?_
          intro wn hwn
          have H5 : Hid (AW w wn bx #[.string qn, .int .i64 qt, .int .i64 qu] (.slice yo k co) Mo) := HAW.out.below (bel_out hwn)
          clear hwn HAW e0 e1
          obtain ⟨M2, hM2⟩ : ∃ M2 : List En, M2 = Mo.take k ++ ⟨qn, qt, ql, qds, qr, qu⟩ :: Mo.drop k := ⟨_, rfl⟩
          obtain ⟨N2, hN2⟩ : ∃ N2, N2 = k + 1 + (k - k) := ⟨_, rfl⟩
          have HN2 : Hid (k + 1 + (k - k) = N2) := hN2.symm
          have hN2b : N2 ≤ j + 1 := by omega
          have HL2 : Hid (N2 = M2.length) := by unfold Hid; rw [hM2, hN2]; simp; have := HNO.out; omega
          have HF2 : Hid (M2 = allP (M.take (j + 1))) := HALL.out _ (by rw [HIN.out, hM2])
          have HK2 : Hid (∀ p ∈ M2, OkE p) := fun p hp => by
            rw [hM2] at hp
            rcases List.mem_append.1 hp with hp | hp
            · exact HOK.out p (List.mem_of_mem_take hp)
            · rcases List.mem_cons.1 hp with rfl | hp
              · exact HPOK.out
              · exact HOK.out p (List.mem_of_mem_drop hp)
          have HE2 : Hid ((nC Mo).take (k * 3) ++ [.string qn, .int .i64 qt, .int .i64 qu] ++ (nC Mo).drop (k * 3) = nC M2) := by
            unfold Hid
            rw [hM2, nC_take, nC_drop]
            simp [nC, nVc]
          have HC1 : Hid (∀ x ∈ (nC Mo).take (k * 3), x.oneCell' = true) := fun x hx => nC_one Mo x (List.mem_of_mem_take hx)
          have HC2 : Hid (∀ x ∈ (nC Mo).drop (k * 3), x.oneCell' = true) := fun x hx => nC_one Mo x (List.mem_of_mem_drop hx)
          have HLA : Hid (((nC Mo).take (k * 3)).length = k * 3) := by unfold Hid; rw [List.length_take, nC_len]; have := HNO.out; omega
          have HLD : Hid (((nC Mo).drop (k * 3)).length = (k - k) * 3) := by unfold Hid; rw [List.length_drop, nC_len, ← HNO.out, Nat.sub_mul]
          have HBE : Hid (Below wn.heap.size wn (wn.alloc (.cells #[] 33))) := lay (Below.refl _ _) _
          have HOA : Hid ((wn.alloc (.cells #[] 33)).ownsRow w.heap.size 33 3 (.slice yo k co) k (nC Mo)) := by have := own_past H5.out.es HBE.out; rw [← HNO.out] at this; exact this
          have HOE : Hid ((wn.alloc (.cells #[] 33)).ownsRow wn.heap.size 33 3 (.slice (some ⟨wn.heap.size, 0, none⟩) 0 0) 0 []) := own_blk (B := wn.heap.size) (z := 3) (n := 0) (xs := []) (Blk.new wn #[] 33) (Nat.le_refl _) rfl rfl (Nat.zero_le _)
          have hwn := H5.out.bel.size
          have tk2 : True := trivial
          have tk3 : True := trivial
          have tk4 : True := trivial
          have tk5 : True := trivial
          have tk6 : True := trivial
          clear hN2 hM2 HIN HALL
          go_wp2_with (first
            | (have _t := tk2; refine wpList_sliceTo _ rfl (.tmp 48) (.tmp 49) 40 33 w.heap.size 3 Try.underlying40 (Try.sizeOf33 _) rfl _ k k (nC Mo) rfl rfl HOA.out (by omega) ?_; intro va hra; clear tk2)
            | (at_builtin; have _t := tk3; refine wpList_appG _ rfl (.tmp 47) (.tmp 50) 40 33 i0 _ 3 32 Try.underlying40 hi hz0 hz1 hz2 rfl (by decide) rfl wn.heap.size _ 0 [] rfl HOE.out _ k ((nC Mo).take (k * 3)) rfl hra HLA.out HC1.out (by omega) (by unfold maxLen; omega) HBE.out.size ?_; intro v5 w5 h1 h3 _; rw [Nat.zero_add, List.nil_append] at h1; have HB5 : Hid (Below wn.heap.size wn w5) := HBE.out.grown h3 HBE.out.size (fun i e => (HOE.out.lt i e).1); have HA5 : Hid (AW w w5 bx #[.string qn, .int .i64 qt, .int .i64 qu] (.slice yo k co) Mo) := H5.out.below HB5.out; have g0 : w5.cell? ⟨bx, 0, none⟩ = some (.string qn) := HA5.out.box.cell 0; have g1 : w5.cell? ⟨bx, 1, none⟩ = some (.int .i64 qt) := HA5.out.box.cell 1; have g2 : w5.cell? ⟨bx, 2, none⟩ = some (.int .i64 qu) := HA5.out.box.cell 2; have HB6 : Hid (Below wn.heap.size wn (w5.alloc (.cells #[.string qn, .int .i64 qt, .int .i64 qu] 33))) := lay HB5.out _; have HO6 : Hid ((w5.alloc (.cells #[.string qn, .int .i64 qt, .int .i64 qu] 33)).ownsRow wn.heap.size 33 3 v5 k ((nC Mo).take (k * 3))) := h1.alloc _; have HR6 := Row.of_blk (Blk.new w5 #[.string qn, .int .i64 qt, .int .i64 qu] 33) (xs := [.string qn, .int .i64 qt, .int .i64 qu]) rfl 1 1; clear h1 h3 tk3 hra)
            | (at_builtin; have _t := tk4; refine wpList_appG _ rfl (.tmp 52) (.tmp 54) 40 33 i0 _ 3 32 Try.underlying40 hi hz0 hz1 hz2 rfl (by decide) rfl wn.heap.size _ k ((nC Mo).take (k * 3)) rfl HO6.out _ 1 [.string qn, .int .i64 qt, .int .i64 qu] rfl HR6 rfl (fun v hv => by simp at hv; rcases hv with rfl | rfl | rfl <;> rfl) (by omega) (by unfold maxLen; omega) HB6.out.size ?_; intro v6 w6 h1 h3 _; have HB7 : Hid (Below wn.heap.size wn w6) := HB6.out.grown h3 HB6.out.size (fun i e => (HO6.out.lt i e).1); have HA6 := H5.out.below HB7.out; have HOB : Hid (w6.ownsRow w.heap.size 33 3 (.slice yo k co) k (nC Mo)) := (by have := HA6.es; rw [← HNO.out] at this; exact this); have H16 : Hid (w6.ownsRow wn.heap.size 33 3 v6 (k + 1) ((nC Mo).take (k * 3) ++ [.string qn, .int .i64 qt, .int .i64 qu])) := h1; clear h1 h3 tk4 HR6 HO6 g0 g1 g2 HA6)
            | (have _t := tk5; refine wpList_sliceFrom _ rfl (.tmp 57) (.tmp 58) 40 33 w.heap.size 3 Try.underlying40 (Try.sizeOf33 _) rfl _ k k (nC Mo) rfl rfl HOB.out (by omega) ?_; intro vb hrb; clear tk5)
            | (at_builtin; have _t := tk6; refine wpList_appG _ rfl (.tmp 56) (.tmp 59) 40 33 i0 _ 3 32 Try.underlying40 hi hz0 hz1 hz2 rfl (by decide) rfl wn.heap.size _ (k + 1) _ rfl H16.out _ (k - k) ((nC Mo).drop (k * 3)) rfl hrb HLD.out HC2.out (by omega) (by unfold maxLen; omega) HB7.out.size ?_; intro v8 w8 h1 h3 _; rw [HE2.out, HN2.out] at h1; have B8 : Below wn.heap.size wn w8 := HB7.out.grown h3 HB7.out.size (fun i e => (H16.out.lt i e).1); obtain ⟨y8, c8, hv8⟩ := row_shape h1; subst hv8; have HA8 := H5.out.below B8; have HES8 : Hid (w8.ownsRow w.heap.size 33 3 (.slice y8 N2 c8) M2.length (nC M2) ∧ Below w.heap.size w w8) := ⟨(by rw [← HL2.out]; exact own_base h1 hwn), HA8.bel⟩; clear h1 h3 tk6 hrb B8))
          go_roundw
          case rel => exact ⟨j + 1, N2, c8, y8, M2, rfl, by go_num, by omega, hN2b, HL2.out, HF2.out, HK2.out, HES8⟩
          case measure => simp [intOf]; omega
    · have hj' : decide (j < m) = false := by simpa using hj
      have HEND : Hid (Mo = allP M) := by
        unfold Hid
        rw [HFO.out, List.take_of_length_le (by rw [← HM.out]; omega)]
      have HML : Hid (Mo.length = M.length) := by unfold Hid; rw [HEND.out, all_len]
      clear HFO
      go_wp2
      go_ret
      exact ⟨_, rfl, by rw [← HML.out, ← HEND.out]; exact HES.out.1, HES.out.2⟩

end Ng
end Go.Proofs.Ytphhljbeaklikaa
