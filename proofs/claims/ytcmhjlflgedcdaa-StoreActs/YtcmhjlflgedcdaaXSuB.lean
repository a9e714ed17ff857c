/- The document's Get of a store. -/
import Derived.Test.YtcmhjlflgedcdaaXSuA
namespace Go.Proofs.Ytcmhjlflgedcdaa
open Go.RowKit
open Pl

theorem same_fd {y n : ByteArray} {t : Int} (h : OkK y t) : sameB y.data.toList n.data.toList = decide (y = fdB n) := by
  unfold sameB
  rw [h.nm, h.fo, Bool.true_and]
  cases hn : isName n.data.toList with
  | true =>
    rw [Bool.true_and, decide_eq_decide]
    have e : (fdB n).data.toList = foldL n.data.toList := by rw [fdB_list]; unfold foldR; rw [if_pos hn]
    exact ⟨fun h1 => bytes_ext (by rw [e]; exact h1), fun h1 => by rw [← e, ← h1]⟩
  | false =>
    rw [Bool.false_and]
    symm
    rw [decide_eq_false_iff_not]
    intro e
    have e2 : (fdB n).data.toList = [] := by rw [fdB_list]; unfold foldR; rw [if_neg (by rw [hn]; decide)]
    have := h.nm
    rw [e, e2] at this
    exact absurd this (by decide)

/-- What the document's Get gives. -/
def RGet (w : World) (F : List En) (n : ByteArray) (t now : Int) (e : Ending) (w' : World) : Prop :=
  (getP F n t now = none ∧ e = .returned (.tuple #[.agg #[.string ⟨#[]⟩, .int .i64 0, .int .i64 0, .slice none 0 0], .int .i64 0, .int .i64 1301]) ∧ Below w.heap.size w w') ∨
  ∃ p y c, getP F n t now = some p ∧ e = .returned (.tuple #[.agg #[.string p.n, .int .i64 p.t, .int .i64 (wrap64 (p.u - now)), .slice y p.ds.length c], .int .i64 p.r, .int .i64 0]) ∧
    w'.ownsRow w.heap.size 9 1 (.slice y p.ds.length c) p.ds.length (tC p.ds) ∧ Below w.heap.size w w'
/-- How far Get is. -/
structure GW (w wr : World) : Prop where
  blk : Blk wr w.heap.size #[.string ⟨#[]⟩, .int .i64 0, .int .i64 0, .slice none 0 0] 34
  bel : Below w.heap.size w wr
theorem GW.below {w wr wn : World} (h : GW w wr) (hb : Below wr.heap.size wr wn) : GW w wn := ⟨h.blk.below hb, next h.bel hb⟩
theorem find_here {M : List (En × Value)} {j : Nat} (hj : j < M.length) {P : En → Bool} (h : ∀ q ∈ M.take j, P q.1 = false) (hp : P (M[j]).1 = true) : (fstL M).find? P = some (M[j]).1 := by
  have e : fstL M = fstL (M.take j) ++ ((M[j]).1 :: fstL (M.drop (j + 1))) := by
    unfold fstL
    rw [← List.map_cons, ← List.map_append, ← List.drop_eq_getElem_cons hj, List.take_append_drop]
  rw [e, List.find?_append]
  have e2 : (fstL (M.take j)).find? P = none := by
    rw [List.find?_eq_none]
    intro x hx
    obtain ⟨q, hq, rfl⟩ := List.mem_map.1 hx
    rw [h q hq]; decide
  rw [e2, List.find?_cons_of_pos hp]
  rfl
theorem find_not {M : List (En × Value)} {P : En → Bool} (h : ∀ q ∈ M, P q.1 = false) : (fstL M).find? P = none := by
  rw [List.find?_eq_none]
  intro x hx
  obtain ⟨q, hq, rfl⟩ := List.mem_map.1 hx
  rw [h q hq]; decide
theorem take_more {M : List (En × Value)} {j : Nat} (hj : j < M.length) {P : En → Bool} (h : ∀ q ∈ M.take j, P q.1 = false) (hp : P (M[j]).1 = false) : ∀ q ∈ M.take (j + 1), P q.1 = false := by
  intro q hq
  rw [List.take_succ_eq_append_getElem hj, List.mem_append] at hq
  rcases hq with hq | hq
  · exact h q hq
  · simp at hq; rw [hq]; exact hp

set_option maxRecDepth 20000 in
set_option maxHeartbeats 4000000 in
theorem rget_any {B : Nat} {w : World} {gr most : Nat} {V : Value} {M : List (En × Value)} (h : RS B w gr most V M) (n : ByteArray) (t now : Int) (hn : n.size ≤ maxLen) :
    Calls Try.prog 19 #[.pointer (some ⟨gr, 0, none⟩), .string n, .int .i64 t, .int .i64 now] w (RGet w (fstL M) n t now) := by
  obtain ⟨i9, hi9, hz90, hz91, hz92⟩ := info_parts info9'
  have HRS : Hid (RS B w gr most V M) := h
  have hm256 : M.length ≤ 256 := Nat.le_trans h.len h.m2
  obtain ⟨m, hmM⟩ : ∃ m, m = M.length := ⟨_, rfl⟩
  have HM : Hid (m = M.length) := hmM
  rw [← hmM] at hm256
  obtain ⟨yv, cv, hV⟩ := row_shape h.es.own
  rw [← hmM] at hV
  subst hV
  have HG0 : Hid (GW w (w.alloc (.cells #[.string ⟨#[]⟩, .int .i64 0, .int .i64 0, .slice none 0 0] 34))) := ⟨Blk.new w _ _, lay (Below.refl _ _) _⟩
  clear h hmM
  go_enter Try.func19, Try.ntmps19
  go_wp2
  go_loopw [11] (fun iv wr => ∃ j : Nat, iv = .int .i64 (j : Int) ∧ j ≤ m ∧ Hid (∀ q ∈ M.take j, (sameK (fdB n) t q.1 && decide (now < q.1.u)) = false) ∧ Hid (GW w wr)) (fun i _ => m - (intOf i).toNat)
  case atStart => exact ⟨0, rfl, Nat.zero_le _, fun q hq => by simp at hq, HG0⟩
  case round =>
    clear HG0
    obtain ⟨j, rfl, hjm, HNO, HG⟩ := hrel
    have HRR : Hid (RS B wr gr most (.slice yv m cv) M) := HRS.out.below HG.out.bel
    have cg : wr.cell? ⟨gr, 1, none⟩ = some (.slice yv m cv) := HRR.out.blk.cell 1
    by_cases hj : j < m
    · have hj' : (j : Int) < (m : Int) := by omega
      have hjM : j < M.length := by rw [← HM.out]; exact hj
      obtain ⟨gv, cap, hyv, _, _⟩ := HRR.out.es.own.form (by omega)
      rw [← HM.out] at hyv
      simp only [Value.slice.injEq, true_and] at hyv
      obtain ⟨rfl, rfl⟩ := hyv
      obtain ⟨p, hp⟩ : ∃ p, p = M[j] := ⟨_, rfl⟩
      have hpM : p ∈ M := by rw [hp]; exact List.getElem_mem _
      have hcc : ∀ i, i < 6 → wr.cell? ⟨gv, j * 6 + i, none⟩ = (eVc p)[i]? := fun i hi' => by
        have h1 := HRR.out.es.own
        rw [← HM.out] at h1
        rw [h1.cellAt (j * 6 + i) (by omega), hp]
        exact eC_at hjM i hi'
      have HMO : Hid ((sameK (fdB n) t p.1 && decide (now < p.1.u)) = false → ∀ q ∈ M.take (j + 1), (sameK (fdB n) t q.1 && decide (now < q.1.u)) = false) := fun hk => by
        rw [hp] at hk
        exact take_more (P := fun e => sameK (fdB n) t e && decide (now < e.u)) hjM HNO.out hk
      have HFI : Hid ((sameK (fdB n) t p.1 && decide (now < p.1.u)) = true → getP (fstL M) n t now = some p.1) := fun hk => by
        rw [hp] at hk ⊢
        exact find_here (P := fun e => sameK (fdB n) t e && decide (now < e.u)) hjM HNO.out hk
      have hok := HRS.out.ok p hpM
      have HSM : Hid (∀ v, Calls Try.prog 28 #[.string p.1.n, .string n] v fun e w' => e = .returned (.bool (decide (p.1.n = fdB n))) ∧ Below v.heap.size v w') := fun v => by have := refSame_any p.1.n n v (max_ok hok.k) hn; rw [same_fd hok.k] at this; exact this
      have HROW : Hid (∀ u, Below w.heap.size w u → Row u p.2 p.1.ds.length (tC p.1.ds)) := fun u hu => Row.of_own (own_past (HRS.out.es.dat p hpM) hu)
      have hlen := hok.len
      obtain ⟨qy, qc, hqd⟩ := row_shape (HRR.out.es.dat p hpM)
      have c0 := hcc 0 (by decide)
      have c1 := hcc 1 (by decide)
      have c2 := hcc 2 (by decide)
      have c3 := hcc 3 (by decide)
      have c4 := hcc 4 (by decide)
      have c5 := hcc 5 (by decide)
      rw [Nat.add_zero] at c0
      clear hcc hp hpM hok HNO
      obtain ⟨⟨qn, qt, ql, qds, qr, qu⟩, qd⟩ := p
      simp only at hqd HMO HFI HSM HROW hlen
      have HEND : Hid (∀ (e : Ending) (w' : World) y c, getP (fstL M) n t now = some ⟨qn, qt, ql, qds, qr, qu⟩ → e = .returned (.tuple #[.agg #[.string qn, .int .i64 qt, .int .i64 (wrap64 (qu - now)), .slice y qds.length c], .int .i64 qr, .int .i64 0]) → w'.ownsRow w.heap.size 9 1 (.slice y qds.length c) qds.length (tC qds) → Below w.heap.size w w' → RGet w (fstL M) n t now e w') := fun e w' y c h0 h1 h2 h3 => .inr ⟨_, y, c, h0, h1, h2, h3⟩
      obtain ⟨qN, hqN⟩ : ∃ qN, qN = qds.length := ⟨_, rfl⟩
      have HQN : Hid (qN = qds.length) := hqN
      rw [← hqN] at hqd HEND hlen HROW
      subst hqd
      simp only [eVc, List.getElem?_cons_succ, List.getElem?_cons_zero] at c0 c1 c2 c3 c4 c5
      clear hqN
      have HB1 : Hid (GW w (wr.alloc (.cells #[.string qn, .int .i64 qt, .int .i64 ql, .slice qy qN qc, .int .i64 qr, .int .i64 qu] 36))) := HG.out.below ((Below.refl _ _).alloc (Nat.le_refl _) _)
      have kq := Blk.new wr #[.string qn, .int .i64 qt, .int .i64 ql, .slice qy qN qc, .int .i64 qr, .int .i64 qu] 36
      by_cases en : qn = fdB n
      · have HS1 : Hid (∀ v, Calls Try.prog 28 #[.string qn, .string n] v fun e w' => e = .returned (.bool true) ∧ Below v.heap.size v w') := fun v => by have := HSM.out v; rw [decide_eq_true en] at this; exact this
        by_cases et : qt = t
        · have het : (qt == t) = true := by simpa using et
          by_cases hlv : now < qu
          · have HGOT : Hid (getP (fstL M) n t now = some ⟨qn, qt, ql, qds, qr, qu⟩) := HFI.out (by simp [sameK, en, et, hlv])
            have hlw := HG.out.blk.lt
            clear HMO HFI HSM en et HG
            have tk1 : True := trivial
            go_wp2_with (first
              | (go_at_call 28; go_must (refine (HS1.out _).mono ?_); rintro e w1 ⟨rfl, b1⟩; have HB2 : Hid (GW w w1) := HB1.out.below b1; have k1 := kq.below b1; have x0 := k1.cell 0; have x1 := k1.cell 1; have x2 := k1.cell 2; have x3 := k1.cell 3; have x4 := k1.cell 4; have x5 := k1.cell 5; simp only [List.getElem?_toArray, List.getElem?_cons_succ, List.getElem?_cons_zero] at x0 x1 x2 x3 x4 x5; have x5' : ∀ o, (w1.alloc o).cell? ⟨wr.heap.size, 5, none⟩ = some (.int .i64 qu) := (fun o => (k1.alloc o).cell 5))
              | (at_builtin; have _t := tk1; obtain ⟨W2, hW2⟩ : ∃ W2, W2 = w1.alloc (.cells #[.string qn, .int .i64 qt, .int .i64 (wrap64 (qu - now)), .slice qy qN qc] 34) := ⟨_, rfl⟩; rw [← hW2]; have E2 : Hid (w1.heap.size + 1 = W2.heap.size) := (by unfold Hid; rw [hW2, World.size_alloc]); have B2 : Below w1.heap.size w1 W2 := (by rw [hW2]; exact lay (Below.refl _ _) _); have kx2 : Blk W2 w1.heap.size #[.string qn, .int .i64 qt, .int .i64 (wrap64 (qu - now)), .slice qy qN qc] 34 := (by rw [hW2]; exact Blk.new w1 _ _); have b9 : Below W2.heap.size W2 (W2.alloc (.cells #[] 9)) := lay (Below.refl _ _) _; have ow9 : (W2.alloc (.cells #[] 9)).ownsRow W2.heap.size 9 1 (.slice (some ⟨w1.heap.size + 1, 0, none⟩) 0 0) 0 [] := (by rw [E2.out]; exact own_blk (B := W2.heap.size) (z := 1) (n := 0) (xs := []) (Blk.new W2 #[] 9) (Nat.le_refl _) rfl rfl (Nat.zero_le _)); have hr9 := HROW.out _ (next (next HB2.out.bel B2) b9); refine wpList_appG _ rfl (.tmp 55) (.tmp 57) 32 9 i9 _ 1 16 Try.underlying32 hi9 hz90 hz91 hz92 rfl (by decide) rfl W2.heap.size _ 0 [] rfl ow9 _ qN (tC qds) rfl hr9 (by rw [tC_len, ← HQN.out, Nat.mul_one]) (tC_one qds) (by omega) (by unfold maxLen; omega) b9.size ?_; intro v3 w3 h1 h3 _; rw [Nat.zero_add, List.nil_append] at h1; obtain ⟨y3, c3', hv3⟩ := row_shape h1; subst hv3; have B3 : Below W2.heap.size W2 w3 := b9.grown h3 b9.size (fun k e => (ow9.lt k e).1); have kx3 := kx2.below B3; have kq3 := (k1.below B2).below B3; have HG3 := (HB2.out.below B2).below B3; have q3 := kx3.cell 3; have q3f := kx3.frozen 3; simp only [List.getElem?_toArray, List.getElem?_cons_succ, List.getElem?_cons_zero] at q3; clear tk1 h3 x0 x1 x2 x3 x4 x5 x5' hW2))
            obtain ⟨Z, hZ⟩ : ∃ Z, Z = w3.setCell ⟨w1.heap.size, 3, none⟩ (.slice y3 qN c3') := ⟨_, rfl⟩
            rw [← hZ]
            have e2 := E2.out
            have hs0 := HB1.out.bel.size
            have hs1 := HB2.out.bel.size
            have hs3 : w1.heap.size + 1 ≤ w3.heap.size := by rw [E2.out]; exact B3.size
            have hl0 := HB1.out.blk.lt
            have hl1 := HB2.out.blk.lt
            have hl2 := k1.lt
            have TZ : Turn (fun k => k = w1.heap.size) w3 Z := by rw [hZ]; exact Turn.of_set (S := fun k => k = w1.heap.size) w3 (p := ⟨w1.heap.size, 3, none⟩) rfl _
            have pZ : Blk Z w1.heap.size #[.string qn, .int .i64 qt, .int .i64 (wrap64 (qu - now)), .slice y3 qN c3'] 34 := by rw [hZ]; exact kx3.set 3 _
            have kZ := TZ.blk HG3.blk (by omega)
            have qZ := TZ.blk kq3 (by omega)
            have oZ := TZ.row h1 (fun k hk e => by have := (h1.lt k hk).1; omega)
            have HZ := TZ.one_below HG3.bel hs1
            clear hZ kx3 kq3 HG3 h1
            have m0 := pZ.cell 0
            have m1 := pZ.cell 1
            have m2 := pZ.cell 2
            have m3 := pZ.cell 3
            have z0 := kZ.cell 0
            have z1 := kZ.cell 1
            have z2 := kZ.cell 2
            have z3 := kZ.cell 3
            have f0 := kZ.frozen 0
            have f1 := kZ.frozen 1
            have f2 := kZ.frozen 2
            have f3 := kZ.frozen 3
            have x4 := qZ.cell 4
            simp only [List.getElem?_toArray, List.getElem?_cons_succ, List.getElem?_cons_zero] at m0 m1 m2 m3 z0 z1 z2 z3 x4
            generalize wrap64 (qu - now) = tt at *
            go_region
            go_wp2
            have kX : Blk ((((Z.setCell ⟨w.heap.size, 0, none⟩ (.string qn)).setCell ⟨w.heap.size, 1, none⟩ (.int .i64 qt)).setCell ⟨w.heap.size, 2, none⟩ (.int .i64 tt)).setCell ⟨w.heap.size, 3, none⟩ (.slice y3 qN c3')).drew w.heap.size #[.string qn, .int .i64 qt, .int .i64 tt, .slice y3 qN c3'] 34 := (((kZ.set 0 _).set 1 _).set 2 _).set 3 _
            have tX : Turn (fun k => k = w.heap.size) Z ((((Z.setCell ⟨w.heap.size, 0, none⟩ (.string qn)).setCell ⟨w.heap.size, 1, none⟩ (.int .i64 qt)).setCell ⟨w.heap.size, 2, none⟩ (.int .i64 tt)).setCell ⟨w.heap.size, 3, none⟩ (.slice y3 qN c3')).drew := by
              have T : ∀ (x : World) (i : Nat) (v : Value), Turn (fun k => k = w.heap.size) x (x.setCell ⟨w.heap.size, i, none⟩ v) := fun x i v => Turn.of_set (S := fun k => k = w.heap.size) x (p := ⟨w.heap.size, i, none⟩) rfl v
              exact ((((T _ _ _).same (T _ _ _)).same (T _ _ _)).same (T _ _ _)).past (Below.refl _ _).drew
            (try simp only [Exit.inBlock, Exit.then])
            refine bodyPost_ret (ret_s2 rfl rfl rfl rfl kX ⟨_, Try.underlying34⟩ (by kernel_rfl)) rfl (HEND.out _ _ y3 c3' HGOT.out rfl ?_ (tX.one_below HZ (Nat.le_refl _)))
            exact tX.row (own_base oZ (by omega)) (fun k hk e => by have := (oZ.lt k hk).1; omega)
          · have hlv' : decide (now < qu) = false := by simpa using hlv
            have HN2 : Hid (∀ q ∈ M.take (j + 1), (sameK (fdB n) t q.1 && decide (now < q.1.u)) = false) := HMO.out (by simp [hlv])
            clear HMO HFI HSM en et HG HEND HROW hlv
            go_wp2_with (go_at_call 28; go_must (refine (HS1.out _).mono ?_); rintro e w1 ⟨rfl, b1⟩; have HB2 : Hid (GW w w1) := HB1.out.below b1; have k1 := kq.below b1; have x0 := k1.cell 0; have x1 := k1.cell 1; have x5 := k1.cell 5; simp only [List.getElem?_toArray, List.getElem?_cons_succ, List.getElem?_cons_zero] at x0 x1 x5)
            go_roundw
            case rel => exact ⟨j + 1, by go_num, by omega, HN2, HB2⟩
            case measure => simp [intOf]; omega
        · have het : (qt == t) = false := by simpa using et
          have HN2 : Hid (∀ q ∈ M.take (j + 1), (sameK (fdB n) t q.1 && decide (now < q.1.u)) = false) := HMO.out (by simp [sameK, et])
          clear HMO HFI HSM en et HG HEND HROW
          go_wp2_with (go_at_call 28; go_must (refine (HS1.out _).mono ?_); rintro e w1 ⟨rfl, b1⟩; have HB2 : Hid (GW w w1) := HB1.out.below b1; have k1 := kq.below b1; have x0 := k1.cell 0; have x1 := k1.cell 1; have x5 := k1.cell 5; simp only [List.getElem?_toArray, List.getElem?_cons_succ, List.getElem?_cons_zero] at x0 x1 x5)
          go_roundw
          case rel => exact ⟨j + 1, by go_num, by omega, HN2, HB2⟩
          case measure => simp [intOf]; omega
      · have HS1 : Hid (∀ v, Calls Try.prog 28 #[.string qn, .string n] v fun e w' => e = .returned (.bool false) ∧ Below v.heap.size v w') := fun v => by have := HSM.out v; rw [decide_eq_false en] at this; exact this
        have HN2 : Hid (∀ q ∈ M.take (j + 1), (sameK (fdB n) t q.1 && decide (now < q.1.u)) = false) := HMO.out (by simp [sameK, en])
        clear HMO HFI HSM en HG HEND HROW
        go_wp2_with (go_at_call 28; go_must (refine (HS1.out _).mono ?_); rintro e w1 ⟨rfl, b1⟩; have HB2 : Hid (GW w w1) := HB1.out.below b1; have k1 := kq.below b1; have x0 := k1.cell 0; have x1 := k1.cell 1; have x5 := k1.cell 5; simp only [List.getElem?_toArray, List.getElem?_cons_succ, List.getElem?_cons_zero] at x0 x1 x5)
        go_roundw
        case rel => exact ⟨j + 1, by go_num, by omega, HN2, HB2⟩
        case measure => simp [intOf]; omega
    · have hj' : decide (j < m) = false := by simpa using hj
      have HNN : Hid (getP (fstL M) n t now = none) := find_not (P := fun e => sameK (fdB n) t e && decide (now < e.u)) (fun q hq => HNO.out q (by rw [List.take_of_length_le (by rw [← HM.out]; omega)]; exact hq))
      have kZ := HG.out.blk
      have z0 := kZ.cell 0
      have z1 := kZ.cell 1
      have z2 := kZ.cell 2
      have z3 := kZ.cell 3
      have f0 := kZ.frozen 0
      have f1 := kZ.frozen 1
      have f2 := kZ.frozen 2
      have f3 := kZ.frozen 3
      simp only [List.getElem?_toArray, List.getElem?_cons_succ, List.getElem?_cons_zero] at z0 z1 z2 z3
      clear HNO
      go_wp2
      have kX : Blk ((((wr.setCell ⟨w.heap.size, 0, none⟩ (.string ⟨#[]⟩)).setCell ⟨w.heap.size, 1, none⟩ (.int .i64 0)).setCell ⟨w.heap.size, 2, none⟩ (.int .i64 0)).setCell ⟨w.heap.size, 3, none⟩ (.slice none 0 0)) w.heap.size #[.string ⟨#[]⟩, .int .i64 0, .int .i64 0, .slice none 0 0] 34 := (((kZ.set 0 _).set 1 _).set 2 _).set 3 _
      have hbX := (((HG.out.bel.setCell (p := ⟨w.heap.size, 0, none⟩) (Nat.le_refl _) (.string ⟨#[]⟩)).setCell (p := ⟨w.heap.size, 1, none⟩) (Nat.le_refl _) (.int .i64 0)).setCell (p := ⟨w.heap.size, 2, none⟩) (Nat.le_refl _) (.int .i64 0)).setCell (p := ⟨w.heap.size, 3, none⟩) (Nat.le_refl _) (.slice none 0 0)
      (try simp only [Exit.inBlock, Exit.then])
      exact bodyPost_ret (ret_s2 rfl rfl rfl rfl kX ⟨_, Try.underlying34⟩ (by kernel_rfl)) rfl (.inl ⟨HNN.out, rfl, hbX⟩)

end Go.Proofs.Ytcmhjlflgedcdaa
