/- The document's cuts as they lie in memory; its small functions. -/
import Derived.Test.YtnjgdfmldjgloaaGreatXCxA
import Derived.Test.YtnjgdfmldjgloaaGreatXCxB
namespace Go.Proofs.YtnjgdfmldjgloaaGreat
open Go.RowKit
open Pl
namespace Cu

theorem wideR_any (a : Int) (w : World) :
    Calls Tryz.prog 56 #[.int .i64 a] w fun e w' => e = .returned (.bool (wideB a)) ∧ w' = w := by
  unfold wideB
  by_cases h : 0 ≤ a
  · have d0 : decide (0 ≤ a) = true := by simpa using h
    go_enter Tryz.func56, Tryz.ntmps56
    go_wp2
    go_ret
    exact ⟨by rw [d0]; rfl, rfl⟩
  · have d0 : decide (0 ≤ a) = false := by simpa using h
    go_enter Tryz.func56, Tryz.ntmps56
    go_wp2
    go_ret
    exact ⟨rfl, rfl⟩
theorem lasts_any (t : Int) (w : World) :
    Calls Tryz.prog 48 #[.int .i64 t] w fun e w' => e = .returned (.int .i64 (lastI t)) ∧ w' = w := by
  unfold lastI
  go_enter Tryz.func48, Tryz.ntmps48
  go_wp2
  all_goals go_ret
  all_goals exact ⟨ret_int (by omega), rfl⟩
theorem hasR_any (v : Value) (hs : List ByteArray) (s : ByteArray) (w : World) (hr : Row w v hs.length (tC hs)) (hl : hs.length ≤ maxLen) (b : Bool) (hb : decide (0 ≤ posL hs s) = b) :
    Calls Tryz.prog 36 #[v, .string s] w fun e w' => e = .returned (.bool b) ∧ w' = w := by
  obtain ⟨n, hn⟩ : ∃ n, n = hs.length := ⟨_, rfl⟩
  rw [← hn] at hr hl
  unfold maxLen at hl
  have HN : Hid (n = hs.length) := hn
  have HR : Hid (Row w v n (tC hs)) := hr
  have HP : Hid (decide (0 ≤ posL hs s) = b) := hb
  obtain ⟨x0, c0, rfl⟩ := row_slice hr
  clear hr hn hb
  go_enter Tryz.func36, Tryz.ntmps36
  go_wp2
  go_loopw [5] (fun k wr => wr = w ∧ ∃ j : Nat, j ≤ n ∧ k = .int .i64 (j : Int) ∧ Hid (∀ i (hi : i < hs.length), i < j → hs[i] ≠ s)) (fun k _ => n - (intOf k).toNat)
  case atStart => exact ⟨rfl, 0, Nat.zero_le _, rfl, fun i _ h => by omega⟩
  case round =>
    obtain ⟨hw, j, hj, rfl, HB⟩ := hrel
    subst hw
    by_cases hjn : j < n
    · have hjn' : (j : Int) < (n : Int) := by omega
      have hju : j < hs.length := by have := HN.out; omega
      obtain ⟨g, o, cap, hx, hc⟩ := row_at HR.out (by omega)
      simp only [Value.slice.injEq] at hx
      obtain ⟨rfl, -, rfl⟩ := hx
      have d0 := hc j _ (tC_at hju)
      obtain ⟨p, hp⟩ : ∃ p, p = hs[j] := ⟨_, rfl⟩
      have HQ : Hid (p = hs[j]) := hp
      rw [← hp] at d0
      clear hc hp
      by_cases e : p = s
      · have HF : Hid (true = b) := by
          unfold Hid
          rw [← HP.out, eq_comm, decide_eq_true_eq, posL_mem, ← e, HQ.out]
          exact List.getElem_mem _
        subst e
        go_wp2
        go_ret
        exact ⟨ret_bool HF.out, rfl⟩
      · have hpq : (p.toList == s.toList) = false := by rw [str_eqd]; simpa using e
        have HB2 : Hid (∀ i (hi : i < hs.length), i < j + 1 → hs[i] ≠ s) := fun i hi hij => by
          by_cases h : i = j
          · subst h; rw [← HQ.out]; exact e
          · exact HB.out i hi (by omega)
        clear e
        go_wp2
        go_roundw
        case rel => exact ⟨trivial, j + 1, by omega, by go_num, HB2⟩
        case measure => simp [intOf]; omega
    · have hjn' : decide (j < n) = false := by simpa using hjn
      have HF : Hid (false = b) := by
        unfold Hid
        rw [← HP.out, eq_comm, decide_eq_false_iff_not, posL_mem]
        intro hm
        obtain ⟨i, hi, e⟩ := List.getElem_of_mem hm
        exact HB.out i hi (by have := HN.out; omega) e
      go_wp2
      go_ret
      exact ⟨ret_bool HF.out, rfl⟩

/-- The values of a cut of the document's. -/
structure RQ where
  p : Nat
  hv : Value
  bv : Value
/-- What it may hold. -/
structure RkOk (x : Rk) : Prop where
  n : x.n.size ≤ 255
  f : x.f.size ≤ 255
  hl : x.hs.length ≤ 8
  hs : ∀ h ∈ x.hs, h.size ≤ 255
  bl : x.bs.length ≤ 256
  bs : ∀ b ∈ x.bs, OkB b
structure RkAt (w : World) (q : RQ) (x : Rk) : Prop where
  blk : Blk w q.p #[.string x.n, .string x.f, q.hv, .int .i64 x.u, .bool x.rt, q.bv] 69
  hosts : w.ownsRow 0 9 1 q.hv x.hs.length (tC x.hs)
  bs : w.ownsRow 0 65 5 q.bv x.bs.length (bC x.bs)
  ok : RkOk x
theorem RkAt.turn {S : Nat → Prop} {w w' : World} {q : RQ} {x : Rk} (h : RkAt w q x) (ht : Turn S w w') (hs : ∀ k, (k = q.p ∨ q.hv.ownBlock = some k ∨ q.bv.ownBlock = some k) → ¬ S k) : RkAt w' q x :=
  ⟨ht.blk h.blk (hs _ (.inl rfl)), ht.row h.hosts (fun k hk => hs k (.inr (.inl hk))), ht.row h.bs (fun k hk => hs k (.inr (.inr hk))), h.ok⟩
theorem RkAt.below {w w' : World} {q : RQ} {x : Rk} (h : RkAt w q x) (hb : Below w.heap.size w w') : RkAt w' q x := h.turn (Turn.of_below (S := fun _ => False) hb) (fun _ _ => id)
theorem liveR_any {w : World} {q : RQ} {x : Rk} (h : RkAt w q x) (now : Int) (b : Bool) (hb : liveK now x = b) :
    Calls Tryz.prog 50 #[.pointer (some ⟨q.p, 0, none⟩), .int .i64 now] w fun e w' => e = .returned (.bool b) ∧ w' = w := by
  obtain ⟨n, f, hs, u, rt, bs⟩ := x
  obtain ⟨p, hv, bv⟩ := q
  have d4 := h.blk.cell 4
  have d3 := h.blk.cell 3
  simp only [List.getElem?_toArray, List.getElem?_cons_succ, List.getElem?_cons_zero] at d3 d4
  unfold liveK at hb
  simp only at hb
  clear h
  cases rt with
  | true =>
    have HB : Hid (true = b) := hb
    clear hb
    go_enter Tryz.func50, Tryz.ntmps50
    go_wp2
    go_ret
    exact ⟨ret_bool HB.out, rfl⟩
  | false =>
    have HB : Hid (decide (now < u) = b) := hb
    clear hb
    go_enter Tryz.func50, Tryz.ntmps50
    go_wp2
    go_ret
    exact ⟨ret_bool HB.out, rfl⟩
set_option maxRecDepth 20000 in
theorem boundR_any (v : Value) (bs : List Bn) (h : ByteArray) (a now : Int) (w : World) (hr : Row w v bs.length (bC bs)) (hl : bs.length ≤ maxLen) (b : Bool) (hb : boundK bs h a now = b) :
    Calls Tryz.prog 49 #[v, .string h, .int .i64 a, .int .i64 now] w fun e w' => e = .returned (.bool b) ∧ w' = w := by
  obtain ⟨n, hn⟩ : ∃ n, n = bs.length := ⟨_, rfl⟩
  rw [← hn] at hr hl
  unfold maxLen at hl
  have HN : Hid (n = bs.length) := hn
  have HR : Hid (Row w v n (bC bs)) := hr
  have HP : Hid (boundK bs h a now = b) := hb
  obtain ⟨x0, c0, rfl⟩ := row_slice hr
  clear hr hn hb
  go_enter Tryz.func49, Tryz.ntmps49
  go_wp2
  go_loopw [9] (fun k wr => wr = w ∧ ∃ j : Nat, j ≤ n ∧ k = .int .i64 (j : Int) ∧ Hid (∀ i (hi : i < bs.length), i < j → isB h a now bs[i] = false)) (fun k _ => n - (intOf k).toNat)
  case atStart => exact ⟨rfl, 0, Nat.zero_le _, rfl, fun i _ h => by omega⟩
  case round =>
    obtain ⟨hw, j, hj, rfl, HB⟩ := hrel
    subst hw
    by_cases hjn : j < n
    · have hjn' : (j : Int) < (n : Int) := by omega
      have hju : j < bs.length := by have := HN.out; omega
      obtain ⟨g, o, cap, hx, hc⟩ := row_at HR.out (by omega)
      simp only [Value.slice.injEq] at hx
      obtain ⟨rfl, -, rfl⟩ := hx
      obtain ⟨⟨pc, ph, pa, pf, pu⟩, hp⟩ : ∃ p, p = bs[j] := ⟨_, rfl⟩
      have hfl := fun i hi => atBg hju i hi
      rw [← hp] at hfl
      have d1 := hc (j * 5 + 1) _ (hfl 1 (by omega))
      have d2 := hc (j * 5 + 2) _ (hfl 2 (by omega))
      have d4 := hc (j * 5 + 4) _ (hfl 4 (by omega))
      simp only [← Nat.add_assoc] at d1 d2 d4
      have HQ : Hid (isB h a now bs[j] = (decide (ph = h) && decide (pa = a) && decide (now < pu))) := by unfold Hid; rw [← hp]; rfl
      clear hc hp hfl
      have HNO : Hid ((decide (ph = h) && decide (pa = a) && decide (now < pu)) = false → ∀ i (hi : i < bs.length), i < j + 1 → isB h a now bs[i] = false) := fun e i hi hij => by
        by_cases he : i = j
        · subst he; rw [HQ.out]; exact e
        · exact HB.out i hi (by omega)
      by_cases e1 : ph = h
      · subst e1
        by_cases e2 : pa = a
        · subst e2
          by_cases e3 : now < pu
          · have HF : Hid (true = b) := by
              unfold Hid
              rw [← HP.out, eq_comm]
              unfold boundK
              rw [List.any_eq_true]
              exact ⟨_, List.getElem_mem hju, by rw [HQ.out]; simp [e3]⟩
            go_wp2
            go_ret
            exact ⟨ret_bool HF.out, rfl⟩
          · have e3' : decide (now < pu) = false := by simpa using e3
            have HB2 := HNO.out (by simp [e3'])
            have HB3 : Hid (∀ i (hi : i < bs.length), i < j + 1 → isB ph pa now bs[i] = false) := HB2
            clear HB2 HNO HQ e3
            go_wp2
            go_roundw
            case rel => exact ⟨trivial, j + 1, by omega, by go_num, HB3⟩
            case measure => simp [intOf]; omega
        · have e2' : (pa == a) = false := by simpa using e2
          have HB3 : Hid (∀ i (hi : i < bs.length), i < j + 1 → isB ph a now bs[i] = false) := HNO.out (by simp [e2])
          clear HNO HQ e2
          go_wp2
          go_roundw
          case rel => exact ⟨trivial, j + 1, by omega, by go_num, HB3⟩
          case measure => simp [intOf]; omega
      · have e1' : (ph.toList == h.toList) = false := by rw [str_eqd]; simpa using e1
        have HB3 : Hid (∀ i (hi : i < bs.length), i < j + 1 → isB h a now bs[i] = false) := HNO.out (by simp [e1])
        clear HNO HQ e1
        go_wp2
        go_roundw
        case rel => exact ⟨trivial, j + 1, by omega, by go_num, HB3⟩
        case measure => simp [intOf]; omega
    · have hjn' : decide (j < n) = false := by simpa using hjn
      have HF : Hid (false = b) := by
        unfold Hid
        rw [← HP.out, eq_comm]
        unfold boundK
        rw [List.any_eq_false]
        intro x hx
        obtain ⟨i, hi, rfl⟩ := List.getElem_of_mem hx
        rw [HB.out i hi (by have := HN.out; omega)]
        simp
      go_wp2
      go_ret
      exact ⟨ret_bool HF.out, rfl⟩

theorem take_flt {α : Type} {M : List α} {j : Nat} (hj : j < M.length) (P : α → Bool) : (M.take (j + 1)).filter P = (M.take j).filter P ++ if P M[j] then [M[j]] else [] := by
  rw [List.take_succ_eq_append_getElem hj, List.filter_append]
  cases h : P M[j] <;> simp [h]
set_option maxRecDepth 20000 in
set_option maxHeartbeats 1000000 in
theorem livingR_any {w : World} {q : RQ} {x : Rk} (h : RkAt w q x) (now : Int) :
    Calls Tryz.prog 57 #[.pointer (some ⟨q.p, 0, none⟩), .int .i64 now] w fun e w' => ∃ y c, e = .returned (.slice y (livingK x now).length c) ∧ w'.ownsRow w.heap.size 65 5 (.slice y (livingK x now).length c) (livingK x now).length (bC (livingK x now)) ∧ Below w.heap.size w w' := by
  obtain ⟨iB, hiB, hzB0, hzB1, hzB2⟩ := info_parts infoBg
  obtain ⟨n, f, hs, u, rt, bs⟩ := x
  obtain ⟨p, hv, bv⟩ := q
  obtain ⟨NB, hNB⟩ : ∃ NB, NB = bs.length := ⟨_, rfl⟩
  have HN : Hid (NB = bs.length) := hNB
  have hbs := h.bs
  obtain ⟨yb, cb, hbv⟩ := row_shape hbs
  simp only at hbv hbs
  rw [← hNB] at hbv hbs
  subst hbv
  have hN256 : NB ≤ 256 := by rw [hNB]; exact h.ok.bl
  have HL : Hid (livingK ⟨n, f, hs, u, rt, bs⟩ now = bs.filter fun b => rt || decide (now < b.u)) := rfl
  obtain ⟨L, hL⟩ : ∃ L, livingK ⟨n, f, hs, u, rt, bs⟩ now = L := ⟨_, rfl⟩
  rw [hL] at HL ⊢
  have HC : Hid (∀ U, Below w.heap.size w U → U.cell? ⟨p, 5, none⟩ = some (.slice yb NB cb) ∧ U.cell? ⟨p, 4, none⟩ = some (.bool rt) ∧ U.ownsRow 0 65 5 (.slice yb NB cb) NB (bC bs)) := fun U hU => ⟨(h.blk.below hU).cell 5, (h.blk.below hU).cell 4, own_past hbs hU⟩
  clear hL hbs hNB h
  go_enter Tryz.func57, Tryz.ntmps57
  go_wp2
  go_loopw [5, 6] (fun ov k wr => ∃ (j N co : Nat) (yo : Option Addr) (Lo : List Bn), j ≤ NB ∧ N ≤ j ∧ ov = .slice yo N co ∧ k = .int .i64 (j : Int) ∧ Hid (Lo = (bs.take j).filter (fun b => rt || decide (now < b.u)) ∧ N = Lo.length) ∧ Hid (wr.ownsRow w.heap.size 65 5 (.slice yo N co) N (bC Lo) ∧ Below w.heap.size w wr)) (fun _ k _ => NB - (intOf k).toNat)
  case atStart => exact ⟨0, 0, 0, none, [], Nat.zero_le _, Nat.le_refl _, rfl, rfl, ⟨rfl, rfl⟩, World.ownsRow_nil _ _ _ _, Below.refl _ _⟩
  case round =>
    obtain ⟨j, N, co, yo, Lo, hj, hNj, rfl, rfl, HLo, HW⟩ := hrel
    obtain ⟨c5, c4, hrow⟩ := HC.out wr HW.out.2
    by_cases hjn : j < NB
    · have hjn' : (j : Int) < (NB : Int) := by omega
      have hju : j < bs.length := by have := HN.out; omega
      obtain ⟨gb, cb', hyb, _⟩ := hrow.form (by omega)
      simp only [Value.slice.injEq, true_and] at hyb
      obtain ⟨rfl, rfl⟩ := hyb
      obtain ⟨⟨pc, ph, pa, pf, pu⟩, hp⟩ : ∃ z, z = bs[j] := ⟨_, rfl⟩
      have ca : ∀ i, i < 5 → wr.cell? ⟨gb, j * 5 + i, none⟩ = (bV ⟨pc, ph, pa, pf, pu⟩)[i]? := fun i hi => by rw [hrow.cellAt _ (by omega), atBg hju i hi, hp]
      have a0 := ca 0 (by decide)
      have a1 := ca 1 (by decide)
      have a2 := ca 2 (by decide)
      have a3 := ca 3 (by decide)
      have a4 := ca 4 (by decide)
      rw [Nat.add_zero] at a0
      simp only [bV, List.getElem?_cons_succ, List.getElem?_cons_zero] at a0 a1 a2 a3 a4
      have hstep := take_flt hju (fun b => rt || decide (now < b.u))
      rw [← hp] at hstep
      simp only at hstep
      have HSTEP : Hid ((bs.take (j + 1)).filter (fun b => rt || decide (now < b.u)) = (bs.take j).filter (fun b => rt || decide (now < b.u)) ++ if (rt || decide (now < pu)) = true then [⟨pc, ph, pa, pf, pu⟩] else []) := hstep
      have HTO : Hid (wr.ownsRow w.heap.size 65 5 (.slice yo N co) N (bC Lo)) := HW.out.1
      have HBL : Hid (Below w.heap.size w wr) := HW.out.2
      clear ca hp hrow hstep HW
      cases rt with
      | true =>
        have HNEW : Hid ((bs.take (j + 1)).filter (fun b => true || decide (now < b.u)) = Lo ++ [⟨pc, ph, pa, pf, pu⟩]) := by unfold Hid; rw [HSTEP.out, HLo.out.1]; rfl
        clear HSTEP
        go_wp2_with (at_builtin; refine wpList_appG _ rfl (.tmp 32) (.tmp 40) 37 65 iB _ 5 64 Tryz.underlying37 hiB hzB0 hzB1 hzB2 rfl (by decide) rfl w.heap.size _ N (bC Lo) rfl (HTO.out.alloc _) (.slice (some ⟨wr.heap.size, 0, none⟩) 1 1) 1 [.string pc, .string ph, .int .i64 pa, .string pf, .int .i64 pu] rfl (Row.of_blk (Blk.new wr #[.string pc, .string ph, .int .i64 pa, .string pf, .int .i64 pu] 65) rfl 1 1) rfl (by simp [Value.oneCell']) (by omega) (by unfold maxLen; omega) (lay HBL.out _).size ?_; intro v2 w2 h1 h3 _; obtain ⟨y2, c2, rfl⟩ := row_shape h1; have HN9 : Hid (w2.ownsRow w.heap.size 65 5 (.slice y2 (N + 1) c2) (N + 1) (bC Lo ++ [.string pc, .string ph, .int .i64 pa, .string pf, .int .i64 pu]) ∧ Below w.heap.size w w2) := ⟨h1, (lay HBL.out _).grown h3 (lay HBL.out _).size (fun i e => (HTO.out.lt i e).1)⟩; clear h1 h3)
        go_roundw
        case rel => exact ⟨j + 1, N + 1, _, _, _, by omega, by omega, rfl, by go_num, ⟨HNEW.out.symm, by rw [List.length_append, ← HLo.out.2]; rfl⟩, by rw [bC_app]; exact HN9.out.1, HN9.out.2⟩
        case measure => simp [intOf]; omega
      | false =>
        by_cases hu : now < pu
        · have HNEW : Hid ((bs.take (j + 1)).filter (fun b => false || decide (now < b.u)) = Lo ++ [⟨pc, ph, pa, pf, pu⟩]) := by unfold Hid; rw [HSTEP.out, HLo.out.1]; simp [hu]
          clear HSTEP
          go_wp2_with (at_builtin; refine wpList_appG _ rfl (.tmp 32) (.tmp 40) 37 65 iB _ 5 64 Tryz.underlying37 hiB hzB0 hzB1 hzB2 rfl (by decide) rfl w.heap.size _ N (bC Lo) rfl (HTO.out.alloc _) (.slice (some ⟨wr.heap.size, 0, none⟩) 1 1) 1 [.string pc, .string ph, .int .i64 pa, .string pf, .int .i64 pu] rfl (Row.of_blk (Blk.new wr #[.string pc, .string ph, .int .i64 pa, .string pf, .int .i64 pu] 65) rfl 1 1) rfl (by simp [Value.oneCell']) (by omega) (by unfold maxLen; omega) (lay HBL.out _).size ?_; intro v2 w2 h1 h3 _; obtain ⟨y2, c2, rfl⟩ := row_shape h1; have HN9 : Hid (w2.ownsRow w.heap.size 65 5 (.slice y2 (N + 1) c2) (N + 1) (bC Lo ++ [.string pc, .string ph, .int .i64 pa, .string pf, .int .i64 pu]) ∧ Below w.heap.size w w2) := ⟨h1, (lay HBL.out _).grown h3 (lay HBL.out _).size (fun i e => (HTO.out.lt i e).1)⟩; clear h1 h3)
          go_roundw
          case rel => exact ⟨j + 1, N + 1, _, _, _, by omega, by omega, rfl, by go_num, ⟨HNEW.out.symm, by rw [List.length_append, ← HLo.out.2]; rfl⟩, by rw [bC_app]; exact HN9.out.1, HN9.out.2⟩
          case measure => simp [intOf]; omega
        · have hu' : decide (now < pu) = false := by simpa using hu
          have HNEW : Hid ((bs.take (j + 1)).filter (fun b => false || decide (now < b.u)) = Lo) := by unfold Hid; rw [HSTEP.out, HLo.out.1]; simp [hu]
          clear HSTEP hu
          go_wp2
          go_roundw
          case rel => exact ⟨j + 1, N, _, _, _, by omega, by omega, rfl, by go_num, ⟨HNEW.out.symm, HLo.out.2⟩, HTO.out, HBL.out⟩
          case measure => simp [intOf]; omega
    · have hjn' : decide (j < NB) = false := by simpa using hjn
      have HE : Hid (Lo = L) := by
        unfold Hid
        rw [HLo.out.1, HL.out, List.take_of_length_le (by have := HN.out; omega)]
      have HEL : Hid (N = L.length) := by unfold Hid; rw [← HE.out]; exact HLo.out.2
      clear hrow
      go_wp2
      go_ret
      refine ⟨yo, co, (by rw [HEL.out]; rfl), ?_, HW.out.2⟩
      have := HW.out.1
      rw [HE.out, HEL.out] at this
      exact this

end Cu
end Go.Proofs.YtnjgdfmldjgloaaGreat
