/- The document's Take. -/
import Derived.Test.YtbldoplemfjcjaaOuV
namespace Go.Proofs.Ytbldoplemfjcjaa
open Go.RowKit
open Pl
namespace Ou

theorem rt_mt {x : Ak} (h : OkA x) (a i : Int) (n : ByteArray) (t c : Int) : mtA (keyQ a i n t c) x = (decide (x.a = a) && (decide (x.i = i) && (decide (c = 1) && (decide (x.t = t) && sameB x.n.data.toList n.data.toList)))) := by
  unfold mtA
  rw [Bool.eq_iff_iff, decide_eq_true_eq, key_iff h]
  simp only [Bool.and_eq_true, decide_eq_true_eq]
theorem rt_find {k : Ke} {D : List Ak} {j : Nat} (hj : j < D.length) (hno : ∀ q (hq : q < D.length), q < j → mtA k D[q] = false) (hyes : mtA k D[j] = true) : D.find? (mtA k) = some D[j] ∧ D.eraseP (mtA k) = D.take j ++ D.drop (j + 1) := by
  have h1 : D = D.take j ++ D[j] :: D.drop (j + 1) := by rw [List.getElem_cons_drop, List.take_append_drop]
  have h2 : ∀ x ∈ D.take j, mtA k x = false := fun x hx => by
    obtain ⟨q, hq, rfl⟩ := List.getElem_of_mem hx
    rw [List.getElem_take]
    rw [List.length_take] at hq
    exact hno q (by omega) (by omega)
  generalize D[j] = x at h1 hyes ⊢
  generalize D.take j = A at h1 h2 ⊢
  generalize D.drop (j + 1) = R at h1 ⊢
  rw [h1]
  refine ⟨?_, ?_⟩
  · rw [List.find?_append, List.find?_eq_none.2 (fun x hx => by rw [h2 x hx]; simp), List.find?_cons_of_pos hyes]; rfl
  · rw [List.eraseP_append_right _ (fun x hx => by rw [h2 x hx]; simp), List.eraseP_cons_of_pos hyes]
theorem rt_none {k : Ke} {D : List Ak} (hno : ∀ q (hq : q < D.length), mtA k D[q] = false) : D.find? (mtA k) = none ∧ D.eraseP (mtA k) = D := by
  have h : ∀ x ∈ D, mtA k x = false := fun x hx => by
    obtain ⟨q, hq, rfl⟩ := List.getElem_of_mem hx
    exact hno q hq
  exact ⟨List.find?_eq_none.2 (fun x hx => by rw [h x hx]; simp), List.eraseP_of_forall_not (fun x hx => by rw [h x hx]; simp)⟩
theorem aF_take (l : List Ak) (j : Nat) : (aF l).take (j * 8) = aF (l.take j) := by
  induction j generalizing l with
  | zero => simp [aF]
  | succ j ih =>
    cases l with
    | nil => simp [aF]
    | cons x l =>
      rw [List.take_succ_cons, show (j + 1) * 8 = 8 + j * 8 from by omega]
      show (akC x ++ aF l).take (8 + j * 8) = akC x ++ aF (l.take j)
      rw [show 8 = (akC x).length from rfl, List.take_length_add_append, ← ih l]
      rfl
theorem aF_drop (l : List Ak) (k : Nat) : (aF l).drop (k * 8) = aF (l.drop k) := by
  induction k generalizing l with
  | zero => simp
  | succ k ih =>
    cases l with
    | nil => simp [aF]
    | cons x l =>
      rw [List.drop_succ_cons, ← ih l, show (k + 1) * 8 = 8 + k * 8 from by omega, ← List.drop_drop]
      rfl

theorem RS.turn {B : Nat} {S : Nat → Prop} {w w' : World} {r most : Nat} {v : Value} {D : List Ak} (h : RS B w r most v D) (ht : Turn S w w') (hs : ∀ k, rft r v k → ¬ S k) : RS B w' r most v D :=
  ⟨ht.blk h.blk (hs r (.inl rfl)), ht.row h.own (fun k hk => hs k (.inr hk)), h.new, h.m1, h.m2, h.len, h.ok⟩
set_option maxRecDepth 20000 in
set_option maxHeartbeats 8000000 in
theorem rtake_any {B : Nat} {w : World} {r most : Nat} {v : Value} {D : List Ak} (h : RS B w r most v D) (a i : Int) (n : ByteArray) (t c : Int) (hn : n.size ≤ maxLen) (hB : B ≤ w.heap.size) (zj zi za : Int) (zc zg zn : ByteArray) (zt zu : Int) (e0 : Int) (D' : List Ak)
    (hx : takeX (keyQ a i n t c) D = ⟨zj, zi, za, zc, zg, zn, zt, zu⟩) (he : takeE (keyQ a i n t c) D = e0) (hD : D.eraseP (mtA (keyQ a i n t c)) = D') :
    Calls Try.prog 15 #[.pointer (some ⟨r, 0, none⟩), .int .i64 a, .int .i64 i, .agg #[.string n, .int .i64 t, .int .i64 c]] w fun e w' => e = .returned (.tuple #[.agg #[.int .i64 zj, .int .i64 zi, .int .i64 za, .string zc, .string zg, .string zn, .int .i64 zt, .int .i64 zu], .int .i64 e0]) ∧ ∃ v', RS B w' r most v' D' ∧ Turn (rft r v) w w' ∧ ∀ k, rft r v' k → rft r v k ∨ w.heap.size ≤ k := by
  obtain ⟨ia, hia, hz0, hz1, hz2⟩ := info_parts infoA
  obtain ⟨y, cp, rfl⟩ := row_shape h.own
  obtain ⟨N, hN⟩ : ∃ N, N = D.length := ⟨_, rfl⟩
  have hN16 : N ≤ 16 := by have := h.m2; have := h.len; omega
  rw [← hN] at h
  have HN : Hid (N = D.length) := hN
  have HW : Hid (takeX (keyQ a i n t c) D = ⟨zj, zi, za, zc, zg, zn, zt, zu⟩ ∧ takeE (keyQ a i n t c) D = e0 ∧ D.eraseP (mtA (keyQ a i n t c)) = D') := ⟨hx, he, hD⟩
  have HS0 : Hid (RS B ((w.alloc (.cells #[.string n, .int .i64 t, .int .i64 c] 37)).alloc (.cells #[.int .i64 0, .int .i64 0, .int .i64 0, .string ⟨#[]⟩, .string ⟨#[]⟩, .string ⟨#[]⟩, .int .i64 0, .int .i64 0] 35)) r most (.slice y N cp) D ∧ Blk ((w.alloc (.cells #[.string n, .int .i64 t, .int .i64 c] 37)).alloc (.cells #[.int .i64 0, .int .i64 0, .int .i64 0, .string ⟨#[]⟩, .string ⟨#[]⟩, .string ⟨#[]⟩, .int .i64 0, .int .i64 0] 35)) w.heap.size #[.string n, .int .i64 t, .int .i64 c] 37 ∧ Blk ((w.alloc (.cells #[.string n, .int .i64 t, .int .i64 c] 37)).alloc (.cells #[.int .i64 0, .int .i64 0, .int .i64 0, .string ⟨#[]⟩, .string ⟨#[]⟩, .string ⟨#[]⟩, .int .i64 0, .int .i64 0] 35)) (w.heap.size + 1) #[.int .i64 0, .int .i64 0, .int .i64 0, .string ⟨#[]⟩, .string ⟨#[]⟩, .string ⟨#[]⟩, .int .i64 0, .int .i64 0] 35 ∧ Below w.heap.size w ((w.alloc (.cells #[.string n, .int .i64 t, .int .i64 c] 37)).alloc (.cells #[.int .i64 0, .int .i64 0, .int .i64 0, .string ⟨#[]⟩, .string ⟨#[]⟩, .string ⟨#[]⟩, .int .i64 0, .int .i64 0] 35))) := by
    have b0 : Below w.heap.size w ((w.alloc (.cells #[.string n, .int .i64 t, .int .i64 c] 37)).alloc (.cells #[.int .i64 0, .int .i64 0, .int .i64 0, .string ⟨#[]⟩, .string ⟨#[]⟩, .string ⟨#[]⟩, .int .i64 0, .int .i64 0] 35)) := lay (lay (Below.refl _ _) _) _
    have k1 := Blk.new (w.alloc (.cells #[.string n, .int .i64 t, .int .i64 c] 37)) #[.int .i64 0, .int .i64 0, .int .i64 0, .string ⟨#[]⟩, .string ⟨#[]⟩, .string ⟨#[]⟩, .int .i64 0, .int .i64 0] 35
    rw [show (w.alloc (.cells #[.string n, .int .i64 t, .int .i64 c] 37)).heap.size = w.heap.size + 1 from by simp] at k1
    exact ⟨h.below b0, (Blk.new w #[.string n, .int .i64 t, .int .i64 c] 37).alloc _, k1, b0⟩
  have HTU : Hid (RS B w r most (.slice y N cp) D) := h
  clear hx he hD hN h
  go_enter Try.func15, Try.ntmps15
  go_wp2
  go_loopw [10] (fun q wr => ∃ j : Nat, j ≤ N ∧ q = .int .i64 (j : Int) ∧ Hid (RS B wr r most (.slice y N cp) D ∧ Blk wr w.heap.size #[.string n, .int .i64 t, .int .i64 c] 37 ∧ Blk wr (w.heap.size + 1) #[.int .i64 0, .int .i64 0, .int .i64 0, .string ⟨#[]⟩, .string ⟨#[]⟩, .string ⟨#[]⟩, .int .i64 0, .int .i64 0] 35 ∧ Below w.heap.size w wr) ∧ Hid (∀ q (hq : q < D.length), q < j → mtA (keyQ a i n t c) D[q] = false)) (fun q _ => N - (intOf q).toNat)
  case atStart => exact ⟨0, Nat.zero_le _, rfl, HS0, fun q _ h => absurd h (Nat.not_lt_zero _)⟩
  case round =>
    obtain ⟨j, hj, rfl, HS, HNO⟩ := hrel
    clear HS0
    have x1 := HS.out.1.blk.cell 1
    have q0 := HS.out.2.1.cell 0
    have q1 := HS.out.2.1.cell 1
    have q2 := HS.out.2.1.cell 2
    simp only [List.getElem?_toArray, List.getElem?_cons_succ, List.getElem?_cons_zero] at x1 q0 q1 q2
    by_cases hjn : j < N
    · have hjn' : (j : Int) < (N : Int) := by omega
      have hju : j < D.length := by have := HN.out; omega
      obtain ⟨gd, od, capd, hxv, hc⟩ := row_at (Row.of_own HS.out.1.own) (by omega)
      simp only [Value.slice.injEq] at hxv
      obtain ⟨rfl, -, rfl⟩ := hxv
      obtain ⟨⟨xj, xi, xa, xc, xg, xn, xt, xu⟩, hp⟩ : ∃ p, p = D[j] := ⟨_, rfl⟩
      have hfl := fun q hq => aF_map D j hju q hq
      rw [← hp] at hfl
      have d0 := hc (j * 8 + 0) _ (hfl 0 (by omega))
      have d1 := hc (j * 8 + 1) _ (hfl 1 (by omega))
      have d2 := hc (j * 8 + 2) _ (hfl 2 (by omega))
      have d3 := hc (j * 8 + 3) _ (hfl 3 (by omega))
      have d4 := hc (j * 8 + 4) _ (hfl 4 (by omega))
      have d5 := hc (j * 8 + 5) _ (hfl 5 (by omega))
      have d6 := hc (j * 8 + 6) _ (hfl 6 (by omega))
      have d7 := hc (j * 8 + 7) _ (hfl 7 (by omega))
      simp only [Nat.add_zero, ← Nat.add_assoc] at d0 d1 d2 d3 d4 d5 d6 d7
      have hok : OkA (⟨xj, xi, xa, xc, xg, xn, xt, xu⟩ : Ak) := by rw [hp]; exact HS.out.1.ok _ (List.getElem_mem _)
      have hmt := rt_mt hok a i n t c
      simp only at hmt
      have hxn : xn.size ≤ maxLen := by have := (name_some hok.nm).1; rw [data_len] at this; simp only at this; unfold maxLen; omega
      have HP : Hid ((⟨xj, xi, xa, xc, xg, xn, xt, xu⟩ : Ak) = D[j]) := hp
      have HS1 : Hid (RS B (wr.alloc (.cells #[.int .i64 xj, .int .i64 xi, .int .i64 xa, .string xc, .string xg, .string xn, .int .i64 xt, .int .i64 xu] 35)) r most (.slice (some ⟨gd, od, none⟩) N cp) D ∧ Blk (wr.alloc (.cells #[.int .i64 xj, .int .i64 xi, .int .i64 xa, .string xc, .string xg, .string xn, .int .i64 xt, .int .i64 xu] 35)) w.heap.size #[.string n, .int .i64 t, .int .i64 c] 37 ∧ Blk (wr.alloc (.cells #[.int .i64 xj, .int .i64 xi, .int .i64 xa, .string xc, .string xg, .string xn, .int .i64 xt, .int .i64 xu] 35)) (w.heap.size + 1) #[.int .i64 0, .int .i64 0, .int .i64 0, .string ⟨#[]⟩, .string ⟨#[]⟩, .string ⟨#[]⟩, .int .i64 0, .int .i64 0] 35 ∧ Below w.heap.size w (wr.alloc (.cells #[.int .i64 xj, .int .i64 xi, .int .i64 xa, .string xc, .string xg, .string xn, .int .i64 xt, .int .i64 xu] 35))) := ⟨HS.out.1.below (lay (Below.refl _ _) _), HS.out.2.1.alloc _, HS.out.2.2.1.alloc _, lay HS.out.2.2.2 _⟩
      have p0 := HS1.out.2.1.cell 0
      have p1 := HS1.out.2.1.cell 1
      have p2 := HS1.out.2.1.cell 2
      simp only [List.getElem?_toArray, List.getElem?_cons_succ, List.getElem?_cons_zero] at p0 p1 p2
      have HNEXT : Hid (mtA (keyQ a i n t c) (⟨xj, xi, xa, xc, xg, xn, xt, xu⟩ : Ak) = false → ∀ q (hq : q < D.length), q < j + 1 → mtA (keyQ a i n t c) D[q] = false) := fun hm q hq hlt => by
        by_cases e : q = j
        · subst e; rw [← HP.out]; exact hm
        · exact HNO.out q hq (by omega)
      clear hc hp hfl hok
      cases g0 : ((xa : Int) == a) with
      | false =>
        have HN2 : Hid (∀ q (hq : q < D.length), q < j + 1 → mtA (keyQ a i n t c) D[q] = false) := HNEXT.out (by rw [hmt, show decide (xa = a) = false from by simpa using g0]; simp)
        clear hmt HNEXT HNO HS
        go_wp2
        go_roundw
        case rel => exact ⟨j + 1, by omega, by go_num, HS1, HN2⟩
        case measure => simp [intOf]; omega
      | true =>
        cases g1 : ((xi : Int) == i) with
        | false =>
          have HN2 : Hid (∀ q (hq : q < D.length), q < j + 1 → mtA (keyQ a i n t c) D[q] = false) := HNEXT.out (by rw [hmt, show decide (xi = i) = false from by simpa using g1]; simp)
          clear hmt HNEXT HNO HS
          go_wp2
          go_roundw
          case rel => exact ⟨j + 1, by omega, by go_num, HS1, HN2⟩
          case measure => simp [intOf]; omega
        | true =>
          cases g2 : ((c : Int) == 1) with
          | false =>
            have HN2 : Hid (∀ q (hq : q < D.length), q < j + 1 → mtA (keyQ a i n t c) D[q] = false) := HNEXT.out (by rw [hmt, show decide (c = 1) = false from by simpa using g2]; simp)
            clear hmt HNEXT HNO HS
            go_wp2
            go_roundw
            case rel => exact ⟨j + 1, by omega, by go_num, HS1, HN2⟩
            case measure => simp [intOf]; omega
          | true =>
            cases g3 : ((xt : Int) == t) with
            | false =>
              have HN2 : Hid (∀ q (hq : q < D.length), q < j + 1 → mtA (keyQ a i n t c) D[q] = false) := HNEXT.out (by rw [hmt, show decide (xt = t) = false from by simpa using g3]; simp)
              clear hmt HNEXT HNO HS
              go_wp2
              go_roundw
              case rel => exact ⟨j + 1, by omega, by go_num, HS1, HN2⟩
              case measure => simp [intOf]; omega
            | true =>
              cases hsm : sameB xn.data.toList n.data.toList with
              | false =>
                have HN2 : Hid (∀ q (hq : q < D.length), q < j + 1 → mtA (keyQ a i n t c) D[q] = false) := HNEXT.out (by rw [hmt, hsm]; simp)
                clear hmt HNEXT HNO HS
                go_wp2_with (go_at_call 31; go_must (refine (refSame_as xn n false _ hxn hn hsm).mono ?_); rintro e w2 ⟨rfl, b2⟩)
                have HS2 : Hid (RS B w2 r most (.slice (some ⟨gd, od, none⟩) N cp) D ∧ Blk w2 w.heap.size #[.string n, .int .i64 t, .int .i64 c] 37 ∧ Blk w2 (w.heap.size + 1) #[.int .i64 0, .int .i64 0, .int .i64 0, .string ⟨#[]⟩, .string ⟨#[]⟩, .string ⟨#[]⟩, .int .i64 0, .int .i64 0] 35 ∧ Below w.heap.size w w2) := ⟨HS1.out.1.below b2, HS1.out.2.1.below b2, HS1.out.2.2.1.below b2, next HS1.out.2.2.2 b2⟩
                clear b2 HS1
                go_roundw
                case rel => exact ⟨j + 1, by omega, by go_num, HS2, HN2⟩
                case measure => simp [intOf]; omega
              | true =>
                have hmy : mtA (keyQ a i n t c) (⟨xj, xi, xa, xc, xg, xn, xt, xu⟩ : Ak) = true := by rw [hmt, hsm]; simp at g0 g1 g2 g3; simp [g0, g1, g2, g3]
                have HF := rt_find hju HNO.out (by rw [← HP.out]; exact hmy)
                rw [← HP.out] at HF
                have HZ : Hid ((⟨xj, xi, xa, xc, xg, xn, xt, xu⟩ : Ak) = ⟨zj, zi, za, zc, zg, zn, zt, zu⟩ ∧ (0 : Int) = e0 ∧ D.take j ++ D.drop (j + 1) = D') := by
                  obtain ⟨h1, h2, h3⟩ := HW.out
                  unfold takeX at h1
                  unfold takeE at h2
                  rw [HF.1] at h1 h2
                  rw [HF.2] at h3
                  exact ⟨h1, h2, h3⟩
                have HL : Hid (∀ k, k < j → k ≤ 16) := fun k hk => by omega
                have HRL : Hid (∀ k, rft r (.slice (some ⟨gd, od, none⟩) N cp) k → k < w.heap.size) := fun k hk => by
                  rcases hk with e | e
                  · rw [e]; exact HTU.out.blk.lt
                  · exact (HTU.out.own.lt k e).2
                have HA1 : Hid (∀ (w2 : World) (v5 : Value) (w5 : World), Below (wr.alloc (.cells #[.int .i64 xj, .int .i64 xi, .int .i64 xa, .string xc, .string xg, .string xn, .int .i64 xt, .int .i64 xu] 35)).heap.size (wr.alloc (.cells #[.int .i64 xj, .int .i64 xi, .int .i64 xa, .string xc, .string xg, .string xn, .int .i64 xt, .int .i64 xu] 35)) w2 → (w2.alloc (.cells #[] 35)).grownBy w5 (Value.slice (some ⟨w2.heap.size, 0, none⟩) 0 0).ownBlock → (∀ k, v5.ownBlock = some k → (Value.slice (some ⟨w2.heap.size, 0, none⟩) 0 0).ownBlock = some k ∨ (w2.alloc (.cells #[] 35)).heap.size ≤ k) →
                    RS B w5 r most (.slice (some ⟨gd, od, none⟩) N cp) D ∧ Blk w5 wr.heap.size #[.int .i64 xj, .int .i64 xi, .int .i64 xa, .string xc, .string xg, .string xn, .int .i64 xt, .int .i64 xu] 35 ∧ Blk w5 (w.heap.size + 1) #[.int .i64 0, .int .i64 0, .int .i64 0, .string ⟨#[]⟩, .string ⟨#[]⟩, .string ⟨#[]⟩, .int .i64 0, .int .i64 0] 35 ∧ Below w.heap.size w w5 ∧ (∀ k, v5.ownBlock = some k → w2.heap.size ≤ k)) := fun w2 v5 w5 b2 hg hk => by
                  have B2 := next HS1.out.2.2.2 b2
                  have BW := lay B2 (.cells #[] 35)
                  have kx := (Blk.new wr #[.int .i64 xj, .int .i64 xi, .int .i64 xa, .string xc, .string xg, .string xn, .int .i64 xt, .int .i64 xu] 35).below b2
                  have kz := HS1.out.2.2.1.below b2
                  have hx := kx.lt
                  have hz := kz.lt
                  have hs2 := B2.size
                  have S2 := (HS1.out.1.below b2).below (lay (Below.refl w2.heap.size w2) (.cells #[] 35))
                  have ht : Turn (fun k => k = w2.heap.size) (w2.alloc (.cells #[] 35)) w5 := Turn.of_grown hg (fun k e => by cases e; rfl)
                  refine ⟨S2.turn ht (fun k hk' e => by have := HRL.out k hk'; omega), ht.blk (kx.alloc _) (fun e => by omega), ht.blk (kz.alloc _) (fun e => by omega), Turn.below BW ht BW.size (fun k e => by omega), fun k e => ?_⟩
                  rcases hk k e with h1 | h1
                  · cases h1; exact Nat.le_refl _
                  · have : (w2.alloc (.cells #[] 35)).heap.size = w2.heap.size + 1 := by simp
                    omega
                have HA2 : Hid (∀ (w2 w5 : World) (v5 v6 : Value) (w6 : World), Below (wr.alloc (.cells #[.int .i64 xj, .int .i64 xi, .int .i64 xa, .string xc, .string xg, .string xn, .int .i64 xt, .int .i64 xu] 35)).heap.size (wr.alloc (.cells #[.int .i64 xj, .int .i64 xi, .int .i64 xa, .string xc, .string xg, .string xn, .int .i64 xt, .int .i64 xu] 35)) w2 → RS B w5 r most (.slice (some ⟨gd, od, none⟩) N cp) D → Blk w5 wr.heap.size #[.int .i64 xj, .int .i64 xi, .int .i64 xa, .string xc, .string xg, .string xn, .int .i64 xt, .int .i64 xu] 35 → Blk w5 (w.heap.size + 1) #[.int .i64 0, .int .i64 0, .int .i64 0, .string ⟨#[]⟩, .string ⟨#[]⟩, .string ⟨#[]⟩, .int .i64 0, .int .i64 0] 35 → Below w.heap.size w w5 → (∀ k, v5.ownBlock = some k → w2.heap.size ≤ k) →
                    w6.ownsRow w.heap.size 35 8 v6 (j + (N - (j + 1))) (aF (D.take j) ++ aF (D.drop (j + 1))) → w5.grownBy w6 v5.ownBlock → (∀ k, v6.ownBlock = some k → v5.ownBlock = some k ∨ w5.heap.size ≤ k) →
                    RS B w6 r most (.slice (some ⟨gd, od, none⟩) N cp) D ∧ Blk (w6.setCell ⟨r, 1, none⟩ v6) wr.heap.size #[.int .i64 xj, .int .i64 xi, .int .i64 xa, .string xc, .string xg, .string xn, .int .i64 xt, .int .i64 xu] 35 ∧ Blk (w6.setCell ⟨r, 1, none⟩ v6) (w.heap.size + 1) #[.int .i64 0, .int .i64 0, .int .i64 0, .string ⟨#[]⟩, .string ⟨#[]⟩, .string ⟨#[]⟩, .int .i64 0, .int .i64 0] 35 ∧ ∀ w10, Turn (fun k => k = w.heap.size + 1) (w6.setCell ⟨r, 1, none⟩ v6) w10 → RS B w10 r most v6 D' ∧ Turn (rft r (.slice (some ⟨gd, od, none⟩) D.length cp)) w w10 ∧ ∀ k, rft r v6 k → rft r (.slice (some ⟨gd, od, none⟩) D.length cp) k ∨ w.heap.size ≤ k) := fun w2 w5 v5 v6 w6 b2 S5 kx5 kz5 BT5 hv5 h61 hg hk => by
                  have B2 := next HS1.out.2.2.2 b2
                  have hx := ((Blk.new wr #[.int .i64 xj, .int .i64 xi, .int .i64 xa, .string xc, .string xg, .string xn, .int .i64 xt, .int .i64 xu] 35).below b2).lt
                  have hz := (HS1.out.2.2.1.below b2).lt
                  have hs2 := B2.size
                  have hrl := HRL.out r (.inl rfl)
                  have hz1 : w.heap.size + 1 < wr.heap.size + 1 := by simpa using HS1.out.2.2.1.lt
                  have ht : Turn (fun k => v5.ownBlock = some k) w5 w6 := Turn.of_grown hg (fun _ e => e)
                  have S6 := S5.turn ht (fun k hk' e => by have h1 := HRL.out k hk'; have h2 := hv5 k e; omega)
                  have kx6 := ht.blk kx5 (fun e => by have := hv5 _ e; omega)
                  have kz6 := ht.blk kz5 (fun e => by have := hv5 _ e; omega)
                  have hx5 := kx5.lt
                  have hz5 := kz5.lt
                  have hv6 : ∀ k, v6.ownBlock = some k → k ≠ r ∧ k ≠ w.heap.size + 1 := fun k e => by
                    rcases hk k e with h1 | h1
                    · have := hv5 k h1; omega
                    · have := BT5.size; omega
                  have hts : Turn (fun k => k = r) w6 (w6.setCell ⟨r, 1, none⟩ v6) := Turn.of_set (p := ⟨r, 1, none⟩) (S := fun k => k = r) w6 rfl v6
                  refine ⟨S6, kx6.other (by omega) _ _, kz6.other (by omega) _ _, fun w10 t10 => ⟨⟨t10.blk (S6.blk.set 1 v6) (fun e => by omega), ?_, S6.new, S6.m1, S6.m2, ?_, ?_⟩, ?_, ?_⟩⟩
                  · have h1 := t10.row (hts.row h61 (fun k e => (hv6 k e).1)) (fun k e => (hv6 k e).2)
                    rw [← aF_app, HZ.out.2.2] at h1
                    have hl : D'.length = j + (N - (j + 1)) := by rw [← HZ.out.2.2, List.length_append, List.length_take, List.length_drop]; have := HN.out; omega
                    rw [hl]
                    exact own_base h1 hB
                  · have hl : D'.length ≤ D.length := by rw [← HZ.out.2.2, List.length_append, List.length_take, List.length_drop]; omega
                    exact Nat.le_trans hl S6.len
                  · intro x hx'
                    rw [← HZ.out.2.2] at hx'
                    rcases List.mem_append.1 hx' with h1 | h1
                    · exact S6.ok x (List.mem_of_mem_take h1)
                    · exact S6.ok x (List.mem_of_mem_drop h1)
                  · exact (((Turn.of_below BT5).trans ht (fun k e => .inr (by have := hv5 k e; omega))).trans hts (fun k e => .inl (.inl e))).trans t10 (fun k e => .inr (by omega))
                  · rintro k (e | e)
                    · exact .inl (.inl e)
                    · exact .inr (h61.lt k e).1
                clear hmt HNEXT HNO HS HF HW hmy
                have tk1 : True := trivial
                have tk2 : True := trivial
                have tk3 : True := trivial
                go_wp2_with (first
                  | (go_at_call 31; go_must (refine (refSame_as xn n true _ hxn hn hsm).mono ?_); rintro e w2 ⟨rfl, b2⟩; have B2 := lay b2 (.cells #[] 35); have S2 := HS1.out.1.below b2; have S3 := S2.below (lay (Below.refl w2.heap.size w2) (.cells #[] 35)); have hown0 := own_blk (B := w.heap.size) (z := 8) (n := 0) (xs := []) (Blk.new w2 #[] 35) (by have := (next HS1.out.2.2.2 b2).size; omega) rfl rfl (Nat.zero_le _); have kx := (((Blk.new wr #[.int .i64 xj, .int .i64 xi, .int .i64 xa, .string xc, .string xg, .string xn, .int .i64 xt, .int .i64 xu] 35).below b2).alloc (.cells #[] 35)); have kz := (HS1.out.2.2.1.below b2).alloc (.cells #[] 35); have BW := lay (next HS1.out.2.2.2 b2) (.cells #[] 35); have y1 := S3.blk.cell 1; simp only [List.getElem?_toArray, List.getElem?_cons_succ, List.getElem?_cons_zero] at y1; have OD := S3.own; rw [← HN.out] at OD)
                  | (have _t := tk1; refine wpList_sliceTo _ rfl (.tmp 64) (.tmp 65) 46 35 B 8 Try.underlying46 (Try.sizeOf35 _) rfl _ N j (aF D) rfl rfl OD (by omega) ?_; intro va hra; obtain ⟨ya, ca, rfl⟩ := row_slice hra; rw [aF_take] at hra; clear tk1)
                  | (at_builtin; have _t := tk2; refine wpList_appG _ rfl (.tmp 60) (.tmp 66) 46 35 ia _ 8 88 Try.underlying46 hia hz0 hz1 hz2 rfl (by decide) rfl w.heap.size _ 0 [] rfl hown0 (.slice ya j ca) j (aF (D.take j)) rfl hra (by rw [aF_len, List.length_take]; have := HN.out; omega) (aF_one _) (by omega) (by unfold maxLen; omega) BW.size ?_; intro v5 w5 h51 h53 h54; obtain ⟨S5, kx5, kz5, BT5, hv5⟩ := HA1.out w2 v5 w5 b2 h53 h54; have h51' : w5.ownsRow w.heap.size 35 8 v5 j (aF (D.take j)) := (by simpa using h51); obtain ⟨y5, c5, rfl⟩ := row_shape h51'; have y1' := S5.blk.cell 1; simp only [List.getElem?_toArray, List.getElem?_cons_succ, List.getElem?_cons_zero] at y1'; have OD5 := S5.own; rw [← HN.out] at OD5; clear tk2 hra)
                  | (have _t := tk3; refine wpList_sliceFrom _ rfl (.tmp 72) (.tmp 74) 46 35 B 8 Try.underlying46 (Try.sizeOf35 _) rfl _ N (j + 1) (aF D) rfl rfl OD5 (by omega) ?_; intro vb hrb; obtain ⟨yb, cb, rfl⟩ := row_slice hrb; rw [aF_drop] at hrb; clear tk3)
                  | (at_builtin; refine wpList_appG _ rfl (.tmp 68) (.tmp 75) 46 35 ia _ 8 88 Try.underlying46 hia hz0 hz1 hz2 rfl (by decide) rfl w.heap.size (.slice y5 j c5) j (aF (D.take j)) rfl h51' (.slice yb (N - (j + 1)) cb) (N - (j + 1)) (aF (D.drop (j + 1))) rfl hrb (by rw [aF_len, List.length_drop]; have := HN.out; omega) (aF_one _) (by omega) (by unfold maxLen; omega) BT5.size ?_; intro v6 w6 h61 h63 h64; obtain ⟨yy6, cc6, rfl⟩ := row_shape h61; obtain ⟨S6, kx7, kz7, hfin⟩ := HA2.out w2 w5 (.slice y5 j c5) _ w6 b2 S5 kx5 kz5 BT5 hv5 h61 h63 h64; have y6 := S6.blk.cell 1; have fz6 := S6.blk.frozen 1; simp only [List.getElem?_toArray, List.getElem?_cons_succ, List.getElem?_cons_zero] at y6)
                  | (refine wpList_loadS _ rfl (.tmp 11) 35 rfl wr.heap.size _ 35 rfl kx7 ⟨_, Try.underlying35⟩ (by kernel_rfl) ?_)
                  | (refine wpList_storeS _ rfl (.tmp 8) (.tmp 81) 35 rfl (w.heap.size + 1) _ _ 35 rfl rfl kz7 (by kernel_rfl) rfl (by simp [Value.oneCell']) ?_; intro w10 k10 t10 _ _))
                obtain ⟨z1, z2, z3⟩ := HZ.out
                simp only [Ak.mk.injEq] at z1
                obtain ⟨rfl, rfl, rfl, rfl, rfl, rfl, rfl, rfl⟩ := z1
                subst z2
                exact bodyPost_ret (v := .tuple #[.agg #[.int .i64 xj, .int .i64 xi, .int .i64 xa, .string xc, .string xg, .string xn, .int .i64 xt, .int .i64 xu], .int .i64 0]) (ret_s1 rfl rfl rfl k10 ⟨_, Try.underlying35⟩ (by kernel_rfl)) rfl ⟨rfl, _, hfin w10 t10⟩

    · have hjn' : decide ((j : Int) < (N : Int)) = false := by simp; omega
      have HF := rt_none (k := keyQ a i n t c) (D := D) (fun q hq => HNO.out q hq (by have := HN.out; omega))
      have HZ : Hid (akZ = ⟨zj, zi, za, zc, zg, zn, zt, zu⟩ ∧ (1902 : Int) = e0 ∧ D = D') := by
        obtain ⟨h1, h2, h3⟩ := HW.out
        unfold takeX at h1
        unfold takeE at h2
        rw [HF.1] at h1 h2
        rw [HF.2] at h3
        exact ⟨h1, h2, h3⟩
      have kz := HS.out.2.2.1
      clear HF HW HNO
      go_wp2_with (refine wpList_storeS _ rfl (.tmp 8) (.tmp 82) 35 rfl (w.heap.size + 1) _ _ 35 rfl rfl kz (by kernel_rfl) rfl (by simp [Value.oneCell']) ?_; intro w10 k10 t10 _ _)
      obtain ⟨z1, z2, z3⟩ := HZ.out
      unfold akZ at z1
      cases z1
      subst z2 z3
      refine bodyPost_ret (v := .tuple #[.agg #[.int .i64 0, .int .i64 0, .int .i64 0, .string ⟨#[]⟩, .string ⟨#[]⟩, .string ⟨#[]⟩, .int .i64 0, .int .i64 0], .int .i64 1902]) (ret_s1 rfl rfl rfl k10 ⟨_, Try.underlying35⟩ (by kernel_rfl)) rfl ⟨rfl, .slice y N cp, ?_, ?_, fun k hk => .inl (by rw [← HN.out]; exact hk)⟩
      · have hr := HS.out.1
        have hlt : ∀ k, (Value.slice y N cp).ownBlock = some k → k < w.heap.size := fun k hk => (HTU.out.own.lt k hk).2
        have hrl := HTU.out.blk.lt
        exact ⟨t10.blk hr.blk (fun e => by omega), t10.row hr.own (fun k hk e => by have := hlt k hk; omega), hr.new, hr.m1, hr.m2, hr.len, hr.ok⟩
      · exact (Turn.of_below HS.out.2.2.2).trans t10 (fun k e => .inr (by omega))

end Ou
end Go.Proofs.Ytbldoplemfjcjaa
