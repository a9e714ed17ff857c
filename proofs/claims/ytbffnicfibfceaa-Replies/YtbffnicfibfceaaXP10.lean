/- What the document's PutHead gives, for every argument. -/
import Derived.Test.YtbffnicfibfceaaXP4
namespace Go.Proofs.Ytbffnicfibfceaa
open Go.RowKit

theorem bit_any (b : Bool) (n p : Int) (w : World) (h : (n = 15 ∧ p = 32768) ∨ (n = 10 ∧ p = 1024) ∨ (n = 9 ∧ p = 512) ∨ (n = 8 ∧ p = 256) ∨ (n = 7 ∧ p = 128)) :
    Calls Try.prog 34 #[.bool b, .int .i64 n] w fun e w' => e = .returned (.int .i64 (p * bI b)) ∧ w' = w := by
  cases b with
  | true =>
    rw [show p * bI true = p from by show p * 1 = p; omega]
    rcases h with ⟨rfl, rfl⟩ | ⟨rfl, rfl⟩ | ⟨rfl, rfl⟩ | ⟨rfl, rfl⟩ | ⟨rfl, rfl⟩
    all_goals
      go_enter Try.func34, Try.ntmps34
      go_wp2
      go_ret
      exact ⟨rfl, rfl⟩
  | false =>
    rw [show p * bI false = 0 from by show p * 0 = 0; omega]
    clear h
    go_enter Try.func34, Try.ntmps34
    go_wp2
    go_ret
    exact ⟨rfl, rfl⟩

/-- The three small numbers and Id, in the document's order. -/
theorem small_no {id op z rc a b c d : Int} (h : mayH id op z rc a b c d = false) :
    (id < 0) ∨ (0 ≤ id ∧ 65535 < id) ∨ (0 ≤ id ∧ id ≤ 65535 ∧ op < 0) ∨ (0 ≤ id ∧ id ≤ 65535 ∧ 0 ≤ op ∧ 15 < op) ∨ (0 ≤ id ∧ id ≤ 65535 ∧ 0 ≤ op ∧ op ≤ 15 ∧ rc < 0) ∨ (0 ≤ id ∧ id ≤ 65535 ∧ 0 ≤ op ∧ op ≤ 15 ∧ 0 ≤ rc ∧ 15 < rc) ∨ (0 ≤ id ∧ id ≤ 65535 ∧ 0 ≤ op ∧ op ≤ 15 ∧ 0 ≤ rc ∧ rc ≤ 15 ∧ z < 0) ∨ (0 ≤ id ∧ id ≤ 65535 ∧ 0 ≤ op ∧ op ≤ 15 ∧ 0 ≤ rc ∧ rc ≤ 15 ∧ 0 ≤ z ∧ 7 < z) ∨
    ((0 ≤ id ∧ id ≤ 65535 ∧ 0 ≤ op ∧ op ≤ 15 ∧ 0 ≤ rc ∧ rc ≤ 15 ∧ 0 ≤ z ∧ z ≤ 7) ∧ ∃ k, k < 4 ∧ fitI 65536 ([a, b, c, d].getD k 0) = false) := by
  by_cases h0 : id < 0
  · exact .inl h0
  have n0 : 0 ≤ id := by omega
  by_cases h1 : 65535 < id
  · exact .inr (.inl ⟨n0, h1⟩)
  have n1 : id ≤ 65535 := by omega
  by_cases h2 : op < 0
  · exact .inr (.inr (.inl ⟨n0, n1, h2⟩))
  have n2 : 0 ≤ op := by omega
  by_cases h3 : 15 < op
  · exact .inr (.inr (.inr (.inl ⟨n0, n1, n2, h3⟩)))
  have n3 : op ≤ 15 := by omega
  by_cases h4 : rc < 0
  · exact .inr (.inr (.inr (.inr (.inl ⟨n0, n1, n2, n3, h4⟩))))
  have n4 : 0 ≤ rc := by omega
  by_cases h5 : 15 < rc
  · exact .inr (.inr (.inr (.inr (.inr (.inl ⟨n0, n1, n2, n3, n4, h5⟩)))))
  have n5 : rc ≤ 15 := by omega
  by_cases h6 : z < 0
  · exact .inr (.inr (.inr (.inr (.inr (.inr (.inl ⟨n0, n1, n2, n3, n4, n5, h6⟩))))))
  have n6 : 0 ≤ z := by omega
  by_cases h7 : 7 < z
  · exact .inr (.inr (.inr (.inr (.inr (.inr (.inr (.inl ⟨n0, n1, n2, n3, n4, n5, n6, h7⟩)))))))
  have n7 : z ≤ 7 := by omega
  refine .inr (.inr (.inr (.inr (.inr (.inr (.inr (.inr ⟨⟨n0, n1, n2, n3, n4, n5, n6, n7⟩, ?_⟩)))))))
  have f1 : fitI 65536 id = true := fit_iff.2 ⟨n0, by omega⟩
  have f2 : fitI 16 op = true := fit_iff.2 ⟨n2, by omega⟩
  have f3 : fitI 8 z = true := fit_iff.2 ⟨n6, by omega⟩
  have f4 : fitI 16 rc = true := fit_iff.2 ⟨n4, by omega⟩
  unfold mayH at h
  rw [f1, f2, f3, f4] at h
  cases g0 : fitI 65536 a with
  | false => exact ⟨0, by decide, g0⟩
  | true =>
    cases g1 : fitI 65536 b with
    | false => exact ⟨1, by decide, g1⟩
    | true =>
      cases g2 : fitI 65536 c with
      | false => exact ⟨2, by decide, g2⟩
      | true =>
        cases g3 : fitI 65536 d with
        | false => exact ⟨3, by decide, g3⟩
        | true => rw [g0, g1, g2, g3] at h; simp at h

set_option maxRecDepth 20000 in
set_option maxHeartbeats 8000000 in
theorem refPut_small (id : Int) (qr : Bool) (op : Int) (aa tc rd ra : Bool) (z rc a b c d : Int) (w : World)
    (h : (id < 0) ∨ (0 ≤ id ∧ 65535 < id) ∨ (0 ≤ id ∧ id ≤ 65535 ∧ op < 0) ∨ (0 ≤ id ∧ id ≤ 65535 ∧ 0 ≤ op ∧ 15 < op) ∨ (0 ≤ id ∧ id ≤ 65535 ∧ 0 ≤ op ∧ op ≤ 15 ∧ rc < 0) ∨ (0 ≤ id ∧ id ≤ 65535 ∧ 0 ≤ op ∧ op ≤ 15 ∧ 0 ≤ rc ∧ 15 < rc) ∨ (0 ≤ id ∧ id ≤ 65535 ∧ 0 ≤ op ∧ op ≤ 15 ∧ 0 ≤ rc ∧ rc ≤ 15 ∧ z < 0) ∨ (0 ≤ id ∧ id ≤ 65535 ∧ 0 ≤ op ∧ op ≤ 15 ∧ 0 ≤ rc ∧ rc ≤ 15 ∧ 0 ≤ z ∧ 7 < z)) :
    Calls Try.prog 15 #[.agg (headV id qr op aa tc rd ra z rc), .agg (cntV a b c d)] w fun e w' => e = .returned (.tuple #[.string ⟨#[]⟩, .int .i64 600]) ∧ Below w.heap.size w w' := by
  have hb := lay (lay (Below.refl w.heap.size w) (.cells #[.int .i64 id, .bool qr, .int .i64 op, .bool aa, .bool tc, .bool rd, .bool ra, .int .i64 z, .int .i64 rc] 23)) (.cells #[.int .i64 a, .int .i64 b, .int .i64 c, .int .i64 d] 48)
  unfold headV cntV
  rcases h with h1 | ⟨h1, h2⟩ | ⟨h1, h2, h3⟩ | ⟨h1, h2, h3, h4⟩ | ⟨h1, h2, h3, h4, h5⟩ | ⟨h1, h2, h3, h4, h5, h6⟩ | ⟨h1, h2, h3, h4, h5, h6, h7⟩ | ⟨h1, h2, h3, h4, h5, h6, h7, h8⟩
  all_goals
    go_enter Try.func15, Try.ntmps15
    go_wp2
    go_ret2
    exact ⟨rfl, hb⟩

end Go.Proofs.Ytbffnicfibfceaa

/- What the document's PutHead gives: the loop over the counts, and the whole. -/
namespace Go.Proofs.Ytbffnicfibfceaa
open Go.RowKit

theorem cnt_cell (a b c d : Int) (k : Nat) (h : k < 4) : (cntV a b c d)[k]? = some (.int .i64 ([a, b, c, d].getD k 0)) := by
  have : k = 0 ∨ k = 1 ∨ k = 2 ∨ k = 3 := by omega
  rcases this with rfl | rfl | rfl | rfl <;> rfl

set_option maxRecDepth 20000 in
set_option maxHeartbeats 8000000 in
theorem refPut_big (id : Int) (qr : Bool) (op : Int) (aa tc rd ra : Bool) (z rc a b c d : Int) (w : World)
    (i0 : 0 ≤ id) (i1 : id ≤ 65535) (o0 : 0 ≤ op) (o1 : op ≤ 15) (r0 : 0 ≤ rc) (r1 : rc ≤ 15) (z0 : 0 ≤ z) (z1 : z ≤ 7) :
    Calls Try.prog 15 #[.agg (headV id qr op aa tc rd ra z rc), .agg (cntV a b c d)] w fun e w' => e = .returned (putT id qr op aa tc rd ra z rc a b c d) ∧ Below w.heap.size w w' := by
  have hb := lay (lay (Below.refl w.heap.size w) (.cells (headV id qr op aa tc rd ra z rc) 23)) (.cells (cntV a b c d) 48)
  have kh := (Blk.new w (headV id qr op aa tc rd ra z rc) 23).alloc (.cells (cntV a b c d) 48)
  have kc := Blk.new (w.alloc (.cells (headV id qr op aa tc rd ra z rc) 23)) (cntV a b c d) 48
  rw [show (w.alloc (.cells (headV id qr op aa tc rd ra z rc) 23)).heap.size = w.heap.size + 1 from by simp] at kc
  have q1 := bI_lt qr
  have q2 := bI_lt aa
  have q3 := bI_lt tc
  have q4 := bI_lt rd
  have q5 := bI_lt ra
  have b1 := fun u => bit_any qr 15 32768 u (.inl ⟨rfl, rfl⟩)
  have b2 := fun u => bit_any aa 10 1024 u (.inr (.inl ⟨rfl, rfl⟩))
  have b3 := fun u => bit_any tc 9 512 u (.inr (.inr (.inl ⟨rfl, rfl⟩)))
  have b4 := fun u => bit_any rd 8 256 u (.inr (.inr (.inr (.inl ⟨rfl, rfl⟩))))
  have b5 := fun u => bit_any ra 7 128 u (.inr (.inr (.inr (.inr ⟨rfl, rfl⟩))))
  obtain ⟨B1, e1⟩ : ∃ B, 32768 * bI qr = B := ⟨_, rfl⟩
  obtain ⟨B2, e2⟩ : ∃ B, 1024 * bI aa = B := ⟨_, rfl⟩
  obtain ⟨B3, e3⟩ : ∃ B, 512 * bI tc = B := ⟨_, rfl⟩
  obtain ⟨B4, e4⟩ : ∃ B, 256 * bI rd = B := ⟨_, rfl⟩
  obtain ⟨B5, e5⟩ : ∃ B, 128 * bI ra = B := ⟨_, rfl⟩
  simp only [e1, e2, e3, e4, e5] at b1 b2 b3 b4 b5
  obtain ⟨f1, g1⟩ : ∃ f, f = B1 + op * 2048 := ⟨_, rfl⟩
  obtain ⟨f2, g2⟩ : ∃ f, f = f1 + B2 := ⟨_, rfl⟩
  obtain ⟨f3, g3⟩ : ∃ f, f = f2 + B3 := ⟨_, rfl⟩
  obtain ⟨f4, g4⟩ : ∃ f, f = f3 + B4 := ⟨_, rfl⟩
  obtain ⟨f5, g5⟩ : ∃ f, f = f4 + B5 := ⟨_, rfl⟩
  obtain ⟨f6, g6⟩ : ∃ f, f = f5 + z * 16 := ⟨_, rfl⟩
  obtain ⟨v, g7⟩ : ∃ f, f = f6 + rc := ⟨_, rfl⟩
  have h1 : bits .or .i64 B1 (op * 2048) = f1 := by rw [g1]; exact bits_join .i64 62 (by decide) wraps_i64 15 _ _ (by omega) (by omega) (by omega) (by omega) (by omega) (by omega)
  have h2 : bits .or .i64 f1 B2 = f2 := by rw [g2]; exact bits_join .i64 62 (by decide) wraps_i64 11 _ _ (by omega) (by omega) (by omega) (by omega) (by omega) (by omega)
  have h3 : bits .or .i64 f2 B3 = f3 := by rw [g3]; exact bits_join .i64 62 (by decide) wraps_i64 10 _ _ (by omega) (by omega) (by omega) (by omega) (by omega) (by omega)
  have h4 : bits .or .i64 f3 B4 = f4 := by rw [g4]; exact bits_join .i64 62 (by decide) wraps_i64 9 _ _ (by omega) (by omega) (by omega) (by omega) (by omega) (by omega)
  have h5 : bits .or .i64 f4 B5 = f5 := by rw [g5]; exact bits_join .i64 62 (by decide) wraps_i64 8 _ _ (by omega) (by omega) (by omega) (by omega) (by omega) (by omega)
  have h6 : bits .or .i64 f5 (z * 16) = f6 := by rw [g6]; exact bits_join .i64 62 (by decide) wraps_i64 7 _ _ (by omega) (by omega) (by omega) (by omega) (by omega) (by omega)
  have h7 : bits .or .i64 f6 rc = v := by rw [g7]; exact bits_join .i64 62 (by decide) wraps_i64 4 _ _ (by omega) (by omega) (by omega) (by omega) (by omega) (by omega)
  have u1 : IntKind.i64.wrap (op * 2048) = op * 2048 := wraps_i64 _ (by omega) (by omega)
  have u2 : IntKind.i64.wrap (z * 16) = z * 16 := wraps_i64 _ (by omega) (by omega)
  have HV : Hid (wordH qr op aa tc rd ra z rc = v) := by unfold Hid wordH; omega
  have HT : Hid (putT id qr op aa tc rd ra z rc a b c d = if mayH id op z rc a b c d then .tuple #[.string (putS id v a b c d 4), .int .i64 0] else .tuple #[.string ⟨#[]⟩, .int .i64 600]) := by unfold Hid putT; rw [HV.out]
  have HM : Hid ((∀ j, j < 4 → fitI 65536 ([a, b, c, d].getD j 0) = true) → mayH id op z rc a b c d = true) := fun h => by
    rw [mayH_rest h, fit_iff.2 ⟨i0, by omega⟩, fit_iff.2 ⟨o0, by omega⟩, fit_iff.2 ⟨z0, by omega⟩, fit_iff.2 ⟨r0, by omega⟩]; rfl
  clear e1 e2 e3 e4 e5 g1 g2 g3 g4 g5 g6 g7 q1 q2 q3 q4 q5 HV
  have kcells := cnt_cell a b c d
  have HK : Hid (∀ k, k < 4 → (cntV a b c d)[k]? = some (.int .i64 ([a, b, c, d].getD k 0))) := kcells
  clear kcells
  have d0 : decide (id < 0) = false := by simp; omega
  have d1 : decide (65535 < id) = false := by simp; omega
  have d2 : decide (op < 0) = false := by simp; omega
  have d3 : decide (15 < op) = false := by simp; omega
  have d4 : decide (rc < 0) = false := by simp; omega
  have d5 : decide (15 < rc) = false := by simp; omega
  have d6 : decide (z < 0) = false := by simp; omega
  have d7 : decide (7 < z) = false := by simp; omega
  unfold headV at kh kc hb ⊢
  unfold cntV at kh kc hb ⊢
  go_enter Try.func15, Try.ntmps15
  go_wp2
  revert kh kc hb
  generalize ((w.alloc (.cells #[.int .i64 id, .bool qr, .int .i64 op, .bool aa, .bool tc, .bool rd, .bool ra, .int .i64 z, .int .i64 rc] 23)).alloc (.cells #[.int .i64 a, .int .i64 b, .int .i64 c, .int .i64 d] 48)) = W1
  intro hb kh kc
  obtain ⟨c0, c1, c2, c3, c4, c5, c6, c7, c8⟩ := Blk.nine kh
  go_quiet (first
    | (go_at_call_of 34 (#[Value.bool qr, Value.int IntKind.i64 15]); exact Calls.quiet_of_same (b1 _))
    | (go_at_call_of 34 (#[Value.bool aa, Value.int IntKind.i64 10]); exact Calls.quiet_of_same (b2 _))
    | (go_at_call_of 34 (#[Value.bool tc, Value.int IntKind.i64 9]); exact Calls.quiet_of_same (b3 _))
    | (go_at_call_of 34 (#[Value.bool rd, Value.int IntKind.i64 8]); exact Calls.quiet_of_same (b4 _))
    | (go_at_call 34; go_must (exact Calls.quiet_of_same (b5 _))))
  have kd : ∃ m, W1.drewN nq = W1.drewN m := ⟨_, rfl⟩
  replace kc := kc.drew kd
  replace hb := next hb (below_drew kd)
  replace c0 : (W1.drewN nq).cell? ⟨w.heap.size, 0, none⟩ = some (.int .i64 id) := (kh.drew kd).cell 0
  clear c1 c2 c3 c4 c5 c6 c7 c8 kh b1 b2 b3 b4 b5 h1 h2 h3 h4 h5 h6 h7 u1 u2
  have s0 : (be2 id).size + (be2 v).size ≤ 1000 := by rw [size2, size2]; decide
  have t1 : True := trivial
  go_wp2_with (first
    | (go_at_call 18; have _t := t1; go_must (refine (be_two id _).mono ?_); rintro e w2 ⟨rfl, x2⟩; replace kc := kc.below x2; replace hb := next hb x2; clear x2 t1 _t)
    | (go_at_call 18; go_must (refine (be_two v _).mono ?_); rintro e w3 ⟨rfl, x3⟩; replace kc := kc.below x3; replace hb := next hb x3; clear x3))
  go_loopw [7, 8] (fun s i wr => ∃ k : Nat, k ≤ 4 ∧ s = .string (putS id v a b c d k) ∧ i = .int .i64 (k : Int) ∧ Hid (∀ j, j < k → fitI 65536 ([a, b, c, d].getD j 0) = true) ∧ Blk wr (w.heap.size + 1) (cntV a b c d) 48 ∧ Below w.heap.size w wr) (fun _ i _ => 4 - (intOf i).toNat)
  case atStart => exact ⟨0, by decide, rfl, rfl, fun j hj => absurd hj (Nat.not_lt_zero _), kc, hb⟩
  case round =>
    clear hb kc c0 kd
    obtain ⟨k, hk, rfl, rfl, hf, kc, hb⟩ := hrel
    by_cases hk4 : k < 4
    · have hk4' : (k : Int) < 4 := by omega
      have HN : Hid (putS id v a b c d k ++ be2 ([a, b, c, d].getD k 0) = putS id v a b c d (k + 1)) := putS_next id v a b c d k hk4
      have hz : (putS id v a b c d k).size + (be2 ([a, b, c, d].getD k 0)).size ≤ 1000 := by
        have := putS_size id v a b c d k
        rw [size2]; omega
      have hcell : wr.cell? ⟨w.heap.size + 1, k, none⟩ = some (.int .i64 ([a, b, c, d].getD k 0)) := (kc.cell k).trans (HK.out k hk4)
      have HNo : Hid (fitI 65536 ([a, b, c, d].getD k 0) = false → mayH id op z rc a b c d = false) := fun h => mayH_count hk4 h
      have HEx : Hid (fitI 65536 ([a, b, c, d].getD k 0) = true → ∀ j, j < k + 1 → fitI 65536 ([a, b, c, d].getD j 0) = true) := fun h j hj => by
        by_cases e : j = k
        · rw [e]; exact h
        · exact hf.out j (by omega)
      obtain ⟨x, hx⟩ : ∃ x, x = [a, b, c, d].getD k 0 := ⟨_, rfl⟩
      rw [← hx] at HN hz hcell HNo HEx
      obtain ⟨S, hS⟩ : ∃ S, S = putS id v a b c d k := ⟨_, rfl⟩
      rw [← hS] at hz HN ⊢
      clear hx hS
      by_cases x0 : x < 0
      · go_wp2
        go_ret2
        exact ⟨by rw [HT.out, HNo.out (by unfold fitI; simp; omega)]; rfl, hb⟩
      · have x0' : 0 ≤ x := by omega
        have x0b : decide (x < 0) = false := by simpa using x0
        by_cases x1 : 65535 < x
        · go_wp2
          go_ret2
          exact ⟨by rw [HT.out, HNo.out (by unfold fitI; simp; omega)]; rfl, hb⟩
        · have x1b : decide (65535 < x) = false := by simpa using x1
          have x1' : x ≤ 65535 := by omega
          go_wp2_with (go_at_call 18; go_must (refine (be_two x _).mono ?_); rintro e w4 ⟨rfl, x4⟩; replace kc := kc.below x4; replace hb := next hb x4; clear x4)
          go_roundw
          case rel => exact ⟨k + 1, by omega, by rw [HN.out], by go_num, HEx.out (fit_iff.2 ⟨x0', by omega⟩), kc, hb⟩
          case measure => simp [intOf]; omega
    · have hk4' : k = 4 := by omega
      subst hk4'
      go_wp2
      go_ret2
      exact ⟨by rw [HT.out, HM.out hf.out]; rfl, hb⟩

theorem refPut_any (id : Int) (qr : Bool) (op : Int) (aa tc rd ra : Bool) (z rc a b c d : Int) (w : World) :
    Calls Try.prog 15 #[.agg (headV id qr op aa tc rd ra z rc), .agg (cntV a b c d)] w fun e w' => e = .returned (putT id qr op aa tc rd ra z rc a b c d) ∧ Below w.heap.size w w' := by
  by_cases hs : 0 ≤ id ∧ id ≤ 65535 ∧ 0 ≤ op ∧ op ≤ 15 ∧ 0 ≤ rc ∧ rc ≤ 15 ∧ 0 ≤ z ∧ z ≤ 7
  · obtain ⟨s1, s2, s3, s4, s5, s6, s7, s8⟩ := hs
    exact refPut_big id qr op aa tc rd ra z rc a b c d w s1 s2 s3 s4 s5 s6 s7 s8
  · have hm : mayH id op z rc a b c d = false := by
      cases hm : mayH id op z rc a b c d with
      | false => rfl
      | true =>
        obtain ⟨h1, h2, h3, h4, _⟩ := mayH_iff.1 hm
        have I := fit_iff.1 h1
        have O := fit_iff.1 h2
        have Z := fit_iff.1 h3
        have R := fit_iff.1 h4
        exact absurd ⟨I.1, by omega, O.1, by omega, R.1, by omega, Z.1, by omega⟩ hs
    have hp : putT id qr op aa tc rd ra z rc a b c d = .tuple #[.string ⟨#[]⟩, .int .i64 600] := by unfold putT; rw [hm]; rfl
    rw [hp]
    rcases small_no hm with h | h | h | h | h | h | h | h | ⟨h, _⟩
    · exact refPut_small id qr op aa tc rd ra z rc a b c d w (.inl h)
    · exact refPut_small id qr op aa tc rd ra z rc a b c d w (.inr (.inl h))
    · exact refPut_small id qr op aa tc rd ra z rc a b c d w (.inr (.inr (.inl h)))
    · exact refPut_small id qr op aa tc rd ra z rc a b c d w (.inr (.inr (.inr (.inl h))))
    · exact refPut_small id qr op aa tc rd ra z rc a b c d w (.inr (.inr (.inr (.inr (.inl h)))))
    · exact refPut_small id qr op aa tc rd ra z rc a b c d w (.inr (.inr (.inr (.inr (.inr (.inl h))))))
    · exact refPut_small id qr op aa tc rd ra z rc a b c d w (.inr (.inr (.inr (.inr (.inr (.inr (.inl h)))))))
    · exact refPut_small id qr op aa tc rd ra z rc a b c d w (.inr (.inr (.inr (.inr (.inr (.inr (.inr h)))))))
    · exact absurd h hs

end Go.Proofs.Ytbffnicfibfceaa
