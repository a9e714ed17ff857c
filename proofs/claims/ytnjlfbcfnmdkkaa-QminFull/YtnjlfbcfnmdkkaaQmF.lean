/- What the document's Next gives. -/
import Derived.Test.YtnjlfbcfnmdkkaaQmE
import Derived.BigQuiet
import Derived.Deep.DeepCutAuto
namespace Go.Proofs.Ytnjlfbcfnmdkkaa
open Go.RowKit
open Pl
namespace Qm

theorem refAbove_as (a b : ByteArray) (v : Bool) (w : World) (ha : a.size ≤ maxLen) (hb : b.size ≤ maxLen) (h : aboveB a.data.toList b.data.toList = v) :
    Calls Try.prog 15 #[.string a, .string b] w fun e w' => e = .returned (.bool v) ∧ Below w.heap.size w w' := by rw [← h]; exact refAbove_any a b w ha hb
theorem refLast_as (s : ByteArray) (k : Int) (t : ByteArray) (w : World) (hs : s.size ≤ maxLen) (h : lastR s.data.toList k = some t.data.toList) :
    Calls Try.prog 20 #[.string s, .int .i64 k] w fun e w' => e = .returned (.tuple #[.string t, .int .i64 0]) ∧ Below w.heap.size w w' := by
  have := refLast_any s k w hs
  rw [h] at this
  exact this

theorem last_all {n : ByteArray} (h : isName n.data.toList = true) : lastB n (labs n.data.toList).length = foldB n := by
  have e : lastN (foldL n.data.toList) (labs n.data.toList).length = foldL n.data.toList := by
    have h1 : isName (foldL n.data.toList) = true := by rw [name_fold]; exact h
    have h2 := (enc_of h1).1
    unfold lastN
    rw [labs_fold_len, Nat.sub_self, List.drop_zero, ← h2]
  unfold lastB foldB
  rw [e]

/-- The task, the answer and the whole question in memory. -/
structure NS (w wx : World) (n : ByteArray) (t : Int) (cut known : ByteArray) (steps : Int) (fb : Bool) (server tries : Int) (F : ByteArray) (gk : Nat) : Prop where
  task : Blk wx w.heap.size #[.string n, .int .i64 t, .string cut, .string known, .int .i64 steps, .bool fb, .int .i64 server, .int .i64 tries] 23
  ans : Blk wx (w.heap.size + 1) #[.string ⟨#[]⟩, .int .i64 0] 30
  full : Blk wx gk #[.string F, .int .i64 t] 30
  far : w.heap.size + 2 ≤ gk
  bel : Below w.heap.size w wx
theorem NS.past {w wx wy : World} {n : ByteArray} {t : Int} {cut known : ByteArray} {steps : Int} {fb : Bool} {server tries : Int} {F : ByteArray} {gk : Nat} (h : NS w wx n t cut known steps fb server tries F gk) (hb : Below wx.heap.size wx wy) : NS w wy n t cut known steps fb server tries F gk :=
  ⟨h.task.below hb, h.ans.below hb, h.full.below hb, h.far, next h.bel hb⟩

set_option maxRecDepth 20000 in
set_option maxHeartbeats 4000000 in
theorem refNext_any (x : Tk) (c o : Int) (w : World) (hn : x.n.size ≤ maxLen) (hkn : x.known.size ≤ maxLen) :
    Calls Try.prog 12 #[.agg (tkC x), .int .i64 c, .int .i64 o] w fun e w' => e = .returned (nextV x c o) ∧ Below w.heap.size w w' := by
  obtain ⟨V, hV⟩ : ∃ V, V = nextV x c o := ⟨_, rfl⟩
  obtain ⟨X, hX⟩ : ∃ X, X = x := ⟨_, rfl⟩
  rw [← hV]
  rw [← hX] at hV
  have HX : Hid (X = x) := hX
  obtain ⟨n, t, cut, known, steps, fb, server, tries⟩ := x
  clear hX
  simp only [tkC] at hn hkn ⊢
  have h1 := Blk.new w #[.string n, .int .i64 t, .string cut, .string known, .int .i64 steps, .bool fb, .int .i64 server, .int .i64 tries] 23
  have k0 := h1.alloc (.cells #[.string ⟨#[]⟩, .int .i64 0] 30)
  have s0 := Blk.new (w.alloc (.cells #[.string n, .int .i64 t, .string cut, .string known, .int .i64 steps, .bool fb, .int .i64 server, .int .i64 tries] 23)) #[.string ⟨#[]⟩, .int .i64 0] 30
  rw [World.size_alloc] at s0
  have hb0 : Below w.heap.size w ((w.alloc (.cells #[.string n, .int .i64 t, .string cut, .string known, .int .i64 steps, .bool fb, .int .i64 server, .int .i64 tries] 23)).alloc (.cells #[.string ⟨#[]⟩, .int .i64 0] 30)) := lay (lay (Below.refl _ _) _) _
  have HB0 : Hid (Below w.heap.size w ((w.alloc (.cells #[.string n, .int .i64 t, .string cut, .string known, .int .i64 steps, .bool fb, .int .i64 server, .int .i64 tries] 23)).alloc (.cells #[.string ⟨#[]⟩, .int .i64 0] 30))) := hb0
  have HK0 : Hid (Blk ((w.alloc (.cells #[.string n, .int .i64 t, .string cut, .string known, .int .i64 steps, .bool fb, .int .i64 server, .int .i64 tries] 23)).alloc (.cells #[.string ⟨#[]⟩, .int .i64 0] 30)) w.heap.size #[.string n, .int .i64 t, .string cut, .string known, .int .i64 steps, .bool fb, .int .i64 server, .int .i64 tries] 23) := k0
  have HS0 : Hid (Blk ((w.alloc (.cells #[.string n, .int .i64 t, .string cut, .string known, .int .i64 steps, .bool fb, .int .i64 server, .int .i64 tries] 23)).alloc (.cells #[.string ⟨#[]⟩, .int .i64 0] 30)) (w.heap.size + 1) #[.string ⟨#[]⟩, .int .i64 0] 30) := s0
  clear h1 k0 s0 hb0
  cases ha : aboveB known.data.toList n.data.toList with
  | false =>
    have HR : Hid (V = .tuple #[.agg #[.string ⟨#[]⟩, .int .i64 0], .int .i64 1700]) := by
      unfold Hid; rw [hV]; exact nextV_no (mayT_no (.inl (by rw [HX.out]; exact ha)))
    clear hV
    go_enter Try.func12, Try.ntmps12
    go_wp2_with (first
      | (go_at_call 15; go_must (refine (refAbove_as _ _ false _ hkn hn ha).mono ?_); rintro e w1 ⟨rfl, b1⟩; obtain ⟨c0, c1, c3, c4, c5⟩ := tk_cells (HK0.out.below b1); have hk1 : Hid (Blk w1 w.heap.size #[.string n, .int .i64 t, .string cut, .string known, .int .i64 steps, .bool fb, .int .i64 server, .int .i64 tries] 23) := HK0.out.below b1; have hs1 : Hid (Blk w1 (w.heap.size + 1) #[.string ⟨#[]⟩, .int .i64 0] 30) := HS0.out.below b1; have hb1 : Hid (Below w.heap.size w w1) := next HB0.out b1; clear b1)
      | (refine wpList_storeS _ rfl (.tmp 6) (.tmp 31) 30 rfl (w.heap.size + 1) _ _ 30 rfl rfl hs1.out (by kernel_rfl) rfl (by simp [Value.oneCell']) ?_; intro w5 k5 t5 _ _))
    exact bodyPost_ret (ret_s1 rfl rfl rfl k5 ⟨_, Try.underlying30⟩ (by kernel_rfl)) rfl ⟨by rw [HR.out]; rfl, t5.one_below hb1.out (by omega)⟩
  | true =>
    have HA : Hid (aboveB known.data.toList n.data.toList = true) := ha
    clear ha
    have hT : decide (t < 1) = true ∨ (decide (t < 1) = false ∧ decide (65535 < t) = true) ∨ (decide (t < 1) = false ∧ decide (65535 < t) = false) := by
      by_cases g1 : t < 1 <;> by_cases g2 : 65535 < t <;> simp [g1, g2]
    rcases hT with g1 | ⟨g1, g2⟩ | ⟨g1, g2⟩
    · have HR : Hid (V = .tuple #[.agg #[.string ⟨#[]⟩, .int .i64 0], .int .i64 1700]) := by
        unfold Hid; rw [hV]; exact nextV_no (mayT_no (.inr (.inl (by rw [HX.out]; simpa using g1))))
      clear hV
      go_enter Try.func12, Try.ntmps12
      go_wp2_with (first
        | (go_at_call 15; go_must (refine (refAbove_as _ _ true _ hkn hn HA.out).mono ?_); rintro e w1 ⟨rfl, b1⟩; obtain ⟨c0, c1, c3, c4, c5⟩ := tk_cells (HK0.out.below b1); have hk1 : Hid (Blk w1 w.heap.size #[.string n, .int .i64 t, .string cut, .string known, .int .i64 steps, .bool fb, .int .i64 server, .int .i64 tries] 23) := HK0.out.below b1; have hs1 : Hid (Blk w1 (w.heap.size + 1) #[.string ⟨#[]⟩, .int .i64 0] 30) := HS0.out.below b1; have hb1 : Hid (Below w.heap.size w w1) := next HB0.out b1; clear b1)
        | (refine wpList_storeS _ rfl (.tmp 6) (.tmp 31) 30 rfl (w.heap.size + 1) _ _ 30 rfl rfl hs1.out (by kernel_rfl) rfl (by simp [Value.oneCell']) ?_; intro w5 k5 t5 _ _))
      exact bodyPost_ret (ret_s1 rfl rfl rfl k5 ⟨_, Try.underlying30⟩ (by kernel_rfl)) rfl ⟨by rw [HR.out]; rfl, t5.one_below hb1.out (by omega)⟩
    · have HR : Hid (V = .tuple #[.agg #[.string ⟨#[]⟩, .int .i64 0], .int .i64 1700]) := by
        unfold Hid; rw [hV]; exact nextV_no (mayT_no (.inr (.inr (.inl (by rw [HX.out]; simpa using g2)))))
      clear hV
      go_enter Try.func12, Try.ntmps12
      go_wp2_with (first
        | (go_at_call 15; go_must (refine (refAbove_as _ _ true _ hkn hn HA.out).mono ?_); rintro e w1 ⟨rfl, b1⟩; obtain ⟨c0, c1, c3, c4, c5⟩ := tk_cells (HK0.out.below b1); have hk1 : Hid (Blk w1 w.heap.size #[.string n, .int .i64 t, .string cut, .string known, .int .i64 steps, .bool fb, .int .i64 server, .int .i64 tries] 23) := HK0.out.below b1; have hs1 : Hid (Blk w1 (w.heap.size + 1) #[.string ⟨#[]⟩, .int .i64 0] 30) := HS0.out.below b1; have hb1 : Hid (Below w.heap.size w w1) := next HB0.out b1; clear b1)
        | (refine wpList_storeS _ rfl (.tmp 6) (.tmp 31) 30 rfl (w.heap.size + 1) _ _ 30 rfl rfl hs1.out (by kernel_rfl) rfl (by simp [Value.oneCell']) ?_; intro w5 k5 t5 _ _))
      exact bodyPost_ret (ret_s1 rfl rfl rfl k5 ⟨_, Try.underlying30⟩ (by kernel_rfl)) rfl ⟨by rw [HR.out]; rfl, t5.one_below hb1.out (by omega)⟩
    · obtain ⟨a1, a2, a3⟩ := above_len HA.out
      obtain ⟨K, hK⟩ : ∃ K, K = (labs known.data.toList).length := ⟨_, rfl⟩
      obtain ⟨A, hA⟩ : ∃ A, A = (labs n.data.toList).length := ⟨_, rfl⟩
      have hKA : K ≤ A := by rw [hK, hA]; exact a3
      have hA127 : A ≤ 127 := by rw [hA]; exact few a2
      obtain ⟨D, hD⟩ : ∃ D : Int, D = max 1 ((A : Int) - K) := ⟨_, rfl⟩
      have hL : leftI X = D := by
        rw [hD, hA, hK, HX.out]; rfl
      have HCK : Hid (cnt known.data.toList = K) := by unfold Hid; rw [hK]; exact (enc_of a1).2.2.1
      have HCA : Hid (cnt n.data.toList = A) := by unfold Hid; rw [hA]; exact (enc_of a2).2.2.1
      have HKL : Hid (K = (labs known.data.toList).length) := hK
      have HAL : Hid (A = (labs n.data.toList).length) := hA
      have HNM : Hid (isName n.data.toList = true) := a2
      have HDE : Hid ((if (1 : Int) < (A : Int) - (K : Int) then (A : Int) - (K : Int) else 1) = D) := by unfold Hid; rw [hD]; split <;> omega
      have hD1 : 1 ≤ D ∧ D ≤ 127 ∧ (D = (A : Int) - K ∨ (D = 1 ∧ A = K)) := by rw [hD]; omega
      obtain ⟨F, hF⟩ : ∃ F, F = foldB n := ⟨_, rfl⟩
      have HFE : Hid (F = foldB n) := hF
      have HFD : Hid (∀ u : World, Calls Try.prog 16 #[.string n] u fun e w' => e = .returned (.string F) ∧ Below u.heap.size u w') := fun u => refFold_as n F u hn (by rw [hF, foldB_list, foldR_yes a2])
      clear hK hA hD a1 a2 a3 hF
      have HL : Hid (leftI X = D) := hL
      have HV : Hid (V = nextV X c o) := hV
      clear hL hV
      go_enter Try.func12, Try.ntmps12
      go_wp2_with (first
        | (go_at_call 15; go_must (refine (refAbove_as _ _ true _ hkn hn HA.out).mono ?_); rintro e w1 ⟨rfl, b1⟩; obtain ⟨c0, c1, c3, c4, c5⟩ := tk_cells (HK0.out.below b1); have hk1 : Hid (Blk w1 w.heap.size #[.string n, .int .i64 t, .string cut, .string known, .int .i64 steps, .bool fb, .int .i64 server, .int .i64 tries] 23) := HK0.out.below b1; have hs1 : Hid (Blk w1 (w.heap.size + 1) #[.string ⟨#[]⟩, .int .i64 0] 30) := HS0.out.below b1; have hb1 : Hid (Below w.heap.size w w1) := next HB0.out b1; clear b1))
      go_cut [8] (fun z wx => ∃ gk, z = .pointer (some ⟨gk, 0, none⟩) ∧ Hid (Blk wx gk #[.string F, .int .i64 t] 30 ∧ Below w1.heap.size w1 wx ∧ w1.heap.size ≤ gk))
      case first =>
        have HE0 : Hid (∀ u, Below w1.heap.size w1 u → u.cell? ⟨w.heap.size, 0, none⟩ = some (.string n)) := fun u hu => (hk1.out.below hu).cell 0
        have HE1 : Hid (∀ u, Below w1.heap.size w1 u → u.cell? ⟨w.heap.size, 1, none⟩ = some (.int .i64 t)) := fun u hu => (hk1.out.below hu).cell 1
        clear HX HB0 HK0 HS0 HA g1 g2 hKA hA127 HCK HCA HKL HAL HNM HDE hD1 HL HV hk1 hs1 hb1 HFE c3 c4 c5 hn hkn
        have kk : Hid (Blk (w1.alloc (.cells #[.string ⟨#[]⟩, .int .i64 0] 30)) w1.heap.size #[.string ⟨#[]⟩, .int .i64 0] 30) := Blk.new w1 _ _
        have a0 := HE0.out (w1.alloc (.cells #[.string ⟨#[]⟩, .int .i64 0] 30)) (lay (Below.refl _ _) _)
        have a1 := HE1.out (w1.alloc (.cells #[.string ⟨#[]⟩, .int .i64 0] 30)) (lay (Below.refl _ _) _)
        go_region_held3 (fun u => u.cell? ⟨w.heap.size, 0, none⟩ = some (.string n) ∧ u.cell? ⟨w.heap.size, 1, none⟩ = some (.int .i64 t))
          (first | (simp only [World.cell?_drew, c0, c1, and_self]; done) | (simp only [World.cell?_drew, a0, a1, and_self]; done) | (simp only [d0, d1, and_self]; done) | (simp only [h0, h1, and_self]; done) | (simp only [p0, p1, and_self]; done))
          (first | (go_at_call 16; go_must (refine (HFD.out _).mono ?_); rintro e w3 ⟨rfl, b3⟩; first
            | (have B3 : Below w1.heap.size w1 w3 := next (below_drew ⟨1, rfl⟩) b3; have BB : Hid (Below w1.heap.size w1 w3) := B3; have d0 := HE0.out w3 B3; have d1 := HE1.out w3 B3; have h0 := (fun o => HE0.out (w3.alloc o) (lay BB.out o)); have h1 := (fun o => HE1.out (w3.alloc o) (lay BB.out o)); clear b3 B3)
            | (have B3 : Below (w1.alloc (.cells #[.string ⟨#[]⟩, .int .i64 0] 30)).heap.size (w1.alloc (.cells #[.string ⟨#[]⟩, .int .i64 0] 30)) w3 := next (below_drew ⟨1, rfl⟩) b3; have KB : Hid (Blk w3 w1.heap.size #[.string ⟨#[]⟩, .int .i64 0] 30) := kk.out.below B3; have BB : Hid (Below w1.heap.size w1 w3) := next (lay (Below.refl _ _) _) B3; have d0 := HE0.out w3 BB.out; have d1 := HE1.out w3 BB.out; have y0 : w3.cell? ⟨w1.heap.size, 0, none⟩ = some (.string ⟨#[]⟩) := KB.out.cell 0; have y1 : w3.cell? ⟨w1.heap.size, 1, none⟩ = some (.int .i64 0) := KB.out.cell 1; have f0 := KB.out.frozen 0; have f1 := KB.out.frozen 1; have BP := (BB.out.setCell (p := ⟨w1.heap.size, 0, none⟩) (Nat.le_refl _) (.string F)).setCell (p := ⟨w1.heap.size, 1, none⟩) (Nat.le_refl _) (.int .i64 t); have p0 := HE0.out _ BP; have p1 := HE1.out _ BP; clear b3 B3 BP)))
        all_goals (go_wp2_with fail; go_meet)
        all_goals first
          | exact ⟨_, rfl, Blk.new w3 _ _, next BB.out (lay (Below.refl _ _) _), BB.out.size⟩
          | exact ⟨_, rfl, (KB.out.set 0 _).set 1 _, (BB.out.setCell (Nat.le_refl _) _).setCell (Nat.le_refl _) _, Nat.le_refl _⟩
      case rest =>
        obtain ⟨gk, rfl, HC⟩ := hcut
        have HN : Hid (NS w wc n t cut known steps fb server tries F gk) := ⟨hk1.out.below HC.out.2.1, hs1.out.below HC.out.2.1, HC.out.1, by have := HC.out.2.2; have := hs1.out.lt; omega, next hb1.out HC.out.2.1⟩
        clear HC HFD hk1 hs1 hb1 HB0 HK0 HS0 c0 c1 c3 c4 c5
        have hn3 : ∀ nb : Bel wc, nb.to.cell? ⟨w.heap.size, 3, none⟩ = some (.string known) := fun nb => (HN.out.past nb.h).task.cell 3
        have hn0 : ∀ nb : Bel wc, nb.to.cell? ⟨w.heap.size, 0, none⟩ = some (.string n) := fun nb => (HN.out.past nb.h).task.cell 0
        have S1 := fun nb : Bel wc => refCount_as known K nb.to hkn HCK.out
        have S2 := fun nb : Bel wc => refCount_as n A nb.to hn HCA.out
        go_wp2
        refine wp_region_bel (by kernel_rfl) (by kernel_rfl) (fun _ => ?_)
        repeat (go_big_quiet_step (first
          | (go_at_call_of 18 (#[Value.string known]); go_must (exact bel_lays (S1 _)))
          | (go_at_call_of 18 (#[Value.string n]); go_must (exact bel_lays (S2 _)))))
        refine wpQuiet_nil ?_
        intro wn hwn
        have HM : Hid (NS w wn n t cut known steps fb server tries F gk) := HN.out.past (bel_out hwn)
        have HBL : Hid (Below w.heap.size w wn) := HM.out.bel
        clear HN hwn hn3 hn0 S1 S2
        obtain ⟨c0, c1, c3, c4, c5⟩ := tk_cells HM.out.task
        have f0 : wn.cell? ⟨gk, 0, none⟩ = some (.string F) := HM.out.full.cell 0
        have f1 : wn.cell? ⟨gk, 1, none⟩ = some (.int .i64 t) := HM.out.full.cell 1
        have hs1 : Hid (Blk wn (w.heap.size + 1) #[.string ⟨#[]⟩, .int .i64 0] 30) := HM.out.ans
        cases hm : mayS steps D c o with
        | false =>
          have HZ : Hid (sizeV steps D c o = .tuple #[.int .i64 0, .int .i64 1700]) := sizeV_no hm
          have HR : Hid (V = .tuple #[.agg #[.string ⟨#[]⟩, .int .i64 0], .int .i64 1700]) := by
            unfold Hid; rw [HV.out]; exact nextV_no (mayT_no (.inr (.inr (.inr (by rw [HL.out, HX.out]; exact hm)))))
          clear hm
          go_wp2_with (first
            | (go_at_call 10; rw [HDE.out]; go_must (refine (refSize_as _ _ _ _ _ _ HZ.out).mono ?_); rintro e w' ⟨rfl, hw⟩; obtain rfl := hw.symm)
            | (refine wpList_storeS _ rfl (.tmp 6) (.tmp 58) 30 rfl (w.heap.size + 1) _ _ 30 rfl rfl hs1.out (by kernel_rfl) rfl (by simp [Value.oneCell']) ?_; intro w5 k5 t5 _ _))
          exact bodyPost_ret (ret_s1 rfl rfl rfl k5 ⟨_, Try.underlying30⟩ (by kernel_rfl)) rfl ⟨by rw [HR.out]; rfl, t5.one_below HBL.out (by omega)⟩
        | true =>
          obtain ⟨Z, hZ⟩ : ∃ Z, Z = szI steps D c o := ⟨_, rfl⟩
          have hZ1 := szI_in (s := steps) (l := D) (c := c) (o := o) hD1.1
          rw [← hZ] at hZ1
          have HZ : Hid (sizeV steps D c o = .tuple #[.int .i64 Z, .int .i64 0]) := by unfold Hid; rw [hZ]; exact sizeV_yes hm
          have HYES : Hid (mayT X c o = true) := by
            unfold Hid
            refine mayT_yes (by rw [HX.out]; exact HA.out) (by rw [HX.out]; simpa using g1) (by rw [HX.out]; simpa using g2) ?_
            rw [HL.out, HX.out]; exact hm
          have HTOLD : Hid (toldN X c o = if fb = true ∨ (A : Int) ≤ K + Z then A else K + Z.toNat) := by
            unfold Hid toldN lN
            rw [HL.out, HX.out, hZ, HKL.out, HAL.out]
          have HTYPE : Hid (typeI X c o = if fb = true ∨ (A : Int) ≤ K + Z then t else 1) := by
            unfold Hid typeI lN
            rw [HL.out, HX.out, hZ, HKL.out, HAL.out]
          have HVV : Hid (V = .tuple #[stV (lastB n (toldN X c o)) (typeI X c o), .int .i64 0]) := by
            unfold Hid
            rw [HV.out, nextV_yes HYES.out]
            unfold toldB lastB
            rw [HX.out]
          have HALL : Hid (lastB n A = F) := by
            unfold Hid
            rw [HFE.out, HAL.out]
            exact last_all HNM.out
          clear hm hZ HYES
          obtain ⟨Y, rfl⟩ : ∃ Y : Nat, Z = (Y : Int) := ⟨Z.toNat, by omega⟩
          have hF : fb = true ∨ (fb = false ∧ (decide (K = A) = true ∧ decide ((A : Int) ≤ (K : Int) + (Y : Int)) = true)) ∨ (fb = false ∧ decide (K = A) = false ∧ decide ((A : Int) ≤ (K : Int) + (Y : Int)) = true) ∨ (fb = false ∧ decide (K = A) = false ∧ decide ((A : Int) ≤ (K : Int) + (Y : Int)) = false) := by
            cases fb <;> simp <;> omega
          rcases hF with rfl | ⟨rfl, g3, g4⟩ | ⟨rfl, g3, g4⟩ | ⟨rfl, g3, g4⟩
          · have HR : Hid (V = .tuple #[stV F t, .int .i64 0]) := by
              unfold Hid
              have h1 := HTOLD.out
              have h2 := HTYPE.out
              rw [if_pos (by simp)] at h1 h2
              rw [HVV.out, h1, h2, HALL.out]
            clear HTOLD HTYPE HVV
            go_wp2_with (first
              | (go_at_call 10; rw [HDE.out]; go_must (refine (refSize_as _ _ _ _ _ _ HZ.out).mono ?_); rintro e w' ⟨rfl, hw⟩; obtain rfl := hw.symm)
              | (refine wpList_storeS _ rfl (.tmp 6) (.tmp 67) 30 rfl (w.heap.size + 1) _ _ 30 rfl rfl hs1.out (by kernel_rfl) rfl (by simp [Value.oneCell']) ?_; intro w5 k5 t5 _ _))
            have q1 : Below w.heap.size w w5 := t5.one_below HBL.out (by omega)
            refine bodyPost_ret (v := .tuple #[.agg #[.string F, .int .i64 t], .int .i64 0]) (ret_s1 rfl rfl rfl k5 ⟨_, Try.underlying30⟩ (by kernel_rfl)) rfl ⟨?_, q1⟩
            rw [HR.out]
            rfl
          · have HR : Hid (V = .tuple #[stV F t, .int .i64 0]) := by
              unfold Hid
              have h1 := HTOLD.out
              have h2 := HTYPE.out
              rw [if_pos (by simp at g4; right; omega)] at h1 h2
              rw [HVV.out, h1, h2, HALL.out]
            clear HTOLD HTYPE HVV
            have g5 : ((K : Int) == (A : Int)) = true := by simp at g3 ⊢; omega
            go_wp2_with (first
              | (go_at_call 10; rw [HDE.out]; go_must (refine (refSize_as _ _ _ _ _ _ HZ.out).mono ?_); rintro e w' ⟨rfl, hw⟩; obtain rfl := hw.symm)
              | (refine wpList_storeS _ rfl (.tmp 6) (.tmp 67) 30 rfl (w.heap.size + 1) _ _ 30 rfl rfl hs1.out (by kernel_rfl) rfl (by simp [Value.oneCell']) ?_; intro w5 k5 t5 _ _))
            have q1 : Below w.heap.size w w5 := t5.one_below HBL.out (by omega)
            refine bodyPost_ret (v := .tuple #[.agg #[.string F, .int .i64 t], .int .i64 0]) (ret_s1 rfl rfl rfl k5 ⟨_, Try.underlying30⟩ (by kernel_rfl)) rfl ⟨?_, q1⟩
            rw [HR.out]
            rfl
          · have HR : Hid (V = .tuple #[stV F t, .int .i64 0]) := by
              unfold Hid
              have h1 := HTOLD.out
              have h2 := HTYPE.out
              rw [if_pos (by simp at g4; right; omega)] at h1 h2
              rw [HVV.out, h1, h2, HALL.out]
            clear HTOLD HTYPE HVV
            have g5 : ((K : Int) == (A : Int)) = false := by simp at g3 ⊢; omega
            go_wp2_with (first
              | (go_at_call 10; rw [HDE.out]; go_must (refine (refSize_as _ _ _ _ _ _ HZ.out).mono ?_); rintro e w' ⟨rfl, hw⟩; obtain rfl := hw.symm)
              | (refine wpList_storeS _ rfl (.tmp 6) (.tmp 73) 30 rfl (w.heap.size + 1) _ _ 30 rfl rfl hs1.out (by kernel_rfl) rfl (by simp [Value.oneCell']) ?_; intro w5 k5 t5 _ _))
            have q1 : Below w.heap.size w w5 := t5.one_below HBL.out (by omega)
            refine bodyPost_ret (v := .tuple #[.agg #[.string F, .int .i64 t], .int .i64 0]) (ret_s1 rfl rfl rfl k5 ⟨_, Try.underlying30⟩ (by kernel_rfl)) rfl ⟨?_, q1⟩
            rw [HR.out]
            rfl
          · have HR : Hid (V = .tuple #[stV (lastB n (K + Y)) 1, .int .i64 0]) := by
              unfold Hid
              have h1 := HTOLD.out
              have h2 := HTYPE.out
              rw [if_neg (by simp at g4 ⊢; omega)] at h1 h2
              rw [HVV.out, h1, h2]
              simp
            clear HTOLD HTYPE HVV HALL
            have hKY : K + Y ≤ 200 := by simp at g4; omega
            have g5 : ((K : Int) == (A : Int)) = false := by simp at g3 ⊢; omega
            have HFS : Hid (F.size ≤ maxLen) := by unfold Hid; rw [HFE.out]; refine big ?_; rw [foldB_list, name_fold]; exact HNM.out
            have HLT : Hid (∀ q : Int, q = (K : Int) + (Y : Int) → lastR F.data.toList q = some (lastB n (K + Y)).data.toList) := by
              intro q hq
              have e : q = ((K + Y : Nat) : Int) := by omega
              rw [e, HFE.out, last_yes (by rw [foldB_list, name_fold]; exact HNM.out) (by rw [foldB_list, labs_fold_len, ← HAL.out]; simp at g4; omega), foldB_list, lastB_list]
            obtain ⟨LL, hLL⟩ : ∃ LL, LL = lastB n (K + Y) := ⟨_, rfl⟩
            rw [← hLL] at HLT HR
            clear hLL
            go_wp2_with (first
              | (go_at_call 10; rw [HDE.out]; go_must (refine (refSize_as _ _ _ _ _ _ HZ.out).mono ?_); rintro e w' ⟨rfl, hw⟩; obtain rfl := hw.symm)
              | (go_at_call 20; go_must (refine (refLast_as _ _ _ _ HFS.out (HLT.out _ rfl)).mono ?_); rintro e w4 ⟨rfl, b4⟩; have hs4 : Hid (Blk w4 (w.heap.size + 1) #[.string ⟨#[]⟩, .int .i64 0] 30) := hs1.out.below b4; have HBM : Hid (Below w.heap.size w w4) := next HBL.out b4; clear b4)
              | (refine wpList_storeS _ rfl (.tmp 6) (.tmp 84) 30 rfl (w.heap.size + 1) _ _ 30 rfl rfl hs4.out (by kernel_rfl) rfl (by simp [Value.oneCell']) ?_; intro w5 k5 t5 _ _))
            have q1 : Below w.heap.size w w5 := t5.one_below HBM.out (by omega)
            refine bodyPost_ret (v := .tuple #[.agg #[.string LL, .int .i64 1], .int .i64 0]) (ret_s1 rfl rfl rfl k5 ⟨_, Try.underlying30⟩ (by kernel_rfl)) rfl ⟨?_, q1⟩
            rw [HR.out]
            rfl

end Qm
end Go.Proofs.Ytnjlfbcfnmdkkaa
