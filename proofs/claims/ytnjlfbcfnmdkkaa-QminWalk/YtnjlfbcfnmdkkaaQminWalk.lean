/- QminWalk holds: for every name, and every count and one below 16, a target is told label by label where it has at most count below what is known, and else in at most count steps, or as many as one says; at last the whole of it is asked. -/
import Derived.Test.YtnjlfbcfnmdkkaaQmF
import Derived.Test.YtnjlfbcfnmdkkaaQmG
import Derived.Test.YtnjlfbcfnmdkkaaQmH
namespace Go.Proofs.Ytnjlfbcfnmdkkaa.qminWalk
open Go.ChangeShapes Go.WideShapes Go.ChangeAt Go.RowKit
open Go.ChangeMaps (open_string shut_string)
open Pl

/-- What holds ahead of each question: K labels are known behind s of them. -/
structure At (n : ByteArray) (k : Nat) (c o : Int) (K s : Nat) (V : ByteArray) : Prop where
  list : V.data.toList = lastN (foldL n.data.toList) K
  top : K ≤ (labs n.data.toList).length
  low : k + s ≤ K
  lim : (s : Int) ≤ max c o
  one : ((labs n.data.toList).length : Int) - (k : Int) ≤ c → K = k + s

theorem At.step {n F : ByteArray} {k : Nat} {c o : Int} {K s : Nat} {V : ByteArray} (h : isName n.data.toList = true) (a : At n k c o K s V) (c1 : 0 ≤ c ∧ c ≤ 15) (o1 : 0 ≤ o ∧ o ≤ 15) :
    ∃ (K2 : Nat) (T : Int) (S : ByteArray), Qm.nextV ⟨n, 16, F, V, (s : Int), false, 0, 0⟩ c o = .tuple #[.agg #[.string S, .int .i64 T], .int .i64 0] ∧ S.data.toList = lastN (foldL n.data.toList) K2 ∧ K2 ≤ (labs n.data.toList).length ∧
      (K2 = (labs n.data.toList).length ∨ (K2 < (labs n.data.toList).length ∧ K < K2 ∧ At n k c o K2 (s + 1) S)) := by
  obtain ⟨l1, l2, l3, l4⟩ := Qm.last_fold_name h K a.top
  rw [← a.list] at l1 l2 l3 l4
  have h127 := few h
  have hab : aboveB V.data.toList n.data.toList = true := by rw [a.list]; exact Qm.last_above h K a.top
  have hlf : Qm.leftI ⟨n, 16, F, V, (s : Int), false, 0, 0⟩ = max 1 (((labs n.data.toList).length : Int) - (K : Int)) := by unfold Qm.leftI Qm.lN; simp only [l3]
  have a1 := a.top
  have a2 := a.low
  have a3 := a.lim
  have hyS : Qm.mayS (s : Int) (max 1 (((labs n.data.toList).length : Int) - (K : Int))) c o = true := Qm.mayS_iff.2 (by omega)
  have hyes : Qm.mayT ⟨n, 16, F, V, (s : Int), false, 0, 0⟩ c o = true := Qm.mayT_yes hab (by show (1 : Int) ≤ 16; decide) (by show (16 : Int) ≤ 65535; decide) (by rw [hlf]; exact hyS)
  obtain ⟨K2, Z, H⟩ := Qm.told_of hyes
  have hz : Qm.szI (s : Int) (max 1 (((labs n.data.toList).length : Int) - (K : Int))) c o = (Z : Int) := by
    have := H.size
    rw [hlf] at this
    rw [Qm.sizeV_yes hyS] at this
    simpa using this
  refine ⟨K2, Qm.typeI ⟨n, 16, F, V, (s : Int), false, 0, 0⟩ c o, Qm.lastB n K2, ?_, Qm.lastB_list _ _, H.top, ?_⟩
  · rw [Qm.nextV_yes hyes]
    unfold Qm.toldB
    rw [H.nam]
    rfl
  · rcases H.way with ⟨e, _⟩ | ⟨_, e, lt, _⟩
    · exact .inl e
    · right
      have e' : K2 = K + Z := by rw [← l3]; exact e
      have lt' : K2 < (labs n.data.toList).length := lt
      have z1 := H.z1
      have a4 := a.one
      unfold Qm.szI at hz
      split at hz
      · refine ⟨lt', by omega, Qm.lastB_list _ _, by omega, by omega, by omega, by omega⟩
      · split at hz
        · omega
        · refine ⟨lt', by omega, Qm.lastB_list _ _, by omega, by omega, by omega, ?_⟩
          intro hc
          have := a4 hc
          omega

/-- The task and the step in memory. -/
structure TS (w wx : World) (g g2 : Nat) (C : Array Value) (S : ByteArray) (T : Int) : Prop where
  task : Blk wx g C 23
  step : Blk wx g2 #[.string S, .int .i64 T] 30
  bel : Below w.heap.size w wx
theorem TS.past {w wx wy : World} {g g2 : Nat} {C : Array Value} {S : ByteArray} {T : Int} (h : TS w wx g g2 C S T) (hb : Below wx.heap.size wx wy) : TS w wy g g2 C S T := ⟨h.task.below hb, h.step.below hb, next h.bel hb⟩

set_option maxRecDepth 20000 in
set_option maxHeartbeats 4000000 in
theorem walk (n : ByteArray) (kn c0 o0 : Int) (hn : n.size ≤ maxLen) (_ : (Lit.int .i64 kn).wf = true) (_ : (Lit.int .i64 c0).wf = true) (_ : (Lit.int .i64 o0).wf = true) (w : World) :
    Calls Try.prog 5 #[.string n, .int .i64 kn, .int .i64 c0, .int .i64 o0] w fun e w' => e = .returned (.bool true) ∧ Below w.heap.size w w' := by
  cases hm : isName n.data.toList with
  | false =>
    go_enter Try.func5, Try.ntmps5
    go_wp2_with (first
      | (go_at_call 14; go_must (refine (Qm.awake_any _).mono ?_); rintro e w1 ⟨rfl, b1⟩)
      | (go_at_call 19; go_must (refine (refMay_as _ false _ hn hm).mono ?_); rintro e w2 ⟨rfl, b2⟩))
    go_ret
    exact ⟨rfl, next b1 b2⟩
  | true =>
    obtain ⟨A, hA⟩ : ∃ A, A = (labs n.data.toList).length := ⟨_, rfl⟩
    have hA127 : A ≤ 127 := by rw [hA]; exact few hm
    have HC : Hid (∀ u, Calls Try.prog 18 #[.string n] u fun e w' => e = .returned (.int .i64 (A : Int)) ∧ Below u.heap.size u w') := fun u => refCount_as _ A u hn (by rw [hA]; exact (enc_of hm).2.2.1)
    have hU : 0 ≤ IntKind.u64.wrap kn := by
      have : IntKind.u64.wrap kn = kn % 18446744073709551616 := by simp [IntKind.wrap, IntKind.bits, IntKind.signed]
      omega
    obtain ⟨R, hR⟩ : ∃ R : Nat, (IntKind.u64.wrap kn).tmod ((A : Int) + 1) = (R : Int) := ⟨((IntKind.u64.wrap kn).tmod ((A : Int) + 1)).toNat, by rw [Int.toNat_of_nonneg (Int.tmod_nonneg _ hU)]⟩
    have hRA : R ≤ A := by
      have := Int.tmod_lt_of_pos (IntKind.u64.wrap kn) (show (0 : Int) < (A : Int) + 1 by omega)
      omega
    have HRW : Hid (wrap64 ((IntKind.u64.wrap kn).tmod ((A : Int) + 1)) = (R : Int)) := by
      unfold Hid
      rw [hR]
      unfold wrap64
      omega
    obtain ⟨c, hc⟩ : ∃ c, c = c0 % 16 := ⟨_, rfl⟩
    have m3 : bits .and .i64 c0 15 = c := by rw [hc]; exact mask c0 4 (by decide)
    have c1 : 0 ≤ c ∧ c ≤ 15 := by omega
    obtain ⟨o, ho⟩ : ∃ o, o = o0 % 16 := ⟨_, rfl⟩
    have m4 : bits .and .i64 o0 15 = o := by rw [ho]; exact mask o0 4 (by decide)
    have o1 : 0 ≤ o ∧ o ≤ 15 := by omega
    obtain ⟨F, hF⟩ : ∃ F, F = Qm.foldB n := ⟨_, rfl⟩
    have hFl : F.data.toList = foldL n.data.toList := by rw [hF]; exact Qm.foldB_list n
    have hFn : isName F.data.toList = true := by rw [hFl, name_fold]; exact hm
    obtain ⟨G, hG⟩ : ∃ G, G = Qm.lastB n R := ⟨_, rfl⟩
    have hGl : G.data.toList = lastN (foldL n.data.toList) R := by rw [hG]; exact Qm.lastB_list n R
    have HLS : Hid (∀ u, Calls Try.prog 20 #[.string F, .int .i64 (R : Int)] u fun e w' => e = .returned (.tuple #[.string G, .int .i64 0]) ∧ Below u.heap.size u w') := fun u => Qm.refLast_as F R G u (Qm.big hFn) (by rw [last_yes hFn (by rw [hFl, Qm.labs_fold_len, ← hA]; exact hRA), hGl, hFl])
    have HFD : Hid (∀ u, Calls Try.prog 16 #[.string n] u fun e w' => e = .returned (.string F) ∧ Below u.heap.size u w') := fun u => refFold_as n F u hn (by rw [hF, Qm.foldB_list, foldR_yes hm])
    have HA : Hid (A = (labs n.data.toList).length) := hA
    have HG : Hid (At n R c o R 0 G) := ⟨hGl, by rw [← hA]; exact hRA, by omega, by omega, fun _ => rfl⟩
    clear hA hR hc ho hG hF hFl hFn hGl hU
    go_enter Try.func5, Try.ntmps5
    go_wp2_with (first
      | (go_at_call 14; go_must (refine (Qm.awake_any _).mono ?_); rintro e w1 ⟨rfl, b1⟩; have hb1 := b1; clear b1)
      | (go_at_call 19; go_must (refine (refMay_as _ true _ hn hm).mono ?_); rintro e w2 ⟨rfl, b2⟩; have hb2 := next hb1 b2; clear b2 hb1)
      | (go_at_call 18; go_must (refine (HC.out _).mono ?_); rintro e w3 ⟨rfl, b3⟩; have hb3 := next hb2 b3; clear b3 hb2)
      | (go_at_call 16; go_must (refine (HFD.out _).mono ?_); rintro e w4 ⟨rfl, b4⟩; have hb4 := next hb3 b4; clear b4 hb3)
      | (go_at_call 20; rw [HRW.out]; go_must (refine (HLS.out _).mono ?_); rintro e w5 ⟨rfl, b5⟩; have HB5 : Hid (Below w.heap.size w (w5.alloc (.cells #[.string n, .int .i64 16, .string G, .string G, .int .i64 0, .bool false, .int .i64 0, .int .i64 0] 23))) := lay (next hb4 b5) _; have HK5 : Hid (Blk (w5.alloc (.cells #[.string n, .int .i64 16, .string G, .string G, .int .i64 0, .bool false, .int .i64 0, .int .i64 0] 23)) w5.heap.size #[.string n, .int .i64 16, .string G, .string G, .int .i64 0, .bool false, .int .i64 0, .int .i64 0] 23) := Blk.new w5 _ _; have hg5 : w.heap.size ≤ w5.heap.size := (next hb4 b5).size; clear b5 hb4))
    revert HB5 HK5 hg5
    generalize w5.alloc (.cells #[.string n, .int .i64 16, .string G, .string G, .int .i64 0, .bool false, .int .i64 0, .int .i64 0] 23) = wa
    generalize w5.heap.size = g
    intro HB5 HK5 hg5
    have HGE : Hid (w.heap.size ≤ g) := hg5
    clear hg5 HRW HC HFD HLS
    go_loopw [16] (fun u wr => ∃ (K s : Nat) (V : ByteArray), u = .int .i64 (s : Int) ∧ At n R c o K s V ∧ Blk wr g #[.string n, .int .i64 16, .string G, .string V, .int .i64 (s : Int), .bool false, .int .i64 0, .int .i64 0] 23 ∧ Below w.heap.size w wr) (fun u _ => 200 - (intOf u).toNat)
    case atStart => exact ⟨R, 0, G, rfl, HG.out, HK5.out, HB5.out⟩
    case round =>
      clear HB5 HK5 HG
      obtain ⟨K, s, V, rfl, a, hk, hb⟩ := hrel
      have hA := HA.out
      obtain ⟨K2, T, S, hnx, hSl, hK2, hway⟩ := a.step (F := G) hm c1 o1
      obtain ⟨v1, v2, v3, v4⟩ := Qm.last_fold_name hm K a.top
      obtain ⟨l1, l2, l3, l4⟩ := Qm.last_fold_name hm K2 hK2
      rw [← a.list] at v1 v2 v3
      rw [← hSl] at l1 l2 l3
      have hSs := Qm.big l1
      have hVs := Qm.big v1
      have HNX : Hid (∀ u, Calls Try.prog 11 #[.agg #[.string n, .int .i64 16, .string G, .string V, .int .i64 (s : Int), .bool false, .int .i64 0, .int .i64 0], .int .i64 c, .int .i64 o] u fun e w' => e = .returned (.tuple #[.agg #[.string S, .int .i64 T], .int .i64 0]) ∧ Below u.heap.size u w') := fun u => Qm.next_as ⟨n, 16, G, V, (s : Int), false, 0, 0⟩ c o _ u hn hVs hnx
      have HC2 : Hid (∀ u, Calls Try.prog 18 #[.string V] u fun e w' => e = .returned (.int .i64 (K : Int)) ∧ Below u.heap.size u w') := fun u => refCount_as _ K u hVs v2
      have HC3 : Hid (∀ u, Calls Try.prog 18 #[.string S] u fun e w' => e = .returned (.int .i64 (K2 : Int)) ∧ Below u.heap.size u w') := fun u => refCount_as _ K2 u hSs l2
      have HSM : Hid (∀ u, Calls Try.prog 17 #[.string S, .string n] u fun e w' => e = .returned (.bool (decide (K2 = (labs n.data.toList).length))) ∧ Below u.heap.size u w') := fun u => refSame_as _ _ _ u hSs hn (by rw [hSl]; exact Qm.last_same hm K2 hK2)
      have a1 := a.top
      have a2 := a.low
      have a3 := a.lim
      have a4 := a.one
      rw [← hA] at a1 a4 hK2 hway
      have hs15 : (s : Int) ≤ 15 := by omega
      have hsA : decide (A < s) = false := by simp; omega
      have HST : Hid ((s : Int) ≤ max c o) := a3
      have HK : Hid (Blk wr g #[.string n, .int .i64 16, .string G, .string V, .int .i64 (s : Int), .bool false, .int .i64 0, .int .i64 0] 23) := hk
      have HB : Hid (Below w.heap.size w wr) := hb
      obtain ⟨q0, q1, q2, q3, q4, q5, q6, q7⟩ := Qm.tk8 hk
      clear hk hb a l1 l2 l3 l4 v1 v2 v3 v4 hSs hVs hSl hnx hA
      rcases hway with hK2A | ⟨hlt, hKK, aN⟩
      · have HS2 : Hid (∀ u, Calls Try.prog 17 #[.string S, .string n] u fun e w' => e = .returned (.bool true) ∧ Below u.heap.size u w') := fun u => by have := HSM.out u; rw [show decide (K2 = (labs n.data.toList).length) = true from by rw [← HA.out]; simpa using hK2A] at this; exact this
        clear hK2A HSM a1 a2 a3 a4 hK2
        go_wp2_with (first
          | (go_at_call 11; go_must (refine (HNX.out _).mono ?_); rintro e w2 ⟨rfl, b2⟩; have HT2 : Hid (TS w (w2.alloc (.cells #[.string S, .int .i64 T] 30)) g w2.heap.size #[.string n, .int .i64 16, .string G, .string V, .int .i64 (s : Int), .bool false, .int .i64 0, .int .i64 0] S T) := ⟨(HK.out.below b2).alloc _, Blk.new w2 _ _, lay (next HB.out b2) _⟩; have s0 : (w2.alloc (.cells #[.string S, .int .i64 T] 30)).cell? ⟨w2.heap.size, 0, none⟩ = some (.string S) := HT2.out.step.cell 0; clear b2 HB HK q0 q1 q2 q3 q4 q5 q6 q7)
          | (go_at_call 17; go_must (refine (HS2.out _).mono ?_); rintro e w4 ⟨rfl, b4⟩; have HT4 := HT2.out.past b4; clear b4 s0)
          | (go_at_call 13; refine (num_any _ _).mono ?_; rintro e w' ⟨rfl, hw⟩; obtain rfl := hw.symm))
        all_goals go_ret
        all_goals exact ⟨ret_bool (by have := HST.out; simp; omega), HT4.bel⟩
      · have HS2 : Hid (∀ u, Calls Try.prog 17 #[.string S, .string n] u fun e w' => e = .returned (.bool false) ∧ Below u.heap.size u w') := fun u => by have := HSM.out u; rw [show decide (K2 = (labs n.data.toList).length) = false from by rw [← HA.out]; simp; omega] at this; exact this
        have HN : Hid (At n R c o K2 (s + 1) S) := aN
        have b4 := aN.one
        have b3 := aN.lim
        rw [← HA.out] at b4
        have h127 : K2 ≤ 127 := by omega
        have hK127 : K ≤ 127 := by omega
        have hlow : decide ((K2 : Int) - (K : Int) < 1) = false := by simp; omega
        have HM : Hid (∀ (_ : (A : Int) - (R : Int) ≤ c), ((K2 : Int) - (K : Int) == 1) = true) := fun h => by have := b4 h; have := a4 h; simp; omega
        clear HSM a1 a2 a3 a4 hK2 b3 b4 aN hlt hKK
        go_wp2_with (first
          | (go_at_call 11; go_must (refine (HNX.out _).mono ?_); rintro e w2 ⟨rfl, b2⟩; have HT2 : Hid (TS w (w2.alloc (.cells #[.string S, .int .i64 T] 30)) g w2.heap.size #[.string n, .int .i64 16, .string G, .string V, .int .i64 (s : Int), .bool false, .int .i64 0, .int .i64 0] S T) := ⟨(HK.out.below b2).alloc _, Blk.new w2 _ _, lay (next HB.out b2) _⟩; have s0 : (w2.alloc (.cells #[.string S, .int .i64 T] 30)).cell? ⟨w2.heap.size, 0, none⟩ = some (.string S) := HT2.out.step.cell 0; clear b2 HB HK q0 q1 q2 q3 q4 q5 q6 q7)
          | (go_at_call 17; go_must (refine (HS2.out _).mono ?_); rintro e w4 ⟨rfl, b4⟩; have HT4 : Hid (TS w w4 g w2.heap.size #[.string n, .int .i64 16, .string G, .string V, .int .i64 (s : Int), .bool false, .int .i64 0, .int .i64 0] S T) := HT2.out.past b4; clear b4 s0 HT2)
          | (go_at_call 13; refine (num_any _ _).mono ?_; rintro e w' ⟨rfl, hw⟩; obtain rfl := hw.symm))
        revert HT4
        generalize w2.heap.size = g2
        intro HT4
        have e3 : ∀ nb : Bel w4, nb.to.cell? ⟨g, 3, none⟩ = some (.string V) := fun nb => (HT4.out.past nb.h).task.cell 3
        have s0 : ∀ nb : Bel w4, nb.to.cell? ⟨g2, 0, none⟩ = some (.string S) := fun nb => (HT4.out.past nb.h).step.cell 0
        refine wp_region_bel (by kernel_rfl) (by kernel_rfl) (fun _ => ?_)
        repeat (go_big_quiet_step (first
          | (go_at_call_of 18 (#[Value.string S]); go_must (exact bel_lays (HC3.out _)))
          | (go_at_call_of 18 (#[Value.string V]); go_must (exact bel_lays (HC2.out _)))))
        refine wpQuiet_nil ?_
        intro w5 hw5
        have HT5 : Hid (TS w w5 g g2 #[.string n, .int .i64 16, .string G, .string V, .int .i64 (s : Int), .bool false, .int .i64 0, .int .i64 0] S T) := HT4.out.past (bel_out hw5)
        clear HT4 hw5 e3 s0
        have s0 : w5.cell? ⟨g2, 0, none⟩ = some (.string S) := HT5.out.step.cell 0
        have fz3 := HT5.out.task.frozen 3
        have fc3 : w5.cell? ⟨g, 3, none⟩ = some (.string V) := HT5.out.task.cell 3
        have hk6 : Blk (w5.setCell ⟨g, 3, none⟩ (.string S)) g #[.string n, .int .i64 16, .string G, .string S, .int .i64 (s : Int), .bool false, .int .i64 0, .int .i64 0] 23 := HT5.out.task.set 3 (.string S)
        have fz4 := hk6.frozen 4
        have fc4 : (w5.setCell ⟨g, 3, none⟩ (.string S)).cell? ⟨g, 4, none⟩ = some (.int .i64 (s : Int)) := hk6.cell 4
        have HK7 : Hid (Blk ((w5.setCell ⟨g, 3, none⟩ (.string S)).setCell ⟨g, 4, none⟩ (.int .i64 ((s : Int) + 1))) g #[.string n, .int .i64 16, .string G, .string S, .int .i64 ((s : Int) + 1), .bool false, .int .i64 0, .int .i64 0] 23) := hk6.set 4 (.int .i64 ((s : Int) + 1))
        have HB7 : Hid (Below w.heap.size w ((w5.setCell ⟨g, 3, none⟩ (.string S)).setCell ⟨g, 4, none⟩ (.int .i64 ((s : Int) + 1)))) := (HT5.out.bel.setCell (p := ⟨g, 3, none⟩) HGE.out (.string S)).setCell (p := ⟨g, 4, none⟩) HGE.out (.int .i64 ((s : Int) + 1))
        clear hk6
        by_cases hac : (A : Int) - (R : Int) ≤ c
        · have hm1 := HM.out hac
          go_wp2
          go_roundw
          case rel => exact ⟨K2, s + 1, S, by go_num, HN.out, HK7.out, HB7.out⟩
          case measure => simp [intOf]; omega
        · have hac' : decide ((A : Int) - (R : Int) ≤ c) = false := by simpa using hac
          clear hac
          go_wp2
          go_roundw
          case rel => exact ⟨K2, s + 1, S, by go_num, HN.out, HK7.out, HB7.out⟩
          case measure => simp [intOf]; omega

theorem own : ownKnob Try.prog.godebug = none := by kernel_rfl

set_option maxRecDepth 100000 in
theorem lifted (os : Os) (started : os.Started) (H : Type) (enc : TypeId × Value → H) :
    ReturnsInHanded {} Try.checked os 5 .any (Rows.qminWalkSpec.pre6 enc Try.prog Try.f5 Rows.qminWalkRow.domain false) (Rows.qminWalkSpec.post enc Try.prog Try.f5 false true false false) := by
  refine returnsInHanded_of_change (C := Try.checked) own started (by kernel_rfl) Try.func5
    (ChangeSpec.witness6 (enc := enc) (C := Try.checked) false ⟨#[], #[.string ByteArray.empty, .int .i64 0, .int .i64 0, .int .i64 0], []⟩ 8 (by kernel_rfl) (by kernel_rfl) (by kernel_rfl) (by kernel_rfl)) ?_
  intro W base args ds gs before hval0 hW _ _
  have hval : ∀ (j : Nat) t v, Try.f5.params[j]? = some t → args[j]? = some v → Value.okWide Try.prog W .any base t v := hval0
  have hW' := hW
  obtain ⟨p, q, hA0, hV, rfl, hfz, hnd⟩ := hW
  have hA : DataW.TrodAll enc Try.prog W 0 (fun _ => true) true Try.f5.params.toList args.toList ds p := hA0
  rw [Try.params5] at hA hval
  obtain ⟨v0, vs0, d0, ds0, p0, q0, hargs, rfl, rfl, h0, r0⟩ := trodAll_cons hA
  obtain ⟨v1, vs1, d1, ds1, p1, q1, rfl, rfl, rfl, h1, r1⟩ := trodAll_cons r0
  obtain ⟨v2, vs2, d2, ds2, p2, q2, rfl, rfl, rfl, h2, r2⟩ := trodAll_cons r1
  obtain ⟨v3, vs3, d3, ds3, p3, q3, rfl, rfl, rfl, h3, r3⟩ := trodAll_cons r2
  obtain ⟨rfl, rfl, rfl⟩ := trodAll_nil r3
  obtain rfl : args = #[v0, v1, v2, v3] := by cases args; simp_all
  obtain ⟨rfl, rfl⟩ := trodVars_none hV
  obtain ⟨a0, rfl, rfl, rfl, w0⟩ := open_string Try.underlying9 (hval 0 9 v0 rfl rfl) h0
  obtain ⟨a1, rfl, rfl, rfl, w1⟩ := open_int Try.underlying3 (hval 1 3 v1 rfl rfl) h1
  obtain ⟨a2, rfl, rfl, rfl, w2⟩ := open_int Try.underlying3 (hval 2 3 v2 rfl rfl) h2
  obtain ⟨a3, rfl, rfl, rfl, w3⟩ := open_int Try.underlying3 (hval 3 3 v3 rfl rfl) h3
  clear hA0 hval0
  simp only [List.append_nil] at hW'
  refine (walk a0 a1 a2 a3 w0 w1 w2 w3 W ).mono fun e W' ⟨he, bel⟩ => ?_
  subst he
  exact ⟨_, rfl, _, _, _, [], [], [], hW', trodAll_mk1 (shut_bool Try.underlying4 _), (trodAll_cons_mk (shut_string Try.underlying9 w0) (trodAll_cons_mk (shut_int Try.underlying3 w1) (trodAll_cons_mk (shut_int Try.underlying3 w2) (trodAll_cons_mk (shut_int Try.underlying3 w3) trodAll_mk0)))), rfl, bel.frame _, fun h => by cases h⟩

/-- The statement. -/
theorem proved : Rows.QminWalkSaid :=
  OpenClaim.holds_of_wide 5 Try.f5 rfl rfl rfl rfl rfl rfl rfl ⟨rfl, rfl, rfl, rfl, rfl⟩ rfl rfl rfl rfl rfl (by kernel_rfl) Try.func5 (by kernel_rfl)
    (of_decide_eq_true (by kernel_rfl)) (by unfold Func.isWrapper; first | (rw [if_pos (by decide +kernel)]; kernel_rfl) | (rw [if_neg (by decide +kernel)]; exact ⟨rfl, rfl⟩))
    (fun os started H enc _ => lifted os started H enc)
#print axioms proved


end Go.Proofs.Ytnjlfbcfnmdkkaa.qminWalk
