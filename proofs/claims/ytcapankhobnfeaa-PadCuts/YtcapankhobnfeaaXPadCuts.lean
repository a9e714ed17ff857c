/- PadCuts holds: for every name, number of answers and room, an answer that is too long is told without its parts, then without padding, then not at all, and is as long as the document asks. -/
import Derived.Test.YtcapankhobnfeaaXP14
import Derived.Test.YtcapankhobnfeaaXPgA
import Derived.ProofKit
import Derived.OpenShut
import Derived.ShutString
import Derived.SizedLaws
namespace Go.Proofs.Ytcapankhobnfeaa.padCuts
open Go.ChangeShapes Go.WideShapes Go.ChangeAt Go.RowKit
open Go.ChangeMaps (open_string shut_string)
open Pl

theorem and_two (x : UInt8) (h : x.toNat / 2 % 2 = 1) : bits .and .u8 (x.toNat : Int) 2 = 2 := by
  have : ∀ y : Fin 256, y.val / 2 % 2 = 1 → bits .and .u8 (y.val : Int) 2 = 2 := by decide +kernel
  exact this ⟨x.toNat, x.toNat_lt⟩ h
/-- How far the message is. -/
structure CT (w u : World) (gq gm : Nat) (n : ByteArray) (j : Nat) (y : Option Addr) (c : Nat) : Prop where
  below : Below w.heap.size w u
  msg : Blk u gm #[.int .i64 0, .bool true, .int .i64 0, .bool false, .bool false, .bool false, .bool false, .int .i64 0, .int .i64 0, .slice (some ⟨gq, 0, none⟩) 1 1, .slice y j c, .slice none 0 0, .slice none 0 0] 29
  que : Blk u gq #[.string n, .int .i64 1, .int .i64 1] 46
  own : u.ownsRow (gm + 1) 54 5 (.slice y j c) j (rC (List.replicate j (cR n)))
  lt : gq < gm
  lo : w.heap.size ≤ gm
theorem CT.past {w u u' : World} {gq gm : Nat} {n : ByteArray} {j : Nat} {y : Option Addr} {c : Nat} (h : CT w u gq gm n j y c) (b : Below u.heap.size u u') : CT w u' gq gm n j y c :=
  ⟨next h.below b, h.msg.below b, h.que.below b, own_past h.own b, h.lt, h.lo⟩
theorem ct_new {w w2 : World} {n : ByteArray} (hb : Below w.heap.size w w2) : CT w ((w2.alloc (.cells #[.string n, .int .i64 1, .int .i64 1] 46)).alloc (.cells #[.int .i64 0, .bool true, .int .i64 0, .bool false, .bool false, .bool false, .bool false, .int .i64 0, .int .i64 0, .slice (some ⟨w2.heap.size, 0, none⟩) 1 1, .slice none 0 0, .slice none 0 0, .slice none 0 0] 29)) w2.heap.size (w2.heap.size + 1) n 0 none 0 := by
  have k := Blk.new (w2.alloc (.cells #[.string n, .int .i64 1, .int .i64 1] 46)) #[.int .i64 0, .bool true, .int .i64 0, .bool false, .bool false, .bool false, .bool false, .int .i64 0, .int .i64 0, .slice (some ⟨w2.heap.size, 0, none⟩) 1 1, .slice none 0 0, .slice none 0 0, .slice none 0 0] 29
  rw [World.size_alloc] at k
  exact ⟨lay (lay hb _) _, k, (Blk.new w2 _ _).alloc _, World.ownsRow_nil _ _ _ _, by omega, by have := hb.size; omega⟩
/-- One record more. -/
theorem CT.step {w u u' : World} {gq gm : Nat} {n : ByteArray} {j : Nat} {y y' : Option Addr} {c c' : Nat} (h : CT w u gq gm n j y c) (o : u'.ownsRow (gm + 1) 54 5 (.slice y' (j + 1) c') (j + 1) (rC (List.replicate j (cR n)) ++ rC [cR n])) (g : (u.alloc (.cells #[.string n, .int .i64 1, .int .i64 1, .int .i64 0, .string abcd] 54)).grownBy u' (Value.slice y j c).ownBlock) :
    Blk u' gm #[.int .i64 0, .bool true, .int .i64 0, .bool false, .bool false, .bool false, .bool false, .int .i64 0, .int .i64 0, .slice (some ⟨gq, 0, none⟩) 1 1, .slice y j c, .slice none 0 0, .slice none 0 0] 29 ∧ CT w (u'.setCell ⟨gm, 10, none⟩ (.slice y' (j + 1) c')) gq gm n (j + 1) y' c' := by
  have ne : ∀ i, i ≤ gm → some i ≠ (Value.slice y j c).ownBlock := fun i hi e => by
    have := (h.own.lt i e.symm).1
    omega
  have k1 := (h.msg.alloc (.cells #[.string n, .int .i64 1, .int .i64 1, .int .i64 0, .string abcd] 54)).grown g (ne _ (Nat.le_refl _))
  have k2 := (h.que.alloc (.cells #[.string n, .int .i64 1, .int .i64 1, .int .i64 0, .string abcd] 54)).grown g (ne _ (Nat.le_of_lt h.lt))
  have hb := lay h.below (.cells #[.string n, .int .i64 1, .int .i64 1, .int .i64 0, .string abcd] 54)
  have hb2 := hb.grown g hb.size (fun i e => by have := (h.own.lt i e).1; have := h.lo; omega)
  have e : rC (List.replicate j (cR n)) ++ rC [cR n] = rC (List.replicate (j + 1) (cR n)) := by rw [← rC_app, List.replicate_succ']
  rw [e] at o
  exact ⟨k1, ⟨setCell_below hb2 h.lo 10 _, k1.set 10 _, k2.other (Nat.ne_of_lt h.lt) 10 _, row_put o (Nat.lt_succ_self _) 10 _, h.lt, h.lo⟩⟩
theorem CT.rows {w u : World} {gq gm : Nat} {n : ByteArray} {j : Nat} {y : Option Addr} {c : Nat} (h : CT w u gq gm n j y c) (hn : n.size ≤ 255) (hj : j ≤ 31) : QRow u (.slice (some ⟨gq, 0, none⟩) 1 1) (cM n j).qs ∧ RRow u (.slice y j c) (cM n j).an ∧ RRow u (.slice none 0 0) (cM n j).ns ∧ RRow u (.slice none 0 0) (cM n j).ar := by
  refine ⟨qrow_lit (q := ⟨n, 1, 1⟩) h.que (by simp only; omega), ⟨?_, ?_, fun r hr => ?_⟩, RRow.nil _, RRow.nil _⟩
  · show Row u _ (List.replicate j (cR n)).length _
    rw [List.length_replicate]
    exact Row.of_own h.own
  · show (List.replicate j (cR n)).length ≤ _
    rw [List.length_replicate]
    exact small100 (by omega)
  · obtain ⟨_, rfl⟩ := List.mem_replicate.1 hr
    exact ⟨small100 (by show n.size ≤ _; omega), small100 (by show 4 ≤ _; decide)⟩

set_option maxRecDepth 20000 in
set_option maxHeartbeats 4000000 in
theorem w_yes (n : ByteArray) (many most : Int) (k b : Nat) (hk : bits .and .i64 many 31 = (k : Int)) (hb' : bits .and .i64 most 1023 = (b : Int)) (hK : k ≤ 31) (hB : b ≤ 1023) (hs : n.size ≤ maxLen) (hn : isName n.data.toList = true) (h1 : n.data.toList ≠ [0]) (w : World) :
    Calls Try.prog 7 #[.string n, .int .i64 many, .int .i64 most] w fun e w' => e = .returned (.bool true) ∧ Below w.heap.size w w' := by
  obtain ⟨i0, hi, hz0, hz1, hz2⟩ := info_parts infoR'
  have hne : (n.toList == [0]) = false := by rw [ByteArray.toList_eq]; simpa using h1
  have h255 := (name_some hn).1
  rw [data_len] at h255
  have MY := fun u => refMay_at n true u hs hn
  obtain ⟨p1, p2, p3⟩ := cut_plain hn h1 hK (b : Int)
  obtain ⟨A, hA⟩ : ∃ A, A = (16 + n.size + 16 * k + 15 + 467) / 468 * 468 := ⟨_, rfl⟩
  obtain ⟨C, hC⟩ : ∃ C, C = (16 + n.size + 15 + 467) / 468 * 468 := ⟨_, rfl⟩
  obtain ⟨q1, q2, q3, q4⟩ := cut_opt hn h1 hK (b : Int) hA hC
  have A1 : ∀ (u : World) (gq gm : Nat) (y : Option Addr) (c : Nat), CT w u gq gm n k y c → _ := fun u gq gm y c h => answer_any (cM n k) false (b : Int) _ _ _ _ _ _ u (h.rows h255 hK).1 (h.rows h255 hK).2.1 (h.rows h255 hK).2.2.1 (h.rows h255 hK).2.2.2 rfl rfl
  have A2 : ∀ (u : World) (gq gm : Nat) (y : Option Addr) (c : Nat), CT w u gq gm n k y c → _ := fun u gq gm y c h => answer_any (cM n k) true (b : Int) _ _ _ _ _ _ u (h.rows h255 hK).1 (h.rows h255 hK).2.1 (h.rows h255 hK).2.2.1 (h.rows h255 hK).2.2.2 rfl rfl
  obtain ⟨T1, hT1⟩ : ∃ T, T = ansT (cM n k) false (b : Int) := ⟨_, rfl⟩
  obtain ⟨E1, hE1⟩ : ∃ E, E = ansE (cM n k) false (b : Int) := ⟨_, rfl⟩
  obtain ⟨T2, hT2⟩ : ∃ T, T = ansT (cM n k) true (b : Int) := ⟨_, rfl⟩
  obtain ⟨E2, hE2⟩ : ∃ E, E = ansE (cM n k) true (b : Int) := ⟨_, rfl⟩
  rw [← hT1, ← hE1] at A1
  rw [← hT2, ← hE2] at A2
  rw [← hT1, ← hE1] at p2
  rw [← hT1, ← hE1] at p1
  rw [← hE1] at p3
  rw [← hT2, ← hE2] at q1 q2 q3 q4
  unfold msgC cM at A1 A2
  simp only at A1 A2
  obtain ⟨N, hN⟩ : ∃ N, N = n.size := ⟨_, rfl⟩
  rw [← hN] at p1 p2 p3 q3 q4 hA hC h255
  have hNi : (n.size : Int) = (N : Int) := by omega
  have HP1 : Hid (((16 + N + 16 * k : Nat) : Int) ≤ (b : Int) → E1 = 0 ∧ T1.size = 16 + N + 16 * k) := p1
  have HP2 : Hid (¬ ((16 + N + 16 * k : Nat) : Int) ≤ (b : Int) → ((16 + N : Nat) : Int) ≤ (b : Int) → E1 = 0 ∧ T1.size = 16 + N ∧ ∃ hl : 2 < T1.size, T1[2].toNat / 2 % 2 = 1) := p2
  have HP3 : Hid (¬ ((16 + N + 16 * k : Nat) : Int) ≤ (b : Int) → ¬ ((16 + N : Nat) : Int) ≤ (b : Int) → E1 = 1001) := p3
  have HQ1 : Hid ((A : Int) ≤ (b : Int) → E2 = 0 ∧ T2.size = A) := q1
  have HQ2 : Hid (¬ (A : Int) ≤ (b : Int) → (C : Int) ≤ (b : Int) → E2 = 0 ∧ T2.size = C) := q2
  have HQ3 : Hid (¬ (A : Int) ≤ (b : Int) → ¬ (C : Int) ≤ (b : Int) → ((16 + N + 11 : Nat) : Int) ≤ (b : Int) → E2 = 0 ∧ T2.size = 16 + N + 11) := q3
  have HQ4 : Hid (¬ (A : Int) ≤ (b : Int) → ¬ (C : Int) ≤ (b : Int) → ¬ ((16 + N + 11 : Nat) : Int) ≤ (b : Int) → E2 = 1001 ∧ T2 = ⟨#[]⟩) := q4
  have HAC : Hid (A = (16 + N + 16 * k + 15 + 467) / 468 * 468 ∧ C = (16 + N + 15 + 467) / 468 * 468) := ⟨hA, hC⟩
  have hbb : Below w.heap.size w w := Below.refl _ _
  have HLA : Hid ((rC [cR n]).length = 1 * 5) := rfl
  clear hA hC p1 p2 p3 q1 q2 q3 q4 hT1 hE1 hT2 hE2 hN hn h1
  go_enter Try.func7, Try.ntmps7
  go_wp2_with (first
    | (go_at_call 18; go_must (refine (awake_any _).mono ?_); rintro e w0 ⟨rfl, bb⟩; replace hbb := next hbb bb; clear bb)
    | (go_at_call 24; go_must (refine (MY _).mono ?_); rintro e w1 ⟨rfl, bb⟩; replace hbb := next hbb bb; clear bb))
  go_loopw [9] (fun i wr => ∃ (j : Nat) (y : Option Addr) (c : Nat), j ≤ k ∧ i = .int .i64 (j : Int) ∧ Hid (CT w wr w1.heap.size (w1.heap.size + 1) n j y c)) (fun i _ => k - (intOf i).toNat)
  case atStart => exact ⟨0, none, 0, Nat.zero_le _, rfl, ct_new hbb⟩
  case round =>
    clear hbb
    obtain ⟨j, y, c, hj, rfl, HC⟩ := hrel
    by_cases hjk : j < k
    · have hjk' : (j : Int) < (k : Int) := by omega
      have m10 : wr.cell? ⟨w1.heap.size + 1, 10, none⟩ = some (.slice y j c) := HC.out.msg.cell 10
      have LIT : Row (wr.alloc (.cells #[.string n, .int .i64 1, .int .i64 1, .int .i64 0, .string ⟨#[97, 98, 99, 100]⟩] 54)) (.slice (some ⟨wr.heap.size, 0, none⟩) 1 1) 1 (rC [cR n]) := Row.of_blk (Blk.new wr _ _) rfl 1 1
      have OWN : Hid ((wr.alloc (.cells #[.string n, .int .i64 1, .int .i64 1, .int .i64 0, .string ⟨#[97, 98, 99, 100]⟩] 54)).ownsRow (w1.heap.size + 1 + 1) 54 5 (.slice y j c) j (rC (List.replicate j (cR n)))) := HC.out.own.alloc _
      have hsz : w1.heap.size + 1 + 1 ≤ (wr.alloc (.cells #[.string n, .int .i64 1, .int .i64 1, .int .i64 0, .string ⟨#[97, 98, 99, 100]⟩] 54)).heap.size := by have := HC.out.msg.lt; rw [World.size_alloc]; omega
      have ST : Hid (∀ {v5 : Value} {w5 : World}, w5.ownsRow (w1.heap.size + 1 + 1) 54 5 v5 (j + 1) (rC (List.replicate j (cR n)) ++ rC [cR n]) → (wr.alloc (.cells #[.string n, .int .i64 1, .int .i64 1, .int .i64 0, .string ⟨#[97, 98, 99, 100]⟩] 54)).grownBy w5 (Value.slice y j c).ownBlock → ∃ y5 c5, v5 = .slice y5 (j + 1) c5 ∧ w5.cell? ⟨w1.heap.size + 1, 10, none⟩ = some (.slice y j c) ∧ w5.frozen? ⟨w1.heap.size + 1, 10, none⟩ = false ∧ Hid (CT w (w5.setCell ⟨w1.heap.size + 1, 10, none⟩ (.slice y5 (j + 1) c5)) w1.heap.size (w1.heap.size + 1) n (j + 1) y5 c5)) := fun {v5 w5} o g => by
        obtain ⟨y5, c5, rfl⟩ := row_shape o
        obtain ⟨a1, a2⟩ := HC.out.step o g
        exact ⟨y5, c5, rfl, a1.cell 10, a1.frozen 10, a2⟩
      go_wp2_with (at_builtin; refine wpList_appG _ rfl (.tmp 42) (.tmp 45) 27 54 i0 _ 5 56 Try.underlying27 hi hz0 hz1 hz2 rfl (by decide) rfl (w1.heap.size + 1 + 1) _ j (rC (List.replicate j (cR n))) rfl OWN.out (.slice (some ⟨wr.heap.size, 0, none⟩) 1 1) 1 (rC [cR n]) rfl LIT HLA.out (rC_one _) (by omega) (by unfold maxLen; omega) hsz ?_; intro v5 w5 o5 g5 _; obtain ⟨y5, c5, rfl, z10, f10, HN5⟩ := ST.out o5 g5; clear o5 g5 m10)
      go_roundw
      case rel => exact ⟨j + 1, y5, c5, by omega, by go_num, HN5⟩
      case measure => simp [intOf]; omega
    · have hjk' : ¬ (j : Int) < (k : Int) := by omega
      have hjk2 : decide (j < k) = false := by simpa using hjk
      have e : k = j := by omega
      subst e
      clear hj hjk MY
      obtain ⟨d0, d1, d2, d3, d4, d5, d6, d7, d8, d9, d10, d11, d12⟩ := blk13 (h := ⟨0, true, 0, false, false, false, false, 0, 0⟩) HC.out.msg
      simp only at d0 d1 d2 d3 d4 d5 d6 d7 d8
      obtain ⟨X, hX⟩ : ∃ X : Int, X = (16 + (N : Int) + 16 * (k : Int) + 15 + 467) / 468 := ⟨_, rfl⟩
      obtain ⟨Y, hY⟩ : ∃ Y : Int, Y = (16 + (N : Int) + 15 + 467) / 468 := ⟨_, rfl⟩
      have x1 : (16 + (N : Int) + 16 * (k : Int) + 15 + 467) / 468 = X := hX.symm
      have y1 : (16 + (N : Int) + 15 + 467) / 468 = Y := hY.symm
      have xb : 1 ≤ X ∧ X ≤ 4 := by omega
      have yb : 1 ≤ Y ∧ Y ≤ 4 := by omega
      have HA : Hid ((A : Int) = X * 468 ∧ (C : Int) = Y * 468) := by unfold Hid; have := HAC.out; omega
      have t1 : True := trivial
      clear hX hY
      by_cases g1 : 16 + (N : Int) + 16 * (k : Int) ≤ (b : Int)
      · obtain ⟨e1, z1⟩ := HP1.out (by omega)
        have s1 : (T1.size : Int) = 16 + (N : Int) + 16 * (k : Int) := by omega
        subst e1
        clear z1 HP1 HP2 HP3
        by_cases h1 : X * 468 ≤ (b : Int)
        · obtain ⟨e2, z2⟩ := HQ1.out (by have := HA.out; omega)
          have z3 : (T2.size : Int) = X * 468 := by have := HA.out; omega
          subst e2
          clear z2
          go_wp2_with (first
            | (go_at_call 12; have _t := t1; go_must (refine (A1 _ _ _ _ _ HC.out).mono ?_); rintro e w6 ⟨rfl, bb⟩; have HC6 : Hid (CT w w6 w1.heap.size (w1.heap.size + 1) n k y c) := HC.out.past bb; clear d0 d1 d2 d3 d4 d5 d6 d7 d8 d9 d10 d11 d12; obtain ⟨d0, d1, d2, d3, d4, d5, d6, d7, d8, d9, d10, d11, d12⟩ := blk13 (h := ⟨0, true, 0, false, false, false, false, 0, 0⟩) (HC6.out.msg); simp only at d0 d1 d2 d3 d4 d5 d6 d7 d8; clear bb t1 _t)
            | (go_at_call 12; go_must (refine (A2 _ _ _ _ _ HC6.out).mono ?_); rintro e w7 ⟨rfl, bb⟩; have hbz := next HC6.out.below bb; clear bb)
            | (go_at_call 14; refine (num_any _ _).mono ?_; rintro e w' ⟨rfl, hw⟩; obtain rfl := hw.symm))
          all_goals go_ret
          all_goals exact ⟨ret_bool (by simp), hbz⟩
        by_cases h2 : Y * 468 ≤ (b : Int)
        · obtain ⟨e2, z2⟩ := HQ2.out (by have := HA.out; omega) (by have := HA.out; omega)
          have z3 : (T2.size : Int) = Y * 468 := by have := HA.out; omega
          subst e2
          clear z2
          go_wp2_with (first
            | (go_at_call 12; have _t := t1; go_must (refine (A1 _ _ _ _ _ HC.out).mono ?_); rintro e w6 ⟨rfl, bb⟩; have HC6 : Hid (CT w w6 w1.heap.size (w1.heap.size + 1) n k y c) := HC.out.past bb; clear d0 d1 d2 d3 d4 d5 d6 d7 d8 d9 d10 d11 d12; obtain ⟨d0, d1, d2, d3, d4, d5, d6, d7, d8, d9, d10, d11, d12⟩ := blk13 (h := ⟨0, true, 0, false, false, false, false, 0, 0⟩) (HC6.out.msg); simp only at d0 d1 d2 d3 d4 d5 d6 d7 d8; clear bb t1 _t)
            | (go_at_call 12; go_must (refine (A2 _ _ _ _ _ HC6.out).mono ?_); rintro e w7 ⟨rfl, bb⟩; have hbz := next HC6.out.below bb; clear bb)
            | (go_at_call 14; refine (num_any _ _).mono ?_; rintro e w' ⟨rfl, hw⟩; obtain rfl := hw.symm))
          all_goals go_ret
          all_goals exact ⟨ret_bool (by simp), hbz⟩
        by_cases h3 : 16 + (N : Int) + 11 ≤ (b : Int)
        · obtain ⟨e2, z2⟩ := HQ3.out (by have := HA.out; omega) (by have := HA.out; omega) (by omega)
          have z3 : (T2.size : Int) = 16 + (N : Int) + 11 := by omega
          subst e2
          clear z2
          go_wp2_with (first
            | (go_at_call 12; have _t := t1; go_must (refine (A1 _ _ _ _ _ HC.out).mono ?_); rintro e w6 ⟨rfl, bb⟩; have HC6 : Hid (CT w w6 w1.heap.size (w1.heap.size + 1) n k y c) := HC.out.past bb; clear d0 d1 d2 d3 d4 d5 d6 d7 d8 d9 d10 d11 d12; obtain ⟨d0, d1, d2, d3, d4, d5, d6, d7, d8, d9, d10, d11, d12⟩ := blk13 (h := ⟨0, true, 0, false, false, false, false, 0, 0⟩) (HC6.out.msg); simp only at d0 d1 d2 d3 d4 d5 d6 d7 d8; clear bb t1 _t)
            | (go_at_call 12; go_must (refine (A2 _ _ _ _ _ HC6.out).mono ?_); rintro e w7 ⟨rfl, bb⟩; have hbz := next HC6.out.below bb; clear bb)
            | (go_at_call 14; refine (num_any _ _).mono ?_; rintro e w' ⟨rfl, hw⟩; obtain rfl := hw.symm))
          all_goals go_ret
          all_goals exact ⟨ret_bool (by simp), hbz⟩
        · obtain ⟨e2, z2⟩ := HQ4.out (by have := HA.out; omega) (by have := HA.out; omega) (by omega)
          subst e2 z2
          go_wp2_with (first
            | (go_at_call 12; have _t := t1; go_must (refine (A1 _ _ _ _ _ HC.out).mono ?_); rintro e w6 ⟨rfl, bb⟩; have HC6 : Hid (CT w w6 w1.heap.size (w1.heap.size + 1) n k y c) := HC.out.past bb; clear d0 d1 d2 d3 d4 d5 d6 d7 d8 d9 d10 d11 d12; obtain ⟨d0, d1, d2, d3, d4, d5, d6, d7, d8, d9, d10, d11, d12⟩ := blk13 (h := ⟨0, true, 0, false, false, false, false, 0, 0⟩) (HC6.out.msg); simp only at d0 d1 d2 d3 d4 d5 d6 d7 d8; clear bb t1 _t)
            | (go_at_call 12; go_must (refine (A2 _ _ _ _ _ HC6.out).mono ?_); rintro e w7 ⟨rfl, bb⟩; have hbz := next HC6.out.below bb; clear bb)
            | (go_at_call 14; refine (num_any _ _).mono ?_; rintro e w' ⟨rfl, hw⟩; obtain rfl := hw.symm))
          all_goals go_ret
          all_goals exact ⟨ret_bool (by simp), hbz⟩
      by_cases g2 : 16 + (N : Int) ≤ (b : Int)
      · obtain ⟨e1, z1, hl, hbit⟩ := HP2.out (by omega) (by omega)
        have s1 : (T1.size : Int) = 16 + (N : Int) := by omega
        have ix := fun u => idx T1 2 2 rfl hl u
        have hand := and_two _ hbit
        obtain ⟨B2, hB2⟩ : ∃ B2 : Int, B2 = (T1[2].toNat : Int) := ⟨_, rfl⟩
        rw [← hB2] at ix hand
        subst e1
        clear z1 HP1 HP2 HP3 hbit hB2
        by_cases h1 : X * 468 ≤ (b : Int)
        · obtain ⟨e2, z2⟩ := HQ1.out (by have := HA.out; omega)
          have z3 : (T2.size : Int) = X * 468 := by have := HA.out; omega
          subst e2
          clear z2
          go_wp2_with (first
            | (go_at_call 12; have _t := t1; go_must (refine (A1 _ _ _ _ _ HC.out).mono ?_); rintro e w6 ⟨rfl, bb⟩; have HC6 : Hid (CT w w6 w1.heap.size (w1.heap.size + 1) n k y c) := HC.out.past bb; clear d0 d1 d2 d3 d4 d5 d6 d7 d8 d9 d10 d11 d12; obtain ⟨d0, d1, d2, d3, d4, d5, d6, d7, d8, d9, d10, d11, d12⟩ := blk13 (h := ⟨0, true, 0, false, false, false, false, 0, 0⟩) (HC6.out.msg); simp only at d0 d1 d2 d3 d4 d5 d6 d7 d8; clear bb t1 _t)
            | (go_at_call 12; go_must (refine (A2 _ _ _ _ _ HC6.out).mono ?_); rintro e w7 ⟨rfl, bb⟩; have hbz := next HC6.out.below bb; clear bb)
            | (go_at_call 14; refine (num_any _ _).mono ?_; rintro e w' ⟨rfl, hw⟩; obtain rfl := hw.symm))
          all_goals go_ret
          all_goals exact ⟨ret_bool (by simp), hbz⟩
        by_cases h2 : Y * 468 ≤ (b : Int)
        · obtain ⟨e2, z2⟩ := HQ2.out (by have := HA.out; omega) (by have := HA.out; omega)
          have z3 : (T2.size : Int) = Y * 468 := by have := HA.out; omega
          subst e2
          clear z2
          go_wp2_with (first
            | (go_at_call 12; have _t := t1; go_must (refine (A1 _ _ _ _ _ HC.out).mono ?_); rintro e w6 ⟨rfl, bb⟩; have HC6 : Hid (CT w w6 w1.heap.size (w1.heap.size + 1) n k y c) := HC.out.past bb; clear d0 d1 d2 d3 d4 d5 d6 d7 d8 d9 d10 d11 d12; obtain ⟨d0, d1, d2, d3, d4, d5, d6, d7, d8, d9, d10, d11, d12⟩ := blk13 (h := ⟨0, true, 0, false, false, false, false, 0, 0⟩) (HC6.out.msg); simp only at d0 d1 d2 d3 d4 d5 d6 d7 d8; clear bb t1 _t)
            | (go_at_call 12; go_must (refine (A2 _ _ _ _ _ HC6.out).mono ?_); rintro e w7 ⟨rfl, bb⟩; have hbz := next HC6.out.below bb; clear bb)
            | (go_at_call 14; refine (num_any _ _).mono ?_; rintro e w' ⟨rfl, hw⟩; obtain rfl := hw.symm))
          all_goals go_ret
          all_goals exact ⟨ret_bool (by simp), hbz⟩
        by_cases h3 : 16 + (N : Int) + 11 ≤ (b : Int)
        · obtain ⟨e2, z2⟩ := HQ3.out (by have := HA.out; omega) (by have := HA.out; omega) (by omega)
          have z3 : (T2.size : Int) = 16 + (N : Int) + 11 := by omega
          subst e2
          clear z2
          go_wp2_with (first
            | (go_at_call 12; have _t := t1; go_must (refine (A1 _ _ _ _ _ HC.out).mono ?_); rintro e w6 ⟨rfl, bb⟩; have HC6 : Hid (CT w w6 w1.heap.size (w1.heap.size + 1) n k y c) := HC.out.past bb; clear d0 d1 d2 d3 d4 d5 d6 d7 d8 d9 d10 d11 d12; obtain ⟨d0, d1, d2, d3, d4, d5, d6, d7, d8, d9, d10, d11, d12⟩ := blk13 (h := ⟨0, true, 0, false, false, false, false, 0, 0⟩) (HC6.out.msg); simp only at d0 d1 d2 d3 d4 d5 d6 d7 d8; clear bb t1 _t)
            | (go_at_call 12; go_must (refine (A2 _ _ _ _ _ HC6.out).mono ?_); rintro e w7 ⟨rfl, bb⟩; have hbz := next HC6.out.below bb; clear bb)
            | (go_at_call 14; refine (num_any _ _).mono ?_; rintro e w' ⟨rfl, hw⟩; obtain rfl := hw.symm))
          all_goals go_ret
          all_goals exact ⟨ret_bool (by simp), hbz⟩
        · obtain ⟨e2, z2⟩ := HQ4.out (by have := HA.out; omega) (by have := HA.out; omega) (by omega)
          subst e2 z2
          go_wp2_with (first
            | (go_at_call 12; have _t := t1; go_must (refine (A1 _ _ _ _ _ HC.out).mono ?_); rintro e w6 ⟨rfl, bb⟩; have HC6 : Hid (CT w w6 w1.heap.size (w1.heap.size + 1) n k y c) := HC.out.past bb; clear d0 d1 d2 d3 d4 d5 d6 d7 d8 d9 d10 d11 d12; obtain ⟨d0, d1, d2, d3, d4, d5, d6, d7, d8, d9, d10, d11, d12⟩ := blk13 (h := ⟨0, true, 0, false, false, false, false, 0, 0⟩) (HC6.out.msg); simp only at d0 d1 d2 d3 d4 d5 d6 d7 d8; clear bb t1 _t)
            | (go_at_call 12; go_must (refine (A2 _ _ _ _ _ HC6.out).mono ?_); rintro e w7 ⟨rfl, bb⟩; have hbz := next HC6.out.below bb; clear bb)
            | (go_at_call 14; refine (num_any _ _).mono ?_; rintro e w' ⟨rfl, hw⟩; obtain rfl := hw.symm))
          all_goals go_ret
          all_goals exact ⟨ret_bool (by simp), hbz⟩
      · have e1 := HP3.out (by omega) (by omega)
        subst e1
        clear HP1 HP2 HP3
        by_cases h1 : X * 468 ≤ (b : Int)
        · obtain ⟨e2, z2⟩ := HQ1.out (by have := HA.out; omega)
          have z3 : (T2.size : Int) = X * 468 := by have := HA.out; omega
          subst e2
          clear z2
          go_wp2_with (first
            | (go_at_call 12; have _t := t1; go_must (refine (A1 _ _ _ _ _ HC.out).mono ?_); rintro e w6 ⟨rfl, bb⟩; have HC6 : Hid (CT w w6 w1.heap.size (w1.heap.size + 1) n k y c) := HC.out.past bb; clear d0 d1 d2 d3 d4 d5 d6 d7 d8 d9 d10 d11 d12; obtain ⟨d0, d1, d2, d3, d4, d5, d6, d7, d8, d9, d10, d11, d12⟩ := blk13 (h := ⟨0, true, 0, false, false, false, false, 0, 0⟩) (HC6.out.msg); simp only at d0 d1 d2 d3 d4 d5 d6 d7 d8; clear bb t1 _t)
            | (go_at_call 12; go_must (refine (A2 _ _ _ _ _ HC6.out).mono ?_); rintro e w7 ⟨rfl, bb⟩; have hbz := next HC6.out.below bb; clear bb)
            | (go_at_call 14; refine (num_any _ _).mono ?_; rintro e w' ⟨rfl, hw⟩; obtain rfl := hw.symm))
          all_goals go_ret
          all_goals exact ⟨ret_bool (by simp), hbz⟩
        by_cases h2 : Y * 468 ≤ (b : Int)
        · obtain ⟨e2, z2⟩ := HQ2.out (by have := HA.out; omega) (by have := HA.out; omega)
          have z3 : (T2.size : Int) = Y * 468 := by have := HA.out; omega
          subst e2
          clear z2
          go_wp2_with (first
            | (go_at_call 12; have _t := t1; go_must (refine (A1 _ _ _ _ _ HC.out).mono ?_); rintro e w6 ⟨rfl, bb⟩; have HC6 : Hid (CT w w6 w1.heap.size (w1.heap.size + 1) n k y c) := HC.out.past bb; clear d0 d1 d2 d3 d4 d5 d6 d7 d8 d9 d10 d11 d12; obtain ⟨d0, d1, d2, d3, d4, d5, d6, d7, d8, d9, d10, d11, d12⟩ := blk13 (h := ⟨0, true, 0, false, false, false, false, 0, 0⟩) (HC6.out.msg); simp only at d0 d1 d2 d3 d4 d5 d6 d7 d8; clear bb t1 _t)
            | (go_at_call 12; go_must (refine (A2 _ _ _ _ _ HC6.out).mono ?_); rintro e w7 ⟨rfl, bb⟩; have hbz := next HC6.out.below bb; clear bb)
            | (go_at_call 14; refine (num_any _ _).mono ?_; rintro e w' ⟨rfl, hw⟩; obtain rfl := hw.symm))
          all_goals go_ret
          all_goals exact ⟨ret_bool (by simp), hbz⟩
        by_cases h3 : 16 + (N : Int) + 11 ≤ (b : Int)
        · obtain ⟨e2, z2⟩ := HQ3.out (by have := HA.out; omega) (by have := HA.out; omega) (by omega)
          have z3 : (T2.size : Int) = 16 + (N : Int) + 11 := by omega
          subst e2
          clear z2
          go_wp2_with (first
            | (go_at_call 12; have _t := t1; go_must (refine (A1 _ _ _ _ _ HC.out).mono ?_); rintro e w6 ⟨rfl, bb⟩; have HC6 : Hid (CT w w6 w1.heap.size (w1.heap.size + 1) n k y c) := HC.out.past bb; clear d0 d1 d2 d3 d4 d5 d6 d7 d8 d9 d10 d11 d12; obtain ⟨d0, d1, d2, d3, d4, d5, d6, d7, d8, d9, d10, d11, d12⟩ := blk13 (h := ⟨0, true, 0, false, false, false, false, 0, 0⟩) (HC6.out.msg); simp only at d0 d1 d2 d3 d4 d5 d6 d7 d8; clear bb t1 _t)
            | (go_at_call 12; go_must (refine (A2 _ _ _ _ _ HC6.out).mono ?_); rintro e w7 ⟨rfl, bb⟩; have hbz := next HC6.out.below bb; clear bb)
            | (go_at_call 14; refine (num_any _ _).mono ?_; rintro e w' ⟨rfl, hw⟩; obtain rfl := hw.symm))
          all_goals go_ret
          all_goals exact ⟨ret_bool (by simp), hbz⟩
        · obtain ⟨e2, z2⟩ := HQ4.out (by have := HA.out; omega) (by have := HA.out; omega) (by omega)
          subst e2 z2
          go_wp2_with (first
            | (go_at_call 12; have _t := t1; go_must (refine (A1 _ _ _ _ _ HC.out).mono ?_); rintro e w6 ⟨rfl, bb⟩; have HC6 : Hid (CT w w6 w1.heap.size (w1.heap.size + 1) n k y c) := HC.out.past bb; clear d0 d1 d2 d3 d4 d5 d6 d7 d8 d9 d10 d11 d12; obtain ⟨d0, d1, d2, d3, d4, d5, d6, d7, d8, d9, d10, d11, d12⟩ := blk13 (h := ⟨0, true, 0, false, false, false, false, 0, 0⟩) (HC6.out.msg); simp only at d0 d1 d2 d3 d4 d5 d6 d7 d8; clear bb t1 _t)
            | (go_at_call 12; go_must (refine (A2 _ _ _ _ _ HC6.out).mono ?_); rintro e w7 ⟨rfl, bb⟩; have hbz := next HC6.out.below bb; clear bb)
            | (go_at_call 14; refine (num_any _ _).mono ?_; rintro e w' ⟨rfl, hw⟩; obtain rfl := hw.symm))
          all_goals go_ret
          all_goals exact ⟨ret_bool (by simp), hbz⟩

theorem walk (n : ByteArray) (many most : Int) (hs : n.size ≤ maxLen) (_ : (Lit.int .i64 many).wf = true) (_ : (Lit.int .i64 most).wf = true) (w : World) :
    Calls Try.prog 7 #[.string n, .int .i64 many, .int .i64 most] w fun e w' => e = .returned (.bool true) ∧ Below w.heap.size w w' := by
  obtain ⟨b0, hb0⟩ : ∃ b, isName n.data.toList = b := ⟨_, rfl⟩
  have MY := fun u => refMay_at n b0 u hs hb0
  cases b0 with
  | false =>
    clear hb0
    go_enter Try.func7, Try.ntmps7
    go_wp2_with (first
      | (go_at_call 18; go_must (refine (awake_any _).mono ?_); rintro e w0 ⟨rfl, b0⟩)
      | (go_at_call 24; go_must (refine (MY _).mono ?_); rintro e w1 ⟨rfl, b1⟩))
    go_ret
    exact ⟨rfl, next b0 b1⟩
  | true =>
    by_cases h1 : n.data.toList = [0]
    · have hne : (n.toList == [0]) = true := by rw [ByteArray.toList_eq]; simpa using h1
      clear hb0 h1
      go_enter Try.func7, Try.ntmps7
      go_wp2_with (first
        | (go_at_call 18; go_must (refine (awake_any _).mono ?_); rintro e w0 ⟨rfl, b0⟩)
        | (go_at_call 24; go_must (refine (MY _).mono ?_); rintro e w1 ⟨rfl, b1⟩))
      go_ret
      exact ⟨rfl, next b0 b1⟩
    · have m1 : bits .and .i64 many 31 = many % 32 := mask many 5 (by decide)
      have m2 : bits .and .i64 most 1023 = most % 1024 := mask most 10 (by decide)
      exact w_yes n many most (many % 32).toNat (most % 1024).toNat (by omega) (by omega) (by omega) (by omega) hs hb0 h1 w

theorem own : ownKnob Try.prog.godebug = none := by kernel_rfl

set_option maxRecDepth 100000 in
theorem lifted (os : Os) (started : os.Started) (H : Type) (enc : TypeId × Value → H) :
    ReturnsInHanded {} Try.checked os 7 .any (Rows.padCutsSpec.pre6 enc Try.prog Try.f7 Rows.padCutsRow.domain false) (Rows.padCutsSpec.post enc Try.prog Try.f7 false true false false) := by
  refine returnsInHanded_of_change (C := Try.checked) own started (by kernel_rfl) Try.func7
    (ChangeSpec.witness6 (enc := enc) (C := Try.checked) false ⟨#[], #[.string ByteArray.empty, .int .i64 0, .int .i64 0], []⟩ 8 (by kernel_rfl) (by kernel_rfl) (by kernel_rfl) (by kernel_rfl)) ?_
  intro W base args ds gs before hval0 hW _ _
  have hval : ∀ (j : Nat) t v, Try.f7.params[j]? = some t → args[j]? = some v → Value.okWide Try.prog W .any base t v := hval0
  have hW' := hW
  obtain ⟨p, q, hA0, hV, rfl, hfz, hnd⟩ := hW
  have hA : DataW.TrodAll enc Try.prog W 0 (fun _ => true) true Try.f7.params.toList args.toList ds p := hA0
  rw [Try.params7] at hA hval
  obtain ⟨v0, vs0, d0, ds0, p0, q0, hargs, rfl, rfl, h0, r0⟩ := trodAll_cons hA
  obtain ⟨v1, vs1, d1, ds1, p1, q1, rfl, rfl, rfl, h1, r1⟩ := trodAll_cons r0
  obtain ⟨v2, vs2, d2, ds2, p2, q2, rfl, rfl, rfl, h2, r2⟩ := trodAll_cons r1
  obtain ⟨rfl, rfl, rfl⟩ := trodAll_nil r2
  obtain rfl : args = #[v0, v1, v2] := by cases args; simp_all
  obtain ⟨rfl, rfl⟩ := trodVars_none hV
  obtain ⟨a0, rfl, rfl, rfl, w0⟩ := open_string Try.underlying9 (hval 0 9 v0 rfl rfl) h0
  obtain ⟨a1, rfl, rfl, rfl, w1⟩ := open_int Try.underlying3 (hval 1 3 v1 rfl rfl) h1
  obtain ⟨a2, rfl, rfl, rfl, w2⟩ := open_int Try.underlying3 (hval 2 3 v2 rfl rfl) h2
  clear hA0 hval0
  simp only [List.append_nil] at hW'
  refine (walk a0 a1 a2 w0 w1 w2 W ).mono fun e W' ⟨he, bel⟩ => ?_
  subst he
  exact ⟨_, rfl, _, _, _, [], [], [], hW', trodAll_mk1 (shut_bool Try.underlying4 _), (trodAll_cons_mk (shut_string Try.underlying9 w0) (trodAll_cons_mk (shut_int Try.underlying3 w1) (trodAll_cons_mk (shut_int Try.underlying3 w2) trodAll_mk0))), rfl, bel.frame _, fun h => by cases h⟩

/-- The statement. -/
theorem proved : Rows.PadCutsSaid :=
  OpenClaim.holds_of_wide 7 Try.f7 rfl rfl rfl rfl rfl rfl rfl ⟨rfl, rfl, rfl, rfl, rfl⟩ rfl rfl rfl rfl rfl (by kernel_rfl) Try.func7 (by kernel_rfl)
    (of_decide_eq_true (by kernel_rfl)) (by unfold Func.isWrapper; first | (rw [if_pos (by decide +kernel)]; kernel_rfl) | (rw [if_neg (by decide +kernel)]; exact ⟨rfl, rfl⟩))
    (fun os started H enc _ => lifted os started H enc)
#print axioms proved

end Go.Proofs.Ytcapankhobnfeaa.padCuts
