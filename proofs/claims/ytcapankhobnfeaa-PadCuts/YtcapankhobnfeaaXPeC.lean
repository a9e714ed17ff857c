/- What the document's Query gives. -/
import Derived.Test.YtcapankhobnfeaaXPeB
import Derived.Test.YtcapankhobnfeaaXFoB
import Derived.Test.YtcapankhobnfeaaXWjD
import Derived.Deep.DeepCutAuto
namespace Go.Proofs.Ytcapankhobnfeaa
open Go.RowKit
open Pl

/-- What lies ahead of the call of PutMsg. -/
theorem pre_rque {w w5 : World} {gm gq : Nat} {id t : Int} {n F : ByteArray} {k : Nat} {T : ByteArray} (hF : F = fdB n) (hT : pT (withO (qM id n t) (pdO k)) = T) (hE : pE (withO (qM id n t) (pdO k)) = 0) (hk : k ≤ 1000) (hg : w.heap.size ≤ gm)
    (KQ : Blk w5 gq #[.string F, .int .i64 t, .int .i64 1] 46) (KM : Blk w5 gm (msgC ⟨id, false, 0, false, false, false, false, 0, 0⟩ (.slice (some ⟨gq, 0, none⟩) 1 1) (.slice none 0 0) (.slice none 0 0) (.slice none 0 0)) 29) (hb5 : Below w.heap.size w w5) (hne : gm ≠ gq) :
    Blk ((w5.alloc (.cells #[.string rootB, .int .i64 41, .int .i64 1232, .int .i64 0, .string ⟨(osB (pdO k)).toArray⟩] 54)).setCell ⟨gm, 12, none⟩ (.slice (some ⟨w5.heap.size, 0, none⟩) 1 1)) gm (msgC ⟨id, false, 0, false, false, false, false, 0, 0⟩ (.slice (some ⟨gq, 0, none⟩) 1 1) (.slice none 0 0) (.slice none 0 0) (.slice (some ⟨w5.heap.size, 0, none⟩) 1 1)) 29 ∧
    Calls Try.prog 29 #[.agg #[.int .i64 id, .bool false, .int .i64 0, .bool false, .bool false, .bool false, .bool false, .int .i64 0, .int .i64 0, .slice (some ⟨gq, 0, none⟩) 1 1, .slice none 0 0, .slice none 0 0, .slice (some ⟨w5.heap.size, 0, none⟩) 1 1]] ((w5.alloc (.cells #[.string rootB, .int .i64 41, .int .i64 1232, .int .i64 0, .string ⟨(osB (pdO k)).toArray⟩] 54)).setCell ⟨gm, 12, none⟩ (.slice (some ⟨w5.heap.size, 0, none⟩) 1 1)) fun e w' => e = .returned (.tuple #[.string T, .int .i64 0]) ∧ Below w.heap.size w w' := by
  have k1 := KM.alloc (.cells #[.string rootB, .int .i64 41, .int .i64 1232, .int .i64 0, .string ⟨(osB (pdO k)).toArray⟩] 54)
  have k2 := k1.set 12 (.slice (some ⟨w5.heap.size, 0, none⟩) 1 1)
  have r1 := Blk.new w5 #[.string rootB, .int .i64 41, .int .i64 1232, .int .i64 0, .string ⟨(osB (pdO k)).toArray⟩] 54
  have r2 := r1.other (b := gm) (by have := KM.lt; omega) 12 (.slice (some ⟨w5.heap.size, 0, none⟩) 1 1)
  have q1 := (KQ.alloc (.cells #[.string rootB, .int .i64 41, .int .i64 1232, .int .i64 0, .string ⟨(osB (pdO k)).toArray⟩] 54)).other (b := gm) (Ne.symm hne) 12 (.slice (some ⟨w5.heap.size, 0, none⟩) 1 1)
  have hb6 := setCell_below (lay hb5 (.cells #[.string rootB, .int .i64 41, .int .i64 1232, .int .i64 0, .string ⟨(osB (pdO k)).toArray⟩] 54)) hg 12 (.slice (some ⟨w5.heap.size, 0, none⟩) 1 1)
  have hp := putV_as (withO (qM id n t) (pdO k))
  rw [hT, hE] at hp
  unfold withO qM at hp
  rw [ot_pd (by omega), ← hF] at hp
  have hq := qrow_lit (q := ⟨F, t, 1⟩) q1 (by have := fd_size n; rw [hF]; simp only; omega)
  have hr := rrow_lit (r := ⟨rootB, 41, 1232, 0, ⟨(osB (pdO k)).toArray⟩⟩) r2 (by simp only; decide) (by simp only; rw [bytes_size, osB_pd]; omega)
  refine ⟨k2, (rput_h id false 0 false false false false 0 0 [⟨F, t, 1⟩] [] [] [⟨rootB, 41, 1232, 0, ⟨(osB (pdO k)).toArray⟩⟩] T 0 _ _ _ _ _ hp hq (RRow.nil _) (RRow.nil _) hr).mono ?_⟩
  rintro e w' ⟨rfl, b⟩
  exact ⟨rfl, next hb6 b⟩

set_option maxRecDepth 20000 in
set_option maxHeartbeats 1000000 in
theorem refQuery_no (id : Int) (n : ByteArray) (t : Int) (w : World) (hn : n.size ≤ maxLen) (h : mayQu id n t = false) :
    Calls Try.prog 10 #[.int .i64 id, .agg #[.string n, .int .i64 t]] w fun e w' => e = .returned (.tuple #[.string ⟨#[]⟩, .int .i64 1000]) ∧ Below w.heap.size w w' := by
  obtain ⟨b1, h1⟩ : ∃ b, inB 65535 id = b := ⟨_, rfl⟩
  obtain ⟨b2, h2⟩ : ∃ b, isName n.data.toList = b := ⟨_, rfl⟩
  obtain ⟨b3, h3⟩ : ∃ b, inB 65535 t = b := ⟨_, rfl⟩
  have S1 := fun u => short_as id b1 u h1
  have S3 := fun u => short_as t b3 u h3
  have MY := fun u => refMay_at n b2 u hn h2
  have hb := lay (Below.refl w.heap.size w) (.cells #[.string n, .int .i64 t] 23)
  have hf : b1 = true → b2 = true → b3 = true → t = 0 := fun a1 a2 a3 => by
    subst a1 a2 a3
    unfold mayQu at h
    rw [h1, h2] at h
    simp only [inB, decide_eq_true_eq] at h3
    simp only [Bool.true_and, Bool.and_eq_false_iff, decide_eq_false_iff_not] at h
    omega
  have t1 : True := trivial
  clear h h1 h2 h3
  have KB := Blk.new w #[.string n, .int .i64 t] 23
  cases b1 with
  | false =>
    go_enter Try.func10, Try.ntmps10
    go_wp2_with (first
      | (go_at_call 27; have _t := t1; go_must (refine (S1 _).mono ?_); rintro e w' ⟨rfl, hw⟩; obtain rfl := hw.symm; clear t1 _t)
      | (go_at_call 27; go_must (refine (S3 _).mono ?_); rintro e w' ⟨rfl, hw⟩; obtain rfl := hw.symm)
      | (go_at_call 24; go_must (refine (MY _).mono ?_); rintro e w1 ⟨rfl, b1⟩; replace KB := KB.below b1; replace hb := next hb b1; have c0 : w1.cell? ⟨w.heap.size, 0, none⟩ = some (.string n) := KB.cell 0; have c1 : w1.cell? ⟨w.heap.size, 1, none⟩ = some (.int .i64 t) := KB.cell 1; clear b1))
    go_ret2
    exact ⟨rfl, hb⟩
  | true =>
    cases b2 with
    | false =>
      go_enter Try.func10, Try.ntmps10
      go_wp2_with (first
        | (go_at_call 27; have _t := t1; go_must (refine (S1 _).mono ?_); rintro e w' ⟨rfl, hw⟩; obtain rfl := hw.symm; clear t1 _t)
        | (go_at_call 27; go_must (refine (S3 _).mono ?_); rintro e w' ⟨rfl, hw⟩; obtain rfl := hw.symm)
        | (go_at_call 24; go_must (refine (MY _).mono ?_); rintro e w1 ⟨rfl, b1⟩; replace KB := KB.below b1; replace hb := next hb b1; have c0 : w1.cell? ⟨w.heap.size, 0, none⟩ = some (.string n) := KB.cell 0; have c1 : w1.cell? ⟨w.heap.size, 1, none⟩ = some (.int .i64 t) := KB.cell 1; clear b1))
      go_ret2
      exact ⟨rfl, hb⟩
    | true =>
      cases b3 with
      | false =>
        go_enter Try.func10, Try.ntmps10
        go_wp2_with (first
          | (go_at_call 27; have _t := t1; go_must (refine (S1 _).mono ?_); rintro e w' ⟨rfl, hw⟩; obtain rfl := hw.symm; clear t1 _t)
          | (go_at_call 27; go_must (refine (S3 _).mono ?_); rintro e w' ⟨rfl, hw⟩; obtain rfl := hw.symm)
          | (go_at_call 24; go_must (refine (MY _).mono ?_); rintro e w1 ⟨rfl, b1⟩; replace KB := KB.below b1; replace hb := next hb b1; have c0 : w1.cell? ⟨w.heap.size, 0, none⟩ = some (.string n) := KB.cell 0; have c1 : w1.cell? ⟨w.heap.size, 1, none⟩ = some (.int .i64 t) := KB.cell 1; clear b1))
        go_ret2
        exact ⟨rfl, hb⟩
      | true =>
        have hz := hf rfl rfl rfl
        subst hz
        clear hf
        go_enter Try.func10, Try.ntmps10
        go_wp2_with (first
          | (go_at_call 27; have _t := t1; go_must (refine (S1 _).mono ?_); rintro e w' ⟨rfl, hw⟩; obtain rfl := hw.symm; clear t1 _t)
          | (go_at_call 27; go_must (refine (S3 _).mono ?_); rintro e w' ⟨rfl, hw⟩; obtain rfl := hw.symm)
          | (go_at_call 24; go_must (refine (MY _).mono ?_); rintro e w1 ⟨rfl, b1⟩; replace KB := KB.below b1; replace hb := next hb b1; have c0 : w1.cell? ⟨w.heap.size, 0, none⟩ = some (.string n) := KB.cell 0; have c1 : w1.cell? ⟨w.heap.size, 1, none⟩ = some (.int .i64 0) := KB.cell 1; clear b1))
        go_ret2
        exact ⟨rfl, hb⟩

/-- What the region leaves: the message and its question. -/
def QA (w u : World) (n F : ByteArray) (id t : Int) (gm gq : Nat) : Prop := Blk u gm (msgC ⟨id, false, 0, false, false, false, false, 0, 0⟩ (.slice (some ⟨gq, 0, none⟩) 1 1) (.slice none 0 0) (.slice none 0 0) (.slice none 0 0)) 29 ∧ Blk u gq #[.string F, .int .i64 t, .int .i64 1] 46 ∧ gm ≠ gq ∧ w.heap.size ≤ gm ∧ Blk u w.heap.size #[.string n, .int .i64 t] 23 ∧ Below w.heap.size w u
theorem qa_3m {w w2 : World} {n F : ByteArray} {id t : Int} (hb : Below w.heap.size w w2) (KB : Blk w2 w.heap.size #[.string n, .int .i64 t] 23) : QA w ((w2.alloc (.cells #[.string F, .int .i64 t, .int .i64 1] 46)).alloc (.cells #[.int .i64 id, .bool false, .int .i64 0, .bool false, .bool false, .bool false, .bool false, .int .i64 0, .int .i64 0, .slice (some ⟨w2.heap.size, 0, none⟩) 1 1, .slice none 0 0, .slice none 0 0, .slice none 0 0] 29)) n F id t (w2.heap.size + 1) w2.heap.size := by
  have k := Blk.new (w2.alloc (.cells #[.string F, .int .i64 t, .int .i64 1] 46)) #[.int .i64 id, .bool false, .int .i64 0, .bool false, .bool false, .bool false, .bool false, .int .i64 0, .int .i64 0, .slice (some ⟨w2.heap.size, 0, none⟩) 1 1, .slice none 0 0, .slice none 0 0, .slice none 0 0] 29
  rw [World.size_alloc] at k
  exact ⟨k, (Blk.new w2 _ _).alloc _, by omega, by have := hb.size; omega, (KB.alloc _).alloc _, lay (lay hb _) _⟩
theorem qa_2m {w w2 : World} {n F : ByteArray} {id t : Int} (hb : Below w.heap.size w w2) (KB : Blk w2 w.heap.size #[.string n, .int .i64 t] 23) : QA w ((w2.alloc (.cells #[.int .i64 id, .bool false, .int .i64 0, .bool false, .bool false, .bool false, .bool false, .int .i64 0, .int .i64 0, .slice (some ⟨w2.heap.size + 1, 0, none⟩) 1 1, .slice none 0 0, .slice none 0 0, .slice none 0 0] 29)).alloc (.cells #[.string F, .int .i64 t, .int .i64 1] 46)) n F id t w2.heap.size (w2.heap.size + 1) := by
  have k := Blk.new (w2.alloc (.cells #[.int .i64 id, .bool false, .int .i64 0, .bool false, .bool false, .bool false, .bool false, .int .i64 0, .int .i64 0, .slice (some ⟨w2.heap.size + 1, 0, none⟩) 1 1, .slice none 0 0, .slice none 0 0, .slice none 0 0] 29)) #[.string F, .int .i64 t, .int .i64 1] 46
  rw [World.size_alloc] at k
  exact ⟨(Blk.new w2 _ _).alloc _, k, by omega, hb.size, (KB.alloc _).alloc _, lay (lay hb _) _⟩
theorem qa_1 {w w2 : World} {n F : ByteArray} {id t : Int} {gm : Nat} (hb : Below w.heap.size w w2) (KB : Blk w2 w.heap.size #[.string n, .int .i64 t] 23) (KM : Blk w2 gm (msgC ⟨0, false, 0, false, false, false, false, 0, 0⟩ (.slice none 0 0) (.slice none 0 0) (.slice none 0 0) (.slice none 0 0)) 29) (hg : w.heap.size < gm) : QA w (set13 (w2.alloc (.cells #[.string F, .int .i64 t, .int .i64 1] 46)) gm ⟨id, false, 0, false, false, false, false, 0, 0⟩ (.slice (some ⟨w2.heap.size, 0, none⟩) 1 1) (.slice none 0 0) (.slice none 0 0) (.slice none 0 0)) n F id t gm w2.heap.size := by
  have k := Blk.new w2 #[.string F, .int .i64 t, .int .i64 1] 46
  have tt := set13_turn (w2.alloc (.cells #[.string F, .int .i64 t, .int .i64 1] 46)) gm ⟨id, false, 0, false, false, false, false, 0, 0⟩ (.slice (some ⟨w2.heap.size, 0, none⟩) 1 1) (.slice none 0 0) (.slice none 0 0) (.slice none 0 0)
  have hl := KM.lt
  exact ⟨set13_blk (KM.alloc _), tt.blk k (by omega), by omega, by omega, tt.blk (KB.alloc _) (by omega), Turn.below (lay hb _) tt (lay hb _).size (fun i e => by omega)⟩

set_option maxRecDepth 20000 in
set_option maxHeartbeats 2000000 in
theorem refQuery_yes (id : Int) (n : ByteArray) (t : Int) (w : World) (h : mayQu id n t = true) :
    Calls Try.prog 10 #[.int .i64 id, .agg #[.string n, .int .i64 t]] w fun e w' => e = .returned (.tuple #[.string (queT id n t), .int .i64 0]) ∧ Below w.heap.size w w' := by
  obtain ⟨_, _, k, hk, hk1, hT, hE⟩ := que_yes h
  obtain ⟨T, hTT⟩ : ∃ T, T = queT id n t := ⟨_, rfl⟩
  rw [← hTT] at hT ⊢
  unfold mayQu at h
  simp only [Bool.and_eq_true, decide_eq_true_eq] at h
  obtain ⟨⟨h1, h2⟩, h3⟩ := h
  have h255 := (name_some h2).1
  rw [data_len] at h255
  have hn : n.size ≤ maxLen := small100 (by omega)
  have S1 := fun u => short_as id true u h1
  have S3 := fun u => short_as t true u (by simp only [inB, decide_eq_true_eq]; omega)
  have MY := fun u => refMay_at n true u hn h2
  have KF : ∀ u, Calls Try.prog 20 #[.string n] u fun e w' => e = .returned (.string (fdB n)) ∧ Below u.heap.size u w' := fun u => refFold_any n u hn
  have KP := fun u => refPadded_any (n.size + 16) k 128 u (by omega) (by omega) (by omega) hk
  have hcast : ((n.size + 16 : Nat) : Int) = 16 + (n.size : Int) := by omega
  rw [hcast] at KP
  obtain ⟨F, hF⟩ : ∃ F, F = fdB n := ⟨_, rfl⟩
  rw [← hF] at KF
  have KR : ∀ (w5 : World) (gm gq : Nat), Hid (QA w w5 n F id t gm gq) → Hid (Blk ((w5.alloc (.cells #[.string rootB, .int .i64 41, .int .i64 1232, .int .i64 0, .string ⟨(osB (pdO k)).toArray⟩] 54)).setCell ⟨gm, 12, none⟩ (.slice (some ⟨w5.heap.size, 0, none⟩) 1 1)) gm (msgC ⟨id, false, 0, false, false, false, false, 0, 0⟩ (.slice (some ⟨gq, 0, none⟩) 1 1) (.slice none 0 0) (.slice none 0 0) (.slice (some ⟨w5.heap.size, 0, none⟩) 1 1)) 29 ∧
    Calls Try.prog 29 #[.agg #[.int .i64 id, .bool false, .int .i64 0, .bool false, .bool false, .bool false, .bool false, .int .i64 0, .int .i64 0, .slice (some ⟨gq, 0, none⟩) 1 1, .slice none 0 0, .slice none 0 0, .slice (some ⟨w5.heap.size, 0, none⟩) 1 1]] ((w5.alloc (.cells #[.string rootB, .int .i64 41, .int .i64 1232, .int .i64 0, .string ⟨(osB (pdO k)).toArray⟩] 54)).setCell ⟨gm, 12, none⟩ (.slice (some ⟨w5.heap.size, 0, none⟩) 1 1)) fun e w' => e = .returned (.tuple #[.string T, .int .i64 0]) ∧ Below w.heap.size w w') := fun w5 gm gq q => by
    obtain ⟨a1, a2, a3, a4, a5, a6⟩ := q.out
    exact pre_rque hF hT.symm hE (by omega) a4 a2 a1 a6 a3
  obtain ⟨DD, hDD⟩ : ∃ DD : ByteArray, DD = ⟨(osB (pdO k)).toArray⟩ := ⟨_, rfl⟩
  obtain ⟨RB, hRB⟩ : ∃ RB, RB = rootB := ⟨_, rfl⟩
  simp only [← hDD, ← hRB] at KP KR
  have KB := Blk.new w #[.string n, .int .i64 t] 23
  have hb := lay (Below.refl w.heap.size w) (.cells #[.string n, .int .i64 t] 23)
  have h30 : t ≠ 0 := by omega
  have t1 : True := trivial
  clear hk hk1 hT hE hTT h1 h2 h3 hF hDD hRB hcast hn
  go_enter Try.func10, Try.ntmps10
  go_wp2_with (first
    | (go_at_call 27; have _t := t1; go_must (refine (S1 _).mono ?_); rintro e w' ⟨rfl, hw⟩; obtain rfl := hw.symm; clear t1 _t)
    | (go_at_call 27; go_must (refine (S3 _).mono ?_); rintro e w' ⟨rfl, hw⟩; obtain rfl := hw.symm)
    | (go_at_call 24; go_must (refine (MY _).mono ?_); rintro e w1 ⟨rfl, b1⟩; replace KB := KB.below b1; replace hb := next hb b1; have c0 : w1.cell? ⟨w.heap.size, 0, none⟩ = some (.string n) := KB.cell 0; have c1 : w1.cell? ⟨w.heap.size, 1, none⟩ = some (.int .i64 t) := KB.cell 1; clear b1))
  go_cut [6] (fun x wx => ∃ gm gq, x = .pointer (some ⟨gm, 0, none⟩) ∧ Hid (QA w wx n F id t gm gq))
  case first =>
    clear KP KR S1 S3 MY
    have KM0 : Blk (w1.drew.alloc (.cells #[.int .i64 0, .bool false, .int .i64 0, .bool false, .bool false, .bool false, .bool false, .int .i64 0, .int .i64 0, .slice none 0 0, .slice none 0 0, .slice none 0 0, .slice none 0 0] 29)) w1.heap.size #[.int .i64 0, .bool false, .int .i64 0, .bool false, .bool false, .bool false, .bool false, .int .i64 0, .int .i64 0, .slice none 0 0, .slice none 0 0, .slice none 0 0, .slice none 0 0] 29 := Blk.new w1.drew #[.int .i64 0, .bool false, .int .i64 0, .bool false, .bool false, .bool false, .bool false, .int .i64 0, .int .i64 0, .slice none 0 0, .slice none 0 0, .slice none 0 0, .slice none 0 0] 29
    have hlt := KB.lt
    refine wp_region_held_drew (S := (fun u => u.cell? ⟨w.heap.size, 0, none⟩ = some (.string n) ∧ u.cell? ⟨w.heap.size, 1, none⟩ = some (.int .i64 t))) (by kernel_rfl) (by simp only [World.cell?_drew, c0, c1, and_self]) (fun hHeld => ?_)
    refine wpAnyH_take (i := 0) (v := .int .i64 id) rfl (by kernel_rfl) (by kernel_rfl) (by kernel_rfl) (fun _ _ _ h => h) (Or.inl ⟨by rfl, ?_⟩) hHeld ?_
    · intro u hu
      obtain ⟨u0, u1⟩ := hu
      go_simp
    simp only [Act.put, List.getElem_toArray, List.getElem_cons_zero, List.setIfInBounds_toArray, List.set_cons_zero, List.set_cons_succ]
    refine wpAnyH_take (i := 1) (v := .agg #[.int .i64 id, .bool false, .int .i64 0, .bool false, .bool false, .bool false, .bool false, .int .i64 0, .int .i64 0]) rfl (by kernel_rfl) (by kernel_rfl) (by kernel_rfl) (fun _ _ _ h => h) (Or.inl ⟨by rfl, ?_⟩) hHeld ?_
    · intro u hu
      obtain ⟨u0, u1⟩ := hu
      go_simp
    simp only [Act.put, List.getElem_toArray, List.getElem_cons_succ, List.getElem_cons_zero, List.setIfInBounds_toArray, List.set_cons_zero, List.set_cons_succ]
    refine wpAnyH_take (i := 2) (v := .pointer (some ⟨w.heap.size, 0, none⟩)) rfl (by kernel_rfl) (by kernel_rfl) (by kernel_rfl) (fun _ _ _ h => h) (Or.inl ⟨by rfl, ?_⟩) hHeld ?_
    · intro u hu
      obtain ⟨u0, u1⟩ := hu
      go_simp
    simp only [Act.put, List.getElem_toArray, List.getElem_cons_succ, List.getElem_cons_zero, List.setIfInBounds_toArray, List.set_cons_zero, List.set_cons_succ]
    refine wpAnyH_take (i := 3) (v := .string n) rfl (by kernel_rfl) (by kernel_rfl) (by kernel_rfl) (fun _ _ _ h => h) (Or.inl ⟨by rfl, ?_⟩) hHeld ?_
    · intro u hu
      obtain ⟨u0, u1⟩ := hu
      go_simp
    simp only [Act.put, List.getElem_toArray, List.getElem_cons_succ, List.getElem_cons_zero, List.setIfInBounds_toArray, List.set_cons_zero, List.set_cons_succ]
    refine wpAnyH_take (i := 5) (v := .pointer (some ⟨w.heap.size, 1, none⟩)) rfl (by kernel_rfl) (by kernel_rfl) (by kernel_rfl) (fun _ _ _ h => h) (Or.inl ⟨by rfl, ?_⟩) hHeld ?_
    · intro u hu
      obtain ⟨u0, u1⟩ := hu
      go_simp
    simp only [Act.put, List.getElem_toArray, List.getElem_cons_succ, List.getElem_cons_zero, List.setIfInBounds_toArray, List.set_cons_zero, List.set_cons_succ]
    refine wpAnyH_take (i := 6) (v := .int .i64 t) rfl (by kernel_rfl) (by kernel_rfl) (by kernel_rfl) (fun _ _ _ h => h) (Or.inl ⟨by rfl, ?_⟩) hHeld ?_
    · intro u hu
      obtain ⟨u0, u1⟩ := hu
      go_simp
    simp only [Act.put, List.getElem_toArray, List.getElem_cons_succ, List.getElem_cons_zero, List.setIfInBounds_toArray, List.set_cons_zero, List.set_cons_succ]
    refine wpAnyH_ready (rs := [4, 10]) (by kernel_rfl) (by simp) ?_
    refine AllReadyH.cons rfl (fun K hK => ?_) (AllReadyH.cons rfl (fun K hK => ?_) AllReadyH.nil)
    · skip
      go_simp
      refine (KF _).mono ?_
      rintro e w2 ⟨rfl, bb2⟩
      have KB2 := (KB.drew ⟨1, rfl⟩).below bb2
      have hb2 := next (next hb (below_drew ⟨1, rfl⟩)) bb2
      clear bb2
      refine hK.out _ _ ⟨KB2.cell 0, KB2.cell 1⟩ (fun hHeld => ?_)
      clear hK K
      refine wpAnyH_take (i := 7) (v := .agg #[.string F, .int .i64 t, .int .i64 1]) rfl (by kernel_rfl) (by kernel_rfl) (by kernel_rfl) (fun _ _ _ h => h) (Or.inl ⟨by rfl, ?_⟩) hHeld ?_
      · intro u hu
        obtain ⟨u0, u1⟩ := hu
        go_simp
      simp only [Act.put, List.getElem_toArray, List.getElem_cons_succ, List.getElem_cons_zero, List.setIfInBounds_toArray, List.set_cons_zero, List.set_cons_succ]
      refine wpAnyH_ready (rs := [8, 10]) (by kernel_rfl) (by simp) ?_
      refine AllReadyH.cons rfl (fun K hK => ?_) (AllReadyH.cons rfl (fun K hK => ?_) AllReadyH.nil)
      · skip
        go_simp
        refine hK.out _ _ ⟨(KB2.alloc _).cell 0, (KB2.alloc _).cell 1⟩ (fun hHeld => ?_)
        clear hK K
        refine wpAnyH_take (i := 9) (v := .agg #[.int .i64 id, .bool false, .int .i64 0, .bool false, .bool false, .bool false, .bool false, .int .i64 0, .int .i64 0, .slice (some ⟨w2.heap.size, 0, none⟩) 1 1, .slice none 0 0, .slice none 0 0, .slice none 0 0]) rfl (by kernel_rfl) (by kernel_rfl) (by kernel_rfl) (fun _ _ _ h => h) (Or.inl ⟨by rfl, ?_⟩) hHeld ?_
        · intro u hu
          obtain ⟨u0, u1⟩ := hu
          go_simp
        simp only [Act.put, List.getElem_toArray, List.getElem_cons_succ, List.getElem_cons_zero, List.setIfInBounds_toArray, List.set_cons_zero, List.set_cons_succ]
        refine wpAnyH_ready (rs := [10]) (by kernel_rfl) (by simp) ?_
        refine AllReadyH.cons rfl (fun K hK => ?_) AllReadyH.nil
        go_simp
        refine hK.out _ _ ⟨((KB2.alloc _).alloc _).cell 0, ((KB2.alloc _).alloc _).cell 1⟩ (fun hHeld => ?_)
        clear hK K
        refine wpAnyH_ready (rs := [11]) (by kernel_rfl) (by simp) ?_
        refine AllReadyH.cons rfl (fun K hK => ?_) AllReadyH.nil
        have q := qa_3m (F := F) (id := id) hb2 KB2
        go_simp
        refine hK.out _ _ ⟨q.2.2.2.2.1.cell 0, q.2.2.2.2.1.cell 1⟩ (fun hHeld => ?_)
        clear hK K
        refine wpAnyH_done (by kernel_rfl) ?_ _
        go_wp2_with fail
        go_meet
        exact ⟨_, _, rfl, q⟩
      · skip
        go_simp
        refine hK.out _ _ ⟨(KB2.alloc _).cell 0, (KB2.alloc _).cell 1⟩ (fun hHeld => ?_)
        clear hK K
        refine wpAnyH_ready (rs := [8]) (by kernel_rfl) (by simp) ?_
        refine AllReadyH.cons rfl (fun K hK => ?_) AllReadyH.nil
        go_simp
        refine hK.out _ _ ⟨((KB2.alloc _).alloc _).cell 0, ((KB2.alloc _).alloc _).cell 1⟩ (fun hHeld => ?_)
        clear hK K
        refine wpAnyH_take (i := 9) (v := .agg #[.int .i64 id, .bool false, .int .i64 0, .bool false, .bool false, .bool false, .bool false, .int .i64 0, .int .i64 0, .slice (some ⟨w2.heap.size + 1, 0, none⟩) 1 1, .slice none 0 0, .slice none 0 0, .slice none 0 0]) rfl (by kernel_rfl) (by kernel_rfl) (by kernel_rfl) (fun _ _ _ h => h) (Or.inl ⟨by rfl, ?_⟩) hHeld ?_
        · intro u hu
          obtain ⟨u0, u1⟩ := hu
          go_simp
        simp only [Act.put, List.getElem_toArray, List.getElem_cons_succ, List.getElem_cons_zero, List.setIfInBounds_toArray, List.set_cons_zero, List.set_cons_succ]
        refine wpAnyH_ready (rs := [11]) (by kernel_rfl) (by simp) ?_
        refine AllReadyH.cons rfl (fun K hK => ?_) AllReadyH.nil
        have q := qa_2m (F := F) (id := id) hb2 KB2
        go_simp
        refine hK.out _ _ ⟨q.2.2.2.2.1.cell 0, q.2.2.2.2.1.cell 1⟩ (fun hHeld => ?_)
        clear hK K
        refine wpAnyH_done (by kernel_rfl) ?_ _
        go_wp2_with fail
        go_meet
        exact ⟨_, _, rfl, q⟩
    · skip
      go_simp
      refine hK.out _ _ ⟨((KB.drew ⟨1, rfl⟩).alloc _).cell 0, ((KB.drew ⟨1, rfl⟩).alloc _).cell 1⟩ (fun hHeld => ?_)
      clear hK K
      refine wpAnyH_ready (rs := [4]) (by kernel_rfl) (by simp) ?_
      refine AllReadyH.cons rfl (fun K hK => ?_) AllReadyH.nil
      go_simp
      refine (KF _).mono ?_
      rintro e w2 ⟨rfl, bb2⟩
      have KB2 := ((KB.drew ⟨1, rfl⟩).alloc _).below bb2
      have KM2 := KM0.below bb2
      have hb2 := next (lay (next hb (below_drew ⟨1, rfl⟩)) _) bb2
      clear bb2
      refine hK.out _ _ ⟨KB2.cell 0, KB2.cell 1⟩ (fun hHeld => ?_)
      clear hK K
      refine wpAnyH_take (i := 7) (v := .agg #[.string F, .int .i64 t, .int .i64 1]) rfl (by kernel_rfl) (by kernel_rfl) (by kernel_rfl) (fun _ _ _ h => h) (Or.inl ⟨by rfl, ?_⟩) hHeld ?_
      · intro u hu
        obtain ⟨u0, u1⟩ := hu
        go_simp
      simp only [Act.put, List.getElem_toArray, List.getElem_cons_succ, List.getElem_cons_zero, List.setIfInBounds_toArray, List.set_cons_zero, List.set_cons_succ]
      refine wpAnyH_ready (rs := [8]) (by kernel_rfl) (by simp) ?_
      refine AllReadyH.cons rfl (fun K hK => ?_) AllReadyH.nil
      go_simp
      refine hK.out _ _ ⟨(KB2.alloc _).cell 0, (KB2.alloc _).cell 1⟩ (fun hHeld => ?_)
      clear hK K
      refine wpAnyH_take (i := 9) (v := .agg #[.int .i64 id, .bool false, .int .i64 0, .bool false, .bool false, .bool false, .bool false, .int .i64 0, .int .i64 0, .slice (some ⟨w2.heap.size, 0, none⟩) 1 1, .slice none 0 0, .slice none 0 0, .slice none 0 0]) rfl (by kernel_rfl) (by kernel_rfl) (by kernel_rfl) (fun _ _ _ h => h) (Or.inl ⟨by rfl, ?_⟩) hHeld ?_
      · intro u hu
        obtain ⟨u0, u1⟩ := hu
        go_simp
      simp only [Act.put, List.getElem_toArray, List.getElem_cons_succ, List.getElem_cons_zero, List.setIfInBounds_toArray, List.set_cons_zero, List.set_cons_succ]
      refine wpAnyH_ready (rs := [11]) (by kernel_rfl) (by simp) ?_
      refine AllReadyH.cons rfl (fun K hK => ?_) AllReadyH.nil
      have q := qa_1 (F := F) (id := id) hb2 KB2 KM2 hlt
      have kz := KM2.alloc (.cells #[.string F, .int .i64 t, .int .i64 1] 46)
      obtain ⟨p0, p1, p2, p3, p4, p5, p6, p7, p8, p9, p10, p11, p12⟩ := blk13 (h := ⟨0, false, 0, false, false, false, false, 0, 0⟩) kz
      simp only at p0 p1 p2 p3 p4 p5 p6 p7 p8
      obtain ⟨f0, f1, f2, f3, f4, f5, f6, f7, f8, f9, f10, f11, f12⟩ := open13 kz
      go_simp
      refine hK.out _ (set13 (w2.alloc (.cells #[.string F, .int .i64 t, .int .i64 1] 46)) w1.heap.size ⟨id, false, 0, false, false, false, false, 0, 0⟩ (.slice (some ⟨w2.heap.size, 0, none⟩) 1 1) (.slice none 0 0) (.slice none 0 0) (.slice none 0 0)) ⟨q.2.2.2.2.1.cell 0, q.2.2.2.2.1.cell 1⟩ (fun hHeld => ?_)
      clear hK K
      refine wpAnyH_done (by kernel_rfl) ?_ _
      go_wp2_with fail
      go_meet
      exact ⟨_, _, rfl, q⟩
  case rest =>
    obtain ⟨gm, gq, rfl, HQ⟩ := hcut
    clear c0 c1 KB hb
    have n0 : wc.cell? ⟨w.heap.size, 0, none⟩ = some (.string n) := HQ.out.2.2.2.2.1.cell 0
    go_wp2_with (first
      | (go_at_call 28; go_must (refine (KP _).mono ?_); rintro e w5 ⟨rfl, b5⟩; have HQ5 : Hid (QA w w5 n F id t gm gq) := ⟨HQ.out.1.below b5, HQ.out.2.1.below b5, HQ.out.2.2.1, HQ.out.2.2.2.1, HQ.out.2.2.2.2.1.below b5, next HQ.out.2.2.2.2.2 b5⟩; have m12 : (w5.alloc (.cells #[.string RB, .int .i64 41, .int .i64 1232, .int .i64 0, .string DD] 54)).cell? ⟨gm, 12, none⟩ = some (.slice none 0 0) := (HQ5.out.1.alloc _).cell 12; have z12 := (HQ5.out.1.alloc (.cells #[.string RB, .int .i64 41, .int .i64 1232, .int .i64 0, .string DD] 54)).frozen 12; obtain ⟨k5, p5⟩ := (KR w5 gm gq HQ5).out; have P5 : Hid (Calls Try.prog 29 #[.agg #[.int .i64 id, .bool false, .int .i64 0, .bool false, .bool false, .bool false, .bool false, .int .i64 0, .int .i64 0, .slice (some ⟨gq, 0, none⟩) 1 1, .slice none 0 0, .slice none 0 0, .slice (some ⟨w5.heap.size, 0, none⟩) 1 1]] ((w5.alloc (.cells #[.string RB, .int .i64 41, .int .i64 1232, .int .i64 0, .string DD] 54)).setCell ⟨gm, 12, none⟩ (.slice (some ⟨w5.heap.size, 0, none⟩) 1 1)) fun e w' => e = .returned (.tuple #[.string T, .int .i64 0]) ∧ Below w.heap.size w w') := p5; obtain ⟨d0, d1, d2, d3, d4, d5, d6, d7, d8, d9, d10, d11, d12⟩ := blk13 (h := ⟨id, false, 0, false, false, false, false, 0, 0⟩) k5; simp only at d0 d1 d2 d3 d4 d5 d6 d7 d8; clear b5 p5 k5 n0)
      | (go_at_call 29; go_must (refine P5.out.mono ?_); rintro e w6 ⟨rfl, hb6⟩))
    go_ret2
    exact ⟨rfl, hb6⟩

theorem refQuery_any (id : Int) (n : ByteArray) (t : Int) (w : World) (hn : n.size ≤ maxLen) :
    Calls Try.prog 10 #[.int .i64 id, .agg #[.string n, .int .i64 t]] w fun e w' => e = .returned (.tuple #[.string (queT id n t), .int .i64 (queE id n t)]) ∧ Below w.heap.size w w' := by
  cases h : mayQu id n t with
  | false =>
    rw [(que_no h).1, (que_no h).2]
    exact refQuery_no id n t w hn h
  | true =>
    rw [(que_yes h).1]
    exact refQuery_yes id n t w h

end Go.Proofs.Ytcapankhobnfeaa
