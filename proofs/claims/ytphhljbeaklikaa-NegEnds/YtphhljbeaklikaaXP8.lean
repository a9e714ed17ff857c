/- What hold, New and Put of a Negs do. -/
import Derived.Test.YtphhljbeaklikaaXP7
import Derived.Carry
import Derived.Deep.QuietTactic
import Derived.BigQuiet
import Derived.RangeFuncNested
import Derived.RangeFuncBound
import Derived.RangeFuncCalls
import Derived.RangeFuncLeaves
import Derived.Shelf.Abstract
import Derived.Shelf.RegionOpen
import Derived.Sort.MapsRangeIn
import Derived.WalkKit
import Derived.OwnWalkIn
import Derived.TacticsInMore
import Derived.LoopNIn
import Derived.LoopIn
import Derived.Maps.AppendAt
import Derived.Shelf.SlSortCmp.WholeK
import Derived.Shelf.SlSortCmp.NoneTotal
namespace Go.Proofs.Ytphhljbeaklikaa
open Go.RowKit
open Pl
namespace Ng

theorem map_some (b : Nat) (u : World) : (binOp .eql 56 (.map (some b)) (.map none)).run Try.prog u = .ok (.bool false) u := by kernel_rfl
theorem map_none (u : World) : (binOp .eql 56 (.map none) (.map none)).run Try.prog u = .ok (.bool true) u := by kernel_rfl
theorem rE_mk (u : Int) : rE (.int .i64 u) = some (.held u, []) := rfl
/-- An entry is put into the map. -/
theorem st_put {w0 w w' : World} {gs most b k : Nat} {M : List En} {D : DataW Int} {S : Nat → Prop} {p : En} (hb : Blk w gs #[.int .i64 most, .map (some b)] 58) (hh : Hold w b M) (ho : w'.ownsMap Try.prog 63 rE b k (D.put (kyL p.n p.t) (.held p.u))) (hm : MapOf D M) (ht : w.drew.mapTurned w' b)
    (hp : OkE p) (hno : ∀ q ∈ M, sameK p.n p.t q = false) (hle : M.length + 1 ≤ most) (h1 : 1 ≤ most) (h2 : most ≤ 256) (hT : Turn S w0 w) (hS : S b ∨ w0.heap.size ≤ b) : St w' gs most (some b) (M ++ [p]) ∧ Turn S w0 w' := by
  have ht2 : Turn (fun k => k = b) w w' := (Turn.of_below (S := fun k => k = b) (Below.refl _ _).drew).same (Turn.of_grown ht.grown (fun k e => (Option.some.inj e).symm))
  obtain ⟨es, clock, hbb, _⟩ := hh.map.choose_spec.choose_spec.1
  refine ⟨⟨ht2.blk hb (blk_not_map hbb hb), h1, h2, by simp; omega, .inr ⟨b, rfl, ⟨k, _, ho, mapOf_put hm hh.good p hp hno⟩, hh.good.snoc hp hno⟩⟩, hT.trans ht2 (fun i hi => ?_)⟩
  subst hi
  exact hS

set_option maxRecDepth 20000 in
set_option maxHeartbeats 2000000 in
theorem hold_any {w : World} {gs most : Nat} {mb : Option Nat} {M : List En} (h : St w gs most mb M) (n : ByteArray) (t u : Int) (hk : OkK n t) (hno : ∀ q ∈ M, sameK n t q = false) (hle : M.length + 1 ≤ most) :
    Calls Try.prog 28 #[.pointer (some ⟨gs, 0, none⟩), .agg #[.string n, .int .i64 t], .int .i64 u] w fun e w' => ∃ mb', e = .returned (.tuple #[]) ∧ St w' gs most mb' (M ++ [nE n t u]) ∧ Turn (fun k => k = gs ∨ mb = some k) w w' ∧ (∀ k, mb' = some k → mb = some k ∨ w.heap.size ≤ k) := by
  have hoke : OkE (nE n t u) := ⟨hk, by simp [nE], by simp [nE]⟩
  have hlt := h.lt
  have HM1 := h.m1
  have HM2 := h.m2
  cases mb with
  | some b =>
    obtain ⟨W, hW⟩ : ∃ W, W = w.alloc (.cells #[.string n, .int .i64 t] 63) := ⟨_, rfl⟩
    have hbW : Below w.heap.size w W := by rw [hW]; exact lay (Below.refl _ _) _
    have kb : Blk W w.heap.size #[.string n, .int .i64 t] 63 := by rw [hW]; exact Blk.new w _ _
    have hsx := h.below hbW
    have hh : Hold W b M := by
      rcases hsx.at' with ⟨e, _⟩ | ⟨b', e, hh⟩
      · cases e
      · cases e; exact hh
    obtain ⟨D, hown, hm⟩ := hh.own
    have hown2 : W.drew.ownsMap Try.prog 63 rE b M.length D := hown.drew
    obtain ⟨Y2, hrun, hown3, hturn⟩ := hown2.store keyE Try.underlying56 (by unfold maxLen; omega) (keyOf_e (max_ok hk) (wf_ok hk)) (rE_mk u)
    unfold kyV at hrun
    have HY : Hid (St Y2 gs most (some b) (M ++ [nE n t u]) ∧ Turn (fun k => k = gs ∨ (some b) = some k) w Y2) := st_put (p := nE n t u) hsx.blk hh hown3 hm hturn hoke hno hle HM1 HM2 (Turn.of_below hbW) (.inl (.inr rfl))
    have hnil := map_some b
    have c1 : W.cell? ⟨gs, 1, none⟩ = some (.map (some b)) := hsx.blk.cell 1
    have d0 := kb.cell 0
    have d1 := kb.cell 1
    simp only [List.getElem?_toArray, List.getElem?_cons_succ, List.getElem?_cons_zero] at d0 d1
    rw [hW] at c1 d0 d1 hrun
    clear h hsx hh hown hown2 hown3 hm hturn hlt hle hno kb hbW hW
    go_enter Try.func28, Try.ntmps28
    go_wp2
    go_region
    go_wp2
    go_end0
    exact ⟨some b, rfl, HY.out.1, HY.out.2, fun k e => .inl e⟩
  | none =>
    have hM : M = [] := by
      rcases h.at' with ⟨_, e⟩ | ⟨b, e, _⟩
      · exact e
      · cases e
    subst hM
    have hmm := @run_makeMap Try.prog
    have hnil := map_none
    obtain ⟨W0, hW0⟩ : ∃ W, W = (w.alloc (.cells #[.string n, .int .i64 t] 63)).alloc (.map #[] 0) := ⟨_, rfl⟩
    have hb0 : Below w.heap.size w W0 := by rw [hW0]; exact lay (lay (Below.refl _ _) _) _
    have kb0 : Blk W0 w.heap.size #[.string n, .int .i64 t] 63 := by rw [hW0]; exact (Blk.new w _ _).alloc _
    have hmade : W0.ownsMap Try.prog 63 rE (w.heap.size + 1) 0 (.map []) := by rw [hW0]; have := World.ownsMap_made (w.alloc (.cells #[.string n, .int .i64 t] 63)) Try.prog 63 rE; simpa using this
    have hgs := hlt gs (.inl rfl)
    have kg0 := h.blk.below hb0
    obtain ⟨Wm, hWm⟩ : ∃ W, W = W0.setCell ⟨gs, 1, none⟩ (.map (some (w.heap.size + 1))) := ⟨_, rfl⟩
    have tm : Turn (fun k => k = gs) W0 Wm := by rw [hWm]; exact Turn.of_set (S := fun k => k = gs) W0 (p := ⟨gs, 1, none⟩) rfl _
    have kgm : Blk Wm gs #[.int .i64 most, .map (some (w.heap.size + 1))] 58 := by rw [hWm]; exact kg0.set 1 _
    have kbm := tm.blk kb0 (by omega)
    have hmm2 := own_turn hmade tm (by omega)
    have hh : Hold Wm (w.heap.size + 1) [] := ⟨⟨0, _, hmm2, mapOf_nil⟩, h.at'.good⟩
    have hT : Turn (fun k => k = gs ∨ (none : Option Nat) = some k) w Wm := (Turn.of_below hb0).trans tm (fun i hi => .inl (.inl hi))
    obtain ⟨Y2, hrun, hown3, hturn⟩ := (World.ownsMap.drew hmm2).store keyE Try.underlying56 (by unfold maxLen; omega) (keyOf_e (max_ok hk) (wf_ok hk)) (rE_mk u)
    unfold kyV at hrun
    have HY : Hid (St Y2 gs most (some (w.heap.size + 1)) ([] ++ [nE n t u]) ∧ Turn (fun k => k = gs ∨ (none : Option Nat) = some k) w Y2) := st_put (p := nE n t u) kgm hh hown3 mapOf_nil hturn hoke hno hle HM1 HM2 hT (.inr (by omega))
    have c0 := kg0.cell 1
    have g0 := kg0.frozen 1
    have c1 : Wm.cell? ⟨gs, 1, none⟩ = some (.map (some (w.heap.size + 1))) := kgm.cell 1
    have d0 := kbm.cell 0
    have d1 := kbm.cell 1
    simp only [List.getElem?_toArray, List.getElem?_cons_succ, List.getElem?_cons_zero] at c0 d0 d1
    have cg : ∀ o : Obj, (w.alloc o).cell? ⟨gs, 1, none⟩ = some (.map none) := fun o => (h.blk.alloc o).cell 1
    rw [hWm, hW0] at c1 d0 d1 hrun
    rw [hW0] at c0 g0
    clear hW0 hWm hmade hmm2 hown3 hturn hh hT kgm kbm kg0 kb0 tm hb0 h hlt hle hno hgs
    go_enter Try.func28, Try.ntmps28
    go_wp2
    go_region
    go_wp2
    go_end0
    exact ⟨_, rfl, HY.out.1, HY.out.2, fun k e => .inr (by have := Option.some.inj e; omega)⟩

theorem new_no (m : Int) (w : World) (h : m < 1 ∨ 256 < m) : Calls Try.prog 8 #[.int .i64 m] w fun e w' => e = .returned (.tuple #[.pointer none, .int .i64 1400]) ∧ w' = w := by
  by_cases h1 : m < 1
  · go_enter Try.func8, Try.ntmps8
    go_wp2
    go_ret2
    exact ⟨rfl, rfl⟩
  · have h1' : decide (m < 1) = false := by simpa using h1
    have h2 : 256 < m := by omega
    go_enter Try.func8, Try.ntmps8
    go_wp2
    go_ret2
    exact ⟨rfl, rfl⟩
theorem new_yes (m : Nat) (w : World) (h1 : 1 ≤ m) (h2 : m ≤ 256) : Calls Try.prog 8 #[.int .i64 (m : Int)] w fun e w' => ∃ gs, e = .returned (.tuple #[.pointer (some ⟨gs, 0, none⟩), .int .i64 0]) ∧ St w' gs m none [] ∧ w.heap.size ≤ gs ∧ Below w.heap.size w w' := by
  have h1' : decide ((m : Int) < 1) = false := by simp; omega
  have h2' : decide ((256 : Int) < (m : Int)) = false := by simp; omega
  go_enter Try.func8, Try.ntmps8
  go_wp2
  go_ret2
  exact ⟨_, rfl, ⟨Blk.new w _ _, h1, h2, Nat.zero_le _, .inl ⟨rfl, rfl⟩⟩, Nat.le_refl _, lay (Below.refl _ _) _⟩

/-- len of the map, in a region that draws its order. -/
theorem step_len_e (w : World) {ops : Array Oper} {o : Oper} {a : Act} {K : Act → World → Prop} {Q : Exit → Act → World → Prop} {E : Prop} (hgd : o.guard = none) (m : Operand)
    (ho : o.op = .call { callee := .builtin .len, args := #[m], argTypes := #[56] }) (mb : Option Nat) (L : List En) (hm : a.eval m = .map mb) (h : MapAt w mb L)
    (hK : K (a.put o.dst (.int .i64 (L.length : Nat))) w) : if Region.wanted o (yielded ops a.tmps) = true then Oper.wp Try.prog o a w K Q else E := by
  have hw : Region.wanted o (yielded ops a.tmps) = true := by simp [Region.wanted, hgd]
  rw [if_pos hw]
  have hrun := h.len o.type
  unfold Oper.wp
  simp only [execOp, ho, resolve, invoke, builtin, Sem.run_bind, Sem.run_pure, Result.andThen_ok, List.map_toArray, List.map_cons, List.map_nil, hm, hrun]
  exact hK

set_option maxRecDepth 20000 in
set_option maxHeartbeats 4000000 in
theorem put_any {w : World} {gs most : Nat} {mb : Option Nat} {L : List En} (h : St w gs most mb L) (n : ByteArray) (t u now : Int) (hn : n.size ≤ maxLen) :
    Calls Try.prog 12 #[.pointer (some ⟨gs, 0, none⟩), .agg #[.string n, .int .i64 t, .int .i64 u], .int .i64 now] w fun e w' => e = .returned (.int .i64 (errN (nE n t u) now)) ∧
      ∃ mb', St w' gs most mb' (putN most L (nE n t u) now) ∧ Turn (fun k => k = gs ∨ mb = some k) w w' ∧ (∀ k, foot gs mb' k → foot gs mb k ∨ w.heap.size ≤ k) := by
  have HST : Hid (St w gs most mb L) := h
  have HLT : Hid (∀ k, foot gs mb k → k < w.heap.size) := h.lt
  have hb0 : Below w.heap.size w (w.alloc (.cells #[.string n, .int .i64 t, .int .i64 u] 33)) := lay (Below.refl _ _) _
  have k0 := Blk.new w #[.string n, .int .i64 t, .int .i64 u] 33
  clear h
  cases hmay : mayN (nE n t u) now with
  | false =>
    have HMAY : Hid (mayN (nE n t u) now = false) := hmay
    have HERR : Hid (1400 = errN (nE n t u) now) := by unfold Hid errN; rw [hmay]; rfl
    have HPUT : Hid (L = putN most L (nE n t u) now) := by unfold Hid putN; rw [hmay]; rfl
    clear hmay
    go_enter Try.func12, Try.ntmps12
    go_wp2_with (go_at_call 24; go_must (refine (isWrong_any n t u now _ hn false HMAY.out).mono ?_); rintro e w1 ⟨rfl, b1⟩; have H1 := next hb0 b1)
    go_ret
    exact ⟨ret_int HERR.out, mb, by rw [← HPUT.out]; exact HST.out.below H1, Turn.of_below H1, fun k hk => .inl hk⟩
  | true =>
    have HMAY : Hid (mayN (nE n t u) now = true) := hmay
    have HERR : Hid (0 = errN (nE n t u) now) := by unfold Hid errN; rw [hmay]; rfl
    have hok : OkK (fdB n) t := (held_okN hmay).k
    have HP : Hid (putN most L (nE n t u) now = cutP most (leftP L (fdB n) t now) ++ [nE (fdB n) t u]) := by unfold Hid putN; rw [hmay]; rfl
    clear hmay
    go_enter Try.func12, Try.ntmps12
    go_wp2_with (first
      | (go_at_call 24; go_must (refine (isWrong_any n t u now _ hn true HMAY.out).mono ?_); rintro e w1 ⟨rfl, b1⟩; have H1 := next hb0 b1; have k1 := k0.below b1; have x0 := k1.cell 0; have x1 := k1.cell 1; simp only [List.getElem?_toArray, List.getElem?_cons_succ, List.getElem?_cons_zero] at x0 x1)
      | (go_at_call 25; go_must (refine (keyOf_any n t _ hn).mono ?_); rintro e w2 ⟨rfl, b2⟩; unfold kyV; have H2 := next H1 b2; have H2' := lay H2 (.cells #[.string (fdB n), .int .i64 t] 63); have k2 := (k1.below b2).alloc (.cells #[.string (fdB n), .int .i64 t] 63); have q2 := Blk.new w2 #[.string (fdB n), .int .i64 t] 63; have s2 := HST.out.below H2'; clear x0 x1)
      | (go_at_call 26; go_must (refine (sweep_any s2 (fdB n) t now hok).mono ?_); rintro e w5 ⟨rfl, s5, t5⟩; have T5 : Turn (fun k => k = gs ∨ mb = some k) w w5 := (Turn.of_below H2').trans t5 (fun i e => .inl (.inr e)); have k5 := t5.blk k2 (fun e => by have := HLT.out _ (.inr e); omega); have q5 := t5.blk q2 (fun e => by have := HLT.out _ (.inr e); have := H2.size; omega); have z0 := q5.cell 0; have z1 := q5.cell 1; have x2 := k5.cell 2; simp only [List.getElem?_toArray, List.getElem?_cons_succ, List.getElem?_cons_zero] at z0 z1 x2; have m0 : w5.cell? ⟨gs, 0, none⟩ = some (.int .i64 most) := s5.blk.cell 0; have m1 : w5.cell? ⟨gs, 1, none⟩ = some (.map mb) := s5.blk.cell 1))
    have hM : Hid (∀ q ∈ L.filter (keepB (fdB n) t now), sameK (fdB n) t q = false) := fun q hq => by have := (List.mem_filter.1 hq).2; unfold keepB at this; simp only [Bool.and_eq_true, Bool.not_eq_true'] at this; exact this.1
    have HF : Hid (L.filter (keepB (fdB n) t now) = leftP L (fdB n) t now) := rfl
    have s5d := s5.below (Below.refl _ _).drew
    have hlen := s5.len
    clear k2 q2 s2 t5 b2 b1 k1
    generalize L.filter (keepB (fdB n) t now) = M at s5 s5d hM HF hlen
    have T5d : Turn (fun k => k = gs ∨ mb = some k) w w5.drew := T5.past (Below.refl _ _).drew
    have HA : Hid (∀ (w6 : World) (M' : List En), St w6 gs most mb M' → Turn (fun k => mb = some k) w5.drew w6 → (∀ q ∈ M', q ∈ M) → M'.length + 1 ≤ most → Blk w6 w.heap.size #[.string n, .int .i64 t, .int .i64 u] 33 ∧ Blk w6 w2.heap.size #[.string (fdB n), .int .i64 t] 63 ∧ Turn (fun k => k = gs ∨ mb = some k) w w6 ∧ Calls Try.prog 28 #[.pointer (some ⟨gs, 0, none⟩), .agg #[.string (fdB n), .int .i64 t], .int .i64 u] w6 fun e w' => ∃ mb', e = .returned (.tuple #[]) ∧ St w' gs most mb' (M' ++ [nE (fdB n) t u]) ∧ Turn (fun k => k = gs ∨ mb = some k) w6 w' ∧ (∀ k, mb' = some k → mb = some k ∨ w6.heap.size ≤ k)) := fun w6 M' s6 t6 hsub hle => by
      have hmb : ∀ i, mb = some i → i < w.heap.size := fun i e => HLT.out i (.inr e)
      have h2s := H2.size
      refine ⟨t6.blk (k5.below (Below.refl _ _).drew) (fun e => by have := hmb _ e; omega), t6.blk (q5.below (Below.refl _ _).drew) (fun e => by have := hmb _ e; omega), T5d.trans t6 (fun i e => .inl (.inr e)), ?_⟩
      exact hold_any s6 (fdB n) t u hok (fun q hq => hM.out q (hsub q hq)) hle
    have HE : Hid (∀ (w6 w7 : World) (M' : List En) (mb7 : Option Nat), M' = cutP most M → Turn (fun k => k = gs ∨ mb = some k) w w6 → St w7 gs most mb7 (M' ++ [nE (fdB n) t u]) → Turn (fun k => k = gs ∨ mb = some k) w6 w7 → (∀ k, mb7 = some k → mb = some k ∨ w6.heap.size ≤ k) → ∃ mb', St w7 gs most mb' (putN most L (nE n t u) now) ∧ Turn (fun k => k = gs ∨ mb = some k) w w7 ∧ (∀ k, foot gs mb' k → foot gs mb k ∨ w.heap.size ≤ k)) := fun w6 w7 M' mb7 hcut t6 s7 t7 hm7 => by
      refine ⟨mb7, ?_, t6.same t7, ?_⟩
      · rw [HP.out, ← HF.out, ← hcut]; exact s7
      · have hz := t6.size
        rintro k (e | e)
        · exact .inl (.inl e)
        · rcases hm7 k e with e | e
          · exact .inl (.inr e)
          · exact .inr (by omega)
    clear k5 q5 T5 T5d hM HF z0 z1 x2
    by_cases hfull : M.length = most
    · have hdec : decide ((most : Int) ≤ (M.length : Int)) = true := by simp; omega
      obtain ⟨b, rfl⟩ : ∃ b, mb = some b := by
        rcases s5.at' with ⟨_, e⟩ | ⟨b, e, _⟩
        · exfalso; have := s5.m1; rw [e] at hfull; simp at hfull; omega
        · exact ⟨b, e⟩
      have hdr := dropOne_any s5d (by have := s5.m1; omega)
      have HA2 : Hid (∀ (w6 : World), St w6 gs most (some b) (M.eraseIdx (minP M)) → Turn (fun k => k = b) w5.drew w6 → _) := fun w6 s6 t6 => HA.out w6 _ s6 (t6.more (fun k e => by rw [e])) (fun q hq => List.mem_of_mem_eraseIdx hq) (by rw [List.length_eraseIdx_of_lt (minP_lt (by have := s5.m1; omega))]; have := s5.m1; omega)
      have HC : Hid (M.eraseIdx (minP M) = cutP most M) := by unfold Hid cutP; rw [if_pos hfull]
      clear HA
      go_region_law ((refine step_len_e _ (by rfl) (.tmp 25) (by rfl) (some b) M (by rfl) s5d.at' ?_))
      all_goals (go_wp2_with (first | (go_at_call 27; go_must (refine hdr.mono ?_); rintro e w6 ⟨rfl, s6, t6⟩; have HA6 := HA2.out w6 s6 t6; obtain ⟨k6, q6, T6, hho⟩ := HA6; have z0 := q6.cell 0; have z1 := q6.cell 1; have x2 := k6.cell 2; simp only [List.getElem?_toArray, List.getElem?_cons_succ, List.getElem?_cons_zero] at z0 z1 x2) | (go_at_call 28; go_must (refine hho.mono ?_); rintro e w7 ⟨mb7, rfl, s7, t7, hm7⟩)))
      all_goals go_ret
      all_goals exact ⟨ret_int HERR.out, HE.out _ _ _ _ HC.out T6 s7 t7 hm7⟩
    · have hdec : decide ((most : Int) ≤ (M.length : Int)) = false := by simp; omega
      have HA6 := HA.out w5.drew M s5d (Turn.refl _ _) (fun q hq => hq) (by omega)
      have HC : Hid (M = cutP most M) := by unfold Hid cutP; rw [if_neg hfull]
      clear HA
      obtain ⟨k6, q6, T6, hho⟩ := HA6; have z0 := q6.cell 0; have z1 := q6.cell 1; have x2 := k6.cell 2; simp only [List.getElem?_toArray, List.getElem?_cons_succ, List.getElem?_cons_zero] at z0 z1 x2
      go_region_law ((refine step_len_e _ (by rfl) (.tmp 25) (by rfl) mb M (by rfl) s5d.at' ?_))
      all_goals (go_wp2_with (first | (go_at_call 28; go_must (refine hho.mono ?_); rintro e w7 ⟨mb7, rfl, s7, t7, hm7⟩) | go_in))
      all_goals go_ret
      all_goals exact ⟨ret_int HERR.out, HE.out _ _ _ _ HC.out T6 s7 t7 hm7⟩

end Ng
end Go.Proofs.Ytphhljbeaklikaa

/- The keys of a map, collected: maps.Keys, slices.AppendSeq, slices.Collect. -/
namespace Go.Proofs.Ytphhljbeaklikaa
open Go.RowKit Go.Shelf
open Pl
namespace Ng
attribute [local go_sem] Oper.semAt_some

/-- A name in its small letters, and a type. -/
abbrev Ky := { x : ByteArray × Int // OkK x.1 x.2 }
def kyC (x : Ky) : List Value := [.string x.1.1, .int .i64 x.1.2]
def kyE (x : Ky) : Array Value := #[.agg #[.string x.1.1, .int .i64 x.1.2]]
def keyP (p : En) : ByteArray × Int := (p.n, p.t)
/-- What has come of the keys. -/
structure Col (L : List En) (left : Lit → Bool) (ss : List Ky) : Prop where
  nd : (ss.map Subtype.val).Nodup
  mem : ∀ x : ByteArray × Int, x ∈ ss.map Subtype.val ↔ ∃ p ∈ L, keyP p = x ∧ left (kyL p.n p.t) = false
theorem col_start {D : DataW Int} {L : List En} (hm : MapOf D L) (hg : Good L) : Col L (Maps.has D) [] :=
  ⟨List.nodup_nil, fun x => ⟨fun h => by simp at h, fun ⟨p, hp, _, h⟩ => by
    rw [mapOf_has hm hg (max_ok (hg.ok p hp).k) (wf_ok (hg.ok p hp).k), List.any_eq_true.2 ⟨p, hp, sameK_iff.2 ⟨rfl, rfl⟩⟩] at h
    cases h⟩⟩
theorem col_step {L : List En} (hg : Good L) {left : Lit → Bool} {ss : List Ky} (h : Col L left ss) {p : En} (hp : p ∈ L) (hl : left (kyL p.n p.t) = true) (k : Ky) (hk : k.1 = keyP p) : Col L (nextL left p) (ss ++ [k]) := by
  refine ⟨?_, fun x => ?_⟩
  · rw [List.map_append, List.map_cons, List.map_nil]
    refine List.nodup_append.2 ⟨h.nd, by simp, fun a ha b hb => ?_⟩
    simp at hb
    subst hb
    obtain ⟨q, hq, hqk, hql⟩ := (h.mem a).1 ha
    intro e
    rw [hk, ← hqk] at e
    unfold keyP at e
    simp at e
    have := hg.one hp hq (sameK_iff.2 ⟨e.1, e.2⟩)
    rw [← this, hl] at hql
    cases hql
  · rw [List.map_append, List.mem_append, h.mem]
    constructor
    · rintro (⟨q, hq, e, hql⟩ | hx)
      · exact ⟨q, hq, e, by rw [nextL_at hg hp hq, hql]; rfl⟩
      · simp at hx
        exact ⟨p, hp, by rw [hx, hk], by rw [nextL_at hg hp hp, sameK_iff.2 ⟨rfl, rfl⟩]; simp⟩
    · rintro ⟨q, hq, e, hql⟩
      rw [nextL_at hg hp hq] at hql
      cases h2 : left (kyL q.n q.t) with
      | false => exact .inl ⟨q, hq, e, h2⟩
      | true =>
        rw [h2] at hql
        simp at hql
        have := hg.one hp hq hql
        subst this
        right
        simp
        rw [hk, e]
theorem keys_nodup {L : List En} (hg : Good L) : (L.map keyP).Nodup := by
  have := hg.dis
  unfold Dis at this
  refine List.pairwise_map.2 (this.imp (fun {a b} h e => ?_))
  unfold keyP at e
  simp at e
  rw [sameK_iff.2 ⟨e.1.symm, e.2.symm⟩] at h
  cases h
theorem col_end {L : List En} (hg : Good L) {left : Lit → Bool} {ss : List Ky} (h : Col L left ss) (hl : ∀ kl, left kl = false) : (ss.map Subtype.val).Perm (L.map keyP) := by
  refine (List.perm_ext_iff_of_nodup h.nd (keys_nodup hg)).2 (fun x => ?_)
  rw [h.mem, List.mem_map]
  exact ⟨fun ⟨p, hp, e, _⟩ => ⟨p, hp, e⟩, fun ⟨p, hp, e⟩ => ⟨p, hp, e, hl _⟩⟩

set_option maxHeartbeats 1000000 in
/-- maps.Keys(m): the map is boxed. -/
theorem keys_in (n : Nat) (mb : Option Nat) (w : World) :
    CallsIn Fence.wide n Try.prog 33 #[.map mb] w fun e w' => e = .returned (.func (.func 43) #[] #[.pointer (some ⟨w.heap.size, 0, none⟩)]) ∧ w' = w.alloc (.cells #[.map mb] 56) := by
  refine callsIn_of_wp Try.func33 rfl trivial ?_ rfl
  simp only [Try.ntmps33, List.size_toArray, List.length_cons, List.length_nil, Nat.reduceAdd, Nat.reduceSub, Array.replicate_succ, Array.replicate_zero, List.push_toArray, List.append_toArray, List.nil_append, List.cons_append]
  gi_wp2
  go_ret
  exact ⟨rfl, rfl⟩

/-- A range over the map, inside a fence: one of its entries comes. -/
theorem wpListIn_next_e {F : Fence} {m : Nat} (w : World) {ops : Array Oper} {rest : List Oper} {o : Oper} {a : Act} {Q : Exit → Act → World → Prop} (hgd : o.guard = none) (it : Operand) (hop : o.op = Op.next it false) (b r n cnt : Nat) (D : DataW Int) (left : Lit → Bool) (L : List En)
    (hit : a.eval it = .pointer (some ⟨r, 0, none⟩)) (h : w.ranges Try.prog 63 rE b r n D left cnt) (hm : MapOf D L) (hg : Good L)
    (hDone : cnt = 0 → (∀ kl, left kl = false) → wpListIn F m Try.prog ops Q rest (a.put o.dst (.tuple #[.bool false])) w)
    (hMore : ∀ (pe : En) (w' : World) (cnt' : Nat), pe ∈ L → left (kyL pe.n pe.t) = true → w'.ranges Try.prog 63 rE b r n D (fun x => left x && !x.sameKey (kyL pe.n pe.t)) cnt' → cnt' < cnt → w.grownBy w' (some r) → w'.heap.size = w.heap.size →
      (Instr.entry (.pointer (some ⟨r, 0, none⟩))).run Try.prog w' = .ok (.tuple #[kyV pe.n pe.t, .int .i64 pe.u]) w' → wpListIn F m Try.prog ops Q rest (a.put o.dst (.tuple #[.bool true, kyV pe.n pe.t, .int .i64 pe.u])) w') :
    wpListIn F m Try.prog ops Q (o :: rest) a w := by
  refine wpListIn_next_ranges w hgd it hop 63 keyE rE id id (fun key _ _ => ⟨key, rfl⟩) (fun v _ _ => ⟨v, rfl⟩) b r n D left cnt hit h hDone ?_
  intro x c kl y w' cnt' hkey hlk hv hat hrg hlt hgr hsz hen
  have hh := Maps.has_true_of_atKey hat
  obtain ⟨es, rfl, hp⟩ := hm
  have hh2 := hh
  rw [Maps.has_eq, any_perm hp, List.any_eq_true] at hh2
  obtain ⟨q, hq, hs⟩ := hh2
  obtain ⟨p, hpL, rfl⟩ := List.mem_map.1 hq
  have hkl : kyL p.n p.t = kl := WideAt.sameKey_eq hs
  subst hkl
  have hk2 := keyOf_e (max_ok (hg.ok p hpL).k) (wf_ok (hg.ok p hpL).k)
  have : x = kyV p.n p.t := keyE.inj hkey hk2
  subst this
  have ha := mapOf_at (L := L) ⟨es, rfl, hp⟩ hg hpL (.nil)
  rw [hat] at ha
  obtain ⟨c', hc1, hc2⟩ := rE_inv hv
  have : c' = p.u := by
    have := congrArg Prod.fst hc2
    rw [ha] at this
    cases this
    rfl
  subst this
  subst hc1
  exact hMore p w' cnt' hpL hlk hrg hlt hgr hsz hen

end Ng
end Go.Proofs.Ytphhljbeaklikaa

/- What maps.Keys' iterator gives; slices.AppendSeq, slices.Collect. -/
namespace Go.Proofs.Ytphhljbeaklikaa
open Go.RowKit Go.Shelf
open Pl
namespace Ng
attribute [local go_sem] Oper.semAt_some

set_option maxRecDepth 100000 in
set_option maxHeartbeats 1000000 in
/-- The iterator of maps.Keys: each key comes once, in some order, or a round says 'no more'. -/
theorem keys1_in (n : Nat) (hn : 1 ≤ n) (l Bm b : Nat) (L : List En) (J Jx : List Ky → World → Prop)
    (hY : ∀ pre x W, J pre W → pre.length < L.length → YieldAt Fence.wide (n - 1) Try.prog l (kyE x) W fun e W' => (e = .returned (.bool true) ∧ J (pre ++ [x]) W' ∧ KeepsWalks W W') ∨ (e = .returned (.bool false) ∧ Jx (pre ++ [x]) W'))
    (W : World) (hJ : AbidesFrom W.heap.size J) (hm : W.cell? ⟨Bm, 0, none⟩ = some (.map (some b))) (hold : Hold W b L) (h0 : J [] W) :
    CallsIn Fence.wide n Try.prog 43 #[.func (.yield l) #[] #[], .pointer (some ⟨Bm, 0, none⟩)] W fun e W' => (∃ v, e = .returned v) ∧ ((∃ ss : List Ky, (ss.map Subtype.val).Perm (L.map keyP) ∧ J ss W') ∨ (∃ pre : List Ky, True ∧ Jx pre W')) := by
  obtain ⟨D0, hown, hmo⟩ := hold.own
  have hg := hold.good
  refine callsIn_of_wp Try.func43 rfl trivial ?_ rfl
  simp only [Try.ntmps43, List.size_toArray, List.length_cons, List.length_nil, Nat.reduceAdd, Nat.reduceSub, Array.replicate_succ, Array.replicate_zero, List.push_toArray, List.append_toArray, List.nil_append, List.cons_append]
  clear hold
  gi_wp2_with (first
    | (gi_at_range; refine wpListIn_range_own _ rfl _ 56 rfl 63 3 keyE Try.underlying56 _ b L.length _ rfl hown ?_; intro w0 hrg0 hg0 hs0)
    | gi_in)
  go_frame
  gi_loopw [6] (fun _ wr => ∃ (left : Lit → Bool) (cnt : Nat) (ss : List Ky), wr.ranges Try.prog 63 rE b W.heap.size L.length D0 left cnt ∧ ss.length + cnt ≤ L.length ∧ Col L left ss ∧ J ss wr)
    (fun _ wr => wr.rangeLeft b W.heap.size)
  case atStart =>
    exact ⟨_, _, [], hrg0, by rw [mapOf_size hmo]; simp, col_start hmo hg, hJ [] W w0 none h0 hg0 (fun r e => by cases e)⟩
  case round =>
    obtain ⟨left, cnt, ss, hrg, hcs, hC, hJs⟩ := hrel
    gi_wp2_with (first
      | (gi_at_next; refine wpListIn_next_e _ rfl (.tmp 5) rfl b W.heap.size L.length cnt D0 left L rfl hrg hmo hg ?_ ?_)
      | gi_in)
    · intro hc0 hl0
      gi_wp2
      go_end0
      exact ⟨⟨_, rfl⟩, .inl ⟨ss, col_end hg hC hl0, hJs⟩⟩
    · intro pe w2 cnt2 hpL hlk hrg2 hlt hg2 hs2 hen
      have hok := (hg.ok _ hpL).k
      have hJ2 : J ss w2 := hJ ss wr w2 (some W.heap.size) hJs hg2 (fun r e => by cases e; exact ⟨Nat.le_refl _, hrg.iter_walk⟩)
      have hJ3 : J ss (w2.alloc (.cells #[.string pe.n, .int .i64 pe.t] 63)) := hJ ss w2 _ none hJ2 (World.grownBy_alloc w2 _ none) (fun r e => by cases e)
      have hY2 := hY ss ⟨(pe.n, pe.t), hok⟩ _ hJ3 (by omega)
      unfold kyE at hY2
      obtain ⟨fn, tmps, assign, body, hy, hR⟩ := hY2
      have hC2 := col_step hg hC hpL hlk ⟨(pe.n, pe.t), hok⟩ rfl
      have hrg3 := hrg2.alloc (.cells #[.string pe.n, .int .i64 pe.t] 63)
      clear hs2
      unfold kyV at hen ⊢
      obtain ⟨pn, pt, pl, pds, pr, pu⟩ := pe
      simp only at hen hy hR hC2 hrg3 ⊢
      gi_wp2
      refine hR.mono ?_
      rintro e W3 (⟨rfl, hJ4, hk3⟩ | ⟨rfl, hJx3⟩)
      · gi_wp2
        have hrg4 := hrg3.of_walks hk3
        go_roundw
        case rel => exact ⟨_, cnt2, _, hrg4, by simp; omega, hC2, hJ4⟩
        case measure => rw [hrg4.left_eq, hrg.left_eq]; exact hlt
      · gi_wp2
        refine bodyPost_ret (results_none rfl _ _ _) rfl ?_
        exact ⟨⟨_, rfl⟩, .inr ⟨_, trivial, hJx3⟩⟩

theorem keys_stops (n : Nat) (hn : 1 ≤ n) (Bm b : Nat) (L : List En) (w : World) (hBm : Bm < w.heap.size) (hm : w.cell? ⟨Bm, 0, none⟩ = some (.map (some b))) (hold : Hold w b L) :
    SeqStopsK Fence.wide n Try.prog 43 #[.pointer (some ⟨Bm, 0, none⟩)] kyE KeepsWalks (fun ss : List Ky => (ss.map Subtype.val).Perm (L.map keyP)) (fun _ => True) L.length w := fun l J Jx W hW hJ _ hY h0 =>
  keys1_in n hn l Bm b L J Jx hY W hJ ((hW.cell (p := ⟨Bm, 0, none⟩) hBm).trans hm) (hold.turn (Turn.of_below (S := fun _ => False) hW) id) h0
set_option maxRecDepth 100000 in
set_option maxHeartbeats 1000000 in
theorem keys1_nil (n : Nat) (l Bm : Nat) (J Jx : List Ky → World → Prop) (W : World) (hJ : AbidesFrom W.heap.size J) (hm : W.cell? ⟨Bm, 0, none⟩ = some (.map none)) (h0 : J [] W) :
    CallsIn Fence.wide n Try.prog 43 #[.func (.yield l) #[] #[], .pointer (some ⟨Bm, 0, none⟩)] W fun e W' => (∃ v, e = .returned v) ∧ ((∃ ss : List Ky, (ss.map Subtype.val).Perm (([] : List En).map keyP) ∧ J ss W') ∨ (∃ pre : List Ky, True ∧ Jx pre W')) := by
  refine callsIn_of_wp Try.func43 rfl trivial ?_ rfl
  simp only [Try.ntmps43, List.size_toArray, List.length_cons, List.length_nil, Nat.reduceAdd, Nat.reduceSub, Array.replicate_succ, Array.replicate_zero, List.push_toArray, List.append_toArray, List.nil_append, List.cons_append]
  have hrg := run_range_nilMap (P := Try.prog) W 56 63 3 Try.underlying56
  have hnx : ∀ ty, (Instr.next (.pointer (some ⟨W.heap.size, 0, none⟩)) false ty).run Try.prog (W.alloc (.mapIter none 0 #[] 0)) = _ := fun ty => run_next_nilMap _ ty 0 0 #[]
  gi_wp2
  refine wpIn_loop_rounds 1 ?_
  rw [roundsIn_succ]
  gi_wp2
  go_end0
  exact ⟨⟨_, rfl⟩, .inl ⟨[], List.Perm.refl _, hJ [] W _ none h0 (World.grownBy_alloc W _ none) (fun r e => by cases e)⟩⟩

theorem infoK : (Try.prog.info? 63).map (fun i => (i.zero, i.size, i.bytes)) = some (some (.agg #[.string ⟨#[]⟩, .int .i64 0]), 2, 24) := by kernel_rfl
theorem cell_key (w : World) (a b : Value) (t : TypeId) : ∀ j u, [a, b][j]? = some u → (w.alloc (.cells #[a, b] t)).cell? ((⟨w.heap.size, 0, none⟩ : Addr).add j) = some u := by
  intro j u hj
  have hadd : (⟨w.heap.size, 0, none⟩ : Addr).add j = ⟨w.heap.size, j, none⟩ := by unfold Addr.add; split <;> simp_all
  rw [hadd, (Blk.new w #[a, b] t).cell j]
  simpa using hj

def kyF (ss : List Ky) : List Value := ss.flatMap kyC
theorem kyF_len (ss : List Ky) : (kyF ss).length = ss.length * 2 := flat_len (f := kyC) (z := 2) (fun _ => rfl) ss
set_option maxRecDepth 100000 in
set_option maxHeartbeats 2000000 in
/-- slices.AppendSeq(nil, seq). -/
theorem appendSeq_in (n : Nat) (hn : 2 ≤ n) (g : Nat) (lb : Array Value) (eg : ∀ args w, (callFunc g args).run Try.prog w = .ok (.enter g args) w) (S : List Ky → Prop) (N : Nat) (hN : N ≤ 1000) (w : World) (hseq : SeqStopsK Fence.wide (n - 1) Try.prog g lb kyE KeepsWalks S (fun _ => True) N w) :
    CallsIn Fence.wide n Try.prog 49 #[.slice none 0 0, .func (.func g) #[] lb] w fun e w' => ∃ (v : Value) (ss : List Ky), e = .returned v ∧ S ss ∧ w'.ownsRow w.heap.size 63 2 v ss.length (kyF ss) ∧ (v = .slice none 0 0 ↔ ss = []) ∧ Below w.heap.size w w' := by
  obtain ⟨i0, hi, hz0, hz1, hz2⟩ := info_parts infoK
  refine callsIn_of_wp_marks Try.func49 rfl trivial ?_ rfl
  simp only [Try.ntmps49, List.size_toArray, List.length_cons, List.length_nil, Nat.reduceAdd, Nat.reduceSub, Array.replicate_succ, Array.replicate_zero, List.push_toArray, List.append_toArray, List.nil_append, List.cons_append]
  gi_wp2
  have hb0 : Below w.heap.size w (w.alloc (.cells #[.slice none 0 0] 69)) := lay (Below.refl _ _) _
  refine wpIn_rangeFunc_ownH rfl (by omega) (gf := g) (lb := lb) rfl trivial eg hseq walksK_t walksK_b hb0 (fun _ => rfl)
    (fun pre W => (∃ v, Boxed W w.heap.size 69 v ∧ W.ownsRow w.heap.size 63 2 v pre.length (kyF pre) ∧ (v = .slice none 0 0 ↔ pre = [])) ∧ Below w.heap.size w W) (fun _ _ _ => False)
    (OwnFrom.and (Own.from (holdsRow_own w.heap.size w.heap.size 69 63 2 (fun pre : List Ky => pre.length) (fun pre => kyF pre) (fun pre v => v = .slice none 0 0 ↔ pre = [])) _) (ownFrom_below (Nat.le_refl _) (by simp)))
    (fun _ _ _ _ _ h _ _ => h.elim) ⟨⟨_, Boxed.new w _ _, World.ownsRow_nil _ _ _ _, by simp⟩, hb0⟩
    (fun x a' W => ∃ Bx, w.heap.size < Bx ∧ Blk W Bx #[.string x.1.1, .int .i64 x.1.2] 63 ∧ a' = { tmps := #[.slice none 0 0, .func (.func g) #[] lb, .pointer (some ⟨w.heap.size, 0, none⟩), undef, .slice none 0 0, .pointer (some ⟨Bx, 0, none⟩), .func (.func g) #[] lb, .agg #[.string x.1.1, .int .i64 x.1.2], undef, undef, undef, undef, undef], defers := [] })
    (fun x a' _ X Y row => ?_) ?_ ?_ ?_ ?_
  · rintro ⟨Bx, h1, h2, h3⟩ hg hrow
    refine ⟨Bx, h1, h2.grown hg (fun e => ?_), h3⟩
    obtain ⟨_, o, ho, hc⟩ := hrow Bx e.symm
    have h2' : X.heap[Bx]? = some (.cells #[.string x.1.1, .int .i64 x.1.2] 63 (0, 0)) := h2
    rw [h2'] at ho; cases ho; cases hc
  · rintro l pre x W K ⟨⟨v, hv, hrow, hnil⟩, hB⟩ hK
    unfold kyE
    gi_wp2
    exact hK _ _ ((KeepsOthers.alloc _ _).from _) (KeepsWalks.alloc _ _) ⟨⟨v, hv.alloc _, hrow.alloc _, hnil⟩, lay hB _⟩ ⟨W.heap.size, hv.lt, Blk.new W _ _, rfl⟩
  · rintro l pre x a' W hl ⟨r, hr⟩ ⟨⟨v, hv, hrow, hnil⟩, hB⟩ ⟨Bx, hBx, bX, rfl⟩ hlt
    have hc := hv.cell
    have d0 := bX.cell 0
    have d1 := bX.cell 1
    simp only [List.getElem?_toArray, List.getElem?_cons_succ, List.getElem?_cons_zero] at d0 d1
    gi_wp2_with (gi_at_builtin; refine wpListIn_append_own _ rfl (.tmp 8) (.tmp 10) 69 rfl w.heap.size 63 i0 _ 2 24 Try.underlying69 hi hz0 hz1 hz2 rfl (by decide) v pre.length (kyF pre) rfl (hrow.alloc _) ⟨W.heap.size, 0, none⟩ 1 1 (kyC x) rfl rfl (cell_key _ _ _ _) (by unfold kyC; simp [Value.oneCell']) (by unfold maxLen; omega) (by omega) (by have := hB.size; simp; omega) ?_; intro v' w1 hown' hgrow _; obtain ⟨g', cap', rfl⟩ := ownsRow_succ hown'; obtain ⟨hv1, hv2, hr2, hk2, hb2⟩ := hv.appended (by decide) hrow hB.size (Nat.le_refl _) hown' hgrow; have hc1 := hv1.cell; have hf1 := hv1.frozen)
    refine ⟨hk2.from _, ⟨hk2.size, fun k o h ho => hk2.same k o h (by cases o <;> simp_all [Obj.isWalk, Obj.isCells])⟩, ⟨⟨_, hv2, ?_, by simp⟩, hB.trans hb2⟩⟩
    rw [List.length_append, List.length_singleton]
    have e : kyF (pre ++ [x]) = kyF pre ++ kyC x := by unfold kyF; simp
    rw [e]
    exact hr2
  · rintro D xs W hD hS ⟨⟨v, hv, hrow, hnil⟩, hB⟩ hK
    have hc := hv.cell
    gi_wp2
    refine ⟨by simp, .inl ⟨_, _, rfl, run_takeDeferred hK, ?_⟩⟩
    exact ⟨_, results_tmp rfl _ _ _, v, xs, rfl, hS, ownsRow_putObj hrow _ hK rfl, hnil, hB.trans (belowK_b (w := w) (Nat.le_refl _) W D _ _ (by simp at hD; omega) hK rfl rfl)⟩
  · rintro D c pre W hD _ hF
    exact hF.elim

end Ng
end Go.Proofs.Ytphhljbeaklikaa

/- slices.Collect, slices.SortFunc, slices.SortedFunc over the keys of a map. -/
namespace Go.Proofs.Ytphhljbeaklikaa
open Go.RowKit Go.Shelf Go.Sort
open Pl
namespace Ng
attribute [local go_sem] Oper.semAt_some

/-- The numbers of slices.SortFunc and what it calls, at the map's keys. -/
def renK : Ren := ⟨fun | 6 => 42 | 15 => 51 | 14 => 50 | 28 => 66 | 29 => 67 | 20 => 58 | 21 => 59 | 22 => 60 | 23 => 61 | 24 => 62 | 25 => 63 | 26 => 64 | 27 => 65 | 46 => 69 | 47 => 70 | 48 => 71 | 49 => 72 | 50 => 73 | 57 => 75 | n => n, fun | 22 => 69 | 24 => 63 | 25 => 74 | 3 => 3 | 39 => 48 | 0 => 0 | 53 => 103 | 55 => 105 | 4 => 4 | 46 => 97 | 45 => 96 | 50 => 78 | 5 => 5 | 9 => 9 | 66 => 108 | 70 => 112 | 76 => 115 | 77 => 116 | n => n, fun n => n⟩
theorem laysK : SlLaysF0.n6 Try.prog renK :=
  { mixed := by kernel_rfl
    f6 := ⟨Try.f42.name, by decide, Try.func42.trans (congrArg some (by kernel_rfl))⟩
    f14 := ⟨Try.f50.name, by decide, Try.func50.trans (congrArg some (by kernel_rfl))⟩
    f15 := Try.func51.trans (congrArg some (by kernel_rfl))
    f20 := ⟨Try.f58.name, by decide, Try.func58.trans (congrArg some (by kernel_rfl))⟩
    f21 := ⟨Try.f59.name, by decide, Try.func59.trans (congrArg some (by kernel_rfl))⟩
    f22 := ⟨Try.f60.name, by decide, Try.func60.trans (congrArg some (by kernel_rfl))⟩
    f23 := ⟨Try.f61.name, by decide, Try.func61.trans (congrArg some (by kernel_rfl))⟩
    f24 := ⟨Try.f62.name, by decide, Try.func62.trans (congrArg some (by kernel_rfl))⟩
    f25 := ⟨Try.f63.name, by decide, Try.func63.trans (congrArg some (by kernel_rfl))⟩
    f26 := ⟨Try.f64.name, by decide, Try.func64.trans (congrArg some (by kernel_rfl))⟩
    f27 := ⟨Try.f65.name, by decide, Try.func65.trans (congrArg some (by kernel_rfl))⟩
    f28 := Try.func66.trans (congrArg some (by kernel_rfl))
    f29 := Try.func67.trans (congrArg some (by kernel_rfl))
    f46 := ⟨Try.f69.name, by decide, Try.func69.trans (congrArg some (by kernel_rfl))⟩
    f47 := Try.func70.trans (congrArg some (by kernel_rfl))
    f48 := Try.func71.trans (congrArg some (by kernel_rfl))
    f49 := ⟨Try.f72.name, by decide, Try.func72.trans (congrArg some (by kernel_rfl))⟩
    f50 := ⟨Try.f73.name, by decide, Try.func73.trans (congrArg some (by kernel_rfl))⟩
    f57 := ⟨Try.f75.name, by decide, Try.func75.trans (congrArg some (by kernel_rfl))⟩
    t0 := Try.underlying0
    a0 := Try.isAgg0
    z0 := Try.sizeOf0
    v0 := Try.zeroValue0
    t3 := Try.underlying3
    a3 := Try.isAgg3
    z3 := Try.sizeOf3
    v3 := Try.zeroValue3
    t4 := Try.underlying4
    a4 := Try.isAgg4
    z4 := Try.sizeOf4
    v4 := Try.zeroValue4
    t5 := Try.underlying5
    a5 := Try.isAgg5
    z5 := Try.sizeOf5
    v5 := Try.zeroValue5
    t9 := Try.underlying9
    a9 := Try.isAgg9
    z9 := Try.sizeOf9
    v9 := Try.zeroValue9
    t22 := Try.underlying69
    a22 := Try.isAgg69
    z22 := Try.sizeOf69
    v22 := Try.zeroValue69
    t25 := Try.underlying74
    a25 := Try.isAgg74
    z25 := Try.sizeOf74
    v25 := Try.zeroValue74
    t39 := Try.underlying48
    a39 := Try.isAgg48
    z39 := Try.sizeOf48
    v39 := Try.zeroValue48
    t45 := Try.underlying96
    a45 := Try.isAgg96
    z45 := Try.sizeOf96
    v45 := Try.zeroValue96
    t46 := Try.underlying97
    a46 := Try.isAgg97
    z46 := Try.sizeOf97
    v46 := Try.zeroValue97
    t50 := Try.underlying78
    a50 := Try.isAgg78
    z50 := Try.sizeOf78
    v50 := Try.zeroValue78
    t53 := Try.underlying103
    a53 := Try.isAgg103
    z53 := Try.sizeOf103
    v53 := Try.zeroValue103
    t55 := Try.underlying105
    a55 := Try.isAgg105
    z55 := Try.sizeOf105
    v55 := Try.zeroValue105
    t66 := Try.underlying108
    a66 := Try.isAgg108
    z66 := Try.sizeOf108
    v66 := Try.zeroValue108
    t70 := Try.underlying112
    a70 := Try.isAgg112
    z70 := Try.sizeOf112
    v70 := Try.zeroValue112
    t76 := Try.underlying115
    a76 := Try.isAgg115
    z76 := Try.sizeOf115
    v76 := Try.zeroValue115
    t77 := Try.underlying116
    a77 := Try.isAgg116
    z77 := Try.sizeOf116
    v77 := Try.zeroValue116 }

theorem agg_key (w : World) : (isAgg 63).run Try.prog w = .ok true w := by kernel_rfl
theorem size_key (w : World) : (Go.sizeOf 63).run Try.prog w = .ok 2 w := by kernel_rfl
def cfK (x y : Ky) : Int := cK x.1.1 x.1.2 y.1.1 y.1.2
theorem lt_cf (x y : Ky) : ltOf cfK x y = decide (cK x.1.1 x.1.2 y.1.1 y.1.2 < 0) := rfl
theorem swoK : SWO (ltOf cfK) where
  irrefl x := by rw [lt_cf, cK_self]; rfl
  trans x y z h1 h2 := by rw [lt_cf] at *; simp only [decide_eq_true_eq] at *; exact cK_trans h1 h2
  ntrans x y z h1 h2 := by
    rw [lt_cf] at *
    simp only [decide_eq_false_iff_not] at *
    intro h3
    have a1 := cK_anti x.1.1 x.1.2 y.1.1 y.1.2
    have a2 := cK_anti y.1.1 y.1.2 z.1.1 z.1.2
    by_cases e1 : cK x.1.1 x.1.2 y.1.1 y.1.2 = 0
    · obtain ⟨e2, e3⟩ := cK_zero x.2 y.2 e1
      rw [e2, e3] at h3
      exact h2 h3
    · have h4 : cK y.1.1 y.1.2 x.1.1 x.1.2 < 0 := by omega
      exact h2 (cK_trans h4 h3)
theorem totK (x y : Ky) (h1 : ltOf cfK x y = false) (h2 : ltOf cfK y x = false) : x = y := by
  rw [lt_cf] at *
  simp only [decide_eq_false_iff_not] at *
  have a1 := cK_anti x.1.1 x.1.2 y.1.1 y.1.2
  have := cK_zero x.2 y.2 (by omega)
  exact Subtype.ext (Prod.ext this.1 this.2)

/-- What lays new blocks alone is a growth. -/
theorem below_grow {w w' : World} (h : Below w.heap.size w w') (hd : w.drawn ≤ w'.drawn) : ∃ q os, w' = grow (w.drewN q) os := by
  refine ⟨w'.drawn - w.drawn, w'.heap.extract w.heap.size w'.heap.size, ?_⟩
  have e1 : w.heap ++ w'.heap.extract w.heap.size w'.heap.size = w'.heap := by
    apply Array.ext_getElem?
    intro i
    by_cases hi : i < w.heap.size
    · rw [Array.getElem?_append_left hi]
      exact (h.block i hi).symm
    · rw [Array.getElem?_append_right (by omega), Array.getElem?_extract]
      have := h.size
      by_cases hj : i < w'.heap.size
      · rw [if_pos (by omega)]
        congr 1; omega
      · rw [if_neg (by omega), Array.getElem?_eq_none (by omega)]
  have e2 : w.drawn + (w'.drawn - w.drawn) = w'.drawn := by omega
  unfold grow World.drewN
  simp only [e1, e2]
  cases w'
  have h1 := h.os
  have h2 := h.tape
  have h3 := h.output
  simp only at h1 h2 h3
  rw [h1, h2, h3]
theorem cmpK [Inhabited Ky] (blk off size : Nat) (w : World) : CmpLays Try.prog 34 #[] kyC 2 cfK blk off size w := fun m os dk _ x y => by
  refine (order_d x.1.1 y.1.1 x.1.2 y.1.2 (sortWorldK kyC 2 w blk off m dk os) (max_ok x.2) (max_ok y.2)).mono ?_
  rintro e w' ⟨he, hb, hd⟩
  exact ⟨he, below_grow hb hd⟩
theorem flat_list [Inhabited Ky] (ss : List Ky) : (flatK kyC 2 ss.toArray).toList = kyF ss := by
  apply List.ext_getElem?
  intro j
  by_cases hj : j < ss.length * 2
  · have h1 : j < (flatK kyC 2 ss.toArray).size := by simpa using hj
    rw [Array.getElem?_toList, Array.getElem?_eq_getElem h1]
    have h2 := get_flatK kyC 2 ss.toArray j (by simpa using hj)
    rw [getElem!_pos (flatK kyC 2 ss.toArray) j h1] at h2
    rw [h2]
    have h3 := flat_get (f := kyC) (z := 2) (fun _ => rfl) ss (j / 2) (by omega) (j % 2) (Nat.mod_lt _ (by decide))
    rw [show j / 2 * 2 + j % 2 = j from by omega] at h3
    unfold kyF
    rw [h3]
    have h4 : ss.toArray[j / 2]! = ss[j / 2]'(by omega) := by rw [getElem!_pos ss.toArray (j / 2) (by simp; omega)]; simp
    rw [h4]
    have h5 : j % 2 = 0 ∨ j % 2 = 1 := by omega
    rcases h5 with e | e <;> rw [e] <;> rfl
  · rw [List.getElem?_eq_none (by rw [Array.length_toList]; simp; omega), List.getElem?_eq_none (by rw [kyF_len]; omega)]
theorem holds_key {w : World} {g : Nat} {cur : Array Value} {e : TypeId} {ss : List Ky} [Inhabited Ky] (hb : w.heap[g]? = some (.cells cur e (0, 0))) (ht : cur.toList.take (ss.length * 2) = kyF ss) : HoldsK kyC 2 w g 0 ss.toArray := by
  intro j hj
  have hj' : j < ss.length * 2 := by simpa using hj
  refine ⟨?_, by simp [World.frozen?, hb]⟩
  have h1 : (cur.toList.take (ss.length * 2))[j]? = (kyF ss)[j]? := by rw [ht]
  rw [List.getElem?_take_of_lt hj', ← flat_list ss, Array.getElem?_toList, Array.getElem?_toList] at h1
  simp only [World.cell?, hb, Nat.zero_add]
  rw [Array.getElem?_eq_getElem hj] at h1
  simp only [Option.isSome_none, Bool.false_eq_true, if_false]
  rw [h1, getElem!_pos (flatK kyC 2 ss.toArray) j hj]
  rfl
theorem heap_key {w : World} {g n : Nat} {os : Array Obj} {cur : Array Value} {e : TypeId} {fr : Nat × Nat} (d : Array Value) (hb : w.heap[g]? = some (.cells cur e fr)) :
    (grow (putRow id (Sort.ahead w n) g 0 d) os).heap[g]? = some (.cells (putCells id 0 d cur) e fr) := by
  have hg : g < w.heap.size := (Array.getElem?_eq_some_iff.1 hb).1
  rw [heap_grow_old _ _ (by simpa using hg)]
  simp [putRow, mapBlock, Sort.ahead, Array.getElem?_modify, hb, onCells]
theorem grown_key {w : World} {g n : Nat} {os : Array Obj} (d : Array Value) : w.grownBy (grow (putRow id (Sort.ahead w n) g 0 d) os) (some g) := by
  refine ⟨rfl, rfl, rfl, by simp, fun k hk hne => ?_⟩
  rw [heap_grow_old _ _ (by simpa using hk)]
  have : g ≠ k := fun e => hne (by rw [e])
  simp [putRow, mapBlock, Sort.ahead, Array.getElem?_modify, this]
theorem take_key (cur : Array Value) (ts : List Value) (h : ts.length ≤ cur.size) : (putCells id 0 ts.toArray cur).toList.take ts.length = ts := by
  apply List.ext_getElem?
  intro j
  by_cases hj : j < ts.length
  · rw [List.getElem?_take_of_lt hj, Array.getElem?_toList]
    simp [putCells, hj, show j < cur.size by omega]
  · rw [List.getElem?_take_eq_none (by omega), List.getElem?_eq_none (by omega)]
theorem own_sorted {w : World} {base g cap n : Nat} {e : TypeId} {os : Array Obj} {cur : Array Value} {ss ts : List Ky} [Inhabited Ky] (hl : ts.length = ss.length) (hbase : base ≤ g) (hb : w.heap[g]? = some (.cells cur e (0, 0))) (h1 : ss.length ≤ cap) (h2 : cap ≤ maxLen) (h3 : cur.size = cap * 2) :
    (sortWorldK kyC 2 w g 0 n ts.toArray os).ownsRow base e 2 (.slice (some ⟨g, 0, none⟩) ss.length cap) ss.length (kyF ts) := by
  unfold sortWorldK putRowK
  have e1 : flatK kyC 2 ts.toArray = (kyF ts).toArray := by rw [← flat_list ts]
  rw [e1]
  refine ⟨by rw [kyF_len, hl], .inr ⟨g, cap, _, rfl, hbase, heap_key _ hb, h1, h2, by simp [putCells, h3], ?_⟩⟩
  have := take_key cur (kyF ts) (by rw [kyF_len, h3, hl]; omega)
  rw [kyF_len, hl] at this
  exact this

set_option maxHeartbeats 1000000 in
/-- slices.Collect(seq). -/
theorem collect_in (n : Nat) (hn : 3 ≤ n) (g : Nat) (lb : Array Value) (eg : ∀ args w, (callFunc g args).run Try.prog w = .ok (.enter g args) w) (S : List Ky → Prop) (N : Nat) (hN : N ≤ 1000) (w : World) (hseq : SeqStopsK Fence.wide (n - 1 - 1) Try.prog g lb kyE KeepsWalks S (fun _ => True) N w) :
    CallsIn Fence.wide n Try.prog 41 #[.func (.func g) #[] lb] w fun e w' => ∃ (v : Value) (ss : List Ky), e = .returned v ∧ S ss ∧ w'.ownsRow w.heap.size 63 2 v ss.length (kyF ss) ∧ (v = .slice none 0 0 ↔ ss = []) ∧ Below w.heap.size w w' := by
  have h1 : 1 ≤ n := by omega
  have hf : Fence.wide.fn 49 := trivial
  refine callsIn_of_wp Try.func41 rfl trivial ?_ rfl
  simp only [Try.ntmps41, List.size_toArray, List.length_cons, List.length_nil, Nat.reduceAdd, Nat.reduceSub, Array.replicate_succ, Array.replicate_zero, List.push_toArray, List.append_toArray, List.nil_append, List.cons_append]
  gi_wp2_with (gi_at_call 49; refine (appendSeq_in (n - 1) (by omega) g lb eg S N hN _ hseq).mono ?_; rintro e w' ⟨v, ss, rfl, hS, hrow, hnil, hb⟩)
  go_ret
  exact ⟨v, ss, rfl, hS, hrow, hnil, hb⟩

/-- The keys in their row. -/
def srtK (ss : List Ky) : List Ky := ss.mergeSort fun x y => !ltOf cfK y x
theorem srt_perm (ss : List Ky) : (srtK ss).Perm ss := List.mergeSort_perm _ _
theorem srt_rise {ss : List Ky} (hn : ss.Nodup) : (srtK ss).Pairwise (fun x y => cfK x y < 0) := by
  have tr : ∀ a b c : Ky, (!ltOf cfK b a) = true → (!ltOf cfK c b) = true → (!ltOf cfK c a) = true := fun a b c h1 h2 => by
    simp only [Bool.not_eq_true'] at *
    exact swoK.ntrans _ _ _ h2 h1
  have tot : ∀ a b : Ky, ((!ltOf cfK b a) || (!ltOf cfK a b)) = true := fun a b => by
    cases h1 : ltOf cfK b a with
    | false => rfl
    | true =>
      cases h2 : ltOf cfK a b with
      | false => rfl
      | true => have := swoK.trans _ _ _ h1 h2; rw [swoK.irrefl] at this; cases this
  have h1 := List.pairwise_mergeSort (le := fun x y => !ltOf cfK y x) tr tot ss
  have h2 : (srtK ss).Nodup := (srt_perm ss).nodup_iff.2 hn
  refine (List.Pairwise.and h1 h2).imp (fun {a b} h => ?_)
  obtain ⟨h3, h4⟩ := h
  simp only [Bool.not_eq_true'] at h3
  cases h5 : ltOf cfK a b with
  | true => rw [lt_cf] at h5; simp only [decide_eq_true_eq] at h5; exact h5
  | false => exact absurd (totK a b h5 h3) h4
theorem inhK : Nonempty (Inhabited Ky) := ⟨⟨⟨(⟨#[0]⟩, 1), ⟨by decide, by decide, by decide, by decide⟩⟩⟩⟩

set_option maxRecDepth 100000 in
set_option maxHeartbeats 2000000 in
/-- slices.SortedFunc(seq, order). -/
theorem sortedFunc_in (n : Nat) (hn : 4 ≤ n) (g : Nat) (lb : Array Value) (eg : ∀ args w, (callFunc g args).run Try.prog w = .ok (.enter g args) w) (S : List Ky → Prop) (N : Nat) (hN : N ≤ 1000) (hS' : ∀ ss, S ss → ss.length ≤ N) (w : World) (hseq : SeqStopsK Fence.wide (n - 1 - 1 - 1) Try.prog g lb kyE KeepsWalks S (fun _ => True) N w) :
    CallsIn Fence.wide n Try.prog 32 #[.func (.func g) #[] lb, .func (.func 34) #[] #[]] w fun e w' => ∃ (v : Value) (ss : List Ky), e = .returned v ∧ S ss ∧ w'.ownsRow w.heap.size 63 2 v ss.length (kyF (srtK ss)) ∧ Below w.heap.size w w' := by
  obtain ⟨hI⟩ := inhK
  have h1 : 1 ≤ n := by omega
  have hf : Fence.wide.fn 41 := trivial
  have hf2 : Fence.wide.fn 42 := trivial
  have eg2 : ∀ args w, (callFunc 34 args).run Try.prog w = .ok (.enter 34 args) w := enters_of Try.func34 (by kernel_rfl) rfl
  refine callsIn_of_wp Try.func32 rfl trivial ?_ rfl
  simp only [Try.ntmps32, List.size_toArray, List.length_cons, List.length_nil, Nat.reduceAdd, Nat.reduceSub, Array.replicate_succ, Array.replicate_zero, List.push_toArray, List.append_toArray, List.nil_append, List.cons_append]
  gi_wp2_with (gi_at_call 41; refine (collect_in (n - 1) (by omega) g lb eg S N hN _ hseq).mono ?_; rintro e W ⟨v, ss, rfl, hS, hrow, hnil, hb⟩)
  rcases hrow.2 with ⟨rfl, hz⟩ | ⟨gb, cap, cur, rfl, hbase, hgb, r1, r2, r3, r4⟩
  · have hss : ss = [] := List.eq_nil_of_length_eq_zero hz
    subst hss
    have cS := fun fv => AnyF.slices_SortFunc_none { laysK with } none 0 fv W
    change ∀ fv, Calls Try.prog 42 _ _ _ at cS
    gi_wp2_with (gi_at_call 42; refine (callsIn_wide.2 (cS _)).mono ?_; rintro e w' ⟨rfl, rfl⟩)
    go_ret
    have e0 : kyF (srtK []) = [] := by unfold srtK; simp [kyF]
    refine ⟨.slice none 0 0, [], rfl, hS, ?_, hb⟩
    rw [e0]
    exact World.ownsRow_nil _ _ _ _
  · have hH : HoldsK kyC 2 W gb 0 ss.toArray := holds_key hgb r4
    have hgl : gb < W.heap.size := (Array.getElem?_eq_some_iff.1 hgb).1
    have hsz : ss.toArray.size < 4611686018427387904 := by have := hS' ss hS; simp; omega
    have cS := AnyQ.slices_SortFunc_total laysK 2 agg_key size_key kyC (fun _ => rfl) (fun x v hv => by unfold kyC at hv; simp at hv; rcases hv with rfl | rfl <;> rfl) cfK swoK 34 #[] gb 0 cap ss.toArray W eg2 (cmpK gb 0 ss.toArray.size W) hH hgl hsz totK
    change Calls Try.prog 42 _ _ _ at cS
    rw [List.size_toArray] at cS
    gi_wp2_with (gi_at_call 42; go_must (refine (callsIn_wide.2 cS).mono ?_); rintro e w' ⟨rfl, nn, os, rfl⟩)
    go_ret
    refine ⟨_, ss, rfl, hS, own_sorted (ts := srtK ss) (srt_perm ss).length_eq hbase hgb r1 r2 r3, ?_⟩
    exact hb.grown (grown_key _) hb.size (fun j hj => by cases hj; exact hbase)

end Ng
end Go.Proofs.Ytphhljbeaklikaa

/- All, plainly: the entries in the row of their keys. -/
namespace Go.Proofs.Ytphhljbeaklikaa
open Go.RowKit Go.Shelf Go.Sort
open Pl
namespace Ng

theorem nodup_map {α β : Type} {f : α → β} {l : List α} (h : (l.map f).Nodup) : l.Nodup := (List.pairwise_map.1 h).imp (fun h e => h (congrArg f e))
/-- The entries of sorted keys. -/
def srtL (L : List En) (ts : List Ky) : List En := ts.filterMap fun x => atL L x.1.1 x.1.2
theorem key_there {L : List En} (hg : Good L) {ts : List Ky} (hp : (ts.map Subtype.val).Perm (L.map keyP)) {x : Ky} (hx : x ∈ ts) : ∃ p ∈ L, atL L x.1.1 x.1.2 = some p ∧ keyP p = x.1 := by
  have := hp.mem_iff.1 (List.mem_map.2 ⟨x, hx, rfl⟩)
  obtain ⟨p, hp', e⟩ := List.mem_map.1 this
  refine ⟨p, hp', ?_, e⟩
  have h1 := atL_mem hg hp'
  rw [← e]
  exact h1
theorem srt_keys {L : List En} (_hg : Good L) : ∀ (ts : List Ky), (∀ x ∈ ts, ∃ p ∈ L, atL L x.1.1 x.1.2 = some p ∧ keyP p = x.1) → (srtL L ts).map keyP = ts.map Subtype.val ∧ ∀ p ∈ srtL L ts, p ∈ L := by
  intro ts
  induction ts with
  | nil => intro _; exact ⟨rfl, fun p hp => by simp [srtL] at hp⟩
  | cons x ts ih =>
    intro h
    obtain ⟨p, hp, ha, hk⟩ := h x (List.mem_cons_self ..)
    obtain ⟨h1, h2⟩ := ih (fun y hy => h y (List.mem_cons_of_mem _ hy))
    have e : srtL L (x :: ts) = p :: srtL L ts := by unfold srtL; rw [List.filterMap_cons, ha]
    rw [e]
    refine ⟨by rw [List.map_cons, List.map_cons, h1, hk], fun q hq => ?_⟩
    rcases List.mem_cons.1 hq with rfl | hq
    · exact hp
    · exact h2 q hq
theorem srt_all {L : List En} (hg : Good L) {ts : List Ky} (hp : (ts.map Subtype.val).Perm (L.map keyP)) (hr : ts.Pairwise (fun x y => cfK x y < 0)) : srtL L ts = allP L ∧ (srtL L ts).length = ts.length := by
  obtain ⟨h1, h2⟩ := srt_keys hg ts (fun x hx => key_there hg hp hx)
  have hlen : (srtL L ts).length = ts.length := by have := congrArg List.length h1; simpa using this
  refine ⟨rise_one ?_ (all_rise hg.ok hg.dis) ?_, hlen⟩
  · have e : (ts.map Subtype.val).Pairwise (fun x y => cK x.1 x.2 y.1 y.2 < 0) := List.pairwise_map.2 hr
    rw [← h1] at e
    unfold RisE
    rw [List.pairwise_map] at e
    exact e
  · refine List.Perm.trans ?_ (all_perm _).symm
    have n1 : ((srtL L ts).map keyP).Nodup := by rw [h1]; exact hp.nodup_iff.2 (keys_nodup hg)
    have n2 := keys_nodup hg
    refine (List.perm_ext_iff_of_nodup (nodup_map n1) (nodup_map n2)).2 (fun p => ⟨h2 p, fun hpL => ?_⟩)
    have : keyP p ∈ (srtL L ts).map keyP := by rw [h1]; exact hp.mem_iff.2 (List.mem_map.2 ⟨p, hpL, rfl⟩)
    obtain ⟨q, hq, e⟩ := List.mem_map.1 this
    have e2 : q.n = p.n ∧ q.t = p.t := by unfold keyP at e; simpa using e
    have := hg.one hpL (h2 q hq) (sameK_iff.2 e2)
    rw [this]; exact hq

/-- m[k] of a key that is held. -/
theorem MapAt.look1 {w : World} {mb : Option Nat} {L : List En} (h : MapAt w mb L) {p : En} (hp : p ∈ L) :
    (Instr.lookup 56 (.map mb) (.agg #[.string p.n, .int .i64 p.t]) false).run Try.prog w = .ok (.int .i64 p.u) w := by
  rcases h with ⟨rfl, rfl⟩ | ⟨b, rfl, hh⟩
  · simp at hp
  · obtain ⟨k, D, ho, hm⟩ := hh.map
    have hok := (hh.good.ok p hp).k
    obtain ⟨v, ps, hrun, hv⟩ := ho.lookup keyE Try.underlying56 (zeroE w) (zd := .held 0) (zp := []) rfl (keyOf_e (max_ok hok) (wf_ok hok))
    obtain ⟨c, rfl, hc⟩ := rE_inv hv
    rw [mapOf_at hm hh.good hp] at hc
    cases hc
    exact hrun
/-- len of the map. -/
theorem wpList_len_e (w : World) {ops : Array Oper} {rest : List Oper} {o : Oper} {a : Act} {Q : Exit → Act → World → Prop} (hgd : o.guard = none) (m : Operand) (ho : o.op = .call { callee := .builtin .len, args := #[m], argTypes := #[56] }) (mb : Option Nat) (L : List En) (hm : a.eval m = .map mb) (h : MapAt w mb L)
    (hK : wpList Try.prog ops Q rest (a.put o.dst (.int .i64 (L.length : Nat))) w) : wpList Try.prog ops Q (o :: rest) a w := by
  refine wpList_plain hgd fun K hK' => ?_
  have hrun := h.len o.type
  unfold Oper.wp
  simp only [execOp, ho, resolve, invoke, builtin, Sem.run_bind, Sem.run_pure, Result.andThen_ok, List.map_toArray, List.map_cons, List.map_nil, hm, hrun]
  exact hK' _ _ hK

end Ng
end Go.Proofs.Ytphhljbeaklikaa

/- Rows of what is not there; what All of a Negs gives. -/
namespace Go.Proofs.Ytphhljbeaklikaa
open Go.RowKit Go.Shelf Go.Sort
open Pl
namespace Ng

/-- slices.SortedFunc(maps.Keys(m), order). -/
theorem sorted_any {w : World} {mb : Option Nat} {L : List En} (h : MapAt w mb L) (hl : L.length ≤ 256) (Bm : Nat) (hBm : Bm < w.heap.size) (hm : w.cell? ⟨Bm, 0, none⟩ = some (.map mb)) :
    Calls Try.prog 32 #[.func (.func 43) #[] #[.pointer (some ⟨Bm, 0, none⟩)], .func (.func 34) #[] #[]] w fun e w' => ∃ (v : Value) (Ls : List En) (ts : List Ky), e = .returned v ∧ w'.ownsRow w.heap.size 63 2 v ts.length (kyF ts) ∧ ts.length = L.length ∧ Ls.map keyP = ts.map Subtype.val ∧ (∀ p ∈ Ls, p ∈ L) ∧ Ls = allP L ∧ Below w.heap.size w w' := by
  refine (callsIn_wide (n := 6)).1 ?_
  have hg := h.good
  have eg : ∀ args w, (callFunc 43 args).run Try.prog w = .ok (.enter 43 args) w := enters_of Try.func43 (by kernel_rfl) rfl
  have hseq : SeqStopsK Fence.wide (6 - 1 - 1 - 1) Try.prog 43 #[.pointer (some ⟨Bm, 0, none⟩)] kyE KeepsWalks (fun ss : List Ky => (ss.map Subtype.val).Perm (L.map keyP)) (fun _ => True) L.length w := by
    rcases h with ⟨rfl, rfl⟩ | ⟨b, rfl, hh⟩
    · exact fun l J Jx W hW hJ _ hY h0 => keys1_nil _ l Bm J Jx W hJ ((hW.cell (p := ⟨Bm, 0, none⟩) hBm).trans hm) h0
    · exact keys_stops _ (by omega) Bm b L w hBm hm hh
  refine (sortedFunc_in 6 (by omega) _ _ eg _ L.length (by omega) (fun ss hs => by have := hs.length_eq; simp at this; omega) w hseq).mono ?_
  rintro e w' ⟨v, ss, rfl, hS, hrow, hb⟩
  have hn : ss.Nodup := nodup_map (hS.nodup_iff.2 (keys_nodup hg))
  have hp2 : ((srtK ss).map Subtype.val).Perm (L.map keyP) := ((srt_perm ss).map _).trans hS
  have hl2 : (srtK ss).length = ss.length := (srt_perm ss).length_eq
  obtain ⟨h1, h2⟩ := srt_keys hg (srtK ss) (fun x hx => key_there hg hp2 hx)
  refine ⟨v, srtL L (srtK ss), srtK ss, rfl, by rw [hl2]; exact hrow, by rw [hl2]; have := hS.length_eq; simpa using this, h1, h2, (srt_all hg hp2 (srt_rise hn)).1, hb⟩

/-- Names, types and ends as cells. -/
def nVc (p : En) : List Value := [.string p.n, .int .i64 p.t, .int .i64 p.u]
def nC (M : List En) : List Value := M.flatMap nVc
theorem nC_len (M : List En) : (nC M).length = M.length * 3 := flat_len (f := nVc) (z := 3) (fun _ => rfl) M
theorem nC_app (a b : List En) : nC (a ++ b) = nC a ++ nC b := by simp [nC]
theorem nC_at {xs : List En} {k : Nat} (hk : k < xs.length) (i : Nat) (hi : i < 3) : (nC xs)[k * 3 + i]? = (nVc xs[k])[i]? := flat_get (f := nVc) (z := 3) (fun _ => rfl) xs k hk i hi
theorem infoNg : (Try.prog.info? 33).map (fun i => (i.zero, i.size, i.bytes)) = some (some (.agg #[.string ⟨#[]⟩, .int .i64 0, .int .i64 0]), 3, 32) := by kernel_rfl

/-- How far All is. -/
structure AL (w0 w : World) (gs most : Nat) (mb : Option Nat) (L : List En) (kv : Value) (ts : List Ky) (v : Value) (M : List En) : Prop where
  st : St w gs most mb L
  ky : w.ownsRow w0.heap.size 63 2 kv ts.length (kyF ts)
  es : w.ownsRow w0.heap.size 33 3 v M.length (nC M)
  bel : Below w0.heap.size w0 w
theorem AL.below {w0 w w' : World} {gs most : Nat} {mb : Option Nat} {L : List En} {kv : Value} {ts : List Ky} {v : Value} {M : List En} (h : AL w0 w gs most mb L kv ts v M) (hb : Below w.heap.size w w') : AL w0 w' gs most mb L kv ts v M :=
  ⟨h.st.below hb, own_past h.ky hb, own_past h.es hb, next h.bel hb⟩

set_option maxRecDepth 20000 in
set_option maxHeartbeats 4000000 in
theorem all_any {w : World} {gs most : Nat} {mb : Option Nat} {L : List En} (h : St w gs most mb L) :
    Calls Try.prog 17 #[.pointer (some ⟨gs, 0, none⟩)] w fun e w' => ∃ v, e = .returned v ∧ w'.ownsRow w.heap.size 33 3 v L.length (nC (allP L)) ∧ Below w.heap.size w w' := by
  obtain ⟨i0, hi, hz0, hz1, hz2⟩ := info_parts infoNg
  have HST : Hid (St w gs most mb L) := h
  have hlen : L.length ≤ 256 := Nat.le_trans h.len h.m2
  have c1 : w.cell? ⟨gs, 1, none⟩ = some (.map mb) := h.blk.cell 1
  have hat := h.at'
  have hl0 : ∀ ty, (Builtin.len_ #[56] ty #[.map mb]).run Try.prog w = .ok (.int .i64 (L.length : Nat)) w := fun ty => hat.len ty
  have hK : ∀ u, Calls Try.prog 33 #[.map mb] u fun e w' => e = .returned (.func (.func 43) #[] #[.pointer (some ⟨u.heap.size, 0, none⟩)]) ∧ w' = u.alloc (.cells #[.map mb] 56) := fun u => (callsIn_wide (n := 2)).1 (keys_in 2 mb u)
  go_enter Try.func17, Try.ntmps17
  go_wp2_with (first
    | (at_make; refine wpList_make_own _ rfl _ _ 40 rfl w.heap.size 33 i0 _ 3 Try.underlying40 hi hz0 hz1 .i64 .i64 _ L.length rfl rfl rfl (by rw [hz2]; omega) (by unfold maxLen; omega) (Nat.le_refl _) ?_; intro w1 own1 grow1; have H1 : Below w.heap.size w w1 := grown_below grow1; have s1 := HST.out.below H1; clear c1; have c1 : w1.cell? ⟨gs, 1, none⟩ = some (.map mb) := s1.blk.cell 1)
    | (go_at_call 33; go_must (refine (hK _).mono ?_); rintro e w2 ⟨rfl, rfl⟩; have H2 := lay H1 (.cells #[.map mb] 56); have s2 := HST.out.below H2; have own2 := own1.alloc (.cells #[.map mb] 56); have hso := sorted_any s2.at' hlen w1.heap.size (by simp) ((Blk.new w1 #[.map mb] 56).cell 0))
    | (go_at_call 32; go_must (refine hso.mono ?_); rintro e w3 ⟨kv, Ls, ts, rfl, row3, hl3, hk3, hm3, hf3, b3⟩; obtain ⟨ky, kcap, rfl⟩ := row_shape row3; have HAL : Hid (AL w w3 gs most mb L (.slice ky ts.length kcap) ts (.slice (some ⟨w.heap.size, 0, none⟩) 0 L.length) []) := ⟨s2.below b3, own_base row3 (by have := H2.size; omega), own_past own2 b3, next H2 b3⟩; have HL3 : Hid (ts.length = L.length) := hl3; clear hl3))
  obtain ⟨N, hN⟩ : ∃ N, N = ts.length := ⟨_, rfl⟩
  have HN : Hid (N = ts.length) := hN
  have HNL : Hid (N = L.length) := by unfold Hid; rw [hN]; exact HL3.out
  have hN2 : N ≤ 256 := by have := HNL.out; omega
  have HK3 : Hid (Ls.map keyP = ts.map Subtype.val) := hk3
  have HM3 : Hid (∀ p ∈ Ls, p ∈ L) := hm3
  have HF3 : Hid (Ls = allP L) := hf3
  have hgd := h.at'.good
  rw [← hN] at HAL ⊢
  clear hN HL3 hk3 hm3 hf3 row3 b3 s2 H2 own2 own1 grow1 s1 H1 hso hK hl0 c1 hat h
  go_loopw [3, 21] (fun v i wr => ∃ (j : Nat) (M : List En), j ≤ N ∧ i = .int .i64 (j : Int) ∧ Hid (AL w wr gs most mb L (.slice ky N kcap) ts v M) ∧ Hid (M = Ls.take j)) (fun _ i _ => N - (intOf i).toNat)
  case atStart => exact ⟨0, [], Nat.zero_le _, rfl, HAL, rfl⟩
  case round =>
    clear HAL
    obtain ⟨j, M, hj, rfl, HR, HM⟩ := hrel
    have hlen3 : Ls.length = N := by rw [HN.out]; have := congrArg List.length HK3.out; simpa using this
    by_cases hjn : j < N
    · obtain ⟨p, hp⟩ : ∃ p, p = Ls[j]'(by omega) := ⟨_, rfl⟩
      have hpL : p ∈ L := HM3.out p (by rw [hp]; exact List.getElem_mem _)
      have hkey : keyP p = (ts[j]'(by rw [← HN.out]; exact hjn)).1 := by
        have h1 : (Ls.map keyP)[j]'(by simp; omega) = (ts.map Subtype.val)[j]'(by simp; rw [← HN.out]; exact hjn) := by simp only [HK3.out]
        simp only [List.getElem_map] at h1
        rw [hp]; exact h1
      have HNEXT : Hid (M ++ [p] = Ls.take (j + 1)) := by
        unfold Hid
        rw [HM.out, List.take_succ_eq_append_getElem (by omega), hp]
      have hrow := HR.out.ky
      rw [← HN.out] at hrow
      obtain ⟨kg, kcap', e1, _, _⟩ := hrow.form (by omega)
      simp only [Value.slice.injEq, true_and] at e1
      obtain ⟨rfl, rfl⟩ := e1
      have a0 : wr.cell? ⟨kg, j * 2, none⟩ = some (.string p.n) := by
        rw [hrow.cellAt (j * 2) (by omega)]
        have := flat_get (f := kyC) (z := 2) (fun _ => rfl) ts j (by rw [← HN.out]; exact hjn) 0 (by decide)
        rw [Nat.add_zero] at this
        show (kyF ts)[j * 2]? = _
        unfold kyF
        rw [this]
        unfold kyC
        rw [← hkey]; rfl
      have a1 : wr.cell? ⟨kg, j * 2 + 1, none⟩ = some (.int .i64 p.t) := by
        rw [hrow.cellAt (j * 2 + 1) (by omega)]
        have := flat_get (f := kyC) (z := 2) (fun _ => rfl) ts j (by rw [← HN.out]; exact hjn) 1 (by decide)
        show (kyF ts)[j * 2 + 1]? = _
        unfold kyF
        rw [this]
        unfold kyC
        rw [← hkey]; rfl
      have HLK : Hid (∀ u, MapAt u mb L → (Instr.lookup 56 (.map mb) (.agg #[.string p.n, .int .i64 p.t]) false).run Try.prog u = .ok (.int .i64 p.u) u) := fun u hu => hu.look1 hpL
      have hps : p.n.size ≤ 1000000 := by have := (hgd.ok p hpL).k.size; omega
      clear hrow hkey hp hpL
      obtain ⟨qn, qt, ql, qds, qr, qu⟩ := p
      simp only at HLK HNEXT a0 a1 hps
      obtain ⟨vy, vc, hv⟩ := row_shape HR.out.es
      subst hv
      have HSM : Hid (M.length ≤ 256) := by
        unfold Hid
        have := congrArg List.length HM.out
        rw [List.length_take] at this
        omega
      go_wp2
      obtain ⟨W, hW⟩ : ∃ W, W = wr.alloc (.cells #[.string qn, .int .i64 qt] 63) := ⟨_, rfl⟩
      have hbW : Below wr.heap.size wr W := by rw [hW]; exact lay (Below.refl _ _) _
      have kK : Blk W wr.heap.size #[.string qn, .int .i64 qt] 63 := by rw [hW]; exact Blk.new wr _ _
      rw [← hW]
      clear hW a0 a1
      have HW : Hid (AL w W.drew gs most mb L (.slice (some ⟨kg, 0, none⟩) N kcap) ts (.slice vy M.length vc) M) := HR.out.below (next hbW (Below.refl _ _).drew)
      have HWD : Hid (Below wr.heap.size wr W.drew) := next hbW (Below.refl _ _).drew
      have HADD : Hid (∀ (u u' : World) (v' : Value), AL w u gs most mb L (.slice (some ⟨kg, 0, none⟩) N kcap) ts (.slice vy M.length vc) M → Blk u wr.heap.size #[.string qn, .int .i64 qt] 63 → u'.ownsRow w.heap.size 33 3 v' (M.length + 1) (nC M ++ [.string qn, .int .i64 qt, .int .i64 qu]) → u.grownBy u' (Value.slice vy M.length vc).ownBlock → AL w u' gs most mb L (.slice (some ⟨kg, 0, none⟩) N kcap) ts v' (M ++ [⟨qn, qt, ql, qds, qr, qu⟩]) ∧ Blk u' wr.heap.size #[.string qn, .int .i64 qt] 63) := fun u u' v' hu hk hn hgr => by
        have hlo := hu.es.lt
        have hlo2 := HR.out.es.lt
        have hst := HST.out.lt
        have tG := Turn.of_grown (S := fun k => (Value.slice vy M.length vc).ownBlock = some k) hgr (fun k e => e)
        refine ⟨⟨hu.st.turn tG (fun k hk e => by have := hst k hk; have := hlo k e; omega), ?_, ?_, hu.bel.grown hgr hu.bel.size (fun k e => (hlo k e).1)⟩, tG.blk hk (fun e => by have := hlo2 _ e; omega)⟩
        · refine hu.ky.kept hgr ?_
          exact .inr (fun e => own_apart hu.ky hu.es (by decide) (k := kg) rfl e.symm)
        · rw [nC_app, List.length_append]
          have : nC [⟨qn, qt, ql, qds, qr, qu⟩] = [.string qn, .int .i64 qt, .int .i64 qu] := by simp [nC, nVc]
          rw [this]
          exact hn
      have HKD : Hid (Blk W.drew wr.heap.size #[.string qn, .int .i64 qt] 63) := kK.drew ⟨1, rfl⟩
      clear kK
      refine wp_region_held_drew (S := fun u => St u gs most mb L ∧ Blk u wr.heap.size #[.string qn, .int .i64 qt] 63) (by kernel_rfl) ⟨HW.out.st, HKD.out⟩ (fun hHeld => ?_)
      refine wpAnyH_take (i := 0) (v := .slice vy M.length vc) rfl (by kernel_rfl) (by kernel_rfl) (by kernel_rfl) (fun _ _ _ h => h) (Or.inl ⟨by rfl, ?_⟩) hHeld ?_
      · intro u u1
        go_simp
      simp only [Act.put, List.getElem_toArray, List.getElem_cons_zero, List.setIfInBounds_toArray, List.set_cons_zero, List.set_cons_succ]
      refine wpAnyH_take (i := 1) (v := .pointer (some ⟨wr.heap.size, 0, none⟩)) rfl (by kernel_rfl) (by kernel_rfl) (by kernel_rfl) (fun _ _ _ h => h) (Or.inl ⟨by rfl, ?_⟩) hHeld ?_
      · intro u u1
        go_simp
      simp only [Act.put, List.getElem_toArray, List.getElem_cons_succ, List.getElem_cons_zero, List.setIfInBounds_toArray, List.set_cons_zero, List.set_cons_succ]
      refine wpAnyH_take (i := 2) (v := .string qn) rfl (by kernel_rfl) (by kernel_rfl) (by kernel_rfl) (fun _ _ _ h => h) (Or.inl ⟨by rfl, ?_⟩) hHeld ?_
      · intro u u1
        have a0 := u1.2.cell 0; have a1 := u1.2.cell 1; simp only [List.getElem?_toArray, List.getElem?_cons_succ, List.getElem?_cons_zero] at a0 a1
        go_simp
      simp only [Act.put, List.getElem_toArray, List.getElem_cons_succ, List.getElem_cons_zero, List.setIfInBounds_toArray, List.set_cons_zero, List.set_cons_succ]
      refine wpAnyH_take (i := 4) (v := .pointer (some ⟨wr.heap.size, 1, none⟩)) rfl (by kernel_rfl) (by kernel_rfl) (by kernel_rfl) (fun _ _ _ h => h) (Or.inl ⟨by rfl, ?_⟩) hHeld ?_
      · intro u u1
        go_simp
      simp only [Act.put, List.getElem_toArray, List.getElem_cons_succ, List.getElem_cons_zero, List.setIfInBounds_toArray, List.set_cons_zero, List.set_cons_succ]
      refine wpAnyH_take (i := 5) (v := .int .i64 qt) rfl (by kernel_rfl) (by kernel_rfl) (by kernel_rfl) (fun _ _ _ h => h) (Or.inl ⟨by rfl, ?_⟩) hHeld ?_
      · intro u u1
        have a0 := u1.2.cell 0; have a1 := u1.2.cell 1; simp only [List.getElem?_toArray, List.getElem?_cons_succ, List.getElem?_cons_zero] at a0 a1
        go_simp
      simp only [Act.put, List.getElem_toArray, List.getElem_cons_succ, List.getElem_cons_zero, List.setIfInBounds_toArray, List.set_cons_zero, List.set_cons_succ]
      refine wpAnyH_take (i := 6) (v := .pointer (some ⟨gs, 0, none⟩)) rfl (by kernel_rfl) (by kernel_rfl) (by kernel_rfl) (fun _ _ _ h => h) (Or.inl ⟨by rfl, ?_⟩) hHeld ?_
      · intro u u1
        go_simp
      simp only [Act.put, List.getElem_toArray, List.getElem_cons_succ, List.getElem_cons_zero, List.setIfInBounds_toArray, List.set_cons_zero, List.set_cons_succ]
      refine wpAnyH_take (i := 7) (v := .pointer (some ⟨gs, 0, none⟩)) rfl (by kernel_rfl) (by kernel_rfl) (by kernel_rfl) (fun _ _ _ h => h) (Or.inl ⟨by rfl, ?_⟩) hHeld ?_
      · intro u u1
        go_simp
      simp only [Act.put, List.getElem_toArray, List.getElem_cons_succ, List.getElem_cons_zero, List.setIfInBounds_toArray, List.set_cons_zero, List.set_cons_succ]
      refine wpAnyH_take (i := 8) (v := .pointer (some ⟨gs, 1, none⟩)) rfl (by kernel_rfl) (by kernel_rfl) (by kernel_rfl) (fun _ _ _ h => h) (Or.inl ⟨by rfl, ?_⟩) hHeld ?_
      · intro u u1
        go_simp
      simp only [Act.put, List.getElem_toArray, List.getElem_cons_succ, List.getElem_cons_zero, List.setIfInBounds_toArray, List.set_cons_zero, List.set_cons_succ]
      refine wpAnyH_take (i := 9) (v := .map mb) rfl (by kernel_rfl) (by kernel_rfl) (by kernel_rfl) (fun _ _ _ h => h) (Or.inl ⟨by rfl, ?_⟩) hHeld ?_
      · intro u u1
        have c1 : u.cell? ⟨gs, 1, none⟩ = some (.map mb) := u1.1.blk.cell 1
        go_simp
      simp only [Act.put, List.getElem_toArray, List.getElem_cons_succ, List.getElem_cons_zero, List.setIfInBounds_toArray, List.set_cons_zero, List.set_cons_succ]
      refine wpAnyH_take (i := 10) (v := .agg #[.string qn, .int .i64 qt]) rfl (by kernel_rfl) (by kernel_rfl) (by kernel_rfl) (fun _ _ _ h => h) (Or.inl ⟨by rfl, ?_⟩) hHeld ?_
      · intro u u1
        have a0 := u1.2.cell 0; have a1 := u1.2.cell 1; simp only [List.getElem?_toArray, List.getElem?_cons_succ, List.getElem?_cons_zero] at a0 a1
        go_simp
      simp only [Act.put, List.getElem_toArray, List.getElem_cons_succ, List.getElem_cons_zero, List.setIfInBounds_toArray, List.set_cons_zero, List.set_cons_succ]
      refine wpAnyH_take (i := 11) (v := .int .i64 qu) rfl (by kernel_rfl) (by kernel_rfl) (by kernel_rfl) (fun _ _ _ h => h) (Or.inl ⟨by rfl, ?_⟩) hHeld ?_
      · intro u u1
        have l1 := HLK.out u u1.1.at'
        go_simp
      simp only [Act.put, List.getElem_toArray, List.getElem_cons_succ, List.getElem_cons_zero, List.setIfInBounds_toArray, List.set_cons_zero, List.set_cons_succ]
      refine wpAnyH_ready (rs := [3]) (by kernel_rfl) (by simp) ?_
      refine AllReadyH.cons rfl (fun K hK => ?_) AllReadyH.nil
      go_simp
      refine (clone_any qn _ hps).mono ?_
      rintro e w4 ⟨rfl, b4⟩
      have H4 := HW.out.below b4
      have K4 := HKD.out.below b4
      clear hHeld
      go_simp
      refine hK.out _ _ ⟨H4.st, K4⟩ (fun hHeld => ?_)
      refine wpAnyH_take (i := 12) (v := .agg #[.string qn, .int .i64 qt, .int .i64 qu]) rfl (by kernel_rfl) (by kernel_rfl) (by kernel_rfl) (fun _ _ _ h => h) (Or.inl ⟨by rfl, ?_⟩) hHeld ?_
      · intro u u1
        go_simp
      simp only [Act.put, List.getElem_toArray, List.getElem_cons_succ, List.getElem_cons_zero, List.setIfInBounds_toArray, List.set_cons_zero, List.set_cons_succ]
      refine wpAnyH_ready (rs := [13]) (by kernel_rfl) (by simp) ?_
      refine AllReadyH.cons rfl (fun K hK => ?_) AllReadyH.nil
      go_simp
      have H5 := H4.below ((Below.refl _ _).alloc (Nat.le_refl _) (.cells #[.string qn, .int .i64 qt, .int .i64 qu] 33))
      have K5 := K4.alloc (.cells #[.string qn, .int .i64 qt, .int .i64 qu] 33)
      have R5 := Row.of_blk (Blk.new w4 #[.string qn, .int .i64 qt, .int .i64 qu] 33) (xs := [.string qn, .int .i64 qt, .int .i64 qu]) rfl 1 1
      clear hHeld
      refine hK.out _ _ ⟨H5.st, K5⟩ (fun hHeld => ?_)
      refine wpAnyH_ready (rs := [14]) (by kernel_rfl) (by simp) ?_
      refine AllReadyH.cons rfl (fun K hK => ?_) AllReadyH.nil
      refine step_appG _ rfl (.tmp 25) (.tmp 38) 40 33 i0 _ 3 32 Try.underlying40 hi hz0 hz1 hz2 rfl (by decide) rfl w.heap.size (.slice vy M.length vc) M.length (nC M) rfl H5.es (.slice (some ⟨w4.heap.size, 0, none⟩) 1 1) 1 [.string qn, .int .i64 qt, .int .i64 qu] rfl R5 rfl (by simp [Value.oneCell']) (by have := HSM.out; omega) (by have := HSM.out; unfold maxLen; omega) H5.bel.size ?_
      intro v7 w7 own7 grow7 _
      obtain ⟨HA, K7⟩ := HADD.out _ w7 v7 H5 K5 own7 grow7
      clear hHeld
      go_simp
      refine hK.out _ _ ⟨HA.st, K7⟩ (fun hHeld => ?_)
      refine wpAnyH_take (i := 15) (v := v7) rfl (by kernel_rfl) (by kernel_rfl) (by kernel_rfl) (fun _ _ _ h => h) (Or.inl ⟨by rfl, ?_⟩) hHeld ?_
      · intro u u1
        go_simp
      simp only [Act.put, List.getElem_toArray, List.getElem_cons_succ, List.getElem_cons_zero, List.setIfInBounds_toArray, List.set_cons_zero, List.set_cons_succ]
      refine wpAnyH_done (by kernel_rfl) ?_ _
      go_wp2
      go_roundw
      case rel => exact ⟨j + 1, _, by omega, by go_num, HA, HNEXT⟩
      case measure => simp [intOf]; omega
    · have hjn' : decide (j < N) = false := by simpa using hjn
      go_wp2
      go_ret
      have hMA : M = allP L := by rw [HM.out, List.take_of_length_le (by omega)]; exact HF3.out
      have hMl : M.length = L.length := by rw [hMA, all_len]
      refine ⟨_, rfl, ?_, HR.out.bel⟩
      rw [← hMA, ← hMl]
      exact HR.out.es

end Ng
end Go.Proofs.Ytphhljbeaklikaa
