/- What Put gives. -/
import Derived.Test.YtcmhjlflgedcdaaXP4
import Derived.Deep.QuietTactic
import Derived.BigQuiet
namespace Go.Proofs.Ytcmhjlflgedcdaa
open Go.RowKit
open Pl

theorem fst_filter (n : ByteArray) (t now : Int) (L : List (En × Value)) : fstL (L.filter (keepB n t now)) = leftP (fstL L) n t now := by
  unfold fstL leftP
  rw [List.filter_map]
  rfl
theorem fst_erase (L : List (En × Value)) (i : Nat) : fstL (L.eraseIdx i) = (fstL L).eraseIdx i := by
  unfold fstL
  induction L generalizing i with
  | nil => rfl
  | cons a L ih =>
    cases i with
    | zero => rfl
    | succ i => simp only [List.eraseIdx_cons_succ, List.map_cons, ih]
theorem fst_len (L : List (En × Value)) : (fstL L).length = L.length := by unfold fstL; simp
theorem fst_app (L M : List (En × Value)) : fstL (L ++ M) = fstL L ++ fstL M := by unfold fstL; simp
/-- A live entry of a greater rank. -/
theorem beats_at {L : List (En × Value)} (hg : Good L) (n : ByteArray) (t r now : Int) : beatsP (fstL L) n t r now = match atL L n t with | some p => decide (now < p.1.u) && decide (r < p.1.r) | none => false := by
  unfold beatsP fstL
  rw [List.any_map]
  cases ha : atL L n t with
  | none =>
    rw [List.any_eq_false]
    intro p hp
    show ¬ ((sameK n t p.1 && decide (now < p.1.u) && decide (r < p.1.r)) = true)
    rw [atL_none ha p hp]; simp
  | some p =>
    obtain ⟨h1, h2, h3⟩ := atL_some ha
    rw [Bool.eq_iff_iff, List.any_eq_true]
    constructor
    · rintro ⟨q, hq, hs⟩
      have hs2 : (sameK n t q.1 && decide (now < q.1.u) && decide (r < q.1.r)) = true := hs
      simp only [Bool.and_eq_true] at hs2
      have : p = q := hg.one h1 hq (by rw [h2, h3]; exact hs2.1.1)
      subst this
      simp only [Bool.and_eq_true]
      exact ⟨hs2.1.2, hs2.2⟩
    · intro hs
      refine ⟨p, h1, ?_⟩
      show (sameK n t p.1 && decide (now < p.1.u) && decide (r < p.1.r)) = true
      rw [sameK_iff.2 ⟨h2, h3⟩]
      simpa using hs

/-- len of the map, in a region that draws its order. -/
theorem step_len_e (w : World) {ops : Array Oper} {o : Oper} {a : Act} {K : Act → World → Prop} {Q : Exit → Act → World → Prop} {E : Prop} (hgd : o.guard = none) (m : Operand)
    (ho : o.op = .call { callee := .builtin .len, args := #[m], argTypes := #[66] }) (mb : Option Nat) (L : List (En × Value)) (hm : a.eval m = .map mb) (h : MapAt w mb L)
    (hK : K (a.put o.dst (.int .i64 (L.length : Nat))) w) : if Region.wanted o (yielded ops a.tmps) = true then Oper.wp Try.prog o a w K Q else E := by
  have hw : Region.wanted o (yielded ops a.tmps) = true := by simp [Region.wanted, hgd]
  rw [if_pos hw]
  have hrun := h.len o.type
  unfold Oper.wp
  simp only [execOp, ho, resolve, invoke, builtin, Sem.run_bind, Sem.run_pure, Result.andThen_ok, List.map_toArray, List.map_cons, List.map_nil, hm, hrun]
  exact hK

set_option maxRecDepth 20000 in
set_option maxHeartbeats 4000000 in
theorem put_any {w : World} {gs most : Nat} {mb : Option Nat} {L : List (En × Value)} (h : St w gs most mb L) (n : ByteArray) (t l r u now : Int) (v : Value) (ds : List ByteArray) (hn : n.size ≤ maxLen) (hr : Row w v ds.length (tC ds)) (hl : ds.length ≤ 8796093022000) (hs : ∀ d ∈ ds, d.size ≤ 140737488351232) :
    Calls Try.prog 14 #[.pointer (some ⟨gs, 0, none⟩), .agg #[.string n, .int .i64 t, .int .i64 l, v, .int .i64 r, .int .i64 u], .int .i64 now] w fun e w' => e = .returned (.int .i64 (errP ⟨n, t, l, ds, r, u⟩ now)) ∧
      ∃ mb' L', St w' gs most mb' L' ∧ fstL L' = putP most (fstL L) ⟨n, t, l, ds, r, u⟩ now ∧ Turn (fun k => k = gs ∨ mb = some k) w w' ∧ (∀ k, foot gs mb' L' k → foot gs mb L k ∨ w.heap.size ≤ k) := by
  obtain ⟨y, c, hv⟩ := row_slice hr
  obtain ⟨N, hN⟩ : ∃ N, N = ds.length := ⟨_, rfl⟩
  have HN : Hid (N = ds.length) := hN
  have HS : Hid (∀ d ∈ ds, d.size ≤ 140737488351232) := hs
  rw [← hN] at hv
  subst hv
  have HR : Hid (Row w (.slice y N c) ds.length (tC ds)) := hr
  have HST : Hid (St w gs most mb L) := h
  have hgd := h.at'.good
  have HLT : Hid (∀ k, foot gs mb L k → k < w.heap.size) := h.lt
  have hNl : N ≤ 8796093022000 := by omega
  have hb0 : Below w.heap.size w (w.alloc (.cells #[.string n, .int .i64 t, .int .i64 l, .slice y N c, .int .i64 r, .int .i64 u] 36)) := lay (Below.refl _ _) _
  have k0 := Blk.new w #[.string n, .int .i64 t, .int .i64 l, .slice y N c, .int .i64 r, .int .i64 u] 36
  clear hs hN hr hl h
  cases hmay : mayE ⟨n, t, l, ds, r, u⟩ now with
  | false =>
    have HMAY : Hid (mayE ⟨n, t, l, ds, r, u⟩ now = false) := hmay
    have HERR : Hid (1300 = errP ⟨n, t, l, ds, r, u⟩ now) := by unfold Hid errP; rw [hmay]; rfl
    have HPUT : Hid (fstL L = putP most (fstL L) ⟨n, t, l, ds, r, u⟩ now) := by unfold Hid putP; rw [hmay]; rfl
    clear hmay
    go_enter Try.func14, Try.ntmps14
    go_wp2_with (first | (go_at_call 31; go_must (refine (isWrong_any n t l r u now y c N ds _ hn HN.out false HMAY.out).mono ?_); rintro e w1 ⟨rfl, b1⟩; have H1 := next hb0 b1; have k1 := k0.below b1))
    go_ret
    exact ⟨ret_int HERR.out, mb, L, HST.out.below H1, HPUT.out, Turn.of_below H1, fun k hk => .inl hk⟩
  | true =>
    have HMAY : Hid (mayE ⟨n, t, l, ds, r, u⟩ now = true) := hmay
    have HERR : Hid (0 = errP ⟨n, t, l, ds, r, u⟩ now) := by unfold Hid errP; rw [hmay]; rfl
    have hok : OkK (fdB n) t := (held_ok (e := ⟨n, t, l, ds, r, u⟩) hmay (by rw [← HN.out]; exact hNl) HS.out).k
    have hN0 : 0 < ds.length := by
      have := (mayE_parts hmay).2.2.2.1
      simp only at this
      exact List.length_pos_iff.2 this
    have HBE : Hid (∀ x, beatsP (fstL L) (fdB n) t r now = x → putP most (fstL L) ⟨n, t, l, ds, r, u⟩ now = if x then fstL L else cutP most (leftP (fstL L) (fdB n) t now) ++ [⟨fdB n, t, l, ds, r, u⟩]) := fun x hx => by
      unfold putP
      simp only at hx ⊢
      rw [hmay, hx]
      cases x <;> rfl
    have hbt := beats_at hgd (fdB n) t r now
    clear hmay
    cases ha : atL L (fdB n) t with
    | none =>
      rw [ha] at hbt
      simp only at hbt
      have HLV : Hid (∀ u, St u gs most mb L → Calls Try.prog 33 #[.pointer (some ⟨gs, 0, none⟩), .agg #[.string (fdB n), .int .i64 t], .int .i64 now] u fun e w' => e = .returned (.tuple #[.agg #[.string ⟨#[]⟩, .int .i64 0, .int .i64 0, .slice none 0 0, .int .i64 0, .int .i64 0], .bool false]) ∧ Below u.heap.size u w') := fun u hu => by
        have := live_any hu (fdB n) t now (max_ok hok) (wf_ok hok)
        have e1 : vL L (fdB n) t = eZ := by unfold vL; rw [ha]
        have e2 : lvB L (fdB n) t now = false := by unfold lvB bL; rw [ha]; rfl
        rw [e1, e2] at this
        exact this
      have HP : Hid (putP most (fstL L) ⟨n, t, l, ds, r, u⟩ now = cutP most (leftP (fstL L) (fdB n) t now) ++ [⟨fdB n, t, l, ds, r, u⟩]) := by have := HBE.out _ hbt; unfold Hid; simpa using this
      clear HBE hbt ha
      go_enter Try.func14, Try.ntmps14
      go_wp2_with (first | (go_at_call 31; go_must (refine (isWrong_any n t l r u now y c N ds _ hn HN.out true HMAY.out).mono ?_); rintro e w1 ⟨rfl, b1⟩; have H1 := next hb0 b1; have k1 := k0.below b1; have x0 := k1.cell 0; have x1 := k1.cell 1; simp only [List.getElem?_toArray, List.getElem?_cons_succ, List.getElem?_cons_zero] at x0 x1) | (go_at_call 32; go_must (refine (keyOf_any n t _ hn).mono ?_); rintro e w2 ⟨rfl, b2⟩; unfold kyV; have H2 := next H1 b2; have H2' := lay H2 (.cells #[.string (fdB n), .int .i64 t] 73); have k2 := (k1.below b2).alloc (.cells #[.string (fdB n), .int .i64 t] 73); have q2 := Blk.new w2 #[.string (fdB n), .int .i64 t] 73; have s2 := HST.out.below H2'; clear x0 x1) | (go_at_call 33; go_must (refine (HLV.out _ s2).mono ?_); rintro e w3 ⟨rfl, b3⟩; have H3 := next H2' b3; have H3' := lay H3 (.cells #[.string ⟨#[]⟩, .int .i64 0, .int .i64 0, .slice none 0 0, .int .i64 0, .int .i64 0] 36); have k3 := (k2.below b3).alloc (.cells #[.string ⟨#[]⟩, .int .i64 0, .int .i64 0, .slice none 0 0, .int .i64 0, .int .i64 0] 36); have q3 := (q2.below b3).alloc (.cells #[.string ⟨#[]⟩, .int .i64 0, .int .i64 0, .slice none 0 0, .int .i64 0, .int .i64 0] 36); have s3 := HST.out.below H3'; have x4 := k3.cell 4; have z0 := q3.cell 0; have z1 := q3.cell 1; simp only [List.getElem?_toArray, List.getElem?_cons_succ, List.getElem?_cons_zero] at x4 z0 z1) | (go_at_call 34; go_must (refine (sweep_any s3 (fdB n) t now hok).mono ?_); rintro e w5 ⟨rfl, s5, t5⟩; clear x4 z0 z1; have T5 : Turn (fun k => k = gs ∨ mb = some k) w w5 := (Turn.of_below H3').trans t5 (fun i e => .inl (.inr e)); have k5 := t5.blk k3 (fun e => by have := HLT.out _ (.inr (.inl e)); omega); have q5 := t5.blk q3 (fun e => by have := HLT.out _ (.inr (.inl e)); have := H2.size; omega); have z0 := q5.cell 0; have z1 := q5.cell 1; have x0 := k5.cell 0; have x1 := k5.cell 1; have x2 := k5.cell 2; have x3 := k5.cell 3; have x4 := k5.cell 4; have x5 := k5.cell 5; simp only [List.getElem?_toArray, List.getElem?_cons_succ, List.getElem?_cons_zero] at z0 z1 x0 x1 x2 x3 x4 x5; have m0 : w5.cell? ⟨gs, 0, none⟩ = some (.int .i64 most) := s5.blk.cell 0; have m1 : w5.cell? ⟨gs, 1, none⟩ = some (.map mb) := s5.blk.cell 1; have ml : ∀ (nq : Nat) ty, (Builtin.len_ #[66] ty #[.map mb]).run Try.prog (w5.drewN nq) = _ := fun nq ty => (s5.at'.below (below_drew ⟨nq, rfl⟩)).len ty))
      have hM : Hid (∀ q ∈ L.filter (keepB (fdB n) t now), sameK (fdB n) t q.1 = false) := fun q hq => by have := (List.mem_filter.1 hq).2; unfold keepB at this; simp only [Bool.and_eq_true, Bool.not_eq_true'] at this; exact this.1
      have HF : Hid (fstL (L.filter (keepB (fdB n) t now)) = leftP (fstL L) (fdB n) t now) := fst_filter _ _ _ _
      have HSUB : Hid (∀ p ∈ L.filter (keepB (fdB n) t now), p ∈ L) := fun p hp => (List.mem_filter.1 hp).1
      have s5d := s5.below (Below.refl _ _).drew
      have hlen := s5.len
      clear ml k3 q3 s3 t5 b3 b2 b1 k1 k2 q2 s2 HLV
      generalize L.filter (keepB (fdB n) t now) = M at s5 s5d hM HF HSUB hlen
      have T5d : Turn (fun k => k = gs ∨ mb = some k) w w5.drew := T5.past (Below.refl _ _).drew
      have hrow : Row w5.drew (.slice y N c) ds.length (tC ds) := by
        refine (HR.out.turned hN0 (tC_len ds) T5d (fun g o cap e => ?_))
        rintro (e' | e')
        · exact (row_apart HR.out hN0 HST.out.blk g o cap e).2 e'
        · rcases HST.out.at' with ⟨e1, _⟩ | ⟨b, e1, hh⟩
          · rw [e1] at e'; cases e'
          · rw [e1] at e'; cases e'
            obtain ⟨es, clock, hb, _⟩ := hh.map.choose_spec.choose_spec.1
            exact row_no_map HR.out hN0 (tC_len ds) hb g o cap e rfl
      have HA : Hid (∀ (w6 : World) (M' : List (En × Value)), St w6 gs most mb M' → Turn (fun k => mb = some k) w5.drew w6 → (∀ q ∈ M', q ∈ M) → M'.length + 1 ≤ most → Blk w6 w.heap.size #[.string n, .int .i64 t, .int .i64 l, .slice y N c, .int .i64 r, .int .i64 u] 36 ∧ Blk w6 w2.heap.size #[.string (fdB n), .int .i64 t] 73 ∧ Turn (fun k => k = gs ∨ mb = some k) w w6 ∧ Calls Try.prog 36 #[.pointer (some ⟨gs, 0, none⟩), .agg #[.string (fdB n), .int .i64 t], .agg #[.string n, .int .i64 t, .int .i64 l, .slice y N c, .int .i64 r, .int .i64 u]] w6 fun e w' => ∃ mb' d', e = .returned (.tuple #[]) ∧ St w' gs most mb' (M' ++ [(⟨fdB n, t, l, ds, r, u⟩, d')]) ∧ Turn (fun k => k = gs ∨ mb = some k) w6 w' ∧ (∀ k, mb' = some k → mb = some k ∨ w6.heap.size ≤ k) ∧ (∀ k, d'.ownBlock = some k → w6.heap.size ≤ k)) := fun w6 M' s6 t6 hsub hle => by
        have hmb : ∀ i, mb = some i → i < w.heap.size := fun i e => HLT.out i (.inr (.inl e))
        have h2s := H2.size
        refine ⟨t6.blk (k5.below (Below.refl _ _).drew) (fun e => by have := hmb _ e; omega), t6.blk (q5.below (Below.refl _ _).drew) (fun e => by have := hmb _ e; omega), T5d.trans t6 (fun i e => .inl (.inr e)), ?_⟩
        refine hold_any s6 (fdB n) n t l r u (.slice y N c) ds hok (hrow.turned hN0 (tC_len ds) t6 (fun g o cap e e' => ?_)) hN0 (by rw [← HN.out]; exact hNl) HS.out (fun q hq => hM.out q (hsub q hq)) hle
        rcases s5d.at' with ⟨e1, _⟩ | ⟨b', e1, hh⟩
        · rw [e1] at e'; cases e'
        · rw [e1] at e'; cases e'
          obtain ⟨es, clock, hb, _⟩ := hh.map.choose_spec.choose_spec.1
          exact row_no_map hrow hN0 (tC_len ds) hb g o cap e rfl
      have HE : Hid (∀ (w6 w7 : World) (M' : List (En × Value)) (mb7 : Option Nat) (d7 : Value), (∀ q ∈ M', q ∈ M) → fstL M' = cutP most (fstL M) → Turn (fun k => k = gs ∨ mb = some k) w w6 → St w7 gs most mb7 (M' ++ [(⟨fdB n, t, l, ds, r, u⟩, d7)]) → Turn (fun k => k = gs ∨ mb = some k) w6 w7 → (∀ k, mb7 = some k → mb = some k ∨ w6.heap.size ≤ k) → (∀ k, d7.ownBlock = some k → w6.heap.size ≤ k) → ∃ mb' L', St w7 gs most mb' L' ∧ fstL L' = putP most (fstL L) ⟨n, t, l, ds, r, u⟩ now ∧ Turn (fun k => k = gs ∨ mb = some k) w w7 ∧ (∀ k, foot gs mb' L' k → foot gs mb L k ∨ w.heap.size ≤ k)) := fun w6 w7 M' mb7 d7 hsub hcut t6 s7 t7 hm7 hd7 => by
        refine ⟨mb7, _, s7, ?_, t6.same t7, ?_⟩
        · rw [HP.out, fst_app, hcut, HF.out]; rfl
        · have hz := t6.size
          rintro k (e | e | ⟨p, hp, e⟩)
          · exact .inl (.inl e)
          · rcases hm7 k e with e | e
            · exact .inl (.inr (.inl e))
            · exact .inr (by omega)
          · rcases List.mem_append.1 hp with hp | hp
            · exact .inl (.inr (.inr ⟨p, HSUB.out p (hsub p hp), e⟩))
            · simp at hp; subst hp; exact .inr (by have := hd7 k e; omega)
      clear k5 q5 T5 T5d hrow hM HF HSUB z0 z1 x0 x1 x2 x3 x4 x5
      by_cases hfull : M.length = most
      · have hdec : decide ((most : Int) ≤ (M.length : Int)) = true := by simp; omega
        obtain ⟨b, rfl⟩ : ∃ b, mb = some b := by
          rcases s5.at' with ⟨_, e⟩ | ⟨b, e, _⟩
          · exfalso; have := s5.m1; rw [e] at hfull; simp at hfull; omega
          · exact ⟨b, e⟩
        have hdr := dropOne_any s5d (by have := s5.m1; omega)
        have HA2 : Hid (∀ (w6 : World), St w6 gs most (some b) (M.eraseIdx (minP (fstL M))) → Turn (fun k => k = b) w5.drew w6 → _) := fun w6 s6 t6 => HA.out w6 _ s6 (t6.more (fun k e => by rw [e])) (fun q hq => List.mem_of_mem_eraseIdx hq) (by rw [List.length_eraseIdx_of_lt (by rw [← fst_len]; exact minP_lt (by rw [fst_len]; have := s5.m1; omega))]; have := s5.m1; omega)
        have HC : Hid (fstL (M.eraseIdx (minP (fstL M))) = cutP most (fstL M)) := by unfold Hid cutP; rw [fst_len, if_pos hfull, fst_erase]
        clear HA
        go_region_law ((refine step_len_e _ (by rfl) (.tmp 44) (by rfl) (some b) M (by rfl) s5d.at' ?_))
        all_goals (go_wp2_with (first | (go_at_call 35; go_must (refine hdr.mono ?_); rintro e w6 ⟨rfl, s6, t6⟩; have HA6 := HA2.out w6 s6 t6; obtain ⟨k6, q6, T6, hho⟩ := HA6; have z0 := q6.cell 0; have z1 := q6.cell 1; have x0 := k6.cell 0; have x1 := k6.cell 1; have x2 := k6.cell 2; have x3 := k6.cell 3; have x4 := k6.cell 4; have x5 := k6.cell 5; simp only [List.getElem?_toArray, List.getElem?_cons_succ, List.getElem?_cons_zero] at z0 z1 x0 x1 x2 x3 x4 x5) | (go_at_call 36; go_must (refine hho.mono ?_); rintro e w7 ⟨mb7, d7, rfl, s7, t7, hm7, hd7⟩)))
        all_goals go_ret
        all_goals exact ⟨ret_int HERR.out, HE.out _ _ _ _ _ (fun q hq => List.mem_of_mem_eraseIdx hq) HC.out T6 s7 t7 hm7 hd7⟩
      · have hdec : decide ((most : Int) ≤ (M.length : Int)) = false := by simp; omega
        have HA6 := HA.out w5.drew M s5d (Turn.refl _ _) (fun q hq => hq) (by omega)
        have HC : Hid (fstL M = cutP most (fstL M)) := by unfold Hid cutP; rw [fst_len, if_neg hfull]
        clear HA
        obtain ⟨k6, q6, T6, hho⟩ := HA6; have z0 := q6.cell 0; have z1 := q6.cell 1; have x0 := k6.cell 0; have x1 := k6.cell 1; have x2 := k6.cell 2; have x3 := k6.cell 3; have x4 := k6.cell 4; have x5 := k6.cell 5; simp only [List.getElem?_toArray, List.getElem?_cons_succ, List.getElem?_cons_zero] at z0 z1 x0 x1 x2 x3 x4 x5
        go_region_law ((refine step_len_e _ (by rfl) (.tmp 44) (by rfl) mb M (by rfl) s5d.at' ?_))
        all_goals (go_wp2_with (first | (go_at_call 36; go_must (refine hho.mono ?_); rintro e w7 ⟨mb7, d7, rfl, s7, t7, hm7, hd7⟩) | go_in))
        all_goals go_ret
        all_goals exact ⟨ret_int HERR.out, HE.out _ _ _ _ _ (fun q hq => hq) HC.out T6 s7 t7 hm7 hd7⟩
    | some q =>
      rw [ha] at hbt
      simp only at hbt
      obtain ⟨hqL, hq1, hq2⟩ := atL_some ha
      obtain ⟨qy, qc, hqd⟩ := row_shape (HST.out.at'.dat hqL)
      have HLV0 : Hid (∀ u, St u gs most mb L → Calls Try.prog 33 #[.pointer (some ⟨gs, 0, none⟩), .agg #[.string (fdB n), .int .i64 t], .int .i64 now] u fun e w' => e = .returned (.tuple #[eA q.1 q.2, .bool (decide (now < q.1.u))]) ∧ Below u.heap.size u w') := fun u hu => by
        have := live_any hu (fdB n) t now (max_ok hok) (wf_ok hok)
        have e1 : vL L (fdB n) t = eA q.1 q.2 := by unfold vL; rw [ha]
        have e2 : lvB L (fdB n) t now = decide (now < q.1.u) := by unfold lvB bL uL; rw [ha]; rfl
        rw [e1, e2] at this
        exact this
      clear ha hqL
      obtain ⟨⟨qn, qt, ql, qds, qr, qu⟩, qd⟩ := q
      simp only at hq1 hq2 hqd hbt HLV0
      generalize qds.length = qN at hqd
      subst hq1 hq2 hqd
      unfold eA at HLV0
      cases hlv : decide (now < qu) with
      | true =>
        have HLV : Hid (∀ u, St u gs most mb L → Calls Try.prog 33 #[.pointer (some ⟨gs, 0, none⟩), .agg #[.string (fdB n), .int .i64 qt], .int .i64 now] u fun e w' => e = .returned (.tuple #[.agg #[.string (fdB n), .int .i64 qt, .int .i64 ql, .slice qy qN qc, .int .i64 qr, .int .i64 qu], .bool true]) ∧ Below u.heap.size u w') := fun u hu => by have := HLV0.out u hu; rw [hlv] at this; exact this
        by_cases hrk : r < qr
        · have HPUT : Hid (fstL L = putP most (fstL L) ⟨n, qt, l, ds, r, u⟩ now) := by
            have := HBE.out true (by rw [hbt, hlv]; simpa using hrk)
            unfold Hid
            rw [this]; rfl
          clear HBE hbt HLV0 hlv
          go_enter Try.func14, Try.ntmps14
          go_wp2_with (first | (go_at_call 31; go_must (refine (isWrong_any n qt l r u now y c N ds _ hn HN.out true HMAY.out).mono ?_); rintro e w1 ⟨rfl, b1⟩; have H1 := next hb0 b1; have k1 := k0.below b1; have x0 := k1.cell 0; have x1 := k1.cell 1; simp only [List.getElem?_toArray, List.getElem?_cons_succ, List.getElem?_cons_zero] at x0 x1) | (go_at_call 32; go_must (refine (keyOf_any n qt _ hn).mono ?_); rintro e w2 ⟨rfl, b2⟩; unfold kyV; have H2 := next H1 b2; have H2' := lay H2 (.cells #[.string (fdB n), .int .i64 qt] 73); have k2 := (k1.below b2).alloc (.cells #[.string (fdB n), .int .i64 qt] 73); have q2 := Blk.new w2 #[.string (fdB n), .int .i64 qt] 73; have s2 := HST.out.below H2'; clear x0 x1) | (go_at_call 33; go_must (refine (HLV.out _ s2).mono ?_); rintro e w3 ⟨rfl, b3⟩; have H3 := next H2' b3; have H3' := lay H3 (.cells #[.string (fdB n), .int .i64 qt, .int .i64 ql, .slice qy qN qc, .int .i64 qr, .int .i64 qu] 36); have k3 := (k2.below b3).alloc (.cells #[.string (fdB n), .int .i64 qt, .int .i64 ql, .slice qy qN qc, .int .i64 qr, .int .i64 qu] 36); have q3 := (q2.below b3).alloc (.cells #[.string (fdB n), .int .i64 qt, .int .i64 ql, .slice qy qN qc, .int .i64 qr, .int .i64 qu] 36); have s3 := HST.out.below H3'; have x4 := k3.cell 4; have z0 := q3.cell 0; have z1 := q3.cell 1; simp only [List.getElem?_toArray, List.getElem?_cons_succ, List.getElem?_cons_zero] at x4 z0 z1))
          go_ret
          exact ⟨ret_int HERR.out, mb, L, s3, HPUT.out, Turn.of_below H3', fun k hk => .inl hk⟩
        · have HP : Hid (putP most (fstL L) ⟨n, qt, l, ds, r, u⟩ now = cutP most (leftP (fstL L) (fdB n) qt now) ++ [⟨fdB n, qt, l, ds, r, u⟩]) := by
            have := HBE.out false (by rw [hbt, hlv]; simpa using hrk)
            unfold Hid
            rw [this]; rfl
          have hrk' : decide (r < qr) = false := by simpa using hrk
          clear HBE hbt HLV0 hlv
          go_enter Try.func14, Try.ntmps14
          go_wp2_with (first | (go_at_call 31; go_must (refine (isWrong_any n qt l r u now y c N ds _ hn HN.out true HMAY.out).mono ?_); rintro e w1 ⟨rfl, b1⟩; have H1 := next hb0 b1; have k1 := k0.below b1; have x0 := k1.cell 0; have x1 := k1.cell 1; simp only [List.getElem?_toArray, List.getElem?_cons_succ, List.getElem?_cons_zero] at x0 x1) | (go_at_call 32; go_must (refine (keyOf_any n qt _ hn).mono ?_); rintro e w2 ⟨rfl, b2⟩; unfold kyV; have H2 := next H1 b2; have H2' := lay H2 (.cells #[.string (fdB n), .int .i64 qt] 73); have k2 := (k1.below b2).alloc (.cells #[.string (fdB n), .int .i64 qt] 73); have q2 := Blk.new w2 #[.string (fdB n), .int .i64 qt] 73; have s2 := HST.out.below H2'; clear x0 x1) | (go_at_call 33; go_must (refine (HLV.out _ s2).mono ?_); rintro e w3 ⟨rfl, b3⟩; have H3 := next H2' b3; have H3' := lay H3 (.cells #[.string (fdB n), .int .i64 qt, .int .i64 ql, .slice qy qN qc, .int .i64 qr, .int .i64 qu] 36); have k3 := (k2.below b3).alloc (.cells #[.string (fdB n), .int .i64 qt, .int .i64 ql, .slice qy qN qc, .int .i64 qr, .int .i64 qu] 36); have q3 := (q2.below b3).alloc (.cells #[.string (fdB n), .int .i64 qt, .int .i64 ql, .slice qy qN qc, .int .i64 qr, .int .i64 qu] 36); have s3 := HST.out.below H3'; have x4 := k3.cell 4; have z0 := q3.cell 0; have z1 := q3.cell 1; simp only [List.getElem?_toArray, List.getElem?_cons_succ, List.getElem?_cons_zero] at x4 z0 z1) | (go_at_call 34; go_must (refine (sweep_any s3 (fdB n) qt now hok).mono ?_); rintro e w5 ⟨rfl, s5, t5⟩; clear x4 z0 z1; have T5 : Turn (fun k => k = gs ∨ mb = some k) w w5 := (Turn.of_below H3').trans t5 (fun i e => .inl (.inr e)); have k5 := t5.blk k3 (fun e => by have := HLT.out _ (.inr (.inl e)); omega); have q5 := t5.blk q3 (fun e => by have := HLT.out _ (.inr (.inl e)); have := H2.size; omega); have z0 := q5.cell 0; have z1 := q5.cell 1; have x0 := k5.cell 0; have x1 := k5.cell 1; have x2 := k5.cell 2; have x3 := k5.cell 3; have x4 := k5.cell 4; have x5 := k5.cell 5; simp only [List.getElem?_toArray, List.getElem?_cons_succ, List.getElem?_cons_zero] at z0 z1 x0 x1 x2 x3 x4 x5; have m0 : w5.cell? ⟨gs, 0, none⟩ = some (.int .i64 most) := s5.blk.cell 0; have m1 : w5.cell? ⟨gs, 1, none⟩ = some (.map mb) := s5.blk.cell 1; have ml : ∀ (nq : Nat) ty, (Builtin.len_ #[66] ty #[.map mb]).run Try.prog (w5.drewN nq) = _ := fun nq ty => (s5.at'.below (below_drew ⟨nq, rfl⟩)).len ty))
          have hM : Hid (∀ q ∈ L.filter (keepB (fdB n) qt now), sameK (fdB n) qt q.1 = false) := fun q hq => by have := (List.mem_filter.1 hq).2; unfold keepB at this; simp only [Bool.and_eq_true, Bool.not_eq_true'] at this; exact this.1
          have HF : Hid (fstL (L.filter (keepB (fdB n) qt now)) = leftP (fstL L) (fdB n) qt now) := fst_filter _ _ _ _
          have HSUB : Hid (∀ p ∈ L.filter (keepB (fdB n) qt now), p ∈ L) := fun p hp => (List.mem_filter.1 hp).1
          have s5d := s5.below (Below.refl _ _).drew
          have hlen := s5.len
          clear ml k3 q3 s3 t5 b3 b2 b1 k1 k2 q2 s2 HLV
          generalize L.filter (keepB (fdB n) qt now) = M at s5 s5d hM HF HSUB hlen
          have T5d : Turn (fun k => k = gs ∨ mb = some k) w w5.drew := T5.past (Below.refl _ _).drew
          have hrow : Row w5.drew (.slice y N c) ds.length (tC ds) := by
            refine (HR.out.turned hN0 (tC_len ds) T5d (fun g o cap e => ?_))
            rintro (e' | e')
            · exact (row_apart HR.out hN0 HST.out.blk g o cap e).2 e'
            · rcases HST.out.at' with ⟨e1, _⟩ | ⟨b, e1, hh⟩
              · rw [e1] at e'; cases e'
              · rw [e1] at e'; cases e'
                obtain ⟨es, clock, hb, _⟩ := hh.map.choose_spec.choose_spec.1
                exact row_no_map HR.out hN0 (tC_len ds) hb g o cap e rfl
          have HA : Hid (∀ (w6 : World) (M' : List (En × Value)), St w6 gs most mb M' → Turn (fun k => mb = some k) w5.drew w6 → (∀ q ∈ M', q ∈ M) → M'.length + 1 ≤ most → Blk w6 w.heap.size #[.string n, .int .i64 qt, .int .i64 l, .slice y N c, .int .i64 r, .int .i64 u] 36 ∧ Blk w6 w2.heap.size #[.string (fdB n), .int .i64 qt] 73 ∧ Turn (fun k => k = gs ∨ mb = some k) w w6 ∧ Calls Try.prog 36 #[.pointer (some ⟨gs, 0, none⟩), .agg #[.string (fdB n), .int .i64 qt], .agg #[.string n, .int .i64 qt, .int .i64 l, .slice y N c, .int .i64 r, .int .i64 u]] w6 fun e w' => ∃ mb' d', e = .returned (.tuple #[]) ∧ St w' gs most mb' (M' ++ [(⟨fdB n, qt, l, ds, r, u⟩, d')]) ∧ Turn (fun k => k = gs ∨ mb = some k) w6 w' ∧ (∀ k, mb' = some k → mb = some k ∨ w6.heap.size ≤ k) ∧ (∀ k, d'.ownBlock = some k → w6.heap.size ≤ k)) := fun w6 M' s6 t6 hsub hle => by
            have hmb : ∀ i, mb = some i → i < w.heap.size := fun i e => HLT.out i (.inr (.inl e))
            have h2s := H2.size
            refine ⟨t6.blk (k5.below (Below.refl _ _).drew) (fun e => by have := hmb _ e; omega), t6.blk (q5.below (Below.refl _ _).drew) (fun e => by have := hmb _ e; omega), T5d.trans t6 (fun i e => .inl (.inr e)), ?_⟩
            refine hold_any s6 (fdB n) n qt l r u (.slice y N c) ds hok (hrow.turned hN0 (tC_len ds) t6 (fun g o cap e e' => ?_)) hN0 (by rw [← HN.out]; exact hNl) HS.out (fun q hq => hM.out q (hsub q hq)) hle
            rcases s5d.at' with ⟨e1, _⟩ | ⟨b', e1, hh⟩
            · rw [e1] at e'; cases e'
            · rw [e1] at e'; cases e'
              obtain ⟨es, clock, hb, _⟩ := hh.map.choose_spec.choose_spec.1
              exact row_no_map hrow hN0 (tC_len ds) hb g o cap e rfl
          have HE : Hid (∀ (w6 w7 : World) (M' : List (En × Value)) (mb7 : Option Nat) (d7 : Value), (∀ q ∈ M', q ∈ M) → fstL M' = cutP most (fstL M) → Turn (fun k => k = gs ∨ mb = some k) w w6 → St w7 gs most mb7 (M' ++ [(⟨fdB n, qt, l, ds, r, u⟩, d7)]) → Turn (fun k => k = gs ∨ mb = some k) w6 w7 → (∀ k, mb7 = some k → mb = some k ∨ w6.heap.size ≤ k) → (∀ k, d7.ownBlock = some k → w6.heap.size ≤ k) → ∃ mb' L', St w7 gs most mb' L' ∧ fstL L' = putP most (fstL L) ⟨n, qt, l, ds, r, u⟩ now ∧ Turn (fun k => k = gs ∨ mb = some k) w w7 ∧ (∀ k, foot gs mb' L' k → foot gs mb L k ∨ w.heap.size ≤ k)) := fun w6 w7 M' mb7 d7 hsub hcut t6 s7 t7 hm7 hd7 => by
            refine ⟨mb7, _, s7, ?_, t6.same t7, ?_⟩
            · rw [HP.out, fst_app, hcut, HF.out]; rfl
            · have hz := t6.size
              rintro k (e | e | ⟨p, hp, e⟩)
              · exact .inl (.inl e)
              · rcases hm7 k e with e | e
                · exact .inl (.inr (.inl e))
                · exact .inr (by omega)
              · rcases List.mem_append.1 hp with hp | hp
                · exact .inl (.inr (.inr ⟨p, HSUB.out p (hsub p hp), e⟩))
                · simp at hp; subst hp; exact .inr (by have := hd7 k e; omega)
          clear k5 q5 T5 T5d hrow hM HF HSUB z0 z1 x0 x1 x2 x3 x4 x5
          by_cases hfull : M.length = most
          · have hdec : decide ((most : Int) ≤ (M.length : Int)) = true := by simp; omega
            obtain ⟨b, rfl⟩ : ∃ b, mb = some b := by
              rcases s5.at' with ⟨_, e⟩ | ⟨b, e, _⟩
              · exfalso; have := s5.m1; rw [e] at hfull; simp at hfull; omega
              · exact ⟨b, e⟩
            have hdr := dropOne_any s5d (by have := s5.m1; omega)
            have HA2 : Hid (∀ (w6 : World), St w6 gs most (some b) (M.eraseIdx (minP (fstL M))) → Turn (fun k => k = b) w5.drew w6 → _) := fun w6 s6 t6 => HA.out w6 _ s6 (t6.more (fun k e => by rw [e])) (fun q hq => List.mem_of_mem_eraseIdx hq) (by rw [List.length_eraseIdx_of_lt (by rw [← fst_len]; exact minP_lt (by rw [fst_len]; have := s5.m1; omega))]; have := s5.m1; omega)
            have HC : Hid (fstL (M.eraseIdx (minP (fstL M))) = cutP most (fstL M)) := by unfold Hid cutP; rw [fst_len, if_pos hfull, fst_erase]
            clear HA
            go_region_law ((refine step_len_e _ (by rfl) (.tmp 44) (by rfl) (some b) M (by rfl) s5d.at' ?_))
            all_goals (go_wp2_with (first | (go_at_call 35; go_must (refine hdr.mono ?_); rintro e w6 ⟨rfl, s6, t6⟩; have HA6 := HA2.out w6 s6 t6; obtain ⟨k6, q6, T6, hho⟩ := HA6; have z0 := q6.cell 0; have z1 := q6.cell 1; have x0 := k6.cell 0; have x1 := k6.cell 1; have x2 := k6.cell 2; have x3 := k6.cell 3; have x4 := k6.cell 4; have x5 := k6.cell 5; simp only [List.getElem?_toArray, List.getElem?_cons_succ, List.getElem?_cons_zero] at z0 z1 x0 x1 x2 x3 x4 x5) | (go_at_call 36; go_must (refine hho.mono ?_); rintro e w7 ⟨mb7, d7, rfl, s7, t7, hm7, hd7⟩)))
            all_goals go_ret
            all_goals exact ⟨ret_int HERR.out, HE.out _ _ _ _ _ (fun q hq => List.mem_of_mem_eraseIdx hq) HC.out T6 s7 t7 hm7 hd7⟩
          · have hdec : decide ((most : Int) ≤ (M.length : Int)) = false := by simp; omega
            have HA6 := HA.out w5.drew M s5d (Turn.refl _ _) (fun q hq => hq) (by omega)
            have HC : Hid (fstL M = cutP most (fstL M)) := by unfold Hid cutP; rw [fst_len, if_neg hfull]
            clear HA
            obtain ⟨k6, q6, T6, hho⟩ := HA6; have z0 := q6.cell 0; have z1 := q6.cell 1; have x0 := k6.cell 0; have x1 := k6.cell 1; have x2 := k6.cell 2; have x3 := k6.cell 3; have x4 := k6.cell 4; have x5 := k6.cell 5; simp only [List.getElem?_toArray, List.getElem?_cons_succ, List.getElem?_cons_zero] at z0 z1 x0 x1 x2 x3 x4 x5
            go_region_law ((refine step_len_e _ (by rfl) (.tmp 44) (by rfl) mb M (by rfl) s5d.at' ?_))
            all_goals (go_wp2_with (first | (go_at_call 36; go_must (refine hho.mono ?_); rintro e w7 ⟨mb7, d7, rfl, s7, t7, hm7, hd7⟩) | go_in))
            all_goals go_ret
            all_goals exact ⟨ret_int HERR.out, HE.out _ _ _ _ _ (fun q hq => hq) HC.out T6 s7 t7 hm7 hd7⟩
      | false =>
        have HLV : Hid (∀ u, St u gs most mb L → Calls Try.prog 33 #[.pointer (some ⟨gs, 0, none⟩), .agg #[.string (fdB n), .int .i64 qt], .int .i64 now] u fun e w' => e = .returned (.tuple #[.agg #[.string (fdB n), .int .i64 qt, .int .i64 ql, .slice qy qN qc, .int .i64 qr, .int .i64 qu], .bool false]) ∧ Below u.heap.size u w') := fun u hu => by have := HLV0.out u hu; rw [hlv] at this; exact this
        have HP : Hid (putP most (fstL L) ⟨n, qt, l, ds, r, u⟩ now = cutP most (leftP (fstL L) (fdB n) qt now) ++ [⟨fdB n, qt, l, ds, r, u⟩]) := by
          have := HBE.out false (by rw [hbt, hlv]; rfl)
          unfold Hid
          rw [this]; rfl
        clear HBE hbt HLV0 hlv
        go_enter Try.func14, Try.ntmps14
        go_wp2_with (first | (go_at_call 31; go_must (refine (isWrong_any n qt l r u now y c N ds _ hn HN.out true HMAY.out).mono ?_); rintro e w1 ⟨rfl, b1⟩; have H1 := next hb0 b1; have k1 := k0.below b1; have x0 := k1.cell 0; have x1 := k1.cell 1; simp only [List.getElem?_toArray, List.getElem?_cons_succ, List.getElem?_cons_zero] at x0 x1) | (go_at_call 32; go_must (refine (keyOf_any n qt _ hn).mono ?_); rintro e w2 ⟨rfl, b2⟩; unfold kyV; have H2 := next H1 b2; have H2' := lay H2 (.cells #[.string (fdB n), .int .i64 qt] 73); have k2 := (k1.below b2).alloc (.cells #[.string (fdB n), .int .i64 qt] 73); have q2 := Blk.new w2 #[.string (fdB n), .int .i64 qt] 73; have s2 := HST.out.below H2'; clear x0 x1) | (go_at_call 33; go_must (refine (HLV.out _ s2).mono ?_); rintro e w3 ⟨rfl, b3⟩; have H3 := next H2' b3; have H3' := lay H3 (.cells #[.string (fdB n), .int .i64 qt, .int .i64 ql, .slice qy qN qc, .int .i64 qr, .int .i64 qu] 36); have k3 := (k2.below b3).alloc (.cells #[.string (fdB n), .int .i64 qt, .int .i64 ql, .slice qy qN qc, .int .i64 qr, .int .i64 qu] 36); have q3 := (q2.below b3).alloc (.cells #[.string (fdB n), .int .i64 qt, .int .i64 ql, .slice qy qN qc, .int .i64 qr, .int .i64 qu] 36); have s3 := HST.out.below H3'; have x4 := k3.cell 4; have z0 := q3.cell 0; have z1 := q3.cell 1; simp only [List.getElem?_toArray, List.getElem?_cons_succ, List.getElem?_cons_zero] at x4 z0 z1) | (go_at_call 34; go_must (refine (sweep_any s3 (fdB n) qt now hok).mono ?_); rintro e w5 ⟨rfl, s5, t5⟩; clear x4 z0 z1; have T5 : Turn (fun k => k = gs ∨ mb = some k) w w5 := (Turn.of_below H3').trans t5 (fun i e => .inl (.inr e)); have k5 := t5.blk k3 (fun e => by have := HLT.out _ (.inr (.inl e)); omega); have q5 := t5.blk q3 (fun e => by have := HLT.out _ (.inr (.inl e)); have := H2.size; omega); have z0 := q5.cell 0; have z1 := q5.cell 1; have x0 := k5.cell 0; have x1 := k5.cell 1; have x2 := k5.cell 2; have x3 := k5.cell 3; have x4 := k5.cell 4; have x5 := k5.cell 5; simp only [List.getElem?_toArray, List.getElem?_cons_succ, List.getElem?_cons_zero] at z0 z1 x0 x1 x2 x3 x4 x5; have m0 : w5.cell? ⟨gs, 0, none⟩ = some (.int .i64 most) := s5.blk.cell 0; have m1 : w5.cell? ⟨gs, 1, none⟩ = some (.map mb) := s5.blk.cell 1; have ml : ∀ (nq : Nat) ty, (Builtin.len_ #[66] ty #[.map mb]).run Try.prog (w5.drewN nq) = _ := fun nq ty => (s5.at'.below (below_drew ⟨nq, rfl⟩)).len ty))
        have hM : Hid (∀ q ∈ L.filter (keepB (fdB n) qt now), sameK (fdB n) qt q.1 = false) := fun q hq => by have := (List.mem_filter.1 hq).2; unfold keepB at this; simp only [Bool.and_eq_true, Bool.not_eq_true'] at this; exact this.1
        have HF : Hid (fstL (L.filter (keepB (fdB n) qt now)) = leftP (fstL L) (fdB n) qt now) := fst_filter _ _ _ _
        have HSUB : Hid (∀ p ∈ L.filter (keepB (fdB n) qt now), p ∈ L) := fun p hp => (List.mem_filter.1 hp).1
        have s5d := s5.below (Below.refl _ _).drew
        have hlen := s5.len
        clear ml k3 q3 s3 t5 b3 b2 b1 k1 k2 q2 s2 HLV
        generalize L.filter (keepB (fdB n) qt now) = M at s5 s5d hM HF HSUB hlen
        have T5d : Turn (fun k => k = gs ∨ mb = some k) w w5.drew := T5.past (Below.refl _ _).drew
        have hrow : Row w5.drew (.slice y N c) ds.length (tC ds) := by
          refine (HR.out.turned hN0 (tC_len ds) T5d (fun g o cap e => ?_))
          rintro (e' | e')
          · exact (row_apart HR.out hN0 HST.out.blk g o cap e).2 e'
          · rcases HST.out.at' with ⟨e1, _⟩ | ⟨b, e1, hh⟩
            · rw [e1] at e'; cases e'
            · rw [e1] at e'; cases e'
              obtain ⟨es, clock, hb, _⟩ := hh.map.choose_spec.choose_spec.1
              exact row_no_map HR.out hN0 (tC_len ds) hb g o cap e rfl
        have HA : Hid (∀ (w6 : World) (M' : List (En × Value)), St w6 gs most mb M' → Turn (fun k => mb = some k) w5.drew w6 → (∀ q ∈ M', q ∈ M) → M'.length + 1 ≤ most → Blk w6 w.heap.size #[.string n, .int .i64 qt, .int .i64 l, .slice y N c, .int .i64 r, .int .i64 u] 36 ∧ Blk w6 w2.heap.size #[.string (fdB n), .int .i64 qt] 73 ∧ Turn (fun k => k = gs ∨ mb = some k) w w6 ∧ Calls Try.prog 36 #[.pointer (some ⟨gs, 0, none⟩), .agg #[.string (fdB n), .int .i64 qt], .agg #[.string n, .int .i64 qt, .int .i64 l, .slice y N c, .int .i64 r, .int .i64 u]] w6 fun e w' => ∃ mb' d', e = .returned (.tuple #[]) ∧ St w' gs most mb' (M' ++ [(⟨fdB n, qt, l, ds, r, u⟩, d')]) ∧ Turn (fun k => k = gs ∨ mb = some k) w6 w' ∧ (∀ k, mb' = some k → mb = some k ∨ w6.heap.size ≤ k) ∧ (∀ k, d'.ownBlock = some k → w6.heap.size ≤ k)) := fun w6 M' s6 t6 hsub hle => by
          have hmb : ∀ i, mb = some i → i < w.heap.size := fun i e => HLT.out i (.inr (.inl e))
          have h2s := H2.size
          refine ⟨t6.blk (k5.below (Below.refl _ _).drew) (fun e => by have := hmb _ e; omega), t6.blk (q5.below (Below.refl _ _).drew) (fun e => by have := hmb _ e; omega), T5d.trans t6 (fun i e => .inl (.inr e)), ?_⟩
          refine hold_any s6 (fdB n) n qt l r u (.slice y N c) ds hok (hrow.turned hN0 (tC_len ds) t6 (fun g o cap e e' => ?_)) hN0 (by rw [← HN.out]; exact hNl) HS.out (fun q hq => hM.out q (hsub q hq)) hle
          rcases s5d.at' with ⟨e1, _⟩ | ⟨b', e1, hh⟩
          · rw [e1] at e'; cases e'
          · rw [e1] at e'; cases e'
            obtain ⟨es, clock, hb, _⟩ := hh.map.choose_spec.choose_spec.1
            exact row_no_map hrow hN0 (tC_len ds) hb g o cap e rfl
        have HE : Hid (∀ (w6 w7 : World) (M' : List (En × Value)) (mb7 : Option Nat) (d7 : Value), (∀ q ∈ M', q ∈ M) → fstL M' = cutP most (fstL M) → Turn (fun k => k = gs ∨ mb = some k) w w6 → St w7 gs most mb7 (M' ++ [(⟨fdB n, qt, l, ds, r, u⟩, d7)]) → Turn (fun k => k = gs ∨ mb = some k) w6 w7 → (∀ k, mb7 = some k → mb = some k ∨ w6.heap.size ≤ k) → (∀ k, d7.ownBlock = some k → w6.heap.size ≤ k) → ∃ mb' L', St w7 gs most mb' L' ∧ fstL L' = putP most (fstL L) ⟨n, qt, l, ds, r, u⟩ now ∧ Turn (fun k => k = gs ∨ mb = some k) w w7 ∧ (∀ k, foot gs mb' L' k → foot gs mb L k ∨ w.heap.size ≤ k)) := fun w6 w7 M' mb7 d7 hsub hcut t6 s7 t7 hm7 hd7 => by
          refine ⟨mb7, _, s7, ?_, t6.same t7, ?_⟩
          · rw [HP.out, fst_app, hcut, HF.out]; rfl
          · have hz := t6.size
            rintro k (e | e | ⟨p, hp, e⟩)
            · exact .inl (.inl e)
            · rcases hm7 k e with e | e
              · exact .inl (.inr (.inl e))
              · exact .inr (by omega)
            · rcases List.mem_append.1 hp with hp | hp
              · exact .inl (.inr (.inr ⟨p, HSUB.out p (hsub p hp), e⟩))
              · simp at hp; subst hp; exact .inr (by have := hd7 k e; omega)
        clear k5 q5 T5 T5d hrow hM HF HSUB z0 z1 x0 x1 x2 x3 x4 x5
        by_cases hfull : M.length = most
        · have hdec : decide ((most : Int) ≤ (M.length : Int)) = true := by simp; omega
          obtain ⟨b, rfl⟩ : ∃ b, mb = some b := by
            rcases s5.at' with ⟨_, e⟩ | ⟨b, e, _⟩
            · exfalso; have := s5.m1; rw [e] at hfull; simp at hfull; omega
            · exact ⟨b, e⟩
          have hdr := dropOne_any s5d (by have := s5.m1; omega)
          have HA2 : Hid (∀ (w6 : World), St w6 gs most (some b) (M.eraseIdx (minP (fstL M))) → Turn (fun k => k = b) w5.drew w6 → _) := fun w6 s6 t6 => HA.out w6 _ s6 (t6.more (fun k e => by rw [e])) (fun q hq => List.mem_of_mem_eraseIdx hq) (by rw [List.length_eraseIdx_of_lt (by rw [← fst_len]; exact minP_lt (by rw [fst_len]; have := s5.m1; omega))]; have := s5.m1; omega)
          have HC : Hid (fstL (M.eraseIdx (minP (fstL M))) = cutP most (fstL M)) := by unfold Hid cutP; rw [fst_len, if_pos hfull, fst_erase]
          clear HA
          go_region_law ((refine step_len_e _ (by rfl) (.tmp 44) (by rfl) (some b) M (by rfl) s5d.at' ?_))
          all_goals (go_wp2_with (first | (go_at_call 35; go_must (refine hdr.mono ?_); rintro e w6 ⟨rfl, s6, t6⟩; have HA6 := HA2.out w6 s6 t6; obtain ⟨k6, q6, T6, hho⟩ := HA6; have z0 := q6.cell 0; have z1 := q6.cell 1; have x0 := k6.cell 0; have x1 := k6.cell 1; have x2 := k6.cell 2; have x3 := k6.cell 3; have x4 := k6.cell 4; have x5 := k6.cell 5; simp only [List.getElem?_toArray, List.getElem?_cons_succ, List.getElem?_cons_zero] at z0 z1 x0 x1 x2 x3 x4 x5) | (go_at_call 36; go_must (refine hho.mono ?_); rintro e w7 ⟨mb7, d7, rfl, s7, t7, hm7, hd7⟩)))
          all_goals go_ret
          all_goals exact ⟨ret_int HERR.out, HE.out _ _ _ _ _ (fun q hq => List.mem_of_mem_eraseIdx hq) HC.out T6 s7 t7 hm7 hd7⟩
        · have hdec : decide ((most : Int) ≤ (M.length : Int)) = false := by simp; omega
          have HA6 := HA.out w5.drew M s5d (Turn.refl _ _) (fun q hq => hq) (by omega)
          have HC : Hid (fstL M = cutP most (fstL M)) := by unfold Hid cutP; rw [fst_len, if_neg hfull]
          clear HA
          obtain ⟨k6, q6, T6, hho⟩ := HA6; have z0 := q6.cell 0; have z1 := q6.cell 1; have x0 := k6.cell 0; have x1 := k6.cell 1; have x2 := k6.cell 2; have x3 := k6.cell 3; have x4 := k6.cell 4; have x5 := k6.cell 5; simp only [List.getElem?_toArray, List.getElem?_cons_succ, List.getElem?_cons_zero] at z0 z1 x0 x1 x2 x3 x4 x5
          go_region_law ((refine step_len_e _ (by rfl) (.tmp 44) (by rfl) mb M (by rfl) s5d.at' ?_))
          all_goals (go_wp2_with (first | (go_at_call 36; go_must (refine hho.mono ?_); rintro e w7 ⟨mb7, d7, rfl, s7, t7, hm7, hd7⟩) | go_in))
          all_goals go_ret
          all_goals exact ⟨ret_int HERR.out, HE.out _ _ _ _ _ (fun q hq => hq) HC.out T6 s7 t7 hm7 hd7⟩

end Go.Proofs.Ytcmhjlflgedcdaa
