/- The document's Due. -/
import Derived.Test.YtbldoplemfjcjaaOuW
namespace Go.Proofs.Ytbldoplemfjcjaa
open Go.RowKit
open Pl
namespace Ou

theorem takeA_filter (p : Ak → Bool) (l : List Ak) (j : Nat) (h : j < l.length) : (l.take (j + 1)).filter p = (l.take j).filter p ++ (if p l[j] then [l[j]] else []) := take_filter p l j h
/-- How far the document's Due is. -/
structure DP (B : Nat) (w0 w : World) (r most : Nat) (v : Value) (D : List Ak) (d l : Value) (A R : List Ak) (ma mb : Nat) : Prop where
  rs : RS B w r most v D
  a : w.ownsRow w0.heap.size 35 8 d ma (aF A)
  b : w.ownsRow w0.heap.size 35 8 l mb (aF R)
  apart : d.ownBlock = none ∨ d.ownBlock ≠ l.ownBlock
  bel : Below w0.heap.size w0 w
  low : ∀ k, rft r v k → k < w0.heap.size
theorem DP.below {B : Nat} {w0 w w' : World} {r most : Nat} {v : Value} {D : List Ak} {d l : Value} {A R : List Ak} {ma mb : Nat} (h : DP B w0 w r most v D d l A R ma mb) (hb : Below w.heap.size w w') : DP B w0 w' r most v D d l A R ma mb :=
  ⟨h.rs.below hb, own_past h.a hb, own_past h.b hb, h.apart, next h.bel hb, h.low⟩
theorem DP.app_a {B : Nat} {w0 w w' : World} {r most : Nat} {v : Value} {D : List Ak} {d l d' : Value} {A R : List Ak} {ma mb : Nat} (h : DP B w0 w r most v D d l A R ma mb) (x : Ak) (ho : w'.ownsRow w0.heap.size 35 8 d' (ma + 1) (aF A ++ akC x)) (hg : w.grownBy w' d.ownBlock) (hk : ∀ k, d'.ownBlock = some k → d.ownBlock = some k ∨ w.heap.size ≤ k) : DP B w0 w' r most v D d' l (A ++ [x]) R (ma + 1) mb := by
  have ht : Turn (fun k => d.ownBlock = some k) w w' := Turn.of_grown hg (fun _ e => e)
  have hap : ∀ k, l.ownBlock = some k → d.ownBlock ≠ some k := fun k hk e => by
    rcases h.apart with h1 | h1
    · rw [h1] at e; cases e
    · exact h1 (e.trans hk.symm)
  refine ⟨h.rs.turn ht (fun k hk e => by have h1 := h.low k hk; have h2 := (h.a.lt k e).1; omega), by rw [aF_app, aF_single]; exact ho, ht.row h.b hap, ?_, h.bel.grown hg h.bel.size (fun k e => (h.a.lt k e).1), h.low⟩
  cases e : d'.ownBlock with
  | none => exact .inl rfl
  | some k =>
    refine .inr (fun e2 => ?_)
    rcases hk k e with e3 | e3
    · exact hap k e2.symm e3
    · have := (h.b.lt k e2.symm).2; omega
theorem DP.app_b {B : Nat} {w0 w w' : World} {r most : Nat} {v : Value} {D : List Ak} {d l l' : Value} {A R : List Ak} {ma mb : Nat} (h : DP B w0 w r most v D d l A R ma mb) (x : Ak) (ho : w'.ownsRow w0.heap.size 35 8 l' (mb + 1) (aF R ++ akC x)) (hg : w.grownBy w' l.ownBlock) (hk : ∀ k, l'.ownBlock = some k → l.ownBlock = some k ∨ w.heap.size ≤ k) : DP B w0 w' r most v D d l' A (R ++ [x]) ma (mb + 1) := by
  have ht : Turn (fun k => l.ownBlock = some k) w w' := Turn.of_grown hg (fun _ e => e)
  have hap : ∀ k, d.ownBlock = some k → l.ownBlock ≠ some k := fun k hk e => by
    rcases h.apart with h1 | h1
    · rw [h1] at hk; cases hk
    · exact h1 (hk.trans e.symm)
  refine ⟨h.rs.turn ht (fun k hk e => by have h1 := h.low k hk; have h2 := (h.b.lt k e).1; omega), ht.row h.a hap, by rw [aF_app, aF_single]; exact ho, ?_, h.bel.grown hg h.bel.size (fun k e => (h.b.lt k e).1), h.low⟩
  cases e : d.ownBlock with
  | none => exact .inl rfl
  | some k =>
    refine .inr (fun e2 => ?_)
    rcases hk k e2.symm with e3 | e3
    · exact hap k e e3
    · have := (h.a.lt k e).2; omega

set_option maxRecDepth 20000 in
set_option maxHeartbeats 8000000 in
theorem rdue_any {B : Nat} {w : World} {r most : Nat} {v : Value} {D : List Ak} (h : RS B w r most v D) (now : Int) (hB : B ≤ w.heap.size) (A R : List Ak) (NA : Nat) (hA : D.filter (dueA now) = A) (hR : (D.filter fun x => !dueA now x) = R) (hNA : A.length = NA) :
    Calls Try.prog 18 #[.pointer (some ⟨r, 0, none⟩), .int .i64 now] w fun e w' => ∃ y c v', e = .returned (.slice y NA c) ∧ w'.ownsRow w.heap.size 35 8 (.slice y NA c) NA (aF A) ∧ RS B w' r most v' R ∧ Turn (rft r v) w w' ∧ ∀ k, rft r v' k → rft r v k ∨ w.heap.size ≤ k := by
  obtain ⟨ia, hia, hz0, hz1, hz2⟩ := info_parts infoA
  obtain ⟨y, cp, rfl⟩ := row_shape h.own
  obtain ⟨N, hN⟩ : ∃ N, N = D.length := ⟨_, rfl⟩
  have hN16 : N ≤ 16 := by have := h.m2; have := h.len; omega
  rw [← hN] at h ⊢
  have HN : Hid (N = D.length) := hN
  have HW : Hid (D.filter (dueA now) = A ∧ (D.filter fun x => !dueA now x) = R ∧ A.length = NA) := ⟨hA, hR, hNA⟩
  have HS0 : Hid (DP B w w r most (.slice y N cp) D (.slice none 0 0) (.slice none 0 0) [] [] 0 0) := ⟨h, World.ownsRow_nil _ _ _ _, World.ownsRow_nil _ _ _ _, .inl rfl, Below.refl _ _, fun k hk => by
    rcases hk with e | e
    · rw [e]; exact h.blk.lt
    · exact (h.own.lt k e).2⟩
  clear hA hR hNA hN h
  go_enter Try.func18, Try.ntmps18
  go_wp2
  go_loopw [5, 6, 7] (fun d l q wr => ∃ (j ma mb : Nat) (y1 y2 : Option Addr) (c1 c2 : Nat), j ≤ N ∧ ma ≤ j ∧ mb ≤ j ∧ d = .slice y1 ma c1 ∧ l = .slice y2 mb c2 ∧ q = .int .i64 (j : Int) ∧ Hid (DP B w wr r most (.slice y N cp) D (.slice y1 ma c1) (.slice y2 mb c2) ((D.take j).filter (dueA now)) ((D.take j).filter fun x => !dueA now x) ma mb ∧ ((D.take j).filter (dueA now)).length = ma ∧ ((D.take j).filter fun x => !dueA now x).length = mb)) (fun _ _ q _ => N - (intOf q).toNat)
  case atStart => exact ⟨0, 0, 0, none, none, 0, 0, Nat.zero_le _, Nat.le_refl _, Nat.le_refl _, rfl, rfl, rfl, HS0.out, rfl, rfl⟩
  case round =>
    obtain ⟨j, ma, mb, y1, y2, c1, c2, hj, hma, hmb, rfl, rfl, rfl, HS⟩ := hrel
    clear HS0
    have x1 := HS.out.1.rs.blk.cell 1
    have fz1 := HS.out.1.rs.blk.frozen 1
    simp only [List.getElem?_toArray, List.getElem?_cons_succ, List.getElem?_cons_zero] at x1
    by_cases hjn : j < N
    · have hjn' : (j : Int) < (N : Int) := by omega
      have hju : j < D.length := by have := HN.out; omega
      obtain ⟨gd, od, capd, hxv, hc⟩ := row_at (Row.of_own HS.out.1.rs.own) (by omega)
      simp only [Value.slice.injEq] at hxv
      obtain ⟨rfl, -, rfl⟩ := hxv
      obtain ⟨⟨xj, xi, xa, xc, xg, xn, xt, xu⟩, hd⟩ : ∃ p, p = D[j] := ⟨_, rfl⟩
      have fd := fun q hq => aF_map D j hju q hq
      rw [← hd] at fd
      have d0 := hc (j * 8 + 0) _ (fd 0 (by omega))
      have d1 := hc (j * 8 + 1) _ (fd 1 (by omega))
      have d2 := hc (j * 8 + 2) _ (fd 2 (by omega))
      have d3 := hc (j * 8 + 3) _ (fd 3 (by omega))
      have d4 := hc (j * 8 + 4) _ (fd 4 (by omega))
      have d5 := hc (j * 8 + 5) _ (fd 5 (by omega))
      have d6 := hc (j * 8 + 6) _ (fd 6 (by omega))
      have d7 := hc (j * 8 + 7) _ (fd 7 (by omega))
      simp only [Nat.add_zero, ← Nat.add_assoc] at d0 d1 d2 d3 d4 d5 d6 d7
      have HP : Hid ((⟨xj, xi, xa, xc, xg, xn, xt, xu⟩ : Ak) = D[j]) := hd
      clear hc hd fd
      cases hdue : decide (xu ≤ now) with
      | true =>
        have HF : Hid ((D.take (j + 1)).filter (dueA now) = ((D.take j).filter (dueA now)) ++ [(⟨xj, xi, xa, xc, xg, xn, xt, xu⟩ : Ak)] ∧ ((D.take (j + 1)).filter fun x => !dueA now x) = ((D.take j).filter fun x => !dueA now x)) := by
          have hq : dueA now D[j] = true := by rw [← HP.out]; exact hdue
          have e1 := takeA_filter (dueA now) D j hju
          have e2 := takeA_filter (fun x => !dueA now x) D j hju
          rw [hq] at e1 e2
          rw [← HP.out] at e1 e2
          simp at e1 e2
          exact ⟨e1, by simpa using e2⟩
        have HS2 : Hid (DP B w (wr.alloc (.cells #[.int .i64 xj, .int .i64 xi, .int .i64 xa, .string xc, .string xg, .string xn, .int .i64 xt, .int .i64 xu] 35)) r most (.slice (some ⟨gd, od, none⟩) N cp) D (.slice y1 ma c1) (.slice y2 mb c2) ((D.take j).filter (dueA now)) ((D.take j).filter fun x => !dueA now x) ma mb ∧ ((D.take j).filter (dueA now)).length = ma ∧ ((D.take j).filter fun x => !dueA now x).length = mb) := ⟨HS.out.1.below (lay (Below.refl _ _) _), HS.out.2⟩
        have hrow2 := Row.of_blk (Blk.new wr #[.int .i64 xj, .int .i64 xi, .int .i64 xa, .string xc, .string xg, .string xn, .int .i64 xt, .int .i64 xu] 35) (xs := akC (⟨xj, xi, xa, xc, xg, xn, xt, xu⟩ : Ak)) rfl 1 1
        have hown := HS2.out.1.a
        have hown2 := HS2.out.1.bel.size
        have hdd : xu ≤ now := by simpa using hdue
        go_wp2_with (at_builtin; refine wpList_appG _ rfl (.tmp 27) (.tmp 35) 46 35 ia _ 8 88 Try.underlying46 hia hz0 hz1 hz2 rfl (by decide) rfl w.heap.size (.slice y1 ma c1) ma (aF ((D.take j).filter (dueA now))) rfl hown _ 1 (akC (⟨xj, xi, xa, xc, xg, xn, xt, xu⟩ : Ak)) rfl hrow2 rfl (by rw [← aF_single]; exact aF_one _) (by omega) (by unfold maxLen; omega) hown2 ?_; intro v3 w5 h1 h3 h4; obtain ⟨y3, c3, rfl⟩ := row_shape h1; have HS5 := HS2.out.1.app_a (⟨xj, xi, xa, xc, xg, xn, xt, xu⟩ : Ak) h1 h3 h4)
        have HS6 : Hid (DP B w w5 r most (.slice (some ⟨gd, od, none⟩) N cp) D (.slice y3 (ma + 1) c3) (.slice y2 mb c2) ((D.take (j + 1)).filter (dueA now)) ((D.take (j + 1)).filter fun x => !dueA now x) (ma + 1) mb ∧ ((D.take (j + 1)).filter (dueA now)).length = ma + 1 ∧ ((D.take (j + 1)).filter fun x => !dueA now x).length = mb) := by unfold Hid; rw [HF.out.1, HF.out.2]; exact ⟨HS5, by rw [List.length_append, HS.out.2.1]; rfl, HS.out.2.2⟩
        clear HS5 h1 h3 h4 hown hrow2 HS HS2 hown2
        go_roundw
        case rel => exact ⟨j + 1, ma + 1, mb, y3, y2, c3, c2, by omega, by omega, by omega, rfl, rfl, by go_num, HS6⟩
        case measure => simp [intOf]; omega
      | false =>
        have HF : Hid ((D.take (j + 1)).filter (dueA now) = ((D.take j).filter (dueA now)) ∧ ((D.take (j + 1)).filter fun x => !dueA now x) = ((D.take j).filter fun x => !dueA now x) ++ [(⟨xj, xi, xa, xc, xg, xn, xt, xu⟩ : Ak)]) := by
          have hq : dueA now D[j] = false := by rw [← HP.out]; exact hdue
          have e1 := takeA_filter (dueA now) D j hju
          have e2 := takeA_filter (fun x => !dueA now x) D j hju
          rw [hq] at e1 e2
          rw [← HP.out] at e1 e2
          simp at e1 e2
          exact ⟨by simpa using e1, e2⟩
        have HS2 : Hid (DP B w (wr.alloc (.cells #[.int .i64 xj, .int .i64 xi, .int .i64 xa, .string xc, .string xg, .string xn, .int .i64 xt, .int .i64 xu] 35)) r most (.slice (some ⟨gd, od, none⟩) N cp) D (.slice y1 ma c1) (.slice y2 mb c2) ((D.take j).filter (dueA now)) ((D.take j).filter fun x => !dueA now x) ma mb ∧ ((D.take j).filter (dueA now)).length = ma ∧ ((D.take j).filter fun x => !dueA now x).length = mb) := ⟨HS.out.1.below (lay (Below.refl _ _) _), HS.out.2⟩
        have hrow2 := Row.of_blk (Blk.new wr #[.int .i64 xj, .int .i64 xi, .int .i64 xa, .string xc, .string xg, .string xn, .int .i64 xt, .int .i64 xu] 35) (xs := akC (⟨xj, xi, xa, xc, xg, xn, xt, xu⟩ : Ak)) rfl 1 1
        have hown := HS2.out.1.b
        have hown2 := HS2.out.1.bel.size
        go_wp2_with (at_builtin; refine wpList_appG _ rfl (.tmp 37) (.tmp 45) 46 35 ia _ 8 88 Try.underlying46 hia hz0 hz1 hz2 rfl (by decide) rfl w.heap.size (.slice y2 mb c2) mb (aF ((D.take j).filter fun x => !dueA now x)) rfl hown _ 1 (akC (⟨xj, xi, xa, xc, xg, xn, xt, xu⟩ : Ak)) rfl hrow2 rfl (by rw [← aF_single]; exact aF_one _) (by omega) (by unfold maxLen; omega) hown2 ?_; intro v3 w5 h1 h3 h4; obtain ⟨y3, c3, rfl⟩ := row_shape h1; have HS5 := HS2.out.1.app_b (⟨xj, xi, xa, xc, xg, xn, xt, xu⟩ : Ak) h1 h3 h4)
        have HS6 : Hid (DP B w w5 r most (.slice (some ⟨gd, od, none⟩) N cp) D (.slice y1 ma c1) (.slice y3 (mb + 1) c3) ((D.take (j + 1)).filter (dueA now)) ((D.take (j + 1)).filter fun x => !dueA now x) ma (mb + 1) ∧ ((D.take (j + 1)).filter (dueA now)).length = ma ∧ ((D.take (j + 1)).filter fun x => !dueA now x).length = mb + 1) := by unfold Hid; rw [HF.out.1, HF.out.2]; exact ⟨HS5, HS.out.2.1, by rw [List.length_append, HS.out.2.2]; rfl⟩
        clear HS5 h1 h3 h4 hown hrow2 HS HS2 hown2
        go_roundw
        case rel => exact ⟨j + 1, ma, mb + 1, y1, y3, c1, c3, by omega, by omega, by omega, rfl, rfl, by go_num, HS6⟩
        case measure => simp [intOf]; omega
    · have hjn' : decide ((j : Int) < (N : Int)) = false := by simp; omega
      have HE : Hid (DP B w wr r most (.slice y N cp) D (.slice y1 ma c1) (.slice y2 mb c2) A R ma mb ∧ ma = NA ∧ R.length = mb) := by
        have e : D.take j = D := List.take_of_length_le (by have := HN.out; omega)
        obtain ⟨h1, h2, h3⟩ := HS.out
        rw [e, HW.out.1] at h1 h2
        rw [HW.out.2.1] at h1
        rw [e, HW.out.2.1] at h3
        exact ⟨h1, by rw [← h2, HW.out.2.2], h3⟩
      clear HS
      go_wp2
      go_ret
      obtain ⟨he, hma2, hrl⟩ := HE.out
      subst hma2
      have hts : Turn (fun k => k = r) wr (wr.setCell ⟨r, 1, none⟩ (.slice y2 mb c2)) := Turn.of_set (p := ⟨r, 1, none⟩) (S := fun k => k = r) wr rfl _
      have hrlow := he.low r (.inl rfl)
      refine ⟨y1, c1, .slice y2 mb c2, rfl, hts.row he.a (fun k hk e => by have := (he.a.lt k hk).1; omega), ⟨he.rs.blk.set 1 _, ?_, he.rs.new, he.rs.m1, he.rs.m2, ?_, ?_⟩, ?_, ?_⟩
      · have := hts.row he.b (fun k hk e => by have := (he.b.lt k hk).1; omega)
        rw [hrl]
        exact own_base this hB
      · rw [hrl]
        have := he.rs.len
        have := HN.out
        omega
      · intro x hx
        rw [← HW.out.2.1] at hx
        exact he.rs.ok x (List.mem_filter.1 hx).1
      · exact (Turn.of_below he.bel).trans hts (fun k e => .inl (.inl e))
      · rintro k (e | e)
        · exact .inl (.inl e)
        · exact .inr (he.b.lt k e).1

end Ou
end Go.Proofs.Ytbldoplemfjcjaa
