/- Put of a Cuts. -/
import Derived.Test.YtnjgdfmldjgloaaXP14
namespace Go.Proofs.Ytnjgdfmldjgloaa
open Go.RowKit
open Pl
namespace Cu

/-- A row outlasts what turns maps alone. -/
theorem row_maps {S : Nat → Prop} {w w' : World} {v : Value} {n : Nat} {xs : List Value} (h : Row w v n xs) (ht : Turn S w w') (hs : ∀ k, S k → ∃ es clock, w.heap[k]? = some (.map es clock)) : Row w' v n xs := by
  rcases h with h | ⟨g, o, p, cap, hv, hp, hc⟩
  · exact .inl h
  · refine .inr ⟨g, o, p, cap, hv, hp, fun j u hu => ?_⟩
    have h0 := hc j u hu
    have hlt := World.block_lt_of_cell? _ _ h0
    have hns : ¬ S g := fun e => by
      obtain ⟨es, clock, hb⟩ := hs g e
      simp [World.cell?, hb] at h0
    rw [World.cell?_of_block (w := w) (ht.block g hlt hns)]
    exact h0
theorem DIn.maps {S : Nat → Prop} {w w' : World} {d : Dg} {hv gv : Value} (h : DIn w d hv gv) (ht : Turn S w w') (hs : ∀ k, S k → ∃ es clock, w.heap[k]? = some (.map es clock)) : DIn w' d hv gv := ⟨row_maps h.hr ht hs, h.hc, row_maps h.gr ht hs, h.hl, h.ll, h.cs, h.hss, h.gss⟩
theorem MapAt.is_map {w : World} {mb : Option Nat} {L : List Pr} (h : MapAt w mb L) : ∀ k, mb = some k → ∃ es clock, w.heap[k]? = some (.map es clock) := by
  intro k e
  rcases h with ⟨e', _⟩ | ⟨b, e', hh⟩
  · rw [e'] at e; cases e
  · rw [e'] at e; cases e
    exact hh.blk

/-- Cuts, plainly. -/
def fstC (L : List Pr) : List Ct := L.map Prod.fst
def keepC (n : ByteArray) (now : Int) (c : Ct) : Bool := !decide (c.n = n) && decide (now < c.u)
def enC (c : Ct) : En := ⟨c.n, 0, 0, [], 0, c.u⟩
def minCt (F : List Ct) : Nat := minP (F.map enC)
def cutC (F : List Ct) : List Ct := if 128 ≤ F.length then F.eraseIdx (minCt F) else F
def putC (F : List Ct) (d : Dg) (fr : ByteArray) (now : Int) : List Ct := if mayD d fr now then cutC (F.filter (keepC (fdB d.c) now)) ++ [newCt d fr now] else F
def errC (d : Dg) (fr : ByteArray) (now : Int) : Int := if mayD d fr now then 0 else 1500
theorem fstC_len (L : List Pr) : (fstC L).length = L.length := by unfold fstC; simp
theorem fstC_app (L M : List Pr) : fstC (L ++ M) = fstC L ++ fstC M := by unfold fstC; simp
theorem fstC_filter (n : ByteArray) (now : Int) (L : List Pr) : fstC (L.filter (keepB n now)) = (fstC L).filter (keepC n now) := by
  unfold fstC
  rw [List.filter_map]
  rfl
theorem fstC_erase (L : List Pr) (i : Nat) : fstC (L.eraseIdx i) = (fstC L).eraseIdx i := by
  unfold fstC
  induction L generalizing i with
  | nil => rfl
  | cons a L ih =>
    cases i with
    | zero => rfl
    | succ i => simp only [List.eraseIdx_cons_succ, List.map_cons, ih]
theorem minC_fst (L : List Pr) : minC L = minCt (fstC L) := by
  unfold minC minCt fstC
  rw [List.map_map]
  rfl
def cutP2 (L : List Pr) : List Pr := if 128 ≤ L.length then L.eraseIdx (minC L) else L
theorem fstC_cut (L : List Pr) : fstC (cutP2 L) = cutC (fstC L) := by
  unfold cutP2 cutC
  rw [fstC_len]
  split
  · rw [fstC_erase, minC_fst]
  · rfl
theorem cut_sub (L : List Pr) : (cutP2 L).Sublist L := by
  unfold cutP2
  split
  · exact List.eraseIdx_sublist _ _
  · exact List.Sublist.refl _
theorem cut_len {L : List Pr} (h : L.length ≤ 128) : (cutP2 L).length + 1 ≤ 128 := by
  unfold cutP2
  split
  · rename_i h2
    rw [List.length_eraseIdx, if_pos (minC_lt (by omega))]
    omega
  · omega

/-- What a Cuts has in memory, but its hints' rows and its own block. -/
def own (o : OB) (L : List Pr) (k : Nat) : Prop := o.mb = some k ∨ ∃ p ∈ L, wfoot p.2 k

set_option maxRecDepth 20000 in
set_option maxHeartbeats 4000000 in
theorem put_any {w : World} {o : OB} {b0 : Nat} {Hs : List ByteArray} {Hb : List Bn} {L : List Pr} (h : St w o Hs Hb L) (hmb : o.mb = some b0) {d : Dg} {hv gv : Value} (hd : DIn w d hv gv) (fr : ByteArray) (now : Int) (hf : fr.size ≤ maxLen) :
    Calls Try.prog 11 #[.pointer (some ⟨o.gs, 0, none⟩), .agg (dV d hv gv), .string fr, .int .i64 now] w fun e w' => e = .returned (.int .i64 (errC d fr now)) ∧
      ∃ L', St w' o Hs Hb L' ∧ fstC L' = putC (fstC L) d fr now ∧ Turn (fun k => o.mb = some k) w w' ∧ (∀ k, ofoot o L' k → ofoot o L k ∨ w.heap.size ≤ k) := by
  have HST : Hid (St w o Hs Hb L) := h
  have HIN : Hid (DIn w d hv gv) := hd
  have HMB : Hid (o.mb = some b0) := hmb
  have hob := obj_some o.gs
  have hb0 : Below w.heap.size w (w.alloc (.cells (dV d hv gv) 33)) := lay (Below.refl _ _) _
  cases hm : mayD d fr now with
  | false =>
    have HE : Hid (1500 = errC d fr now) := by unfold Hid errC; rw [hm]; rfl
    have HP : Hid (fstC L = putC (fstC L) d fr now) := by unfold Hid putC; rw [hm]; rfl
    have hiw := isWrong_any (hd.below hb0) fr now hf false hm
    have HB0 : Hid (Below w.heap.size w (w.alloc (.cells (dV d hv gv) 33))) := hb0
    obtain ⟨xh, ch, hhv, _⟩ := hd.hc
    obtain ⟨xg, cg, hgv, _⟩ := hd.gr.src
    subst hhv hgv
    unfold dV at hiw HB0 ⊢
    clear h hd hmb hm hb0
    go_enter Try.func11, Try.ntmps11
    go_wp2_with (go_at_call 28; go_must (refine hiw.mono ?_); rintro e w1 ⟨rfl, b1⟩)
    go_ret
    exact ⟨ret_int HE.out, L, HST.out.below (next HB0.out b1), HP.out, Turn.of_below (next HB0.out b1), fun k hk => .inl hk⟩
  | true =>
    obtain ⟨m1, m2, m3, m4, m5⟩ := mayD_parts hm
    obtain ⟨hfn, hcn⟩ := tell_parts m1
    have hok : (fdB d.c).size ≤ maxLen := fd_size hd.cs
    have HE : Hid (0 = errC d fr now) := by unfold Hid errC; rw [hm]; rfl
    have HP : Hid (∀ L' : List Pr, fstC L' = cutC ((fstC L).filter (keepC (fdB d.c) now)) ++ [newCt d fr now] → fstC L' = putC (fstC L) d fr now) := fun L' e => by unfold putC; rw [hm]; exact e
    have hiw := isWrong_any (hd.below hb0) fr now hf true hm
    have HNC : Hid (∀ U, DIn U d hv gv → Calls Try.prog 33 #[.agg (dV d hv gv), .string fr, .int .i64 now] U fun e w' => ∃ b, e = .returned (.pointer (some ⟨b.g, 0, none⟩)) ∧ NG U w' b (newCt d fr now)) := fun U hU => newCut_any hU fr now hm
    have HB0 : Hid (Below w.heap.size w (w.alloc (.cells (dV d hv gv) 33))) := hb0
    have HK0 : Hid (Blk (w.alloc (.cells (dV d hv gv) 33)) w.heap.size (dV d hv gv) 33) := Blk.new w _ _
    have HLT : Hid (∀ k, ofoot o L k → k < w.heap.size) := h.lt
    have hcs := hd.cs
    obtain ⟨xh, ch, hhv, _⟩ := hd.hc
    obtain ⟨xg, cg, hgv, _⟩ := hd.gr.src
    obtain ⟨f, hfd⟩ : ∃ f, f = fdB d.c := ⟨_, rfl⟩
    have hkey := fun u => keyOf_any d.c u hcs
    rw [← hfd] at hok hkey HP
    have HN : Hid ((newCt d fr now).n = f) := hfd.symm
    obtain ⟨nc, hnc⟩ : ∃ nc, nc = newCt d fr now := ⟨_, rfl⟩
    rw [← hnc] at HN HNC HP
    -- what is known when the sweep is done
    have HSW : Hid (∀ U : World, Below w.heap.size w U → ∀ V : World, St V o Hs Hb (L.filter (keepB f now)) → Turn (fun k => o.mb = some k) U V → DIn V d hv gv) := fun U hU V hV hT => (HIN.out.below hU).maps hT (fun k e => (HST.out.below hU).at'.is_map k e)
    have HDR : Hid (∀ V : World, DIn V d hv gv → St V o Hs Hb (L.filter (keepB f now)) → ∀ V' : World, Turn (fun k => o.mb = some k) V V' → DIn V' d hv gv) := fun V hV hS V' hT => hV.maps hT (fun k e => hS.at'.is_map k e)
    have HNO : Hid (∀ q ∈ L.filter (keepB f now), sameP f q = false) := fun q hq => by
      have := (List.mem_filter.1 hq).2
      unfold keepB at this
      simp only [Bool.and_eq_true, Bool.not_eq_true'] at this
      exact this.1
    have HFL : Hid (∀ pb : CB, fstC (cutP2 (L.filter (keepB f now)) ++ [(nc, pb)]) = cutC ((fstC L).filter (keepC f now)) ++ [nc]) := fun pb => by rw [fstC_app, fstC_cut, fstC_filter]; rfl
    have HSB : Hid (∀ q ∈ L.filter (keepB f now), q ∈ L) := fun q hq => (List.mem_filter.1 hq).1
    -- the end
    have HEND : Hid (∀ V : World, St V o Hs Hb (cutP2 (L.filter (keepB f now))) → Turn (fun k => o.mb = some k) w V → DIn V d hv gv → Calls Try.prog 33 #[.agg (dV d hv gv), .string fr, .int .i64 now] V fun e w' => ∃ pb : CB, e = .returned (.pointer (some ⟨pb.g, 0, none⟩)) ∧ Below V.heap.size V w' ∧ Calls Try.prog 32 #[.pointer (some ⟨o.gs, 0, none⟩), .agg #[.string f], .pointer (some ⟨pb.g, 0, none⟩)] w' fun e w9 => e = .returned (.tuple #[]) ∧ Turn (fun k => o.mb = some k) w' w9 ∧ ∃ L', St w9 o Hs Hb L' ∧ fstC L' = putC (fstC L) d fr now ∧ Turn (fun k => o.mb = some k) w w9 ∧ (∀ k, ofoot o L' k → ofoot o L k ∨ w.heap.size ≤ k)) := fun V hS hT hD => by
      refine (HNC.out V hD).mono ?_
      rintro e w' ⟨pb, rfl, NGx⟩
      refine ⟨pb, rfl, NGx.bel, ?_⟩
      have hho := hold_any (hS.below NGx.bel) HMB.out (nc, pb) NGx.cut (fun q hq => by show sameP nc.n q = false; rw [HN.out]; exact HNO.out q ((cut_sub _).subset hq)) (fun q hq k hk hk2 => by
        have h1 := hS.lt k (.inl (.inr (.inr (.inr ⟨q, hq, .inl hk⟩))))
        have h2 := NGx.new k (.inl hk2)
        omega) (cut_len (Nat.le_trans (List.length_filter_le _ _) HST.out.len))
      rw [show (nc, pb).1.n = f from HN.out] at hho
      refine hho.mono ?_
      rintro e w9 ⟨rfl, s9, t9⟩
      refine ⟨rfl, t9, _, s9, HP.out _ (HFL.out pb), (hT.past NGx.bel).same t9, fun k hk => ?_⟩
      have hz := hT.size
      rcases hk with (e | e | e | ⟨p, hp, e⟩) | e
      · exact .inl (.inl (.inl e))
      · exact .inl (.inl (.inr (.inl e)))
      · exact .inl (.inl (.inr (.inr (.inl e))))
      · rcases List.mem_append.1 hp with hp | hp
        · exact .inl (.inl (.inr (.inr (.inr ⟨p, HSB.out p ((cut_sub _).subset hp), e⟩))))
        · simp at hp; subst hp
          have := NGx.new k e
          exact .inr (by omega)
      · exact .inl (.inr e)
    subst hhv hgv
    obtain ⟨cn, hs, gl, ttl⟩ := d
    unfold dV at *
    simp only at hiw HB0 HK0 HEND hkey hcs ⊢
    clear h hd hmb hm hb0 m1 m2 m3 m4 m5 hfn hcn hfd hnc HNC HP HN HFL HNO
    have c0 := HK0.out.cell 0
    simp only [List.getElem?_toArray, List.getElem?_cons_zero] at c0
    obtain ⟨m, hm⟩ : ∃ m, m = (L.filter (keepB f now)).length := ⟨_, rfl⟩
    have HM : Hid (m = (L.filter (keepB f now)).length) := hm
    clear hm
    by_cases hmle : 128 ≤ m
    · have hmi : (128 : Int) ≤ (m : Int) := by omega
      have HCUT : Hid (cutP2 (L.filter (keepB f now)) = (L.filter (keepB f now)).eraseIdx (minC (L.filter (keepB f now)))) := by unfold Hid cutP2; rw [if_pos (by rw [← HM.out]; exact hmle)]
      have HM0 : Hid (0 < (L.filter (keepB f now)).length) := by unfold Hid; rw [← HM.out]; omega
      clear hmle
      go_enter Try.func11, Try.ntmps11
      go_wp2_with (first
        | (go_at_call 28; go_must (refine hiw.mono ?_); rintro e w1 ⟨rfl, b1⟩; have H1 := next HB0.out b1; have k1 := HK0.out.below b1; have x0 := k1.cell 0; simp only [List.getElem?_toArray, List.getElem?_cons_zero] at x0)
        | (go_at_call 29; go_must (refine (hkey _).mono ?_); rintro e w2 ⟨rfl, b2⟩; have H2 := lay (next H1 b2) (.cells #[.string f] 68); have k2 := (k1.below b2).alloc (.cells #[.string f] 68); have q2 := Blk.new w2 #[.string f] 68; have s2 := HST.out.below H2; have z0 := q2.cell 0; simp only [List.getElem?_toArray, List.getElem?_cons_zero] at z0; clear x0 c0)
        | (go_at_call 30; go_must (refine (sweep_any s2 f now).mono ?_); rintro e w5 ⟨rfl, s5, t5⟩; clear z0; have T5 : Turn (fun k => o.mb = some k) w w5 := (Turn.of_below H2).same t5; have d5 := HSW.out _ H2 _ s5 t5; have k5 := t5.blk k2 (fun e => by have := HLT.out _ (.inr e); omega); have q5 := t5.blk q2 (fun e => by have := HLT.out _ (.inr e); have := H2.size; have h3 := H1.size; have := b2.size; omega); have ml : ∀ ty, (Builtin.len_ #[62] ty #[.map o.mb]).run Try.prog w5 = .ok (.int .i64 ((L.filter (keepB f now)).length : Nat)) w5 := fun ty => s5.at'.len ty; rw [← HM.out] at ml; have m1 : w5.cell? ⟨o.gs, 2, none⟩ = some (.map o.mb) := s5.rest.blk.cell 2)
        | (go_at_call 31; go_must (refine (dropOne_any s5 HM0.out).mono ?_); rintro e w6 ⟨rfl, s6, t6'⟩))
      obtain ⟨kq, hkq', hkq⟩ : ∃ kq, kq = w2.heap.size ∧ w.heap.size ≤ kq := ⟨_, rfl, by have h3 := H1.size; have := b2.size; omega⟩
      rw [← hkq'] at q5 ⊢
      have t6 := T5.same t6'
      have d6 := HDR.out _ d5 s5 _ t6'
      have k6 := t6'.blk k5 (fun e => by have := HLT.out _ (.inr e); omega)
      have q6 := t6'.blk q5 (fun e => by have := HLT.out _ (.inr e); omega)
      rw [← HCUT.out] at s6
      clear m1 ml s5 t5 d5 T5 t6' k5 q5 k2 q2 s2 H2 k1 H1 b1 b2 hkq' hiw hkey
      have HB6 : Hid (St w6 o Hs Hb (cutP2 (L.filter (keepB f now))) ∧ Turn (fun k => o.mb = some k) w w6 ∧ DIn w6 ⟨cn, hs, gl, ttl⟩ (.slice xh hs.length ch) (.slice xg gl.length cg)) := ⟨s6, t6, d6⟩
      have hx := HEND.out w6.drew (HB6.out.1.below (Below.refl _ _).drew) (HB6.out.2.1.past (Below.refl _ _).drew) (HB6.out.2.2.below (Below.refl _ _).drew)
      have BX2 : Hid ((∀ k, o.mb = some k → k < w.heap.size) ∧ w.heap.size ≤ kq) := ⟨fun k e => HLT.out k (.inr e), hkq⟩
      clear s6 t6 d6
      refine wp_region_held_drew (S := fun u => Blk u w.heap.size #[.string cn, .slice xh hs.length ch, .slice xg gl.length cg, .int .i64 ttl] 33 ∧ Blk u kq #[.string f] 68) (by kernel_rfl) ⟨k6.below (Below.refl _ _).drew, q6.below (Below.refl _ _).drew⟩ (fun hHeld => ?_)
      clear k6 q6
      refine wpAnyH_take (i := 0) (v := .pointer (some ⟨o.gs, 0, none⟩)) rfl (by kernel_rfl) (by kernel_rfl) (by kernel_rfl) (fun _ _ _ h => h) (Or.inl ⟨by rfl, ?_⟩) hHeld ?_
      · intro u hu
        go_simp
      simp only [Act.put, List.getElem_toArray, List.getElem_cons_zero, List.setIfInBounds_toArray, List.set_cons_zero, List.set_cons_succ]
      refine wpAnyH_take (i := 1) (v := .agg #[.string f]) rfl (by kernel_rfl) (by kernel_rfl) (by kernel_rfl) (fun _ _ _ h => h) (Or.inl ⟨by rfl, ?_⟩) hHeld ?_
      · intro u hu
        have a0 := hu.2.cell 0; simp only [List.getElem?_toArray, List.getElem?_cons_zero] at a0; clear hu
        go_simp
      simp only [Act.put, List.getElem_toArray, List.getElem_cons_succ, List.getElem_cons_zero, List.setIfInBounds_toArray, List.set_cons_zero, List.set_cons_succ]
      refine wpAnyH_take (i := 2) (v := .agg #[.string cn, .slice xh hs.length ch, .slice xg gl.length cg, .int .i64 ttl]) rfl (by kernel_rfl) (by kernel_rfl) (by kernel_rfl) (fun _ _ _ h => h) (Or.inl ⟨by rfl, ?_⟩) hHeld ?_
      · intro u hu
        have a0 := hu.1.cell 0; have a1 := hu.1.cell 1; have a2 := hu.1.cell 2; have a3 := hu.1.cell 3; simp only [List.getElem?_toArray, List.getElem?_cons_succ, List.getElem?_cons_zero] at a0 a1 a2 a3; clear hu
        go_simp
      simp only [Act.put, List.getElem_toArray, List.getElem_cons_succ, List.getElem_cons_zero, List.setIfInBounds_toArray, List.set_cons_zero, List.set_cons_succ]
      refine wpAnyH_take (i := 3) (v := .string fr) rfl (by kernel_rfl) (by kernel_rfl) (by kernel_rfl) (fun _ _ _ h => h) (Or.inl ⟨by rfl, ?_⟩) hHeld ?_
      · intro u hu
        go_simp
      simp only [Act.put, List.getElem_toArray, List.getElem_cons_succ, List.getElem_cons_zero, List.setIfInBounds_toArray, List.set_cons_zero, List.set_cons_succ]
      refine wpAnyH_take (i := 4) (v := .int .i64 now) rfl (by kernel_rfl) (by kernel_rfl) (by kernel_rfl) (fun _ _ _ h => h) (Or.inl ⟨by rfl, ?_⟩) hHeld ?_
      · intro u hu
        go_simp
      simp only [Act.put, List.getElem_toArray, List.getElem_cons_succ, List.getElem_cons_zero, List.setIfInBounds_toArray, List.set_cons_zero, List.set_cons_succ]
      refine wpAnyH_ready (rs := [5]) (by kernel_rfl) (by simp) ?_
      refine AllReadyH.cons rfl (fun K hK => ?_) AllReadyH.nil
      go_simp
      refine hx.mono ?_
      rintro e w7 ⟨pb, rfl, b7, hh7⟩
      replace hHeld : Blk w7 w.heap.size #[.string cn, .slice xh hs.length ch, .slice xg gl.length cg, .int .i64 ttl] 33 ∧ Blk w7 kq #[.string f] 68 := ⟨hHeld.1.below b7, hHeld.2.below b7⟩
      clear b7
      go_simp
      refine hK.out _ _ hHeld (fun hHeld => ?_)
      clear hK K
      refine wpAnyH_ready (rs := [6]) (by kernel_rfl) (by simp) ?_
      refine AllReadyH.cons rfl (fun K hK => ?_) AllReadyH.nil
      go_simp
      refine hh7.mono ?_
      rintro e w9 ⟨rfl, tx9, L9, s9, f9, t9, ft9⟩
      have HF9 : Hid (∃ L', St w9 o Hs Hb L' ∧ fstC L' = putC (fstC L) ⟨cn, hs, gl, ttl⟩ fr now ∧ Turn (fun k => o.mb = some k) w w9 ∧ (∀ k, ofoot o L' k → ofoot o L k ∨ w.heap.size ≤ k)) := ⟨L9, s9, f9, t9, ft9⟩
      clear s9 f9 t9 ft9
      go_simp
      refine hK.out _ _ ⟨tx9.blk hHeld.1 (fun e => by have := BX2.out.1 _ e; omega), tx9.blk hHeld.2 (fun e => by have := BX2.out.1 _ e; have := BX2.out.2; omega)⟩ (fun hHeld => ?_)
      clear hK K tx9
      refine wpAnyH_done (by kernel_rfl) ?_ _
      go_wp2
      go_ret
      exact ⟨ret_int HE.out, HF9.out⟩
    · have hmi : decide ((128 : Int) ≤ (m : Int)) = false := by simp; omega
      have HCUT : Hid (cutP2 (L.filter (keepB f now)) = L.filter (keepB f now)) := by unfold Hid cutP2; rw [if_neg (by rw [← HM.out]; exact hmle)]
      clear hmle
      go_enter Try.func11, Try.ntmps11
      go_wp2_with (first
        | (go_at_call 28; go_must (refine hiw.mono ?_); rintro e w1 ⟨rfl, b1⟩; have H1 := next HB0.out b1; have k1 := HK0.out.below b1; have x0 := k1.cell 0; simp only [List.getElem?_toArray, List.getElem?_cons_zero] at x0)
        | (go_at_call 29; go_must (refine (hkey _).mono ?_); rintro e w2 ⟨rfl, b2⟩; have H2 := lay (next H1 b2) (.cells #[.string f] 68); have k2 := (k1.below b2).alloc (.cells #[.string f] 68); have q2 := Blk.new w2 #[.string f] 68; have s2 := HST.out.below H2; have z0 := q2.cell 0; simp only [List.getElem?_toArray, List.getElem?_cons_zero] at z0; clear x0 c0)
        | (go_at_call 30; go_must (refine (sweep_any s2 f now).mono ?_); rintro e w6 ⟨rfl, s6, t6'⟩; clear z0; have t6 : Turn (fun k => o.mb = some k) w w6 := (Turn.of_below H2).same t6'; have d6 := HSW.out _ H2 _ s6 t6'; have k6 := t6'.blk k2 (fun e => by have := HLT.out _ (.inr e); omega); have q6 := t6'.blk q2 (fun e => by have := HLT.out _ (.inr e); have := H2.size; have h3 := H1.size; have := b2.size; omega); have ml : ∀ ty, (Builtin.len_ #[62] ty #[.map o.mb]).run Try.prog w6 = .ok (.int .i64 ((L.filter (keepB f now)).length : Nat)) w6 := fun ty => s6.at'.len ty; rw [← HM.out] at ml; have m1 : w6.cell? ⟨o.gs, 2, none⟩ = some (.map o.mb) := s6.rest.blk.cell 2))
      obtain ⟨kq, hkq', hkq⟩ : ∃ kq, kq = w2.heap.size ∧ w.heap.size ≤ kq := ⟨_, rfl, by have h3 := H1.size; have := b2.size; omega⟩
      rw [← hkq'] at q6 ⊢
      rw [← HCUT.out] at s6
      clear m1 ml t6' k2 q2 s2 H2 k1 H1 b1 b2 hkq' hiw hkey
      have HB6 : Hid (St w6 o Hs Hb (cutP2 (L.filter (keepB f now))) ∧ Turn (fun k => o.mb = some k) w w6 ∧ DIn w6 ⟨cn, hs, gl, ttl⟩ (.slice xh hs.length ch) (.slice xg gl.length cg)) := ⟨s6, t6, d6⟩
      have hx := HEND.out w6.drew (HB6.out.1.below (Below.refl _ _).drew) (HB6.out.2.1.past (Below.refl _ _).drew) (HB6.out.2.2.below (Below.refl _ _).drew)
      have BX2 : Hid ((∀ k, o.mb = some k → k < w.heap.size) ∧ w.heap.size ≤ kq) := ⟨fun k e => HLT.out k (.inr e), hkq⟩
      clear s6 t6 d6
      refine wp_region_held_drew (S := fun u => Blk u w.heap.size #[.string cn, .slice xh hs.length ch, .slice xg gl.length cg, .int .i64 ttl] 33 ∧ Blk u kq #[.string f] 68) (by kernel_rfl) ⟨k6.below (Below.refl _ _).drew, q6.below (Below.refl _ _).drew⟩ (fun hHeld => ?_)
      clear k6 q6
      refine wpAnyH_take (i := 0) (v := .pointer (some ⟨o.gs, 0, none⟩)) rfl (by kernel_rfl) (by kernel_rfl) (by kernel_rfl) (fun _ _ _ h => h) (Or.inl ⟨by rfl, ?_⟩) hHeld ?_
      · intro u hu
        go_simp
      simp only [Act.put, List.getElem_toArray, List.getElem_cons_zero, List.setIfInBounds_toArray, List.set_cons_zero, List.set_cons_succ]
      refine wpAnyH_take (i := 1) (v := .agg #[.string f]) rfl (by kernel_rfl) (by kernel_rfl) (by kernel_rfl) (fun _ _ _ h => h) (Or.inl ⟨by rfl, ?_⟩) hHeld ?_
      · intro u hu
        have a0 := hu.2.cell 0; simp only [List.getElem?_toArray, List.getElem?_cons_zero] at a0; clear hu
        go_simp
      simp only [Act.put, List.getElem_toArray, List.getElem_cons_succ, List.getElem_cons_zero, List.setIfInBounds_toArray, List.set_cons_zero, List.set_cons_succ]
      refine wpAnyH_take (i := 2) (v := .agg #[.string cn, .slice xh hs.length ch, .slice xg gl.length cg, .int .i64 ttl]) rfl (by kernel_rfl) (by kernel_rfl) (by kernel_rfl) (fun _ _ _ h => h) (Or.inl ⟨by rfl, ?_⟩) hHeld ?_
      · intro u hu
        have a0 := hu.1.cell 0; have a1 := hu.1.cell 1; have a2 := hu.1.cell 2; have a3 := hu.1.cell 3; simp only [List.getElem?_toArray, List.getElem?_cons_succ, List.getElem?_cons_zero] at a0 a1 a2 a3; clear hu
        go_simp
      simp only [Act.put, List.getElem_toArray, List.getElem_cons_succ, List.getElem_cons_zero, List.setIfInBounds_toArray, List.set_cons_zero, List.set_cons_succ]
      refine wpAnyH_take (i := 3) (v := .string fr) rfl (by kernel_rfl) (by kernel_rfl) (by kernel_rfl) (fun _ _ _ h => h) (Or.inl ⟨by rfl, ?_⟩) hHeld ?_
      · intro u hu
        go_simp
      simp only [Act.put, List.getElem_toArray, List.getElem_cons_succ, List.getElem_cons_zero, List.setIfInBounds_toArray, List.set_cons_zero, List.set_cons_succ]
      refine wpAnyH_take (i := 4) (v := .int .i64 now) rfl (by kernel_rfl) (by kernel_rfl) (by kernel_rfl) (fun _ _ _ h => h) (Or.inl ⟨by rfl, ?_⟩) hHeld ?_
      · intro u hu
        go_simp
      simp only [Act.put, List.getElem_toArray, List.getElem_cons_succ, List.getElem_cons_zero, List.setIfInBounds_toArray, List.set_cons_zero, List.set_cons_succ]
      refine wpAnyH_ready (rs := [5]) (by kernel_rfl) (by simp) ?_
      refine AllReadyH.cons rfl (fun K hK => ?_) AllReadyH.nil
      go_simp
      refine hx.mono ?_
      rintro e w7 ⟨pb, rfl, b7, hh7⟩
      replace hHeld : Blk w7 w.heap.size #[.string cn, .slice xh hs.length ch, .slice xg gl.length cg, .int .i64 ttl] 33 ∧ Blk w7 kq #[.string f] 68 := ⟨hHeld.1.below b7, hHeld.2.below b7⟩
      clear b7
      go_simp
      refine hK.out _ _ hHeld (fun hHeld => ?_)
      clear hK K
      refine wpAnyH_ready (rs := [6]) (by kernel_rfl) (by simp) ?_
      refine AllReadyH.cons rfl (fun K hK => ?_) AllReadyH.nil
      go_simp
      refine hh7.mono ?_
      rintro e w9 ⟨rfl, tx9, L9, s9, f9, t9, ft9⟩
      have HF9 : Hid (∃ L', St w9 o Hs Hb L' ∧ fstC L' = putC (fstC L) ⟨cn, hs, gl, ttl⟩ fr now ∧ Turn (fun k => o.mb = some k) w w9 ∧ (∀ k, ofoot o L' k → ofoot o L k ∨ w.heap.size ≤ k)) := ⟨L9, s9, f9, t9, ft9⟩
      clear s9 f9 t9 ft9
      go_simp
      refine hK.out _ _ ⟨tx9.blk hHeld.1 (fun e => by have := BX2.out.1 _ e; omega), tx9.blk hHeld.2 (fun e => by have := BX2.out.1 _ e; have := BX2.out.2; omega)⟩ (fun hHeld => ?_)
      clear hK K tx9
      refine wpAnyH_done (by kernel_rfl) ?_ _
      go_wp2
      go_ret
      exact ⟨ret_int HE.out, HF9.out⟩

end Cu
end Go.Proofs.Ytnjgdfmldjgloaa

/- Learn of a Cuts. -/
namespace Go.Proofs.Ytnjgdfmldjgloaa
open Go.RowKit
open Pl
namespace Cu

/-- What a cut is when an address was told to all. -/
def lrn1 (f : ByteArray) (a u now : Int) (c : Ct) : Ct := if decide (0 ≤ posL c.hs f) && decide (now < c.u) then { c with bs := learnB c.bs ⟨(posL c.hs f).toNat, a, u⟩ now } else c
def lrnC (F : List Ct) (h : ByteArray) (a u now : Int) : List Ct := if wideB a && decide (now < u) then F.map (lrn1 (fdB h) a u now) else F
theorem lrn1_n (f : ByteArray) (a u now : Int) (c : Ct) : (lrn1 f a u now c).n = c.n := by unfold lrn1; split <;> rfl

theorem ranges_turn {S : Nat → Prop} {w w' : World} {b r n cnt : Nat} {D : DataW Nat} {left : Lit → Bool} (h : w.ranges Try.prog 68 rE b r n D left cnt) (ht : Turn S w w') (hb : ¬ S b) (hr : ¬ S r) : w'.ranges Try.prog 68 rE b r n D left cnt := by
  have h1 := h.owns.lt
  have h2 := h.lt
  obtain ⟨es, clock, since, seen, c0, hb', F, hs, hD, hr', rest⟩ := h
  exact ⟨es, clock, since, seen, c0, (ht.block b h1 hb).trans hb', F, hs, hD, (ht.block r h2 hr).trans hr', rest⟩
theorem ranges_iter {w : World} {b r n cnt : Nat} {D : DataW Nat} {left : Lit → Bool} (h : w.ranges Try.prog 68 rE b r n D left cnt) : ∀ C t, ¬ Blk w r C t := by
  obtain ⟨es, clock, since, seen, c0, _, _, _, _, hr, _⟩ := h
  intro C t hb
  unfold Blk at hb
  rw [hb] at hr; cases hr
theorem ranges_map {w : World} {b r n cnt : Nat} {D : DataW Nat} {left : Lit → Bool} (h : w.ranges Try.prog 68 rE b r n D left cnt) : ∀ C t, ¬ Blk w b C t := by
  obtain ⟨es, clock, since, seen, c0, hb', _⟩ := h
  intro C t hb
  unfold Blk at hb
  rw [hb] at hb'; cases hb'

/-- One cut in another's place. -/
def swapP (p p' q : Pr) : Pr := if sameP p.1.n q then p' else q
theorem swap_n {L : List Pr} (hg : Good L) {p p' : Pr} (hp : p ∈ L) (hn : p'.1.n = p.1.n) (hgg : p'.2.g = p.2.g) {q : Pr} (hq : q ∈ L) : (swapP p p' q).1.n = q.1.n ∧ (swapP p p' q).2.g = q.2.g := by
  unfold swapP
  cases h : sameP p.1.n q with
  | false => exact ⟨rfl, rfl⟩
  | true =>
    obtain rfl := hg.one hp hq h
    exact ⟨hn, hgg⟩
theorem swap_ents {L : List Pr} (hg : Good L) {p p' : Pr} (hp : p ∈ L) (hn : p'.1.n = p.1.n) (hgg : p'.2.g = p.2.g) : ents (L.map (swapP p p')) = ents L := by
  unfold ents
  rw [List.map_map]
  refine List.map_congr_left (fun q hq => ?_)
  obtain ⟨h1, h2⟩ := swap_n hg hp hn hgg hq
  show (kyL (swapP p p' q).1.n, DataW.held (swapP p p' q).2.g) = _
  rw [h1, h2]
theorem swap_fst {L : List Pr} (p p' : Pr) : fstC (L.map (swapP p p')) = (fstC L).map fun c => if c.n = p.1.n then p'.1 else c := by
  unfold fstC
  rw [List.map_map, List.map_map]
  refine List.map_congr_left (fun q _ => ?_)
  show (if sameP p.1.n q then p' else q).1 = if q.1.n = p.1.n then p'.1 else q.1
  by_cases e : q.1.n = p.1.n
  · rw [if_pos e, if_pos (sameP_iff.2 e)]
  · rw [if_neg e, if_neg (fun h => e (sameP_iff.1 h))]
theorem swap_good {L : List Pr} (hg : Good L) {p p' : Pr} (hp : p ∈ L) (hn : p'.1.n = p.1.n) (hgg : p'.2.g = p.2.g) (hok : OkC p'.1) : Good (L.map (swapP p p')) := by
  refine ⟨fun q hq => ?_, ?_⟩
  · obtain ⟨x, hx, rfl⟩ := List.mem_map.1 hq
    unfold swapP
    split
    · exact hok
    · exact hg.ok x hx
  · unfold DisP
    rw [List.pairwise_map]
    refine hg.dis.imp_of_mem (fun {x y} hx hy h => ?_)
    rw [(swap_n hg hp hn hgg hx).1]
    unfold sameP at h ⊢
    rw [(swap_n hg hp hn hgg hy).1]
    exact h
theorem sep_at {L : List Pr} (hs : L.Pairwise (fun p q => ∀ k, wfoot p.2 k → ¬ wfoot q.2 k)) {i j : Nat} (hi : i < L.length) (hj : j < L.length) (hij : i ≠ j) : ∀ k, wfoot L[i].2 k → ¬ wfoot L[j].2 k := by
  rcases Nat.lt_or_gt_of_ne hij with h | h
  · exact List.pairwise_iff_getElem.1 hs i j hi hj h
  · exact fun k h1 h2 => List.pairwise_iff_getElem.1 hs j i hj hi h k h2 h1
theorem sep_of {L : List Pr} (hs : L.Pairwise (fun p q => ∀ k, wfoot p.2 k → ¬ wfoot q.2 k)) {p q : Pr} (hp : p ∈ L) (hq : q ∈ L) (hne : sameP p.1.n q = false) : ∀ k, wfoot p.2 k → ¬ wfoot q.2 k := by
  obtain ⟨i, hi, rfl⟩ := List.getElem_of_mem hp
  obtain ⟨j, hj, rfl⟩ := List.getElem_of_mem hq
  refine sep_at hs hi hj (fun e => ?_)
  subst e
  rw [sameP_iff.2 rfl] at hne; cases hne

/-- A range over the map of a Cuts whose cuts are written. -/
structure LX (w0 w : World) (o : OB) (b r : Nat) (Hs : List ByteArray) (Hb : List Bn) (L0 L : List Pr) (left : Lit → Bool) (cnt : Nat) : Prop where
  rg : ∃ k D, w.ranges Try.prog 68 rE b r k D left cnt ∧ MapOf D L
  good : Good L
  rest : RestAt w o Hs Hb L
  mb : o.mb = some b
  turn : Turn (ofoot o L0) w0 w
  new : ∀ k, ofoot o L k → ofoot o L0 k ∨ w0.heap.size ≤ k
  rnew : w0.heap.size ≤ r
theorem LX.moved {w0 w w' : World} {o : OB} {b r : Nat} {Hs : List ByteArray} {Hb : List Bn} {L0 L : List Pr} {left left' : Lit → Bool} {cnt cnt' k : Nat} {D : DataW Nat} (h : LX w0 w o b r Hs Hb L0 L left cnt) (hr : w'.ranges Try.prog 68 rE b r k D left' cnt') (hm : MapOf D L) (hg : w.grownBy w' (some r)) : LX w0 w' o b r Hs Hb L0 L left' cnt' := by
  have ht : Turn (fun k => k = r) w w' := Turn.of_grown hg (fun k e => (Option.some.inj e).symm)
  have hn := h.rnew
  obtain ⟨k1, D1, hr1, _⟩ := h.rg
  exact ⟨⟨k, D, hr, hm⟩, h.good, h.rest.turn ht (fun k hk e => by
    obtain ⟨C, t, hc⟩ := h.rest.cells hk
    subst e
    exact ranges_iter hr1 C t hc), h.mb, h.turn.trans ht (fun i hi => .inr (by omega)), h.new, h.rnew⟩
theorem LX.learned {w0 w w' : World} {o : OB} {b r : Nat} {Hs : List ByteArray} {Hb : List Bn} {L0 L : List Pr} {left : Lit → Bool} {cnt : Nat} (h : LX w0 w o b r Hs Hb L0 L left cnt) {p : Pr} (hp : p ∈ L) {c' : Ct} {b' : CB} (hc : CutAt w' b' c') (hn : c'.n = p.1.n) (hgg : b'.g = p.2.g) (hhv : b'.hv = p.2.hv) (ht : Turn (wfoot p.2) w w') (hw : ∀ k, wfoot b' k → wfoot p.2 k ∨ w.heap.size ≤ k) :
    LX w0 w' o b r Hs Hb L0 (L.map (swapP p (c', b'))) left cnt := by
  obtain ⟨k1, D1, hr1, es, rfl, hpm⟩ := h.rg
  have hraw := (h.rest.cuts p hp).raw
  have hfoot : ∀ k, foot b' k → foot p.2 k ∨ w.heap.size ≤ k := fun k hk => by
    rcases hk with hk | hk
    · exact (hw k hk).imp .inl id
    · rw [hhv] at hk; exact .inl (.inr hk)
  have hz := h.turn.size
  refine ⟨⟨k1, _, ranges_turn hr1 ht (fun e => ?_) (fun e => ?_), es, rfl, ?_⟩, swap_good h.good hp hn hgg hc.ok, ⟨?_, ?_, ?_, ?_, ?_⟩, h.mb, ?_, ?_, h.rnew⟩
  · obtain ⟨C, t, hcc⟩ := foot_cells hraw (.inl e)
    exact ranges_map hr1 C t hcc
  · obtain ⟨C, t, hcc⟩ := foot_cells hraw (.inl e)
    exact ranges_iter hr1 C t hcc
  · rw [swap_ents h.good hp hn hgg]; exact hpm
  · exact ht.blk h.rest.blk (hraw.apart h.rest.blk (by decide) (by decide) (by decide) (by decide))
  · exact ht.row h.rest.hosts (hraw.row_apart h.rest.hosts (by decide) (by decide) (by decide) (by decide))
  · exact ht.row h.rest.hints (hraw.row_apart h.rest.hints (by decide) (by decide) (by decide) (by decide))
  · intro q hq
    obtain ⟨x, hx, rfl⟩ := List.mem_map.1 hq
    unfold swapP
    cases hs : sameP p.1.n x with
    | true => exact hc
    | false =>
      have hx2 := h.rest.cuts x hx
      refine ⟨hx2.raw.turn ht (fun k hk hk2 => ?_), hx2.ok⟩
      rcases hk with hk | hk
      · exact sep_of h.rest.sep hp hx hs k hk2 hk
      · exact hraw.row_apart hx2.raw.hosts (by decide) (by decide) (by decide) (by decide) k hk hk2
  · rw [List.pairwise_map]
    refine (h.rest.sep.and h.good.dis).imp_of_mem (fun {x y} hx hy hxy => ?_)
    have hlt : ∀ q ∈ L, ∀ k, wfoot q.2 k → k < w.heap.size := fun q hq k hk => (h.rest.cuts q hq).raw.lt k (.inl hk)
    intro k
    unfold swapP
    cases h1 : sameP p.1.n x with
    | true =>
      obtain rfl := h.good.one hp hx h1
      rw [hxy.2]
      intro hk hk2
      rcases hw k hk with e | e
      · exact hxy.1 k e hk2
      · have := hlt y hy k hk2; omega
    | false =>
      cases h2 : sameP p.1.n y with
      | true =>
        obtain rfl := h.good.one hp hy h2
        intro hk hk2
        rcases hw k hk2 with e | e
        · exact hxy.1 k hk e
        · have := hlt x hx k hk; omega
      | false => exact hxy.1 k
  · refine h.turn.trans ht (fun i hi => ?_)
    exact h.new i (.inl (.inr (.inr (.inr ⟨p, hp, .inl hi⟩))))
  · rintro k ((e | e | e | ⟨q, hq, e⟩) | e)
    · exact h.new k (.inl (.inl e))
    · exact h.new k (.inl (.inr (.inl e)))
    · exact h.new k (.inl (.inr (.inr (.inl e))))
    · obtain ⟨x, hx, rfl⟩ := List.mem_map.1 hq
      unfold swapP at e
      split at e
      · rcases hfoot k e with e | e
        · exact h.new k (.inl (.inr (.inr (.inr ⟨p, hp, e⟩))))
        · exact .inr (by omega)
      · exact h.new k (.inl (.inr (.inr (.inr ⟨x, hx, e⟩))))
    · exact h.new k (.inr e)
/-- How the cuts are while some are still to come. -/
def LIs (L0 L : List Pr) (g : Ct → Ct) (left : Lit → Bool) : Prop := fstC L = (fstC L0).map fun c => if left (kyL c.n) then c else g c
theorem lis_old {L0 L : List Pr} {g : Ct → Ct} {left : Lit → Bool} (h : LIs L0 L g left) (hn : ∀ c, (g c).n = c.n) {p : Pr} (hp : p ∈ L) (hl : left (kyL p.1.n) = true) : p.1 ∈ fstC L0 := by
  have h1 : p.1 ∈ fstC L := List.mem_map.2 ⟨p, hp, rfl⟩
  rw [h] at h1
  obtain ⟨c, hc, e⟩ := List.mem_map.1 h1
  have hcn : c.n = p.1.n := by
    rw [← e]; split
    · rfl
    · exact (hn c).symm
  rw [hcn, if_pos hl] at e
  rw [← e]; exact hc
theorem lis_step {L0 L : List Pr} {g : Ct → Ct} {left : Lit → Bool} (h : LIs L0 L g left) (hn : ∀ c, (g c).n = c.n) (hg : Good L) {p : Pr} (hp : p ∈ L) (hl : left (kyL p.1.n) = true) {L' : List Pr} (hL : fstC L' = (fstC L).map fun c => if c.n = p.1.n then g p.1 else c) : LIs L0 L' g (nextL left p) := by
  unfold LIs
  rw [hL, h, List.map_map]
  refine List.map_congr_left (fun c hc => ?_)
  have hx : (if left (kyL c.n) then c else g c) ∈ fstC L := by rw [h]; exact List.mem_map.2 ⟨c, hc, rfl⟩
  have hxn : (if left (kyL c.n) then c else g c).n = c.n := by
    split
    · rfl
    · exact hn c
  obtain ⟨q, hq, hqx⟩ := List.mem_map.1 hx
  have hnx : nextL left p (kyL c.n) = (left (kyL c.n) && !decide (c.n = p.1.n)) := by
    have := nextL_at hg hp hq left
    rw [hqx, hxn] at this
    rw [this]
    unfold sameP
    rw [hqx, hxn]
  show (if (if left (kyL c.n) then c else g c).n = p.1.n then g p.1 else (if left (kyL c.n) then c else g c)) = _
  rw [hxn, hnx]
  by_cases e : c.n = p.1.n
  · rw [if_pos e]
    have hl2 : left (kyL c.n) = true := by rw [e]; exact hl
    rw [hl2] at hqx
    rw [decide_eq_true e]
    simp only [Bool.not_true, Bool.and_false, Bool.false_eq_true, if_false]
    rw [if_pos rfl] at hqx
    have : p = q := hg.one hp hq (by rw [sameP_iff, hqx]; exact e)
    rw [this, hqx]
  · rw [if_neg e, decide_eq_false e]
    simp
theorem lis_stay {L : List Pr} (hg : Good L) {p : Pr} (hp : p ∈ L) {c' : Ct} (hc : c' = p.1) : fstC L = (fstC L).map fun c => if c.n = p.1.n then c' else c := by
  subst hc
  unfold fstC
  rw [List.map_map]
  refine List.map_congr_left (fun q hq => ?_)
  show q.1 = if q.1.n = p.1.n then p.1 else q.1
  split
  · rename_i e
    rw [hg.one hp hq (sameP_iff.2 e)]
  · rfl
theorem lis_start {D : DataW Nat} {L : List Pr} (hm : MapOf D L) (hg : Good L) (g : Ct → Ct) : LIs L L g (Maps.has D) := by
  unfold LIs fstC
  rw [List.map_map]
  refine List.map_congr_left (fun q hq => ?_)
  show q.1 = if Maps.has D (kyL q.1.n) = true then q.1 else g q.1
  rw [mapOf_has hm hg (max_ok (hg.ok q hq).nm), List.any_eq_true.2 ⟨q, hq, sameP_iff.2 rfl⟩, if_pos rfl]
theorem lis_end {L0 L : List Pr} {g : Ct → Ct} {left : Lit → Bool} (h : LIs L0 L g left) (hl : ∀ kl, left kl = false) : fstC L = (fstC L0).map g := by
  rw [h]
  refine List.map_congr_left (fun c _ => ?_)
  rw [hl]; rfl

theorem lrn_skip {f : ByteArray} {a u now : Int} {c : Ct} (h : 0 ≤ posL c.hs f → ¬ now < c.u) : lrn1 f a u now c = c := by
  unfold lrn1
  by_cases h1 : 0 ≤ posL c.hs f
  · rw [decide_eq_false (h h1), Bool.and_false]; rfl
  · rw [decide_eq_false h1]; rfl
theorem lrn_take {f : ByteArray} {a u now : Int} {c : Ct} {k : Nat} (h : posL c.hs f = (k : Int)) (hu : now < c.u) : lrn1 f a u now c = { c with bs := learnB c.bs ⟨k, a, u⟩ now } := by
  unfold lrn1
  rw [decide_eq_true hu, h, decide_eq_true (show (0 : Int) ≤ k by omega)]
  rfl
set_option maxRecDepth 20000 in
set_option maxHeartbeats 4000000 in
theorem learnAll_any {w : World} {o : OB} {b : Nat} {Hs : List ByteArray} {Hb : List Bn} {L : List Pr} (h : St w o Hs Hb L) (hmb : o.mb = some b) (host : ByteArray) (a u now : Int) (hh : host.size ≤ maxLen) (hlen : ∀ p ∈ L, p.1.bs.length < 256) :
    Calls Try.prog 12 #[.pointer (some ⟨o.gs, 0, none⟩), .string host, .int .i64 a, .int .i64 u, .int .i64 now] w fun e w' => e = .returned (.tuple #[]) ∧
      ∃ L', St w' o Hs Hb L' ∧ fstC L' = lrnC (fstC L) host a u now ∧ Turn (ofoot o L) w w' ∧ (∀ k, ofoot o L' k → ofoot o L k ∨ w.heap.size ≤ k) := by
  have HOK : Hid (Hs.length ≤ 8 ∧ (∀ h ∈ Hs, h.size ≤ 255) ∧ Hb.length ≤ 8 ∧ ∀ b ∈ Hb, OkB b) := h.hok
  have hob := obj_some o.gs
  have hma := fun v => mayAddr_any a v
  have hil := fun v => isLive_any u now v
  obtain ⟨gs, hv, bv, mb⟩ := o
  simp only at hmb
  subst hmb
  simp only at h hob ⊢
  cases hw : wideB a with
  | false =>
    rw [hw] at hma
    have HR : Hid (∃ L', St w ⟨gs, hv, bv, some b⟩ Hs Hb L' ∧ fstC L' = lrnC (fstC L) host a u now ∧ Turn (ofoot ⟨gs, hv, bv, some b⟩ L) w w ∧ (∀ k, ofoot ⟨gs, hv, bv, some b⟩ L' k → ofoot ⟨gs, hv, bv, some b⟩ L k ∨ w.heap.size ≤ k)) := ⟨L, h, by unfold lrnC; rw [hw]; rfl, Turn.refl _ _, fun k hk => .inl hk⟩
    clear h hil hlen hw
    go_enter Try.func12, Try.ntmps12
    go_wp2_with (go_at_call 34; go_must (refine (hma _).mono ?_); rintro e w' ⟨rfl, hw⟩; obtain rfl := hw.symm)
    refine bodyPost_ret (results_none rfl _ _ _) rfl ?_
    exact ⟨rfl, HR.out⟩
  | true =>
    rw [hw] at hma
    cases hl : decide (now < u) with
    | false =>
      rw [hl] at hil
      have HR : Hid (∃ L', St w ⟨gs, hv, bv, some b⟩ Hs Hb L' ∧ fstC L' = lrnC (fstC L) host a u now ∧ Turn (ofoot ⟨gs, hv, bv, some b⟩ L) w w ∧ (∀ k, ofoot ⟨gs, hv, bv, some b⟩ L' k → ofoot ⟨gs, hv, bv, some b⟩ L k ∨ w.heap.size ≤ k)) := ⟨L, h, by unfold lrnC; rw [hw, hl]; rfl, Turn.refl _ _, fun k hk => .inl hk⟩
      clear h hlen hw hl
      go_enter Try.func12, Try.ntmps12
      go_wp2_with (first
        | (go_at_call 34; go_must (refine (hma _).mono ?_); rintro e w' ⟨rfl, hw⟩; obtain rfl := hw.symm)
        | (go_at_call 35; go_must (refine (hil _).mono ?_); rintro e w' ⟨rfl, hw⟩; obtain rfl := hw.symm))
      refine bodyPost_ret (results_none rfl _ _ _) rfl ?_
      exact ⟨rfl, HR.out⟩
    | true =>
      rw [hl] at hil
      obtain ⟨f, hf⟩ : ∃ f, f = fdB host := ⟨_, rfl⟩
      have hfo := fun v => fold_any host v hh
      rw [show (⟨(foldR host.data.toList).toArray⟩ : ByteArray) = f from hf.symm] at hfo
      have HL : Hid (∀ L' : List Pr, fstC L' = (fstC L).map (lrn1 f a u now) → fstC L' = lrnC (fstC L) host a u now) := fun L' e => by unfold lrnC; rw [hw, hl, ← hf]; exact e
      obtain ⟨hhold⟩ : Nonempty (Hold w b L) := by
        rcases h.at' with ⟨e, _⟩ | ⟨b', e, hh⟩
        · cases e
        · cases e; exact ⟨hh⟩
      obtain ⟨D, hown, hm⟩ := hhold.own
      have hg := hhold.good
      have HSZ : Hid (L.length ≤ 128) := h.len
      have HLN : Hid (∀ p ∈ L, p.1.bs.length < 256) := hlen
      have HOW : Hid (∀ w1, Below w.heap.size w w1 → w1.ownsMap Try.prog 68 rE b L.length D ∧ w1.cell? ⟨gs, 2, none⟩ = some (.map (some b))) := fun w1 hb1 => ⟨own_turn hown (Turn.of_below (S := fun _ => False) hb1) id, (h.below hb1).rest.blk.cell 2⟩
      have HST : Hid (∀ w1 w', Below w.heap.size w w1 → w'.ranges Try.prog 68 rE b w1.heap.size L.length D (Maps.has D) (Maps.size D) → w1.grownBy w' none → LX w w' ⟨gs, hv, bv, some b⟩ b w1.heap.size Hs Hb L L (Maps.has D) (Maps.size D) ∧ LIs L L (lrn1 f a u now) (Maps.has D)) := fun w1 w' hb1 hr hgr => by
        have hb2 : Below w.heap.size w w' := next hb1 (grown_below hgr)
        exact ⟨⟨⟨_, D, hr, hm⟩, hg, (h.below hb2).rest, rfl, Turn.of_below hb2, fun k hk => .inl hk, hb1.size⟩, lis_start hm hg _⟩
      clear h hhold hown hm hlen hg hw hl hf
      go_enter Try.func12, Try.ntmps12
      go_wp2_with (first
        | (go_at_call 34; go_must (refine (hma _).mono ?_); rintro e w' ⟨rfl, hw⟩; obtain rfl := hw.symm)
        | (go_at_call 35; go_must (refine (hil _).mono ?_); rintro e w' ⟨rfl, hw⟩; obtain rfl := hw.symm)
        | (go_at_call 26; go_must (refine (hfo _).mono ?_); rintro e w1 ⟨rfl, b1⟩; have HB1 : Hid (Below w.heap.size w w1) := b1; obtain ⟨hown1, c1⟩ := HOW.out w1 b1; clear b1)
        | (at_range; refine wpList_range_own _ rfl _ 62 rfl 68 72 keyE Try.underlying62 rE b L.length D rfl hown1 ?_; intro w2 hr1 hg1 hs1; have HS1 := HST.out w1 w2 HB1.out hr1 hg1; clear hr1 hg1 hs1 HST)
        | go_in)
      go_frame
      generalize w1.heap.size = r at HS1 ⊢
      have HS : Hid (∃ M, (LX w w2 ⟨gs, hv, bv, some b⟩ b r Hs Hb L M (Maps.has D) (Maps.size D) ∧ LIs L M (lrn1 f a u now) (Maps.has D))) := ⟨L, HS1⟩
      clear HS1 hown1 c1 HB1 HOW
      go_loopw [34] (fun _ wr => ∃ (left : Lit → Bool) (cnt : Nat), Hid (∃ M, (LX w wr ⟨gs, hv, bv, some b⟩ b r Hs Hb L M left cnt ∧ LIs L M (lrn1 f a u now) left))) (fun _ wr => wr.rangeLeft b r)
      case atStart => exact ⟨_, _, HS⟩
      case round =>
        clear HS
        obtain ⟨left, cnt, HR⟩ := hrel
        obtain ⟨M, HX, HI⟩ := HR.out
        obtain ⟨kk, D', hr', hm'⟩ := HX.rg
        have HXX : Hid (LX w wr ⟨gs, hv, bv, some b⟩ b r Hs Hb L M left cnt) := HX
        have HII : Hid (LIs L M (lrn1 f a u now) left) := HI
        have hgm := HX.good
        clear HR HX HI
        go_wp2_with (first
          | (at_next; go_must (refine wpList_next_e _ rfl (.tmp 33) rfl b r kk cnt D' left M rfl hr' hm' hgm ?_ ?_))
          | go_in)
        · intro _ hl0
          go_wp2
          go_end0
          have hend := lis_end HII.out hl0
          have hlenM : M.length ≤ 128 := by
            have := congrArg List.length hend
            rw [fstC_len, List.length_map, fstC_len] at this
            have := HSZ.out; omega
          obtain ⟨k9, D9, hr9, hm9⟩ := HXX.out.rg
          exact ⟨rfl, M, ⟨HXX.out.rest, .inr ⟨b, rfl, ⟨k9, D9, hr9.owns, hm9⟩, hgm⟩, hlenM, HOK.out⟩, HL.out M hend, HXX.out.turn, HXX.out.new⟩
        · intro pc pb w2 cnt2 hpm hlp hr2 hlt hg2 hsz2 hen
          have HM : Hid (LX w w2 ⟨gs, hv, bv, some b⟩ b r Hs Hb L M (nextL left (pc, pb)) cnt2) := HXX.out.moved hr2 hm' hg2
          have HLT : Hid (∀ c, wr.rangeLeft b r = c → c = cnt) := fun c hc => by rw [hr'.left_eq] at hc; exact hc.symm
          have HCU : Hid (CutAt w2 pb pc) := HM.out.rest.cuts _ hpm
          have HPM : Hid ((pc, pb) ∈ M) := hpm
          have HIS : Hid (∀ L' : List Pr, fstC L' = ((fstC M).map fun c => if c.n = pc.n then lrn1 f a u now pc else c) → LIs L L' (lrn1 f a u now) (nextL left (pc, pb))) := fun L' e => lis_step HII.out (lrn1_n f a u now) hgm hpm hlp e
          have HLB : Hid (pc.bs.length < 256) := by
            have h1 := lis_old HII.out (lrn1_n f a u now) hpm hlp
            obtain ⟨q, hq, e⟩ := List.mem_map.1 h1
            rw [show (pc, pb).1 = pc from rfl] at e
            have := HLN.out q hq
            rw [e] at this
            exact this
          have HSTAY : Hid ((pc.n = pc.n → lrn1 f a u now pc = pc) → LIs L M (lrn1 f a u now) (nextL left (pc, pb))) := fun e => HIS.out M (lis_stay hgm hpm (e rfl))
          clear hpm hlp hr2 hg2 hsz2 hr' hm' hgm HXX HII
          have e0 := HCU.out.raw.blk.cell 0
          have e2 := HCU.out.raw.blk.cell 2
          simp only [List.getElem?_toArray, List.getElem?_cons_succ, List.getElem?_cons_zero] at e0 e2
          obtain ⟨P, hP⟩ : ∃ P, posL pc.hs f = P := ⟨_, rfl⟩
          have hix := index_any pb.hv pc.hs f w2 (Row.of_own HCU.out.raw.hosts) (by have := HCU.out.ok.hlen; omega) P hP
          obtain ⟨yh, ch, hhv⟩ := row_shape HCU.out.raw.hosts
          have HHV : Hid (pb.hv = .slice yh pc.hs.length ch) := hhv
          rw [hhv] at hix e0
          have hpl := fun v => isLive_any pc.u now v
          have HPP : Hid (posL pc.hs f = P) := hP
          clear hP hhv
          unfold kyV at hen ⊢
          by_cases hP0 : 0 ≤ P
          · obtain ⟨k, rfl⟩ : ∃ k : Nat, P = k := ⟨P.toNat, by omega⟩
            cases hlv : decide (now < pc.u) with
            | false =>
              rw [hlv] at hpl
              have HN : Hid (LIs L M (lrn1 f a u now) (nextL left (pc, pb))) := HSTAY.out (fun _ => lrn_skip (fun _ => by simpa using hlv))
              clear HSTAY hlv
              go_wp2_with (first
                | (go_at_call 36; go_must (refine hix.mono ?_); rintro e w' ⟨rfl, hw⟩; obtain rfl := hw.symm)
                | (go_at_call 35; go_must (refine (hpl _).mono ?_); rintro e w' ⟨rfl, hw⟩; obtain rfl := hw.symm))
              obtain ⟨k5, D5, hr5, _⟩ := HM.out.rg
              go_roundw
              case rel => exact ⟨_, _, ⟨M, HM.out, HN.out⟩⟩
              case measure => rw [hr5.left_eq, HLT.out _ rfl]; omega
            | true =>
              rw [hlv] at hpl
              have hkl : k < pc.hs.length := by
                obtain ⟨k', hk', e, _⟩ := posL_lt (hs := pc.hs) (s := f) (by rw [HPP.out]; omega)
                rw [HPP.out] at e
                omega
              have hle := learn_any HCU.out ⟨k, a, u⟩ now hkl HLB.out
              have HTK : Hid (lrn1 f a u now pc = { pc with bs := learnB pc.bs ⟨k, a, u⟩ now }) := lrn_take HPP.out (by simpa using hlv)
              have HFIN : Hid (∀ (w9 : World) (b9 : CB), CutAt w9 b9 { pc with bs := learnB pc.bs ⟨k, a, u⟩ now } → b9.g = pb.g → b9.hv = pb.hv → Turn (wfoot pb) w2 w9 → (∀ k, wfoot b9 k → wfoot pb k ∨ w2.heap.size ≤ k) → ∃ M', LX w w9 ⟨gs, hv, bv, some b⟩ b r Hs Hb L M' (nextL left (pc, pb)) cnt2 ∧ LIs L M' (lrn1 f a u now) (nextL left (pc, pb))) := fun w9 b9 q1 q2 q3 q4 q5 =>
                ⟨_, HM.out.learned HPM.out q1 rfl q2 q3 q4 q5, HIS.out _ (by rw [swap_fst, HTK.out])⟩
              simp only at hle
              clear HSTAY hlv hkl
              go_wp2_with (first
                | (go_at_call 36; go_must (refine hix.mono ?_); rintro e w' ⟨rfl, hw⟩; obtain rfl := hw.symm)
                | (go_at_call 35; go_must (refine (hpl _).mono ?_); rintro e w' ⟨rfl, hw⟩; obtain rfl := hw.symm)
                | (go_at_call 37; go_must (refine hle.mono ?_); rintro e w9 ⟨rfl, b9, q1, q2, q3, q4, q5⟩; have HE9 : Hid (∃ M', LX w w9 ⟨gs, hv, bv, some b⟩ b r Hs Hb L M' (nextL left (pc, pb)) cnt2 ∧ LIs L M' (lrn1 f a u now) (nextL left (pc, pb))) := HFIN.out w9 b9 q1 q2 q3 q4 q5; clear q1 q2 q3 q4 q5 hle))
              obtain ⟨M9, hx9, hi9⟩ := HE9.out
              obtain ⟨k5, D5, hr5, _⟩ := hx9.rg
              clear hx9 hi9
              go_roundw
              case rel => exact ⟨_, _, HE9⟩
              case measure => rw [hr5.left_eq, HLT.out _ rfl]; omega
          · have hP0' : decide ((0 : Int) ≤ P) = false := by simpa using hP0
            have HN : Hid (LIs L M (lrn1 f a u now) (nextL left (pc, pb))) := HSTAY.out (fun _ => lrn_skip (fun hmem => by rw [HPP.out] at hmem; omega))
            clear HSTAY hP0
            go_wp2_with (go_at_call 36; go_must (refine hix.mono ?_); rintro e w' ⟨rfl, hw⟩; obtain rfl := hw.symm)
            obtain ⟨k5, D5, hr5, _⟩ := HM.out.rg
            go_roundw
            case rel => exact ⟨_, _, ⟨M, HM.out, HN.out⟩⟩
            case measure => rw [hr5.left_eq, HLT.out _ rfl]; omega

end Cu
end Go.Proofs.Ytnjgdfmldjgloaa

/- New of a Cuts. -/
namespace Go.Proofs.Ytnjgdfmldjgloaa
open Go.RowKit
open Pl
namespace Cu

/-- A hint. -/
structure Hn where
  h : ByteArray
  a : Int
def hnV (x : Hn) : List Value := [.string x.h, .int .i64 x.a]
def hnC (xs : List Hn) : List Value := xs.flatMap hnV
def hnOk (x : Hn) : Bool := isName x.h.data.toList && wideB x.a
def hintsOk (hs : List Hn) : Bool := decide (1 ≤ hs.length) && decide (hs.length ≤ 8) && hs.all hnOk
def addH (acc : List ByteArray) (x : Hn) : List ByteArray := if 0 ≤ posL acc (fdB x.h) then acc else acc ++ [fdB x.h]
def hostsN (hs : List Hn) : List ByteArray := hs.foldl addH []
def hintB (x : Hn) : Bn := ⟨rootB, fdB x.h, x.a, rootB, 0⟩
def bindsN (hs : List Hn) : List Bn := hs.map hintB

theorem isWrongHint_any (x : Hn) (w : World) (hx : x.h.size ≤ maxLen) (b : Bool) (hb : hnOk x = b) :
    Calls Try.prog 25 #[.agg #[.string x.h, .int .i64 x.a]] w fun e w' => e = .returned (.bool (!b)) ∧ Below w.heap.size w w' := by
  obtain ⟨n, a⟩ := x
  simp only at hx ⊢
  unfold hnOk at hb
  simp only at hb
  have hb0 : Below w.heap.size w (w.alloc (.cells #[.string n, .int .i64 a] 60)) := lay (Below.refl _ _) _
  have HB0 : Hid (Below w.heap.size w (w.alloc (.cells #[.string n, .int .i64 a] 60))) := hb0
  have hma := fun v => mayAddr_any a v
  clear hb0
  cases h1 : isName n.data.toList with
  | false =>
    rw [h1] at hb
    simp only [Bool.false_and] at hb
    subst hb
    go_enter Try.func25, Try.ntmps25
    go_wp2_with (go_at_call 48; go_must (refine (may_as n false _ hx h1).mono ?_); rintro e w' ⟨rfl, hw⟩; obtain rfl := hw.symm)
    go_ret
    exact ⟨rfl, HB0.out⟩
  | true =>
    rw [h1] at hb
    simp only [Bool.true_and] at hb
    rw [hb] at hma
    go_enter Try.func25, Try.ntmps25
    go_wp2_with (first
      | (go_at_call 48; go_must (refine (may_as n true _ hx h1).mono ?_); rintro e w' ⟨rfl, hw⟩; obtain rfl := hw.symm)
      | (go_at_call 34; go_must (refine (hma _).mono ?_); rintro e w' ⟨rfl, hw⟩; obtain rfl := hw.symm))
    go_ret
    exact ⟨rfl, HB0.out⟩
def wrongF : Value := .func (.func 25) #[] #[]
set_option maxRecDepth 20000 in
theorem hintIdx_any (v : Value) (hs : List Hn) (w : World) (hr : Row w v hs.length (hnC hs)) (hl : hs.length ≤ maxLen) (hss : ∀ x ∈ hs, x.h.size ≤ maxLen) :
    Calls Try.prog 47 #[v, wrongF] w fun e w' => ∃ k : Int, e = .returned (.int .i64 k) ∧ Hid (decide (0 ≤ k) = !hs.all hnOk) ∧ Below w.heap.size w w' := by
  unfold wrongF
  obtain ⟨n, hn⟩ : ∃ n, n = hs.length := ⟨_, rfl⟩
  rw [← hn] at hr hl
  unfold maxLen at hl
  have HN : Hid (n = hs.length) := hn
  have HR : Hid (Row w v n (hnC hs)) := hr
  have HSS : Hid (∀ x ∈ hs, x.h.size ≤ maxLen) := hss
  obtain ⟨x0, c0, rfl, _⟩ := hr.src
  clear hr hn hss
  go_enter Try.func47, Try.ntmps47
  go_wp2
  go_loopw [8] (fun k wr => ∃ j : Nat, j ≤ n ∧ k = .int .i64 (j : Int) ∧ Hid (∀ i (hi : i < hs.length), i < j → hnOk hs[i] = true) ∧ Hid (Below w.heap.size w wr)) (fun k _ => n - (intOf k).toNat)
  case atStart => exact ⟨0, Nat.zero_le _, rfl, fun i _ h => by omega, Below.refl _ _⟩
  case round =>
    obtain ⟨j, hj, rfl, HB, HW⟩ := hrel
    by_cases hjn : j < n
    · have hjn' : (j : Int) < (n : Int) := by omega
      have hju : j < hs.length := by have := HN.out; omega
      obtain ⟨g, o, cap, hx, hc⟩ := row_at (HR.out.below HW.out) (by omega)
      simp only [Value.slice.injEq] at hx
      obtain ⟨rfl, -, rfl⟩ := hx
      obtain ⟨⟨pn, pa⟩, hp⟩ : ∃ p, p = hs[j] := ⟨_, rfl⟩
      have hfl := fun i hi => flat_get (f := hnV) (z := 2) (fun _ => rfl) hs j hju i hi
      rw [← hp] at hfl
      have d0 := hc (j * 2 + 0) _ (hfl 0 (by omega))
      have d1 := hc (j * 2 + 1) _ (hfl 1 (by omega))
      simp only [Nat.add_zero, ← Nat.add_assoc] at d0 d1
      have HQ : Hid ((⟨pn, pa⟩ : Hn) = hs[j]) := hp
      have hpl : pn.size ≤ maxLen := by have := HSS.out _ (List.getElem_mem hju); rw [← hp] at this; exact this
      clear hc hp hfl
      cases hs2 : hnOk ⟨pn, pa⟩ with
      | false =>
        have HF : Hid (decide (0 ≤ (j : Int)) = !hs.all hnOk) := by
          unfold Hid
          rw [decide_eq_true (by omega), show hs.all hnOk = false from by rw [List.all_eq_false]; exact ⟨hs[j], List.getElem_mem _, by rw [← HQ.out, hs2]; simp⟩]
          rfl
        go_wp2_with (go_at_call 25; go_must (refine (isWrongHint_any ⟨pn, pa⟩ _ hpl false hs2).mono ?_); rintro e w1 ⟨rfl, b1⟩)
        go_ret
        exact ⟨_, rfl, HF, next HW.out b1⟩
      | true =>
        have HB2 : Hid (∀ i (hi : i < hs.length), i < j + 1 → hnOk hs[i] = true) := fun i hi hij => by
          by_cases he : i = j
          · subst he; rw [← HQ.out]; exact hs2
          · exact HB.out i hi (by omega)
        go_wp2_with (go_at_call 25; go_must (refine (isWrongHint_any ⟨pn, pa⟩ _ hpl true hs2).mono ?_); rintro e w1 ⟨rfl, b1⟩)
        go_roundw
        case rel => exact ⟨j + 1, by omega, by go_num, HB2, next HW.out b1⟩
        case measure => simp [intOf]; omega
    · have hjn' : decide (j < n) = false := by simpa using hjn
      have HF : Hid (decide (0 ≤ (-1 : Int)) = !hs.all hnOk) := by
        unfold Hid
        rw [decide_eq_false (by omega), show hs.all hnOk = true from by
          rw [List.all_eq_true]
          intro x hx
          obtain ⟨i, hi, rfl⟩ := List.getElem_of_mem hx
          exact HB.out i hi (by have := HN.out; omega)]
        rfl
      go_wp2
      go_ret
      exact ⟨_, rfl, HF, HW.out⟩
theorem hintCon_any (v : Value) (hs : List Hn) (w : World) (hr : Row w v hs.length (hnC hs)) (hl : hs.length ≤ maxLen) (hss : ∀ x ∈ hs, x.h.size ≤ maxLen) :
    Calls Try.prog 24 #[v, wrongF] w fun e w' => e = .returned (.bool (!hs.all hnOk)) ∧ Below w.heap.size w w' := by
  have hc := hintIdx_any v hs w hr hl hss
  obtain ⟨x0, c0, rfl, _⟩ := hr.src
  unfold wrongF at hc ⊢
  go_enter Try.func24, Try.ntmps24
  go_wp2_with (go_at_call 47; go_must (refine hc.mono ?_); rintro e w1 ⟨k, rfl, HK, b1⟩)
  go_ret
  exact ⟨ret_bool HK.out, b1⟩

theorem hostsN_take {hs : List Hn} {j : Nat} (hj : j < hs.length) : hostsN (hs.take (j + 1)) = addH (hostsN (hs.take j)) hs[j] := by
  unfold hostsN
  rw [List.take_succ_eq_append_getElem hj, List.foldl_append]
  rfl
theorem hostsN_len (hs : List Hn) (j : Nat) : (hostsN (hs.take j)).length ≤ j := by
  induction j with
  | zero => simp [hostsN]
  | succ j ih =>
    by_cases hj : j < hs.length
    · rw [hostsN_take hj]
      unfold addH
      split
      · omega
      · simp; omega
    · rw [List.take_of_length_le (by omega)]
      rw [List.take_of_length_le (by omega)] at ih
      omega
theorem bindsN_take {hs : List Hn} {j : Nat} (hj : j < hs.length) : bindsN (hs.take (j + 1)) = bindsN (hs.take j) ++ [hintB hs[j]] := by
  unfold bindsN
  rw [List.take_succ_eq_append_getElem hj, List.map_append]
  rfl
/-- A host more; a binding more. -/
theorem st_host {w w1 w2 : World} {o : OB} {H : List ByteArray} {B : List Bn} (h : St w o H B []) (hb1 : Below w.heap.size w w1) {v' : Value} {f : ByteArray} (ow : w2.ownsRow 0 9 1 v' (H.length + 1) (tC H ++ [.string f])) (hg : w1.grownBy w2 o.hv.ownBlock) (hv' : ∀ k, v'.ownBlock = some k → o.hv.ownBlock = some k ∨ w.heap.size ≤ k) (hlen : H.length + 1 ≤ 8) (hf : f.size ≤ 255) :
    St (w2.setCell ⟨o.gs, 0, none⟩ v') { o with hv := v' } (H ++ [f]) B [] ∧ Turn (ofoot o []) w (w2.setCell ⟨o.gs, 0, none⟩ v') ∧ ∀ k, ofoot { o with hv := v' } [] k → ofoot o [] k ∨ w.heap.size ≤ k := by
  have h1 := h.below hb1
  have t1 : o.hv.ownBlock ≠ some o.gs := fun e => absurd (own_tag h1.rest.hosts e h1.rest.blk) (by decide)
  have t2 : o.bv.ownBlock ≠ some o.gs := fun e => absurd (own_tag h1.rest.hints e h1.rest.blk) (by decide)
  have T2 : Turn (fun k => o.hv.ownBlock = some k) w1 w2 := Turn.of_grown hg (fun k e => e)
  have T3 : Turn (fun k => k = o.gs) w2 (w2.setCell ⟨o.gs, 0, none⟩ v') := Turn.of_set (S := fun k => k = o.gs) w2 (p := ⟨o.gs, 0, none⟩) rfl v'
  have hv'g : ∀ k, v'.ownBlock = some k → k ≠ o.gs := fun k hk e => by
    subst e
    exact absurd (own_tag ow hk (T2.blk h1.rest.blk t1)) (by decide)
  refine ⟨⟨⟨?_, ?_, ?_, fun p hp => by simp at hp, List.Pairwise.nil⟩, ?_, by simp, ?_⟩, ?_, ?_⟩
  · exact (T2.blk h1.rest.blk t1).set 0 v'
  · show (w2.setCell _ _).ownsRow 0 9 1 v' (H ++ [f]).length (tC (H ++ [f]))
    rw [List.length_append, tC_app]
    exact T3.row ow (fun k hk e => hv'g k hk e)
  · exact T3.row (T2.row h1.rest.hints (fun k hk => own_far h1.rest.hints h1.rest.hosts (by decide) k hk)) (fun k hk e => t2 (by rw [hk, e]))
  · refine (h1.at'.turn T2 (fun b e hk => ?_)).turn T3 (fun b e hk => ?_)
    · obtain ⟨es, clock, hb⟩ := h1.at'.is_map b e
      exact h1.rest.not_map (.inr (.inl hk)) hb rfl
    · obtain ⟨es, clock, hb⟩ := h1.at'.is_map b e
      exact h1.rest.not_map (.inl hk) hb rfl
  · refine ⟨by rw [List.length_append]; exact hlen, fun x hx => ?_, h.hok.2.2⟩
    rcases List.mem_append.1 hx with hx | hx
    · exact h.hok.2.1 x hx
    · simp at hx; subst hx; exact hf
  · exact ((Turn.of_below hb1).trans T2 (fun i e => .inl (.inl (.inr (.inl e))))).trans T3 (fun i e => .inl (.inl (.inl e)))
  · rintro k ((e | e | e | ⟨p, hp, _⟩) | e)
    · exact .inl (.inl (.inl e))
    · rcases hv' k e with e | e
      · exact .inl (.inl (.inr (.inl e)))
      · exact .inr e
    · exact .inl (.inl (.inr (.inr (.inl e))))
    · simp at hp
    · exact .inl (.inr e)
theorem st_hint {w w1 w2 : World} {o : OB} {H : List ByteArray} {B : List Bn} (h : St w o H B []) (hb1 : Below w.heap.size w w1) {v' : Value} {x : Bn} (ow : w2.ownsRow 0 45 5 v' (B.length + 1) (bC B ++ bV x)) (hg : w1.grownBy w2 o.bv.ownBlock) (hv' : ∀ k, v'.ownBlock = some k → o.bv.ownBlock = some k ∨ w.heap.size ≤ k) (hlen : B.length + 1 ≤ 8) (hf : OkB x) :
    St (w2.setCell ⟨o.gs, 1, none⟩ v') { o with bv := v' } H (B ++ [x]) [] ∧ Turn (ofoot o []) w (w2.setCell ⟨o.gs, 1, none⟩ v') ∧ ∀ k, ofoot { o with bv := v' } [] k → ofoot o [] k ∨ w.heap.size ≤ k := by
  have h1 := h.below hb1
  have t1 : o.hv.ownBlock ≠ some o.gs := fun e => absurd (own_tag h1.rest.hosts e h1.rest.blk) (by decide)
  have t2 : o.bv.ownBlock ≠ some o.gs := fun e => absurd (own_tag h1.rest.hints e h1.rest.blk) (by decide)
  have T2 : Turn (fun k => o.bv.ownBlock = some k) w1 w2 := Turn.of_grown hg (fun k e => e)
  have T3 : Turn (fun k => k = o.gs) w2 (w2.setCell ⟨o.gs, 1, none⟩ v') := Turn.of_set (S := fun k => k = o.gs) w2 (p := ⟨o.gs, 1, none⟩) rfl v'
  have hv'g : ∀ k, v'.ownBlock = some k → k ≠ o.gs := fun k hk e => by
    subst e
    exact absurd (own_tag ow hk (T2.blk h1.rest.blk t2)) (by decide)
  refine ⟨⟨⟨?_, ?_, ?_, fun p hp => by simp at hp, List.Pairwise.nil⟩, ?_, by simp, ?_⟩, ?_, ?_⟩
  · exact (T2.blk h1.rest.blk t2).set 1 v'
  · exact T3.row (T2.row h1.rest.hosts (fun k hk => own_far h1.rest.hosts h1.rest.hints (by decide) k hk)) (fun k hk e => t1 (by rw [hk, e]))
  · show (w2.setCell _ _).ownsRow 0 45 5 v' (B ++ [x]).length (bC (B ++ [x]))
    rw [List.length_append, bC_app, show bC [x] = bV x by simp [bC]]
    exact T3.row ow (fun k hk e => hv'g k hk e)
  · refine (h1.at'.turn T2 (fun b e hk => ?_)).turn T3 (fun b e hk => ?_)
    · obtain ⟨es, clock, hb⟩ := h1.at'.is_map b e
      exact h1.rest.not_map (.inr (.inr (.inl hk))) hb rfl
    · obtain ⟨es, clock, hb⟩ := h1.at'.is_map b e
      exact h1.rest.not_map (.inl hk) hb rfl
  · refine ⟨h.hok.1, h.hok.2.1, by rw [List.length_append]; exact hlen, fun y hy => ?_⟩
    rcases List.mem_append.1 hy with hy | hy
    · exact h.hok.2.2.2 y hy
    · simp at hy; subst hy; exact hf
  · exact ((Turn.of_below hb1).trans T2 (fun i e => .inl (.inl (.inr (.inr (.inl e)))))).trans T3 (fun i e => .inl (.inl (.inl e)))
  · rintro k ((e | e | e | ⟨p, hp, _⟩) | e)
    · exact .inl (.inl (.inl e))
    · exact .inl (.inl (.inr (.inl e)))
    · rcases hv' k e with e | e
      · exact .inl (.inl (.inr (.inr (.inl e))))
      · exact .inr e
    · simp at hp
    · exact .inl (.inr e)
/-- How far New is. -/
structure NX (w wr : World) (gs : Nat) (hv bv : Value) (b : Nat) (H : List ByteArray) (B : List Bn) : Prop where
  st : St wr ⟨gs, hv, bv, some b⟩ H B []
  bel : Below w.heap.size w wr
  new : ∀ k, ofoot ⟨gs, hv, bv, some b⟩ [] k → w.heap.size ≤ k
theorem NX.below {w wr wn : World} {gs : Nat} {hv bv : Value} {b : Nat} {H : List ByteArray} {B : List Bn} (h : NX w wr gs hv bv b H B) (hb : Below wr.heap.size wr wn) : NX w wn gs hv bv b H B := ⟨h.st.below hb, next h.bel hb, h.new⟩
theorem NX.turn {w wr wn : World} {gs : Nat} {hv bv hv' bv' : Value} {b : Nat} {H H' : List ByteArray} {B B' : List Bn} (h : NX w wr gs hv bv b H B) (hs : St wn ⟨gs, hv', bv', some b⟩ H' B' []) (ht : Turn (ofoot ⟨gs, hv, bv, some b⟩ []) wr wn) (hf : ∀ k, ofoot ⟨gs, hv', bv', some b⟩ [] k → ofoot ⟨gs, hv, bv, some b⟩ [] k ∨ wr.heap.size ≤ k) : NX w wn gs hv' bv' b H' B' :=
  ⟨hs, Turn.below h.bel ht h.bel.size (fun i hi => h.new i hi), fun k hk => (hf k hk).elim (h.new k) (fun e => Nat.le_trans h.bel.size e)⟩
theorem new_no (v : Value) (hs : List Hn) (w : World) (hr : Row w v hs.length (hnC hs)) (hl : hs.length ≤ maxLen) (hss : ∀ x ∈ hs, x.h.size ≤ maxLen) (hno : hintsOk hs = false) :
    Calls Try.prog 9 #[v] w fun e w' => e = .returned (.tuple #[.pointer none, .int .i64 1500]) ∧ Below w.heap.size w w' := by
  have hcn := hintCon_any v hs w hr hl hss
  obtain ⟨x0, c0, rfl, _⟩ := hr.src
  unfold wrongF at hcn
  unfold hintsOk at hno
  obtain ⟨N, hN⟩ : ∃ N, N = hs.length := ⟨_, rfl⟩
  rw [← hN] at hcn hno hl ⊢
  clear hr hss hN
  by_cases h1 : N < 1
  · have h1' : (N : Int) < 1 := by omega
    go_enter Try.func9, Try.ntmps9
    go_wp2
    go_ret2
    exact ⟨rfl, Below.refl _ _⟩
  · have h1' : decide ((N : Int) < 1) = false := by simp; omega
    by_cases h2 : 8 < N
    · have h2' : (8 : Int) < (N : Int) := by omega
      go_enter Try.func9, Try.ntmps9
      go_wp2
      go_ret2
      exact ⟨rfl, Below.refl _ _⟩
    · have h2' : decide ((8 : Int) < (N : Int)) = false := by simp; omega
      have hal : hs.all hnOk = false := by
        rw [decide_eq_true (show 1 ≤ N by omega), decide_eq_true (show N ≤ 8 by omega)] at hno
        exact hno
      rw [hal] at hcn
      clear hno hal
      go_enter Try.func9, Try.ntmps9
      go_wp2_with (go_at_call 24; go_must (refine hcn.mono ?_); rintro e w1 ⟨rfl, b1⟩)
      go_ret2
      exact ⟨rfl, b1⟩

set_option maxRecDepth 20000 in
set_option maxHeartbeats 4000000 in
theorem new_yes (v : Value) (hs : List Hn) (w : World) (hr : Row w v hs.length (hnC hs)) (hss : ∀ x ∈ hs, x.h.size ≤ maxLen) (hok : hintsOk hs = true) :
    Calls Try.prog 9 #[v] w fun e w' => ∃ gs hv bv b, e = .returned (.tuple #[.pointer (some ⟨gs, 0, none⟩), .int .i64 0]) ∧ NX w w' gs hv bv b (hostsN hs) (bindsN hs) := by
  obtain ⟨i9, hi9, hz90, hz91, hz92⟩ := info_parts info9
  obtain ⟨iB, hiB, hzB0, hzB1, hzB2⟩ := info_parts infoBn
  unfold hintsOk at hok
  simp only [Bool.and_eq_true, decide_eq_true_eq] at hok
  obtain ⟨⟨hN1, hN8⟩, hall⟩ := hok
  have hcn := hintCon_any v hs w hr (by unfold maxLen; omega) hss
  rw [hall] at hcn
  have HALL : Hid (∀ x ∈ hs, hnOk x = true) := fun x hx => List.all_eq_true.1 hall x hx
  have HR : Hid (Row w v hs.length (hnC hs)) := hr
  have HSS : Hid (∀ x ∈ hs, x.h.size ≤ maxLen) := hss
  obtain ⟨x0, c0, rfl, _⟩ := hr.src
  unfold wrongF at hcn
  obtain ⟨N, hN⟩ : ∃ N, N = hs.length := ⟨_, rfl⟩
  have HN : Hid (N = hs.length) := hN
  rw [← hN] at hcn HR hN1 hN8 ⊢
  clear hr hss hN hall
  have h1' : decide ((N : Int) < 1) = false := by simp; omega
  have h2' : decide ((8 : Int) < (N : Int)) = false := by simp; omega
  have hmm := @run_makeMap Try.prog
  have HW0 : Hid (∀ w1, Below w.heap.size w w1 → NX w ((w1.alloc (.map #[] 0)).alloc (.cells #[.slice none 0 0, .slice none 0 0, .map (some w1.heap.size)] 64)) (w1.heap.size + 1) (.slice none 0 0) (.slice none 0 0) w1.heap.size (hostsN (hs.take 0)) (bindsN (hs.take 0))) := fun w1 hb => by
    have hz : (w1.alloc (.map #[] 0)).heap.size = w1.heap.size + 1 := by simp
    have hmade := World.ownsMap_made w1 Try.prog 68 rE
    refine ⟨⟨⟨?_, World.ownsRow_nil _ _ _ _, World.ownsRow_nil _ _ _ _, fun p hp => by simp at hp, List.Pairwise.nil⟩, .inr ⟨_, rfl, ⟨0, _, hmade.alloc _, mapOf_nil⟩, ⟨fun p hp => by simp at hp, List.Pairwise.nil⟩⟩, by simp, ⟨by simp [hostsN], fun x hx => by simp [hostsN] at hx, by simp [bindsN], fun x hx => by simp [bindsN] at hx⟩⟩, lay (lay hb _) _, ?_⟩
    · have := Blk.new (w1.alloc (.map #[] 0)) #[.slice none 0 0, .slice none 0 0, .map (some w1.heap.size)] 64
      rw [hz] at this
      exact this
    · have := hb.size
      rintro k ((e | e | e | ⟨p, hp, _⟩) | e)
      · have e2 : k = w1.heap.size + 1 := e
        omega
      · simp [Value.ownBlock] at e
      · simp [Value.ownBlock] at e
      · simp at hp
      · have e2 : some w1.heap.size = some k := e
        have := Option.some.inj e2
        omega
  go_enter Try.func9, Try.ntmps9
  go_wp2_with (go_at_call 24; go_must (refine hcn.mono ?_); rintro e w1 ⟨rfl, b1⟩; have HX1 := HW0.out w1 b1; clear HW0 b1)
  obtain ⟨b, hb⟩ : ∃ b, b = w1.heap.size := ⟨_, rfl⟩
  obtain ⟨gs, hgs⟩ : ∃ gs, gs = w1.heap.size + 1 := ⟨_, rfl⟩
  obtain ⟨W0, hW0⟩ : ∃ W, W = (w1.alloc (.map #[] 0)).alloc (.cells #[.slice none 0 0, .slice none 0 0, .map (some w1.heap.size)] 64) := ⟨_, rfl⟩
  rw [← hW0, ← hgs, ← hb] at HX1
  rw [← hW0, ← hgs]
  have HS : Hid (NX w W0 gs (.slice none 0 0) (.slice none 0 0) b (hostsN (hs.take 0)) (bindsN (hs.take 0))) := HX1
  clear hW0 hgs hb HX1 hcn hmm
  go_loopw [25] (fun k wr => ∃ (j : Nat) (hv bv : Value), j ≤ N ∧ k = .int .i64 (j : Int) ∧ Hid (NX w wr gs hv bv b (hostsN (hs.take j)) (bindsN (hs.take j)))) (fun k _ => N - (intOf k).toNat)
  case atStart => exact ⟨0, _, _, Nat.zero_le _, rfl, HS⟩
  case round =>
    clear HS
    obtain ⟨j, hv, bv, hj, rfl, HX⟩ := hrel
    by_cases hjn : j < N
    · have hjn' : (j : Int) < (N : Int) := by omega
      have hju : j < hs.length := by have := HN.out; omega
      obtain ⟨g, o, cap, hx, hc⟩ := row_at (HR.out.below HX.out.bel) (by omega)
      simp only [Value.slice.injEq] at hx
      obtain ⟨rfl, -, rfl⟩ := hx
      obtain ⟨⟨pn, pa⟩, hp⟩ : ∃ p, p = hs[j] := ⟨_, rfl⟩
      have hfl := fun i hi => flat_get (f := hnV) (z := 2) (fun _ => rfl) hs j hju i hi
      rw [← hp] at hfl
      have d0 := hc (j * 2 + 0) _ (hfl 0 (by omega))
      have d1 := hc (j * 2 + 1) _ (hfl 1 (by omega))
      simp only [Nat.add_zero, ← Nat.add_assoc] at d0 d1
      have HQ : Hid ((⟨pn, pa⟩ : Hn) = hs[j]) := hp
      have hpl : pn.size ≤ maxLen := by have := HSS.out _ (List.getElem_mem hju); rw [← hp] at this; exact this
      have hpn : isName pn.data.toList = true := by
        have := HALL.out _ (List.getElem_mem hju)
        rw [← hp] at this
        unfold hnOk at this
        simp only [Bool.and_eq_true] at this
        exact this.1
      obtain ⟨f, hf⟩ : ∃ f, f = fdB pn := ⟨_, rfl⟩
      have HF : Hid (f = fdB pn) := hf
      have HF5 : Hid (f.size ≤ 255) := by unfold Hid; rw [hf]; exact fd_255 hpn
      have hfo := fun u => fold_any pn u hpl
      rw [show (⟨(foldR pn.data.toList).toArray⟩ : ByteArray) = f from hf.symm] at hfo
      obtain ⟨H, hH⟩ : ∃ H, H = hostsN (hs.take j) := ⟨_, rfl⟩
      have HHL : Hid (H.length ≤ j) := by unfold Hid; rw [hH]; exact hostsN_len hs j
      have HH1 : Hid (hostsN (hs.take (j + 1)) = if 0 ≤ posL H f then H else H ++ [f]) := by
        unfold Hid
        rw [hostsN_take hju, ← hp, ← hH, hf]
        rfl
      rw [← hH] at HX
      obtain ⟨yh, ch, rfl⟩ := row_shape HX.out.st.rest.hosts
      obtain ⟨M, hM⟩ : ∃ M, M = H.length := ⟨_, rfl⟩
      have HM : Hid (M = H.length) := hM
      have HXX : Hid (NX w wr gs (.slice yh M ch) bv b H (bindsN (hs.take j))) := by unfold Hid; rw [hM]; exact HX.out
      have hM8 : M ≤ 8 := by have := HHL.out; omega
      have hM7 : M < 8 := by have := HHL.out; omega
      have HY : Hid (∀ w2, Below (wr.alloc (.cells #[.string pn, .int .i64 pa] 60)).heap.size (wr.alloc (.cells #[.string pn, .int .i64 pa] 60)) w2 → NX w w2 gs (.slice yh M ch) bv b H (bindsN (hs.take j)) ∧ Blk w2 wr.heap.size #[.string pn, .int .i64 pa] 60 ∧ w2.cell? ⟨gs, 0, none⟩ = some (.slice yh M ch)) := fun w2 b2 => by
        have hb2 : Below wr.heap.size wr w2 := next (lay (Below.refl _ _) _) b2
        have h2 := HXX.out.below hb2
        exact ⟨h2, (Blk.new wr _ _).below b2, h2.st.rest.blk.cell 0⟩
      have hk0 := Blk.new wr #[.string pn, .int .i64 pa] 60
      have e0 := hk0.cell 0
      simp only [List.getElem?_toArray, List.getElem?_cons_zero] at e0
      obtain ⟨kY, hkY⟩ : ∃ kY, kY = wr.heap.size := ⟨_, rfl⟩
      clear hc hp hfl hpn hf hH HX hM HALL hk0
      cases hB : decide (0 ≤ posL H f) with
      | true =>
        have HCN : Hid (∀ w2, NX w w2 gs (.slice yh M ch) bv b H (bindsN (hs.take j)) → Calls Try.prog 27 #[.slice yh M ch, .string f] w2 fun e w' => e = .returned (.bool true) ∧ w' = w2) := fun w2 h2 => contains_any _ H f w2 (Row.of_own h2.st.rest.hosts) (by rw [← HM.out]; omega) true (by
          simp only [decide_eq_true_eq] at hB
          exact ⟨fun _ => posL_mem.1 hB, fun _ => rfl⟩)
        have HH2 : Hid (hostsN (hs.take (j + 1)) = H) := by unfold Hid; rw [HH1.out, if_pos (by simpa using hB)]
        clear hB HH1
        go_wp2_with (first
          | (go_at_call 26; go_must (refine (hfo _).mono ?_); rintro e w5 ⟨rfl, b5⟩; obtain ⟨n5, k5, q0⟩ := HY.out w5 b5; have hcon := HCN.out w5 n5; clear b5 e0)
          | (go_at_call 27; go_must (refine hcon.mono ?_); rintro e w' ⟨rfl, hw⟩; obtain rfl := hw.symm))
        have HX5 : Hid (NX w w5 gs (.slice yh M ch) bv b (hostsN (hs.take (j + 1))) (bindsN (hs.take j))) := by unfold Hid; rw [HH2.out]; exact n5
        rw [← hkY] at k5 ⊢
        have HK5 : Hid (Blk w5 kY #[.string pn, .int .i64 pa] 60) := k5
        obtain ⟨hv5, hhv5⟩ : ∃ hv5, hv5 = Value.slice yh M ch := ⟨_, rfl⟩
        rw [← hhv5] at HX5
        clear n5 k5 q0 hcon hhv5 hkY
        have c1 : w5.drew.cell? ⟨gs, 1, none⟩ = some bv := HX5.out.st.rest.blk.cell 1
        have a1 : w5.drew.cell? ⟨kY, 1, none⟩ = some (.int .i64 pa) := HK5.out.cell 1
        obtain ⟨yb, cb, rfl⟩ := row_shape HX5.out.st.rest.hints
        have HLB : Hid ((bindsN (hs.take j)).length = j) := by unfold Hid bindsN; rw [List.length_map, List.length_take]; have := HN.out; omega
        have HX6 : Hid (NX w w5 gs hv5 (.slice yb j cb) b (hostsN (hs.take (j + 1))) (bindsN (hs.take j))) := by have := HX5.out; rw [HLB.out] at this; exact this
        rw [HLB.out] at c1
        have hto := HX6.out.st.rest.hints
        rw [HLB.out] at hto
        have hXd : Blk (w5.alloc (.cells #[.string rootB, .string f, .int .i64 pa, .string rootB, .int .i64 0] 45)).drew w5.heap.size #[.string rootB, .string f, .int .i64 pa, .string rootB, .int .i64 0] 45 := Blk.new w5 #[.string rootB, .string f, .int .i64 pa, .string rootB, .int .i64 0] 45
        have hbd : Below w5.heap.size w5 (w5.alloc (.cells #[.string rootB, .string f, .int .i64 pa, .string rootB, .int .i64 0] 45)).drew := (lay (Below.refl _ _) _).drew
        have c2 : (w5.alloc (.cells #[.string rootB, .string f, .int .i64 pa, .string rootB, .int .i64 0] 45)).cell? ⟨gs, 1, none⟩ = some (.slice yb j cb) := (HX6.out.st.rest.blk.below hbd).cell 1
        have hto6 := own_past hto hbd
        have HBD : Hid (Below w5.heap.size w5 (w5.alloc (.cells #[.string rootB, .string f, .int .i64 pa, .string rootB, .int .i64 0] 45)).drew) := hbd
        unfold rootB at hXd c2 hto6
        clear hto hbd HX5
        refine wp_region_held_drew (S := fun u => Blk u kY #[.string pn, .int .i64 pa] 60) (by kernel_rfl) (HK5.out.below (Below.refl _ _).drew) (fun hHeld => ?_)
        refine wpAnyH_take (i := 0) (v := .pointer (some ⟨gs, 0, none⟩)) rfl (by kernel_rfl) (by kernel_rfl) (by kernel_rfl) (fun _ _ _ h => h) (Or.inl ⟨by rfl, ?_⟩) hHeld ?_
        · intro u hu
          go_simp
        simp only [Act.put, List.getElem_toArray, List.getElem_cons_zero, List.setIfInBounds_toArray, List.set_cons_zero, List.set_cons_succ]
        refine wpAnyH_take (i := 1) (v := .pointer (some ⟨gs, 0, none⟩)) rfl (by kernel_rfl) (by kernel_rfl) (by kernel_rfl) (fun _ _ _ h => h) (Or.inl ⟨by rfl, ?_⟩) hHeld ?_
        · intro u hu
          go_simp
        simp only [Act.put, List.getElem_toArray, List.getElem_cons_succ, List.getElem_cons_zero, List.setIfInBounds_toArray, List.set_cons_zero, List.set_cons_succ]
        refine wpAnyH_take (i := 2) (v := .pointer (some ⟨gs, 0, none⟩)) rfl (by kernel_rfl) (by kernel_rfl) (by kernel_rfl) (fun _ _ _ h => h) (Or.inl ⟨by rfl, ?_⟩) hHeld ?_
        · intro u hu
          go_simp
        simp only [Act.put, List.getElem_toArray, List.getElem_cons_succ, List.getElem_cons_zero, List.setIfInBounds_toArray, List.set_cons_zero, List.set_cons_succ]
        refine wpAnyH_take (i := 3) (v := .pointer (some ⟨gs, 1, none⟩)) rfl (by kernel_rfl) (by kernel_rfl) (by kernel_rfl) (fun _ _ _ h => h) (Or.inl ⟨by rfl, ?_⟩) hHeld ?_
        · intro u hu
          go_simp
        simp only [Act.put, List.getElem_toArray, List.getElem_cons_succ, List.getElem_cons_zero, List.setIfInBounds_toArray, List.set_cons_zero, List.set_cons_succ]
        refine wpAnyH_take (i := 5) (v := .string f) rfl (by kernel_rfl) (by kernel_rfl) (by kernel_rfl) (fun _ _ _ h => h) (Or.inl ⟨by rfl, ?_⟩) hHeld ?_
        · intro u hu
          go_simp
        simp only [Act.put, List.getElem_toArray, List.getElem_cons_succ, List.getElem_cons_zero, List.setIfInBounds_toArray, List.set_cons_zero, List.set_cons_succ]
        refine wpAnyH_take (i := 6) (v := .pointer (some ⟨kY, 1, none⟩)) rfl (by kernel_rfl) (by kernel_rfl) (by kernel_rfl) (fun _ _ _ h => h) (Or.inl ⟨by rfl, ?_⟩) hHeld ?_
        · intro u hu
          go_simp
        simp only [Act.put, List.getElem_toArray, List.getElem_cons_succ, List.getElem_cons_zero, List.setIfInBounds_toArray, List.set_cons_zero, List.set_cons_succ]
        refine wpAnyH_take (i := 7) (v := .int .i64 pa) rfl (by kernel_rfl) (by kernel_rfl) (by kernel_rfl) (fun _ _ _ h => h) (Or.inl ⟨by rfl, ?_⟩) hHeld ?_
        · intro u hu
          have a0 := hu.cell 1; simp only [List.getElem?_toArray, List.getElem?_cons_succ, List.getElem?_cons_zero] at a0; clear hu
          go_simp
        simp only [Act.put, List.getElem_toArray, List.getElem_cons_succ, List.getElem_cons_zero, List.setIfInBounds_toArray, List.set_cons_zero, List.set_cons_succ]
        refine wpAnyH_take (i := 8) (v := .agg #[.string ⟨#[0]⟩, .string f, .int .i64 pa, .string ⟨#[0]⟩, .int .i64 0]) rfl (by kernel_rfl) (by kernel_rfl) (by kernel_rfl) (fun _ _ _ h => h) (Or.inl ⟨by rfl, ?_⟩) hHeld ?_
        · intro u hu
          go_simp
        simp only [Act.put, List.getElem_toArray, List.getElem_cons_succ, List.getElem_cons_zero, List.setIfInBounds_toArray, List.set_cons_zero, List.set_cons_succ]
        refine wpAnyH_ready (rs := [4, 9]) (by kernel_rfl) (by simp) ?_
        refine AllReadyH.cons rfl (fun K hK => ?_) (AllReadyH.cons rfl (fun K hK => ?_) AllReadyH.nil)
        · skip
          go_simp
          refine hK.out _ _ hHeld (fun hHeld => ?_)
          clear hK K
          refine wpAnyH_ready (rs := [9]) (by kernel_rfl) (by simp) ?_
          refine AllReadyH.cons rfl (fun K hK => ?_) AllReadyH.nil
          go_simp
          refine hK.out _ _ (hHeld.alloc _) (fun hHeld => ?_)
          clear hK K
          refine wpAnyH_ready (rs := [10]) (by kernel_rfl) (by simp) ?_
          refine AllReadyH.cons rfl (fun K hK => ?_) AllReadyH.nil
          refine step_appG _ rfl (.tmp 53) (.tmp 58) 31 45 iB _ 5 64 Try.underlying31 hiB hzB0 hzB1 hzB2 rfl (by decide) rfl 0 _ j _ rfl hto6 (.slice (some ⟨w5.heap.size, 0, none⟩) 1 1) 1 [.string ⟨#[0]⟩, .string f, .int .i64 pa, .string ⟨#[0]⟩, .int .i64 0] rfl (Row.of_blk hXd rfl 1 1) rfl (by simp [Value.oneCell']) (by omega) (by unfold maxLen; omega) (Nat.zero_le _) ?_
          intro v7 w7 h1 h3 h4
          have hblk7 := ((HX6.out.st.rest.blk).below HBD.out).grown h3 (fun e => absurd (own_tag hto6 e.symm (HX6.out.st.rest.blk.below HBD.out)) (by decide))
          have q6 : w7.cell? ⟨gs, 1, none⟩ = some (.slice yb j cb) := hblk7.cell 1
          have q7 : w7.frozen? ⟨gs, 1, none⟩ = false := hblk7.frozen 1
          have hH7 := hHeld.grown h3 (fun e => absurd (own_tag hto6 e.symm hHeld) (by decide))
          have hne7 : kY ≠ gs := fun e => by subst e; exact absurd (blk_tag hH7 hblk7) (by decide)
          obtain ⟨y7, c7, rfl⟩ := row_shape h1
          have HA9 : Hid (NX w (w7.setCell ⟨gs, 1, none⟩ (.slice y7 (j + 1) c7)) gs hv5 (.slice y7 (j + 1) c7) b (hostsN (hs.take (j + 1))) (bindsN (hs.take (j + 1)))) := by
            have hst := st_hint HX6.out.st HBD.out (x := hintB ⟨pn, pa⟩) (v' := .slice y7 (j + 1) c7) (w2 := w7) (by rw [HLB.out]; unfold bV hintB; rw [← HF.out]; exact h1) h3 (fun k hk => (h4 k hk).imp id (fun e => Nat.le_trans HBD.out.size e)) (by rw [HLB.out]; omega) (⟨show rootB.size ≤ 255 by decide, by show (fdB pn).size ≤ 255; rw [← HF.out]; exact HF5.out, show rootB.size ≤ 255 by decide⟩)
            rw [bindsN_take (by have := HN.out; omega), ← HQ.out]
            exact HX6.out.turn hst.1 hst.2.1 hst.2.2
          clear h1 h3 h4 hblk7 hto6
          refine hK.out _ _ hH7 (fun hHeld => ?_)
          clear hK K
          simp only [Act.put, List.getElem_toArray, List.getElem_cons_succ, List.getElem_cons_zero, List.setIfInBounds_toArray, List.set_cons_zero, List.set_cons_succ]
          refine wpAnyH_take (i := 11) (v := .pointer (some ⟨gs, 0, none⟩)) rfl (by kernel_rfl) (by kernel_rfl) (by kernel_rfl) (fun _ _ _ h => h) (Or.inl ⟨by rfl, ?_⟩) hHeld ?_
          · intro u hu
            go_simp
          simp only [Act.put, List.getElem_toArray, List.getElem_cons_succ, List.getElem_cons_zero, List.setIfInBounds_toArray, List.set_cons_zero, List.set_cons_succ]
          refine wpAnyH_take (i := 12) (v := .pointer (some ⟨gs, 1, none⟩)) rfl (by kernel_rfl) (by kernel_rfl) (by kernel_rfl) (fun _ _ _ h => h) (Or.inl ⟨by rfl, ?_⟩) hHeld ?_
          · intro u hu
            go_simp
          simp only [Act.put, List.getElem_toArray, List.getElem_cons_succ, List.getElem_cons_zero, List.setIfInBounds_toArray, List.set_cons_zero, List.set_cons_succ]
          refine wpAnyH_ready (rs := [13]) (by kernel_rfl) (by simp) ?_
          refine AllReadyH.cons rfl (fun K hK => ?_) AllReadyH.nil
          go_simp
          refine hK.out _ _ (hH7.other hne7 _ _) (fun hHeld => ?_)
          clear hK K
          refine wpAnyH_done (by kernel_rfl) ?_ _
          go_wp2
          go_roundw
          case rel => exact ⟨j + 1, _, _, by omega, by go_num, HA9⟩
          case measure => simp [intOf]; omega
        · skip
          go_simp
          refine hK.out _ _ (hHeld.alloc _) (fun hHeld => ?_)
          clear hK K
          refine wpAnyH_ready (rs := [4]) (by kernel_rfl) (by simp) ?_
          refine AllReadyH.cons rfl (fun K hK => ?_) AllReadyH.nil
          go_simp
          refine hK.out _ _ hHeld (fun hHeld => ?_)
          clear hK K
          refine wpAnyH_ready (rs := [10]) (by kernel_rfl) (by simp) ?_
          refine AllReadyH.cons rfl (fun K hK => ?_) AllReadyH.nil
          refine step_appG _ rfl (.tmp 53) (.tmp 58) 31 45 iB _ 5 64 Try.underlying31 hiB hzB0 hzB1 hzB2 rfl (by decide) rfl 0 _ j _ rfl hto6 (.slice (some ⟨w5.heap.size, 0, none⟩) 1 1) 1 [.string ⟨#[0]⟩, .string f, .int .i64 pa, .string ⟨#[0]⟩, .int .i64 0] rfl (Row.of_blk hXd rfl 1 1) rfl (by simp [Value.oneCell']) (by omega) (by unfold maxLen; omega) (Nat.zero_le _) ?_
          intro v7 w7 h1 h3 h4
          have hblk7 := ((HX6.out.st.rest.blk).below HBD.out).grown h3 (fun e => absurd (own_tag hto6 e.symm (HX6.out.st.rest.blk.below HBD.out)) (by decide))
          have q6 : w7.cell? ⟨gs, 1, none⟩ = some (.slice yb j cb) := hblk7.cell 1
          have q7 : w7.frozen? ⟨gs, 1, none⟩ = false := hblk7.frozen 1
          have hH7 := hHeld.grown h3 (fun e => absurd (own_tag hto6 e.symm hHeld) (by decide))
          have hne7 : kY ≠ gs := fun e => by subst e; exact absurd (blk_tag hH7 hblk7) (by decide)
          obtain ⟨y7, c7, rfl⟩ := row_shape h1
          have HA9 : Hid (NX w (w7.setCell ⟨gs, 1, none⟩ (.slice y7 (j + 1) c7)) gs hv5 (.slice y7 (j + 1) c7) b (hostsN (hs.take (j + 1))) (bindsN (hs.take (j + 1)))) := by
            have hst := st_hint HX6.out.st HBD.out (x := hintB ⟨pn, pa⟩) (v' := .slice y7 (j + 1) c7) (w2 := w7) (by rw [HLB.out]; unfold bV hintB; rw [← HF.out]; exact h1) h3 (fun k hk => (h4 k hk).imp id (fun e => Nat.le_trans HBD.out.size e)) (by rw [HLB.out]; omega) (⟨show rootB.size ≤ 255 by decide, by show (fdB pn).size ≤ 255; rw [← HF.out]; exact HF5.out, show rootB.size ≤ 255 by decide⟩)
            rw [bindsN_take (by have := HN.out; omega), ← HQ.out]
            exact HX6.out.turn hst.1 hst.2.1 hst.2.2
          clear h1 h3 h4 hblk7 hto6
          refine hK.out _ _ hH7 (fun hHeld => ?_)
          clear hK K
          simp only [Act.put, List.getElem_toArray, List.getElem_cons_succ, List.getElem_cons_zero, List.setIfInBounds_toArray, List.set_cons_zero, List.set_cons_succ]
          refine wpAnyH_take (i := 11) (v := .pointer (some ⟨gs, 0, none⟩)) rfl (by kernel_rfl) (by kernel_rfl) (by kernel_rfl) (fun _ _ _ h => h) (Or.inl ⟨by rfl, ?_⟩) hHeld ?_
          · intro u hu
            go_simp
          simp only [Act.put, List.getElem_toArray, List.getElem_cons_succ, List.getElem_cons_zero, List.setIfInBounds_toArray, List.set_cons_zero, List.set_cons_succ]
          refine wpAnyH_take (i := 12) (v := .pointer (some ⟨gs, 1, none⟩)) rfl (by kernel_rfl) (by kernel_rfl) (by kernel_rfl) (fun _ _ _ h => h) (Or.inl ⟨by rfl, ?_⟩) hHeld ?_
          · intro u hu
            go_simp
          simp only [Act.put, List.getElem_toArray, List.getElem_cons_succ, List.getElem_cons_zero, List.setIfInBounds_toArray, List.set_cons_zero, List.set_cons_succ]
          refine wpAnyH_ready (rs := [13]) (by kernel_rfl) (by simp) ?_
          refine AllReadyH.cons rfl (fun K hK => ?_) AllReadyH.nil
          go_simp
          refine hK.out _ _ (hH7.other hne7 _ _) (fun hHeld => ?_)
          clear hK K
          refine wpAnyH_done (by kernel_rfl) ?_ _
          go_wp2
          go_roundw
          case rel => exact ⟨j + 1, _, _, by omega, by go_num, HA9⟩
          case measure => simp [intOf]; omega
      | false =>
        have HCN : Hid (∀ w2, NX w w2 gs (.slice yh M ch) bv b H (bindsN (hs.take j)) → Calls Try.prog 27 #[.slice yh M ch, .string f] w2 fun e w' => e = .returned (.bool false) ∧ w' = w2) := fun w2 h2 => contains_any _ H f w2 (Row.of_own h2.st.rest.hosts) (by rw [← HM.out]; omega) false (by
          simp only [decide_eq_false_iff_not] at hB
          exact ⟨fun h => absurd h (by decide), fun h => absurd (posL_mem.2 h) hB⟩)
        have HH2 : Hid (hostsN (hs.take (j + 1)) = H ++ [f]) := by unfold Hid; rw [HH1.out, if_neg (by simpa using hB)]
        have HST : Hid (∀ w2 w7 v7, NX w w2 gs (.slice yh M ch) bv b H (bindsN (hs.take j)) → w7.ownsRow 0 9 1 v7 (M + 1) (tC H ++ [.string f]) → (w2.alloc (.cells #[.string f] 9)).grownBy w7 (Value.slice yh M ch).ownBlock → (∀ k, v7.ownBlock = some k → (Value.slice yh M ch).ownBlock = some k ∨ w2.heap.size ≤ k) → Blk w2 kY #[.string pn, .int .i64 pa] 60 → NX w (w7.setCell ⟨gs, 0, none⟩ v7) gs v7 bv b (hostsN (hs.take (j + 1))) (bindsN (hs.take j)) ∧ Blk (w7.setCell ⟨gs, 0, none⟩ v7) kY #[.string pn, .int .i64 pa] 60) := fun w2 w7 v7 h2 ow gr ho hk => by
          have hb1 : Below w2.heap.size w2 (w2.alloc (.cells #[.string f] 9)) := lay (Below.refl _ _) _
          have hst := st_host h2.st hb1 (by show w7.ownsRow 0 9 1 v7 (H.length + 1) _; rw [← HM.out]; exact ow) gr ho (by rw [← HM.out]; omega) HF5.out
          rw [HH2.out]
          refine ⟨h2.turn hst.1 hst.2.1 hst.2.2, hst.2.1.blk hk ?_⟩
          rintro ((e | e | e | ⟨p, hp, _⟩) | e)
          · have e2 : kY = gs := e
            subst e2
            exact absurd (blk_tag hk h2.st.rest.blk) (by decide)
          · exact absurd (own_tag h2.st.rest.hosts e hk) (by decide)
          · exact absurd (own_tag h2.st.rest.hints e hk) (by decide)
          · simp at hp
          · obtain ⟨es, clock, hbm⟩ := h2.st.at'.is_map kY e
            unfold Blk at hk
            rw [hk] at hbm; cases hbm
        clear hB HH1
        rw [hkY] at HST
        go_wp2_with (first
          | (go_at_call 26; go_must (refine (hfo _).mono ?_); rintro e w4 ⟨rfl, b4⟩; obtain ⟨n4, k4, q0⟩ := HY.out w4 b4; have hcon := HCN.out w4 n4; have hto4 := own_past n4.st.rest.hosts (lay (Below.refl w4.heap.size w4) (.cells #[.string f] 9)); rw [← HM.out] at hto4; have kX := Blk.new w4 #[.string f] 9; have hcg := n4.st.rest.blk.below (lay (Below.refl w4.heap.size w4) (.cells #[.string f] 9)); have q1 : (w4.alloc (.cells #[.string f] 9)).cell? ⟨gs, 0, none⟩ = some (.slice yh M ch) := hcg.cell 0; clear b4 e0)
          | (go_at_call 27; go_must (refine hcon.mono ?_); rintro e w' ⟨rfl, hw⟩; obtain rfl := hw.symm)
          | (at_builtin; refine wpList_appG _ rfl (.tmp 43) (.tmp 45) 30 9 i9 _ 1 16 Try.underlying30 hi9 hz90 hz91 hz92 rfl (by decide) rfl 0 _ M (tC H) rfl hto4 (.slice (some ⟨w4.heap.size, 0, none⟩) 1 1) 1 [.string f] rfl (Row.of_blk kX rfl 1 1) rfl (by simp [Value.oneCell']) (by omega) (by unfold maxLen; omega) (Nat.zero_le _) ?_; intro v5 w5 h1 h3 h4; have hs5 := HST.out w4 w5 v5 n4 h1 h3 (fun k hk => (h4 k hk).imp id (fun e => by rw [World.size_alloc] at e; omega)) k4; have hblk5 := hcg.grown h3 (fun e => absurd (own_tag hto4 e.symm hcg) (by decide)); have q2 : w5.cell? ⟨gs, 0, none⟩ = some (.slice yh M ch) := hblk5.cell 0; have q3 : w5.frozen? ⟨gs, 0, none⟩ = false := hblk5.frozen 0; obtain ⟨y5, c5, rfl⟩ := row_shape h1; have HN5 : Hid _ := hs5; clear h1 h3 h4 hs5 hblk5 hcg hto4 kX n4 k4 hcon q1))
        obtain ⟨n5, k5⟩ := HN5.out
        obtain ⟨hv5, hhv5⟩ : ∃ hv5, hv5 = Value.slice y5 (M + 1) c5 := ⟨_, rfl⟩
        rw [← hhv5] at n5 k5 ⊢
        obtain ⟨w6, hw6⟩ : ∃ w6, w6 = w5.setCell ⟨gs, 0, none⟩ hv5 := ⟨_, rfl⟩
        rw [← hw6] at n5 k5 ⊢
        clear hw6
        clear q2 q3 HN5
        have HX5 : Hid (NX w w6 gs hv5 bv b (hostsN (hs.take (j + 1))) (bindsN (hs.take j))) := n5
        rw [← hkY] at k5 ⊢
        have HK5 : Hid (Blk w6 kY #[.string pn, .int .i64 pa] 60) := k5
        clear n5 k5 hhv5 hkY
        clear w5
        obtain ⟨w5, rfl⟩ : ∃ w5, w5 = w6 := ⟨_, rfl⟩
        have c1 : w5.drew.cell? ⟨gs, 1, none⟩ = some bv := HX5.out.st.rest.blk.cell 1
        have a1 : w5.drew.cell? ⟨kY, 1, none⟩ = some (.int .i64 pa) := HK5.out.cell 1
        obtain ⟨yb, cb, rfl⟩ := row_shape HX5.out.st.rest.hints
        have HLB : Hid ((bindsN (hs.take j)).length = j) := by unfold Hid bindsN; rw [List.length_map, List.length_take]; have := HN.out; omega
        have HX6 : Hid (NX w w5 gs hv5 (.slice yb j cb) b (hostsN (hs.take (j + 1))) (bindsN (hs.take j))) := by have := HX5.out; rw [HLB.out] at this; exact this
        rw [HLB.out] at c1
        have hto := HX6.out.st.rest.hints
        rw [HLB.out] at hto
        have hXd : Blk (w5.alloc (.cells #[.string rootB, .string f, .int .i64 pa, .string rootB, .int .i64 0] 45)).drew w5.heap.size #[.string rootB, .string f, .int .i64 pa, .string rootB, .int .i64 0] 45 := Blk.new w5 #[.string rootB, .string f, .int .i64 pa, .string rootB, .int .i64 0] 45
        have hbd : Below w5.heap.size w5 (w5.alloc (.cells #[.string rootB, .string f, .int .i64 pa, .string rootB, .int .i64 0] 45)).drew := (lay (Below.refl _ _) _).drew
        have c2 : (w5.alloc (.cells #[.string rootB, .string f, .int .i64 pa, .string rootB, .int .i64 0] 45)).cell? ⟨gs, 1, none⟩ = some (.slice yb j cb) := (HX6.out.st.rest.blk.below hbd).cell 1
        have hto6 := own_past hto hbd
        have HBD : Hid (Below w5.heap.size w5 (w5.alloc (.cells #[.string rootB, .string f, .int .i64 pa, .string rootB, .int .i64 0] 45)).drew) := hbd
        unfold rootB at hXd c2 hto6
        clear hto hbd HX5
        refine wp_region_held_drew (S := fun u => Blk u kY #[.string pn, .int .i64 pa] 60) (by kernel_rfl) (HK5.out.below (Below.refl _ _).drew) (fun hHeld => ?_)
        refine wpAnyH_take (i := 0) (v := .pointer (some ⟨gs, 0, none⟩)) rfl (by kernel_rfl) (by kernel_rfl) (by kernel_rfl) (fun _ _ _ h => h) (Or.inl ⟨by rfl, ?_⟩) hHeld ?_
        · intro u hu
          go_simp
        simp only [Act.put, List.getElem_toArray, List.getElem_cons_zero, List.setIfInBounds_toArray, List.set_cons_zero, List.set_cons_succ]
        refine wpAnyH_take (i := 1) (v := .pointer (some ⟨gs, 0, none⟩)) rfl (by kernel_rfl) (by kernel_rfl) (by kernel_rfl) (fun _ _ _ h => h) (Or.inl ⟨by rfl, ?_⟩) hHeld ?_
        · intro u hu
          go_simp
        simp only [Act.put, List.getElem_toArray, List.getElem_cons_succ, List.getElem_cons_zero, List.setIfInBounds_toArray, List.set_cons_zero, List.set_cons_succ]
        refine wpAnyH_take (i := 2) (v := .pointer (some ⟨gs, 0, none⟩)) rfl (by kernel_rfl) (by kernel_rfl) (by kernel_rfl) (fun _ _ _ h => h) (Or.inl ⟨by rfl, ?_⟩) hHeld ?_
        · intro u hu
          go_simp
        simp only [Act.put, List.getElem_toArray, List.getElem_cons_succ, List.getElem_cons_zero, List.setIfInBounds_toArray, List.set_cons_zero, List.set_cons_succ]
        refine wpAnyH_take (i := 3) (v := .pointer (some ⟨gs, 1, none⟩)) rfl (by kernel_rfl) (by kernel_rfl) (by kernel_rfl) (fun _ _ _ h => h) (Or.inl ⟨by rfl, ?_⟩) hHeld ?_
        · intro u hu
          go_simp
        simp only [Act.put, List.getElem_toArray, List.getElem_cons_succ, List.getElem_cons_zero, List.setIfInBounds_toArray, List.set_cons_zero, List.set_cons_succ]
        refine wpAnyH_take (i := 5) (v := .string f) rfl (by kernel_rfl) (by kernel_rfl) (by kernel_rfl) (fun _ _ _ h => h) (Or.inl ⟨by rfl, ?_⟩) hHeld ?_
        · intro u hu
          go_simp
        simp only [Act.put, List.getElem_toArray, List.getElem_cons_succ, List.getElem_cons_zero, List.setIfInBounds_toArray, List.set_cons_zero, List.set_cons_succ]
        refine wpAnyH_take (i := 6) (v := .pointer (some ⟨kY, 1, none⟩)) rfl (by kernel_rfl) (by kernel_rfl) (by kernel_rfl) (fun _ _ _ h => h) (Or.inl ⟨by rfl, ?_⟩) hHeld ?_
        · intro u hu
          go_simp
        simp only [Act.put, List.getElem_toArray, List.getElem_cons_succ, List.getElem_cons_zero, List.setIfInBounds_toArray, List.set_cons_zero, List.set_cons_succ]
        refine wpAnyH_take (i := 7) (v := .int .i64 pa) rfl (by kernel_rfl) (by kernel_rfl) (by kernel_rfl) (fun _ _ _ h => h) (Or.inl ⟨by rfl, ?_⟩) hHeld ?_
        · intro u hu
          have a0 := hu.cell 1; simp only [List.getElem?_toArray, List.getElem?_cons_succ, List.getElem?_cons_zero] at a0; clear hu
          go_simp
        simp only [Act.put, List.getElem_toArray, List.getElem_cons_succ, List.getElem_cons_zero, List.setIfInBounds_toArray, List.set_cons_zero, List.set_cons_succ]
        refine wpAnyH_take (i := 8) (v := .agg #[.string ⟨#[0]⟩, .string f, .int .i64 pa, .string ⟨#[0]⟩, .int .i64 0]) rfl (by kernel_rfl) (by kernel_rfl) (by kernel_rfl) (fun _ _ _ h => h) (Or.inl ⟨by rfl, ?_⟩) hHeld ?_
        · intro u hu
          go_simp
        simp only [Act.put, List.getElem_toArray, List.getElem_cons_succ, List.getElem_cons_zero, List.setIfInBounds_toArray, List.set_cons_zero, List.set_cons_succ]
        refine wpAnyH_ready (rs := [4, 9]) (by kernel_rfl) (by simp) ?_
        refine AllReadyH.cons rfl (fun K hK => ?_) (AllReadyH.cons rfl (fun K hK => ?_) AllReadyH.nil)
        · skip
          go_simp
          refine hK.out _ _ hHeld (fun hHeld => ?_)
          clear hK K
          refine wpAnyH_ready (rs := [9]) (by kernel_rfl) (by simp) ?_
          refine AllReadyH.cons rfl (fun K hK => ?_) AllReadyH.nil
          go_simp
          refine hK.out _ _ (hHeld.alloc _) (fun hHeld => ?_)
          clear hK K
          refine wpAnyH_ready (rs := [10]) (by kernel_rfl) (by simp) ?_
          refine AllReadyH.cons rfl (fun K hK => ?_) AllReadyH.nil
          refine step_appG _ rfl (.tmp 53) (.tmp 58) 31 45 iB _ 5 64 Try.underlying31 hiB hzB0 hzB1 hzB2 rfl (by decide) rfl 0 _ j _ rfl hto6 (.slice (some ⟨w5.heap.size, 0, none⟩) 1 1) 1 [.string ⟨#[0]⟩, .string f, .int .i64 pa, .string ⟨#[0]⟩, .int .i64 0] rfl (Row.of_blk hXd rfl 1 1) rfl (by simp [Value.oneCell']) (by omega) (by unfold maxLen; omega) (Nat.zero_le _) ?_
          intro v7 w7 h1 h3 h4
          have hblk7 := ((HX6.out.st.rest.blk).below HBD.out).grown h3 (fun e => absurd (own_tag hto6 e.symm (HX6.out.st.rest.blk.below HBD.out)) (by decide))
          have q6 : w7.cell? ⟨gs, 1, none⟩ = some (.slice yb j cb) := hblk7.cell 1
          have q7 : w7.frozen? ⟨gs, 1, none⟩ = false := hblk7.frozen 1
          have hH7 := hHeld.grown h3 (fun e => absurd (own_tag hto6 e.symm hHeld) (by decide))
          have hne7 : kY ≠ gs := fun e => by subst e; exact absurd (blk_tag hH7 hblk7) (by decide)
          obtain ⟨y7, c7, rfl⟩ := row_shape h1
          have HA9 : Hid (NX w (w7.setCell ⟨gs, 1, none⟩ (.slice y7 (j + 1) c7)) gs hv5 (.slice y7 (j + 1) c7) b (hostsN (hs.take (j + 1))) (bindsN (hs.take (j + 1)))) := by
            have hst := st_hint HX6.out.st HBD.out (x := hintB ⟨pn, pa⟩) (v' := .slice y7 (j + 1) c7) (w2 := w7) (by rw [HLB.out]; unfold bV hintB; rw [← HF.out]; exact h1) h3 (fun k hk => (h4 k hk).imp id (fun e => Nat.le_trans HBD.out.size e)) (by rw [HLB.out]; omega) (⟨show rootB.size ≤ 255 by decide, by show (fdB pn).size ≤ 255; rw [← HF.out]; exact HF5.out, show rootB.size ≤ 255 by decide⟩)
            rw [bindsN_take (by have := HN.out; omega), ← HQ.out]
            exact HX6.out.turn hst.1 hst.2.1 hst.2.2
          clear h1 h3 h4 hblk7 hto6
          refine hK.out _ _ hH7 (fun hHeld => ?_)
          clear hK K
          simp only [Act.put, List.getElem_toArray, List.getElem_cons_succ, List.getElem_cons_zero, List.setIfInBounds_toArray, List.set_cons_zero, List.set_cons_succ]
          refine wpAnyH_take (i := 11) (v := .pointer (some ⟨gs, 0, none⟩)) rfl (by kernel_rfl) (by kernel_rfl) (by kernel_rfl) (fun _ _ _ h => h) (Or.inl ⟨by rfl, ?_⟩) hHeld ?_
          · intro u hu
            go_simp
          simp only [Act.put, List.getElem_toArray, List.getElem_cons_succ, List.getElem_cons_zero, List.setIfInBounds_toArray, List.set_cons_zero, List.set_cons_succ]
          refine wpAnyH_take (i := 12) (v := .pointer (some ⟨gs, 1, none⟩)) rfl (by kernel_rfl) (by kernel_rfl) (by kernel_rfl) (fun _ _ _ h => h) (Or.inl ⟨by rfl, ?_⟩) hHeld ?_
          · intro u hu
            go_simp
          simp only [Act.put, List.getElem_toArray, List.getElem_cons_succ, List.getElem_cons_zero, List.setIfInBounds_toArray, List.set_cons_zero, List.set_cons_succ]
          refine wpAnyH_ready (rs := [13]) (by kernel_rfl) (by simp) ?_
          refine AllReadyH.cons rfl (fun K hK => ?_) AllReadyH.nil
          go_simp
          refine hK.out _ _ (hH7.other hne7 _ _) (fun hHeld => ?_)
          clear hK K
          refine wpAnyH_done (by kernel_rfl) ?_ _
          go_wp2
          go_roundw
          case rel => exact ⟨j + 1, _, _, by omega, by go_num, HA9⟩
          case measure => simp [intOf]; omega
        · skip
          go_simp
          refine hK.out _ _ (hHeld.alloc _) (fun hHeld => ?_)
          clear hK K
          refine wpAnyH_ready (rs := [4]) (by kernel_rfl) (by simp) ?_
          refine AllReadyH.cons rfl (fun K hK => ?_) AllReadyH.nil
          go_simp
          refine hK.out _ _ hHeld (fun hHeld => ?_)
          clear hK K
          refine wpAnyH_ready (rs := [10]) (by kernel_rfl) (by simp) ?_
          refine AllReadyH.cons rfl (fun K hK => ?_) AllReadyH.nil
          refine step_appG _ rfl (.tmp 53) (.tmp 58) 31 45 iB _ 5 64 Try.underlying31 hiB hzB0 hzB1 hzB2 rfl (by decide) rfl 0 _ j _ rfl hto6 (.slice (some ⟨w5.heap.size, 0, none⟩) 1 1) 1 [.string ⟨#[0]⟩, .string f, .int .i64 pa, .string ⟨#[0]⟩, .int .i64 0] rfl (Row.of_blk hXd rfl 1 1) rfl (by simp [Value.oneCell']) (by omega) (by unfold maxLen; omega) (Nat.zero_le _) ?_
          intro v7 w7 h1 h3 h4
          have hblk7 := ((HX6.out.st.rest.blk).below HBD.out).grown h3 (fun e => absurd (own_tag hto6 e.symm (HX6.out.st.rest.blk.below HBD.out)) (by decide))
          have q6 : w7.cell? ⟨gs, 1, none⟩ = some (.slice yb j cb) := hblk7.cell 1
          have q7 : w7.frozen? ⟨gs, 1, none⟩ = false := hblk7.frozen 1
          have hH7 := hHeld.grown h3 (fun e => absurd (own_tag hto6 e.symm hHeld) (by decide))
          have hne7 : kY ≠ gs := fun e => by subst e; exact absurd (blk_tag hH7 hblk7) (by decide)
          obtain ⟨y7, c7, rfl⟩ := row_shape h1
          have HA9 : Hid (NX w (w7.setCell ⟨gs, 1, none⟩ (.slice y7 (j + 1) c7)) gs hv5 (.slice y7 (j + 1) c7) b (hostsN (hs.take (j + 1))) (bindsN (hs.take (j + 1)))) := by
            have hst := st_hint HX6.out.st HBD.out (x := hintB ⟨pn, pa⟩) (v' := .slice y7 (j + 1) c7) (w2 := w7) (by rw [HLB.out]; unfold bV hintB; rw [← HF.out]; exact h1) h3 (fun k hk => (h4 k hk).imp id (fun e => Nat.le_trans HBD.out.size e)) (by rw [HLB.out]; omega) (⟨show rootB.size ≤ 255 by decide, by show (fdB pn).size ≤ 255; rw [← HF.out]; exact HF5.out, show rootB.size ≤ 255 by decide⟩)
            rw [bindsN_take (by have := HN.out; omega), ← HQ.out]
            exact HX6.out.turn hst.1 hst.2.1 hst.2.2
          clear h1 h3 h4 hblk7 hto6
          refine hK.out _ _ hH7 (fun hHeld => ?_)
          clear hK K
          simp only [Act.put, List.getElem_toArray, List.getElem_cons_succ, List.getElem_cons_zero, List.setIfInBounds_toArray, List.set_cons_zero, List.set_cons_succ]
          refine wpAnyH_take (i := 11) (v := .pointer (some ⟨gs, 0, none⟩)) rfl (by kernel_rfl) (by kernel_rfl) (by kernel_rfl) (fun _ _ _ h => h) (Or.inl ⟨by rfl, ?_⟩) hHeld ?_
          · intro u hu
            go_simp
          simp only [Act.put, List.getElem_toArray, List.getElem_cons_succ, List.getElem_cons_zero, List.setIfInBounds_toArray, List.set_cons_zero, List.set_cons_succ]
          refine wpAnyH_take (i := 12) (v := .pointer (some ⟨gs, 1, none⟩)) rfl (by kernel_rfl) (by kernel_rfl) (by kernel_rfl) (fun _ _ _ h => h) (Or.inl ⟨by rfl, ?_⟩) hHeld ?_
          · intro u hu
            go_simp
          simp only [Act.put, List.getElem_toArray, List.getElem_cons_succ, List.getElem_cons_zero, List.setIfInBounds_toArray, List.set_cons_zero, List.set_cons_succ]
          refine wpAnyH_ready (rs := [13]) (by kernel_rfl) (by simp) ?_
          refine AllReadyH.cons rfl (fun K hK => ?_) AllReadyH.nil
          go_simp
          refine hK.out _ _ (hH7.other hne7 _ _) (fun hHeld => ?_)
          clear hK K
          refine wpAnyH_done (by kernel_rfl) ?_ _
          go_wp2
          go_roundw
          case rel => exact ⟨j + 1, _, _, by omega, by go_num, HA9⟩
          case measure => simp [intOf]; omega
    · have hjn' : decide (j < N) = false := by simpa using hjn
      have hjN : j = N := by omega
      have HE : Hid (NX w wr gs hv bv b (hostsN hs) (bindsN hs)) := by
        have := HX.out
        rw [show hs.take j = hs by rw [hjN, HN.out, List.take_length]] at this
        exact this
      clear HX
      go_wp2
      go_ret2
      exact ⟨_, _, _, _, rfl, HE.out⟩

end Cu
end Go.Proofs.Ytnjgdfmldjgloaa
