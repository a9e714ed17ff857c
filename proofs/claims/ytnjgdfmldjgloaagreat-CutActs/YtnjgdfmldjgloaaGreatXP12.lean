/- Put of a Cuts. -/
import Derived.Test.YtnjgdfmldjgloaaGreatXP11
namespace Go.Proofs.YtnjgdfmldjgloaaGreat
open Go.RowKit
open Pl
namespace Cu

/-- A row outlasts what turns maps alone. -/
theorem row_maps {S : Nat → Prop} {w w' : World} {v : Value} {n : Nat} {xs : List Value} (h : Row w v n xs) (ht : Turn S w w') (hs : ∀ k, S k → ∃ es clock, w.heap[k]? = some (.map es clock)) : Row w' v n xs := by
  rcases h with h | ⟨g, o, p, cap, hv, hp, hc⟩
  · exact .inl h
  · refine .inr ⟨g, o, p, cap, hv, hp, fun j u hu => ?_⟩
    have h0 := hc j u hu
    have hlt := World.block_lt_of_cell? _ _ h0
    have hns : ¬ S g := fun e => by
      obtain ⟨es, clock, hb⟩ := hs g e
      simp [World.cell?, hb] at h0
    rw [World.cell?_of_block (w := w) (ht.block g hlt hns)]
    exact h0
theorem DIn.maps {S : Nat → Prop} {w w' : World} {d : Dg} {hv gv : Value} (h : DIn w d hv gv) (ht : Turn S w w') (hs : ∀ k, S k → ∃ es clock, w.heap[k]? = some (.map es clock)) : DIn w' d hv gv := ⟨row_maps h.hr ht hs, h.hc, row_maps h.gr ht hs, h.hl, h.ll, h.cs, h.hss, h.gss⟩
theorem MapAt.is_map {w : World} {mb : Option Nat} {L : List Pr} (h : MapAt w mb L) : ∀ k, mb = some k → ∃ es clock, w.heap[k]? = some (.map es clock) := by
  intro k e
  rcases h with ⟨e', _⟩ | ⟨b, e', hh⟩
  · rw [e'] at e; cases e
  · rw [e'] at e; cases e
    exact hh.blk

/-- Cuts, plainly. -/
def fstC (L : List Pr) : List Ct := L.map Prod.fst
def keepC (n : ByteArray) (now : Int) (c : Ct) : Bool := !decide (c.n = n) && decide (now < c.u)
def enC (c : Ct) : En := ⟨c.n, 0, 0, [], 0, c.u⟩
def minCt (F : List Ct) : Nat := minP (F.map enC)
def cutC (F : List Ct) : List Ct := if 128 ≤ F.length then F.eraseIdx (minCt F) else F
def putC (F : List Ct) (d : Dg) (fr : ByteArray) (now : Int) : List Ct := if mayD d fr now then cutC (F.filter (keepC (fdB d.c) now)) ++ [newCt d fr now] else F
def errC (d : Dg) (fr : ByteArray) (now : Int) : Int := if mayD d fr now then 0 else 1500
theorem fstC_len (L : List Pr) : (fstC L).length = L.length := by unfold fstC; simp
theorem fstC_app (L M : List Pr) : fstC (L ++ M) = fstC L ++ fstC M := by unfold fstC; simp
theorem fstC_filter (n : ByteArray) (now : Int) (L : List Pr) : fstC (L.filter (keepB n now)) = (fstC L).filter (keepC n now) := by
  unfold fstC
  rw [List.filter_map]
  rfl
theorem fstC_erase (L : List Pr) (i : Nat) : fstC (L.eraseIdx i) = (fstC L).eraseIdx i := by
  unfold fstC
  induction L generalizing i with
  | nil => rfl
  | cons a L ih =>
    cases i with
    | zero => rfl
    | succ i => simp only [List.eraseIdx_cons_succ, List.map_cons, ih]
theorem minC_fst (L : List Pr) : minC L = minCt (fstC L) := by
  unfold minC minCt fstC
  rw [List.map_map]
  rfl
def cutP2 (L : List Pr) : List Pr := if 128 ≤ L.length then L.eraseIdx (minC L) else L
theorem fstC_cut (L : List Pr) : fstC (cutP2 L) = cutC (fstC L) := by
  unfold cutP2 cutC
  rw [fstC_len]
  split
  · rw [fstC_erase, minC_fst]
  · rfl
theorem cut_sub (L : List Pr) : (cutP2 L).Sublist L := by
  unfold cutP2
  split
  · exact List.eraseIdx_sublist _ _
  · exact List.Sublist.refl _
theorem cut_len {L : List Pr} (h : L.length ≤ 128) : (cutP2 L).length + 1 ≤ 128 := by
  unfold cutP2
  split
  · rename_i h2
    rw [List.length_eraseIdx, if_pos (minC_lt (by omega))]
    omega
  · omega

/-- What a Cuts has in memory, but its hints' rows and its own block. -/
def own (o : OB) (L : List Pr) (k : Nat) : Prop := o.mb = some k ∨ ∃ p ∈ L, wfoot p.2 k

set_option maxRecDepth 20000 in
set_option maxHeartbeats 4000000 in
theorem put_any {w : World} {o : OB} {b0 : Nat} {Hs : List ByteArray} {Hb : List Bn} {L : List Pr} (h : St w o Hs Hb L) (hmb : o.mb = some b0) {d : Dg} {hv gv : Value} (hd : DIn w d hv gv) (fr : ByteArray) (now : Int) (hf : fr.size ≤ maxLen) :
    Calls Tryz.prog 13 #[.pointer (some ⟨o.gs, 0, none⟩), .agg (dV d hv gv), .string fr, .int .i64 now] w fun e w' => e = .returned (.int .i64 (errC d fr now)) ∧
      ∃ L', St w' o Hs Hb L' ∧ fstC L' = putC (fstC L) d fr now ∧ Turn (fun k => o.mb = some k) w w' ∧ (∀ k, ofoot o L' k → ofoot o L k ∨ w.heap.size ≤ k) := by
  have HST : Hid (St w o Hs Hb L) := h
  have HIN : Hid (DIn w d hv gv) := hd
  have HMB : Hid (o.mb = some b0) := hmb
  have hob := obj_some o.gs
  have hb0 : Below w.heap.size w (w.alloc (.cells (dV d hv gv) 39)) := lay (Below.refl _ _) _
  cases hm : mayD d fr now with
  | false =>
    have HE : Hid (1500 = errC d fr now) := by unfold Hid errC; rw [hm]; rfl
    have HP : Hid (fstC L = putC (fstC L) d fr now) := by unfold Hid putC; rw [hm]; rfl
    have hiw := isWrong_any (hd.below hb0) fr now hf false hm
    have HB0 : Hid (Below w.heap.size w (w.alloc (.cells (dV d hv gv) 39))) := hb0
    obtain ⟨xh, ch, hhv, _⟩ := hd.hc
    obtain ⟨xg, cg, hgv, _⟩ := hd.gr.src
    subst hhv hgv
    unfold dV at hiw HB0 ⊢
    clear h hd hmb hm hb0
    go_enter Tryz.func13, Tryz.ntmps13
    go_wp2_with (go_at_call 41; go_must (refine hiw.mono ?_); rintro e w1 ⟨rfl, b1⟩)
    go_ret
    exact ⟨ret_int HE.out, L, HST.out.below (next HB0.out b1), HP.out, Turn.of_below (next HB0.out b1), fun k hk => .inl hk⟩
  | true =>
    obtain ⟨m1, m2, m3, m4, m5⟩ := mayD_parts hm
    obtain ⟨hfn, hcn⟩ := tell_parts m1
    have hok : (fdB d.c).size ≤ maxLen := fd_size hd.cs
    have HE : Hid (0 = errC d fr now) := by unfold Hid errC; rw [hm]; rfl
    have HP : Hid (∀ L' : List Pr, fstC L' = cutC ((fstC L).filter (keepC (fdB d.c) now)) ++ [newCt d fr now] → fstC L' = putC (fstC L) d fr now) := fun L' e => by unfold putC; rw [hm]; exact e
    have hiw := isWrong_any (hd.below hb0) fr now hf true hm
    have HNC : Hid (∀ U, DIn U d hv gv → Calls Tryz.prog 46 #[.agg (dV d hv gv), .string fr, .int .i64 now] U fun e w' => ∃ b, e = .returned (.pointer (some ⟨b.g, 0, none⟩)) ∧ NG U w' b (newCt d fr now)) := fun U hU => newCut_any hU fr now hm
    have HB0 : Hid (Below w.heap.size w (w.alloc (.cells (dV d hv gv) 39))) := hb0
    have HK0 : Hid (Blk (w.alloc (.cells (dV d hv gv) 39)) w.heap.size (dV d hv gv) 39) := Blk.new w _ _
    have HLT : Hid (∀ k, ofoot o L k → k < w.heap.size) := h.lt
    have hcs := hd.cs
    obtain ⟨xh, ch, hhv, _⟩ := hd.hc
    obtain ⟨xg, cg, hgv, _⟩ := hd.gr.src
    obtain ⟨f, hfd⟩ : ∃ f, f = fdB d.c := ⟨_, rfl⟩
    have hkey := fun u => keyOf_any d.c u hcs
    rw [← hfd] at hok hkey HP
    have HN : Hid ((newCt d fr now).n = f) := hfd.symm
    obtain ⟨nc, hnc⟩ : ∃ nc, nc = newCt d fr now := ⟨_, rfl⟩
    rw [← hnc] at HN HNC HP
    -- what is known when the sweep is done
    have HSW : Hid (∀ U : World, Below w.heap.size w U → ∀ V : World, St V o Hs Hb (L.filter (keepB f now)) → Turn (fun k => o.mb = some k) U V → DIn V d hv gv) := fun U hU V hV hT => (HIN.out.below hU).maps hT (fun k e => (HST.out.below hU).at'.is_map k e)
    have HDR : Hid (∀ V : World, DIn V d hv gv → St V o Hs Hb (L.filter (keepB f now)) → ∀ V' : World, Turn (fun k => o.mb = some k) V V' → DIn V' d hv gv) := fun V hV hS V' hT => hV.maps hT (fun k e => hS.at'.is_map k e)
    have HNO : Hid (∀ q ∈ L.filter (keepB f now), sameP f q = false) := fun q hq => by
      have := (List.mem_filter.1 hq).2
      unfold keepB at this
      simp only [Bool.and_eq_true, Bool.not_eq_true'] at this
      exact this.1
    have HFL : Hid (∀ pb : CB, fstC (cutP2 (L.filter (keepB f now)) ++ [(nc, pb)]) = cutC ((fstC L).filter (keepC f now)) ++ [nc]) := fun pb => by rw [fstC_app, fstC_cut, fstC_filter]; rfl
    have HSB : Hid (∀ q ∈ L.filter (keepB f now), q ∈ L) := fun q hq => (List.mem_filter.1 hq).1
    -- the end
    have HEND : Hid (∀ V : World, St V o Hs Hb (cutP2 (L.filter (keepB f now))) → Turn (fun k => o.mb = some k) w V → DIn V d hv gv → Calls Tryz.prog 46 #[.agg (dV d hv gv), .string fr, .int .i64 now] V fun e w' => ∃ pb : CB, e = .returned (.pointer (some ⟨pb.g, 0, none⟩)) ∧ Below V.heap.size V w' ∧ Calls Tryz.prog 45 #[.pointer (some ⟨o.gs, 0, none⟩), .agg #[.string f], .pointer (some ⟨pb.g, 0, none⟩)] w' fun e w9 => e = .returned (.tuple #[]) ∧ Turn (fun k => o.mb = some k) w' w9 ∧ ∃ L', St w9 o Hs Hb L' ∧ fstC L' = putC (fstC L) d fr now ∧ Turn (fun k => o.mb = some k) w w9 ∧ (∀ k, ofoot o L' k → ofoot o L k ∨ w.heap.size ≤ k)) := fun V hS hT hD => by
      refine (HNC.out V hD).mono ?_
      rintro e w' ⟨pb, rfl, NGx⟩
      refine ⟨pb, rfl, NGx.bel, ?_⟩
      have hho := hold_any (hS.below NGx.bel) HMB.out (nc, pb) NGx.cut (fun q hq => by show sameP nc.n q = false; rw [HN.out]; exact HNO.out q ((cut_sub _).subset hq)) (fun q hq k hk hk2 => by
        have h1 := hS.lt k (.inl (.inr (.inr (.inr ⟨q, hq, .inl hk⟩))))
        have h2 := NGx.new k (.inl hk2)
        omega) (cut_len (Nat.le_trans (List.length_filter_le _ _) HST.out.len))
      rw [show (nc, pb).1.n = f from HN.out] at hho
      refine hho.mono ?_
      rintro e w9 ⟨rfl, s9, t9⟩
      refine ⟨rfl, t9, _, s9, HP.out _ (HFL.out pb), (hT.past NGx.bel).same t9, fun k hk => ?_⟩
      have hz := hT.size
      rcases hk with (e | e | e | ⟨p, hp, e⟩) | e
      · exact .inl (.inl (.inl e))
      · exact .inl (.inl (.inr (.inl e)))
      · exact .inl (.inl (.inr (.inr (.inl e))))
      · rcases List.mem_append.1 hp with hp | hp
        · exact .inl (.inl (.inr (.inr (.inr ⟨p, HSB.out p ((cut_sub _).subset hp), e⟩))))
        · simp at hp; subst hp
          have := NGx.new k e
          exact .inr (by omega)
      · exact .inl (.inr e)
    subst hhv hgv
    obtain ⟨cn, hs, gl, ttl⟩ := d
    unfold dV at *
    simp only at hiw HB0 HK0 HEND hkey hcs ⊢
    clear h hd hmb hm hb0 m1 m2 m3 m4 m5 hfn hcn hfd hnc HNC HP HN HFL HNO
    have c0 := HK0.out.cell 0
    simp only [List.getElem?_toArray, List.getElem?_cons_zero] at c0
    obtain ⟨m, hm⟩ : ∃ m, m = (L.filter (keepB f now)).length := ⟨_, rfl⟩
    have HM : Hid (m = (L.filter (keepB f now)).length) := hm
    clear hm
    by_cases hmle : 128 ≤ m
    · have hmi : (128 : Int) ≤ (m : Int) := by omega
      have HCUT : Hid (cutP2 (L.filter (keepB f now)) = (L.filter (keepB f now)).eraseIdx (minC (L.filter (keepB f now)))) := by unfold Hid cutP2; rw [if_pos (by rw [← HM.out]; exact hmle)]
      have HM0 : Hid (0 < (L.filter (keepB f now)).length) := by unfold Hid; rw [← HM.out]; omega
      clear hmle
      go_enter Tryz.func13, Tryz.ntmps13
      go_wp2_with (first
        | (go_at_call 41; go_must (refine hiw.mono ?_); rintro e w1 ⟨rfl, b1⟩; have H1 := next HB0.out b1; have k1 := HK0.out.below b1; have x0 := k1.cell 0; simp only [List.getElem?_toArray, List.getElem?_cons_zero] at x0)
        | (go_at_call 42; go_must (refine (hkey _).mono ?_); rintro e w2 ⟨rfl, b2⟩; have H2 := lay (next H1 b2) (.cells #[.string f] 76); have k2 := (k1.below b2).alloc (.cells #[.string f] 76); have q2 := Blk.new w2 #[.string f] 76; have s2 := HST.out.below H2; have z0 := q2.cell 0; simp only [List.getElem?_toArray, List.getElem?_cons_zero] at z0; clear x0 c0)
        | (go_at_call 43; go_must (refine (sweep_any s2 f now).mono ?_); rintro e w5 ⟨rfl, s5, t5⟩; clear z0; have T5 : Turn (fun k => o.mb = some k) w w5 := (Turn.of_below H2).same t5; have d5 := HSW.out _ H2 _ s5 t5; have k5 := t5.blk k2 (fun e => by have := HLT.out _ (.inr e); omega); have q5 := t5.blk q2 (fun e => by have := HLT.out _ (.inr e); have := H2.size; have h3 := H1.size; have := b2.size; omega); have ml : ∀ ty, (Builtin.len_ #[59] ty #[.map o.mb]).run Tryz.prog w5 = .ok (.int .i64 ((L.filter (keepB f now)).length : Nat)) w5 := fun ty => s5.at'.len ty; rw [← HM.out] at ml; have m1 : w5.cell? ⟨o.gs, 2, none⟩ = some (.map o.mb) := s5.rest.blk.cell 2)
        | (go_at_call 44; go_must (refine (dropOne_any s5 HM0.out).mono ?_); rintro e w6 ⟨rfl, s6, t6'⟩))
      obtain ⟨kq, hkq', hkq⟩ : ∃ kq, kq = w2.heap.size ∧ w.heap.size ≤ kq := ⟨_, rfl, by have h3 := H1.size; have := b2.size; omega⟩
      rw [← hkq'] at q5 ⊢
      have t6 := T5.same t6'
      have d6 := HDR.out _ d5 s5 _ t6'
      have k6 := t6'.blk k5 (fun e => by have := HLT.out _ (.inr e); omega)
      have q6 := t6'.blk q5 (fun e => by have := HLT.out _ (.inr e); omega)
      rw [← HCUT.out] at s6
      clear m1 ml s5 t5 d5 T5 t6' k5 q5 k2 q2 s2 H2 k1 H1 b1 b2 hkq' hiw hkey
      have HB6 : Hid (St w6 o Hs Hb (cutP2 (L.filter (keepB f now))) ∧ Turn (fun k => o.mb = some k) w w6 ∧ DIn w6 ⟨cn, hs, gl, ttl⟩ (.slice xh hs.length ch) (.slice xg gl.length cg)) := ⟨s6, t6, d6⟩
      have hx := HEND.out w6.drew (HB6.out.1.below (Below.refl _ _).drew) (HB6.out.2.1.past (Below.refl _ _).drew) (HB6.out.2.2.below (Below.refl _ _).drew)
      have BX2 : Hid ((∀ k, o.mb = some k → k < w.heap.size) ∧ w.heap.size ≤ kq) := ⟨fun k e => HLT.out k (.inr e), hkq⟩
      clear s6 t6 d6
      refine wp_region_held_drew (S := fun u => Blk u w.heap.size #[.string cn, .slice xh hs.length ch, .slice xg gl.length cg, .int .i64 ttl] 39 ∧ Blk u kq #[.string f] 76) (by kernel_rfl) ⟨k6.below (Below.refl _ _).drew, q6.below (Below.refl _ _).drew⟩ (fun hHeld => ?_)
      clear k6 q6
      refine wpAnyH_take (i := 0) (v := .pointer (some ⟨o.gs, 0, none⟩)) rfl (by kernel_rfl) (by kernel_rfl) (by kernel_rfl) (fun _ _ _ h => h) (Or.inl ⟨by rfl, ?_⟩) hHeld ?_
      · intro u hu
        go_simp
      simp only [Act.put, List.getElem_toArray, List.getElem_cons_zero, List.setIfInBounds_toArray, List.set_cons_zero, List.set_cons_succ]
      refine wpAnyH_take (i := 1) (v := .agg #[.string f]) rfl (by kernel_rfl) (by kernel_rfl) (by kernel_rfl) (fun _ _ _ h => h) (Or.inl ⟨by rfl, ?_⟩) hHeld ?_
      · intro u hu
        have a0 := hu.2.cell 0; simp only [List.getElem?_toArray, List.getElem?_cons_zero] at a0; clear hu
        go_simp
      simp only [Act.put, List.getElem_toArray, List.getElem_cons_succ, List.getElem_cons_zero, List.setIfInBounds_toArray, List.set_cons_zero, List.set_cons_succ]
      refine wpAnyH_take (i := 2) (v := .agg #[.string cn, .slice xh hs.length ch, .slice xg gl.length cg, .int .i64 ttl]) rfl (by kernel_rfl) (by kernel_rfl) (by kernel_rfl) (fun _ _ _ h => h) (Or.inl ⟨by rfl, ?_⟩) hHeld ?_
      · intro u hu
        have a0 := hu.1.cell 0; have a1 := hu.1.cell 1; have a2 := hu.1.cell 2; have a3 := hu.1.cell 3; simp only [List.getElem?_toArray, List.getElem?_cons_succ, List.getElem?_cons_zero] at a0 a1 a2 a3; clear hu
        go_simp
      simp only [Act.put, List.getElem_toArray, List.getElem_cons_succ, List.getElem_cons_zero, List.setIfInBounds_toArray, List.set_cons_zero, List.set_cons_succ]
      refine wpAnyH_take (i := 3) (v := .string fr) rfl (by kernel_rfl) (by kernel_rfl) (by kernel_rfl) (fun _ _ _ h => h) (Or.inl ⟨by rfl, ?_⟩) hHeld ?_
      · intro u hu
        go_simp
      simp only [Act.put, List.getElem_toArray, List.getElem_cons_succ, List.getElem_cons_zero, List.setIfInBounds_toArray, List.set_cons_zero, List.set_cons_succ]
      refine wpAnyH_take (i := 4) (v := .int .i64 now) rfl (by kernel_rfl) (by kernel_rfl) (by kernel_rfl) (fun _ _ _ h => h) (Or.inl ⟨by rfl, ?_⟩) hHeld ?_
      · intro u hu
        go_simp
      simp only [Act.put, List.getElem_toArray, List.getElem_cons_succ, List.getElem_cons_zero, List.setIfInBounds_toArray, List.set_cons_zero, List.set_cons_succ]
      refine wpAnyH_ready (rs := [5]) (by kernel_rfl) (by simp) ?_
      refine AllReadyH.cons rfl (fun K hK => ?_) AllReadyH.nil
      go_simp
      refine hx.mono ?_
      rintro e w7 ⟨pb, rfl, b7, hh7⟩
      replace hHeld : Blk w7 w.heap.size #[.string cn, .slice xh hs.length ch, .slice xg gl.length cg, .int .i64 ttl] 39 ∧ Blk w7 kq #[.string f] 76 := ⟨hHeld.1.below b7, hHeld.2.below b7⟩
      clear b7
      go_simp
      refine hK.out _ _ hHeld (fun hHeld => ?_)
      clear hK K
      refine wpAnyH_ready (rs := [6]) (by kernel_rfl) (by simp) ?_
      refine AllReadyH.cons rfl (fun K hK => ?_) AllReadyH.nil
      go_simp
      refine hh7.mono ?_
      rintro e w9 ⟨rfl, tx9, L9, s9, f9, t9, ft9⟩
      have HF9 : Hid (∃ L', St w9 o Hs Hb L' ∧ fstC L' = putC (fstC L) ⟨cn, hs, gl, ttl⟩ fr now ∧ Turn (fun k => o.mb = some k) w w9 ∧ (∀ k, ofoot o L' k → ofoot o L k ∨ w.heap.size ≤ k)) := ⟨L9, s9, f9, t9, ft9⟩
      clear s9 f9 t9 ft9
      go_simp
      refine hK.out _ _ ⟨tx9.blk hHeld.1 (fun e => by have := BX2.out.1 _ e; omega), tx9.blk hHeld.2 (fun e => by have := BX2.out.1 _ e; have := BX2.out.2; omega)⟩ (fun hHeld => ?_)
      clear hK K tx9
      refine wpAnyH_done (by kernel_rfl) ?_ _
      go_wp2
      go_ret
      exact ⟨ret_int HE.out, HF9.out⟩
    · have hmi : decide ((128 : Int) ≤ (m : Int)) = false := by simp; omega
      have HCUT : Hid (cutP2 (L.filter (keepB f now)) = L.filter (keepB f now)) := by unfold Hid cutP2; rw [if_neg (by rw [← HM.out]; exact hmle)]
      clear hmle
      go_enter Tryz.func13, Tryz.ntmps13
      go_wp2_with (first
        | (go_at_call 41; go_must (refine hiw.mono ?_); rintro e w1 ⟨rfl, b1⟩; have H1 := next HB0.out b1; have k1 := HK0.out.below b1; have x0 := k1.cell 0; simp only [List.getElem?_toArray, List.getElem?_cons_zero] at x0)
        | (go_at_call 42; go_must (refine (hkey _).mono ?_); rintro e w2 ⟨rfl, b2⟩; have H2 := lay (next H1 b2) (.cells #[.string f] 76); have k2 := (k1.below b2).alloc (.cells #[.string f] 76); have q2 := Blk.new w2 #[.string f] 76; have s2 := HST.out.below H2; have z0 := q2.cell 0; simp only [List.getElem?_toArray, List.getElem?_cons_zero] at z0; clear x0 c0)
        | (go_at_call 43; go_must (refine (sweep_any s2 f now).mono ?_); rintro e w6 ⟨rfl, s6, t6'⟩; clear z0; have t6 : Turn (fun k => o.mb = some k) w w6 := (Turn.of_below H2).same t6'; have d6 := HSW.out _ H2 _ s6 t6'; have k6 := t6'.blk k2 (fun e => by have := HLT.out _ (.inr e); omega); have q6 := t6'.blk q2 (fun e => by have := HLT.out _ (.inr e); have := H2.size; have h3 := H1.size; have := b2.size; omega); have ml : ∀ ty, (Builtin.len_ #[59] ty #[.map o.mb]).run Tryz.prog w6 = .ok (.int .i64 ((L.filter (keepB f now)).length : Nat)) w6 := fun ty => s6.at'.len ty; rw [← HM.out] at ml; have m1 : w6.cell? ⟨o.gs, 2, none⟩ = some (.map o.mb) := s6.rest.blk.cell 2))
      obtain ⟨kq, hkq', hkq⟩ : ∃ kq, kq = w2.heap.size ∧ w.heap.size ≤ kq := ⟨_, rfl, by have h3 := H1.size; have := b2.size; omega⟩
      rw [← hkq'] at q6 ⊢
      rw [← HCUT.out] at s6
      clear m1 ml t6' k2 q2 s2 H2 k1 H1 b1 b2 hkq' hiw hkey
      have HB6 : Hid (St w6 o Hs Hb (cutP2 (L.filter (keepB f now))) ∧ Turn (fun k => o.mb = some k) w w6 ∧ DIn w6 ⟨cn, hs, gl, ttl⟩ (.slice xh hs.length ch) (.slice xg gl.length cg)) := ⟨s6, t6, d6⟩
      have hx := HEND.out w6.drew (HB6.out.1.below (Below.refl _ _).drew) (HB6.out.2.1.past (Below.refl _ _).drew) (HB6.out.2.2.below (Below.refl _ _).drew)
      have BX2 : Hid ((∀ k, o.mb = some k → k < w.heap.size) ∧ w.heap.size ≤ kq) := ⟨fun k e => HLT.out k (.inr e), hkq⟩
      clear s6 t6 d6
      refine wp_region_held_drew (S := fun u => Blk u w.heap.size #[.string cn, .slice xh hs.length ch, .slice xg gl.length cg, .int .i64 ttl] 39 ∧ Blk u kq #[.string f] 76) (by kernel_rfl) ⟨k6.below (Below.refl _ _).drew, q6.below (Below.refl _ _).drew⟩ (fun hHeld => ?_)
      clear k6 q6
      refine wpAnyH_take (i := 0) (v := .pointer (some ⟨o.gs, 0, none⟩)) rfl (by kernel_rfl) (by kernel_rfl) (by kernel_rfl) (fun _ _ _ h => h) (Or.inl ⟨by rfl, ?_⟩) hHeld ?_
      · intro u hu
        go_simp
      simp only [Act.put, List.getElem_toArray, List.getElem_cons_zero, List.setIfInBounds_toArray, List.set_cons_zero, List.set_cons_succ]
      refine wpAnyH_take (i := 1) (v := .agg #[.string f]) rfl (by kernel_rfl) (by kernel_rfl) (by kernel_rfl) (fun _ _ _ h => h) (Or.inl ⟨by rfl, ?_⟩) hHeld ?_
      · intro u hu
        have a0 := hu.2.cell 0; simp only [List.getElem?_toArray, List.getElem?_cons_zero] at a0; clear hu
        go_simp
      simp only [Act.put, List.getElem_toArray, List.getElem_cons_succ, List.getElem_cons_zero, List.setIfInBounds_toArray, List.set_cons_zero, List.set_cons_succ]
      refine wpAnyH_take (i := 2) (v := .agg #[.string cn, .slice xh hs.length ch, .slice xg gl.length cg, .int .i64 ttl]) rfl (by kernel_rfl) (by kernel_rfl) (by kernel_rfl) (fun _ _ _ h => h) (Or.inl ⟨by rfl, ?_⟩) hHeld ?_
      · intro u hu
        have a0 := hu.1.cell 0; have a1 := hu.1.cell 1; have a2 := hu.1.cell 2; have a3 := hu.1.cell 3; simp only [List.getElem?_toArray, List.getElem?_cons_succ, List.getElem?_cons_zero] at a0 a1 a2 a3; clear hu
        go_simp
      simp only [Act.put, List.getElem_toArray, List.getElem_cons_succ, List.getElem_cons_zero, List.setIfInBounds_toArray, List.set_cons_zero, List.set_cons_succ]
      refine wpAnyH_take (i := 3) (v := .string fr) rfl (by kernel_rfl) (by kernel_rfl) (by kernel_rfl) (fun _ _ _ h => h) (Or.inl ⟨by rfl, ?_⟩) hHeld ?_
      · intro u hu
        go_simp
      simp only [Act.put, List.getElem_toArray, List.getElem_cons_succ, List.getElem_cons_zero, List.setIfInBounds_toArray, List.set_cons_zero, List.set_cons_succ]
      refine wpAnyH_take (i := 4) (v := .int .i64 now) rfl (by kernel_rfl) (by kernel_rfl) (by kernel_rfl) (fun _ _ _ h => h) (Or.inl ⟨by rfl, ?_⟩) hHeld ?_
      · intro u hu
        go_simp
      simp only [Act.put, List.getElem_toArray, List.getElem_cons_succ, List.getElem_cons_zero, List.setIfInBounds_toArray, List.set_cons_zero, List.set_cons_succ]
      refine wpAnyH_ready (rs := [5]) (by kernel_rfl) (by simp) ?_
      refine AllReadyH.cons rfl (fun K hK => ?_) AllReadyH.nil
      go_simp
      refine hx.mono ?_
      rintro e w7 ⟨pb, rfl, b7, hh7⟩
      replace hHeld : Blk w7 w.heap.size #[.string cn, .slice xh hs.length ch, .slice xg gl.length cg, .int .i64 ttl] 39 ∧ Blk w7 kq #[.string f] 76 := ⟨hHeld.1.below b7, hHeld.2.below b7⟩
      clear b7
      go_simp
      refine hK.out _ _ hHeld (fun hHeld => ?_)
      clear hK K
      refine wpAnyH_ready (rs := [6]) (by kernel_rfl) (by simp) ?_
      refine AllReadyH.cons rfl (fun K hK => ?_) AllReadyH.nil
      go_simp
      refine hh7.mono ?_
      rintro e w9 ⟨rfl, tx9, L9, s9, f9, t9, ft9⟩
      have HF9 : Hid (∃ L', St w9 o Hs Hb L' ∧ fstC L' = putC (fstC L) ⟨cn, hs, gl, ttl⟩ fr now ∧ Turn (fun k => o.mb = some k) w w9 ∧ (∀ k, ofoot o L' k → ofoot o L k ∨ w.heap.size ≤ k)) := ⟨L9, s9, f9, t9, ft9⟩
      clear s9 f9 t9 ft9
      go_simp
      refine hK.out _ _ ⟨tx9.blk hHeld.1 (fun e => by have := BX2.out.1 _ e; omega), tx9.blk hHeld.2 (fun e => by have := BX2.out.1 _ e; have := BX2.out.2; omega)⟩ (fun hHeld => ?_)
      clear hK K tx9
      refine wpAnyH_done (by kernel_rfl) ?_ _
      go_wp2
      go_ret
      exact ⟨ret_int HE.out, HF9.out⟩

end Cu
end Go.Proofs.YtnjgdfmldjgloaaGreat

/- Learn of a Cuts. -/
namespace Go.Proofs.YtnjgdfmldjgloaaGreat
open Go.RowKit
open Pl
namespace Cu

/-- What a cut is when an address was told to all. -/
def lrn1 (f : ByteArray) (a u now : Int) (c : Ct) : Ct := if decide (0 ≤ posL c.hs f) && decide (now < c.u) then { c with bs := learnB c.bs ⟨(posL c.hs f).toNat, a, u⟩ now } else c
def lrnC (F : List Ct) (h : ByteArray) (a u now : Int) : List Ct := if wideB a && decide (now < u) then F.map (lrn1 (fdB h) a u now) else F
theorem lrn1_n (f : ByteArray) (a u now : Int) (c : Ct) : (lrn1 f a u now c).n = c.n := by unfold lrn1; split <;> rfl

theorem ranges_turn {S : Nat → Prop} {w w' : World} {b r n cnt : Nat} {D : DataW Nat} {left : Lit → Bool} (h : w.ranges Tryz.prog 76 rE b r n D left cnt) (ht : Turn S w w') (hb : ¬ S b) (hr : ¬ S r) : w'.ranges Tryz.prog 76 rE b r n D left cnt := by
  have h1 := h.owns.lt
  have h2 := h.lt
  obtain ⟨es, clock, since, seen, c0, hb', F, hs, hD, hr', rest⟩ := h
  exact ⟨es, clock, since, seen, c0, (ht.block b h1 hb).trans hb', F, hs, hD, (ht.block r h2 hr).trans hr', rest⟩
theorem ranges_iter {w : World} {b r n cnt : Nat} {D : DataW Nat} {left : Lit → Bool} (h : w.ranges Tryz.prog 76 rE b r n D left cnt) : ∀ C t, ¬ Blk w r C t := by
  obtain ⟨es, clock, since, seen, c0, _, _, _, _, hr, _⟩ := h
  intro C t hb
  unfold Blk at hb
  rw [hb] at hr; cases hr
theorem ranges_map {w : World} {b r n cnt : Nat} {D : DataW Nat} {left : Lit → Bool} (h : w.ranges Tryz.prog 76 rE b r n D left cnt) : ∀ C t, ¬ Blk w b C t := by
  obtain ⟨es, clock, since, seen, c0, hb', _⟩ := h
  intro C t hb
  unfold Blk at hb
  rw [hb] at hb'; cases hb'

/-- One cut in another's place. -/
def swapP (p p' q : Pr) : Pr := if sameP p.1.n q then p' else q
theorem swap_n {L : List Pr} (hg : Good L) {p p' : Pr} (hp : p ∈ L) (hn : p'.1.n = p.1.n) (hgg : p'.2.g = p.2.g) {q : Pr} (hq : q ∈ L) : (swapP p p' q).1.n = q.1.n ∧ (swapP p p' q).2.g = q.2.g := by
  unfold swapP
  cases h : sameP p.1.n q with
  | false => exact ⟨rfl, rfl⟩
  | true =>
    obtain rfl := hg.one hp hq h
    exact ⟨hn, hgg⟩
theorem swap_ents {L : List Pr} (hg : Good L) {p p' : Pr} (hp : p ∈ L) (hn : p'.1.n = p.1.n) (hgg : p'.2.g = p.2.g) : ents (L.map (swapP p p')) = ents L := by
  unfold ents
  rw [List.map_map]
  refine List.map_congr_left (fun q hq => ?_)
  obtain ⟨h1, h2⟩ := swap_n hg hp hn hgg hq
  show (kyL (swapP p p' q).1.n, DataW.held (swapP p p' q).2.g) = _
  rw [h1, h2]
theorem swap_fst {L : List Pr} (p p' : Pr) : fstC (L.map (swapP p p')) = (fstC L).map fun c => if c.n = p.1.n then p'.1 else c := by
  unfold fstC
  rw [List.map_map, List.map_map]
  refine List.map_congr_left (fun q _ => ?_)
  show (if sameP p.1.n q then p' else q).1 = if q.1.n = p.1.n then p'.1 else q.1
  by_cases e : q.1.n = p.1.n
  · rw [if_pos e, if_pos (sameP_iff.2 e)]
  · rw [if_neg e, if_neg (fun h => e (sameP_iff.1 h))]
theorem swap_good {L : List Pr} (hg : Good L) {p p' : Pr} (hp : p ∈ L) (hn : p'.1.n = p.1.n) (hgg : p'.2.g = p.2.g) (hok : OkC p'.1) : Good (L.map (swapP p p')) := by
  refine ⟨fun q hq => ?_, ?_⟩
  · obtain ⟨x, hx, rfl⟩ := List.mem_map.1 hq
    unfold swapP
    split
    · exact hok
    · exact hg.ok x hx
  · unfold DisP
    rw [List.pairwise_map]
    refine hg.dis.imp_of_mem (fun {x y} hx hy h => ?_)
    rw [(swap_n hg hp hn hgg hx).1]
    unfold sameP at h ⊢
    rw [(swap_n hg hp hn hgg hy).1]
    exact h
theorem sep_at {L : List Pr} (hs : L.Pairwise (fun p q => ∀ k, wfoot p.2 k → ¬ wfoot q.2 k)) {i j : Nat} (hi : i < L.length) (hj : j < L.length) (hij : i ≠ j) : ∀ k, wfoot L[i].2 k → ¬ wfoot L[j].2 k := by
  rcases Nat.lt_or_gt_of_ne hij with h | h
  · exact List.pairwise_iff_getElem.1 hs i j hi hj h
  · exact fun k h1 h2 => List.pairwise_iff_getElem.1 hs j i hj hi h k h2 h1
theorem sep_of {L : List Pr} (hs : L.Pairwise (fun p q => ∀ k, wfoot p.2 k → ¬ wfoot q.2 k)) {p q : Pr} (hp : p ∈ L) (hq : q ∈ L) (hne : sameP p.1.n q = false) : ∀ k, wfoot p.2 k → ¬ wfoot q.2 k := by
  obtain ⟨i, hi, rfl⟩ := List.getElem_of_mem hp
  obtain ⟨j, hj, rfl⟩ := List.getElem_of_mem hq
  refine sep_at hs hi hj (fun e => ?_)
  subst e
  rw [sameP_iff.2 rfl] at hne; cases hne

/-- A range over the map of a Cuts whose cuts are written. -/
structure LX (w0 w : World) (o : OB) (b r : Nat) (Hs : List ByteArray) (Hb : List Bn) (L0 L : List Pr) (left : Lit → Bool) (cnt : Nat) : Prop where
  rg : ∃ k D, w.ranges Tryz.prog 76 rE b r k D left cnt ∧ MapOf D L
  good : Good L
  rest : RestAt w o Hs Hb L
  mb : o.mb = some b
  turn : Turn (ofoot o L0) w0 w
  new : ∀ k, ofoot o L k → ofoot o L0 k ∨ w0.heap.size ≤ k
  rnew : w0.heap.size ≤ r
theorem LX.moved {w0 w w' : World} {o : OB} {b r : Nat} {Hs : List ByteArray} {Hb : List Bn} {L0 L : List Pr} {left left' : Lit → Bool} {cnt cnt' k : Nat} {D : DataW Nat} (h : LX w0 w o b r Hs Hb L0 L left cnt) (hr : w'.ranges Tryz.prog 76 rE b r k D left' cnt') (hm : MapOf D L) (hg : w.grownBy w' (some r)) : LX w0 w' o b r Hs Hb L0 L left' cnt' := by
  have ht : Turn (fun k => k = r) w w' := Turn.of_grown hg (fun k e => (Option.some.inj e).symm)
  have hn := h.rnew
  obtain ⟨k1, D1, hr1, _⟩ := h.rg
  exact ⟨⟨k, D, hr, hm⟩, h.good, h.rest.turn ht (fun k hk e => by
    obtain ⟨C, t, hc⟩ := h.rest.cells hk
    subst e
    exact ranges_iter hr1 C t hc), h.mb, h.turn.trans ht (fun i hi => .inr (by omega)), h.new, h.rnew⟩
theorem LX.learned {w0 w w' : World} {o : OB} {b r : Nat} {Hs : List ByteArray} {Hb : List Bn} {L0 L : List Pr} {left : Lit → Bool} {cnt : Nat} (h : LX w0 w o b r Hs Hb L0 L left cnt) {p : Pr} (hp : p ∈ L) {c' : Ct} {b' : CB} (hc : CutAt w' b' c') (hn : c'.n = p.1.n) (hgg : b'.g = p.2.g) (hhv : b'.hv = p.2.hv) (ht : Turn (wfoot p.2) w w') (hw : ∀ k, wfoot b' k → wfoot p.2 k ∨ w.heap.size ≤ k) :
    LX w0 w' o b r Hs Hb L0 (L.map (swapP p (c', b'))) left cnt := by
  obtain ⟨k1, D1, hr1, es, rfl, hpm⟩ := h.rg
  have hraw := (h.rest.cuts p hp).raw
  have hfoot : ∀ k, foot b' k → foot p.2 k ∨ w.heap.size ≤ k := fun k hk => by
    rcases hk with hk | hk
    · exact (hw k hk).imp .inl id
    · rw [hhv] at hk; exact .inl (.inr hk)
  have hz := h.turn.size
  refine ⟨⟨k1, _, ranges_turn hr1 ht (fun e => ?_) (fun e => ?_), es, rfl, ?_⟩, swap_good h.good hp hn hgg hc.ok, ⟨?_, ?_, ?_, ?_, ?_⟩, h.mb, ?_, ?_, h.rnew⟩
  · obtain ⟨C, t, hcc⟩ := foot_cells hraw (.inl e)
    exact ranges_map hr1 C t hcc
  · obtain ⟨C, t, hcc⟩ := foot_cells hraw (.inl e)
    exact ranges_iter hr1 C t hcc
  · rw [swap_ents h.good hp hn hgg]; exact hpm
  · exact ht.blk h.rest.blk (hraw.apart h.rest.blk (by decide) (by decide) (by decide) (by decide))
  · exact ht.row h.rest.hosts (hraw.row_apart h.rest.hosts (by decide) (by decide) (by decide) (by decide))
  · exact ht.row h.rest.hints (hraw.row_apart h.rest.hints (by decide) (by decide) (by decide) (by decide))
  · intro q hq
    obtain ⟨x, hx, rfl⟩ := List.mem_map.1 hq
    unfold swapP
    cases hs : sameP p.1.n x with
    | true => exact hc
    | false =>
      have hx2 := h.rest.cuts x hx
      refine ⟨hx2.raw.turn ht (fun k hk hk2 => ?_), hx2.ok⟩
      rcases hk with hk | hk
      · exact sep_of h.rest.sep hp hx hs k hk2 hk
      · exact hraw.row_apart hx2.raw.hosts (by decide) (by decide) (by decide) (by decide) k hk hk2
  · rw [List.pairwise_map]
    refine (h.rest.sep.and h.good.dis).imp_of_mem (fun {x y} hx hy hxy => ?_)
    have hlt : ∀ q ∈ L, ∀ k, wfoot q.2 k → k < w.heap.size := fun q hq k hk => (h.rest.cuts q hq).raw.lt k (.inl hk)
    intro k
    unfold swapP
    cases h1 : sameP p.1.n x with
    | true =>
      obtain rfl := h.good.one hp hx h1
      rw [hxy.2]
      intro hk hk2
      rcases hw k hk with e | e
      · exact hxy.1 k e hk2
      · have := hlt y hy k hk2; omega
    | false =>
      cases h2 : sameP p.1.n y with
      | true =>
        obtain rfl := h.good.one hp hy h2
        intro hk hk2
        rcases hw k hk2 with e | e
        · exact hxy.1 k hk e
        · have := hlt x hx k hk; omega
      | false => exact hxy.1 k
  · refine h.turn.trans ht (fun i hi => ?_)
    exact h.new i (.inl (.inr (.inr (.inr ⟨p, hp, .inl hi⟩))))
  · rintro k ((e | e | e | ⟨q, hq, e⟩) | e)
    · exact h.new k (.inl (.inl e))
    · exact h.new k (.inl (.inr (.inl e)))
    · exact h.new k (.inl (.inr (.inr (.inl e))))
    · obtain ⟨x, hx, rfl⟩ := List.mem_map.1 hq
      unfold swapP at e
      split at e
      · rcases hfoot k e with e | e
        · exact h.new k (.inl (.inr (.inr (.inr ⟨p, hp, e⟩))))
        · exact .inr (by omega)
      · exact h.new k (.inl (.inr (.inr (.inr ⟨x, hx, e⟩))))
    · exact h.new k (.inr e)
/-- How the cuts are while some are still to come. -/
def LIs (L0 L : List Pr) (g : Ct → Ct) (left : Lit → Bool) : Prop := fstC L = (fstC L0).map fun c => if left (kyL c.n) then c else g c
theorem lis_old {L0 L : List Pr} {g : Ct → Ct} {left : Lit → Bool} (h : LIs L0 L g left) (hn : ∀ c, (g c).n = c.n) {p : Pr} (hp : p ∈ L) (hl : left (kyL p.1.n) = true) : p.1 ∈ fstC L0 := by
  have h1 : p.1 ∈ fstC L := List.mem_map.2 ⟨p, hp, rfl⟩
  rw [h] at h1
  obtain ⟨c, hc, e⟩ := List.mem_map.1 h1
  have hcn : c.n = p.1.n := by
    rw [← e]; split
    · rfl
    · exact (hn c).symm
  rw [hcn, if_pos hl] at e
  rw [← e]; exact hc
theorem lis_step {L0 L : List Pr} {g : Ct → Ct} {left : Lit → Bool} (h : LIs L0 L g left) (hn : ∀ c, (g c).n = c.n) (hg : Good L) {p : Pr} (hp : p ∈ L) (hl : left (kyL p.1.n) = true) {L' : List Pr} (hL : fstC L' = (fstC L).map fun c => if c.n = p.1.n then g p.1 else c) : LIs L0 L' g (nextL left p) := by
  unfold LIs
  rw [hL, h, List.map_map]
  refine List.map_congr_left (fun c hc => ?_)
  have hx : (if left (kyL c.n) then c else g c) ∈ fstC L := by rw [h]; exact List.mem_map.2 ⟨c, hc, rfl⟩
  have hxn : (if left (kyL c.n) then c else g c).n = c.n := by
    split
    · rfl
    · exact hn c
  obtain ⟨q, hq, hqx⟩ := List.mem_map.1 hx
  have hnx : nextL left p (kyL c.n) = (left (kyL c.n) && !decide (c.n = p.1.n)) := by
    have := nextL_at hg hp hq left
    rw [hqx, hxn] at this
    rw [this]
    unfold sameP
    rw [hqx, hxn]
  show (if (if left (kyL c.n) then c else g c).n = p.1.n then g p.1 else (if left (kyL c.n) then c else g c)) = _
  rw [hxn, hnx]
  by_cases e : c.n = p.1.n
  · rw [if_pos e]
    have hl2 : left (kyL c.n) = true := by rw [e]; exact hl
    rw [hl2] at hqx
    rw [decide_eq_true e]
    simp only [Bool.not_true, Bool.and_false, Bool.false_eq_true, if_false]
    rw [if_pos rfl] at hqx
    have : p = q := hg.one hp hq (by rw [sameP_iff, hqx]; exact e)
    rw [this, hqx]
  · rw [if_neg e, decide_eq_false e]
    simp
theorem lis_stay {L : List Pr} (hg : Good L) {p : Pr} (hp : p ∈ L) {c' : Ct} (hc : c' = p.1) : fstC L = (fstC L).map fun c => if c.n = p.1.n then c' else c := by
  subst hc
  unfold fstC
  rw [List.map_map]
  refine List.map_congr_left (fun q hq => ?_)
  show q.1 = if q.1.n = p.1.n then p.1 else q.1
  split
  · rename_i e
    rw [hg.one hp hq (sameP_iff.2 e)]
  · rfl
theorem lis_start {D : DataW Nat} {L : List Pr} (hm : MapOf D L) (hg : Good L) (g : Ct → Ct) : LIs L L g (Maps.has D) := by
  unfold LIs fstC
  rw [List.map_map]
  refine List.map_congr_left (fun q hq => ?_)
  show q.1 = if Maps.has D (kyL q.1.n) = true then q.1 else g q.1
  rw [mapOf_has hm hg (max_ok (hg.ok q hq).nm), List.any_eq_true.2 ⟨q, hq, sameP_iff.2 rfl⟩, if_pos rfl]
theorem lis_end {L0 L : List Pr} {g : Ct → Ct} {left : Lit → Bool} (h : LIs L0 L g left) (hl : ∀ kl, left kl = false) : fstC L = (fstC L0).map g := by
  rw [h]
  refine List.map_congr_left (fun c _ => ?_)
  rw [hl]; rfl

theorem lrn_skip {f : ByteArray} {a u now : Int} {c : Ct} (h : 0 ≤ posL c.hs f → ¬ now < c.u) : lrn1 f a u now c = c := by
  unfold lrn1
  by_cases h1 : 0 ≤ posL c.hs f
  · rw [decide_eq_false (h h1), Bool.and_false]; rfl
  · rw [decide_eq_false h1]; rfl
theorem lrn_take {f : ByteArray} {a u now : Int} {c : Ct} {k : Nat} (h : posL c.hs f = (k : Int)) (hu : now < c.u) : lrn1 f a u now c = { c with bs := learnB c.bs ⟨k, a, u⟩ now } := by
  unfold lrn1
  rw [decide_eq_true hu, h, decide_eq_true (show (0 : Int) ≤ k by omega)]
  rfl
set_option maxRecDepth 20000 in
set_option maxHeartbeats 4000000 in
theorem learnAll_any {w : World} {o : OB} {b : Nat} {Hs : List ByteArray} {Hb : List Bn} {L : List Pr} (h : St w o Hs Hb L) (hmb : o.mb = some b) (host : ByteArray) (a u now : Int) (hh : host.size ≤ maxLen) (hlen : ∀ p ∈ L, p.1.bs.length < 256) :
    Calls Tryz.prog 19 #[.pointer (some ⟨o.gs, 0, none⟩), .string host, .int .i64 a, .int .i64 u, .int .i64 now] w fun e w' => e = .returned (.tuple #[]) ∧
      ∃ L', St w' o Hs Hb L' ∧ fstC L' = lrnC (fstC L) host a u now ∧ Turn (ofoot o L) w w' ∧ (∀ k, ofoot o L' k → ofoot o L k ∨ w.heap.size ≤ k) := by
  have HOK : Hid (Hs.length ≤ 8 ∧ (∀ h ∈ Hs, h.size ≤ 255) ∧ Hb.length ≤ 8 ∧ ∀ b ∈ Hb, OkB b) := h.hok
  have hob := obj_some o.gs
  have hma := fun v => mayAddr_any a v
  have hil := fun v => isLive_any u now v
  obtain ⟨gs, hv, bv, mb⟩ := o
  simp only at hmb
  subst hmb
  simp only at h hob ⊢
  cases hw : wideB a with
  | false =>
    rw [hw] at hma
    have HR : Hid (∃ L', St w ⟨gs, hv, bv, some b⟩ Hs Hb L' ∧ fstC L' = lrnC (fstC L) host a u now ∧ Turn (ofoot ⟨gs, hv, bv, some b⟩ L) w w ∧ (∀ k, ofoot ⟨gs, hv, bv, some b⟩ L' k → ofoot ⟨gs, hv, bv, some b⟩ L k ∨ w.heap.size ≤ k)) := ⟨L, h, by unfold lrnC; rw [hw]; rfl, Turn.refl _ _, fun k hk => .inl hk⟩
    clear h hil hlen hw
    go_enter Tryz.func19, Tryz.ntmps19
    go_wp2_with (go_at_call 52; go_must (refine (hma _).mono ?_); rintro e w' ⟨rfl, hw⟩; obtain rfl := hw.symm)
    refine bodyPost_ret (results_none rfl _ _ _) rfl ?_
    exact ⟨rfl, HR.out⟩
  | true =>
    rw [hw] at hma
    cases hl : decide (now < u) with
    | false =>
      rw [hl] at hil
      have HR : Hid (∃ L', St w ⟨gs, hv, bv, some b⟩ Hs Hb L' ∧ fstC L' = lrnC (fstC L) host a u now ∧ Turn (ofoot ⟨gs, hv, bv, some b⟩ L) w w ∧ (∀ k, ofoot ⟨gs, hv, bv, some b⟩ L' k → ofoot ⟨gs, hv, bv, some b⟩ L k ∨ w.heap.size ≤ k)) := ⟨L, h, by unfold lrnC; rw [hw, hl]; rfl, Turn.refl _ _, fun k hk => .inl hk⟩
      clear h hlen hw hl
      go_enter Tryz.func19, Tryz.ntmps19
      go_wp2_with (first
        | (go_at_call 52; go_must (refine (hma _).mono ?_); rintro e w' ⟨rfl, hw⟩; obtain rfl := hw.symm)
        | (go_at_call 53; go_must (refine (hil _).mono ?_); rintro e w' ⟨rfl, hw⟩; obtain rfl := hw.symm))
      refine bodyPost_ret (results_none rfl _ _ _) rfl ?_
      exact ⟨rfl, HR.out⟩
    | true =>
      rw [hl] at hil
      obtain ⟨f, hf⟩ : ∃ f, f = fdB host := ⟨_, rfl⟩
      have hfo := fun v => fold_any host v hh
      rw [show (⟨(foldR host.data.toList).toArray⟩ : ByteArray) = f from hf.symm] at hfo
      have HL : Hid (∀ L' : List Pr, fstC L' = (fstC L).map (lrn1 f a u now) → fstC L' = lrnC (fstC L) host a u now) := fun L' e => by unfold lrnC; rw [hw, hl, ← hf]; exact e
      obtain ⟨hhold⟩ : Nonempty (Hold w b L) := by
        rcases h.at' with ⟨e, _⟩ | ⟨b', e, hh⟩
        · cases e
        · cases e; exact ⟨hh⟩
      obtain ⟨D, hown, hm⟩ := hhold.own
      have hg := hhold.good
      have HSZ : Hid (L.length ≤ 128) := h.len
      have HLN : Hid (∀ p ∈ L, p.1.bs.length < 256) := hlen
      have HOW : Hid (∀ w1, Below w.heap.size w w1 → w1.ownsMap Tryz.prog 76 rE b L.length D ∧ w1.cell? ⟨gs, 2, none⟩ = some (.map (some b))) := fun w1 hb1 => ⟨own_turn hown (Turn.of_below (S := fun _ => False) hb1) id, (h.below hb1).rest.blk.cell 2⟩
      have HST : Hid (∀ w1 w', Below w.heap.size w w1 → w'.ranges Tryz.prog 76 rE b w1.heap.size L.length D (Maps.has D) (Maps.size D) → w1.grownBy w' none → LX w w' ⟨gs, hv, bv, some b⟩ b w1.heap.size Hs Hb L L (Maps.has D) (Maps.size D) ∧ LIs L L (lrn1 f a u now) (Maps.has D)) := fun w1 w' hb1 hr hgr => by
        have hb2 : Below w.heap.size w w' := next hb1 (grown_below hgr)
        exact ⟨⟨⟨_, D, hr, hm⟩, hg, (h.below hb2).rest, rfl, Turn.of_below hb2, fun k hk => .inl hk, hb1.size⟩, lis_start hm hg _⟩
      clear h hhold hown hm hlen hg hw hl hf
      go_enter Tryz.func19, Tryz.ntmps19
      go_wp2_with (first
        | (go_at_call 52; go_must (refine (hma _).mono ?_); rintro e w' ⟨rfl, hw⟩; obtain rfl := hw.symm)
        | (go_at_call 53; go_must (refine (hil _).mono ?_); rintro e w' ⟨rfl, hw⟩; obtain rfl := hw.symm)
        | (go_at_call 32; go_must (refine (hfo _).mono ?_); rintro e w1 ⟨rfl, b1⟩; have HB1 : Hid (Below w.heap.size w w1) := b1; obtain ⟨hown1, c1⟩ := HOW.out w1 b1; clear b1)
        | (at_range; refine wpList_range_own _ rfl _ 59 rfl 76 80 keyE Tryz.underlying59 rE b L.length D rfl hown1 ?_; intro w2 hr1 hg1 hs1; have HS1 := HST.out w1 w2 HB1.out hr1 hg1; clear hr1 hg1 hs1 HST)
        | go_in)
      go_frame
      generalize w1.heap.size = r at HS1 ⊢
      have HS : Hid (∃ M, (LX w w2 ⟨gs, hv, bv, some b⟩ b r Hs Hb L M (Maps.has D) (Maps.size D) ∧ LIs L M (lrn1 f a u now) (Maps.has D))) := ⟨L, HS1⟩
      clear HS1 hown1 c1 HB1 HOW
      go_loopw [34] (fun _ wr => ∃ (left : Lit → Bool) (cnt : Nat), Hid (∃ M, (LX w wr ⟨gs, hv, bv, some b⟩ b r Hs Hb L M left cnt ∧ LIs L M (lrn1 f a u now) left))) (fun _ wr => wr.rangeLeft b r)
      case atStart => exact ⟨_, _, HS⟩
      case round =>
        clear HS
        obtain ⟨left, cnt, HR⟩ := hrel
        obtain ⟨M, HX, HI⟩ := HR.out
        obtain ⟨kk, D', hr', hm'⟩ := HX.rg
        have HXX : Hid (LX w wr ⟨gs, hv, bv, some b⟩ b r Hs Hb L M left cnt) := HX
        have HII : Hid (LIs L M (lrn1 f a u now) left) := HI
        have hgm := HX.good
        clear HR HX HI
        go_wp2_with (first
          | (at_next; go_must (refine wpList_next_e _ rfl (.tmp 33) rfl b r kk cnt D' left M rfl hr' hm' hgm ?_ ?_))
          | go_in)
        · intro _ hl0
          go_wp2
          go_end0
          have hend := lis_end HII.out hl0
          have hlenM : M.length ≤ 128 := by
            have := congrArg List.length hend
            rw [fstC_len, List.length_map, fstC_len] at this
            have := HSZ.out; omega
          obtain ⟨k9, D9, hr9, hm9⟩ := HXX.out.rg
          exact ⟨rfl, M, ⟨HXX.out.rest, .inr ⟨b, rfl, ⟨k9, D9, hr9.owns, hm9⟩, hgm⟩, hlenM, HOK.out⟩, HL.out M hend, HXX.out.turn, HXX.out.new⟩
        · intro pc pb w2 cnt2 hpm hlp hr2 hlt hg2 hsz2 hen
          have HM : Hid (LX w w2 ⟨gs, hv, bv, some b⟩ b r Hs Hb L M (nextL left (pc, pb)) cnt2) := HXX.out.moved hr2 hm' hg2
          have HLT : Hid (∀ c, wr.rangeLeft b r = c → c = cnt) := fun c hc => by rw [hr'.left_eq] at hc; exact hc.symm
          have HCU : Hid (CutAt w2 pb pc) := HM.out.rest.cuts _ hpm
          have HPM : Hid ((pc, pb) ∈ M) := hpm
          have HIS : Hid (∀ L' : List Pr, fstC L' = ((fstC M).map fun c => if c.n = pc.n then lrn1 f a u now pc else c) → LIs L L' (lrn1 f a u now) (nextL left (pc, pb))) := fun L' e => lis_step HII.out (lrn1_n f a u now) hgm hpm hlp e
          have HLB : Hid (pc.bs.length < 256) := by
            have h1 := lis_old HII.out (lrn1_n f a u now) hpm hlp
            obtain ⟨q, hq, e⟩ := List.mem_map.1 h1
            rw [show (pc, pb).1 = pc from rfl] at e
            have := HLN.out q hq
            rw [e] at this
            exact this
          have HSTAY : Hid ((pc.n = pc.n → lrn1 f a u now pc = pc) → LIs L M (lrn1 f a u now) (nextL left (pc, pb))) := fun e => HIS.out M (lis_stay hgm hpm (e rfl))
          clear hpm hlp hr2 hg2 hsz2 hr' hm' hgm HXX HII
          have e0 := HCU.out.raw.blk.cell 0
          have e2 := HCU.out.raw.blk.cell 2
          simp only [List.getElem?_toArray, List.getElem?_cons_succ, List.getElem?_cons_zero] at e0 e2
          obtain ⟨P, hP⟩ : ∃ P, posL pc.hs f = P := ⟨_, rfl⟩
          have hix := index_any pb.hv pc.hs f w2 (Row.of_own HCU.out.raw.hosts) (by have := HCU.out.ok.hlen; omega) P hP
          obtain ⟨yh, ch, hhv⟩ := row_shape HCU.out.raw.hosts
          have HHV : Hid (pb.hv = .slice yh pc.hs.length ch) := hhv
          rw [hhv] at hix e0
          have hpl := fun v => isLive_any pc.u now v
          have HPP : Hid (posL pc.hs f = P) := hP
          clear hP hhv
          unfold kyV at hen ⊢
          by_cases hP0 : 0 ≤ P
          · obtain ⟨k, rfl⟩ : ∃ k : Nat, P = k := ⟨P.toNat, by omega⟩
            cases hlv : decide (now < pc.u) with
            | false =>
              rw [hlv] at hpl
              have HN : Hid (LIs L M (lrn1 f a u now) (nextL left (pc, pb))) := HSTAY.out (fun _ => lrn_skip (fun _ => by simpa using hlv))
              clear HSTAY hlv
              go_wp2_with (first
                | (go_at_call 54; go_must (refine hix.mono ?_); rintro e w' ⟨rfl, hw⟩; obtain rfl := hw.symm)
                | (go_at_call 53; go_must (refine (hpl _).mono ?_); rintro e w' ⟨rfl, hw⟩; obtain rfl := hw.symm))
              obtain ⟨k5, D5, hr5, _⟩ := HM.out.rg
              go_roundw
              case rel => exact ⟨_, _, ⟨M, HM.out, HN.out⟩⟩
              case measure => rw [hr5.left_eq, HLT.out _ rfl]; omega
            | true =>
              rw [hlv] at hpl
              have hkl : k < pc.hs.length := by
                obtain ⟨k', hk', e, _⟩ := posL_lt (hs := pc.hs) (s := f) (by rw [HPP.out]; omega)
                rw [HPP.out] at e
                omega
              have hle := learn_any HCU.out ⟨k, a, u⟩ now hkl HLB.out
              have HTK : Hid (lrn1 f a u now pc = { pc with bs := learnB pc.bs ⟨k, a, u⟩ now }) := lrn_take HPP.out (by simpa using hlv)
              have HFIN : Hid (∀ (w9 : World) (b9 : CB), CutAt w9 b9 { pc with bs := learnB pc.bs ⟨k, a, u⟩ now } → b9.g = pb.g → b9.hv = pb.hv → Turn (wfoot pb) w2 w9 → (∀ k, wfoot b9 k → wfoot pb k ∨ w2.heap.size ≤ k) → ∃ M', LX w w9 ⟨gs, hv, bv, some b⟩ b r Hs Hb L M' (nextL left (pc, pb)) cnt2 ∧ LIs L M' (lrn1 f a u now) (nextL left (pc, pb))) := fun w9 b9 q1 q2 q3 q4 q5 =>
                ⟨_, HM.out.learned HPM.out q1 rfl q2 q3 q4 q5, HIS.out _ (by rw [swap_fst, HTK.out])⟩
              simp only at hle
              clear HSTAY hlv hkl
              go_wp2_with (first
                | (go_at_call 54; go_must (refine hix.mono ?_); rintro e w' ⟨rfl, hw⟩; obtain rfl := hw.symm)
                | (go_at_call 53; go_must (refine (hpl _).mono ?_); rintro e w' ⟨rfl, hw⟩; obtain rfl := hw.symm)
                | (go_at_call 55; go_must (refine hle.mono ?_); rintro e w9 ⟨rfl, b9, q1, q2, q3, q4, q5⟩; have HE9 : Hid (∃ M', LX w w9 ⟨gs, hv, bv, some b⟩ b r Hs Hb L M' (nextL left (pc, pb)) cnt2 ∧ LIs L M' (lrn1 f a u now) (nextL left (pc, pb))) := HFIN.out w9 b9 q1 q2 q3 q4 q5; clear q1 q2 q3 q4 q5 hle))
              obtain ⟨M9, hx9, hi9⟩ := HE9.out
              obtain ⟨k5, D5, hr5, _⟩ := hx9.rg
              clear hx9 hi9
              go_roundw
              case rel => exact ⟨_, _, HE9⟩
              case measure => rw [hr5.left_eq, HLT.out _ rfl]; omega
          · have hP0' : decide ((0 : Int) ≤ P) = false := by simpa using hP0
            have HN : Hid (LIs L M (lrn1 f a u now) (nextL left (pc, pb))) := HSTAY.out (fun _ => lrn_skip (fun hmem => by rw [HPP.out] at hmem; omega))
            clear HSTAY hP0
            go_wp2_with (go_at_call 54; go_must (refine hix.mono ?_); rintro e w' ⟨rfl, hw⟩; obtain rfl := hw.symm)
            obtain ⟨k5, D5, hr5, _⟩ := HM.out.rg
            go_roundw
            case rel => exact ⟨_, _, ⟨M, HM.out, HN.out⟩⟩
            case measure => rw [hr5.left_eq, HLT.out _ rfl]; omega

end Cu
end Go.Proofs.YtnjgdfmldjgloaaGreat
