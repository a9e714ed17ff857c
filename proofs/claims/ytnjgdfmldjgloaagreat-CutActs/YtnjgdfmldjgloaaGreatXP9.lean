/- What dropOne of a Cuts does: the least goes. -/
import Derived.Test.YtnjgdfmldjgloaaGreatXP8
import Derived.BigQuiet
import Derived.Carry
import Derived.Deep.QuietTactic
namespace Go.Proofs.YtnjgdfmldjgloaaGreat
open Go.RowKit
open Pl
namespace Cu

/-- A cut as an entry of a store's kind: its name and its end. -/
def enP (p : Pr) : En := ⟨p.1.n, 0, 0, [], 0, p.1.u⟩
def ltP (p q : Pr) : Bool := ltE (enP p) (enP q)
theorem cK_00 (a b : ByteArray) : cK a 0 b 0 = cmpN a.data.toList b.data.toList := by
  unfold cK
  split
  · rename_i h; rw [h]; exact sgn_self 0
  · rfl
theorem ltP_iff {p q : Pr} : ltP p q = true ↔ p.1.u < q.1.u ∨ p.1.u = q.1.u ∧ cmpN p.1.n.data.toList q.1.n.data.toList < 0 := by
  unfold ltP
  rw [ltE_iff]
  show p.1.u < q.1.u ∨ p.1.u = q.1.u ∧ cK p.1.n 0 q.1.n 0 < 0 ↔ _
  rw [cK_00]
theorem ok_en {p : Pr} (h : OkC p.1) : OkE (enP p) := ⟨h.nm, by simp [enP], by simp [enP]⟩
theorem same_en (n : ByteArray) (p : Pr) : sameK n 0 (enP p) = sameP n p := by unfold sameK sameP enP; simp
theorem ltP_trans {x y z : Pr} (h1 : ltP x y = true) (h2 : ltP y z = true) : ltP x z = true := ltE_trans h1 h2
theorem ltP_total {x y : Pr} (hx : OkC x.1) (hy : OkC y.1) (h : ltP x y = false) (hk : sameP x.1.n y = false) : ltP y x = true := ltE_total (ok_en hx) (ok_en hy) h (by rw [show (enP x).n = x.1.n from rfl, show (enP x).t = 0 from rfl, same_en]; exact hk)
theorem dis_en {L : List Pr} (h : DisP L) : Dis (L.map enP) := by
  unfold Dis
  rw [List.pairwise_map]
  exact h.imp (fun {a b} hab => by rw [show (enP a).n = a.1.n from rfl, show (enP a).t = 0 from rfl, same_en]; exact hab)
theorem all_en {L : List Pr} (h : ∀ p ∈ L, OkC p.1) : ∀ e ∈ L.map enP, OkE e := by
  intro e he
  obtain ⟨p, hp, rfl⟩ := List.mem_map.1 he
  exact ok_en (h p hp)
def minC (L : List Pr) : Nat := minP (L.map enP)
theorem minC_lt {L : List Pr} (h : 0 < L.length) : minC L < L.length := by have := minP_lt (L := L.map enP) (by simpa using h); simpa [minC] using this
theorem erase_P {L : List Pr} (hd : DisP L) {i : Nat} (hi : i < L.length) : L.filter (fun y => !sameP L[i].1.n y) = L.eraseIdx i := by
  induction L generalizing i with
  | nil => simp at hi
  | cons a L ih =>
    have hd2 := List.pairwise_cons.1 hd
    cases i with
    | zero =>
      have : sameP a.1.n a = true := sameP_iff.2 rfl
      simp only [List.getElem_cons_zero, List.filter_cons, this, List.eraseIdx_cons_zero]
      simp only [Bool.not_true, Bool.false_eq_true, if_false]
      exact List.filter_eq_self.2 (fun y hy => by rw [hd2.1 y hy]; rfl)
    | succ i =>
      simp only [List.getElem_cons_succ, List.filter_cons, List.eraseIdx_cons_succ]
      have hi' : i < L.length := by simp at hi; omega
      have : sameP L[i].1.n a = false := sameP_symm (hd2.1 _ (List.getElem_mem _))
      rw [this, Bool.not_false, if_pos rfl, ih hd2.2 hi']

/-- The least of those that have come. -/
def Least (L : List Pr) (left : Lit → Bool) (ln : ByteArray) : Prop :=
  (ln = ⟨#[]⟩ ∧ ∀ p ∈ L, left (kyL p.1.n) = true) ∨
  ∃ q ∈ L, q.1.n = ln ∧ left (kyL q.1.n) = false ∧ ∀ p ∈ L, left (kyL p.1.n) = false → sameP q.1.n p = false → ltP q p = true
theorem least_start {D : DataW Nat} {L : List Pr} (hm : MapOf D L) (hg : Good L) : Least L (Maps.has D) ⟨#[]⟩ :=
  .inl ⟨rfl, fun p hp => by rw [mapOf_has hm hg (max_ok (hg.ok p hp).nm)]; exact List.any_eq_true.2 ⟨p, hp, sameP_iff.2 rfl⟩⟩
theorem least_first {L : List Pr} (hg : Good L) {left : Lit → Bool} (h : ∀ p ∈ L, left (kyL p.1.n) = true) {p : Pr} (hp : p ∈ L) : Least L (nextL left p) p.1.n := by
  refine .inr ⟨p, hp, rfl, ?_, fun q hq hl hs => ?_⟩
  · rw [nextL_at hg hp hp, sameP_iff.2 rfl]; simp
  · rw [nextL_at hg hp hq, h q hq, hs] at hl; simp at hl
theorem least_take {L : List Pr} (hg : Good L) {left : Lit → Bool} {q p : Pr} (hq : q ∈ L) (h : ∀ p ∈ L, left (kyL p.1.n) = false → sameP q.1.n p = false → ltP q p = true) (hp : p ∈ L) (hlt : ltP p q = true) : Least L (nextL left p) p.1.n := by
  refine .inr ⟨p, hp, rfl, ?_, fun x hx hl hs => ?_⟩
  · rw [nextL_at hg hp hp, sameP_iff.2 rfl]; simp
  · rw [nextL_at hg hp hx, hs] at hl
    simp at hl
    cases hs2 : sameP q.1.n x with
    | true => rw [← hg.one hq hx hs2]; exact hlt
    | false => exact ltP_trans hlt (h x hx hl hs2)
theorem least_stay {L : List Pr} (hg : Good L) {left : Lit → Bool} {q p : Pr} (hq : q ∈ L) (hql : left (kyL q.1.n) = false) (h : ∀ p ∈ L, left (kyL p.1.n) = false → sameP q.1.n p = false → ltP q p = true) (hp : p ∈ L) (hlt : ltP p q = false) : Least L (nextL left p) q.1.n := by
  refine .inr ⟨q, hq, rfl, ?_, fun x hx hl hs => ?_⟩
  · rw [nextL_at hg hp hq, hql]; rfl
  · rw [nextL_at hg hp hx] at hl
    cases hl2 : left (kyL x.1.n) with
    | false => exact h x hx hl2 hs
    | true =>
      rw [hl2] at hl
      simp at hl
      obtain rfl := hg.one hp hx hl
      exact ltP_total (hg.ok p hp) (hg.ok q hq) hlt (sameP_symm hs)
theorem least_end {L : List Pr} (hg : Good L) {left : Lit → Bool} (hl : ∀ kl, left kl = false) {ln : ByteArray} (h : Least L left ln) (h0 : 0 < L.length) : ln.size ≤ maxLen ∧ L.filter (fun y => !sameP ln y) = L.eraseIdx (minC L) := by
  rcases h with ⟨_, h⟩ | ⟨q, hq, rfl, _, h⟩
  · have := h L[0] (List.getElem_mem _)
    rw [hl] at this; cases this
  · obtain ⟨i, hi, rfl⟩ := List.getElem_of_mem hq
    refine ⟨max_ok (hg.ok _ hq).nm, ?_⟩
    rw [erase_P hg.dis hi]
    congr 1
    refine minP_eq (dis_en hg.dis) (all_en hg.ok) (by simpa using hi) (fun j hj hne => ?_)
    have hj' : j < L.length := by simpa using hj
    simp only [List.getElem_map]
    exact h L[j] (List.getElem_mem _) (hl _) (hg.dis.at hi hj' (fun e => hne e.symm))
theorem atL_empty {L : List Pr} (hg : Good L) : atL L ⟨#[]⟩ = none := by
  cases h : atL L ⟨#[]⟩ with
  | none => rfl
  | some p =>
    obtain ⟨h1, h2⟩ := atL_some h
    have h4 := (hg.ok p h1).nm.nm
    rw [h2] at h4
    exact absurd h4 (by decide)

set_option maxRecDepth 20000 in
set_option maxHeartbeats 4000000 in
theorem dropOne_any {w : World} {o : OB} {Hs : List ByteArray} {Hb : List Bn} {L : List Pr} (h : St w o Hs Hb L) (h0 : 0 < L.length) :
    Calls Tryz.prog 44 #[.pointer (some ⟨o.gs, 0, none⟩)] w fun e w' => e = .returned (.tuple #[]) ∧ St w' o Hs Hb (L.eraseIdx (minC L)) ∧ Turn (fun k => o.mb = some k) w w' := by
  have hb1 : Below w.heap.size w (w.alloc (.cells #[.string ⟨#[]⟩] 76)) := lay (Below.refl _ _) _
  have hs1 := h.below hb1
  have HOK : Hid (Hs.length ≤ 8 ∧ (∀ h ∈ Hs, h.size ≤ 255) ∧ Hb.length ≤ 8 ∧ ∀ b ∈ Hb, OkB b) := h.hok
  obtain ⟨gs, hv, bv, mb⟩ := o
  simp only at h hs1 ⊢
  obtain ⟨b, rfl⟩ : ∃ b, mb = some b := by
    rcases h.at' with ⟨_, e⟩ | ⟨b, e, _⟩
    · rw [e] at h0; simp at h0
    · exact ⟨b, e⟩
  have c1 : (w.alloc (.cells #[.string ⟨#[]⟩] 76)).cell? ⟨gs, 2, none⟩ = some (.map (some b)) := hs1.rest.blk.cell 2
  obtain ⟨hhold⟩ : Nonempty (Hold (w.alloc (.cells #[.string ⟨#[]⟩] 76)) b L) := by
    rcases hs1.at' with ⟨e, _⟩ | ⟨b', e, hh⟩
    · cases e
    · cases e; exact ⟨hh⟩
  obtain ⟨D, hown, hm⟩ := hhold.own
  have hg := hhold.good
  have h3 := h.len
  have HST : Hid (∀ w', w'.ranges Tryz.prog 76 rE b (w.alloc (.cells #[.string ⟨#[]⟩] 76)).heap.size L.length D (Maps.has D) (Maps.size D) → (w.alloc (.cells #[.string ⟨#[]⟩] 76)).grownBy w' none → SWp w w' ⟨gs, hv, bv, some b⟩ b (w.alloc (.cells #[.string ⟨#[]⟩] 76)).heap.size Hs Hb L L (Maps.has D) (Maps.size D) ∧ Blk w' w.heap.size #[.string ⟨#[]⟩] 76 ∧ Least L (Maps.has D) ⟨#[]⟩) := fun w' hr hgr => ⟨sw_start h rfl hb1 hm hr hgr, (Blk.new w _ _).below (grown_below hgr), least_start hm hg⟩
  clear h hs1 hb1 hhold
  go_enter Tryz.func44, Tryz.ntmps44
  go_wp2_with (first
    | (at_range; refine wpList_range_own _ rfl _ 59 rfl 76 80 keyE Tryz.underlying59 rE b L.length D rfl hown ?_; intro w1 hr1 hg1 hs1; have HS1 := HST.out w1 hr1 hg1; clear hr1 hg1 hs1 HST)
    | go_in)
  go_frame
  have hrw : w.heap.size < (w.alloc (.cells #[.string ⟨#[]⟩] 76)).heap.size := by simp
  generalize (w.alloc (.cells #[.string ⟨#[]⟩] 76)).heap.size = r at HS1 hrw ⊢
  have HS : Hid (SWp w w1 ⟨gs, hv, bv, some b⟩ b r Hs Hb L L (Maps.has D) (Maps.size D) ∧ Blk w1 w.heap.size #[.string ⟨#[]⟩] 76 ∧ Least L (Maps.has D) ⟨#[]⟩) := HS1
  clear HS1 hown hm c1
  go_loopw [12] (fun _ wr => ∃ (left : Lit → Bool) (cnt : Nat) (ln : ByteArray), Hid (SWp w wr ⟨gs, hv, bv, some b⟩ b r Hs Hb L L left cnt ∧ Blk wr w.heap.size #[.string ln] 76 ∧ Least L left ln)) (fun _ wr => wr.rangeLeft b r)
  case atStart => exact ⟨_, _, _, HS⟩
  case round =>
    clear HS
    obtain ⟨left, cnt, ln, HR⟩ := hrel
    obtain ⟨kk, D', hr', hm'⟩ := HR.out.1.rg
    go_wp2_with (first
      | (at_next; go_must (refine wpList_next_e _ rfl (.tmp 11) rfl b r kk cnt D' left L rfl hr' hm' hg ?_ ?_))
      | go_in)
    · intro _ hl0
      obtain ⟨hok, hfil⟩ := least_end hg hl0 HR.out.2.2 h0
      have HF : Hid (L.filter (fun y => !sameP ln y) = L.eraseIdx (minC L)) := hfil
      clear hfil
      have c1 : wr.cell? ⟨gs, 2, none⟩ = some (.map (some b)) := HR.out.1.rest.blk.cell 2
      have d0 : wr.cell? ⟨w.heap.size, 0, none⟩ = some (.string ln) := HR.out.2.1.cell 0
      have hr9 := (hr'.kept (row := none) (w' := wr.drew) ⟨rfl, rfl, rfl, Nat.le_refl _, fun _ _ _ => rfl⟩ (by simp) (by simp))
      go_wp2
      go_region_law ((refine step_del_e _ (by rfl) (.tmp 62) (.tmp 63) (by rfl) b r kk cnt D' left ln (by rfl) (by rfl) hr9 hok ?_; intro w4 cnt4 hr4 hle4 ht4))
      all_goals (have HQ := mapOf_del hm' hg hok; rw [HF.out] at HQ; have HN := (HR.out.1.below (Below.refl _ _).drew).struck hr4 HQ ht4; go_wp2; go_end0; exact ⟨rfl, HN.st (List.eraseIdx_sublist _ _) h3 HOK.out, HN.turn.more (fun k e => by rw [e])⟩)
    · intro pc pb w2 cnt2 hpL hlp hr2 hlt hg2 hsz2 hen
      have HK := HR.out
      have HM : Hid (SWp w w2 ⟨gs, hv, bv, some b⟩ b r Hs Hb L L (nextL left (pc, pb)) cnt2 ∧ Blk w2 w.heap.size #[.string ln] 76) := ⟨HK.1.moved hr2 hm' hg2, (Turn.of_grown (S := fun k => k = r) hg2 (fun k e => (Option.some.inj e).symm)).blk HK.2.1 (by omega)⟩
      have HLT : Hid (∀ c, wr.rangeLeft b r = c → c = cnt) := fun c hc => by rw [hr'.left_eq] at hc; exact hc.symm
      have hok := max_ok (hg.ok _ hpL).nm
      have HLE : Hid (Least L left ln) := HK.2.2
      have HPL : Hid ((pc, pb) ∈ L) := hpL
      clear HK hlp hr2 hg2 hsz2 hpL hr' hm' HR
      unfold kyV at hen ⊢
      obtain ⟨pn, phs, pfr, pu, pbs⟩ := pc
      obtain ⟨pg, phv, psv, puv, pls⟩ := pb
      simp only at hok hen ⊢
      rcases HLE.out with ⟨rfl, hall⟩ | ⟨⟨⟨qn, qhs, qfr, qu, qbs⟩, ⟨qg, qhv, qsv, quv, qls⟩⟩, hqL, rfl, hql, hq⟩
      · have HTAKE : Hid (Least L (nextL left (⟨pn, phs, pfr, pu, pbs⟩, ⟨pg, phv, psv, puv, pls⟩)) pn) := least_first hg hall HPL.out
        have hlk : Hid (∀ u, SWp w u ⟨gs, hv, bv, some b⟩ b r Hs Hb L L (nextL left (⟨pn, phs, pfr, pu, pbs⟩, ⟨pg, phv, psv, puv, pls⟩)) cnt2 → (Instr.lookup 59 (.map (some b)) (.agg #[.string ⟨#[]⟩]) true).run Tryz.prog u = .ok (.tuple #[.pointer none, .bool false]) u) := fun u hu => by
          have := hu.look (n := ⟨#[]⟩) (by decide)
          unfold vL bL at this
          rw [atL_empty hg] at this
          exact this
        clear hall HLE
        go_wp2
        obtain ⟨W, hW⟩ : ∃ W, W = w2.alloc (.cells #[.string pn] 76) := ⟨_, rfl⟩
        have hbW : Below w2.heap.size w2 W := by rw [hW]; exact lay (Below.refl _ _) _
        have kK : Blk W w2.heap.size #[.string pn] 76 := by rw [hW]; exact Blk.new w2 _ _
        rw [← hW]
        clear hW
        have HS := HM.out.1.below hbW
        have kB := HM.out.2.below hbW
        have c1 : W.cell? ⟨gs, 2, none⟩ = some (.map (some b)) := HS.rest.blk.cell 2
        have d0 : W.cell? ⟨w.heap.size, 0, none⟩ = some (.string ⟨#[]⟩) := kB.cell 0
        have l1 := hlk.out W.drew (HS.below (Below.refl _ _).drew)
        go_region
        obtain ⟨X, hX⟩ : ∃ X, X = W.drew := ⟨_, rfl⟩
        rw [← hX]
        have hbX : Below W.heap.size W X := by rw [hX]; exact (Below.refl _ _).drew
        clear hX c1 d0 l1
        replace HS := HS.below hbX
        replace kB := kB.below hbX
        replace kK := kK.below hbX
        have HSX : Hid (SWp w X ⟨gs, hv, bv, some b⟩ b r Hs Hb L L (nextL left (⟨pn, phs, pfr, pu, pbs⟩, ⟨pg, phv, psv, puv, pls⟩)) cnt2) := HS
        have b0 : ∀ nb : Bel X, nb.to.cell? ⟨w.heap.size, 0, none⟩ = some (.string ⟨#[]⟩) := fun nb => (kB.below nb.h).cell 0
        have k0 : ∀ nb : Bel X, nb.to.cell? ⟨w2.heap.size, 0, none⟩ = some (.string pn) := fun nb => (kK.below nb.h).cell 0
        have eu : ∀ nb : Bel X, nb.to.cell? ⟨pg, 2, none⟩ = some (.int .i64 pu) := fun nb => (HSX.out.below nb.h).til HPL.out
        have SC : ∀ nb : Bel X, True := fun _ => trivial
        go_wp2
        refine wp_region_bel (by kernel_rfl) (by kernel_rfl) ?_
        intro _
        repeat (go_big_quiet_step (fail))
        refine wpQuiet_nil ?_
        intro wn hwn
        have hbn := bel_out hwn
        clear hwn
        have HSn := HSX.out.below hbn
        have kBn := kB.below hbn
        have kKn := kK.below hbn
        have k0' := kKn.cell 0
        have b0' := kBn.cell 0
        have g0' := kBn.frozen 0
        simp only [List.getElem?_toArray, List.getElem?_cons_zero] at k0' b0'
        go_wp2
        have t6 : Turn (fun k => k = w.heap.size) wn (wn.setCell ⟨w.heap.size, 0, none⟩ (.string pn)) := Turn.of_set (S := fun k => k = w.heap.size) _ (p := ⟨w.heap.size, 0, none⟩) rfl _
        have k6 : Blk (wn.setCell ⟨w.heap.size, 0, none⟩ (.string pn)) w.heap.size #[.string pn] 76 := kBn.set 0 _
        have HN := HSn.own t6 (Nat.le_refl _) (by omega)
        have HL := HTAKE.out
        obtain ⟨k7, D7, hr7, _⟩ := HN.rg
        go_roundw
        case rel => exact ⟨_, _, _, ⟨HN, k6, HL⟩⟩
        case measure => rw [hr7.left_eq, HLT.out _ rfl]; omega
      · have hqk := max_ok (hg.ok _ hqL).nm
        have HTK : Hid (ltP (⟨pn, phs, pfr, pu, pbs⟩, ⟨pg, phv, psv, puv, pls⟩) (⟨qn, qhs, qfr, qu, qbs⟩, ⟨qg, qhv, qsv, quv, qls⟩) = true → Least L (nextL left (⟨pn, phs, pfr, pu, pbs⟩, ⟨pg, phv, psv, puv, pls⟩)) pn) := fun hx => least_take hg hqL hq HPL.out hx
        have HSTY : Hid (ltP (⟨pn, phs, pfr, pu, pbs⟩, ⟨pg, phv, psv, puv, pls⟩) (⟨qn, qhs, qfr, qu, qbs⟩, ⟨qg, qhv, qsv, quv, qls⟩) = false → Least L (nextL left (⟨pn, phs, pfr, pu, pbs⟩, ⟨pg, phv, psv, puv, pls⟩)) qn) := fun hx => least_stay hg hqL hql hq HPL.out hx
        have hlk : Hid (∀ u, SWp w u ⟨gs, hv, bv, some b⟩ b r Hs Hb L L (nextL left (⟨pn, phs, pfr, pu, pbs⟩, ⟨pg, phv, psv, puv, pls⟩)) cnt2 → (Instr.lookup 59 (.map (some b)) (.agg #[.string qn]) true).run Tryz.prog u = .ok (.tuple #[.pointer (some ⟨qg, 0, none⟩), .bool true]) u) := fun u hu => by
          have := hu.look (n := qn) hqk
          unfold vL bL at this
          have ha := atL_mem hg hqL
          simp only at ha
          rw [ha] at this
          exact this
        have HQL : Hid ((⟨qn, qhs, qfr, qu, qbs⟩, ⟨qg, qhv, qsv, quv, qls⟩) ∈ L) := hqL
        simp only at hqk
        clear hq hql hqL HLE
        go_wp2
        obtain ⟨W, hW⟩ : ∃ W, W = w2.alloc (.cells #[.string pn] 76) := ⟨_, rfl⟩
        have hbW : Below w2.heap.size w2 W := by rw [hW]; exact lay (Below.refl _ _) _
        have kK : Blk W w2.heap.size #[.string pn] 76 := by rw [hW]; exact Blk.new w2 _ _
        rw [← hW]
        clear hW
        have HS := HM.out.1.below hbW
        have kB := HM.out.2.below hbW
        have c1 : W.cell? ⟨gs, 2, none⟩ = some (.map (some b)) := HS.rest.blk.cell 2
        have d0 : W.cell? ⟨w.heap.size, 0, none⟩ = some (.string qn) := kB.cell 0
        have l1 := hlk.out W.drew (HS.below (Below.refl _ _).drew)
        go_region
        obtain ⟨X, hX⟩ : ∃ X, X = W.drew := ⟨_, rfl⟩
        rw [← hX]
        have hbX : Below W.heap.size W X := by rw [hX]; exact (Below.refl _ _).drew
        clear hX c1 d0 l1
        replace HS := HS.below hbX
        replace kB := kB.below hbX
        replace kK := kK.below hbX
        have HSX : Hid (SWp w X ⟨gs, hv, bv, some b⟩ b r Hs Hb L L (nextL left (⟨pn, phs, pfr, pu, pbs⟩, ⟨pg, phv, psv, puv, pls⟩)) cnt2) := HS
        have b0 : ∀ nb : Bel X, nb.to.cell? ⟨w.heap.size, 0, none⟩ = some (.string qn) := fun nb => (kB.below nb.h).cell 0
        have k0 : ∀ nb : Bel X, nb.to.cell? ⟨w2.heap.size, 0, none⟩ = some (.string pn) := fun nb => (kK.below nb.h).cell 0
        have eu : ∀ nb : Bel X, nb.to.cell? ⟨pg, 2, none⟩ = some (.int .i64 pu) := fun nb => (HSX.out.below nb.h).til HPL.out
        have qu1 : ∀ nb : Bel X, nb.to.cell? ⟨qg, 2, none⟩ = some (.int .i64 qu) := fun nb => (HSX.out.below nb.h).til HQL.out
        obtain ⟨cc, hcc⟩ : ∃ cc, cmpN pn.data.toList qn.data.toList = cc := ⟨_, rfl⟩
        have SC : ∀ nb : Bel X, Calls Tryz.prog 74 #[.string pn, .string qn] nb.to fun e w' => e = .returned (.int .i64 cc) ∧ Below nb.to.heap.size nb.to w' := fun nb => compare_as pn qn cc nb.to hok hqk hcc
        by_cases hu1 : pu < qu
        · have HTAKE : Hid (Least L (nextL left (⟨pn, phs, pfr, pu, pbs⟩, ⟨pg, phv, psv, puv, pls⟩)) pn) := HTK.out (ltP_iff.2 (.inl hu1))
          go_wp2
          refine wp_region_bel (by kernel_rfl) (by kernel_rfl) ?_
          intro _
          repeat (go_big_quiet_step ((go_at_call 74; go_must (exact bel_lays (SC _)))))
          refine wpQuiet_nil ?_
          intro wn hwn
          have hbn := bel_out hwn
          clear hwn
          have HSn := HSX.out.below hbn
          have kBn := kB.below hbn
          have kKn := kK.below hbn
          have k0' := kKn.cell 0
          have b0' := kBn.cell 0
          have g0' := kBn.frozen 0
          simp only [List.getElem?_toArray, List.getElem?_cons_zero] at k0' b0'
          go_wp2
          have t6 : Turn (fun k => k = w.heap.size) wn (wn.setCell ⟨w.heap.size, 0, none⟩ (.string pn)) := Turn.of_set (S := fun k => k = w.heap.size) _ (p := ⟨w.heap.size, 0, none⟩) rfl _
          have k6 : Blk (wn.setCell ⟨w.heap.size, 0, none⟩ (.string pn)) w.heap.size #[.string pn] 76 := kBn.set 0 _
          have HN := HSn.own t6 (Nat.le_refl _) (by omega)
          have HL := HTAKE.out
          obtain ⟨k7, D7, hr7, _⟩ := HN.rg
          go_roundw
          case rel => exact ⟨_, _, _, ⟨HN, k6, HL⟩⟩
          case measure => rw [hr7.left_eq, HLT.out _ rfl]; omega
        · by_cases hu2 : pu = qu
          · by_cases hc2 : cc < 0
            · have HTAKE : Hid (Least L (nextL left (⟨pn, phs, pfr, pu, pbs⟩, ⟨pg, phv, psv, puv, pls⟩)) pn) := HTK.out (ltP_iff.2 (.inr ⟨hu2, by rw [show _ = cc from hcc]; exact hc2⟩))
              subst hu2
              go_wp2
              refine wp_region_bel (by kernel_rfl) (by kernel_rfl) ?_
              intro _
              repeat (go_big_quiet_step ((go_at_call 74; go_must (exact bel_lays (SC _)))))
              refine wpQuiet_nil ?_
              intro wn hwn
              have hbn := bel_out hwn
              clear hwn
              have HSn := HSX.out.below hbn
              have kBn := kB.below hbn
              have kKn := kK.below hbn
              have k0' := kKn.cell 0
              have b0' := kBn.cell 0
              have g0' := kBn.frozen 0
              simp only [List.getElem?_toArray, List.getElem?_cons_zero] at k0' b0'
              go_wp2
              have t6 : Turn (fun k => k = w.heap.size) wn (wn.setCell ⟨w.heap.size, 0, none⟩ (.string pn)) := Turn.of_set (S := fun k => k = w.heap.size) _ (p := ⟨w.heap.size, 0, none⟩) rfl _
              have k6 : Blk (wn.setCell ⟨w.heap.size, 0, none⟩ (.string pn)) w.heap.size #[.string pn] 76 := kBn.set 0 _
              have HN := HSn.own t6 (Nat.le_refl _) (by omega)
              have HL := HTAKE.out
              obtain ⟨k7, D7, hr7, _⟩ := HN.rg
              go_roundw
              case rel => exact ⟨_, _, _, ⟨HN, k6, HL⟩⟩
              case measure => rw [hr7.left_eq, HLT.out _ rfl]; omega
            · have HSTAY : Hid (Least L (nextL left (⟨pn, phs, pfr, pu, pbs⟩, ⟨pg, phv, psv, puv, pls⟩)) qn) := HSTY.out (by cases hl : ltP (⟨pn, phs, pfr, pu, pbs⟩, ⟨pg, phv, psv, puv, pls⟩) (⟨qn, qhs, qfr, qu, qbs⟩, ⟨qg, qhv, qsv, quv, qls⟩) with
                | false => rfl
                | true => (rcases ltP_iff.1 hl with h | ⟨_, h⟩; exact absurd h hu1; exact absurd (by rw [show _ = cc from hcc] at h; exact h) hc2))
              have hc2' : decide (cc < 0) = false := by simpa using hc2
              subst hu2
              go_wp2
              refine wp_region_bel (by kernel_rfl) (by kernel_rfl) ?_
              intro _
              repeat (go_big_quiet_step ((go_at_call 74; go_must (exact bel_lays (SC _)))))
              refine wpQuiet_nil ?_
              intro wn hwn
              have hbn := bel_out hwn
              clear hwn
              have HSn := HSX.out.below hbn
              have kBn := kB.below hbn
              go_wp2
              have HL := HSTAY.out
              obtain ⟨k7, D7, hr7, _⟩ := HSn.rg
              go_roundw
              case rel => exact ⟨_, _, _, ⟨HSn, kBn, HL⟩⟩
              case measure => rw [hr7.left_eq, HLT.out _ rfl]; omega
          · have HSTAY : Hid (Least L (nextL left (⟨pn, phs, pfr, pu, pbs⟩, ⟨pg, phv, psv, puv, pls⟩)) qn) := HSTY.out (by cases hl : ltP (⟨pn, phs, pfr, pu, pbs⟩, ⟨pg, phv, psv, puv, pls⟩) (⟨qn, qhs, qfr, qu, qbs⟩, ⟨qg, qhv, qsv, quv, qls⟩) with
              | false => rfl
              | true => (rcases ltP_iff.1 hl with h | ⟨h, _⟩; exact absurd h hu1; exact absurd h hu2))
            have hu1' : decide (pu < qu) = false := by simpa using hu1
            have hu2' : (pu == qu) = false := by simpa using hu2
            go_wp2
            refine wp_region_bel (by kernel_rfl) (by kernel_rfl) ?_
            intro _
            repeat (go_big_quiet_step ((go_at_call 74; go_must (exact bel_lays (SC _)))))
            refine wpQuiet_nil ?_
            intro wn hwn
            have hbn := bel_out hwn
            clear hwn
            have HSn := HSX.out.below hbn
            have kBn := kB.below hbn
            go_wp2
            have HL := HSTAY.out
            obtain ⟨k7, D7, hr7, _⟩ := HSn.rg
            go_roundw
            case rel => exact ⟨_, _, _, ⟨HSn, kBn, HL⟩⟩
            case measure => rw [hr7.left_eq, HLT.out _ rfl]; omega

end Cu
end Go.Proofs.YtnjgdfmldjgloaaGreat

/- What hold, keyOf, live of a Cuts do; copies of rows. -/
namespace Go.Proofs.YtnjgdfmldjgloaaGreat
open Go.RowKit
open Pl
namespace Cu

theorem map_some (b : Nat) (u : World) : (binOp .eql 59 (.map (some b)) (.map none)).run Tryz.prog u = .ok (.bool false) u := by kernel_rfl
theorem rE_mk (g : Nat) : rE (.pointer (some ⟨g, 0, none⟩)) = some (.held g, []) := rfl
set_option maxRecDepth 20000 in
set_option maxHeartbeats 2000000 in
theorem hold_any {w : World} {o : OB} {b : Nat} {Hs : List ByteArray} {Hb : List Bn} {L : List Pr} (h : St w o Hs Hb L) (hmb : o.mb = some b) (p : Pr) (hp : CutAt w p.2 p.1) (hno : ∀ q ∈ L, sameP p.1.n q = false) (hsep : ∀ q ∈ L, ∀ k, wfoot q.2 k → ¬ wfoot p.2 k) (hle : L.length + 1 ≤ 128) :
    Calls Tryz.prog 45 #[.pointer (some ⟨o.gs, 0, none⟩), .agg #[.string p.1.n], .pointer (some ⟨p.2.g, 0, none⟩)] w fun e w' => e = .returned (.tuple #[]) ∧ St w' o Hs Hb (L ++ [p]) ∧ Turn (fun k => o.mb = some k) w w' := by
  obtain ⟨gs, hv, bv, mb⟩ := o
  simp only at hmb
  subst hmb
  obtain ⟨n, hn⟩ : ∃ n, n = p.1.n := ⟨_, rfl⟩
  obtain ⟨pg, hpg⟩ : ∃ pg, pg = p.2.g := ⟨_, rfl⟩
  obtain ⟨W, hW⟩ : ∃ W, W = w.alloc (.cells #[.string n] 76) := ⟨_, rfl⟩
  have hbW : Below w.heap.size w W := by rw [hW]; exact lay (Below.refl _ _) _
  have kb : Blk W w.heap.size #[.string n] 76 := by rw [hW]; exact Blk.new w _ _
  have hsx := h.below hbW
  have hpx := hp.below hbW
  have hh : Hold W b L := by
    rcases hsx.at' with ⟨e, _⟩ | ⟨b', e, hh⟩
    · cases e
    · cases e; exact hh
  obtain ⟨D, hown, hm⟩ := hh.own
  have hown2 : W.drew.ownsMap Tryz.prog 76 rE b L.length D := hown.drew
  obtain ⟨Y2, hrun, hown3, hturn⟩ := hown2.store keyE Tryz.underlying59 (by unfold maxLen; omega) (keyOf_e (max_ok hp.ok.nm)) (rE_mk p.2.g)
  obtain ⟨es, clock, hbb, _⟩ := hown
  have ht2 : Turn (fun k => k = b) W Y2 := (Turn.of_below (S := fun k => k = b) (Below.refl _ _).drew).same (Turn.of_grown hturn.grown (fun k e => (Option.some.inj e).symm))
  have hpb : ∀ k, foot p.2 k → k ≠ b := fun k hk e => by
    subst e
    obtain ⟨C, t, hc⟩ := foot_cells hpx.raw hk
    unfold Blk at hc
    rw [hc] at hbb; cases hbb
  have HY : Hid (St Y2 ⟨gs, hv, bv, some b⟩ Hs Hb (L ++ [p]) ∧ Turn (fun k => (some b : Option Nat) = some k) w Y2) := by
    have hrest := hsx.rest.turn ht2 (fun k hk e => hsx.rest.not_map hk hbb e)
    refine ⟨⟨⟨hrest.blk, hrest.hosts, hrest.hints, fun q hq => ?_, ?_⟩, .inr ⟨b, rfl, ⟨_, _, hown3, mapOf_put hm hh.good p hp.ok hno⟩, hh.good.snoc hp.ok hno⟩, by simp; omega, h.hok⟩, (Turn.of_below hbW).trans ht2 (fun i e => .inl (by rw [e]))⟩
    · rcases List.mem_append.1 hq with hq | hq
      · exact hrest.cuts q hq
      · simp at hq; subst hq
        exact ⟨hpx.raw.turn ht2 (fun k hk e => hpb k hk e), hp.ok⟩
    · refine List.pairwise_append.2 ⟨hrest.sep, List.pairwise_singleton _ _, fun x hx y hy => ?_⟩
      simp at hy; subst hy
      exact hsep x hx
  unfold kyV at hrun
  have hnil := map_some b
  have c1 : W.cell? ⟨gs, 2, none⟩ = some (.map (some b)) := hsx.rest.blk.cell 2
  have d0 := kb.cell 0
  simp only [List.getElem?_toArray, List.getElem?_cons_zero] at d0
  rw [hW] at c1 d0 hrun
  rw [← hn, ← hpg] at hrun ⊢
  clear h hsx hh hown2 hown3 hm hturn hle hno kb hbW hW hbb hp hpx hpb ht2 hsep hn hpg
  go_enter Tryz.func45, Tryz.ntmps45
  go_wp2
  go_region
  go_wp2
  go_end0
  exact ⟨rfl, HY.out.1, HY.out.2⟩

theorem keyOf_any (n : ByteArray) (w : World) (hn : n.size ≤ maxLen) :
    Calls Tryz.prog 42 #[.string n] w fun e w' => e = .returned (.agg #[.string (fdB n)]) ∧ Below w.heap.size w w' := by
  unfold fdB
  have hb : Below w.heap.size w (w.alloc (.cells #[.string ⟨#[]⟩] 76)) := lay (Below.refl _ _) _
  have hk := Blk.new w #[.string ⟨#[]⟩] 76
  go_enter Tryz.func42, Tryz.ntmps42
  go_wp2_with (first
    | (go_at_call 32; go_must (refine (fold_any _ _ hn).mono ?_); rintro e w1 ⟨rfl, b1⟩; replace hk := hk.below b1; replace hb := next hb b1)
    | (refine wpList_storeS _ rfl (.tmp 2) (.tmp 5) 76 rfl w.heap.size _ _ 76 rfl rfl hk (by kernel_rfl) rfl (by simp [Value.oneCell']) ?_; intro w2 k2 t2 _ _))
  refine bodyPost_ret (v := .agg #[.string (fdB n)]) (ret_s rfl rfl k2 ⟨_, Tryz.underlying76⟩ (by kernel_rfl)) rfl ⟨rfl, t2.one_below hb (Nat.le_refl _)⟩

/-- The live cut of a name. -/
def liveAt (L : List Pr) (n : ByteArray) (now : Int) : Option Pr := match atL L n with | some p => if now < p.1.u then some p else none | none => none
def ptrOf : Option Pr → Value
  | some p => .pointer (some ⟨p.2.g, 0, none⟩)
  | none => .pointer none
set_option maxRecDepth 20000 in
theorem live_any {w : World} {o : OB} {Hs : List ByteArray} {Hb : List Bn} {L : List Pr} (h : St w o Hs Hb L) (n : ByteArray) (now : Int) (hn : n.size ≤ maxLen) :
    Calls Tryz.prog 61 #[.pointer (some ⟨o.gs, 0, none⟩), .agg #[.string n], .int .i64 now] w fun e w' => e = .returned (ptrOf (liveAt L n now)) ∧ Below w.heap.size w w' := by
  have hb : Below w.heap.size w (w.alloc (.cells #[.string n] 76)) := lay (Below.refl _ _) _
  have hs := h.below hb
  obtain ⟨gs, hv, bv, mb⟩ := o
  simp only at h hs ⊢
  have c1 : (w.alloc (.cells #[.string n] 76)).cell? ⟨gs, 2, none⟩ = some (.map mb) := hs.rest.blk.cell 2
  have k1 := Blk.new w #[.string n] 76
  have d0 := k1.cell 0
  simp only [List.getElem?_toArray, List.getElem?_cons_zero] at d0
  have hlk := (hs.at'.below ((Below.refl _ _).drew)).look hn
  unfold kyV at hlk
  simp only at hlk
  cases ha : atL L n with
  | none =>
    have e0 : liveAt L n now = none := by unfold liveAt; rw [ha]
    rw [e0]
    have e1 : vL L n = .pointer none := by unfold vL; rw [ha]; rfl
    have e2 : bL L n = false := by unfold bL; rw [ha]; rfl
    rw [e1, e2] at hlk
    clear e0 e1 e2 ha hs h
    go_enter Tryz.func61, Tryz.ntmps61
    go_wp2
    go_region
    go_wp2
    go_ret
    exact ⟨rfl, hb.drew⟩
  | some p =>
    have e1 : vL L n = .pointer (some ⟨p.2.g, 0, none⟩) := by unfold vL; rw [ha]
    have e2 : bL L n = true := by unfold bL; rw [ha]; rfl
    rw [e1, e2] at hlk
    obtain ⟨hpL, _⟩ := atL_some ha
    have eu : (w.alloc (.cells #[.string n] 76)).drew.cell? ⟨p.2.g, 2, none⟩ = some (.int .i64 p.1.u) := (hs.rest.cuts p hpL).raw.blk.cell 2
    have e0 : liveAt L n now = if now < p.1.u then some p else none := by unfold liveAt; rw [ha]
    rw [e0]
    obtain ⟨pg, hpg⟩ : ∃ pg, pg = p.2.g := ⟨_, rfl⟩
    obtain ⟨pu, hpu⟩ : ∃ pu, pu = p.1.u := ⟨_, rfl⟩
    rw [← hpg] at hlk eu
    rw [← hpu] at eu ⊢
    have hil := fun u => isLive_any pu now u
    by_cases hlv : now < pu
    · rw [if_pos hlv]
      rw [show ptrOf (some p) = .pointer (some ⟨pg, 0, none⟩) from by rw [hpg]; rfl]
      rw [decide_eq_true hlv] at hil
      clear e0 e1 e2 ha hs h hpg hpu hpL
      go_enter Tryz.func61, Tryz.ntmps61
      go_wp2
      go_region
      go_wp2_with (go_at_call 53; go_must (refine (hil _).mono ?_); rintro e w3 ⟨rfl, hw3⟩; obtain rfl := hw3.symm)
      go_ret
      exact ⟨rfl, hb.drew⟩
    · rw [if_neg hlv]
      rw [decide_eq_false hlv] at hil
      clear e0 e1 e2 ha hs h hpg hpu hpL
      go_enter Tryz.func61, Tryz.ntmps61
      go_wp2
      go_region
      go_wp2_with (go_at_call 53; go_must (refine (hil _).mono ?_); rintro e w3 ⟨rfl, hw3⟩; obtain rfl := hw3.symm)
      go_ret
      exact ⟨rfl, hb.drew⟩

end Cu
end Go.Proofs.YtnjgdfmldjgloaaGreat

/- Copies of names and of bindings. -/
namespace Go.Proofs.YtnjgdfmldjgloaaGreat
open Go.RowKit
open Pl
namespace Cu

/-- The first j of a row, and none behind. -/
def dTo {α : Type} (z : α) (ds : List α) (j : Nat) : List α := ds.take j ++ List.replicate (ds.length - j) z
theorem dTo_len {α : Type} {z : α} {ds : List α} {j : Nat} (h : j ≤ ds.length) : (dTo z ds j).length = ds.length := by
  unfold dTo; rw [List.length_append, List.length_take, List.length_replicate]; omega
theorem dTo_set {α : Type} {z : α} {ds : List α} {j : Nat} (h : j < ds.length) : (dTo z ds j).set j ds[j] = dTo z ds (j + 1) := by
  have hl : (ds.take j).length = j := by rw [List.length_take]; omega
  unfold dTo
  rw [List.set_append_right _ _ (by omega), hl, Nat.sub_self, show ds.length - j = (ds.length - (j + 1)) + 1 from by omega, List.replicate_succ, List.set_cons_zero, List.take_succ_eq_append_getElem h, List.append_assoc]
  rfl
theorem dTo_all {α : Type} (z : α) (ds : List α) : dTo z ds ds.length = ds := by unfold dTo; rw [Nat.sub_self]; simp
theorem dTo_zero {α : Type} (z : α) (ds : List α) : dTo z ds 0 = List.replicate ds.length z := by unfold dTo; simp
theorem tC_set (ds : List ByteArray) (j : Nat) (s : ByteArray) : (tC ds).set j (.string s) = tC (ds.set j s) := by unfold tC; rw [List.map_set]
theorem made1 (n : Nat) : (madeCells (Value.string ⟨#[]⟩).cells (n * 1)).toList = tC (List.replicate n ⟨#[]⟩) := by
  apply List.ext_getElem?
  intro j
  unfold madeCells tC
  rw [Array.getElem?_toList, Array.getElem?_map, Array.getElem?_range, List.getElem?_map, List.getElem?_replicate]
  by_cases hj : j < n
  · rw [if_pos (by omega), if_pos hj]
    simp [Value.cells, Nat.mod_one]
  · rw [if_neg (by omega), if_neg hj]
    rfl
set_option maxRecDepth 20000 in
set_option maxHeartbeats 1000000 in
theorem copyNames_any (v : Value) (ds : List ByteArray) (w : World) (hr : Row w v ds.length (tC ds)) (hl : ds.length ≤ 1000) (hs : ∀ d ∈ ds, d.size ≤ 255) :
    Calls Tryz.prog 63 #[v] w fun e w' => ∃ v', e = .returned v' ∧ w'.ownsRow w.heap.size 9 1 v' ds.length (tC ds) ∧ Below w.heap.size w w' := by
  obtain ⟨i0, hi, hz0, hz1, hz2⟩ := info_parts info9
  obtain ⟨N, hN⟩ : ∃ N, N = ds.length := ⟨_, rfl⟩
  have HN : Hid (N = ds.length) := hN
  rw [← hN] at hr hl ⊢
  have HR : Hid (Row w v N (tC ds)) := hr
  have HS : Hid (∀ d ∈ ds, d.size ≤ 255) := hs
  obtain ⟨x0, c0, rfl, _⟩ := hr.src
  clear hr hN hs
  go_enter Tryz.func63, Tryz.ntmps63
  go_wp2_with (at_make; refine wpList_make_full _ rfl _ _ 36 rfl w.heap.size 9 i0 (.string ⟨#[]⟩) 1 Tryz.underlying36 hi hz0 hz1 .i64 .i64 _ _ N rfl rfl rfl rfl (by rw [hz2]; omega) (by unfold maxLen; omega) (Nat.le_refl _) ?_; intro w2 own2 grow2; rw [made1] at own2)
  have HO : Hid (w2.ownsRow w.heap.size 9 1 (.slice (some ⟨w.heap.size, 0, none⟩) N N) N (tC (dTo ⟨#[]⟩ ds 0)) ∧ Below w.heap.size w w2) := ⟨by rw [dTo_zero, ← HN.out]; exact own2, grown_below grow2⟩
  clear own2 grow2
  go_loopw [11] (fun i wr => ∃ j : Nat, j ≤ N ∧ i = .int .i64 (j : Int) ∧ Hid (wr.ownsRow w.heap.size 9 1 (.slice (some ⟨w.heap.size, 0, none⟩) N N) N (tC (dTo ⟨#[]⟩ ds j)) ∧ Below w.heap.size w wr)) (fun i _ => N - (intOf i).toNat)
  case atStart => exact ⟨0, Nat.zero_le _, rfl, HO⟩
  case round =>
    clear HO
    obtain ⟨j, hj, rfl, HC⟩ := hrel
    by_cases hjn : j < N
    · have hjn' : (j : Int) < (N : Int) := by omega
      have hjd : j < ds.length := by rw [← HN.out]; exact hjn
      obtain ⟨s, hs⟩ : ∃ s, s = ds[j] := ⟨_, rfl⟩
      have hss : s.size ≤ 255 := by rw [hs]; exact HS.out _ (List.getElem_mem _)
      obtain ⟨ga, oa, ca, ev, hcell⟩ := row_at (HR.out.below HC.out.2) (by omega)
      simp only [Value.slice.injEq, true_and] at ev
      obtain ⟨rfl, rfl⟩ := ev
      have d1 := hcell j (.string s) (by rw [hs]; exact tC_at' hjd)
      have HJ : Hid (∀ wn, Below wr.heap.size wr wn → (wn.setCell ⟨w.heap.size, j, none⟩ (.string s)).ownsRow w.heap.size 9 1 (.slice (some ⟨w.heap.size, 0, none⟩) N N) N (tC (dTo ⟨#[]⟩ ds (j + 1))) ∧ Below w.heap.size w (wn.setCell ⟨w.heap.size, j, none⟩ (.string s)) ∧ (wn.cell? ⟨w.heap.size, j, none⟩).isSome = true ∧ wn.frozen? ⟨w.heap.size, j, none⟩ = false) := fun wn hb => by
        have ho := own_past HC.out.1 hb
        have h1 := (ho.stored j (.string s)).1
        rw [tC_set, hs, dTo_set hjd] at h1
        refine ⟨by rw [hs]; exact h1, (next HC.out.2 hb).setCell (p := ⟨w.heap.size, j, none⟩) (Nat.le_refl _) _, ?_, ho.frozenAt j⟩
        rw [ho.cellAt j (by omega), List.getElem?_eq_getElem (by rw [tC_len, dTo_len (by omega)]; exact hjd)]; rfl
      clear hs hjd hcell
      go_wp2_with (go_at_call 82; go_must (refine (clone_any s _ (by omega)).mono ?_); rintro e w3 ⟨rfl, b3⟩; obtain ⟨q1, q2, q3, q4⟩ := HJ.out w3 b3; obtain ⟨old, q5⟩ := Option.isSome_iff_exists.1 q3; have HQ : Hid _ := And.intro q1 q2; clear q1 q2 q3 b3)
      go_roundw
      case rel => exact ⟨j + 1, by omega, by go_num, HQ⟩
      case measure => simp [intOf]; omega
    · have hjn' : decide (j < N) = false := by simpa using hjn
      have HE : Hid (wr.ownsRow w.heap.size 9 1 (.slice (some ⟨w.heap.size, 0, none⟩) N N) N (tC ds) ∧ Below w.heap.size w wr) := by
        have := HC.out
        rw [show j = ds.length by have := HN.out; omega, dTo_all] at this
        exact this
      clear HC
      go_wp2
      go_ret
      exact ⟨_, rfl, HE.out.1, HE.out.2⟩

/-- A row of bindings, one of which is set. -/
theorem bC_set5 (bs : List Bn) (j : Nat) (x : Bn) (hj : j < bs.length) : (((((bC bs).set (j * 5) (.string x.c)).set (j * 5 + 1) (.string x.h)).set (j * 5 + 2) (.int .i64 x.a)).set (j * 5 + 3) (.string x.f)).set (j * 5 + 4) (.int .i64 x.u) = bC (bs.set j x) := by
  induction bs generalizing j with
  | nil => simp at hj
  | cons y bs ih =>
    have e : bC (y :: bs) = bV y ++ bC bs := by simp [bC]
    cases j with
    | zero =>
      rw [e, List.set_cons_zero]
      have e2 : bC (x :: bs) = bV x ++ bC bs := by simp [bC]
      rw [e2]; rfl
    | succ j =>
      have hj' : j < bs.length := by simp at hj; omega
      rw [List.set_cons_succ]
      have e2 : bC (y :: bs.set j x) = bV y ++ bC (bs.set j x) := by simp [bC]
      rw [e, e2, ← ih j hj']
      have hl : (bV y).length = 5 := rfl
      rw [show (j + 1) * 5 = 5 + j * 5 by omega]
      rw [List.set_append_right _ _ (by omega), List.set_append_right _ _ (by omega), List.set_append_right _ _ (by omega), List.set_append_right _ _ (by omega), List.set_append_right _ _ (by omega), hl]
      congr 1
      rw [show 5 + j * 5 - 5 = j * 5 by omega, show 5 + j * 5 + 1 - 5 = j * 5 + 1 by omega, show 5 + j * 5 + 2 - 5 = j * 5 + 2 by omega, show 5 + j * 5 + 3 - 5 = j * 5 + 3 by omega, show 5 + j * 5 + 4 - 5 = j * 5 + 4 by omega]

def zB : Bn := ⟨⟨#[]⟩, ⟨#[]⟩, 0, ⟨#[]⟩, 0⟩
theorem made5 (n : Nat) : (madeCells (Value.agg #[.string ⟨#[]⟩, .string ⟨#[]⟩, .int .i64 0, .string ⟨#[]⟩, .int .i64 0]).cells (n * 5)).toList = bC (List.replicate n zB) := by
  apply List.ext_getElem?
  intro j
  unfold madeCells
  rw [Array.getElem?_toList, Array.getElem?_map, Array.getElem?_range]
  by_cases hj : j < n * 5
  · rw [if_pos hj]
    have hq : j / 5 < (List.replicate n zB).length := by rw [List.length_replicate]; omega
    have h1 := flat_get (f := bV) (z := 5) (fun _ => rfl) (List.replicate n zB) (j / 5) hq (j % 5) (by omega)
    rw [show j / 5 * 5 + j % 5 = j by omega] at h1
    show _ = (bC _)[j]?
    unfold bC
    rw [h1, List.getElem_replicate]
    have h5 : j % 5 = 0 ∨ j % 5 = 1 ∨ j % 5 = 2 ∨ j % 5 = 3 ∨ j % 5 = 4 := by omega
    simp only [Value.cells, Option.map_some]
    rcases h5 with h | h | h | h | h <;> · rw [show (#[Value.string ⟨#[]⟩, .string ⟨#[]⟩, .int .i64 0, .string ⟨#[]⟩, .int .i64 0] : Array Value).size = 5 from rfl, h]; rfl
  · rw [if_neg hj, List.getElem?_eq_none (by rw [bC_len, List.length_replicate]; omega)]
    rfl
set_option maxRecDepth 20000 in
set_option maxHeartbeats 1000000 in
theorem copyBindings_any (v : Value) (ds : List Bn) (w : World) (hr : Row w v ds.length (bC ds)) (hl : ds.length ≤ 1000) (hs : ∀ d ∈ ds, OkB d) :
    Calls Tryz.prog 60 #[v] w fun e w' => ∃ v', e = .returned v' ∧ w'.ownsRow w.heap.size 65 5 v' ds.length (bC ds) ∧ Below w.heap.size w w' := by
  obtain ⟨i0, hi, hz0, hz1, hz2⟩ := info_parts infoBn
  obtain ⟨N, hN⟩ : ∃ N, N = ds.length := ⟨_, rfl⟩
  have HN : Hid (N = ds.length) := hN
  rw [← hN] at hr hl ⊢
  have HR : Hid (Row w v N (bC ds)) := hr
  have HS : Hid (∀ d ∈ ds, OkB d) := hs
  obtain ⟨x0, c0, rfl, _⟩ := hr.src
  clear hr hN hs
  go_enter Tryz.func60, Tryz.ntmps60
  go_wp2_with (at_make; refine wpList_make_full _ rfl _ _ 37 rfl w.heap.size 65 i0 (.agg #[.string ⟨#[]⟩, .string ⟨#[]⟩, .int .i64 0, .string ⟨#[]⟩, .int .i64 0]) 5 Tryz.underlying37 hi hz0 hz1 .i64 .i64 _ _ N rfl rfl rfl rfl (by rw [hz2]; omega) (by unfold maxLen; omega) (Nat.le_refl _) ?_; intro w2 own2 grow2; rw [made5] at own2)
  have HO : Hid (w2.ownsRow w.heap.size 65 5 (.slice (some ⟨w.heap.size, 0, none⟩) N N) N (bC (dTo zB ds 0)) ∧ Below w.heap.size w w2) := ⟨by rw [dTo_zero, ← HN.out]; exact own2, grown_below grow2⟩
  clear own2 grow2
  go_loopw [11] (fun i wr => ∃ j : Nat, j ≤ N ∧ i = .int .i64 (j : Int) ∧ Hid (wr.ownsRow w.heap.size 65 5 (.slice (some ⟨w.heap.size, 0, none⟩) N N) N (bC (dTo zB ds j)) ∧ Below w.heap.size w wr)) (fun i _ => N - (intOf i).toNat)
  case atStart => exact ⟨0, Nat.zero_le _, rfl, HO⟩
  case round =>
    clear HO
    obtain ⟨j, hj, rfl, HC⟩ := hrel
    by_cases hjn : j < N
    · have hjn' : (j : Int) < (N : Int) := by omega
      have hjd : j < ds.length := by rw [← HN.out]; exact hjn
      obtain ⟨⟨xc, xh, xa, xf, xu⟩, hx⟩ : ∃ x, x = ds[j] := ⟨_, rfl⟩
      obtain ⟨hxc, hxh, hxf⟩ : OkB ⟨xc, xh, xa, xf, xu⟩ := by rw [hx]; exact HS.out _ (List.getElem_mem _)
      simp only at hxc hxh hxf
      obtain ⟨ga, oa, ca, ev, hcell⟩ := row_at (HR.out.below HC.out.2) (by omega)
      simp only [Value.slice.injEq, true_and] at ev
      obtain ⟨rfl, rfl⟩ := ev
      have hfl := fun i hi => flat_get (f := bV) (z := 5) (fun _ => rfl) ds j hjd i hi
      rw [← hx] at hfl
      have d0 := hcell (j * 5 + 0) _ (hfl 0 (by omega))
      have d1 := hcell (j * 5 + 1) _ (hfl 1 (by omega))
      have d2 := hcell (j * 5 + 2) _ (hfl 2 (by omega))
      have d3 := hcell (j * 5 + 3) _ (hfl 3 (by omega))
      have d4 := hcell (j * 5 + 4) _ (hfl 4 (by omega))
      simp only [Nat.add_zero, ← Nat.add_assoc] at d0 d1 d2 d3 d4
      have hlj : j * 5 + 4 < (bC (dTo zB ds j)).length := by rw [bC_len, dTo_len (by omega)]; omega
      have HJ : Hid (∀ wn, Below w.heap.size w wn → wn.ownsRow w.heap.size 65 5 (.slice (some ⟨w.heap.size, 0, none⟩) N N) N (bC (dTo zB ds j)) → ((((((wn.setCell ⟨w.heap.size, j * 5, none⟩ (.string xc)).setCell ⟨w.heap.size, j * 5 + 1, none⟩ (.string xh)).setCell ⟨w.heap.size, j * 5 + 2, none⟩ (.int .i64 xa)).setCell ⟨w.heap.size, j * 5 + 3, none⟩ (.string xf)).setCell ⟨w.heap.size, j * 5 + 4, none⟩ (.int .i64 xu)).ownsRow w.heap.size 65 5 (.slice (some ⟨w.heap.size, 0, none⟩) N N) N (bC (dTo zB ds (j + 1))) ∧ Below w.heap.size w (((((wn.setCell ⟨w.heap.size, j * 5, none⟩ (.string xc)).setCell ⟨w.heap.size, j * 5 + 1, none⟩ (.string xh)).setCell ⟨w.heap.size, j * 5 + 2, none⟩ (.int .i64 xa)).setCell ⟨w.heap.size, j * 5 + 3, none⟩ (.string xf)).setCell ⟨w.heap.size, j * 5 + 4, none⟩ (.int .i64 xu))) ∧ (∀ i, i < 5 → (∃ old, wn.cell? ⟨w.heap.size, j * 5 + i, none⟩ = some old) ∧ wn.frozen? ⟨w.heap.size, j * 5 + i, none⟩ = false)) := fun wn hb ho => by
        refine ⟨⟨?_, ?_⟩, fun i hi5 => ⟨?_, ho.frozenAt _⟩⟩
        · have h1 := ((((((ho.stored (j * 5) (.string xc)).1).stored (j * 5 + 1) (.string xh)).1.stored (j * 5 + 2) (.int .i64 xa)).1.stored (j * 5 + 3) (.string xf)).1.stored (j * 5 + 4) (.int .i64 xu)).1
          have h2 := bC_set5 (dTo zB ds j) j ⟨xc, xh, xa, xf, xu⟩ (by rw [dTo_len (by omega)]; exact hjd)
          rw [h2, hx, dTo_set hjd] at h1
          exact h1
        · exact ((((hb.setCell (p := ⟨w.heap.size, j * 5, none⟩) (Nat.le_refl _) _).setCell (p := ⟨w.heap.size, j * 5 + 1, none⟩) (Nat.le_refl _) _).setCell (p := ⟨w.heap.size, j * 5 + 2, none⟩) (Nat.le_refl _) _).setCell (p := ⟨w.heap.size, j * 5 + 3, none⟩) (Nat.le_refl _) _).setCell (p := ⟨w.heap.size, j * 5 + 4, none⟩) (Nat.le_refl _) _
        · rw [ho.cellAt (j * 5 + i) (by omega)]
          exact ⟨_, List.getElem?_eq_getElem (by omega)⟩
      have HCW : Hid (∀ wn, Turn (fun k => k = wr.heap.size) wr wn → Below w.heap.size w wn ∧ wn.ownsRow w.heap.size 65 5 (.slice (some ⟨w.heap.size, 0, none⟩) N N) N (bC (dTo zB ds j))) := fun wn ht => by
        have hlt := (HC.out.1.lt w.heap.size rfl).2
        exact ⟨Turn.below HC.out.2 ht HC.out.2.size (fun i e => by omega), ht.row HC.out.1 (fun k hk e => by simp [Value.ownBlock] at hk; omega)⟩
      have hlt9 := (HC.out.1.lt w.heap.size rfl).2
      clear hx hjd hcell hfl hlj HC
      go_wp2
      obtain ⟨Y, hY⟩ : ∃ Y, Y = wr.alloc (.cells #[.string xc, .string xh, .int .i64 xa, .string xf, .int .i64 xu] 65) := ⟨_, rfl⟩
      have kY : Blk Y wr.heap.size #[.string xc, .string xh, .int .i64 xa, .string xf, .int .i64 xu] 65 := by rw [hY]; exact Blk.new wr _ _
      have tY : Turn (fun k => k = wr.heap.size) wr Y := by rw [hY]; exact Turn.of_below (lay (Below.refl _ _) _)
      rw [← hY]
      clear hY
      obtain ⟨B, hB⟩ : ∃ B, B = wr.heap.size := ⟨_, rfl⟩
      rw [← hB] at kY tY HCW hlt9 ⊢
      clear hB
      refine wp_region_held_drew (S := fun u => Blk u B #[.string xc, .string xh, .int .i64 xa, .string xf, .int .i64 xu] 65) (by kernel_rfl) kY (fun hHeld => ?_)
      have tX : Turn (fun k => k = B) wr Y.drew := tY.past (Below.refl _ _).drew
      refine wpAnyH_take (i := 0) (v := .pointer (some ⟨B, 0, none⟩)) rfl (by kernel_rfl) (by kernel_rfl) (by kernel_rfl) (fun _ _ _ h => h) (Or.inl ⟨by rfl, ?_⟩) hHeld ?_
      · intro u hu
        go_simp
      simp only [Act.put, List.getElem_toArray, List.getElem_cons_zero, List.setIfInBounds_toArray, List.set_cons_zero, List.set_cons_succ]
      refine wpAnyH_take (i := 1) (v := .string xc) rfl (by kernel_rfl) (by kernel_rfl) (by kernel_rfl) (fun _ _ _ h => h) (Or.inl ⟨by rfl, ?_⟩) hHeld ?_
      · intro u hu
        have a0 := hu.cell 0; simp only [List.getElem?_toArray, List.getElem?_cons_zero] at a0
        go_simp
      simp only [Act.put, List.getElem_toArray, List.getElem_cons_succ, List.getElem_cons_zero, List.setIfInBounds_toArray, List.set_cons_zero, List.set_cons_succ]
      refine wpAnyH_take (i := 3) (v := .pointer (some ⟨B, 1, none⟩)) rfl (by kernel_rfl) (by kernel_rfl) (by kernel_rfl) (fun _ _ _ h => h) (Or.inl ⟨by rfl, ?_⟩) hHeld ?_
      · intro u hu
        go_simp
      simp only [Act.put, List.getElem_toArray, List.getElem_cons_succ, List.getElem_cons_zero, List.setIfInBounds_toArray, List.set_cons_zero, List.set_cons_succ]
      refine wpAnyH_take (i := 4) (v := .string xh) rfl (by kernel_rfl) (by kernel_rfl) (by kernel_rfl) (fun _ _ _ h => h) (Or.inl ⟨by rfl, ?_⟩) hHeld ?_
      · intro u hu
        have a0 := hu.cell 1; simp only [List.getElem?_toArray, List.getElem?_cons_succ, List.getElem?_cons_zero] at a0
        go_simp
      simp only [Act.put, List.getElem_toArray, List.getElem_cons_succ, List.getElem_cons_zero, List.setIfInBounds_toArray, List.set_cons_zero, List.set_cons_succ]
      refine wpAnyH_take (i := 6) (v := .pointer (some ⟨B, 3, none⟩)) rfl (by kernel_rfl) (by kernel_rfl) (by kernel_rfl) (fun _ _ _ h => h) (Or.inl ⟨by rfl, ?_⟩) hHeld ?_
      · intro u hu
        go_simp
      simp only [Act.put, List.getElem_toArray, List.getElem_cons_succ, List.getElem_cons_zero, List.setIfInBounds_toArray, List.set_cons_zero, List.set_cons_succ]
      refine wpAnyH_take (i := 7) (v := .string xf) rfl (by kernel_rfl) (by kernel_rfl) (by kernel_rfl) (fun _ _ _ h => h) (Or.inl ⟨by rfl, ?_⟩) hHeld ?_
      · intro u hu
        have a0 := hu.cell 3; simp only [List.getElem?_toArray, List.getElem?_cons_succ, List.getElem?_cons_zero] at a0
        go_simp
      simp only [Act.put, List.getElem_toArray, List.getElem_cons_succ, List.getElem_cons_zero, List.setIfInBounds_toArray, List.set_cons_zero, List.set_cons_succ]
      refine wpAnyH_ready (rs := [2]) (by kernel_rfl) (by simp) ?_
      refine AllReadyH.cons rfl (fun K hK => ?_) AllReadyH.nil
      go_simp
      refine (clone_any xc _ (by omega)).mono ?_
      rintro e w3 ⟨rfl, b3⟩
      replace hHeld := hHeld.below b3
      replace tX := tX.past b3
      go_simp
      refine hK.out _ _ hHeld (fun hHeld => ?_)
      clear hK K b3
      refine wpAnyH_take (i := 9) (v := .pointer (some ⟨B, 0, none⟩)) rfl (by kernel_rfl) (by kernel_rfl) (by kernel_rfl) (fun _ _ _ h => h) (Or.inl ⟨by rfl, ?_⟩) hHeld ?_
      · intro u hu
        go_simp
      simp only [Act.put, List.getElem_toArray, List.getElem_cons_succ, List.getElem_cons_zero, List.setIfInBounds_toArray, List.set_cons_zero, List.set_cons_succ]
      refine wpAnyH_ready (rs := [5]) (by kernel_rfl) (by simp) ?_
      refine AllReadyH.cons rfl (fun K hK => ?_) AllReadyH.nil
      go_simp
      refine (clone_any xh _ (by omega)).mono ?_
      rintro e w4 ⟨rfl, b4⟩
      replace hHeld := hHeld.below b4
      replace tX := tX.past b4
      go_simp
      refine hK.out _ _ hHeld (fun hHeld => ?_)
      clear hK K b4
      refine wpAnyH_ready (rs := [8]) (by kernel_rfl) (by simp) ?_
      refine AllReadyH.cons rfl (fun K hK => ?_) AllReadyH.nil
      go_simp
      refine (clone_any xf _ (by omega)).mono ?_
      rintro e w5 ⟨rfl, b5⟩
      replace hHeld := hHeld.below b5
      replace tX := tX.past b5
      go_simp
      refine hK.out _ _ hHeld (fun hHeld => ?_)
      clear hK K b5
      have s1 := hHeld.set 0 (.string xc)
      have q0 := hHeld.cell 0
      have f0 := hHeld.frozen 0
      simp only [List.getElem?_toArray, List.getElem?_cons_zero] at q0
      replace tX := tX.same (Turn.of_set (S := fun k => k = B) w5 (p := ⟨B, 0, none⟩) rfl (.string xc))
      refine wpAnyH_ready (rs := [10]) (by kernel_rfl) (by simp) ?_
      refine AllReadyH.cons rfl (fun K hK => ?_) AllReadyH.nil
      go_simp
      refine hK.out _ _ s1 (fun hHeld => ?_)
      clear hK K s1 q0 f0
      refine wpAnyH_take (i := 11) (v := .pointer (some ⟨B, 1, none⟩)) rfl (by kernel_rfl) (by kernel_rfl) (by kernel_rfl) (fun _ _ _ h => h) (Or.inl ⟨by rfl, ?_⟩) hHeld ?_
      · intro u hu
        go_simp
      simp only [Act.put, List.getElem_toArray, List.getElem_cons_succ, List.getElem_cons_zero, List.setIfInBounds_toArray, List.set_cons_zero, List.set_cons_succ]
      have s1 := hHeld.set 1 (.string xh)
      have q0 := hHeld.cell 1
      have f0 := hHeld.frozen 1
      simp only [List.getElem?_toArray, List.getElem?_cons_succ, List.getElem?_cons_zero] at q0
      replace tX := tX.same (Turn.of_set (S := fun k => k = B) _ (p := ⟨B, 1, none⟩) rfl (.string xh))
      refine wpAnyH_ready (rs := [12]) (by kernel_rfl) (by simp) ?_
      refine AllReadyH.cons rfl (fun K hK => ?_) AllReadyH.nil
      go_simp
      refine hK.out _ _ s1 (fun hHeld => ?_)
      clear hK K s1 q0 f0
      refine wpAnyH_take (i := 13) (v := .pointer (some ⟨B, 3, none⟩)) rfl (by kernel_rfl) (by kernel_rfl) (by kernel_rfl) (fun _ _ _ h => h) (Or.inl ⟨by rfl, ?_⟩) hHeld ?_
      · intro u hu
        go_simp
      simp only [Act.put, List.getElem_toArray, List.getElem_cons_succ, List.getElem_cons_zero, List.setIfInBounds_toArray, List.set_cons_zero, List.set_cons_succ]
      have s1 := hHeld.set 3 (.string xf)
      have q0 := hHeld.cell 3
      have f0 := hHeld.frozen 3
      simp only [List.getElem?_toArray, List.getElem?_cons_succ, List.getElem?_cons_zero] at q0
      replace tX := tX.same (Turn.of_set (S := fun k => k = B) _ (p := ⟨B, 3, none⟩) rfl (.string xf))
      refine wpAnyH_ready (rs := [14]) (by kernel_rfl) (by simp) ?_
      refine AllReadyH.cons rfl (fun K hK => ?_) AllReadyH.nil
      go_simp
      refine hK.out _ _ s1 (fun hHeld => ?_)
      clear hK K s1 q0 f0
      refine wpAnyH_done (by kernel_rfl) ?_ _
      generalize ((w5.setCell ⟨B, 0, none⟩ (.string xc)).setCell ⟨B, 1, none⟩ (.string xh)).setCell ⟨B, 3, none⟩ (.string xf) = Z at hHeld tX ⊢
      obtain ⟨hbZ, hoZ⟩ := HCW.out Z tX
      obtain ⟨HQ1, HQ2⟩ := HJ.out Z hbZ hoZ
      have HQ : Hid _ := HQ1
      obtain ⟨⟨o0, p0⟩, r0⟩ := HQ2 0 (by omega)
      obtain ⟨⟨o1, p1⟩, r1⟩ := HQ2 1 (by omega)
      obtain ⟨⟨o2, p2⟩, r2⟩ := HQ2 2 (by omega)
      obtain ⟨⟨o3, p3⟩, r3⟩ := HQ2 3 (by omega)
      obtain ⟨⟨o4, p4⟩, r4⟩ := HQ2 4 (by omega)
      simp only [Nat.add_zero] at p0 r0
      have a0 := hHeld.cell 0
      have a1 := hHeld.cell 1
      have a2 := hHeld.cell 2
      have a3 := hHeld.cell 3
      have a4 := hHeld.cell 4
      simp only [List.getElem?_toArray, List.getElem?_cons_succ, List.getElem?_cons_zero] at a0 a1 a2 a3 a4
      clear HQ1 HQ2 HJ HCW hbZ hoZ
      go_wp2
      go_roundw
      case rel => exact ⟨j + 1, by omega, by go_num, HQ⟩
      case measure => simp [intOf]; omega
    · have hjn' : decide (j < N) = false := by simpa using hjn
      have HE : Hid (wr.ownsRow w.heap.size 65 5 (.slice (some ⟨w.heap.size, 0, none⟩) N N) N (bC ds) ∧ Below w.heap.size w wr) := by
        have := HC.out
        rw [show j = ds.length by have := HN.out; omega, dTo_all] at this
        exact this
      clear HC
      go_wp2
      go_ret
      exact ⟨_, rfl, HE.out.1, HE.out.2⟩

end Cu
end Go.Proofs.YtnjgdfmldjgloaaGreat

/- What Hosts, Bindings and Deepest tell. -/
namespace Go.Proofs.YtnjgdfmldjgloaaGreat
open Go.RowKit
open Pl
namespace Cu

def rootB : ByteArray := ⟨#[0]⟩
theorem root_as (n : ByteArray) : (n.toList == [0]) = decide (n = rootB) := by
  have h := str_eqd n rootB
  rw [show rootB.toList = [0] from by rw [ByteArray.toList_eq]; rfl] at h
  exact h
theorem fd_size {n : ByteArray} (hn : n.size ≤ maxLen) : (fdB n).size ≤ maxLen := by
  have h1 := data_len n
  have h2 := data_len (fdB n)
  rw [fdB_list] at h2
  have h3 : (foldR n.data.toList).length ≤ n.data.toList.length := by
    unfold foldR
    split
    · rw [fold_len]; exact Nat.le_refl _
    · simp
  omega
def hostsP (Hs : List ByteArray) (L : List Pr) (cn : ByteArray) (now : Int) : List ByteArray := if fdB cn = rootB then Hs else match liveAt L (fdB cn) now with | some p => p.1.hs | none => []
def bindP (Hb : List Bn) (L : List Pr) (cn : ByteArray) (now : Int) : List Bn := if fdB cn = rootB then Hb else match liveAt L (fdB cn) now with | some p => (liveB now p.1.bs).map (tellB (fdB cn) p.1) | none => []
theorem liveAt_some {L : List Pr} {n : ByteArray} {now : Int} {p : Pr} (h : liveAt L n now = some p) : p ∈ L ∧ p.1.n = n ∧ now < p.1.u := by
  unfold liveAt at h
  cases ha : atL L n with
  | none => rw [ha] at h; cases h
  | some q =>
    rw [ha] at h
    simp only at h
    split at h
    · cases h
      exact ⟨(atL_some ha).1, (atL_some ha).2, by assumption⟩
    · cases h
theorem ptr_none (u : World) : (binOp .neq 80 (.pointer none) (.pointer none)).run Tryz.prog u = .ok (.bool false) u := by kernel_rfl
theorem ptr_some (g : Nat) (u : World) : (binOp .neq 80 (.pointer (some ⟨g, 0, none⟩)) (.pointer none)).run Tryz.prog u = .ok (.bool true) u := by kernel_rfl
theorem ptr_none' (u : World) : (binOp .eql 80 (.pointer none) (.pointer none)).run Tryz.prog u = .ok (.bool true) u := by kernel_rfl
theorem ptr_some' (g : Nat) (u : World) : (binOp .eql 80 (.pointer (some ⟨g, 0, none⟩)) (.pointer none)).run Tryz.prog u = .ok (.bool false) u := by kernel_rfl
theorem obj_some (g : Nat) (u : World) : (binOp .eql 25 (.pointer (some ⟨g, 0, none⟩)) (.pointer none)).run Tryz.prog u = .ok (.bool false) u := by kernel_rfl
theorem obj_none (u : World) : (binOp .eql 25 (.pointer none) (.pointer none)).run Tryz.prog u = .ok (.bool true) u := by kernel_rfl

set_option maxRecDepth 20000 in
set_option maxHeartbeats 1000000 in
theorem hosts_any {w : World} {o : OB} {Hs : List ByteArray} {Hb : List Bn} {L : List Pr} (h : St w o Hs Hb L) (cn : ByteArray) (now : Int) (hn : cn.size ≤ maxLen) :
    Calls Tryz.prog 23 #[.pointer (some ⟨o.gs, 0, none⟩), .string cn, .int .i64 now] w fun e w' => ∃ v', e = .returned v' ∧ w'.ownsRow w.heap.size 9 1 v' (hostsP Hs L cn now).length (tC (hostsP Hs L cn now)) ∧ Below w.heap.size w w' := by
  have HST : Hid (St w o Hs Hb L) := h
  have hfs := fd_size hn
  have hob := obj_some o.gs
  obtain ⟨f, hf⟩ : ∃ f, f = fdB cn := ⟨_, rfl⟩
  have hro := root_as f
  by_cases hr : f = rootB
  · have e0 : hostsP Hs L cn now = Hs := by unfold hostsP; rw [if_pos (by rw [← hf]; exact hr)]
    rw [e0]
    rw [decide_eq_true hr] at hro
    rw [hf] at hro
    clear e0 h hr
    go_enter Tryz.func23, Tryz.ntmps23
    go_wp2_with (first
      | (go_at_call 42; go_must (refine (keyOf_any cn _ hn).mono ?_); rintro e w1 ⟨rfl, b1⟩; have HB1 : Hid (Below w.heap.size w (w1.alloc (.cells #[.string (fdB cn)] 76))) := lay b1 _; have k1 := Blk.new w1 #[.string (fdB cn)] 76; have d0 := k1.cell 0; simp only [List.getElem?_toArray, List.getElem?_cons_zero] at d0; have c0 : (w1.alloc (.cells #[.string (fdB cn)] 76)).cell? ⟨o.gs, 0, none⟩ = some o.hv := ((HST.out.below HB1.out).rest.blk.cell 0); have hcp := copyNames_any o.hv Hs _ (Row.of_own (HST.out.below HB1.out).rest.hosts) (by have := HST.out.hok.1; omega) HST.out.hok.2.1; obtain ⟨yh, ch, hhv⟩ := row_shape (HST.out.rest.hosts); rw [hhv] at c0 hcp; clear b1)
      | (go_at_call 63; go_must (refine hcp.mono ?_); rintro e w2 ⟨v2, rfl, o2, b2⟩))
    go_ret
    exact ⟨_, rfl, own_base o2 HB1.out.size, next HB1.out b2⟩
  · rw [decide_eq_false hr] at hro
    have e0 : hostsP Hs L cn now = (match liveAt L (fdB cn) now with | some p => p.1.hs | none => []) := by unfold hostsP; rw [if_neg (by rw [← hf]; exact hr)]
    rw [e0]
    rw [hf] at hro
    have hlv := fun (U : World) (hU : Below w.heap.size w U) => live_any (h.below hU) (fdB cn) now hfs
    cases hla : liveAt L (fdB cn) now with
    | none =>
      simp only
      rw [hla] at hlv
      have hpn := ptr_none
      clear e0 h hr hla
      unfold ptrOf at hlv
      simp only at hlv
      go_enter Tryz.func23, Tryz.ntmps23
      go_wp2_with (first
        | (go_at_call 42; go_must (refine (keyOf_any cn _ hn).mono ?_); rintro e w1 ⟨rfl, b1⟩; have HB1 : Hid (Below w.heap.size w (w1.alloc (.cells #[.string (fdB cn)] 76))) := lay b1 _; have k1 := Blk.new w1 #[.string (fdB cn)] 76; have d0 := k1.cell 0; simp only [List.getElem?_toArray, List.getElem?_cons_zero] at d0; have hl1 := hlv _ HB1.out; clear b1)
        | (go_at_call 61; go_must (refine hl1.mono ?_); rintro e w2 ⟨rfl, b2⟩))
      go_ret
      exact ⟨_, rfl, World.ownsRow_nil _ _ _ _, next HB1.out b2⟩
    | some p =>
      simp only
      rw [hla] at hlv
      obtain ⟨hpL, _, _⟩ := liveAt_some hla
      have HCU : Hid (∀ U, Below w.heap.size w U → CutAt U p.2 p.1) := fun U hU => (h.below hU).rest.cuts p hpL
      unfold ptrOf at hlv
      simp only at hlv
      obtain ⟨pg, hpg⟩ : ∃ pg, pg = p.2.g := ⟨_, rfl⟩
      rw [← hpg] at hlv
      have HPG : Hid (pg = p.2.g) := hpg
      have hpn := ptr_some pg
      clear e0 h hr hla hpg
      go_enter Tryz.func23, Tryz.ntmps23
      go_wp2_with (first
        | (go_at_call 42; go_must (refine (keyOf_any cn _ hn).mono ?_); rintro e w1 ⟨rfl, b1⟩; have HB1 : Hid (Below w.heap.size w (w1.alloc (.cells #[.string (fdB cn)] 76))) := lay b1 _; have k1 := Blk.new w1 #[.string (fdB cn)] 76; have d0 := k1.cell 0; simp only [List.getElem?_toArray, List.getElem?_cons_zero] at d0; have hl1 := hlv _ HB1.out; clear b1)
        | (go_at_call 61; go_must (refine hl1.mono ?_); rintro e w2 ⟨rfl, b2⟩; have HB2 : Hid (Below w.heap.size w w2) := next HB1.out b2; have hc2 := HCU.out w2 HB2.out; have c0 : w2.cell? ⟨pg, 0, none⟩ = some p.2.hv := (by rw [HPG.out]; exact hc2.raw.blk.cell 0); have hcp := copyNames_any p.2.hv p.1.hs _ (Row.of_own hc2.raw.hosts) (by have := hc2.ok.hlen; omega) hc2.ok.hnm; obtain ⟨yh, ch, hhv⟩ := row_shape hc2.raw.hosts; rw [hhv] at c0 hcp; clear hc2 b2)
        | (go_at_call 63; go_must (refine hcp.mono ?_); rintro e w3 ⟨v3, rfl, o3, b3⟩))
      go_ret
      exact ⟨_, rfl, own_base o3 HB2.out.size, next HB2.out b3⟩

theorem tell_ok {c : Ct} (h : OkC c) {n : ByteArray} (hn : n.size ≤ 255) (now : Int) : ∀ d ∈ (liveB now c.bs).map (tellB n c), OkB d := by
  intro d hd
  obtain ⟨x, hx, rfl⟩ := List.mem_map.1 hd
  refine ⟨hn, ?_, h.fr⟩
  show (c.hs.getD x.h ⟨#[]⟩).size ≤ 255
  have hx2 := h.at' x (List.mem_filter.1 hx).1
  rw [List.getD_eq_getElem?_getD, List.getElem?_eq_getElem hx2]
  exact h.hnm _ (List.getElem_mem _)
set_option maxRecDepth 20000 in
set_option maxHeartbeats 1000000 in
theorem binds_any {w : World} {o : OB} {Hs : List ByteArray} {Hb : List Bn} {L : List Pr} (h : St w o Hs Hb L) (cn : ByteArray) (now : Int) (hn : cn.size ≤ maxLen) :
    Calls Tryz.prog 22 #[.pointer (some ⟨o.gs, 0, none⟩), .string cn, .int .i64 now] w fun e w' => ∃ v', e = .returned v' ∧ w'.ownsRow w.heap.size 65 5 v' (bindP Hb L cn now).length (bC (bindP Hb L cn now)) ∧ Below w.heap.size w w' := by
  have HST : Hid (St w o Hs Hb L) := h
  have hfs := fd_size hn
  have hob := obj_some o.gs
  obtain ⟨f, hf⟩ : ∃ f, f = fdB cn := ⟨_, rfl⟩
  have hro := root_as f
  by_cases hr : f = rootB
  · have e0 : bindP Hb L cn now = Hb := by unfold bindP; rw [if_pos (by rw [← hf]; exact hr)]
    rw [e0]
    rw [decide_eq_true hr] at hro
    rw [hf] at hro
    clear e0 h hr
    go_enter Tryz.func22, Tryz.ntmps22
    go_wp2_with (first
      | (go_at_call 42; go_must (refine (keyOf_any cn _ hn).mono ?_); rintro e w1 ⟨rfl, b1⟩; have HB1 : Hid (Below w.heap.size w (w1.alloc (.cells #[.string (fdB cn)] 76))) := lay b1 _; have k1 := Blk.new w1 #[.string (fdB cn)] 76; have d0 := k1.cell 0; simp only [List.getElem?_toArray, List.getElem?_cons_zero] at d0; have c0 : (w1.alloc (.cells #[.string (fdB cn)] 76)).cell? ⟨o.gs, 1, none⟩ = some o.bv := ((HST.out.below HB1.out).rest.blk.cell 1); have hcp := copyBindings_any o.bv Hb _ (Row.of_own (HST.out.below HB1.out).rest.hints) (by have := HST.out.hok.2.2.1; omega) HST.out.hok.2.2.2; obtain ⟨yh, ch, hhv⟩ := row_shape (HST.out.rest.hints); rw [hhv] at c0 hcp; clear b1)
      | (go_at_call 60; go_must (refine hcp.mono ?_); rintro e w2 ⟨v2, rfl, o2, b2⟩))
    go_ret
    exact ⟨_, rfl, own_base o2 HB1.out.size, next HB1.out b2⟩
  · rw [decide_eq_false hr] at hro
    have e0 : bindP Hb L cn now = (match liveAt L (fdB cn) now with | some p => (liveB now p.1.bs).map (tellB (fdB cn) p.1) | none => []) := by unfold bindP; rw [if_neg (by rw [← hf]; exact hr)]
    rw [e0]
    rw [hf] at hro
    have hlv := fun (U : World) (hU : Below w.heap.size w U) => live_any (h.below hU) (fdB cn) now hfs
    cases hla : liveAt L (fdB cn) now with
    | none =>
      simp only
      rw [hla] at hlv
      have hpn := ptr_none
      clear e0 h hr hla
      unfold ptrOf at hlv
      simp only at hlv
      go_enter Tryz.func22, Tryz.ntmps22
      go_wp2_with (first
        | (go_at_call 42; go_must (refine (keyOf_any cn _ hn).mono ?_); rintro e w1 ⟨rfl, b1⟩; have HB1 : Hid (Below w.heap.size w (w1.alloc (.cells #[.string (fdB cn)] 76))) := lay b1 _; have k1 := Blk.new w1 #[.string (fdB cn)] 76; have d0 := k1.cell 0; simp only [List.getElem?_toArray, List.getElem?_cons_zero] at d0; have hl1 := hlv _ HB1.out; clear b1)
        | (go_at_call 61; go_must (refine hl1.mono ?_); rintro e w2 ⟨rfl, b2⟩))
      go_ret
      exact ⟨_, rfl, World.ownsRow_nil _ _ _ _, next HB1.out b2⟩
    | some p =>
      simp only
      rw [hla] at hlv
      obtain ⟨hpL, hpn2, _⟩ := liveAt_some hla
      have HCU : Hid (∀ U, Below w.heap.size w U → CutAt U p.2 p.1) := fun U hU => (h.below hU).rest.cuts p hpL
      unfold ptrOf at hlv
      simp only at hlv
      obtain ⟨pg, hpg⟩ : ∃ pg, pg = p.2.g := ⟨_, rfl⟩
      rw [← hpg] at hlv
      have HPG : Hid (pg = p.2.g) := hpg
      have hpn := ptr_some pg
      have hf255 : (fdB cn).size ≤ 255 := by rw [← hpn2]; exact (h.rest.cuts p hpL).ok.nm.size
      have HLEN : Hid (((liveB now p.1.bs).map (tellB (fdB cn) p.1)).length ≤ 1000) := by
        have h1 : (liveB now p.1.bs).length ≤ p.1.bs.length := List.length_filter_le _ _
        have := (h.rest.cuts p hpL).ok.len
        unfold Hid
        rw [List.length_map]; omega
      clear e0 h hr hla hpg hpn2
      go_enter Tryz.func22, Tryz.ntmps22
      go_wp2_with (first
        | (go_at_call 42; go_must (refine (keyOf_any cn _ hn).mono ?_); rintro e w1 ⟨rfl, b1⟩; have HB1 : Hid (Below w.heap.size w (w1.alloc (.cells #[.string (fdB cn)] 76))) := lay b1 _; have k1 := Blk.new w1 #[.string (fdB cn)] 76; have d0 := k1.cell 0; simp only [List.getElem?_toArray, List.getElem?_cons_zero] at d0; have hl1 := hlv _ HB1.out; clear b1)
        | (go_at_call 61; go_must (refine hl1.mono ?_); rintro e w2 ⟨rfl, b2⟩; have HB2 : Hid (Below w.heap.size w w2) := next HB1.out b2; have k2 := (k1.below b2).cell 0; simp only [List.getElem?_toArray, List.getElem?_cons_zero] at k2; have hbi := bindings_any (HCU.out w2 HB2.out) (fdB cn) now; rw [← HPG.out] at hbi; have HOK : Hid (OkC p.1) := (HCU.out w2 HB2.out).ok; clear b2)
        | (go_at_call 62; go_must (refine hbi.mono ?_); rintro e w3 ⟨v3, rfl, o3, b3⟩; have HB3 : Hid (Below w.heap.size w w3) := next HB2.out b3; have ro3 := Row.of_own o3; rw [show (liveB now p.1.bs).length = ((liveB now p.1.bs).map (tellB (fdB cn) p.1)).length from (List.length_map ..).symm] at ro3; have hcp := copyBindings_any v3 _ w3 ro3 HLEN.out (tell_ok HOK.out hf255 now); obtain ⟨yh, ch, rfl⟩ := row_shape o3; clear o3 b3 ro3)
        | (go_at_call 60; go_must (refine hcp.mono ?_); rintro e w4 ⟨v4, rfl, o4, b4⟩))
      go_ret
      exact ⟨_, rfl, own_base o4 HB3.out.size, next HB3.out b4⟩

end Cu
end Go.Proofs.YtnjgdfmldjgloaaGreat

/- What Deepest tells. -/
namespace Go.Proofs.YtnjgdfmldjgloaaGreat
open Go.RowKit
open Pl
namespace Cu

def lastB (a : ByteArray) (k : Nat) : ByteArray := ⟨(lastN a.data.toList k).toArray⟩
theorem lastB_list (a : ByteArray) (k : Nat) : (lastB a k).data.toList = lastN a.data.toList k := by simp [lastB]
def deepK (lv : Nat → Bool) : Nat → Nat
  | 0 => 0
  | k + 1 => if lv (k + 1) then k + 1 else deepK lv k
def lvOf (L : List Pr) (f : ByteArray) (now : Int) (k : Nat) : Bool := (liveAt L (lastB f k) now).isSome
/-- The deepest live cut above a name. -/
def deepP (L : List Pr) (n : ByteArray) (now : Int) : ByteArray := if isName n.data.toList then lastB (fdB n) (deepK (lvOf L (fdB n) now) (labs (fdB n).data.toList).length) else rootB
theorem fd_name {n : ByteArray} (h : isName n.data.toList = true) : isName (fdB n).data.toList = true ∧ foldL (fdB n).data.toList = (fdB n).data.toList := by
  have e1 : foldR n.data.toList = foldL n.data.toList := by unfold foldR; rw [if_pos h]
  refine ⟨?_, ?_⟩
  · rw [fdB_list, e1, name_fold]; exact h
  · rw [fdB_list, e1, fold_twice]
theorem fd_none {n : ByteArray} (h : isName n.data.toList = false) : fdB n = ⟨#[]⟩ := by
  refine bytes_ext ?_
  rw [fdB_list]
  unfold foldR
  rw [if_neg (by simp [h])]
theorem last_zero (f : ByteArray) : lastB f 0 = rootB := by
  refine bytes_ext ?_
  rw [lastB_list]
  unfold lastN
  rw [Nat.sub_zero, List.drop_length]; rfl
theorem last_all {f : ByteArray} (h : isName f.data.toList = true) : lastB f (labs f.data.toList).length = f := by
  refine bytes_ext ?_
  rw [lastB_list]
  unfold lastN
  rw [Nat.sub_self, List.drop_zero]
  exact (enc_of h).1.symm
theorem last_par {f : ByteArray} (h : isName f.data.toList = true) {k : Nat} (hk : k + 1 ≤ (labs f.data.toList).length) : parR (lastB f (k + 1)).data.toList = some (lastB f k).data.toList := by
  obtain ⟨h1, h2, _⟩ := last_name h (k + 1) hk
  rw [lastB_list, lastB_list]
  unfold parR
  rw [h2, if_pos ⟨h1, by rw [List.length_drop]; omega⟩, List.drop_drop]
  unfold lastN
  rw [show (labs f.data.toList).length - (k + 1) + 1 = (labs f.data.toList).length - k by omega]
theorem last_root {f : ByteArray} (h : isName f.data.toList = true) {k : Nat} (hk : k + 1 ≤ (labs f.data.toList).length) : lastB f (k + 1) ≠ rootB := by
  intro e
  obtain ⟨h1, h2, h3⟩ := last_name h (k + 1) hk
  have := congrArg (fun x : ByteArray => (labs x.data.toList).length) e
  simp only [lastB_list] at this
  rw [h2, List.length_drop] at this
  have e2 : (labs rootB.data.toList).length = 0 := by decide
  omega
theorem last_size {f : ByteArray} (h : isName f.data.toList = true) {k : Nat} (hk : k ≤ (labs f.data.toList).length) : (lastB f k).size ≤ 255 := by
  obtain ⟨h1, _, _⟩ := last_name h k hk
  have := (name_some h1).1
  have e := data_len (lastB f k)
  rw [lastB_list] at e
  omega
set_option maxRecDepth 20000 in
set_option maxHeartbeats 1000000 in
theorem deepest_any {w : World} {o : OB} {Hs : List ByteArray} {Hb : List Bn} {L : List Pr} (h : St w o Hs Hb L) (cn : ByteArray) (now : Int) (hn : cn.size ≤ maxLen) :
    Calls Tryz.prog 24 #[.pointer (some ⟨o.gs, 0, none⟩), .string cn, .int .i64 now] w fun e w' => e = .returned (.string (deepP L cn now)) ∧ Below w.heap.size w w' := by
  have hob := obj_some o.gs
  cases hnm : isName cn.data.toList with
  | false =>
    have e0 : deepP L cn now = rootB := by unfold deepP; rw [hnm]; rfl
    rw [e0]
    unfold rootB
    have hf := fd_none hnm
    unfold fdB at hf
    have hfo := fun u => fold_any cn u hn
    rw [hf] at hfo
    clear e0 hf hnm h
    go_enter Tryz.func24, Tryz.ntmps24
    go_wp2_with (go_at_call 32; go_must (refine (hfo _).mono ?_); rintro e w1 ⟨rfl, b1⟩)
    go_ret
    exact ⟨rfl, b1⟩
  | true =>
    have e0 : deepP L cn now = lastB (fdB cn) (deepK (lvOf L (fdB cn) now) (labs (fdB cn).data.toList).length) := by unfold deepP; rw [hnm]; rfl
    rw [e0]
    obtain ⟨hf1, hf2⟩ := fd_name hnm
    have hfo := fun u => fold_any cn u hn
    have efd : (⟨(foldR cn.data.toList).toArray⟩ : ByteArray) = fdB cn := rfl
    rw [efd] at hfo
    obtain ⟨f, hf⟩ : ∃ f, f = fdB cn := ⟨_, rfl⟩
    rw [← hf] at hf1 hfo ⊢
    obtain ⟨n, hnn⟩ : ∃ n, n = (labs f.data.toList).length := ⟨_, rfl⟩
    rw [← hnn]
    have HLV : Hid (∀ k, k ≤ n → ∀ U, Below w.heap.size w U → Calls Tryz.prog 61 #[.pointer (some ⟨o.gs, 0, none⟩), .agg #[.string (lastB f k)], .int .i64 now] U fun e w' => e = .returned (ptrOf (liveAt L (lastB f k) now)) ∧ Below U.heap.size U w') := fun k hk U hU => live_any (h.below hU) (lastB f k) now (by have := last_size hf1 (k := k) (by omega); unfold maxLen; omega)
    have HPA : Hid (∀ k, k + 1 ≤ n → ∀ U, Calls Tryz.prog 64 #[.string (lastB f (k + 1))] U fun e w' => e = .returned (.tuple #[.string (lastB f k), .int .i64 0]) ∧ Below U.heap.size U w') := fun k hk U => parent_ok (lastB f (k + 1)) (lastB f k) U (by have := last_size hf1 (k := k + 1) (by omega); unfold maxLen; omega) (last_par hf1 (by omega))
    have HRT : Hid (∀ k, k + 1 ≤ n → ((lastB f (k + 1)).toList == [0]) = false) := fun k hk => by rw [root_as, decide_eq_false (last_root hf1 (by omega))]
    have HLB : Hid (∀ k, k ≤ n → (labs (lastB f k).data.toList).length = k) := fun k hk => by rw [lastB_list, (last_name hf1 k (by omega)).2.1, List.length_drop]; omega
    have HR0 : Hid (((lastB f 0).toList == [0]) = true) := by unfold Hid; rw [root_as, last_zero]; simp
    have HFN : Hid (f = lastB f n) := by unfold Hid; rw [hnn, last_all hf1]
    have hfe : (f.toList == []) = false := by
      have h1 := str_eqd f ⟨#[]⟩
      rw [show (⟨#[]⟩ : ByteArray).toList = [] from by rw [ByteArray.toList_eq]] at h1
      rw [h1, decide_eq_false]
      intro e
      rw [e] at hf1
      exact absurd hf1 (by decide)
    obtain ⟨A, hA⟩ : ∃ A, A = f := ⟨_, rfl⟩
    have HA : Hid (A = lastB f n) := by unfold Hid; rw [hA]; exact HFN.out
    rw [← hA] at hfo hfe
    clear e0 hf1 hf2 hf hnn efd hnm h HFN hA
    go_enter Tryz.func24, Tryz.ntmps24
    go_wp2_with (go_at_call 32; go_must (refine (hfo _).mono ?_); rintro e w1 ⟨rfl, b1⟩; have HB1 : Hid (Below w.heap.size w w1) := b1; clear b1)
    go_loopw [7] (fun p wr => ∃ (k : Nat) (B : ByteArray), k ≤ n ∧ p = .string B ∧ Hid (B = lastB f k) ∧ Hid (Below w.heap.size w wr) ∧ Hid (deepK (lvOf L f now) n = deepK (lvOf L f now) k)) (fun p _ => match p with | .string b => (labs b.data.toList).length | _ => 0)
    case atStart => exact ⟨n, A, Nat.le_refl _, rfl, HA, HB1, rfl⟩
    case round =>
      clear HB1 HA hfo hfe
      obtain ⟨k, B, hk, rfl, HB, HBE, HDK⟩ := hrel
      cases k with
      | zero =>
        have hr0 : (B.toList == [0]) = true := by rw [HB.out]; exact HR0.out
        have HF : Hid (B = lastB f (deepK (lvOf L f now) n)) := by unfold Hid; rw [HDK.out]; exact HB.out
        go_wp2
        go_ret
        exact ⟨ret_str HF.out, HBE.out⟩
      | succ k =>
        have hr0 : (B.toList == [0]) = false := by rw [HB.out]; exact HRT.out k hk
        have hl := HLV.out (k + 1) hk wr HBE.out
        have hpa := HPA.out k hk
        rw [← HB.out] at hl hpa
        have hm1 := HLB.out (k + 1) hk
        rw [← HB.out] at hm1
        have HM1 : Hid ((labs B.data.toList).length = k + 1) := hm1
        have HM2 : Hid ((labs (lastB f k).data.toList).length = k) := HLB.out k (by omega)
        have HDS : Hid (deepK (lvOf L f now) (k + 1) = if lvOf L f now (k + 1) then k + 1 else deepK (lvOf L f now) k) := rfl
        have HLO : Hid (lvOf L f now (k + 1) = (liveAt L B now).isSome) := by unfold Hid lvOf; rw [HB.out]
        obtain ⟨C, hC⟩ : ∃ C, C = lastB f k := ⟨_, rfl⟩
        have HC : Hid (C = lastB f k) := hC
        rw [← hC] at hpa HM2
        clear hm1 hC
        cases hla : liveAt L B now with
        | none =>
          rw [hla] at hl
          unfold ptrOf at hl
          simp only at hl
          have hpn := ptr_none'
          have HDN : Hid (deepK (lvOf L f now) n = deepK (lvOf L f now) k) := by unfold Hid; rw [HDK.out, HDS.out, HLO.out, hla]; rfl
          clear hla
          go_wp2_with (first
            | (go_at_call 61; go_must (refine hl.mono ?_); rintro e w2 ⟨rfl, b2⟩)
            | (go_at_call 64; go_must (refine (hpa _).mono ?_); rintro e w3 ⟨rfl, b3⟩))
          go_roundw
          case rel => exact ⟨k, C, by omega, rfl, HC, next (next HBE.out b2) b3, HDN⟩
          case measure =>
            have h1 := HM1.out
            have h2 := HM2.out
            show (labs C.data.toList).length < (labs B.data.toList).length
            omega
        | some p =>
          rw [hla] at hl
          unfold ptrOf at hl
          simp only at hl
          have hpn := ptr_some' p.2.g
          have HF : Hid (B = lastB f (deepK (lvOf L f now) n)) := by unfold Hid; rw [HDK.out, HDS.out, HLO.out, hla]; exact HB.out
          clear hla
          go_wp2_with (go_at_call 61; go_must (refine hl.mono ?_); rintro e w2 ⟨rfl, b2⟩)
          go_ret
          exact ⟨ret_str HF.out, next HBE.out b2⟩

end Cu
end Go.Proofs.YtnjgdfmldjgloaaGreat
