/- What Put of package wire gives. -/
import Derived.Test.YtcapankhobnfeaaXP5
import Derived.Deep.RegionHeld3
import Derived.Deep.RegionLawGrows
namespace Go.Proofs.Ytcapankhobnfeaa
open Go.RowKit
open Pl

/-- A message as values. -/
def msgC (h : Hd) (v0 v1 v2 v3 : Value) : Array Value := #[.int .i64 h.id, .bool h.qr, .int .i64 h.op, .bool h.aa, .bool h.tc, .bool h.rd, .bool h.ra, .int .i64 h.z, .int .i64 h.rc, v0, v1, v2, v3]
/-- A message as it lies. -/
def MRow (w : World) (H : Array Value) (m : Ms) : Prop := ∃ v0 v1 v2 v3, H = msgC m.h v0 v1 v2 v3 ∧ QRow w v0 m.qs ∧ RRow w v1 m.an ∧ RRow w v2 m.ns ∧ RRow w v3 m.ar
theorem MRow.below {w w' : World} {H : Array Value} {m : Ms} (h : MRow w H m) (hb : Below w.heap.size w w') : MRow w' H m := by
  obtain ⟨v0, v1, v2, v3, h0, h1, h2, h3, h4⟩ := h
  exact ⟨v0, v1, v2, v3, h0, h1.below hb, h2.below hb, h3.below hb, h4.below hb⟩

theorem mayH_counts {h : Hd} {a b c d : Int} (hh : mayHd h = true) (ha : 0 ≤ a ∧ a ≤ 64) (hb : 0 ≤ b ∧ b ≤ 64) (hc : 0 ≤ c ∧ c ≤ 64) (hd : 0 ≤ d ∧ d ≤ 64) : mayH h.id h.op h.z h.rc a b c d = true := by
  unfold mayHd at hh
  rw [mayH_iff] at hh ⊢
  obtain ⟨h1, h2, h3, h4, _⟩ := hh
  exact ⟨h1, h2, h3, h4, fit_iff.2 (by omega), fit_iff.2 (by omega), fit_iff.2 (by omega), fit_iff.2 (by omega)⟩
theorem mayHd_of {h : Hd} {a b c d : Int} (hh : mayH h.id h.op h.z h.rc a b c d = true) : mayHd h = true := by
  unfold mayHd
  rw [mayH_iff] at hh ⊢
  obtain ⟨h1, h2, h3, h4, _⟩ := hh
  exact ⟨h1, h2, h3, h4, by decide, by decide, by decide, by decide⟩
theorem mayM_head {m : Ms} (h : mayH m.h.id m.h.op m.h.z m.h.rc (m.qs.length : Int) (m.an.length : Int) (m.ns.length : Int) (m.ar.length : Int) = false) : mayM m = false := by
  cases hm : mayM m with
  | false => rfl
  | true =>
    unfold mayM at hm
    simp only [Bool.and_eq_true] at hm
    obtain ⟨hh, ⟨⟨h0, h1⟩, h2⟩, h3⟩ := hm
    have := few_iff h0
    have := few_iff h1
    have := few_iff h2
    have := few_iff h3
    rw [mayH_counts hh (by omega) (by omega) (by omega) (by omega)] at h
    simp at h
theorem putV_no {m : Ms} (h : mayM m = false) : putV m = .tuple #[.string ⟨#[]⟩, .int .i64 700] := by unfold putV; rw [h]; rfl
theorem putV_yes {m : Ms} (h : mayM m = true) : putV m = stV (putSt m) := by unfold putV; rw [h]; rfl
theorem stR_head (m : Ms) : (some (([], []) : St)).bind (fun x => stR x (headS m)) = some ((headS m).data.toList, []) := by
  have h := headS_len m
  rw [data_len] at h
  simp only [Option.bind_some, stR, rawE, rawB]
  rw [if_pos (by rw [h]; decide), if_pos (by rw [h]; decide)]; rfl

theorem wo_new {w u : World} {h : Nat} (hh : Holds w u h [] []) : WO w (u.alloc (.cells #[.pointer (some ⟨h, 0, none⟩), .bool false] 112)) u.heap.size h (some ([], [])) :=
  ⟨[], [], false, ⟨Blk.new u _ _, hh.out.size, hh.below (lay (Below.refl _ _) _)⟩, .inl ⟨rfl, rfl⟩⟩

set_option maxRecDepth 20000 in
set_option maxHeartbeats 4000000 in
theorem put_w (H : Array Value) (m : Ms) (w : World) (hm : MRow w H m) :
    Calls Try.prog 31 #[.agg H] w fun e w' => e = .returned (putV m) ∧ Below w.heap.size w w' := by
  obtain ⟨v0, v1, v2, v3, rfl, h0, h1, h2, h3⟩ := hm
  obtain ⟨x0, c0, rfl⟩ := row_slice h0.1
  obtain ⟨x1, c1, rfl⟩ := row_slice h1.1
  obtain ⟨x2, c2, rfl⟩ := row_slice h2.1
  obtain ⟨x3, c3, rfl⟩ := row_slice h3.1
  obtain ⟨P, hP⟩ : ∃ P, P = putV m := ⟨_, rfl⟩
  rw [← hP]
  have HP : Hid (P = putV m) := hP
  have hb : Below w.heap.size w w := Below.refl _ _
  have H0 : Hid (QRow w (.slice x0 m.qs.length c0) m.qs) := h0
  have H1 : Hid (RRow w (.slice x1 m.an.length c1) m.an) := h1
  have H2 : Hid (RRow w (.slice x2 m.ns.length c2) m.ns) := h2
  have H3 : Hid (RRow w (.slice x3 m.ar.length c3) m.ar) := h3
  have hput := fun u => put_any m.h.id m.h.qr m.h.op m.h.aa m.h.tc m.h.rd m.h.ra m.h.z m.h.rc (m.qs.length : Int) (m.an.length : Int) (m.ns.length : Int) (m.ar.length : Int) u
  have hpar := fun (u : World) (hu : Below w.heap.size w u) => mayParts_any (msgC m.h (.slice x0 m.qs.length c0) (.slice x1 m.an.length c1) (.slice x2 m.ns.length c2) (.slice x3 m.ar.length c3)) m.h.id m.h.qr m.h.op m.h.aa m.h.tc m.h.rd m.h.ra m.h.z m.h.rc _ _ _ _ m.qs m.an m.ns m.ar u (H0.out.below hu) (H1.out.below hu) (H2.out.below hu) (H3.out.below hu) rfl
  have e0 : Hid ((few mayQ m.qs && few mayR m.an && few mayR m.ns && few mayR m.ar) = true → mayHd m.h = true → mayM m = true) := fun a b => by unfold mayM; rw [a, b]; rfl
  have e1 : Hid ((few mayQ m.qs && few mayR m.an && few mayR m.ns && few mayR m.ar) = false → mayM m = false) := fun a => by unfold mayM; rw [a, Bool.and_false]
  have e2 : Hid (mayH m.h.id m.h.op m.h.z m.h.rc (m.qs.length : Int) (m.an.length : Int) (m.ns.length : Int) (m.ar.length : Int) = false → mayM m = false) := mayM_head
  have e3 : Hid (mayH m.h.id m.h.op m.h.z m.h.rc (m.qs.length : Int) (m.an.length : Int) (m.ns.length : Int) (m.ar.length : Int) = true → mayHd m.h = true) := mayHd_of
  obtain ⟨T, hT⟩ : ∃ T, T = headS m := ⟨_, rfl⟩
  have e4 : putS m.h.id (wordH m.h.qr m.h.op m.h.aa m.h.tc m.h.rd m.h.ra m.h.z m.h.rc) (m.qs.length : Int) (m.an.length : Int) (m.ns.length : Int) (m.ar.length : Int) 4 = T := hT.symm
  have HTS : Hid (T.size ≤ maxLen) := by unfold Hid maxLen; rw [hT, ← data_len, headS_len]; decide
  have HST : Hid (mayM m = true → P = stV (stAll stC (stAll stC (stAll stC (stAll stQ ((some (([], []) : St)).bind fun x => stR x T) m.qs) m.an) m.ns) m.ar)) := fun h => by rw [HP.out, putV_yes h, hT, stR_head]; rfl
  obtain ⟨b1, hb1⟩ : ∃ b, mayH m.h.id m.h.op m.h.z m.h.rc (m.qs.length : Int) (m.an.length : Int) (m.ns.length : Int) (m.ar.length : Int) = b := ⟨_, rfl⟩
  obtain ⟨b2, hb2⟩ : ∃ b, (few mayQ m.qs && few mayR m.an && few mayR m.ns && few mayR m.ar) = b := ⟨_, rfl⟩
  have q0 := h0.2.1
  have q1 := h1.2.1
  have q2 := h2.2.1
  have q3 := h3.2.1
  unfold maxLen at q0 q1 q2 q3
  unfold putT at hput
  simp only [hb1, e4] at hput
  simp only [hb2] at hpar
  rw [hb1] at e2 e3
  rw [hb2] at e0 e1
  clear h0 h1 h2 h3 hP hb1 hb2 e4 hT
  have KB := Blk.new w (msgC m.h (.slice x0 m.qs.length c0) (.slice x1 m.an.length c1) (.slice x2 m.ns.length c2) (.slice x3 m.ar.length c3)) 29
  have t1 : True := trivial
  have t2 : True := trivial
  obtain ⟨hd, qs, an, ns, ar⟩ := m
  obtain ⟨id, qr, op, aa, tc, rd, ra, z, rc⟩ := hd
  unfold msgC at KB hpar ⊢
  unfold headV cntV at hput
  simp only at hput hpar KB HP H0 H1 H2 H3 q0 q1 q2 q3 ⊢
  cases b1 with
  | false =>
    simp only [Bool.false_eq_true, if_false] at hput
    have HE : Hid (P = .tuple #[.string ⟨#[]⟩, .int .i64 700]) := by unfold Hid; rw [HP.out]; exact putV_no (e2.out rfl)
    go_enter Try.func31, Try.ntmps31
    go_wp2_with (go_at_call 56; go_must (refine (hput _).mono ?_); rintro e w1 ⟨rfl, b1⟩; replace hb := next (lay (lay hb _) _) b1; clear b1)
    go_ret2
    exact ⟨congrArg Ending.returned HE.out.symm, hb⟩
  | true =>
    simp only [if_true] at hput
    cases b2 with
    | false =>
      have HE : Hid (P = .tuple #[.string ⟨#[]⟩, .int .i64 700]) := by unfold Hid; rw [HP.out]; exact putV_no (e1.out rfl)
      go_enter Try.func31, Try.ntmps31
      go_wp2_with (first
        | (go_at_call 56; go_must (refine (hput _).mono ?_); rintro e w1 ⟨rfl, b1⟩; replace hb := next (lay (lay hb _) _) b1; replace KB := (KB.alloc _).below b1; clear b1; have m0 : w1.cell? ⟨w.heap.size, 0, none⟩ = some (.int .i64 id) := KB.cell 0; have m1 : w1.cell? ⟨w.heap.size, 1, none⟩ = some (.bool qr) := KB.cell 1; have m2 : w1.cell? ⟨w.heap.size, 2, none⟩ = some (.int .i64 op) := KB.cell 2; have m3 : w1.cell? ⟨w.heap.size, 3, none⟩ = some (.bool aa) := KB.cell 3; have m4 : w1.cell? ⟨w.heap.size, 4, none⟩ = some (.bool tc) := KB.cell 4; have m5 : w1.cell? ⟨w.heap.size, 5, none⟩ = some (.bool rd) := KB.cell 5; have m6 : w1.cell? ⟨w.heap.size, 6, none⟩ = some (.bool ra) := KB.cell 6; have m7 : w1.cell? ⟨w.heap.size, 7, none⟩ = some (.int .i64 z) := KB.cell 7; have m8 : w1.cell? ⟨w.heap.size, 8, none⟩ = some (.int .i64 rc) := KB.cell 8; have f9 : w1.cell? ⟨w.heap.size, 9, none⟩ = some (.slice x0 qs.length c0) := KB.cell 9; have f10 : w1.cell? ⟨w.heap.size, 10, none⟩ = some (.slice x1 an.length c1) := KB.cell 10; have f11 : w1.cell? ⟨w.heap.size, 11, none⟩ = some (.slice x2 ns.length c2) := KB.cell 11; have f12 : w1.cell? ⟨w.heap.size, 12, none⟩ = some (.slice x3 ar.length c3) := KB.cell 12)
        | (go_at_call 57; go_must (refine (hpar _ hb).mono ?_); rintro e w2 ⟨rfl, b2⟩; replace hb := next hb b2; clear b2))
      go_ret2
      exact ⟨congrArg Ending.returned HE.out.symm, hb⟩
    | true =>
      have HE := HST.out (e0.out rfl (e3.out rfl))
      obtain ⟨o1, ho1⟩ : ∃ o, o = (some (([], []) : St)).bind fun x => stR x T := ⟨_, rfl⟩
      have HO1 : Hid (o1 = (some (([], []) : St)).bind fun x => stR x T) := ho1
      rw [← ho1] at HE
      have HF : Hid (P = stV (stAll stC (stAll stC (stAll stC (stAll stQ o1 qs) an) ns) ar)) := HE
      clear HE ho1 HST e0 e1 e2 e3
      go_enter Try.func31, Try.ntmps31
      go_wp2_with (first
        | (go_at_call 56; go_must (refine (hput _).mono ?_); rintro e w1 ⟨rfl, b1⟩; replace hb := next (lay (lay hb _) _) b1; replace KB := (KB.alloc _).below b1; clear b1; have m0 : w1.cell? ⟨w.heap.size, 0, none⟩ = some (.int .i64 id) := KB.cell 0; have m1 : w1.cell? ⟨w.heap.size, 1, none⟩ = some (.bool qr) := KB.cell 1; have m2 : w1.cell? ⟨w.heap.size, 2, none⟩ = some (.int .i64 op) := KB.cell 2; have m3 : w1.cell? ⟨w.heap.size, 3, none⟩ = some (.bool aa) := KB.cell 3; have m4 : w1.cell? ⟨w.heap.size, 4, none⟩ = some (.bool tc) := KB.cell 4; have m5 : w1.cell? ⟨w.heap.size, 5, none⟩ = some (.bool rd) := KB.cell 5; have m6 : w1.cell? ⟨w.heap.size, 6, none⟩ = some (.bool ra) := KB.cell 6; have m7 : w1.cell? ⟨w.heap.size, 7, none⟩ = some (.int .i64 z) := KB.cell 7; have m8 : w1.cell? ⟨w.heap.size, 8, none⟩ = some (.int .i64 rc) := KB.cell 8; have f9 : w1.cell? ⟨w.heap.size, 9, none⟩ = some (.slice x0 qs.length c0) := KB.cell 9; have f10 : w1.cell? ⟨w.heap.size, 10, none⟩ = some (.slice x1 an.length c1) := KB.cell 10; have f11 : w1.cell? ⟨w.heap.size, 11, none⟩ = some (.slice x2 ns.length c2) := KB.cell 11; have f12 : w1.cell? ⟨w.heap.size, 12, none⟩ = some (.slice x3 ar.length c3) := KB.cell 12)
        | (go_at_call 57; go_must (refine (hpar _ hb).mono ?_); rintro e w2 ⟨rfl, b2⟩; replace hb := next hb b2; replace KB := KB.below b2; clear b2 m0 m1 m2 m3 m4 m5 m6 m7 m8 f9 f10 f11 f12)
        | (go_at_call 58; go_must (refine (new_h w _ hb).mono ?_); rintro e w3 ⟨hh, rfl, h3, b3⟩; have HH : Hid (Holds w w3 hh [] []) := h3; replace KB : Blk w3 w.heap.size _ _ := b3 _ _ _ _ KB (by decide) (by decide); replace KB := KB.alloc (.cells #[.pointer (some ⟨hh, 0, none⟩), .bool false] 112); clear h3 b3 hb)
        | (go_at_call 59; go_must (refine (wraw_any T HTS.out (wo_new HH.out)).mono ?_); rintro e w4 ⟨rfl, h4, b4⟩; have W4 : Hid (WO w w4 w3.heap.size hh o1) := (by unfold Hid; rw [HO1.out]; exact h4); replace KB := b4.blk KB (by decide) (by decide) (by decide); have f9 : w4.cell? ⟨w.heap.size, 9, none⟩ = some (.slice x0 qs.length c0) := KB.cell 9; have f10 : w4.cell? ⟨w.heap.size, 10, none⟩ = some (.slice x1 an.length c1) := KB.cell 10; have f11 : w4.cell? ⟨w.heap.size, 11, none⟩ = some (.slice x2 ns.length c2) := KB.cell 11; have f12 : w4.cell? ⟨w.heap.size, 12, none⟩ = some (.slice x3 ar.length c3) := KB.cell 12; clear h4 b4)
        | (go_at_call 60; go_must (refine (putPartQ_any _ qs H0.out W4.out).mono ?_); rintro e w5 ⟨rfl, h5, b5⟩; have W5 : Hid (WO w w5 w3.heap.size hh (stAll stQ o1 qs)) := h5; replace KB := b5.blk KB (by decide) (by decide) (by decide); clear f9 f10 f11 f12; have f10 : w5.cell? ⟨w.heap.size, 10, none⟩ = some (.slice x1 an.length c1) := KB.cell 10; have f11 : w5.cell? ⟨w.heap.size, 11, none⟩ = some (.slice x2 ns.length c2) := KB.cell 11; have f12 : w5.cell? ⟨w.heap.size, 12, none⟩ = some (.slice x3 ar.length c3) := KB.cell 12; clear h5 b5 W4)
        | (go_at_call 62; have _t := t1; go_must (refine (putPartR_any _ an H1.out W5.out).mono ?_); rintro e w6 ⟨rfl, h6, b6⟩; have W6 : Hid (WO w w6 w3.heap.size hh (stAll stC (stAll stQ o1 qs) an)) := h6; replace KB := b6.blk KB (by decide) (by decide) (by decide); clear f10 f11 f12; have f11 : w6.cell? ⟨w.heap.size, 11, none⟩ = some (.slice x2 ns.length c2) := KB.cell 11; have f12 : w6.cell? ⟨w.heap.size, 12, none⟩ = some (.slice x3 ar.length c3) := KB.cell 12; clear h6 b6 W5 t1 _t)
        | (go_at_call 62; have _t := t2; go_must (refine (putPartR_any _ ns H2.out W6.out).mono ?_); rintro e w7 ⟨rfl, h7, b7⟩; have W7 : Hid (WO w w7 w3.heap.size hh (stAll stC (stAll stC (stAll stQ o1 qs) an) ns)) := h7; replace KB := b7.blk KB (by decide) (by decide) (by decide); clear f11 f12; have f12 : w7.cell? ⟨w.heap.size, 12, none⟩ = some (.slice x3 ar.length c3) := KB.cell 12; clear h7 b7 W6 t2 _t)
        | (go_at_call 62; go_must (refine (putPartR_any _ ar H3.out W7.out).mono ?_); rintro e w8 ⟨rfl, h8, b8⟩; obtain ⟨B, ms, f, a8, ho⟩ := h8; have g0 : w8.cell? ⟨w3.heap.size, 0, none⟩ = some (.pointer (some ⟨hh, 0, none⟩)) := a8.1.cell 0; have g1 : w8.cell? ⟨w3.heap.size, 1, none⟩ = some (.bool f) := a8.1.cell 1; have A8 : Hid (Holds w w8 hh B ms) := a8.2.2; have HO : Hid ((f = false ∧ stAll stC (stAll stC (stAll stC (stAll stQ o1 qs) an) ns) ar = some (B, ms)) ∨ (f = true ∧ stAll stC (stAll stC (stAll stC (stAll stQ o1 qs) an) ns) ar = none)) := ho; clear f12 b8 W7 a8 ho; cases f)
        | (go_at_call 64; go_must (refine (all_h A8.out).mono ?_); rintro e w' ⟨rfl, hw⟩; obtain rfl := hw.symm))
      · go_ret2
        rcases HO.out with ⟨_, h⟩ | ⟨h, _⟩
        · exact ⟨by rw [HF.out, h]; rfl, A8.out.out⟩
        · simp at h
      · go_ret2
        rcases HO.out with ⟨h, _⟩ | ⟨_, h⟩
        · simp at h
        · exact ⟨by rw [HF.out, h]; rfl, A8.out.out⟩

end Go.Proofs.Ytcapankhobnfeaa

/- The reader of package wire: what step, name, number and data leave. -/
namespace Go.Proofs.Ytcapankhobnfeaa
open Go.RowKit
open Pl

theorem Turn.alloc {S : Nat → Prop} {w a : World} (h : Turn S w a) (o : Obj) : Turn S w (a.alloc o) := h.trans (S' := fun _ => False) (Turn.of_below ((Below.refl _ _).alloc (Nat.le_refl _) o)) (fun _ => False.elim)
theorem Turn.past {S : Nat → Prop} {w a b : World} (h : Turn S w a) (hb : Below a.heap.size a b) : Turn S w b := h.trans (S' := fun _ => False) (Turn.of_below hb) (fun _ => False.elim)
theorem Turn.setNew {S : Nat → Prop} {w a : World} (h : Turn S w a) {k : Nat} (hk : w.heap.size ≤ k) (i : Nat) (v : Value) : Turn S w (a.setCell ⟨k, i, none⟩ v) :=
  h.trans (S' := fun j => j = k) (Turn.of_set (S := fun j => j = k) a (p := ⟨k, i, none⟩) rfl v) (fun _ e => .inr (by rw [e]; exact hk))
theorem Turn.same {S : Nat → Prop} {w a b : World} (h : Turn S w a) (k : Turn S a b) : Turn S w b := h.trans k (fun _ e => .inl e)

/-- The reader's block alone turns. -/
abbrev TG (g : Nat) (w w' : World) : Prop := Turn (fun k => k = g) w w'
/-- A number of k bytes was read, or there was none. -/
def NumR (s : ByteArray) (p k : Nat) (x : Int) (E : Int) (q : Nat) : Prop := (E = 0 → q ≤ s.size) ∧ ((E = 0 ∧ p + k ≤ s.size ∧ x = val s p k ∧ q = p + k) ∨ (E ≠ 0 ∧ s.size < p + k ∧ x = 0))
/-- The data of type t at p: its length, its bytes. -/
def DatR (s : ByteArray) (p : Nat) (t : Int) (D : ByteArray) (b b' : Bool) (p' : Nat) : Prop :=
  p' ≤ s.size ∧ ((b' = b ∧ p + 2 + (val s p 2).toNat ≤ s.size ∧ dataOf s.data.toList (p + 2) (val s p 2).toNat t = some D.data.toList ∧ p' = p + 2 + (val s p 2).toNat) ∨
  (b' = true ∧ (s.size < p + 2 + (val s p 2).toNat ∨ dataOf s.data.toList (p + 2) (val s p 2).toNat t = none)))
/-- Behind a length, with its data, or without. -/
theorem data_plain {s : ByteArray} {p q : Nat} {x E F t : Int} {D : ByteArray} {b : Bool} {p1 n : Nat} (hp : p ≤ s.size) (hn : NumR s p 2 x E q) (hp1 : p1 = if E = 0 then q else p) (hx : n = x.toNat)
    (hd : (F = 0 ∧ p1 + n ≤ s.size ∧ dataOf s.data.toList p1 n t = some D.data.toList) ∨ (F ≠ 0 ∧ (s.size < p1 + n ∨ dataOf s.data.toList p1 n t = none))) :
    DatR s p t D b ((b || !(E == 0)) || !(F == 0)) (if F = 0 then p1 + n else p1) := by
  obtain ⟨h0, h⟩ := hn
  rcases h with ⟨rfl, h1, rfl, rfl⟩ | ⟨hE, h1, rfl⟩
  · rw [if_pos rfl] at hp1
    subst hp1 hx
    rcases hd with ⟨rfl, h2, h3⟩ | ⟨hF, h2⟩
    · exact ⟨by rw [if_pos rfl]; exact h2, .inl ⟨by simp, h2, h3, by rw [if_pos rfl]⟩⟩
    · refine ⟨by rw [if_neg hF]; exact h1, .inr ⟨by simp [hF], h2⟩⟩
  · rw [if_neg hE] at hp1
    subst hp1
    refine ⟨?_, .inr ⟨by simp [hE], .inl (by omega)⟩⟩
    have h00 : (0 : Int).toNat = 0 := rfl
    split <;> omega

end Go.Proofs.Ytcapankhobnfeaa

/- The reader of package wire: what question and record give. -/
namespace Go.Proofs.Ytcapankhobnfeaa
open Go.RowKit
open Pl

section
variable {w w' w'' : World} {g : Nat} {s : ByteArray} {p p' : Nat} {b b' : Bool} {T : TypeId} {Z C : Array Value}
end

/-- A question, with the three steps of its reading. -/
theorem q_fin {s : ByteArray} {p p1 p2 p3 q1 q2 q3 : Nat} {N : ByteArray} {E1 E2 E3 x y : Int} (_hp : p ≤ s.size)
    (h1 : (E1 = 0 ∧ nameOf s.data.toList p = some (N.data.toList, q1)) ∨ (E1 ≠ 0 ∧ nameOf s.data.toList p = none)) (e1 : p1 = if E1 = 0 then q1 else p)
    (h2 : NumR s p1 2 x E2 q2) (e2 : p2 = if E2 = 0 then q2 else p1) (h3 : NumR s p2 2 y E3 q3) (e3 : p3 = if E3 = 0 then q3 else p2) :
    (x ≠ 0 → ((((false || !(E1 == 0)) || !(E2 == 0)) || !(E3 == 0)) = false ∧ getQ s p = some (⟨N, x, y⟩, p3)) ∨ ((((false || !(E1 == 0)) || !(E2 == 0)) || !(E3 == 0)) = true ∧ getQ s p = none)) ∧ (x = 0 → getQ s p = none) := by
  unfold getQ
  rcases h1 with ⟨rfl, h1⟩ | ⟨n1, h1⟩
  · rw [if_pos rfl] at e1
    subst e1
    rw [h1]
    simp only
    rcases h2.2 with ⟨rfl, a2, rfl, rfl⟩ | ⟨n2, a2, rfl⟩
    · rw [if_pos rfl] at e2
      subst e2
      rcases h3.2 with ⟨rfl, a3, rfl, rfl⟩ | ⟨n3, a3, rfl⟩
      · rw [if_pos rfl] at e3
        subst e3
        refine ⟨fun hx => .inl ⟨rfl, ?_⟩, fun hx => ?_⟩
        · rw [if_pos ⟨by omega, hx⟩, arr_list]
        · rw [if_neg (fun h => h.2 hx)]
      · exact ⟨fun hx => .inr ⟨by simp [n3], by rw [if_neg (by omega)]⟩, fun hx => by rw [if_neg (by omega)]⟩
    · exact ⟨fun hx => absurd rfl hx, fun _ => by rw [if_neg (by omega)]⟩
  · rw [h1]
    exact ⟨fun _ => .inr ⟨by simp [n1], rfl⟩, fun _ => rfl⟩

/-- A record, with the five steps of its reading. -/
theorem r_fin {s : ByteArray} {p p1 p2 p3 p4 p5 q1 q2 q3 q4 : Nat} {N D : ByteArray} {E1 E2 E3 E4 x y l : Int} {b' : Bool}
    (h1 : (E1 = 0 ∧ nameOf s.data.toList p = some (N.data.toList, q1)) ∨ (E1 ≠ 0 ∧ nameOf s.data.toList p = none)) (e1 : p1 = if E1 = 0 then q1 else p)
    (h2 : NumR s p1 2 x E2 q2) (e2 : p2 = if E2 = 0 then q2 else p1) (h3 : NumR s p2 2 y E3 q3) (e3 : p3 = if E3 = 0 then q3 else p2) (h4 : NumR s p3 4 l E4 q4) (e4 : p4 = if E4 = 0 then q4 else p3)
    (h5 : DatR s p4 x D (((((false || !(E1 == 0)) || !(E2 == 0)) || !(E3 == 0))) || !(E4 == 0)) b' p5) :
    (b' = false ∧ getR s p = some (⟨N, x, y, l, D⟩, p5)) ∨ (b' = true ∧ getR s p = none) := by
  have hbad : (((((false || !(E1 == 0)) || !(E2 == 0)) || !(E3 == 0))) || !(E4 == 0)) = true → b' = true := fun h => by
    rcases h5.2 with ⟨a, _⟩ | ⟨a, _⟩
    · rw [a, h]
    · exact a
  unfold getR
  rcases h1 with ⟨rfl, h1⟩ | ⟨n1, h1⟩
  · rw [if_pos rfl] at e1
    subst e1
    rw [h1]
    simp only
    rcases h2.2 with ⟨rfl, a2, rfl, rfl⟩ | ⟨n2, a2, rfl⟩
    · rw [if_pos rfl] at e2
      subst e2
      rcases h3.2 with ⟨rfl, a3, rfl, rfl⟩ | ⟨n3, a3, rfl⟩
      · rw [if_pos rfl] at e3
        subst e3
        rcases h4.2 with ⟨rfl, a4, rfl, rfl⟩ | ⟨n4, a4, rfl⟩
        · rw [if_pos rfl] at e4
          subst e4
          have f1 : p1 + 2 + 2 + 4 = p1 + 8 := by omega
          have f2 : p1 + 2 + 2 = p1 + 4 := by omega
          have f3 : p1 + 8 + 2 = p1 + 10 := by omega
          rw [f1] at h5
          rw [f2]
          unfold DatR at h5
          rw [f3] at h5
          rcases h5.2 with ⟨hb, a5, a6, rfl⟩ | ⟨hb, a5⟩
          · left
            refine ⟨hb, ?_⟩
            rw [if_pos a5, a6, arr_list]
          · right
            refine ⟨hb, ?_⟩
            rcases a5 with a5 | a5
            · rw [if_neg (by omega)]
            · split
              · rw [a5]
              · rfl
        · exact .inr ⟨hbad (by simp [n4]), by rw [if_neg (by omega)]⟩
      · exact .inr ⟨hbad (by simp [n3]), by rw [if_neg (by omega)]⟩
    · exact .inr ⟨hbad (by simp [n2]), by rw [if_neg (by omega)]⟩
  · rw [h1]
    exact .inr ⟨hbad (by simp [n1]), rfl⟩

end Go.Proofs.Ytcapankhobnfeaa

/- What getPart of package wire gives, of questions and of records. -/
namespace Go.Proofs.Ytcapankhobnfeaa
open Go.RowKit
open Pl

theorem infoQ : (Try.prog.info? 46).map (fun i => (i.zero, i.size, i.bytes)) = some (some (.agg #[.string ⟨#[]⟩, .int .i64 0, .int .i64 0]), 3, 32) := by kernel_rfl
theorem infoR : (Try.prog.info? 54).map (fun i => (i.zero, i.size, i.bytes)) = some (some (.agg #[.string ⟨#[]⟩, .int .i64 0, .int .i64 0, .int .i64 0, .string ⟨#[]⟩]), 5, 56) := by kernel_rfl

/-- One question is appended to a row of questions that the call owns. -/
theorem wpList_appQ (u : World) {ops : Array Oper} {rest : List Oper} {o : Oper} {a : Act} {Q : Exit → Act → World → Prop} (hgd : o.guard = none) (s x : Operand)
    (ho : o.op = .call { callee := .builtin .append, args := #[s, x], argTypes := #[26, 26] }) (base : Nat) (v : Value) (n : Nat) (qs : List Qn) (q : Qn) (hs : a.eval s = v)
    (hown : u.ownsRow base 46 3 v n (qC qs)) (hx : a.eval x = .slice (some ⟨u.heap.size, 0, none⟩) 1 1) (hn : n ≤ 1000) (hbase : base ≤ u.heap.size)
    (h : ∀ v' w', w'.ownsRow base 46 3 v' (n + 1) (qC (qs ++ [q])) → (u.alloc (.cells (qV q).toArray 46)).grownBy w' v.ownBlock → (v'.ownBlock = v.ownBlock ∨ ∃ g, v'.ownBlock = some g ∧ u.heap.size ≤ g) → wpList Try.prog ops Q rest (a.put o.dst v') w') :
    wpList Try.prog ops Q (o :: rest) a (u.alloc (.cells (qV q).toArray 46)) := by
  obtain ⟨i0, hi, hz0, hz1, hz2⟩ := info_parts infoQ
  refine wpList_append_lies _ hgd s x 26 ho base 46 i0 (.agg #[.string ⟨#[]⟩, .int .i64 0, .int .i64 0]) 3 32 Try.underlying26 hi hz0 hz1 hz2 rfl (by decide) v n (qC qs) hs (hown.alloc _) ⟨u.heap.size, 0, none⟩ 1 1 (qV q) hx rfl (fun j y hy => ?_) (fun y hy => qC_one [q] y (by simpa [qC] using hy)) (by decide) (by unfold maxLen; omega) (by omega) (by simp; omega) _ rfl ?_
  · exact World.news_of_block (heap_alloc_new u (.cells (qV q).toArray 46)) j y (by simpa using hy)
  · intro g cap w' h1 h2 h3 h4
    refine h _ w' (by rw [qC_app]; simpa [qC] using h1) h2 ?_
    rcases h3 with h3 | h3
    · exact .inl h3.symm
    · exact .inr ⟨g, rfl, by rw [h3]; simp⟩

/-- One record is appended to a row of records that the call owns. -/
theorem wpList_appR (u : World) {ops : Array Oper} {rest : List Oper} {o : Oper} {a : Act} {Q : Exit → Act → World → Prop} (hgd : o.guard = none) (s x : Operand)
    (ho : o.op = .call { callee := .builtin .append, args := #[s, x], argTypes := #[27, 27] }) (base : Nat) (v : Value) (n : Nat) (qs : List Rc) (q : Rc) (hs : a.eval s = v)
    (hown : u.ownsRow base 54 5 v n (rC qs)) (hx : a.eval x = .slice (some ⟨u.heap.size, 0, none⟩) 1 1) (hn : n ≤ 1000) (hbase : base ≤ u.heap.size)
    (h : ∀ v' w', w'.ownsRow base 54 5 v' (n + 1) (rC (qs ++ [q])) → (u.alloc (.cells (rV q).toArray 54)).grownBy w' v.ownBlock → (v'.ownBlock = v.ownBlock ∨ ∃ g, v'.ownBlock = some g ∧ u.heap.size ≤ g) → wpList Try.prog ops Q rest (a.put o.dst v') w') :
    wpList Try.prog ops Q (o :: rest) a (u.alloc (.cells (rV q).toArray 54)) := by
  obtain ⟨i0, hi, hz0, hz1, hz2⟩ := info_parts infoR
  refine wpList_append_lies _ hgd s x 27 ho base 54 i0 (.agg #[.string ⟨#[]⟩, .int .i64 0, .int .i64 0, .int .i64 0, .string ⟨#[]⟩]) 5 56 Try.underlying27 hi hz0 hz1 hz2 rfl (by decide) v n (rC qs) hs (hown.alloc _) ⟨u.heap.size, 0, none⟩ 1 1 (rV q) hx rfl (fun j y hy => ?_) (fun y hy => rC_one [q] y (by simpa [rC] using hy)) (by decide) (by unfold maxLen; omega) (by omega) (by simp; omega) _ rfl ?_
  · exact World.news_of_block (heap_alloc_new u (.cells (rV q).toArray 54)) j y (by simpa using hy)
  · intro g cap w' h1 h2 h3 h4
    refine h _ w' (by rw [rC_app]; simpa [rC] using h1) h2 ?_
    rcases h3 with h3 | h3
    · exact .inl h3.symm
    · exact .inr ⟨g, rfl, by rw [h3]; simp⟩

end Go.Proofs.Ytcapankhobnfeaa

/- What Get of package wire gives. -/
namespace Go.Proofs.Ytcapankhobnfeaa
open Go.RowKit
open Pl

/-- No message. -/
def hdZ : Hd := ⟨0, false, 0, false, false, false, false, 0, 0⟩
def msZ : Ms := ⟨hdZ, [], [], [], []⟩
/-- What Get gives: the message, the number of its error. -/
def gM (s : ByteArray) : Ms := if s.size ≤ 4096 then (getM s).getD msZ else msZ
def gE (s : ByteArray) : Int := if s.size ≤ 4096 then (match getM s with | some _ => 0 | none => 700) else 701
theorem g_long {s : ByteArray} (h : ¬ s.size ≤ 4096) : gM s = msZ ∧ gE s = 701 := by unfold gM gE; rw [if_neg h, if_neg h]; exact ⟨rfl, rfl⟩
theorem g_none {s : ByteArray} (h : s.size ≤ 4096) (hn : getM s = none) : gM s = msZ ∧ gE s = 700 := by unfold gM gE; rw [if_pos h, if_pos h, hn]; exact ⟨rfl, rfl⟩
theorem g_some {s : ByteArray} {m : Ms} (h : s.size ≤ 4096) (hn : getM s = some m) : gM s = m ∧ gE s = 0 := by unfold gM gE; rw [if_pos h, if_pos h, hn]; exact ⟨rfl, rfl⟩

/-- The rows of a message that the call made. -/
structure Own (B : Nat) (w : World) (v0 v1 v2 v3 : Value) (m : Ms) : Prop where
  q : w.ownsRow B 46 3 v0 m.qs.length (qC m.qs)
  an : w.ownsRow B 54 5 v1 m.an.length (rC m.an)
  ns : w.ownsRow B 54 5 v2 m.ns.length (rC m.ns)
  ar : w.ownsRow B 54 5 v3 m.ar.length (rC m.ar)
  d12 : ∀ k, v1.ownBlock = some k → v2.ownBlock ≠ some k
  d13 : ∀ k, v1.ownBlock = some k → v3.ownBlock ≠ some k
  d23 : ∀ k, v2.ownBlock = some k → v3.ownBlock ≠ some k
theorem Own.none (B : Nat) (w : World) : Own B w (.slice none 0 0) (.slice none 0 0) (.slice none 0 0) (.slice none 0 0) msZ :=
  ⟨World.ownsRow_nil _ _ _ _, World.ownsRow_nil _ _ _ _, World.ownsRow_nil _ _ _ _, World.ownsRow_nil _ _ _ _, fun k e => by simp [Value.ownBlock] at e, fun k e => by simp [Value.ownBlock] at e, fun k e => by simp [Value.ownBlock] at e⟩
theorem own_base {w : World} {B B' e z n : Nat} {v : Value} {xs : List Value} (h : w.ownsRow B e z v n xs) (hB : B' ≤ B) : w.ownsRow B' e z v n xs := by
  refine ⟨h.1, ?_⟩
  rcases h.2 with h1 | ⟨g, cap, cur, h1, h2, rest⟩
  · exact .inl h1
  · exact .inr ⟨g, cap, cur, h1, Nat.le_trans hB h2, rest⟩
theorem own_past {w w' : World} {B e z n : Nat} {v : Value} {xs : List Value} (h : w.ownsRow B e z v n xs) (hb : Below w.heap.size w w') : w'.ownsRow B e z v n xs := Turn.row (S := fun _ => False) (Turn.of_below hb) h (fun _ _ => id)
theorem Own.below {B : Nat} {w w' : World} {v0 v1 v2 v3 : Value} {m : Ms} (h : Own B w v0 v1 v2 v3 m) (hb : Below w.heap.size w w') : Own B w' v0 v1 v2 v3 m :=
  ⟨own_past h.q hb, own_past h.an hb, own_past h.ns hb, own_past h.ar hb, h.d12, h.d13, h.d23⟩

section
variable {w w' w'' : World} {g gc gm : Nat} {s : ByteArray} {p p' : Nat} {b b' : Bool} {C M : Array Value}
theorem row_put {w : World} {gm B e z n : Nat} {v : Value} {xs : List Value} (h : w.ownsRow B e z v n xs) (hB : gm < B) (i : Nat) (x : Value) : (w.setCell ⟨gm, i, none⟩ x).ownsRow B e z v n xs :=
  Turn.row (S := fun k => k = gm) (Turn.of_set (S := fun k => k = gm) w (p := ⟨gm, i, none⟩) rfl x) h (fun k hk e => by have := (h.lt k hk).1; omega)
theorem row_step {w w' : World} {g B e z n : Nat} {v : Value} {xs : List Value} (h : w.ownsRow B e z v n xs) (hB : g < B) (ht : TG g w w') : w'.ownsRow B e z v n xs := ht.row h (fun k hk e => by have := (h.lt k hk).1; omega)
end

theorem parts_fin {s : ByteArray} {qs : List Qn} {an ns ar : List Rc} {p0 p1 p2 p3 : Nat} {b0 b1 b2 b3 : Bool}
    (h0 : (b0 = false ∧ false = false ∧ part (getQ s) (cnt s 0) 12 = some (qs, p0)) ∨ (b0 = true ∧ (false = true ∨ part (getQ s) (cnt s 0) 12 = none)))
    (h1 : (b1 = false ∧ b0 = false ∧ part (getR s) (cnt s 1) p0 = some (an, p1)) ∨ (b1 = true ∧ (b0 = true ∨ part (getR s) (cnt s 1) p0 = none)))
    (h2 : (b2 = false ∧ b1 = false ∧ part (getR s) (cnt s 2) p1 = some (ns, p2)) ∨ (b2 = true ∧ (b1 = true ∨ part (getR s) (cnt s 2) p1 = none)))
    (h3 : (b3 = false ∧ b2 = false ∧ part (getR s) (cnt s 3) p2 = some (ar, p3)) ∨ (b3 = true ∧ (b2 = true ∨ part (getR s) (cnt s 3) p2 = none))) :
    (b3 = false ∧ parts s = some ((qs, an, ns, ar), p3)) ∨ (b3 = true ∧ parts s = none) := by
  unfold parts
  rcases h0 with ⟨rfl, _, h0⟩ | ⟨rfl, h0⟩
  · rw [h0]
    simp only
    rcases h1 with ⟨rfl, _, h1⟩ | ⟨rfl, h1⟩
    · rw [h1]
      simp only
      rcases h2 with ⟨rfl, _, h2⟩ | ⟨rfl, h2⟩
      · rw [h2]
        simp only
        rcases h3 with ⟨rfl, _, h3⟩ | ⟨rfl, h3⟩
        · rw [h3]; exact .inl ⟨rfl, rfl⟩
        · rcases h3 with h3 | h3
          · simp at h3
          · rw [h3]; exact .inr ⟨rfl, rfl⟩
      · rcases h2 with h2 | h2
        · simp at h2
        · rw [h2]
          rcases h3 with ⟨_, e, _⟩ | ⟨e, _⟩
          · simp at e
          · exact .inr ⟨e, rfl⟩
    · rcases h1 with h1 | h1
      · simp at h1
      · rw [h1]
        rcases h2 with ⟨_, e, _⟩ | ⟨rfl, _⟩
        · simp at e
        · rcases h3 with ⟨_, e, _⟩ | ⟨e, _⟩
          · simp at e
          · exact .inr ⟨e, rfl⟩
  · rcases h0 with h0 | h0
    · simp at h0
    · rw [h0]
      rcases h1 with ⟨_, e, _⟩ | ⟨rfl, _⟩
      · simp at e
      · rcases h2 with ⟨_, e, _⟩ | ⟨rfl, _⟩
        · simp at e
        · rcases h3 with ⟨_, e, _⟩ | ⟨e, _⟩
          · simp at e
          · exact .inr ⟨e, rfl⟩
theorem cnt_int (s : ByteArray) (i : Nat) : val s (4 + 2 * i) 2 = (cnt s i : Int) := by
  have := val_lt s (4 + 2 * i) 2
  unfold cnt; omega
theorem cnt_lt (s : ByteArray) (i : Nat) : cnt s i < 65536 := by
  have := val_lt s (4 + 2 * i) 2
  unfold cnt; omega
theorem cntC_as (s : ByteArray) : cntC s 4 = cntV (cnt s 0 : Int) (cnt s 1 : Int) (cnt s 2 : Int) (cnt s 3 : Int) := by
  rw [← cnt_int, ← cnt_int, ← cnt_int, ← cnt_int]; rfl
theorem headW_as (s : ByteArray) : headW (val s 0 2) (val s 2 2) = headV (hdOf s).id (hdOf s).qr (hdOf s).op (hdOf s).aa (hdOf s).tc (hdOf s).rd (hdOf s).ra (hdOf s).z (hdOf s).rc := rfl

/-- What is left where no message is given. -/
theorem blk13 {w : World} {g : Nat} {h : Hd} {v0 v1 v2 v3 : Value} {t : TypeId} (k : Blk w g (msgC h v0 v1 v2 v3) t) :
    w.cell? ⟨g, 0, none⟩ = some (.int .i64 h.id) ∧ w.cell? ⟨g, 1, none⟩ = some (.bool h.qr) ∧ w.cell? ⟨g, 2, none⟩ = some (.int .i64 h.op) ∧ w.cell? ⟨g, 3, none⟩ = some (.bool h.aa) ∧ w.cell? ⟨g, 4, none⟩ = some (.bool h.tc) ∧ w.cell? ⟨g, 5, none⟩ = some (.bool h.rd) ∧ w.cell? ⟨g, 6, none⟩ = some (.bool h.ra) ∧ w.cell? ⟨g, 7, none⟩ = some (.int .i64 h.z) ∧ w.cell? ⟨g, 8, none⟩ = some (.int .i64 h.rc) ∧
    w.cell? ⟨g, 9, none⟩ = some v0 ∧ w.cell? ⟨g, 10, none⟩ = some v1 ∧ w.cell? ⟨g, 11, none⟩ = some v2 ∧ w.cell? ⟨g, 12, none⟩ = some v3 :=
  ⟨k.cell 0, k.cell 1, k.cell 2, k.cell 3, k.cell 4, k.cell 5, k.cell 6, k.cell 7, k.cell 8, k.cell 9, k.cell 10, k.cell 11, k.cell 12⟩
theorem open13 {w : World} {g : Nat} {C : Array Value} {t : TypeId} (k : Blk w g C t) :
    w.frozen? ⟨g, 0, none⟩ = false ∧ w.frozen? ⟨g, 1, none⟩ = false ∧ w.frozen? ⟨g, 2, none⟩ = false ∧ w.frozen? ⟨g, 3, none⟩ = false ∧ w.frozen? ⟨g, 4, none⟩ = false ∧ w.frozen? ⟨g, 5, none⟩ = false ∧ w.frozen? ⟨g, 6, none⟩ = false ∧ w.frozen? ⟨g, 7, none⟩ = false ∧ w.frozen? ⟨g, 8, none⟩ = false ∧ w.frozen? ⟨g, 9, none⟩ = false ∧ w.frozen? ⟨g, 10, none⟩ = false ∧ w.frozen? ⟨g, 11, none⟩ = false ∧ w.frozen? ⟨g, 12, none⟩ = false :=
  ⟨k.frozen 0, k.frozen 1, k.frozen 2, k.frozen 3, k.frozen 4, k.frozen 5, k.frozen 6, k.frozen 7, k.frozen 8, k.frozen 9, k.frozen 10, k.frozen 11, k.frozen 12⟩

/-- Thirteen cells are stored. -/
def set13 (w : World) (g : Nat) (h : Hd) (v0 v1 v2 v3 : Value) : World :=
  ((((((((((((w.setCell ⟨g, 0, none⟩ (.int .i64 h.id)).setCell ⟨g, 1, none⟩ (.bool h.qr)).setCell ⟨g, 2, none⟩ (.int .i64 h.op)).setCell ⟨g, 3, none⟩ (.bool h.aa)).setCell ⟨g, 4, none⟩ (.bool h.tc)).setCell ⟨g, 5, none⟩ (.bool h.rd)).setCell ⟨g, 6, none⟩ (.bool h.ra)).setCell ⟨g, 7, none⟩ (.int .i64 h.z)).setCell ⟨g, 8, none⟩ (.int .i64 h.rc)).setCell ⟨g, 9, none⟩ v0).setCell ⟨g, 10, none⟩ v1).setCell ⟨g, 11, none⟩ v2).setCell ⟨g, 12, none⟩ v3
theorem set13_blk {w : World} {g : Nat} {h h' : Hd} {v0 v1 v2 v3 u0 u1 u2 u3 : Value} {t : TypeId} (k : Blk w g (msgC h' u0 u1 u2 u3) t) : Blk (set13 w g h v0 v1 v2 v3) g (msgC h v0 v1 v2 v3) t := by
  have k0 : Blk _ g (msgC ⟨h.id, h'.qr, h'.op, h'.aa, h'.tc, h'.rd, h'.ra, h'.z, h'.rc⟩ u0 u1 u2 u3) t := k.set 0 (.int .i64 h.id)
  have k1 : Blk _ g (msgC ⟨h.id, h.qr, h'.op, h'.aa, h'.tc, h'.rd, h'.ra, h'.z, h'.rc⟩ u0 u1 u2 u3) t := k0.set 1 (.bool h.qr)
  have k2 : Blk _ g (msgC ⟨h.id, h.qr, h.op, h'.aa, h'.tc, h'.rd, h'.ra, h'.z, h'.rc⟩ u0 u1 u2 u3) t := k1.set 2 (.int .i64 h.op)
  have k3 : Blk _ g (msgC ⟨h.id, h.qr, h.op, h.aa, h'.tc, h'.rd, h'.ra, h'.z, h'.rc⟩ u0 u1 u2 u3) t := k2.set 3 (.bool h.aa)
  have k4 : Blk _ g (msgC ⟨h.id, h.qr, h.op, h.aa, h.tc, h'.rd, h'.ra, h'.z, h'.rc⟩ u0 u1 u2 u3) t := k3.set 4 (.bool h.tc)
  have k5 : Blk _ g (msgC ⟨h.id, h.qr, h.op, h.aa, h.tc, h.rd, h'.ra, h'.z, h'.rc⟩ u0 u1 u2 u3) t := k4.set 5 (.bool h.rd)
  have k6 : Blk _ g (msgC ⟨h.id, h.qr, h.op, h.aa, h.tc, h.rd, h.ra, h'.z, h'.rc⟩ u0 u1 u2 u3) t := k5.set 6 (.bool h.ra)
  have k7 : Blk _ g (msgC ⟨h.id, h.qr, h.op, h.aa, h.tc, h.rd, h.ra, h.z, h'.rc⟩ u0 u1 u2 u3) t := k6.set 7 (.int .i64 h.z)
  have k8 : Blk _ g (msgC ⟨h.id, h.qr, h.op, h.aa, h.tc, h.rd, h.ra, h.z, h.rc⟩ u0 u1 u2 u3) t := k7.set 8 (.int .i64 h.rc)
  have k9 : Blk _ g (msgC ⟨h.id, h.qr, h.op, h.aa, h.tc, h.rd, h.ra, h.z, h.rc⟩ v0 u1 u2 u3) t := k8.set 9 v0
  have k10 : Blk _ g (msgC ⟨h.id, h.qr, h.op, h.aa, h.tc, h.rd, h.ra, h.z, h.rc⟩ v0 v1 u2 u3) t := k9.set 10 v1
  have k11 : Blk _ g (msgC ⟨h.id, h.qr, h.op, h.aa, h.tc, h.rd, h.ra, h.z, h.rc⟩ v0 v1 v2 u3) t := k10.set 11 v2
  have k12 : Blk _ g (msgC ⟨h.id, h.qr, h.op, h.aa, h.tc, h.rd, h.ra, h.z, h.rc⟩ v0 v1 v2 v3) t := k11.set 12 v3
  exact k12
theorem set13_turn (w : World) (g : Nat) (h : Hd) (v0 v1 v2 v3 : Value) : Turn (fun k => k = g) w (set13 w g h v0 v1 v2 v3) := by
  have T : ∀ (u : World) (i : Nat) (v : Value), Turn (fun k => k = g) u (u.setCell ⟨g, i, none⟩ v) := fun u i v => Turn.of_set (S := fun k => k = g) u (p := ⟨g, i, none⟩) rfl v
  unfold set13
  exact ((((((((((((T _ _ _).same (T _ _ _)).same (T _ _ _)).same (T _ _ _)).same (T _ _ _)).same (T _ _ _)).same (T _ _ _)).same (T _ _ _)).same (T _ _ _)).same (T _ _ _)).same (T _ _ _)).same (T _ _ _)).same (T _ _ _)

end Go.Proofs.Ytcapankhobnfeaa

/- What Get of package wire gives: the walk. -/
namespace Go.Proofs.Ytcapankhobnfeaa
open Go.RowKit
open Pl

/-- What Get leaves. -/
def GetP (s : ByteArray) (w : World) (e : Ending) (w' : World) : Prop := ∃ v0 v1 v2 v3, e = .returned (.tuple #[.agg (msgC (gM s).h v0 v1 v2 v3), .int .i64 (gE s)]) ∧ Own w.heap.size w' v0 v1 v2 v3 (gM s) ∧ Below w.heap.size w w'
theorem getP_no {s : ByteArray} {w w' : World} {E : Int} (h : gM s = msZ ∧ gE s = E) (hb : Below w.heap.size w w') : GetP s w (.returned (.tuple #[.agg (msgC hdZ (.slice none 0 0) (.slice none 0 0) (.slice none 0 0) (.slice none 0 0)), .int .i64 E])) w' := by
  unfold GetP
  rw [h.1, h.2]
  exact ⟨_, _, _, _, rfl, Own.none _ _, hb⟩
theorem zeroed {w u : World} (hb : Below w.heap.size w u) (k : Blk u w.heap.size (msgC hdZ (.slice none 0 0) (.slice none 0 0) (.slice none 0 0) (.slice none 0 0)) 29) :
    Below w.heap.size w (set13 u w.heap.size hdZ (.slice none 0 0) (.slice none 0 0) (.slice none 0 0) (.slice none 0 0)) ∧ Blk (set13 u w.heap.size hdZ (.slice none 0 0) (.slice none 0 0) (.slice none 0 0) (.slice none 0 0)) w.heap.size (msgC hdZ (.slice none 0 0) (.slice none 0 0) (.slice none 0 0) (.slice none 0 0)) 29 :=
  ⟨Turn.below hb (set13_turn _ _ _ _ _ _ _) hb.size (fun i e => by omega), set13_blk k⟩

theorem get_short {s : ByteArray} (h : s.size < 12) : getM s = none := by unfold getM; rw [if_neg (by omega)]

end Go.Proofs.Ytcapankhobnfeaa

/- What Get of package wire gives: a header, and what stands behind it. -/
namespace Go.Proofs.Ytcapankhobnfeaa
open Go.RowKit
open Pl

/-- What stands behind a header, as getM says it. -/
theorem get_fin {s : ByteArray} {qs : List Qn} {an ns ar : List Rc} {p3 : Nat} {b3 : Bool} (h12 : 12 ≤ s.size) (hs : s.size ≤ 4096) (h : (b3 = false ∧ parts s = some ((qs, an, ns, ar), p3)) ∨ (b3 = true ∧ parts s = none)) :
    (b3 = false → p3 = s.size → gM s = ⟨hdOf s, qs, an, ns, ar⟩ ∧ gE s = 0) ∧ (b3 = false → p3 ≠ s.size → gM s = msZ ∧ gE s = 700) ∧ (b3 = true → gM s = msZ ∧ gE s = 700) := by
  refine ⟨fun hb hp => ?_, fun hb hp => ?_, fun hb => ?_⟩
  · rcases h with ⟨_, h⟩ | ⟨e, _⟩
    · exact g_some hs (by unfold getM; rw [if_pos h12, h]; simp only; rw [if_pos hp])
    · rw [hb] at e; simp at e
  · rcases h with ⟨_, h⟩ | ⟨e, _⟩
    · exact g_none hs (by unfold getM; rw [if_pos h12, h]; simp only; rw [if_neg hp])
    · rw [hb] at e; simp at e
  · rcases h with ⟨e, _⟩ | ⟨_, h⟩
    · rw [hb] at e; simp at e
    · exact g_none hs (by unfold getM; rw [if_pos h12, h])

/-- The rows that were read. -/
structure Rows4 (w : World) (gm B0 B1 B2 B3 : Nat) (v0 v1 v2 v3 : Value) (qs : List Qn) (an ns ar : List Rc) : Prop where
  q : w.ownsRow B0 46 3 v0 qs.length (qC qs)
  an : w.ownsRow B1 54 5 v1 an.length (rC an)
  ns : w.ownsRow B2 54 5 v2 ns.length (rC ns)
  ar : w.ownsRow B3 54 5 v3 ar.length (rC ar)
  a1 : ∀ k, v1.ownBlock = some k → k < B2
  a2 : ∀ k, v2.ownBlock = some k → k < B3
  b0 : gm < B0
  b1 : gm < B1
  b2 : gm < B2
  b3 : gm < B3
  b23 : B2 ≤ B3
theorem Rows4.own {w : World} {gm B0 B1 B2 B3 : Nat} {v0 v1 v2 v3 : Value} {qs : List Qn} {an ns ar : List Rc} (h : Rows4 w gm B0 B1 B2 B3 v0 v1 v2 v3 qs an ns ar) {B : Nat} (hB : B ≤ gm) (hd : Hd) : Own B w v0 v1 v2 v3 ⟨hd, qs, an, ns, ar⟩ :=
  ⟨own_base h.q (by have := h.b0; omega), own_base h.an (by have := h.b1; omega), own_base h.ns (by have := h.b2; omega), own_base h.ar (by have := h.b3; omega),
   fun k e1 e2 => by have := h.a1 k e1; have := (h.ns.lt k e2).1; omega, fun k e1 e2 => by have := h.a1 k e1; have := (h.ar.lt k e2).1; have := h.b23; omega, fun k e1 e2 => by have := h.a2 k e1; have := (h.ar.lt k e2).1; omega⟩
theorem Rows4.turn {w w' : World} {g gm B0 B1 B2 B3 : Nat} {v0 v1 v2 v3 : Value} {qs : List Qn} {an ns ar : List Rc} (h : Rows4 w gm B0 B1 B2 B3 v0 v1 v2 v3 qs an ns ar) (ht : Turn (fun k => k = g) w w') (hg : g ≤ gm) : Rows4 w' gm B0 B1 B2 B3 v0 v1 v2 v3 qs an ns ar :=
  ⟨ht.row h.q (fun k hk e => by have := (h.q.lt k hk).1; have := h.b0; omega), ht.row h.an (fun k hk e => by have := (h.an.lt k hk).1; have := h.b1; omega), ht.row h.ns (fun k hk e => by have := (h.ns.lt k hk).1; have := h.b2; omega), ht.row h.ar (fun k hk e => by have := (h.ar.lt k hk).1; have := h.b3; omega), h.a1, h.a2, h.b0, h.b1, h.b2, h.b3, h.b23⟩

theorem Rows4.one {w : World} {gm B0 n : Nat} {v0 : Value} {qs : List Qn} (h : w.ownsRow B0 46 3 v0 n (qC qs)) (hn : n = qs.length) (hb : gm < B0) : Rows4 w gm B0 B0 B0 B0 v0 (.slice none 0 0) (.slice none 0 0) (.slice none 0 0) qs [] [] [] :=
  ⟨by rw [← hn]; exact h, World.ownsRow_nil _ _ _ _, World.ownsRow_nil _ _ _ _, World.ownsRow_nil _ _ _ _, fun k e => by simp [Value.ownBlock] at e, fun k e => by simp [Value.ownBlock] at e, hb, hb, hb, hb, Nat.le_refl _⟩
theorem Rows4.add1 {w : World} {gm B0 C1 C2 C3 B1 : Nat} {v0 v1 : Value} {qs : List Qn} {an : List Rc} (h : Rows4 w gm B0 C1 C2 C3 v0 (.slice none 0 0) (.slice none 0 0) (.slice none 0 0) qs [] [] []) (o : w.ownsRow B1 54 5 v1 an.length (rC an)) (hb : gm < B1) (hw : gm < w.heap.size) : Rows4 w gm B0 B1 w.heap.size w.heap.size v0 v1 (.slice none 0 0) (.slice none 0 0) qs an [] [] :=
  ⟨h.q, o, World.ownsRow_nil _ _ _ _, World.ownsRow_nil _ _ _ _, fun k e => (o.lt k e).2, fun k e => by simp [Value.ownBlock] at e, h.b0, hb, hw, hw, Nat.le_refl _⟩
theorem Rows4.add2 {w : World} {gm B0 B1 B2 C3 B : Nat} {v0 v1 v2 : Value} {qs : List Qn} {an ns : List Rc} (h : Rows4 w gm B0 B1 B2 C3 v0 v1 (.slice none 0 0) (.slice none 0 0) qs an [] []) (o : w.ownsRow B 54 5 v2 ns.length (rC ns)) (hb : B2 ≤ B) (hw : B2 ≤ w.heap.size) : Rows4 w gm B0 B1 B2 w.heap.size v0 v1 v2 (.slice none 0 0) qs an ns [] :=
  ⟨h.q, h.an, own_base o hb, World.ownsRow_nil _ _ _ _, h.a1, fun k e => (o.lt k e).2, h.b0, h.b1, h.b2, by have := h.b2; omega, hw⟩
theorem Rows4.add3 {w : World} {gm B0 B1 B2 B3 B : Nat} {v0 v1 v2 v3 : Value} {qs : List Qn} {an ns ar : List Rc} (h : Rows4 w gm B0 B1 B2 B3 v0 v1 v2 (.slice none 0 0) qs an ns []) (o : w.ownsRow B 54 5 v3 ar.length (rC ar)) (hb : B3 ≤ B) : Rows4 w gm B0 B1 B2 B3 v0 v1 v2 v3 qs an ns ar :=
  ⟨h.q, h.an, h.ns, own_base o hb, h.a1, h.a2, h.b0, h.b1, h.b2, h.b3, h.b23⟩
theorem Rows4.put {w : World} {gm B0 B1 B2 B3 : Nat} {v0 v1 v2 v3 : Value} {qs : List Qn} {an ns ar : List Rc} (h : Rows4 w gm B0 B1 B2 B3 v0 v1 v2 v3 qs an ns ar) (i : Nat) (x : Value) : Rows4 (w.setCell ⟨gm, i, none⟩ x) gm B0 B1 B2 B3 v0 v1 v2 v3 qs an ns ar :=
  h.turn (g := gm) (Turn.of_set (S := fun k => k = gm) w (p := ⟨gm, i, none⟩) rfl x) (Nat.le_refl _)
theorem set_size (w : World) (p : Addr) (v : Value) : (w.setCell p v).heap.size = w.heap.size := by simp

end Go.Proofs.Ytcapankhobnfeaa

/- What SameMsg gives of two messages that are one: true. -/
namespace Go.Proofs.Ytcapankhobnfeaa
open Go.RowKit
open Pl

set_option maxRecDepth 20000 in
theorem sameQ_yes (v v' : Value) (qs : List Qn) (w : World) (h : Row w v qs.length (qC qs)) (h' : Row w v' qs.length (qC qs)) (hm : qs.length ≤ maxLen) :
    Calls Try.prog 23 #[v, v'] w fun e w' => e = .returned (.bool true) ∧ Below w.heap.size w w' := by
  obtain ⟨n, hn⟩ : ∃ n, n = qs.length := ⟨_, rfl⟩
  unfold maxLen at hm
  have HN : Hid (n = qs.length) := hn
  rw [← hn] at h h' hm
  obtain ⟨x, c, rfl⟩ := row_slice h
  obtain ⟨x', c', rfl⟩ := row_slice h'
  have HR : Hid (Row w (.slice x n c) n (qC qs)) := h
  have HR' : Hid (Row w (.slice x' n c') n (qC qs)) := h'
  have hb : Below w.heap.size w w := Below.refl _ _
  clear h h' hn
  go_enter Try.func23, Try.ntmps23
  go_wp2
  go_loopw [5] (fun i wr => ∃ k : Nat, k ≤ n ∧ i = .int .i64 (k : Int) ∧ Below w.heap.size w wr) (fun i _ => n - (intOf i).toNat)
  case atStart => exact ⟨0, Nat.zero_le _, rfl, hb⟩
  case round =>
    clear hb
    obtain ⟨k, hk, rfl, hb⟩ := hrel
    by_cases hkn : k < n
    · have hkm : k < qs.length := by have := HN.out; omega
      have hkn' : (k : Int) < (n : Int) := by omega
      obtain ⟨g, o, cap, hx, hc⟩ := row_at (HR.out.below hb) (by omega)
      obtain ⟨g', o', cap', hx', hc'⟩ := row_at (HR'.out.below hb) (by omega)
      simp only [Value.slice.injEq] at hx hx'
      obtain ⟨rfl, -, rfl⟩ := hx
      obtain ⟨rfl, -, rfl⟩ := hx'
      obtain ⟨d0, d1, d2⟩ := q_cells hc hkm
      obtain ⟨e0, e1, e2⟩ := q_cells hc' hkm
      obtain ⟨q, hq⟩ : ∃ q, q = qs[k] := ⟨_, rfl⟩
      simp only [← hq] at d0 d1 d2 e0 e1 e2
      obtain ⟨qn, qt, qc⟩ := q
      simp only at d0 d1 d2 e0 e1 e2
      clear hc hq hc'
      go_wp2
      go_region
      go_wp2
      go_roundw
      case rel => exact ⟨k + 1, by omega, by go_num, next hb (below_drew ⟨1, rfl⟩)⟩
      case measure => simp [intOf]; omega
    · have hkn' : decide (k < n) = false := by simpa using hkn
      go_wp2
      go_ret
      exact ⟨rfl, hb⟩

set_option maxRecDepth 20000 in
theorem sameR_yes (v v' : Value) (qs : List Rc) (w : World) (h : Row w v qs.length (rC qs)) (h' : Row w v' qs.length (rC qs)) (hm : qs.length ≤ maxLen) :
    Calls Try.prog 38 #[v, v'] w fun e w' => e = .returned (.bool true) ∧ Below w.heap.size w w' := by
  obtain ⟨n, hn⟩ : ∃ n, n = qs.length := ⟨_, rfl⟩
  unfold maxLen at hm
  have HN : Hid (n = qs.length) := hn
  rw [← hn] at h h' hm
  obtain ⟨x, c, rfl⟩ := row_slice h
  obtain ⟨x', c', rfl⟩ := row_slice h'
  have HR : Hid (Row w (.slice x n c) n (rC qs)) := h
  have HR' : Hid (Row w (.slice x' n c') n (rC qs)) := h'
  have hb : Below w.heap.size w w := Below.refl _ _
  clear h h' hn
  go_enter Try.func38, Try.ntmps38
  go_wp2
  go_loopw [5] (fun i wr => ∃ k : Nat, k ≤ n ∧ i = .int .i64 (k : Int) ∧ Below w.heap.size w wr) (fun i _ => n - (intOf i).toNat)
  case atStart => exact ⟨0, Nat.zero_le _, rfl, hb⟩
  case round =>
    clear hb
    obtain ⟨k, hk, rfl, hb⟩ := hrel
    by_cases hkn : k < n
    · have hkm : k < qs.length := by have := HN.out; omega
      have hkn' : (k : Int) < (n : Int) := by omega
      obtain ⟨g, o, cap, hx, hc⟩ := row_at (HR.out.below hb) (by omega)
      obtain ⟨g', o', cap', hx', hc'⟩ := row_at (HR'.out.below hb) (by omega)
      simp only [Value.slice.injEq] at hx hx'
      obtain ⟨rfl, -, rfl⟩ := hx
      obtain ⟨rfl, -, rfl⟩ := hx'
      obtain ⟨d0, d1, d2, d3, d4⟩ := r_cells hc hkm
      obtain ⟨e0, e1, e2, e3, e4⟩ := r_cells hc' hkm
      obtain ⟨q, hq⟩ : ∃ q, q = qs[k] := ⟨_, rfl⟩
      simp only [← hq] at d0 d1 d2 d3 d4 e0 e1 e2 e3 e4
      obtain ⟨qn, qt, qc, ql, qd⟩ := q
      simp only at d0 d1 d2 d3 d4 e0 e1 e2 e3 e4
      clear hc hq hc'
      go_wp2
      go_region
      go_wp2
      go_roundw
      case rel => exact ⟨k + 1, by omega, by go_num, next hb (below_drew ⟨1, rfl⟩)⟩
      case measure => simp [intOf]; omega
    · have hkn' : decide (k < n) = false := by simpa using hkn
      go_wp2
      go_ret
      exact ⟨rfl, hb⟩

/-- The rows of a message, as they are read. -/
def MR (w : World) (v0 v1 v2 v3 : Value) (m : Ms) : Prop := Row w v0 m.qs.length (qC m.qs) ∧ Row w v1 m.an.length (rC m.an) ∧ Row w v2 m.ns.length (rC m.ns) ∧ Row w v3 m.ar.length (rC m.ar) ∧ m.qs.length ≤ maxLen ∧ m.an.length ≤ maxLen ∧ m.ns.length ≤ maxLen ∧ m.ar.length ≤ maxLen
theorem MR.below {w w' : World} {v0 v1 v2 v3 : Value} {m : Ms} (h : MR w v0 v1 v2 v3 m) (hb : Below w.heap.size w w') : MR w' v0 v1 v2 v3 m := ⟨h.1.below hb, h.2.1.below hb, h.2.2.1.below hb, h.2.2.2.1.below hb, h.2.2.2.2⟩

set_option maxRecDepth 20000 in
set_option maxHeartbeats 2000000 in
theorem sameMsg_yes (m : Ms) (v0 v1 v2 v3 u0 u1 u2 u3 : Value) (w : World) (a : MR w v0 v1 v2 v3 m) (b : MR w u0 u1 u2 u3 m) :
    Calls Try.prog 15 #[.agg (msgC m.h v0 v1 v2 v3), .agg (msgC m.h u0 u1 u2 u3)] w fun e w' => e = .returned (.bool true) ∧ Below w.heap.size w w' := by
  obtain ⟨hd, qs, an, ns, ar⟩ := m
  obtain ⟨id, qr, op, aa, tc, rd, ra, z, rc⟩ := hd
  obtain ⟨a0, a1, a2, a3, n0, n1, n2, n3⟩ := a
  obtain ⟨b0, b1, b2, b3, -⟩ := b
  simp only at a0 a1 a2 a3 b0 b1 b2 b3 n0 n1 n2 n3 ⊢
  obtain ⟨x0, c0, rfl⟩ := row_slice a0
  obtain ⟨x1, c1, rfl⟩ := row_slice a1
  obtain ⟨x2, c2, rfl⟩ := row_slice a2
  obtain ⟨x3, c3, rfl⟩ := row_slice a3
  obtain ⟨y0, d0, rfl⟩ := row_slice b0
  obtain ⟨y1, d1, rfl⟩ := row_slice b1
  obtain ⟨y2, d2, rfl⟩ := row_slice b2
  obtain ⟨y3, d3, rfl⟩ := row_slice b3
  have K0 : ∀ u, Hid (Below w.heap.size w u) → _ := fun u hu => sameQ_yes _ _ qs u (a0.below hu.out) (b0.below hu.out) n0
  have K1 : ∀ u, Hid (Below w.heap.size w u) → _ := fun u hu => sameR_yes _ _ an u (a1.below hu.out) (b1.below hu.out) n1
  have K2 : ∀ u, Hid (Below w.heap.size w u) → _ := fun u hu => sameR_yes _ _ ns u (a2.below hu.out) (b2.below hu.out) n2
  have K3 : ∀ u, Hid (Below w.heap.size w u) → _ := fun u hu => sameR_yes _ _ ar u (a3.below hu.out) (b3.below hu.out) n3
  unfold msgC
  simp only
  have KA := (Blk.new w #[.int .i64 id, .bool qr, .int .i64 op, .bool aa, .bool tc, .bool rd, .bool ra, .int .i64 z, .int .i64 rc, .slice x0 qs.length c0, .slice x1 an.length c1, .slice x2 ns.length c2, .slice x3 ar.length c3] 29).alloc (.cells #[.int .i64 id, .bool qr, .int .i64 op, .bool aa, .bool tc, .bool rd, .bool ra, .int .i64 z, .int .i64 rc, .slice y0 qs.length d0, .slice y1 an.length d1, .slice y2 ns.length d2, .slice y3 ar.length d3] 29)
  have KB := Blk.new (w.alloc (.cells #[.int .i64 id, .bool qr, .int .i64 op, .bool aa, .bool tc, .bool rd, .bool ra, .int .i64 z, .int .i64 rc, .slice x0 qs.length c0, .slice x1 an.length c1, .slice x2 ns.length c2, .slice x3 ar.length c3] 29)) #[.int .i64 id, .bool qr, .int .i64 op, .bool aa, .bool tc, .bool rd, .bool ra, .int .i64 z, .int .i64 rc, .slice y0 qs.length d0, .slice y1 an.length d1, .slice y2 ns.length d2, .slice y3 ar.length d3] 29
  have es : (w.alloc (.cells #[.int .i64 id, .bool qr, .int .i64 op, .bool aa, .bool tc, .bool rd, .bool ra, .int .i64 z, .int .i64 rc, .slice x0 qs.length c0, .slice x1 an.length c1, .slice x2 ns.length c2, .slice x3 ar.length c3] 29)).heap.size = w.heap.size + 1 := by simp
  rw [es] at KB
  have hb : Below w.heap.size w w := Below.refl _ _
  have t1 : True := trivial
  have t2 : True := trivial
  clear a0 a1 a2 a3 b0 b1 b2 b3 n0 n1 n2 n3 es
  go_enter Try.func15, Try.ntmps15
  go_wp2_with (first
    | (go_at_call 23; go_must (refine (K0 _ (lay (lay hb _) _)).mono ?_); rintro e w1 ⟨rfl, b1⟩; replace hb := next (lay (lay hb _) _) b1; replace KA := KA.below b1; replace KB := KB.below b1; have f10 : w1.cell? ⟨w.heap.size, 10, none⟩ = some (.slice x1 an.length c1) := KA.cell 10; have e10 : w1.cell? ⟨w.heap.size + 1, 10, none⟩ = some (.slice y1 an.length d1) := KB.cell 10; have f11 : w1.cell? ⟨w.heap.size, 11, none⟩ = some (.slice x2 ns.length c2) := KA.cell 11; have e11 : w1.cell? ⟨w.heap.size + 1, 11, none⟩ = some (.slice y2 ns.length d2) := KB.cell 11; have f12 : w1.cell? ⟨w.heap.size, 12, none⟩ = some (.slice x3 ar.length c3) := KA.cell 12; have e12 : w1.cell? ⟨w.heap.size + 1, 12, none⟩ = some (.slice y3 ar.length d3) := KB.cell 12; clear b1)
    | (go_at_call 38; have _t := t1; go_must (refine (K1 _ hb).mono ?_); rintro e w2 ⟨rfl, b1⟩; replace hb := next hb b1; replace KA := KA.below b1; replace KB := KB.below b1; clear f10 e10 f11 e11 f12 e12; have f11 : w2.cell? ⟨w.heap.size, 11, none⟩ = some (.slice x2 ns.length c2) := KA.cell 11; have e11 : w2.cell? ⟨w.heap.size + 1, 11, none⟩ = some (.slice y2 ns.length d2) := KB.cell 11; have f12 : w2.cell? ⟨w.heap.size, 12, none⟩ = some (.slice x3 ar.length c3) := KA.cell 12; have e12 : w2.cell? ⟨w.heap.size + 1, 12, none⟩ = some (.slice y3 ar.length d3) := KB.cell 12; clear b1 t1 _t)
    | (go_at_call 38; have _t := t2; go_must (refine (K2 _ hb).mono ?_); rintro e w3 ⟨rfl, b1⟩; replace hb := next hb b1; replace KA := KA.below b1; replace KB := KB.below b1; clear f11 e11 f12 e12; have f12 : w3.cell? ⟨w.heap.size, 12, none⟩ = some (.slice x3 ar.length c3) := KA.cell 12; have e12 : w3.cell? ⟨w.heap.size + 1, 12, none⟩ = some (.slice y3 ar.length d3) := KB.cell 12; clear b1 t2 _t)
    | (go_at_call 38; go_must (refine (K3 _ hb).mono ?_); rintro e w4 ⟨rfl, b1⟩; replace hb := next hb b1; clear b1))
  go_ret
  exact ⟨ret_bool (by simp), hb⟩

end Go.Proofs.Ytcapankhobnfeaa

/- What awake gives: true. -/
namespace Go.Proofs.Ytcapankhobnfeaa
open Go.RowKit
open Pl

/-- A row that was laid as it is. -/
theorem Row.of_blk {w : World} {g : Nat} {C : Array Value} {t : TypeId} (h : Blk w g C t) {xs : List Value} (hx : C.toList = xs) (n cap : Nat) : Row w (.slice (some ⟨g, 0, none⟩) n cap) n xs := by
  refine .inr ⟨g, 0, none, cap, rfl, fun _ => rfl, fun j u hu => ?_⟩
  rw [Nat.zero_add, h.cell j, ← hu, ← hx]; simp
theorem Row.nil (w : World) (xs : List Value) : Row w (.slice none 0 0) 0 xs := .inl ⟨rfl, rfl⟩
theorem QRow.nil (w : World) : QRow w (.slice none 0 0) [] := ⟨Row.nil _ _, by decide, fun q h => by simp at h⟩
theorem RRow.nil (w : World) : RRow w (.slice none 0 0) [] := ⟨Row.nil _ _, by decide, fun q h => by simp at h⟩
theorem Own.mr {B : Nat} {w : World} {v0 v1 v2 v3 : Value} {m : Ms} (h : Own B w v0 v1 v2 v3 m) (hm : m.qs.length ≤ 64 ∧ m.an.length ≤ 64 ∧ m.ns.length ≤ 64 ∧ m.ar.length ≤ 64) : MR w v0 v1 v2 v3 m :=
  ⟨Row.of_own h.q, Row.of_own h.an, Row.of_own h.ns, Row.of_own h.ar, by unfold maxLen; omega, by unfold maxLen; omega, by unfold maxLen; omega, by unfold maxLen; omega⟩
/-- A message that was read has few parts. -/
theorem gM_few (s : ByteArray) : (gM s).qs.length ≤ 64 ∧ (gM s).an.length ≤ 64 ∧ (gM s).ns.length ≤ 64 ∧ (gM s).ar.length ≤ 64 := by
  unfold gM
  split
  · cases h : getM s with
    | none => decide
    | some m =>
      have := get_may h
      unfold mayM at this
      simp only [Bool.and_eq_true] at this
      obtain ⟨_, ⟨⟨h0, h1⟩, h2⟩, h3⟩ := this
      exact ⟨(few_iff h0).1, (few_iff h1).1, (few_iff h2).1, (few_iff h3).1⟩
  · decide
theorem MRow.mr {w : World} {v0 v1 v2 v3 : Value} {m : Ms} (h0 : QRow w v0 m.qs) (h1 : RRow w v1 m.an) (h2 : RRow w v2 m.ns) (h3 : RRow w v3 m.ar) : MR w v0 v1 v2 v3 m :=
  ⟨h0.1, h1.1, h2.1, h3.1, h0.2.1, h1.2.1, h2.2.1, h3.2.1⟩

/-- So many bytes of nought are made, and become a string. -/
theorem madeN (n : Nat) (hn : n ≤ 100000) : ∃ Zc : Array Value, (∀ u : World, (Instr.makeSlice 57 (.int .i64 (n : Int)) (.int .i64 (n : Int))).run Try.prog u = .ok (.slice (some ⟨u.heap.size, 0, none⟩) n n) (u.alloc (.cells Zc 5))) ∧
    ∀ (u : World), (convert 57 9 (.slice (some ⟨u.heap.size, 0, none⟩) n n)).run Try.prog (u.alloc (.cells Zc 5)) = .ok (.string (zerosB n)) (u.alloc (.cells Zc 5)) := by
  obtain ⟨i0, hi, hz0, hz1, hz2⟩ := info_parts info5
  refine ⟨((List.replicate n (0 : UInt8)).map bv).toArray, fun u => ?_, fun u => ?_⟩
  · have := run_make (P := Try.prog) u 57 5 i0 (.int .u8 0) Try.underlying57 hi hz0 .i64 .i64 (n : Int) (n : Int) (by omega) (by omega) (by rw [hz2]; omega) (by omega)
    rw [hz1, show (Value.int .u8 0).cells = #[.int .u8 0] from rfl, Nat.mul_one, Int.toNat_natCast, made_zero] at this
    exact this
  · have := conv_lit (List.replicate n 0) u
    rw [List.length_replicate] at this
    exact this

theorem same_z (m : Ms) (v0 v1 v2 v3 u0 u1 u2 u3 : Value) (w : World) (hh : m.h = hdZ) (a : MR w v0 v1 v2 v3 m) (b : MR w u0 u1 u2 u3 m) :
    Calls Try.prog 15 #[.agg #[.int .i64 0, .bool false, .int .i64 0, .bool false, .bool false, .bool false, .bool false, .int .i64 0, .int .i64 0, v0, v1, v2, v3], .agg #[.int .i64 0, .bool false, .int .i64 0, .bool false, .bool false, .bool false, .bool false, .int .i64 0, .int .i64 0, u0, u1, u2, u3]] w fun e w' => e = .returned (.bool true) ∧ Below w.heap.size w w' := by
  have := sameMsg_yes m v0 v1 v2 v3 u0 u1 u2 u3 w a b
  rw [hh] at this
  exact this

def awQ : Qn := ⟨⟨#[1, 97, 0]⟩, 1, 1⟩
def awR : Rc := ⟨⟨#[1, 97, 0]⟩, 1, 1, 5, ⟨#[97, 98, 99, 100]⟩⟩
def awM : Ms := ⟨hdZ, [awQ], [awR], [], []⟩
def awB : ByteArray := ⟨#[0, 0, 0, 0, 0, 1, 0, 1, 0, 0, 0, 0, 1, 97, 0, 0, 1, 0, 1, 192, 12, 0, 1, 0, 1, 0, 0, 0, 5, 0, 4, 97, 98, 99, 100]⟩
theorem aw_may : mayM awM = true := by decide +kernel
theorem aw_st : putSt awM = some (awB.data.toList, [([1, 97, 0], 12)]) := by decide +kernel
theorem aw_put : putV awM = .tuple #[.string awB, .int .i64 0] := by rw [putV_yes aw_may, aw_st]; rfl
theorem aw_get : getM awB = some awM := by have := (there_back aw_may aw_st).1; rwa [arr_list] at this
theorem aw_gm : gM awB = awM ∧ gE awB = 0 := g_some (by decide) aw_get
theorem aw_more : gM (awB ++ ⟨#[97]⟩) = msZ ∧ gE (awB ++ ⟨#[97]⟩) = 700 := by
  refine g_none (by decide) ?_
  cases h : getM (awB ++ ⟨#[97]⟩) with
  | none => rfl
  | some m => exact absurd aw_get (get_behind (by decide) h)
theorem aw_long : gM (zerosB 4097) = msZ ∧ gE (zerosB 4097) = 701 := g_long (by rw [zerosB_size]; decide)
def awZ : Ms := ⟨hdZ, [⟨⟨#[]⟩, 0, 0⟩], [], [], []⟩
theorem aw_bad : putV awZ = .tuple #[.string ⟨#[]⟩, .int .i64 700] := putV_no (by decide +kernel)

theorem small100 {n : Nat} (h : n ≤ 100000) : n ≤ maxLen := by unfold maxLen; omega
/-- A question, a record as a row of its own. -/
theorem qrow_lit {w : World} {g : Nat} {q : Qn} (h : Blk w g (qV q).toArray 46) (hs : q.n.size ≤ 100000) : QRow w (.slice (some ⟨g, 0, none⟩) 1 1) [q] :=
  ⟨Row.of_blk h (by simp [qC]) 1 1, by show 1 ≤ maxLen; exact small100 (by decide), fun x hx => by simp at hx; subst hx; exact small100 hs⟩
theorem rrow_lit {w : World} {g : Nat} {r : Rc} (h : Blk w g (rV r).toArray 54) (hs : r.n.size ≤ 100000) (hd : r.d.size ≤ 100000) : RRow w (.slice (some ⟨g, 0, none⟩) 1 1) [r] :=
  ⟨Row.of_blk h (by simp [rC]) 1 1, by show 1 ≤ maxLen; exact small100 (by decide), fun x hx => by simp at hx; subst hx; exact ⟨small100 hs, small100 hd⟩⟩

theorem aw_p1 {v0 v1 : Value} (u : World) (h0 : QRow u v0 [awQ]) (h1 : RRow u v1 [awR]) : Calls Try.prog 31 #[.agg #[.int .i64 0, .bool false, .int .i64 0, .bool false, .bool false, .bool false, .bool false, .int .i64 0, .int .i64 0, v0, v1, .slice none 0 0, .slice none 0 0]] u fun e w' => e = .returned (.tuple #[.string awB, .int .i64 0]) ∧ Below u.heap.size u w' := by
  have := put_w (msgC hdZ v0 v1 (.slice none 0 0) (.slice none 0 0)) awM u ⟨v0, v1, _, _, rfl, h0, h1, RRow.nil _, RRow.nil _⟩
  rw [aw_put] at this
  exact this
theorem aw_p2 {v0 : Value} (u : World) (h0 : QRow u v0 [⟨⟨#[]⟩, 0, 0⟩]) : Calls Try.prog 31 #[.agg #[.int .i64 0, .bool false, .int .i64 0, .bool false, .bool false, .bool false, .bool false, .int .i64 0, .int .i64 0, v0, .slice none 0 0, .slice none 0 0, .slice none 0 0]] u fun e w' => e = .returned (.tuple #[.string ⟨#[]⟩, .int .i64 700]) ∧ Below u.heap.size u w' := by
  have := put_w (msgC hdZ v0 (.slice none 0 0) (.slice none 0 0) (.slice none 0 0)) awZ u ⟨v0, _, _, _, rfl, h0, RRow.nil _, RRow.nil _, RRow.nil _⟩
  rw [aw_bad] at this
  exact this
theorem aw_z (u : World) (o : Obj) : QRow ((u.alloc o).alloc (.cells #[.string ⟨#[]⟩, .int .i64 0, .int .i64 0] 46)) (.slice (some ⟨u.heap.size + 1, 0, none⟩) 1 1) [⟨⟨#[]⟩, 0, 0⟩] := by
  have k := Blk.new (u.alloc o) #[.string ⟨#[]⟩, .int .i64 0, .int .i64 0] 46
  rw [show (u.alloc o).heap.size = u.heap.size + 1 from by simp] at k
  exact qrow_lit (q := ⟨⟨#[]⟩, 0, 0⟩) k (by decide)
theorem aw_rows (w : World) : QRow (((w.alloc (.cells (qV awQ).toArray 46)).alloc (.cells (rV awR).toArray 54)).alloc (.cells #[.int .i64 0, .bool false, .int .i64 0, .bool false, .bool false, .bool false, .bool false, .int .i64 0, .int .i64 0, .slice (some ⟨w.heap.size, 0, none⟩) 1 1, .slice (some ⟨w.heap.size + 1, 0, none⟩) 1 1, .slice none 0 0, .slice none 0 0] 29)) (.slice (some ⟨w.heap.size, 0, none⟩) 1 1) [awQ] ∧ RRow (((w.alloc (.cells (qV awQ).toArray 46)).alloc (.cells (rV awR).toArray 54)).alloc (.cells #[.int .i64 0, .bool false, .int .i64 0, .bool false, .bool false, .bool false, .bool false, .int .i64 0, .int .i64 0, .slice (some ⟨w.heap.size, 0, none⟩) 1 1, .slice (some ⟨w.heap.size + 1, 0, none⟩) 1 1, .slice none 0 0, .slice none 0 0] 29)) (.slice (some ⟨w.heap.size + 1, 0, none⟩) 1 1) [awR] ∧ Blk (((w.alloc (.cells (qV awQ).toArray 46)).alloc (.cells (rV awR).toArray 54)).alloc (.cells #[.int .i64 0, .bool false, .int .i64 0, .bool false, .bool false, .bool false, .bool false, .int .i64 0, .int .i64 0, .slice (some ⟨w.heap.size, 0, none⟩) 1 1, .slice (some ⟨w.heap.size + 1, 0, none⟩) 1 1, .slice none 0 0, .slice none 0 0] 29)) (w.heap.size + 1 + 1) (msgC hdZ (.slice (some ⟨w.heap.size, 0, none⟩) 1 1) (.slice (some ⟨w.heap.size + 1, 0, none⟩) 1 1) (.slice none 0 0) (.slice none 0 0)) 29 := by
  have e1 : (w.alloc (.cells (qV awQ).toArray 46)).heap.size = w.heap.size + 1 := by simp
  have e2 : ((w.alloc (.cells (qV awQ).toArray 46)).alloc (.cells (rV awR).toArray 54)).heap.size = w.heap.size + 1 + 1 := by simp
  have k1 := ((Blk.new w (qV awQ).toArray 46).alloc (.cells (rV awR).toArray 54)).alloc (.cells #[.int .i64 0, .bool false, .int .i64 0, .bool false, .bool false, .bool false, .bool false, .int .i64 0, .int .i64 0, .slice (some ⟨w.heap.size, 0, none⟩) 1 1, .slice (some ⟨w.heap.size + 1, 0, none⟩) 1 1, .slice none 0 0, .slice none 0 0] 29)
  have k2 := (Blk.new (w.alloc (.cells (qV awQ).toArray 46)) (rV awR).toArray 54).alloc (.cells #[.int .i64 0, .bool false, .int .i64 0, .bool false, .bool false, .bool false, .bool false, .int .i64 0, .int .i64 0, .slice (some ⟨w.heap.size, 0, none⟩) 1 1, .slice (some ⟨w.heap.size + 1, 0, none⟩) 1 1, .slice none 0 0, .slice none 0 0] 29)
  have k3 := Blk.new ((w.alloc (.cells (qV awQ).toArray 46)).alloc (.cells (rV awR).toArray 54)) #[.int .i64 0, .bool false, .int .i64 0, .bool false, .bool false, .bool false, .bool false, .int .i64 0, .int .i64 0, .slice (some ⟨w.heap.size, 0, none⟩) 1 1, .slice (some ⟨w.heap.size + 1, 0, none⟩) 1 1, .slice none 0 0, .slice none 0 0] 29
  rw [e1] at k2
  rw [e2] at k3
  exact ⟨qrow_lit k1 (by decide), rrow_lit k2 (by decide) (by decide), k3⟩

end Go.Proofs.Ytcapankhobnfeaa

/- A row that a string's bytes were laid in; a record's bytes that are turned. -/
namespace Go.Proofs.Ytcapankhobnfeaa
open Go.RowKit
open Pl

/-- A block that a string's bytes were laid in: these bytes at its head, and nothing of them frozen. -/
def BRow (w : World) (g : Nat) (l : List UInt8) : Prop :=
  ∃ cur : Array Value, w.heap[g]? = some (.cells cur 5 (cur.size, cur.size + 1)) ∧ l.length ≤ cur.size ∧ ∀ j (h : j < l.length), cur[j]? = some (bv l[j])

theorem BRow.cell {w : World} {g : Nat} {l : List UInt8} (h : BRow w g l) (j : Nat) (hj : j < l.length) : w.cell? ⟨g, j, none⟩ = some (.int .u8 (l[j].toNat : Int)) := by
  obtain ⟨cur, h1, h2, h3⟩ := h
  rw [cell_of_row w g j cur 5 _ h1]
  exact h3 j hj
theorem BRow.frozen {w : World} {g : Nat} {l : List UInt8} (h : BRow w g l) (j : Nat) (hj : j < l.length) : w.frozen? ⟨g, j, none⟩ = false := by
  obtain ⟨cur, h1, h2, h3⟩ := h
  simp only [World.frozen?, h1]
  simp
  omega
theorem BRow.stored {w : World} {g : Nat} {l : List UInt8} (h : BRow w g l) (j : Nat) (hj : j < l.length) (b : UInt8) :
    BRow (w.setCell ⟨g, j, none⟩ (.int .u8 (b.toNat : Int))) g (l.set j b) ∧ w.grownBy (w.setCell ⟨g, j, none⟩ (.int .u8 (b.toNat : Int))) (some g) := by
  obtain ⟨cur, h1, h2, h3⟩ := h
  refine ⟨⟨cur.setIfInBounds j (.int .u8 (b.toNat : Int)), ?_, by simpa using h2, fun i hi => ?_⟩, ⟨rfl, rfl, rfl, by simp, fun k _ hk => heap_setCell_other w ⟨g, j, none⟩ k _ (fun e => hk (by simp [e]))⟩⟩
  · rw [setCell_eq_setRow w g j cur 5 _ _ h1, setRow_heap w g cur _ 5 _ h1]
    simp
  · simp only [List.length_set] at hi
    by_cases e : i = j
    · subst e
      rw [Array.getElem?_setIfInBounds_self_of_lt (by omega), List.getElem_set_self]
      rfl
    · rw [Array.getElem?_setIfInBounds_ne (by omega), List.getElem_set_ne (by omega)]
      exact h3 i hi
theorem BRow.kept {w w' : World} {g : Nat} {l : List UInt8} (h : BRow w g l) (e : w'.heap[g]? = w.heap[g]?) : BRow w' g l := by
  obtain ⟨cur, h1, h2, h3⟩ := h
  exact ⟨cur, by rw [e]; exact h1, h2, h3⟩

/-- A string's bytes are laid in a block of their own. -/
theorem wpList_bytesB (w : World) {ops : Array Oper} {rest : List Oper} {o : Oper} {a : Act} {Q : Exit → Act → World → Prop} (hgd : o.guard = none) (x : Operand)
    (ho : o.op = .convert 9 57 x) (s : ByteArray) (hx : a.eval x = .string s)
    (h : ∀ cap w', BRow w' w.heap.size s.data.toList → w.grownBy w' none → w'.heap.size = w.heap.size + 1 →
      wpList Try.prog ops Q rest (a.put o.dst (.slice (some ⟨w.heap.size, 0, none⟩) s.size cap)) w') : wpList Try.prog ops Q (o :: rest) a w := by
  refine wpList_plain hgd fun K hK => ?_
  have hr := run_bytes_of_string (P := Try.prog) w 9 57 5 s Try.underlying9 Try.underlying57 Try.underlying5
  unfold Oper.wp execOp
  simp only [ho, hx, Sem.run_bind, hr, Result.andThen_ok, Sem.run_pure]
  refine hK _ _ (h _ _ ⟨_, heap_alloc_last w.drew _, ?_, fun j hj => ?_⟩ ⟨rfl, rfl, rfl, by simp, fun k hk _ => Below.heap_alloc w.drew _ k hk⟩ (by simp))
  · unfold bytesRow
    simp
  · unfold bytesRow
    rw [Array.getElem?_append_left (by simpa using hj)]
    have hd : j < s.data.size := by simpa using hj
    rw [Array.getElem?_map, Array.getElem?_eq_getElem hd]
    rfl

/-- Such bytes become a string. -/
theorem wpList_stringC (w : World) {ops : Array Oper} {rest : List Oper} {o : Oper} {a : Act} {Q : Exit → Act → World → Prop} (hgd : o.guard = none) (x : Operand)
    (ho : o.op = .convert 57 9 x) (g n cap : Nat) (l : List UInt8) (hx : a.eval x = .slice (some ⟨g, 0, none⟩) n cap) (hn : l.length = n) (hrow : BRow w g l)
    (h : wpList Try.prog ops Q rest (a.put o.dst (.string ⟨l.toArray⟩)) w) : wpList Try.prog ops Q (o :: rest) a w := by
  refine wpList_plain hgd fun K hK => ?_
  subst hn
  have hr := run_convert_bytes_back w 57 9 5 ⟨g, 0, none⟩ cap l Try.underlying57 Try.underlying5 Try.underlying9 fun j hj => by
    have hadd : (⟨g, 0, none⟩ : Addr).add j = ⟨g, j, none⟩ := by unfold Addr.add; split <;> simp_all
    rw [hadd]
    exact hrow.cell j hj
  unfold Oper.wp execOp
  simp only [ho, hx, Sem.run_bind, hr, Result.andThen_ok, Sem.run_pure]
  exact hK _ _ h

/-- Such bytes become a string. -/
theorem conv_brow {w : World} {g n cap : Nat} {l : List UInt8} (hrow : BRow w g l) (hn : l.length = n) : (convert 57 9 (.slice (some ⟨g, 0, none⟩) n cap)).run Try.prog w = .ok (.string ⟨l.toArray⟩) w := by
  subst hn
  refine run_convert_bytes_back w 57 9 5 ⟨g, 0, none⟩ cap l Try.underlying57 Try.underlying5 Try.underlying9 fun j hj => ?_
  have hadd : (⟨g, 0, none⟩ : Addr).add j = ⟨g, j, none⟩ := by unfold Addr.add; split <;> simp_all
  rw [hadd]
  exact hrow.cell j hj
theorem BRow.lt {w : World} {g : Nat} {l : List UInt8} (h : BRow w g l) : g < w.heap.size := by
  obtain ⟨cur, h1, _⟩ := h
  exact (Array.getElem?_eq_some_iff.1 h1).1
theorem BRow.below {w w' : World} {g : Nat} {l : List UInt8} (h : BRow w g l) (hb : Below w.heap.size w w') : BRow w' g l := h.kept (hb.block g h.lt)

end Go.Proofs.Ytcapankhobnfeaa

/- A message as it comes in. -/
namespace Go.Proofs.Ytcapankhobnfeaa
open Go.ChangeShapes Go.WideShapes Go.ChangeAt Go.RowKit
open Pl

theorem spot_none {w : World} {a : Addr} {v : Value} (h : w.cell? a = some v) : a.spot = none := by
  unfold World.cell? at h
  split at h
  · split at h
    · simp at h
    · rename_i h1; simpa using h1
  · simp at h
/-- One thing for each number below n. -/
theorem list_of {α : Type} {P : Nat → α → Prop} : ∀ (n : Nat), (∀ i, i < n → ∃ x, P i x) → ∃ xs : List α, xs.length = n ∧ ∀ i (h : i < xs.length), P i xs[i] := by
  intro n
  induction n with
  | zero => intro _; exact ⟨[], rfl, fun i h => by simp at h⟩
  | succ n ih =>
    intro h
    obtain ⟨xs, hl, hx⟩ := ih (fun i hi => h i (by omega))
    obtain ⟨x, hp⟩ := h n (by omega)
    refine ⟨xs ++ [x], by simp [hl], fun i hi => ?_⟩
    by_cases e : i < xs.length
    · rw [List.getElem_append_left e]; exact hx i e
    · have : i = n := by simp at hi; omega
      subst this
      rw [List.getElem_append_right (by omega)]
      simpa [hl] using hp
theorem add_in {g o k j : Nat} : ((⟨g, o, none⟩ : Addr).add k).add j = ⟨g, o + (k + j), none⟩ := by
  unfold Addr.add
  split <;> split <;> simp_all <;> omega
/-- A row of elements of z cells each, as it is read. -/
theorem row_of {α : Type} {f : α → List Value} {z : Nat} (hz : ∀ x, (f x).length = z) (hz0 : 0 < z) {w : World} {a : Addr} {len cap : Nat} {xs : List α} (hl : xs.length = len)
    (h : ∀ i (hi : i < xs.length), ∀ j, j < z → w.cell? ((a.add (i * z)).add j) = (f xs[i])[j]?) : Row w (.slice (some a) len cap) len (xs.flatMap f) := by
  obtain ⟨g, o, p⟩ := a
  have hp : 0 < len → p = none := fun h0 => by
    have h1 := h 0 (by omega) 0 hz0
    have h2 : w.cell? ⟨g, o, p⟩ = (f xs[0])[0]? := by simpa [Addr.add] using h1
    rw [List.getElem?_eq_getElem (by rw [hz]; exact hz0)] at h2
    exact spot_none h2
  refine .inr ⟨g, o, p, cap, rfl, hp, fun j u hu => ?_⟩
  have hj : j < xs.length * z := by have := (List.getElem?_eq_some_iff.1 hu).1; rwa [flat_len hz] at this
  have hlen : 0 < len := by
    cases len with
    | zero => rw [hl] at hj; simp at hj
    | succ n => omega
  have hp0 := hp hlen
  subst hp0
  have hi : j / z < xs.length := Nat.div_lt_of_lt_mul (by rw [Nat.mul_comm]; exact hj)
  have hm := Nat.mod_lt j hz0
  have e : j / z * z + j % z = j := by rw [Nat.mul_comm]; exact Nat.div_add_mod j z
  have h1 := h (j / z) hi (j % z) hm
  rw [add_in, e] at h1
  rw [h1, ← flat_get hz xs (j / z) hi (j % z) hm, e]
  exact hu

theorem q_cellsOf : Try.prog.cellsOf 46 = 3 := by kernel_rfl
theorem r_cellsOf : Try.prog.cellsOf 54 = 5 := by kernel_rfl
theorem m_cellsOf : Try.prog.cellsOf 29 = 13 := by kernel_rfl
theorem s_cellsOf : Try.prog.cellsOf 9 = 1 := by kernel_rfl
theorem qs_cellsOf : Try.prog.cellsOf 26 = 1 := by kernel_rfl
theorem rs_cellsOf : Try.prog.cellsOf 27 = 1 := by kernel_rfl

section
variable {H : Type} {enc : TypeId × Value → H} {W : World}
set_option maxRecDepth 20000 in
theorem open_qrow {fuel : Nat} {c : Value} {x : DataW H × List MemPlace} (h : DataW.trod enc Try.prog W 0 (fun _ => true) true fuel 26 [c] = some x) : ∃ qs, QRow W c qs := by
  rcases DataW.trod_slice Try.underlying26 h with ⟨h0, _⟩ | ⟨a, len, cap, elems, rest, n, _, hcs, _, _, hlc, hcm, hlen, hel, _, _⟩
  · simp at h0
    subst h0
    exact ⟨[], QRow.nil W⟩
  · simp at hcs
    subst hcs
    have each : ∀ i, i < len → ∃ q : Qn, (∀ j, j < 3 → W.cell? ((a.add (i * 3)).add j) = (qV q)[j]?) ∧ q.n.size ≤ maxLen := by
      intro i hi
      have hb := hel i hi
      rw [q_cellsOf] at hb
      have hs : (elems[i]?).isSome = true := by rw [List.getElem?_eq_getElem (by omega)]; rfl
      rw [← hb] at hs
      obtain ⟨y, hy⟩ := Option.isSome_iff_exists.1 hs
      rw [Option.bind_eq_some_iff] at hy
      obtain ⟨cs, hcs, hy⟩ := hy
      obtain ⟨_, hcl, hcell⟩ := World.cells?_some hcs
      obtain ⟨xs, k, _, _, _, hxl, hf⟩ := DataW.trod_struct Try.underlying46 hy
      match xs, hxl, cs, hcl, hcell, hf with
      | [y0, y1, y2], _, [c0, c1, c2], _, hcell, hf =>
        have t0 := hf 0 _ rfl
        have t1 := hf 1 _ rfl
        have t2 := hf 2 _ rfl
        simp [s_cellsOf, int_cells] at t0 t1 t2
        obtain ⟨s, e0, _, hss⟩ := DataW.trod_string Try.underlying9 t0
        obtain ⟨t, e1, _, _⟩ := DataW.trod_int Try.underlying3 t1
        obtain ⟨u, e2, _, _⟩ := DataW.trod_int Try.underlying3 t2
        simp at e0 e1 e2
        refine ⟨⟨s, t, u⟩, fun j hj => ?_, hss⟩
        have := hcell j (by simpa using hj)
        rw [this]
        subst e0 e1 e2
        rfl
    obtain ⟨qs, hl, hq⟩ := list_of len each
    refine ⟨qs, ?_, by omega, fun q hq' => ?_⟩
    · rw [hl]
      exact row_of (f := qV) (z := 3) (fun _ => rfl) (by decide) hl (fun i hi j hj => (hq i hi).1 j hj)
    · obtain ⟨i, hi, rfl⟩ := List.getElem_of_mem hq'
      exact (hq i hi).2
set_option maxRecDepth 20000 in
theorem open_rrow {fuel : Nat} {c : Value} {x : DataW H × List MemPlace} (h : DataW.trod enc Try.prog W 0 (fun _ => true) true fuel 27 [c] = some x) : ∃ rs, RRow W c rs := by
  rcases DataW.trod_slice Try.underlying27 h with ⟨h0, _⟩ | ⟨a, len, cap, elems, rest, n, _, hcs, _, _, hlc, hcm, hlen, hel, _, _⟩
  · simp at h0
    subst h0
    exact ⟨[], RRow.nil W⟩
  · simp at hcs
    subst hcs
    have each : ∀ i, i < len → ∃ q : Rc, (∀ j, j < 5 → W.cell? ((a.add (i * 5)).add j) = (rV q)[j]?) ∧ q.n.size ≤ maxLen ∧ q.d.size ≤ maxLen := by
      intro i hi
      have hb := hel i hi
      rw [r_cellsOf] at hb
      have hs : (elems[i]?).isSome = true := by rw [List.getElem?_eq_getElem (by omega)]; rfl
      rw [← hb] at hs
      obtain ⟨y, hy⟩ := Option.isSome_iff_exists.1 hs
      rw [Option.bind_eq_some_iff] at hy
      obtain ⟨cs, hcs, hy⟩ := hy
      obtain ⟨_, hcl, hcell⟩ := World.cells?_some hcs
      obtain ⟨xs, k, _, _, _, hxl, hf⟩ := DataW.trod_struct Try.underlying54 hy
      match xs, hxl, cs, hcl, hcell, hf with
      | [y0, y1, y2, y3, y4], _, [c0, c1, c2, c3, c4], _, hcell, hf =>
        have t0 := hf 0 _ rfl
        have t1 := hf 1 _ rfl
        have t2 := hf 2 _ rfl
        have t3 := hf 3 _ rfl
        have t4 := hf 4 _ rfl
        simp [s_cellsOf, int_cells] at t0 t1 t2 t3 t4
        obtain ⟨s, e0, _, hss⟩ := DataW.trod_string Try.underlying9 t0
        obtain ⟨t, e1, _, _⟩ := DataW.trod_int Try.underlying3 t1
        obtain ⟨u, e2, _, _⟩ := DataW.trod_int Try.underlying3 t2
        obtain ⟨l, e3, _, _⟩ := DataW.trod_int Try.underlying3 t3
        obtain ⟨d, e4, _, hds⟩ := DataW.trod_string Try.underlying9 t4
        simp at e0 e1 e2 e3 e4
        refine ⟨⟨s, t, u, l, d⟩, fun j hj => ?_, hss, hds⟩
        have := hcell j (by simpa using hj)
        rw [this]
        subst e0 e1 e2 e3 e4
        rfl
    obtain ⟨qs, hl, hq⟩ := list_of len each
    refine ⟨qs, ?_, by omega, fun q hq' => ?_⟩
    · rw [hl]
      exact row_of (f := rV) (z := 5) (fun _ => rfl) (by decide) hl (fun i hi j hj => (hq i hi).1 j hj)
    · obtain ⟨i, hi, rfl⟩ := List.getElem_of_mem hq'
      exact (hq i hi).2
end

set_option maxRecDepth 100000 in
set_option maxHeartbeats 1000000 in
/-- An api.Msg as it comes in. -/
theorem open_msg {H : Type} {enc : TypeId × Value → H} {W : World} {r : Reach} {b0 : Nat} {v : Value} {d : DataW H} {p : List MemPlace} (hval : Value.okWide Try.prog W r b0 29 v) (h0 : DataW.Trod enc Try.prog W 0 (fun _ => true) true 29 v d p) :
    ∃ (m : Ms) (v0 v1 v2 v3 : Value), v = .agg (msgC m.h v0 v1 v2 v3) ∧ QRow W v0 m.qs ∧ RRow W v1 m.an ∧ RRow W v2 m.ns ∧ RRow W v3 m.ar := by
  obtain ⟨cs, rfl, hsz⟩ := okWide_struct Try.underlying29 hval
  obtain ⟨fuel, hf⟩ := h0
  obtain ⟨xs, n, _, hx, hl, hlen, hfs⟩ := DataW.trod_struct Try.underlying29 hf
  obtain ⟨l, rfl⟩ : ∃ l : List Value, cs = l.toArray := ⟨cs.toList, by simp⟩
  have hl13 : l.length = 13 := by rw [m_cellsOf] at hsz; simpa using hsz
  match l, hl13 with
  | [c0, c1, c2, c3, c4, c5, c6, c7, c8, c9, c10, c11, c12], _ =>
  match xs, hlen with
  | [y0, y1, y2, y3, y4], _ =>
    have t0 := hfs 0 _ rfl
    have t1 := hfs 1 _ rfl
    have t2 := hfs 2 _ rfl
    have t3 := hfs 3 _ rfl
    have t4 := hfs 4 _ rfl
    simp [head_cells, qs_cellsOf, rs_cellsOf, Value.cells] at t0 t1 t2 t3 t4
    obtain ⟨q0, h1⟩ := open_qrow t1
    obtain ⟨q1, h2⟩ := open_rrow t2
    obtain ⟨q2, h3⟩ := open_rrow t3
    obtain ⟨q3, h4⟩ := open_rrow t4
    obtain ⟨zs, k, _, _, _, hzl, hz⟩ := DataW.trod_struct Try.underlying25 t0
    match zs, hzl with
    | [z0, z1, z2, z3, z4, z5, z6, z7, z8], _ =>
      have u0 := hz 0 _ rfl
      have u1 := hz 1 _ rfl
      have u2 := hz 2 _ rfl
      have u3 := hz 3 _ rfl
      have u4 := hz 4 _ rfl
      have u5 := hz 5 _ rfl
      have u6 := hz 6 _ rfl
      have u7 := hz 7 _ rfl
      have u8 := hz 8 _ rfl
      simp [bool_cells, int_cells] at u0 u1 u2 u3 u4 u5 u6 u7 u8
      obtain ⟨id, e0, x0, _⟩ := DataW.trod_int Try.underlying3 u0
      obtain ⟨qr, e1, x1⟩ := DataW.trod_bool Try.underlying4 u1
      obtain ⟨op, e2, x2, _⟩ := DataW.trod_int Try.underlying3 u2
      obtain ⟨aa, e3, x3⟩ := DataW.trod_bool Try.underlying4 u3
      obtain ⟨tc, e4, x4⟩ := DataW.trod_bool Try.underlying4 u4
      obtain ⟨rd, e5, x5⟩ := DataW.trod_bool Try.underlying4 u5
      obtain ⟨ra, e6, x6⟩ := DataW.trod_bool Try.underlying4 u6
      obtain ⟨z, e7, x7, _⟩ := DataW.trod_int Try.underlying3 u7
      obtain ⟨rc, e8, x8, _⟩ := DataW.trod_int Try.underlying3 u8
      simp at e0 e1 e2 e3 e4 e5 e6 e7 e8
      subst e0 e1 e2 e3 e4 e5 e6 e7 e8
      exact ⟨⟨⟨id, qr, op, aa, tc, rd, ra, z, rc⟩, q0, q1, q2, q3⟩, c9, c10, c11, c12, rfl, h1, h2, h3, h4⟩

end Go.Proofs.Ytcapankhobnfeaa

/- Put, Get and SameMsg, of a message whose parts are told one by one. -/
namespace Go.Proofs.Ytcapankhobnfeaa
open Go.RowKit
open Pl

theorem same_h (id : Int) (qr : Bool) (op : Int) (aa tc rd ra : Bool) (z rc : Int) (qs : List Qn) (an ns ar : List Rc) (v0 v1 v2 v3 u0 u1 u2 u3 : Value) (w : World) (a : MR w v0 v1 v2 v3 ⟨⟨id, qr, op, aa, tc, rd, ra, z, rc⟩, qs, an, ns, ar⟩) (b : MR w u0 u1 u2 u3 ⟨⟨id, qr, op, aa, tc, rd, ra, z, rc⟩, qs, an, ns, ar⟩) :
    Calls Try.prog 15 #[.agg #[.int .i64 id, .bool qr, .int .i64 op, .bool aa, .bool tc, .bool rd, .bool ra, .int .i64 z, .int .i64 rc, v0, v1, v2, v3], .agg #[.int .i64 id, .bool qr, .int .i64 op, .bool aa, .bool tc, .bool rd, .bool ra, .int .i64 z, .int .i64 rc, u0, u1, u2, u3]] w fun e w' => e = .returned (.bool true) ∧ Below w.heap.size w w' := sameMsg_yes ⟨⟨id, qr, op, aa, tc, rd, ra, z, rc⟩, qs, an, ns, ar⟩ v0 v1 v2 v3 u0 u1 u2 u3 w a b
theorem put_h (id : Int) (qr : Bool) (op : Int) (aa tc rd ra : Bool) (z rc : Int) (qs : List Qn) (an ns ar : List Rc) (T : ByteArray) (E : Int) (v0 v1 v2 v3 : Value) (w : World) (h : putV ⟨⟨id, qr, op, aa, tc, rd, ra, z, rc⟩, qs, an, ns, ar⟩ = .tuple #[.string T, .int .i64 E]) (h0 : QRow w v0 qs) (h1 : RRow w v1 an) (h2 : RRow w v2 ns) (h3 : RRow w v3 ar) :
    Calls Try.prog 31 #[.agg #[.int .i64 id, .bool qr, .int .i64 op, .bool aa, .bool tc, .bool rd, .bool ra, .int .i64 z, .int .i64 rc, v0, v1, v2, v3]] w fun e w' => e = .returned (.tuple #[.string T, .int .i64 E]) ∧ Below w.heap.size w w' := by
  have := put_w (msgC ⟨id, qr, op, aa, tc, rd, ra, z, rc⟩ v0 v1 v2 v3) ⟨⟨id, qr, op, aa, tc, rd, ra, z, rc⟩, qs, an, ns, ar⟩ w ⟨v0, v1, v2, v3, rfl, h0, h1, h2, h3⟩
  rw [h] at this
  exact this
/-- What Put gives: bytes that are read, or none. -/
theorem put_ways (m : Ms) : (∃ T : ByteArray, putV m = .tuple #[.string T, .int .i64 0] ∧ getM T = some m ∧ T.size ≤ 4096 ∧ 12 ≤ T.size) ∨ ∃ E : Int, putV m = .tuple #[.string ⟨#[]⟩, .int .i64 E] ∧ (E = 700 ∨ E = 701) ∧ (mayM m = true → E = 701) := by
  cases hm : mayM m with
  | false => exact .inr ⟨700, putV_no hm, .inl rfl, fun h => by simp at h⟩
  | true =>
    rw [putV_yes hm]
    cases hp : putSt m with
    | none => exact .inr ⟨701, rfl, .inr rfl, fun _ => rfl⟩
    | some st =>
      obtain ⟨h1, h2, h3⟩ := there_back hm hp
      exact .inl ⟨⟨st.1.toArray⟩, rfl, h1, by rw [toArr_size]; exact h2, by rw [toArr_size]; exact h3⟩
theorem own_q {B : Nat} {w : World} {v0 v1 v2 v3 : Value} {m : Ms} (h : Own B w v0 v1 v2 v3 m) (hm : mayM m = true) : QRow w v0 m.qs ∧ RRow w v1 m.an ∧ RRow w v2 m.ns ∧ RRow w v3 m.ar := by
  unfold mayM at hm
  simp only [Bool.and_eq_true] at hm
  obtain ⟨_, ⟨⟨h0, h1⟩, h2⟩, h3⟩ := hm
  have f0 := few_iff h0
  have f1 := few_iff h1
  have f2 := few_iff h2
  have f3 := few_iff h3
  have R : ∀ rs : List Rc, rs.all mayR = true → ∀ r ∈ rs, r.n.size ≤ maxLen ∧ r.d.size ≤ maxLen := fun rs hr r hm => by
    have := List.all_eq_true.1 hr r hm
    unfold mayR at this
    simp only [Bool.and_eq_true] at this
    have a := (name_some this.1.1.1).1
    have b := (may_top this.2).2.2
    rw [data_len] at a b
    exact ⟨small100 (by omega), small100 (by omega)⟩
  refine ⟨⟨Row.of_own h.q, small100 (by omega), fun q hq => ?_⟩, ⟨Row.of_own h.an, small100 (by omega), R _ f1.2⟩, ⟨Row.of_own h.ns, small100 (by omega), R _ f2.2⟩, ⟨Row.of_own h.ar, small100 (by omega), R _ f3.2⟩⟩
  have := List.all_eq_true.1 f0.2 q hq
  unfold mayQ at this
  simp only [Bool.and_eq_true] at this
  have a := (name_some this.1.1).1
  rw [data_len] at a
  exact small100 (by omega)
theorem may_few {m : Ms} (hm : mayM m = true) : m.qs.length ≤ 64 ∧ m.an.length ≤ 64 ∧ m.ns.length ≤ 64 ∧ m.ar.length ≤ 64 := by
  unfold mayM at hm
  simp only [Bool.and_eq_true] at hm
  obtain ⟨_, ⟨⟨h0, h1⟩, h2⟩, h3⟩ := hm
  exact ⟨(few_iff h0).1, (few_iff h1).1, (few_iff h2).1, (few_iff h3).1⟩

end Go.Proofs.Ytcapankhobnfeaa

/- A row of questions, of records that lies anywhere, appended to an empty row of the call's own. -/
namespace Go.Proofs.Ytcapankhobnfeaa
open Go.RowKit
open Pl

/-- What an append reads of. -/
theorem Row.src {w : World} {v : Value} {n : Nat} {xs : List Value} (h : Row w v n xs) : ∃ x0 c, v = .slice x0 n c ∧ (n = 0 ∨ ∃ ad, x0 = some ad ∧ ∀ j u, xs[j]? = some u → w.cell? (ad.add j) = some u) := by
  by_cases hn : n = 0
  · subst hn
    obtain ⟨x, c, hv⟩ := row_none h
    exact ⟨x, c, hv, .inl rfl⟩
  · obtain ⟨g, o, cap, hv, hc⟩ := row_at h (by omega)
    refine ⟨_, _, hv, .inr ⟨_, rfl, fun j u hu => ?_⟩⟩
    have : (⟨g, o, none⟩ : Addr).add j = ⟨g, o + j, none⟩ := by unfold Addr.add; split <;> simp_all
    rw [this]
    exact hc j u hu

/-- How many have not come up. -/
def unl (l : List Bool) : Nat := (l.filter (fun b => !b)).length
theorem unl_set : ∀ (l : List Bool) (i : Nat), l[i]? = some false → unl (l.set i true) + 1 = unl l := by
  intro l
  induction l with
  | nil => intro i h; simp at h
  | cons b l ih =>
    intro i h
    cases i with
    | zero =>
      simp at h
      subst h
      simp [unl]
    | succ i =>
      have := ih i (by simpa using h)
      unfold unl at this ⊢
      cases b <;> simp [List.set_cons_succ] <;> simpa using this
theorem getD_false {l : Array Bool} {i : Nat} (h : l.getD i true = false) : l.toList[i]? = some false := by
  rw [Array.getD_eq_getD_getElem?] at h
  rw [Array.getElem?_toList]
  cases e : l[i]? with
  | none => rw [e] at h; simp at h
  | some b => rw [e] at h; simp at h; rw [h]

section
variable {P : Program} {md : Region.Mode} {ops : Array Oper} {Q : Exit → Act → World → Prop} {S : World → Prop}
/-- A region that draws its order: what holds behind each operation, whichever comes up. -/
theorem wpAnyH_inv (J : Array Bool → Act → World → Prop) (hS : ∀ l a w, J l a w → S w)
    (hstep : ∀ l a w, J l a w → ∀ i, l.getD i true = false → ∀ o, ops[i]? = some o → (∀ e ∈ o.after, Region.binds md e = true → l.getD e.on false = true) →
      ∀ K : Act → World → Prop, (∀ a' w', J (l.setIfInBounds i true) a' w' → K a' w') → if Region.wanted o (yielded ops a.tmps) = true then Oper.wp P o a w K Q else K (a.put o.dst undef) w)
    (hend : ∀ l a w, J l a w → Region.ready md ops l = [] → Q .normal a w) :
    ∀ fuel l a w, unl l.toList ≤ fuel → J l a w → wpAnyH P md ops Q S fuel l a w := by
  intro fuel
  induction fuel with
  | zero =>
    intro l a w hf hJ
    have hr : Region.ready md ops l = [] := by
      apply List.eq_nil_iff_forall_not_mem.2
      intro i hi
      have h1 := unl_set _ _ (getD_false (mem_ready.1 hi).1)
      omega
    exact ⟨hr, hend l a w hJ hr⟩
  | succ fuel ih =>
    intro l a w hf hJ
    refine ⟨hend l a w hJ, fun i hi => ?_⟩
    obtain ⟨hun, o, ho, hall⟩ := mem_ready.1 hi
    refine wpOp_step ho fun K hK => hstep l a w hJ i hun o ho hall K fun a' w' hJ' => hK a' w' ⟨hS _ _ _ hJ', ih _ a' w' ?_ hJ'⟩
    have h1 := unl_set _ _ (getD_false hun)
    rw [Array.toList_setIfInBounds]
    omega
end

theorem ready_nil {md : Region.Mode} {ops : Array Oper} {l : Array Bool} (htop : (List.range ops.size).all (fun i => ((ops[i]?).map (fun o => o.after.all (fun e => decide (e.on < i)))).getD true) = true) (hsz : l.size = ops.size) (hr : Region.ready md ops l = []) : ∀ i, l.getD i true = true := by
  intro i
  induction i using Nat.strongRecOn with
  | _ i ih =>
    cases hi : l.getD i true with
    | true => rfl
    | false =>
      have hlt : i < l.size := by
        rcases Nat.lt_or_ge i l.size with h | h
        · exact h
        · rw [Array.getD_eq_getD_getElem?, Array.getElem?_eq_none h] at hi
          simp at hi
      have ho : ops[i]? = some ops[i] := Array.getElem?_eq_getElem (by omega)
      have ht := List.all_eq_true.1 htop i (List.mem_range.2 (by omega))
      rw [ho] at ht
      simp only [Option.map_some, Option.getD_some, Array.all_eq_true_iff_forall_mem, decide_eq_true_eq] at ht
      have hm : i ∈ Region.ready md ops l := mem_ready.2 ⟨hi, _, ho, fun e he _ => by
        have h1 := ih e.on (ht e he)
        have h2 : e.on < l.size := by have := ht e he; omega
        rw [Array.getD_eq_getD_getElem?, Array.getElem?_eq_getElem h2] at h1 ⊢
        simpa using h1⟩
      rw [hr] at hm
      cases hm

/-- A row that a copy has: an empty one, or one that the call owns. -/
def CRow (B : Nat) (w : World) (e z : Nat) (v : Value) (n : Nat) (xs : List Value) : Prop := (n = 0 ∧ xs = [] ∧ ∃ g, v = .slice (some g) 0 0) ∨ w.ownsRow B e z v n xs
theorem CRow.below {B : Nat} {w w' : World} {e z : Nat} {v : Value} {n : Nat} {xs : List Value} (h : CRow B w e z v n xs) (hb : Below w.heap.size w w') : CRow B w' e z v n xs := h.imp id (fun o => own_past o hb)
theorem CRow.turn {B g : Nat} {w w' : World} {e z : Nat} {v : Value} {n : Nat} {xs : List Value} (h : CRow B w e z v n xs) (ht : Turn (fun k => k = g) w w') (hg : g < B) : CRow B w' e z v n xs := h.imp id (fun o => ht.row o (fun k hk e => by have := (o.lt k hk).1; omega))
theorem CRow.row {B : Nat} {w : World} {e z : Nat} {v : Value} {n : Nat} {xs : List Value} (h : CRow B w e z v n xs) : Row w v n xs := by
  rcases h with ⟨rfl, rfl, g, rfl⟩ | h
  · exact .inr ⟨g.block, g.off, g.spot, 0, rfl, fun h => by omega, fun j u hu => by simp at hu⟩
  · exact Row.of_own h

theorem grown_below {w w' : World} (h : w.grownBy w' none) : Below w.heap.size w w' := (Below.refl _ _).grown h (Nat.le_refl _) (fun _ e => by simp at e)

/-- A row is appended to an empty one without room. -/
theorem step_copy {P : Program} {ops : Array Oper} {o : Oper} {a : Act} {w : World} {K : Act → World → Prop} {Q : Exit → Act → World → Prop} {E : Prop}
    (hgd : o.guard = none) (s x : Operand) (t : TypeId) (ho : o.op = Op.call { callee := Callee.builtin Builtin.append, args := #[s, x], argTypes := #[t, t] })
    (B : Nat) (e : TypeId) (i : TypeInfo) (z : Value) (size bytes : Nat) (h1 : P.underlying t = some (.slice e)) (h2 : P.info? e = some i) (h3 : i.zero = some z) (h4 : i.size = size) (h5 : i.bytes = bytes) (h6 : z.cells.size = size) (h7 : 0 < size)
    (g : Addr) (hs : a.eval s = .slice (some g) 0 0) (v : Value) (n : Nat) (xs : List Value) (hx : a.eval x = v) (hrow : Row w v n xs) (hl : xs.length = n * size) (h1c : ∀ u ∈ xs, u.oneCell' = true) (hb : n * bytes ≤ 140737488355328) (hm : n ≤ maxLen) (hB : B ≤ w.heap.size)
    (hK : ∀ v' w', CRow B w' e size v' n xs → Below w.heap.size w w' → K (a.put o.dst v') w') :
    if Region.wanted o (yielded ops a.tmps) = true then Oper.wp P o a w K Q else E := by
  obtain ⟨x0, c, rfl, hc⟩ := hrow.src
  by_cases hn : n = 0
  · subst hn
    have hxs : xs = [] := List.eq_nil_of_length_eq_zero (by simpa using hl)
    subst hxs
    have hw : Region.wanted o (yielded ops a.tmps) = true := by simp [Region.wanted, hgd]
    rw [if_pos hw]
    have hsrc : Src P i.size t (.slice x0 0 c) 0 [] w := by
      cases x0 with
      | none => exact Src.ofNil w h1 c
      | some ad => exact Src.ofSlice w h1 ad 0 c [] (by simp) (fun j u hu => by simp at hu) (fun u hu => by cases hu)
    have hrun := run_append_nothing (P := P) w t t o.type e i h1 h2 (some g) 0 0 (Nat.le_refl _) _ hsrc
    unfold Oper.wp
    simp only [execOp, ho, resolve, invoke, builtin, Sem.run_bind, Sem.run_pure, Result.andThen_ok, List.map_toArray, List.map_cons, List.map_nil, hs, hx, hrun]
    exact hK _ w (.inl ⟨rfl, rfl, g, rfl⟩) (Below.refl _ _)
  · rcases hc with h0 | ⟨ad, rfl, hcell⟩
    · exact absurd h0 hn
    refine step_append_grows hgd s x t ho e i z size bytes h1 h2 h3 h4 h5 h6 h7 (some g) 0 0 [] hs (fun e => by cases e) (by simp) (fun b _ j u hu => by simp at hu) ad n c xs hx hl hcell h1c (by omega) (by omega) (by rw [Nat.zero_add]; exact hb) (fun v' w' ow gr => ?_)
    rw [Nat.zero_add, List.nil_append] at ow
    exact hK v' w' (.inr (own_base ow hB)) (grown_below gr)

end Go.Proofs.Ytcapankhobnfeaa
