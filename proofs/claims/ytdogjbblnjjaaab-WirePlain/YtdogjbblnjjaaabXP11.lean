/- What putPart and Put of package wire give. -/
import Derived.Test.YtdogjbblnjjaaabXP10
namespace Go.Proofs.Ytdogjbblnjjaaab
open Go.RowKit
open Pl

set_option maxRecDepth 20000 in
theorem putPartQ_any {w0 w : World} {g h : Nat} {o : Option St} (v : Value) (qs : List Qn) (hr : QRow w0 v qs) (a : WO w0 w g h o) :
    Calls Try.prog 20 #[.pointer (some ⟨g, 0, none⟩), v, .func (.func 21) #[] #[]] w fun e w' => e = .returned (.tuple #[]) ∧ WO w0 w' g h (stAll stQ o qs) ∧ Bes w w' := by
  obtain ⟨n, hn⟩ : ∃ n, n = qs.length := ⟨_, rfl⟩
  have hmax := hr.2.1
  rw [← hn] at hmax
  unfold maxLen at hmax
  have HN : Hid (n = qs.length) := hn
  obtain ⟨x, c, hv⟩ := row_slice hr.1
  rw [← hn] at hv
  subst hv
  have HR : Hid (QRow w0 (.slice x n c) qs) := hr
  have HA : Hid (WO w0 w g h o) := a
  clear hr hn a
  go_enter Try.func20, Try.ntmps20
  go_wp2
  go_loopw [10] (fun i wr => ∃ k : Nat, k ≤ n ∧ i = .int .i64 (k : Int) ∧ Hid (WO w0 wr g h (stAll stQ o (qs.take k)) ∧ Bes w wr)) (fun i _ => n - (intOf i).toNat)
  case atStart => exact ⟨0, Nat.zero_le _, rfl, HA.out, Bes.refl _⟩
  case round =>
    clear HA
    obtain ⟨k, hk, rfl, HK⟩ := hrel
    by_cases hkn : k < n
    · have hkm : k < qs.length := by have := HN.out; omega
      obtain ⟨gr, or, cap, hx, hc⟩ := row_at (HR.out.below HK.out.1.out).1 (by omega)
      simp only [Value.slice.injEq] at hx
      obtain ⟨rfl, -, rfl⟩ := hx
      obtain ⟨d0, d1, d2⟩ := q_cells hc hkm
      have hsz := HR.out.2.2 _ (List.getElem_mem hkm)
      have HS : Hid (stAll stQ o (qs.take (k + 1)) = (stAll stQ o (qs.take k)).bind fun a => stQ a qs[k]) := stAll_snoc _ _ _ _ hkm
      obtain ⟨q, hq⟩ : ∃ q, q = qs[k] := ⟨_, rfl⟩
      simp only [← hq] at d0 d1 d2 HS hsz
      have hcall := fun (u : World) (hu : WO w0 u g h (stAll stQ o (qs.take k))) => wquestion_any q hsz hu
      obtain ⟨qn, qt, qc⟩ := q
      simp only at d0 d1 d2 hcall
      clear hc hq hsz
      go_wp2_with (go_at_call 21; go_must (refine (hcall _ (HK.out.1.below (lay (Below.refl _ _) _))).mono ?_); rintro e w1 ⟨rfl, h1, b1⟩; have H1 : Hid (WO w0 w1 g h (stAll stQ o (qs.take (k + 1))) ∧ Bes w w1) := ⟨(by rw [HS.out]; exact h1), (HK.out.2.trans (Bes.of_below (lay (Below.refl _ _) _))).trans b1⟩; clear h1 b1)
      go_roundw
      case rel => exact ⟨k + 1, by omega, by go_num, H1⟩
      case measure => simp [intOf]; omega
    · have hkn' : decide (k < n) = false := by simpa using hkn
      go_wp2
      go_end0
      obtain ⟨h1, h2⟩ := HK.out
      rw [List.take_of_length_le (by have := HN.out; omega)] at h1
      exact ⟨rfl, h1, h2⟩

set_option maxRecDepth 20000 in
theorem putPartR_any {w0 w : World} {g h : Nat} {o : Option St} (v : Value) (qs : List Rc) (hr : RRow w0 v qs) (a : WO w0 w g h o) :
    Calls Try.prog 22 #[.pointer (some ⟨g, 0, none⟩), v, .func (.func 23) #[] #[]] w fun e w' => e = .returned (.tuple #[]) ∧ WO w0 w' g h (stAll stC o qs) ∧ Bes w w' := by
  obtain ⟨n, hn⟩ : ∃ n, n = qs.length := ⟨_, rfl⟩
  have hmax := hr.2.1
  rw [← hn] at hmax
  unfold maxLen at hmax
  have HN : Hid (n = qs.length) := hn
  obtain ⟨x, c, hv⟩ := row_slice hr.1
  rw [← hn] at hv
  subst hv
  have HR : Hid (RRow w0 (.slice x n c) qs) := hr
  have HA : Hid (WO w0 w g h o) := a
  clear hr hn a
  go_enter Try.func22, Try.ntmps22
  go_wp2
  go_loopw [10] (fun i wr => ∃ k : Nat, k ≤ n ∧ i = .int .i64 (k : Int) ∧ Hid (WO w0 wr g h (stAll stC o (qs.take k)) ∧ Bes w wr)) (fun i _ => n - (intOf i).toNat)
  case atStart => exact ⟨0, Nat.zero_le _, rfl, HA.out, Bes.refl _⟩
  case round =>
    clear HA
    obtain ⟨k, hk, rfl, HK⟩ := hrel
    by_cases hkn : k < n
    · have hkm : k < qs.length := by have := HN.out; omega
      obtain ⟨gr, or, cap, hx, hc⟩ := row_at (HR.out.below HK.out.1.out).1 (by omega)
      simp only [Value.slice.injEq] at hx
      obtain ⟨rfl, -, rfl⟩ := hx
      obtain ⟨d0, d1, d2, d3, d4⟩ := r_cells hc hkm
      have hsz := HR.out.2.2 _ (List.getElem_mem hkm)
      have HS : Hid (stAll stC o (qs.take (k + 1)) = (stAll stC o (qs.take k)).bind fun a => stC a qs[k]) := stAll_snoc _ _ _ _ hkm
      obtain ⟨q, hq⟩ : ∃ q, q = qs[k] := ⟨_, rfl⟩
      simp only [← hq] at d0 d1 d2 d3 d4 HS hsz
      have hcall := fun (u : World) (hu : WO w0 u g h (stAll stC o (qs.take k))) => wrecord_any q hsz.1 hsz.2 hu
      obtain ⟨qn, qt, qc, ql, qd⟩ := q
      simp only at d0 d1 d2 d3 d4 hcall
      clear hc hq hsz
      go_wp2_with (go_at_call 23; go_must (refine (hcall _ (HK.out.1.below (lay (Below.refl _ _) _))).mono ?_); rintro e w1 ⟨rfl, h1, b1⟩; have H1 : Hid (WO w0 w1 g h (stAll stC o (qs.take (k + 1))) ∧ Bes w w1) := ⟨(by rw [HS.out]; exact h1), (HK.out.2.trans (Bes.of_below (lay (Below.refl _ _) _))).trans b1⟩; clear h1 b1)
      go_roundw
      case rel => exact ⟨k + 1, by omega, by go_num, H1⟩
      case measure => simp [intOf]; omega
    · have hkn' : decide (k < n) = false := by simpa using hkn
      go_wp2
      go_end0
      obtain ⟨h1, h2⟩ := HK.out
      rw [List.take_of_length_le (by have := HN.out; omega)] at h1
      exact ⟨rfl, h1, h2⟩

end Go.Proofs.Ytdogjbblnjjaaab

/- What Put of package wire gives. -/
namespace Go.Proofs.Ytdogjbblnjjaaab
open Go.RowKit
open Pl

/-- A message as values. -/
def msgC (h : Hd) (v0 v1 v2 v3 : Value) : Array Value := #[.int .i64 h.id, .bool h.qr, .int .i64 h.op, .bool h.aa, .bool h.tc, .bool h.rd, .bool h.ra, .int .i64 h.z, .int .i64 h.rc, v0, v1, v2, v3]
/-- A message as it lies. -/
def MRow (w : World) (H : Array Value) (m : Ms) : Prop := ∃ v0 v1 v2 v3, H = msgC m.h v0 v1 v2 v3 ∧ QRow w v0 m.qs ∧ RRow w v1 m.an ∧ RRow w v2 m.ns ∧ RRow w v3 m.ar
theorem MRow.below {w w' : World} {H : Array Value} {m : Ms} (h : MRow w H m) (hb : Below w.heap.size w w') : MRow w' H m := by
  obtain ⟨v0, v1, v2, v3, h0, h1, h2, h3, h4⟩ := h
  exact ⟨v0, v1, v2, v3, h0, h1.below hb, h2.below hb, h3.below hb, h4.below hb⟩

theorem mayH_counts {h : Hd} {a b c d : Int} (hh : mayHd h = true) (ha : 0 ≤ a ∧ a ≤ 64) (hb : 0 ≤ b ∧ b ≤ 64) (hc : 0 ≤ c ∧ c ≤ 64) (hd : 0 ≤ d ∧ d ≤ 64) : mayH h.id h.op h.z h.rc a b c d = true := by
  unfold mayHd at hh
  rw [mayH_iff] at hh ⊢
  obtain ⟨h1, h2, h3, h4, _⟩ := hh
  exact ⟨h1, h2, h3, h4, fit_iff.2 (by omega), fit_iff.2 (by omega), fit_iff.2 (by omega), fit_iff.2 (by omega)⟩
theorem mayHd_of {h : Hd} {a b c d : Int} (hh : mayH h.id h.op h.z h.rc a b c d = true) : mayHd h = true := by
  unfold mayHd
  rw [mayH_iff] at hh ⊢
  obtain ⟨h1, h2, h3, h4, _⟩ := hh
  exact ⟨h1, h2, h3, h4, by decide, by decide, by decide, by decide⟩
theorem mayM_head {m : Ms} (h : mayH m.h.id m.h.op m.h.z m.h.rc (m.qs.length : Int) (m.an.length : Int) (m.ns.length : Int) (m.ar.length : Int) = false) : mayM m = false := by
  cases hm : mayM m with
  | false => rfl
  | true =>
    unfold mayM at hm
    simp only [Bool.and_eq_true] at hm
    obtain ⟨hh, ⟨⟨h0, h1⟩, h2⟩, h3⟩ := hm
    have := few_iff h0
    have := few_iff h1
    have := few_iff h2
    have := few_iff h3
    rw [mayH_counts hh (by omega) (by omega) (by omega) (by omega)] at h
    simp at h
theorem putV_no {m : Ms} (h : mayM m = false) : putV m = .tuple #[.string ⟨#[]⟩, .int .i64 700] := by unfold putV; rw [h]; rfl
theorem putV_yes {m : Ms} (h : mayM m = true) : putV m = stV (putSt m) := by unfold putV; rw [h]; rfl
theorem stR_head (m : Ms) : (some (([], []) : St)).bind (fun x => stR x (headS m)) = some ((headS m).data.toList, []) := by
  have h := headS_len m
  rw [data_len] at h
  simp only [Option.bind_some, stR, rawE, rawB]
  rw [if_pos (by rw [h]; decide), if_pos (by rw [h]; decide)]; rfl

theorem wo_new {w u : World} {h : Nat} (hh : Holds w u h [] []) : WO w (u.alloc (.cells #[.pointer (some ⟨h, 0, none⟩), .bool false] 65)) u.heap.size h (some ([], [])) :=
  ⟨[], [], false, ⟨Blk.new u _ _, hh.out.size, hh.below (lay (Below.refl _ _) _)⟩, .inl ⟨rfl, rfl⟩⟩

set_option maxRecDepth 20000 in
set_option maxHeartbeats 4000000 in
theorem put_w (H : Array Value) (m : Ms) (w : World) (hm : MRow w H m) :
    Calls Try.prog 7 #[.agg H] w fun e w' => e = .returned (putV m) ∧ Below w.heap.size w w' := by
  obtain ⟨v0, v1, v2, v3, rfl, h0, h1, h2, h3⟩ := hm
  obtain ⟨x0, c0, rfl⟩ := row_slice h0.1
  obtain ⟨x1, c1, rfl⟩ := row_slice h1.1
  obtain ⟨x2, c2, rfl⟩ := row_slice h2.1
  obtain ⟨x3, c3, rfl⟩ := row_slice h3.1
  obtain ⟨P, hP⟩ : ∃ P, P = putV m := ⟨_, rfl⟩
  rw [← hP]
  have HP : Hid (P = putV m) := hP
  have hb : Below w.heap.size w w := Below.refl _ _
  have H0 : Hid (QRow w (.slice x0 m.qs.length c0) m.qs) := h0
  have H1 : Hid (RRow w (.slice x1 m.an.length c1) m.an) := h1
  have H2 : Hid (RRow w (.slice x2 m.ns.length c2) m.ns) := h2
  have H3 : Hid (RRow w (.slice x3 m.ar.length c3) m.ar) := h3
  have hput := fun u => put_any m.h.id m.h.qr m.h.op m.h.aa m.h.tc m.h.rd m.h.ra m.h.z m.h.rc (m.qs.length : Int) (m.an.length : Int) (m.ns.length : Int) (m.ar.length : Int) u
  have hpar := fun (u : World) (hu : Below w.heap.size w u) => mayParts_any (msgC m.h (.slice x0 m.qs.length c0) (.slice x1 m.an.length c1) (.slice x2 m.ns.length c2) (.slice x3 m.ar.length c3)) m.h.id m.h.qr m.h.op m.h.aa m.h.tc m.h.rd m.h.ra m.h.z m.h.rc _ _ _ _ m.qs m.an m.ns m.ar u (H0.out.below hu) (H1.out.below hu) (H2.out.below hu) (H3.out.below hu) rfl
  have e0 : Hid ((few mayQ m.qs && few mayR m.an && few mayR m.ns && few mayR m.ar) = true → mayHd m.h = true → mayM m = true) := fun a b => by unfold mayM; rw [a, b]; rfl
  have e1 : Hid ((few mayQ m.qs && few mayR m.an && few mayR m.ns && few mayR m.ar) = false → mayM m = false) := fun a => by unfold mayM; rw [a, Bool.and_false]
  have e2 : Hid (mayH m.h.id m.h.op m.h.z m.h.rc (m.qs.length : Int) (m.an.length : Int) (m.ns.length : Int) (m.ar.length : Int) = false → mayM m = false) := mayM_head
  have e3 : Hid (mayH m.h.id m.h.op m.h.z m.h.rc (m.qs.length : Int) (m.an.length : Int) (m.ns.length : Int) (m.ar.length : Int) = true → mayHd m.h = true) := mayHd_of
  obtain ⟨T, hT⟩ : ∃ T, T = headS m := ⟨_, rfl⟩
  have e4 : putS m.h.id (wordH m.h.qr m.h.op m.h.aa m.h.tc m.h.rd m.h.ra m.h.z m.h.rc) (m.qs.length : Int) (m.an.length : Int) (m.ns.length : Int) (m.ar.length : Int) 4 = T := hT.symm
  have HTS : Hid (T.size ≤ maxLen) := by unfold Hid maxLen; rw [hT, ← data_len, headS_len]; decide
  have HST : Hid (mayM m = true → P = stV (stAll stC (stAll stC (stAll stC (stAll stQ ((some (([], []) : St)).bind fun x => stR x T) m.qs) m.an) m.ns) m.ar)) := fun h => by rw [HP.out, putV_yes h, hT, stR_head]; rfl
  obtain ⟨b1, hb1⟩ : ∃ b, mayH m.h.id m.h.op m.h.z m.h.rc (m.qs.length : Int) (m.an.length : Int) (m.ns.length : Int) (m.ar.length : Int) = b := ⟨_, rfl⟩
  obtain ⟨b2, hb2⟩ : ∃ b, (few mayQ m.qs && few mayR m.an && few mayR m.ns && few mayR m.ar) = b := ⟨_, rfl⟩
  have q0 := h0.2.1
  have q1 := h1.2.1
  have q2 := h2.2.1
  have q3 := h3.2.1
  unfold maxLen at q0 q1 q2 q3
  unfold putT at hput
  simp only [hb1, e4] at hput
  simp only [hb2] at hpar
  rw [hb1] at e2 e3
  rw [hb2] at e0 e1
  clear h0 h1 h2 h3 hP hb1 hb2 e4 hT
  have KB := Blk.new w (msgC m.h (.slice x0 m.qs.length c0) (.slice x1 m.an.length c1) (.slice x2 m.ns.length c2) (.slice x3 m.ar.length c3)) 33
  have t1 : True := trivial
  have t2 : True := trivial
  obtain ⟨hd, qs, an, ns, ar⟩ := m
  obtain ⟨id, qr, op, aa, tc, rd, ra, z, rc⟩ := hd
  unfold msgC at KB hpar ⊢
  unfold headV cntV at hput
  simp only at hput hpar KB HP H0 H1 H2 H3 q0 q1 q2 q3 ⊢
  cases b1 with
  | false =>
    simp only [Bool.false_eq_true, if_false] at hput
    have HE : Hid (P = .tuple #[.string ⟨#[]⟩, .int .i64 700]) := by unfold Hid; rw [HP.out]; exact putV_no (e2.out rfl)
    go_enter Try.func7, Try.ntmps7
    go_wp2_with (go_at_call 16; go_must (refine (hput _).mono ?_); rintro e w1 ⟨rfl, b1⟩; replace hb := next (lay (lay hb _) _) b1; clear b1)
    go_ret2
    exact ⟨congrArg Ending.returned HE.out.symm, hb⟩
  | true =>
    simp only [if_true] at hput
    cases b2 with
    | false =>
      have HE : Hid (P = .tuple #[.string ⟨#[]⟩, .int .i64 700]) := by unfold Hid; rw [HP.out]; exact putV_no (e1.out rfl)
      go_enter Try.func7, Try.ntmps7
      go_wp2_with (first
        | (go_at_call 16; go_must (refine (hput _).mono ?_); rintro e w1 ⟨rfl, b1⟩; replace hb := next (lay (lay hb _) _) b1; replace KB := (KB.alloc _).below b1; clear b1; have m0 : w1.cell? ⟨w.heap.size, 0, none⟩ = some (.int .i64 id) := KB.cell 0; have m1 : w1.cell? ⟨w.heap.size, 1, none⟩ = some (.bool qr) := KB.cell 1; have m2 : w1.cell? ⟨w.heap.size, 2, none⟩ = some (.int .i64 op) := KB.cell 2; have m3 : w1.cell? ⟨w.heap.size, 3, none⟩ = some (.bool aa) := KB.cell 3; have m4 : w1.cell? ⟨w.heap.size, 4, none⟩ = some (.bool tc) := KB.cell 4; have m5 : w1.cell? ⟨w.heap.size, 5, none⟩ = some (.bool rd) := KB.cell 5; have m6 : w1.cell? ⟨w.heap.size, 6, none⟩ = some (.bool ra) := KB.cell 6; have m7 : w1.cell? ⟨w.heap.size, 7, none⟩ = some (.int .i64 z) := KB.cell 7; have m8 : w1.cell? ⟨w.heap.size, 8, none⟩ = some (.int .i64 rc) := KB.cell 8; have f9 : w1.cell? ⟨w.heap.size, 9, none⟩ = some (.slice x0 qs.length c0) := KB.cell 9; have f10 : w1.cell? ⟨w.heap.size, 10, none⟩ = some (.slice x1 an.length c1) := KB.cell 10; have f11 : w1.cell? ⟨w.heap.size, 11, none⟩ = some (.slice x2 ns.length c2) := KB.cell 11; have f12 : w1.cell? ⟨w.heap.size, 12, none⟩ = some (.slice x3 ar.length c3) := KB.cell 12)
        | (go_at_call 17; go_must (refine (hpar _ hb).mono ?_); rintro e w2 ⟨rfl, b2⟩; replace hb := next hb b2; clear b2))
      go_ret2
      exact ⟨congrArg Ending.returned HE.out.symm, hb⟩
    | true =>
      have HE := HST.out (e0.out rfl (e3.out rfl))
      obtain ⟨o1, ho1⟩ : ∃ o, o = (some (([], []) : St)).bind fun x => stR x T := ⟨_, rfl⟩
      have HO1 : Hid (o1 = (some (([], []) : St)).bind fun x => stR x T) := ho1
      rw [← ho1] at HE
      have HF : Hid (P = stV (stAll stC (stAll stC (stAll stC (stAll stQ o1 qs) an) ns) ar)) := HE
      clear HE ho1 HST e0 e1 e2 e3
      go_enter Try.func7, Try.ntmps7
      go_wp2_with (first
        | (go_at_call 16; go_must (refine (hput _).mono ?_); rintro e w1 ⟨rfl, b1⟩; replace hb := next (lay (lay hb _) _) b1; replace KB := (KB.alloc _).below b1; clear b1; have m0 : w1.cell? ⟨w.heap.size, 0, none⟩ = some (.int .i64 id) := KB.cell 0; have m1 : w1.cell? ⟨w.heap.size, 1, none⟩ = some (.bool qr) := KB.cell 1; have m2 : w1.cell? ⟨w.heap.size, 2, none⟩ = some (.int .i64 op) := KB.cell 2; have m3 : w1.cell? ⟨w.heap.size, 3, none⟩ = some (.bool aa) := KB.cell 3; have m4 : w1.cell? ⟨w.heap.size, 4, none⟩ = some (.bool tc) := KB.cell 4; have m5 : w1.cell? ⟨w.heap.size, 5, none⟩ = some (.bool rd) := KB.cell 5; have m6 : w1.cell? ⟨w.heap.size, 6, none⟩ = some (.bool ra) := KB.cell 6; have m7 : w1.cell? ⟨w.heap.size, 7, none⟩ = some (.int .i64 z) := KB.cell 7; have m8 : w1.cell? ⟨w.heap.size, 8, none⟩ = some (.int .i64 rc) := KB.cell 8; have f9 : w1.cell? ⟨w.heap.size, 9, none⟩ = some (.slice x0 qs.length c0) := KB.cell 9; have f10 : w1.cell? ⟨w.heap.size, 10, none⟩ = some (.slice x1 an.length c1) := KB.cell 10; have f11 : w1.cell? ⟨w.heap.size, 11, none⟩ = some (.slice x2 ns.length c2) := KB.cell 11; have f12 : w1.cell? ⟨w.heap.size, 12, none⟩ = some (.slice x3 ar.length c3) := KB.cell 12)
        | (go_at_call 17; go_must (refine (hpar _ hb).mono ?_); rintro e w2 ⟨rfl, b2⟩; replace hb := next hb b2; replace KB := KB.below b2; clear b2 m0 m1 m2 m3 m4 m5 m6 m7 m8 f9 f10 f11 f12)
        | (go_at_call 18; go_must (refine (new_h w _ hb).mono ?_); rintro e w3 ⟨hh, rfl, h3, b3⟩; have HH : Hid (Holds w w3 hh [] []) := h3; replace KB : Blk w3 w.heap.size _ _ := b3 _ _ _ _ KB (by decide) (by decide); replace KB := KB.alloc (.cells #[.pointer (some ⟨hh, 0, none⟩), .bool false] 65); clear h3 b3 hb)
        | (go_at_call 19; go_must (refine (wraw_any T HTS.out (wo_new HH.out)).mono ?_); rintro e w4 ⟨rfl, h4, b4⟩; have W4 : Hid (WO w w4 w3.heap.size hh o1) := (by unfold Hid; rw [HO1.out]; exact h4); replace KB := b4.blk KB (by decide) (by decide) (by decide); have f9 : w4.cell? ⟨w.heap.size, 9, none⟩ = some (.slice x0 qs.length c0) := KB.cell 9; have f10 : w4.cell? ⟨w.heap.size, 10, none⟩ = some (.slice x1 an.length c1) := KB.cell 10; have f11 : w4.cell? ⟨w.heap.size, 11, none⟩ = some (.slice x2 ns.length c2) := KB.cell 11; have f12 : w4.cell? ⟨w.heap.size, 12, none⟩ = some (.slice x3 ar.length c3) := KB.cell 12; clear h4 b4)
        | (go_at_call 20; go_must (refine (putPartQ_any _ qs H0.out W4.out).mono ?_); rintro e w5 ⟨rfl, h5, b5⟩; have W5 : Hid (WO w w5 w3.heap.size hh (stAll stQ o1 qs)) := h5; replace KB := b5.blk KB (by decide) (by decide) (by decide); clear f9 f10 f11 f12; have f10 : w5.cell? ⟨w.heap.size, 10, none⟩ = some (.slice x1 an.length c1) := KB.cell 10; have f11 : w5.cell? ⟨w.heap.size, 11, none⟩ = some (.slice x2 ns.length c2) := KB.cell 11; have f12 : w5.cell? ⟨w.heap.size, 12, none⟩ = some (.slice x3 ar.length c3) := KB.cell 12; clear h5 b5 W4)
        | (go_at_call 22; have _t := t1; go_must (refine (putPartR_any _ an H1.out W5.out).mono ?_); rintro e w6 ⟨rfl, h6, b6⟩; have W6 : Hid (WO w w6 w3.heap.size hh (stAll stC (stAll stQ o1 qs) an)) := h6; replace KB := b6.blk KB (by decide) (by decide) (by decide); clear f10 f11 f12; have f11 : w6.cell? ⟨w.heap.size, 11, none⟩ = some (.slice x2 ns.length c2) := KB.cell 11; have f12 : w6.cell? ⟨w.heap.size, 12, none⟩ = some (.slice x3 ar.length c3) := KB.cell 12; clear h6 b6 W5 t1 _t)
        | (go_at_call 22; have _t := t2; go_must (refine (putPartR_any _ ns H2.out W6.out).mono ?_); rintro e w7 ⟨rfl, h7, b7⟩; have W7 : Hid (WO w w7 w3.heap.size hh (stAll stC (stAll stC (stAll stQ o1 qs) an) ns)) := h7; replace KB := b7.blk KB (by decide) (by decide) (by decide); clear f11 f12; have f12 : w7.cell? ⟨w.heap.size, 12, none⟩ = some (.slice x3 ar.length c3) := KB.cell 12; clear h7 b7 W6 t2 _t)
        | (go_at_call 22; go_must (refine (putPartR_any _ ar H3.out W7.out).mono ?_); rintro e w8 ⟨rfl, h8, b8⟩; obtain ⟨B, ms, f, a8, ho⟩ := h8; have g0 : w8.cell? ⟨w3.heap.size, 0, none⟩ = some (.pointer (some ⟨hh, 0, none⟩)) := a8.1.cell 0; have g1 : w8.cell? ⟨w3.heap.size, 1, none⟩ = some (.bool f) := a8.1.cell 1; have A8 : Hid (Holds w w8 hh B ms) := a8.2.2; have HO : Hid ((f = false ∧ stAll stC (stAll stC (stAll stC (stAll stQ o1 qs) an) ns) ar = some (B, ms)) ∨ (f = true ∧ stAll stC (stAll stC (stAll stC (stAll stQ o1 qs) an) ns) ar = none)) := ho; clear f12 b8 W7 a8 ho; cases f)
        | (go_at_call 24; go_must (refine (all_h A8.out).mono ?_); rintro e w' ⟨rfl, hw⟩; obtain rfl := hw.symm))
      · go_ret2
        rcases HO.out with ⟨_, h⟩ | ⟨h, _⟩
        · exact ⟨by rw [HF.out, h]; rfl, A8.out.out⟩
        · simp at h
      · go_ret2
        rcases HO.out with ⟨h, _⟩ | ⟨_, h⟩
        · simp at h
        · exact ⟨by rw [HF.out, h]; rfl, A8.out.out⟩

end Go.Proofs.Ytdogjbblnjjaaab
