/- What awake of the law over package match gives: true. -/
import Derived.Test.YtbffnicfibfceaaXMaB
namespace Go.Proofs.Ytbffnicfibfceaa.Ma
open Go.RowKit
open Pl

theorem ma_get {m : Ms} (hm : mayM m = true) (hp : (putSt m).isSome = true) : ∃ T : ByteArray, putV m = .tuple #[.string T, .int .i64 0] ∧ (gM T = m ∧ gE T = 0) ∧ T.size ≤ 4096 := by
  rcases put_ways m with ⟨T, h1, h2, h3, _⟩ | ⟨E, h1, h2, _⟩
  · exact ⟨T, h1, g_some h3 h2, h3⟩
  · exfalso
    rw [putV_yes hm] at h1
    cases h : putSt m with
    | none => rw [h] at hp; simp at hp
    | some st =>
      rw [h] at h1
      have h3 : Value.tuple #[.string ⟨st.1.toArray⟩, .int .i64 0] = .tuple #[.string ⟨#[]⟩, .int .i64 E] := h1
      have : (0 : Int) = E := by simp at h3; exact h3.2
      rcases h2 with rfl | rfl <;> simp at this
theorem rp_at {s : ByteArray} {m : Ms} {E : Int} (h : gM s = m ∧ gE s = E) : (E = 0 → isR m = true → rpM s = m ∧ rpE s = 0) ∧ ((E ≠ 0 ∨ isR m = false) → rpM s = msZ ∧ rpE s = 2000) := by
  refine ⟨fun hE hr => ?_, fun hn => ?_⟩
  · have := rp_m (s := s) ⟨by rw [h.2]; exact hE, by rw [h.1]; exact hr⟩
    rw [h.1] at this
    exact this
  · refine rp_z (fun hc => ?_)
    rw [h.1, h.2] at hc
    rcases hn with hn | hn
    · exact hn hc.1
    · rw [hn] at hc; simp at hc

def maQ : Qn := ⟨⟨#[0]⟩, 1, 1⟩
def maY : Ms := ⟨⟨5, true, 0, false, false, false, false, 0, 0⟩, [maQ], [], [], []⟩
def maN : Ms := ⟨⟨5, false, 0, false, false, false, false, 0, 0⟩, [maQ], [], [], []⟩
theorem ma_yes : ∃ T : ByteArray, putV maY = .tuple #[.string T, .int .i64 0] ∧ (rpM T = maY ∧ rpE T = 0) ∧ T.size ≤ maxLen := by
  obtain ⟨T, h1, h2, h3⟩ := ma_get (m := maY) (by decide +kernel) (by decide +kernel)
  exact ⟨T, h1, (rp_at h2).1 rfl (by decide +kernel), by unfold maxLen; omega⟩
theorem ma_no : ∃ T : ByteArray, putV maN = .tuple #[.string T, .int .i64 0] ∧ (rpM T = msZ ∧ rpE T = 2000) ∧ T.size ≤ maxLen := by
  obtain ⟨T, h1, h2, h3⟩ := ma_get (m := maN) (by decide +kernel) (by decide +kernel)
  exact ⟨T, h1, (rp_at h2).2 (.inr (by decide +kernel)), by unfold maxLen; omega⟩
theorem ma_nil : rpM ⟨#[]⟩ = msZ ∧ rpE ⟨#[]⟩ = 2000 :=
  (rp_at (g_none (by decide) (by decide +kernel))).2 (.inl (by decide))
/-- Reply, where nothing is given. -/
theorem reply_z (s : ByteArray) (w : World) (hs : s.size ≤ maxLen) (h : rpM s = msZ ∧ rpE s = 2000) :
    Calls Try.prog 5 #[.string s] w fun e w' => ∃ (y0 y1 y2 y3 : Option Addr) (k0 k1 k2 k3 : Nat), e = .returned (.tuple #[.agg #[.int .i64 0, .bool false, .int .i64 0, .bool false, .bool false, .bool false, .bool false, .int .i64 0, .int .i64 0, .slice y0 0 k0, .slice y1 0 k1, .slice y2 0 k2, .slice y3 0 k3], .int .i64 2000]) ∧ Below w.heap.size w w' :=
  (reply_h s 0 false 0 false false false false 0 0 [] [] [] [] 2000 w hs h).mono fun _ _ ⟨_, _, _, _, _, _, _, _, h1, _, h2⟩ => ⟨_, _, _, _, _, _, _, _, h1, h2⟩

def mW (b : Nat) (qr : Bool) : Array Value := #[.int .i64 5, .bool qr, .int .i64 0, .bool false, .bool false, .bool false, .bool false, .int .i64 0, .int .i64 0, .slice (some ⟨b, 0, none⟩) 1 1, .slice none 0 0, .slice none 0 0, .slice none 0 0]
theorem ma_new (w : World) : Blk ((w.alloc (.cells (qV maQ).toArray 40)).alloc (.cells (mW w.heap.size true) 27)) w.heap.size (qV maQ).toArray 40 ∧ Blk ((w.alloc (.cells (qV maQ).toArray 40)).alloc (.cells (mW w.heap.size true) 27)) (w.heap.size + 1) (mW w.heap.size true) 27 := by
  have k2 := Blk.new (w.alloc (.cells (qV maQ).toArray 40)) (mW w.heap.size true) 27
  rw [World.size_alloc] at k2
  exact ⟨(Blk.new w (qV maQ).toArray 40).alloc _, k2⟩

set_option maxRecDepth 20000 in
set_option maxHeartbeats 2000000 in
theorem awake_any (w : World) : Calls Try.prog 10 #[] w fun e w' => e = .returned (.bool true) ∧ Below w.heap.size w w' := by
  have hb : Below w.heap.size w w := Below.refl _ _
  obtain ⟨T1, p1, r1, s1⟩ := ma_yes
  obtain ⟨T2, p2, r2, s2⟩ := ma_no
  have HP1 : Hid (putV maY = .tuple #[.string T1, .int .i64 0]) := p1
  have HP2 : Hid (putV maN = .tuple #[.string T2, .int .i64 0]) := p2
  have HR1 : Hid (rpM T1 = maY ∧ rpE T1 = 0) := r1
  have HR2 : Hid (rpM T2 = msZ ∧ rpE T2 = 2000) := r2
  have HS : Hid (T1.size ≤ maxLen ∧ T2.size ≤ maxLen) := ⟨s1, s2⟩
  clear p1 p2 r1 r2 s1 s2
  obtain ⟨KQ, KM⟩ := ma_new w
  have hn : (⟨#[]⟩ : ByteArray).size ≤ maxLen := by unfold maxLen; decide
  have t1 : True := trivial
  have t2 : True := trivial
  have t3 : True := trivial
  go_enter Try.func10, Try.ntmps10
  go_wp2_with (first
    | (go_at_call 9; refine (num_any _ _).mono ?_; rintro e w' ⟨rfl, hw⟩; obtain rfl := hw.symm)
    | (go_at_call 7; have _t := t1; go_must (refine (rput_h 5 true 0 false false false false 0 0 [maQ] [] [] [] T1 0 _ _ _ _ _ HP1.out (qrow_lit (q := maQ) KQ (by decide)) (RRow.nil _) (RRow.nil _) (RRow.nil _)).mono ?_); rintro e w1 ⟨rfl, bb⟩; replace KQ := KQ.below bb; replace KM := KM.below bb; replace hb := next (lay (lay hb _) _) bb; clear bb t1 _t)
    | (go_at_call 5; have _t := t2; go_must (refine (reply_h T1 5 true 0 false false false false 0 0 [maQ] [] [] [] 0 _ HS.out.1 HR1.out).mono ?_); rintro e w2 ⟨y0, y1, y2, y3, k0, k1, k2, k3, rfl, -, bb⟩; replace KQ := KQ.below bb; replace KM := KM.below bb; have lt0 := KM.lt; obtain ⟨m0, m1, m2, m3, m4, m5, m6, m7, m8, m9, m10, m11, m12⟩ := blk13 (h := ⟨5, true, 0, false, false, false, false, 0, 0⟩) KM; simp only at m0 m1 m2 m3 m4 m5 m6 m7 m8; have ff := KM.frozen 1; replace hb := next hb bb; have ff := KM.frozen 1; clear bb t2 _t)
    | (go_at_call 7; go_must (refine (rput_h 5 false 0 false false false false 0 0 [maQ] [] [] [] T2 0 _ _ _ _ _ HP2.out (qrow_lit (q := maQ) ((KQ.other (b := w.heap.size + 1) (by omega) 1 (.bool false)).alloc _) (by decide)) (RRow.nil _) (RRow.nil _) (RRow.nil _)).mono ?_); rintro e w3 ⟨rfl, bb⟩; clear m0 m1 m2 m3 m4 m5 m6 m7 m8 m9 m10 m11 m12 ff KQ KM; have KX := Blk.new (w2.setCell ⟨w.heap.size + 1, 1, none⟩ (.bool false)) #[.int .i64 5, .bool true, .int .i64 0, .bool false, .bool false, .bool false, .bool false, .int .i64 0, .int .i64 0, .slice y0 1 k0, .slice y1 0 k1, .slice y2 0 k2, .slice y3 0 k3] 27; rw [World.size_setCell] at KX; replace KX := KX.below bb; replace hb := next (lay (hb.setCell (p := ⟨w.heap.size + 1, 1, none⟩) (by show w.heap.size ≤ w.heap.size + 1; omega) (.bool false)) _) bb; clear bb)
    | (go_at_call 5; have _t := t3; go_must (refine (reply_z T2 _ HS.out.2 HR2.out).mono ?_); rintro e w4 ⟨a0, a1, a2, a3, c0, c1, c2, c3, rfl, bb⟩; replace KX := KX.below bb; replace hb := next hb bb; clear bb t3 _t)
    | (go_at_call 5; go_must (refine (reply_z ⟨#[]⟩ _ hn ma_nil).mono ?_); rintro e w5 ⟨d0, d1, d2, d3, f0, f1, f2, f3, rfl, bb⟩; replace KX := (KX.alloc _).below bb; replace hb := next (lay hb _) bb; have ltX := KX.lt; have x0 : w5.cell? ⟨w2.heap.size, 0, none⟩ = some (.int .i64 5) := KX.cell 0; have x9 : w5.cell? ⟨w2.heap.size, 9, none⟩ = some (.slice y0 1 k0) := KX.cell 9; clear bb))
  go_ret
  exact ⟨ret_bool (by simp), lay hb _⟩

end Go.Proofs.Ytbffnicfibfceaa.Ma
