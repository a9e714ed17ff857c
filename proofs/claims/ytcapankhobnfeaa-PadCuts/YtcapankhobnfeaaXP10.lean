/- What refusal, truncate and the closure of Answer give. -/
import Derived.Test.YtcapankhobnfeaaXP9
import Derived.Handy
namespace Go.Proofs.Ytcapankhobnfeaa
open Go.RowKit
open Pl

/-- The error of a message that has no answer. -/
def refE (m : Ms) (edns : Bool) : Int := if pE m = 701 then 1001 else if pE m ≠ 0 ∨ (edns = true ∧ 64 ≤ m.ar.length) then 1000 else 0
/-- Does it fit? -/
def fitB (T : ByteArray) (E most : Int) : Bool := decide (E = 0) && decide ((T.size : Int) ≤ most)

set_option maxRecDepth 20000 in
theorem refusal_any (m : Ms) (edns : Bool) (v0 v1 v2 v3 : Value) (E : Int) (w : World) (h0 : QRow w v0 m.qs) (h1 : RRow w v1 m.an) (h2 : RRow w v2 m.ns) (h3 : RRow w v3 m.ar) (hE : refE m edns = E) :
    Calls Try.prog 30 #[.agg (msgC m.h v0 v1 v2 v3), .bool edns] w fun e w' => e = .returned (.int .i64 E) ∧ Below w.heap.size w w' := by
  have hp := putV_as m
  obtain ⟨T0, hT0⟩ : ∃ T0, pT m = T0 := ⟨_, rfl⟩
  obtain ⟨E0, hE0⟩ : ∃ E0, pE m = E0 := ⟨_, rfl⟩
  rw [hT0, hE0] at hp
  obtain ⟨x0, c0, rfl⟩ := row_slice h0.1
  obtain ⟨x1, c1, rfl⟩ := row_slice h1.1
  obtain ⟨x2, c2, rfl⟩ := row_slice h2.1
  obtain ⟨x3, c3, rfl⟩ := row_slice h3.1
  have hmax := h3.2.1
  unfold maxLen at hmax
  unfold refE at hE
  rw [hE0] at hE
  obtain ⟨hd, qs, an, ns, ar⟩ := m
  obtain ⟨id, qr, op, aa, tc, rd, ra, z, rc⟩ := hd
  have K : ∀ u, Hid (Below w.heap.size w u) → _ := fun u hu => put_h id qr op aa tc rd ra z rc qs an ns ar T0 E0 _ _ _ _ u hp (h0.below hu.out) (h1.below hu.out) (h2.below hu.out) (h3.below hu.out)
  have KB := Blk.new w (msgC ⟨id, qr, op, aa, tc, rd, ra, z, rc⟩ (.slice x0 qs.length c0) (.slice x1 an.length c1) (.slice x2 ns.length c2) (.slice x3 ar.length c3)) 29
  have hb := lay (Below.refl w.heap.size w) (.cells (msgC ⟨id, qr, op, aa, tc, rd, ra, z, rc⟩ (.slice x0 qs.length c0) (.slice x1 an.length c1) (.slice x2 ns.length c2) (.slice x3 ar.length c3)) 29)
  simp only at hE hmax
  clear h0 h1 h2 h3 hp hT0 hE0
  unfold msgC at KB hb ⊢
  simp only at KB hb ⊢
  obtain ⟨N, hN⟩ : ∃ N, N = ar.length := ⟨_, rfl⟩
  simp only [← hN] at hE hmax K KB hb ⊢
  clear hN
  by_cases a1 : E0 = 701
  · subst a1
    have HE : Hid (E = 1001) := by unfold Hid; rw [← hE]; rw [if_pos rfl]
    clear hE
    go_enter Try.func30, Try.ntmps30
    go_wp2_with (go_at_call 31; go_must (refine (K _ hb).mono ?_); rintro e w1 ⟨rfl, b1⟩; replace KB := KB.below b1; replace hb := next hb b1; have f12 : w1.cell? ⟨w.heap.size, 12, none⟩ = some (.slice x3 N c3) := KB.cell 12; clear b1)
    go_ret
    exact ⟨by rw [HE.out]; rfl, hb⟩
  by_cases a2 : E0 = 0
  · subst a2
    cases edns with
    | false =>
      have HE : Hid (E = 0) := by unfold Hid; rw [← hE]; rw [if_neg (by decide), if_neg (by simp)]
      clear hE
      go_enter Try.func30, Try.ntmps30
      go_wp2_with (go_at_call 31; go_must (refine (K _ hb).mono ?_); rintro e w1 ⟨rfl, b1⟩; replace KB := KB.below b1; replace hb := next hb b1; have f12 : w1.cell? ⟨w.heap.size, 12, none⟩ = some (.slice x3 N c3) := KB.cell 12; clear b1)
      go_ret
      exact ⟨by rw [HE.out]; rfl, hb⟩
    | true =>
      by_cases a3 : 64 ≤ N
      · have a4 : (64 : Int) ≤ (N : Int) := by omega
        have HE : Hid (E = 1000) := by unfold Hid; rw [← hE]; rw [if_neg (by decide), if_pos (.inr ⟨rfl, a3⟩)]
        clear hE
        go_enter Try.func30, Try.ntmps30
        go_wp2_with (go_at_call 31; go_must (refine (K _ hb).mono ?_); rintro e w1 ⟨rfl, b1⟩; replace KB := KB.below b1; replace hb := next hb b1; have f12 : w1.cell? ⟨w.heap.size, 12, none⟩ = some (.slice x3 N c3) := KB.cell 12; clear b1)
        go_ret
        exact ⟨by rw [HE.out]; rfl, hb⟩
      · have a4 : ¬ (64 : Int) ≤ (N : Int) := by omega
        have HE : Hid (E = 0) := by unfold Hid; rw [← hE]; rw [if_neg (by decide), if_neg (by simp; omega)]
        clear hE
        go_enter Try.func30, Try.ntmps30
        go_wp2_with (go_at_call 31; go_must (refine (K _ hb).mono ?_); rintro e w1 ⟨rfl, b1⟩; replace KB := KB.below b1; replace hb := next hb b1; have f12 : w1.cell? ⟨w.heap.size, 12, none⟩ = some (.slice x3 N c3) := KB.cell 12; clear b1)
        go_ret
        exact ⟨by rw [HE.out]; rfl, hb⟩
  · have a5 := a2
    have HE : Hid (E = 1000) := by unfold Hid; rw [← hE]; rw [if_neg a1, if_pos (.inl a2)]
    clear hE
    go_enter Try.func30, Try.ntmps30
    go_wp2_with (go_at_call 31; go_must (refine (K _ hb).mono ?_); rintro e w1 ⟨rfl, b1⟩; replace KB := KB.below b1; replace hb := next hb b1; have f12 : w1.cell? ⟨w.heap.size, 12, none⟩ = some (.slice x3 N c3) := KB.cell 12; clear b1)
    go_ret
    exact ⟨by rw [HE.out]; rfl, hb⟩

set_option maxRecDepth 20000 in
theorem truncate_any (id : Int) (qr : Bool) (op : Int) (aa tc rd ra : Bool) (z rc : Int) (x0 x1 x2 x3 : Option Addr) (n0 n1 n2 n3 c0 c1 c2 c3 : Nat) (w : World) :
    Calls Try.prog 34 #[.agg #[.int .i64 id, .bool qr, .int .i64 op, .bool aa, .bool tc, .bool rd, .bool ra, .int .i64 z, .int .i64 rc, .slice x0 n0 c0, .slice x1 n1 c1, .slice x2 n2 c2, .slice x3 n3 c3]] w fun e w' => e = .returned (.agg #[.int .i64 id, .bool qr, .int .i64 op, .bool aa, .bool true, .bool rd, .bool ra, .int .i64 z, .int .i64 rc, .slice x0 n0 c0, .slice none 0 0, .slice none 0 0, .slice none 0 0]) ∧ Below w.heap.size w w' := by
  go_enter Try.func34, Try.ntmps34
  go_wp2
  have hb : Below w.heap.size w w := Below.refl _ _
  go_returns
  exact ⟨rfl, lay (lay (lay hb _) _) _⟩

set_option maxRecDepth 20000 in
set_option maxHeartbeats 1000000 in
theorem fitsW_any (m : Ms) (gm go : Nat) (most : Int) (S : ByteArray) (v0 v1 v2 v3 : Value) (T : ByteArray) (E : Int) (w : World) (h0 : QRow w v0 m.qs) (h1 : RRow w v1 m.an) (h2 : RRow w v2 m.ns) (h3 : RRow w v3 m.ar) (hgm : Blk w gm #[.int .i64 most] 3) (hgo : Blk w go #[.string S] 9) (hT0 : T.size ≤ 4096) (hT : pT m = T) (hE : pE m = E) :
    Calls Try.prog 33 #[.agg (msgC m.h v0 v1 v2 v3), .func (.func 31) #[] #[], .pointer (some ⟨gm, 0, none⟩), .pointer (some ⟨go, 0, none⟩)] w fun e w' => e = .returned (.bool (fitB T E most)) ∧ Blk w' go #[.string (if fitB T E most = true then T else S)] 9 ∧ TG go w w' := by
  obtain ⟨x0, c0, rfl⟩ := row_slice h0.1
  obtain ⟨x1, c1, rfl⟩ := row_slice h1.1
  obtain ⟨x2, c2, rfl⟩ := row_slice h2.1
  obtain ⟨x3, c3, rfl⟩ := row_slice h3.1
  have hp := putV_as m
  rw [hT, hE] at hp
  obtain ⟨hd, qs, an, ns, ar⟩ := m
  obtain ⟨id, qr, op, aa, tc, rd, ra, z, rc⟩ := hd
  have K : ∀ u, Hid (Below w.heap.size w u) → _ := fun u hu => put_h id qr op aa tc rd ra z rc qs an ns ar T E _ _ _ _ u hp (h0.below hu.out) (h1.below hu.out) (h2.below hu.out) (h3.below hu.out)
  clear hp
  have hb := lay (Below.refl w.heap.size w) (.cells (msgC ⟨id, qr, op, aa, tc, rd, ra, z, rc⟩ (.slice x0 qs.length c0) (.slice x1 an.length c1) (.slice x2 ns.length c2) (.slice x3 ar.length c3)) 29)
  have HGM : Hid (Blk w gm #[.int .i64 most] 3) := hgm
  have HGO : Hid (Blk w go #[.string S] 9) := hgo
  clear h0 h1 h2 h3 hgm hgo hT hE
  unfold msgC at K hb ⊢
  simp only at K hb ⊢
  obtain ⟨N, hN⟩ : ∃ N, N = T.size := ⟨_, rfl⟩
  have hf : fitB T E most = (decide (E = 0) && decide ((N : Int) ≤ most)) := by rw [hN]; rfl
  have hT0 := hT0
  rw [← hN] at hT0
  have HNN : Hid (N = T.size) := hN
  by_cases a1 : E = 0
  · subst a1
    by_cases a2 : (N : Int) ≤ most
    · have HF : Hid (fitB T 0 most = true) := by unfold Hid; rw [hf]; simp [a2]
      rw [HF.out]
      rw [hN] at a2
      clear hN hf
      go_enter Try.func33, Try.ntmps33
      go_wp2_with (go_at_call 31; go_must (refine (K _ hb).mono ?_); rintro e w1 ⟨rfl, b1⟩; replace hb := next hb b1; have m0 : w1.cell? ⟨gm, 0, none⟩ = some (.int .i64 most) := (HGM.out.below hb).cell 0; have KO := HGO.out.below hb; have o0 : w1.cell? ⟨go, 0, none⟩ = some (.string S) := KO.cell 0; have o1 := KO.frozen 0; clear b1)
      go_ret
      exact ⟨rfl, KO.set 0 _, (Turn.of_below hb).same (Turn.of_set (S := fun k => k = go) w1 (p := ⟨go, 0, none⟩) rfl _)⟩
    · have HF : Hid (fitB T 0 most = false) := by unfold Hid; rw [hf]; simp; omega
      rw [HF.out]
      rw [hN] at a2
      clear hN hf
      go_enter Try.func33, Try.ntmps33
      go_wp2_with (go_at_call 31; go_must (refine (K _ hb).mono ?_); rintro e w1 ⟨rfl, b1⟩; replace hb := next hb b1; have m0 : w1.cell? ⟨gm, 0, none⟩ = some (.int .i64 most) := (HGM.out.below hb).cell 0; have KO := HGO.out.below hb; clear b1)
      go_ret
      exact ⟨rfl, KO, Turn.of_below hb⟩
  · have HF : Hid (fitB T E most = false) := by unfold Hid; rw [hf]; simp [a1]
    rw [HF.out]
    clear hN hf
    go_enter Try.func33, Try.ntmps33
    go_wp2_with (go_at_call 31; go_must (refine (K _ hb).mono ?_); rintro e w1 ⟨rfl, b1⟩; replace hb := next hb b1; have KO := HGO.out.below hb; clear b1)
    go_ret
    exact ⟨rfl, KO, Turn.of_below hb⟩

set_option maxRecDepth 20000 in
set_option maxHeartbeats 1000000 in
theorem fitsB_any (m : Ms) (gm go : Nat) (most : Int) (S : ByteArray) (v0 v1 v2 v3 : Value) (T : ByteArray) (E : Int) (w : World) (h0 : QRow w v0 m.qs) (h1 : RRow w v1 m.an) (h2 : RRow w v2 m.ns) (h3 : RRow w v3 m.ar) (hgm : Blk w gm #[.int .i64 most] 3) (hgo : Blk w go #[.string S] 9) (hT0 : T.size ≤ 4096) (hn : m.ar.length ≤ 64) (hT : pT (withO m []) = T) (hE : pE (withO m []) = E) :
    Calls Try.prog 33 #[.agg (msgC m.h v0 v1 v2 v3), .func (.func 32) #[] #[], .pointer (some ⟨gm, 0, none⟩), .pointer (some ⟨go, 0, none⟩)] w fun e w' => e = .returned (.bool (fitB T E most)) ∧ Blk w' go #[.string (if fitB T E most = true then T else S)] 9 ∧ TG go w w' := by
  obtain ⟨x0, c0, rfl⟩ := row_slice h0.1
  obtain ⟨x1, c1, rfl⟩ := row_slice h1.1
  obtain ⟨x2, c2, rfl⟩ := row_slice h2.1
  obtain ⟨x3, c3, rfl⟩ := row_slice h3.1
  obtain ⟨hd, qs, an, ns, ar⟩ := m
  obtain ⟨id, qr, op, aa, tc, rd, ra, z, rc⟩ := hd
  have K : ∀ u, Hid (Below w.heap.size w u) → _ := fun u hu => putBare_any ⟨⟨id, qr, op, aa, tc, rd, ra, z, rc⟩, qs, an, ns, ar⟩ _ _ _ _ T E u (h0.below hu.out) (h1.below hu.out) (h2.below hu.out) (h3.below hu.out) hn hT hE
  clear hn
  have hb := lay (Below.refl w.heap.size w) (.cells (msgC ⟨id, qr, op, aa, tc, rd, ra, z, rc⟩ (.slice x0 qs.length c0) (.slice x1 an.length c1) (.slice x2 ns.length c2) (.slice x3 ar.length c3)) 29)
  have HGM : Hid (Blk w gm #[.int .i64 most] 3) := hgm
  have HGO : Hid (Blk w go #[.string S] 9) := hgo
  clear h0 h1 h2 h3 hgm hgo hT hE
  unfold msgC at K hb ⊢
  simp only at K hb ⊢
  obtain ⟨N, hN⟩ : ∃ N, N = T.size := ⟨_, rfl⟩
  have hf : fitB T E most = (decide (E = 0) && decide ((N : Int) ≤ most)) := by rw [hN]; rfl
  have hT0 := hT0
  rw [← hN] at hT0
  have HNN : Hid (N = T.size) := hN
  by_cases a1 : E = 0
  · subst a1
    by_cases a2 : (N : Int) ≤ most
    · have HF : Hid (fitB T 0 most = true) := by unfold Hid; rw [hf]; simp [a2]
      rw [HF.out]
      rw [hN] at a2
      clear hN hf
      go_enter Try.func33, Try.ntmps33
      go_wp2_with (go_at_call 32; go_must (refine (K _ hb).mono ?_); rintro e w1 ⟨rfl, b1⟩; replace hb := next hb b1; have m0 : w1.cell? ⟨gm, 0, none⟩ = some (.int .i64 most) := (HGM.out.below hb).cell 0; have KO := HGO.out.below hb; have o0 : w1.cell? ⟨go, 0, none⟩ = some (.string S) := KO.cell 0; have o1 := KO.frozen 0; clear b1)
      go_ret
      exact ⟨rfl, KO.set 0 _, (Turn.of_below hb).same (Turn.of_set (S := fun k => k = go) w1 (p := ⟨go, 0, none⟩) rfl _)⟩
    · have HF : Hid (fitB T 0 most = false) := by unfold Hid; rw [hf]; simp; omega
      rw [HF.out]
      rw [hN] at a2
      clear hN hf
      go_enter Try.func33, Try.ntmps33
      go_wp2_with (go_at_call 32; go_must (refine (K _ hb).mono ?_); rintro e w1 ⟨rfl, b1⟩; replace hb := next hb b1; have m0 : w1.cell? ⟨gm, 0, none⟩ = some (.int .i64 most) := (HGM.out.below hb).cell 0; have KO := HGO.out.below hb; clear b1)
      go_ret
      exact ⟨rfl, KO, Turn.of_below hb⟩
  · have HF : Hid (fitB T E most = false) := by unfold Hid; rw [hf]; simp [a1]
    rw [HF.out]
    clear hN hf
    go_enter Try.func33, Try.ntmps33
    go_wp2_with (go_at_call 32; go_must (refine (K _ hb).mono ?_); rintro e w1 ⟨rfl, b1⟩; replace hb := next hb b1; have KO := HGO.out.below hb; clear b1)
    go_ret
    exact ⟨rfl, KO, Turn.of_below hb⟩

set_option maxRecDepth 20000 in
set_option maxHeartbeats 1000000 in
theorem fitsP_any (m : Ms) (gm go gp : Nat) (most : Int) (S : ByteArray) (v0 v1 v2 v3 : Value) (T : ByteArray) (E : Int) (w : World) (h0 : QRow w v0 m.qs) (h1 : RRow w v1 m.an) (h2 : RRow w v2 m.ns) (h3 : RRow w v3 m.ar) (hgm : Blk w gm #[.int .i64 most] 3) (hgo : Blk w go #[.string S] 9) (hT0 : T.size ≤ 4096) (hn : m.ar.length ≤ 64) (hgp : Blk w gp #[.int .i64 468] 3) (hT : qT 468 m = T) (hE : qE 468 m = E) :
    Calls Try.prog 33 #[.agg (msgC m.h v0 v1 v2 v3), .func (.func 45) #[] #[.pointer (some ⟨gp, 0, none⟩)], .pointer (some ⟨gm, 0, none⟩), .pointer (some ⟨go, 0, none⟩)] w fun e w' => e = .returned (.bool (fitB T E most)) ∧ Blk w' go #[.string (if fitB T E most = true then T else S)] 9 ∧ TG go w w' := by
  obtain ⟨x0, c0, rfl⟩ := row_slice h0.1
  obtain ⟨x1, c1, rfl⟩ := row_slice h1.1
  obtain ⟨x2, c2, rfl⟩ := row_slice h2.1
  obtain ⟨x3, c3, rfl⟩ := row_slice h3.1
  obtain ⟨hd, qs, an, ns, ar⟩ := m
  obtain ⟨id, qr, op, aa, tc, rd, ra, z, rc⟩ := hd
  have K : ∀ u, Hid (Below w.heap.size w u) → _ := fun u hu => pad1_any ⟨⟨id, qr, op, aa, tc, rd, ra, z, rc⟩, qs, an, ns, ar⟩ 468 gp _ _ _ _ T E u (h0.below hu.out) (h1.below hu.out) (h2.below hu.out) (h3.below hu.out) hn (hgp.below hu.out) (by decide) (by decide) hT hE
  clear hn hgp
  have hb := lay (Below.refl w.heap.size w) (.cells (msgC ⟨id, qr, op, aa, tc, rd, ra, z, rc⟩ (.slice x0 qs.length c0) (.slice x1 an.length c1) (.slice x2 ns.length c2) (.slice x3 ar.length c3)) 29)
  have HGM : Hid (Blk w gm #[.int .i64 most] 3) := hgm
  have HGO : Hid (Blk w go #[.string S] 9) := hgo
  clear h0 h1 h2 h3 hgm hgo hT hE
  unfold msgC at K hb ⊢
  simp only at K hb ⊢
  obtain ⟨N, hN⟩ : ∃ N, N = T.size := ⟨_, rfl⟩
  have hf : fitB T E most = (decide (E = 0) && decide ((N : Int) ≤ most)) := by rw [hN]; rfl
  have hT0 := hT0
  rw [← hN] at hT0
  have HNN : Hid (N = T.size) := hN
  by_cases a1 : E = 0
  · subst a1
    by_cases a2 : (N : Int) ≤ most
    · have HF : Hid (fitB T 0 most = true) := by unfold Hid; rw [hf]; simp [a2]
      rw [HF.out]
      rw [hN] at a2
      clear hN hf
      go_enter Try.func33, Try.ntmps33
      go_wp2_with (go_at_call 45; go_must (refine (K _ hb).mono ?_); rintro e w1 ⟨rfl, b1⟩; replace hb := next hb b1; have m0 : w1.cell? ⟨gm, 0, none⟩ = some (.int .i64 most) := (HGM.out.below hb).cell 0; have KO := HGO.out.below hb; have o0 : w1.cell? ⟨go, 0, none⟩ = some (.string S) := KO.cell 0; have o1 := KO.frozen 0; clear b1)
      go_ret
      exact ⟨rfl, KO.set 0 _, (Turn.of_below hb).same (Turn.of_set (S := fun k => k = go) w1 (p := ⟨go, 0, none⟩) rfl _)⟩
    · have HF : Hid (fitB T 0 most = false) := by unfold Hid; rw [hf]; simp; omega
      rw [HF.out]
      rw [hN] at a2
      clear hN hf
      go_enter Try.func33, Try.ntmps33
      go_wp2_with (go_at_call 45; go_must (refine (K _ hb).mono ?_); rintro e w1 ⟨rfl, b1⟩; replace hb := next hb b1; have m0 : w1.cell? ⟨gm, 0, none⟩ = some (.int .i64 most) := (HGM.out.below hb).cell 0; have KO := HGO.out.below hb; clear b1)
      go_ret
      exact ⟨rfl, KO, Turn.of_below hb⟩
  · have HF : Hid (fitB T E most = false) := by unfold Hid; rw [hf]; simp [a1]
    rw [HF.out]
    clear hN hf
    go_enter Try.func33, Try.ntmps33
    go_wp2_with (go_at_call 45; go_must (refine (K _ hb).mono ?_); rintro e w1 ⟨rfl, b1⟩; replace hb := next hb b1; have KO := HGO.out.below hb; clear b1)
    go_ret
    exact ⟨rfl, KO, Turn.of_below hb⟩

end Go.Proofs.Ytcapankhobnfeaa
