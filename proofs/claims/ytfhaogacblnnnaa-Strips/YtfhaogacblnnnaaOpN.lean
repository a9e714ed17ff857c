/- What copies, lends and spoils a row of options, and what looks whether it was kept. -/
import Derived.Test.YtfhaogacblnnnaaOpH
namespace Go.Proofs.Ytfhaogacblnnnaa
open Go.RowKit

theorem copyO_any (v : Value) (os : List On) (w : World) (h : ORow w v os) (hn : os.length * 24 ≤ far) :
    Calls Try.prog 16 #[v] w fun e w' => ∃ v', e = .returned v' ∧ w'.ownsRow w.heap.size 33 2 v' os.length (oC os) ∧ Below w.heap.size w w' := by
  obtain ⟨i0, hi, hz0, hz1, hz2⟩ := info_parts infoO
  have hb := lay (Below.refl w.heap.size w) (.cells #[] 33)
  have h2 := h.below hb
  have hm := h.2.1
  have hown := own_blk (B := w.heap.size) (z := 2) (n := 0) (xs := []) (Blk.new w #[] 33) (Nat.le_refl _) rfl rfl (Nat.zero_le _)
  obtain ⟨x, c, rfl⟩ := row_slice h.1
  unfold far at hn
  go_enter Try.func16, Try.ntmps16
  go_wp2_with (at_builtin; refine wpList_appG _ rfl (.tmp 3) (.tmp 4) 22 33 i0 _ 2 24 Try.underlying22 hi hz0 hz1 hz2 rfl (by decide) rfl w.heap.size _ 0 [] rfl hown _ os.length (oC os) rfl h2.1 (oC_len os) (oC_one os) (by omega) (by omega) hb.size ?_; intro v' w2 h1 h3 _)
  go_ret
  exact ⟨_, rfl, by simpa using h1, hb.grown h3 hb.size (fun j e => (hown.lt j e).1)⟩

def mkO : On := ⟨77777, ⟨#[]⟩⟩
/-- A row that was lent: its options, and the two marks behind them. -/
def LentO (w : World) (g : Nat) (os : List On) : Prop := ∀ j u, (oC (os ++ [mkO, mkO]))[j]? = some u → w.cell? ⟨g, j, none⟩ = some u
theorem LentO.below {w w' : World} {g : Nat} {os : List On} (h : LentO w g os) (hb : Below w.heap.size w w') : LentO w' g os := fun j u hu => by
  have h1 := h j u hu
  rw [hb.cell (World.block_lt_of_cell? _ _ h1)]; exact h1
theorem LentO.row {w : World} {g cap : Nat} {os : List On} (h : LentO w g os) : Row w (.slice (some ⟨g, 0, none⟩) os.length cap) os.length (oC os) := by
  refine .inr ⟨g, 0, none, cap, rfl, fun _ => rfl, fun j u hu => ?_⟩
  rw [Nat.zero_add]
  refine h j u ?_
  rw [oC_app, List.getElem?_append_left (List.getElem?_eq_some_iff.1 hu).1]
  exact hu
theorem LentO.marks {w : World} {g : Nat} {os : List On} (h : LentO w g os) : w.cell? ⟨g, os.length * 2, none⟩ = some (.int .i64 77777) ∧ w.cell? ⟨g, os.length * 2 + 1, none⟩ = some (.string ⟨#[]⟩) ∧ w.cell? ⟨g, (os.length + 1) * 2, none⟩ = some (.int .i64 77777) ∧ w.cell? ⟨g, (os.length + 1) * 2 + 1, none⟩ = some (.string ⟨#[]⟩) := by
  have hl := oC_len os
  refine ⟨h _ _ ?_, h _ _ ?_, h _ _ ?_, h _ _ ?_⟩
  all_goals
    rw [oC_app, List.getElem?_append_right (by rw [hl]; omega), hl]
  · rw [Nat.sub_self]; rfl
  · rw [show os.length * 2 + 1 - os.length * 2 = 1 from by omega]; rfl
  · rw [show (os.length + 1) * 2 - os.length * 2 = 2 from by omega]; rfl
  · rw [show (os.length + 1) * 2 + 1 - os.length * 2 = 3 from by omega]; rfl
theorem lentO_own {w : World} {base g cap : Nat} {os : List On} {N : Nat} (hN : N = os.length) (h : w.ownsRow base 33 2 (.slice (some ⟨g, 0, none⟩) (N + 2) cap) (N + 2) (oC os ++ oC [mkO, mkO])) : LentO w g os ∧ N + 2 ≤ cap := by
  subst hN
  refine ⟨fun j u hu => ?_, ?_⟩
  · have hj := (List.getElem?_eq_some_iff.1 hu).1
    rw [oC_len, List.length_append] at hj
    rw [h.cellAt j (by simpa using hj), ← oC_app, hu]
  · rcases h.2 with ⟨e, _⟩ | ⟨g', cap', cur, e, _, _, hnc, _⟩
    · simp at e
    · simp at e; omega

theorem lendO_any (v : Value) (os : List On) (w : World) (h : ORow w v os) (hn : os.length * 24 ≤ far) :
    Calls Try.prog 6 #[v] w fun e w' => ∃ g cap, e = .returned (.slice (some ⟨g, 0, none⟩) os.length cap) ∧ os.length + 2 ≤ cap ∧ LentO w' g os ∧ w.heap.size ≤ g ∧ Below w.heap.size w w' := by
  obtain ⟨i0, hi, hz0, hz1, hz2⟩ := info_parts infoO
  obtain ⟨N, hN⟩ : ∃ N, N = os.length := ⟨_, rfl⟩
  have HN : Hid (N = os.length) := hN
  obtain ⟨x, c, hv⟩ := row_slice h.1
  have hc := copyO_any v os w h hn
  rw [← hN] at hv hn ⊢
  subst hv
  clear hN
  unfold far at hn
  go_enter Try.func6, Try.ntmps6
  go_wp2_with (first
    | (go_at_call 16; go_must (refine hc.mono ?_); rintro e w1 ⟨v1, rfl, hown, hb⟩; rw [← HN.out] at hown)
    | (at_builtin; refine wpList_appG _ rfl (.tmp 5) (.tmp 8) 22 33 i0 _ 2 24 Try.underlying22 hi hz0 hz1 hz2 rfl (by decide) rfl w.heap.size _ N (oC os) rfl (hown.alloc _) (.slice (some ⟨w1.heap.size, 0, none⟩) 2 2) 2 (oC [mkO, mkO]) rfl (Row.of_blk (Blk.new w1 #[.int .i64 77777, .string ⟨#[]⟩, .int .i64 77777, .string ⟨#[]⟩] 33) rfl 2 2) rfl (oC_one _) (by omega) (by unfold maxLen; omega) (lay hb _).size ?_; intro v2 w2 h1 h3 _; obtain ⟨g, cap, rfl, _, _⟩ := h1.form (by omega); obtain ⟨hl, hcap⟩ := lentO_own HN.out h1; have hcap2 : N ≤ cap := (by omega); have hgl := (h1.lt g rfl).1; have hb2 : Below w.heap.size w w2 := (lay hb _).grown h3 (lay hb _).size (fun j e => (hown.lt j e).1); clear h1 h3))
  go_ret
  exact ⟨g, cap, rfl, hcap, hl, hgl, hb2⟩

set_option maxRecDepth 20000 in
theorem keptO_any (g cap : Nat) (u : Value) (os : List On) (w : World) (hl : LentO w g os) (hcap : os.length + 2 ≤ cap) (h2 : ORow w u os) (hn : os.length * 24 ≤ far) :
    Calls Try.prog 10 #[.slice (some ⟨g, 0, none⟩) os.length cap, u] w fun e w' => e = .returned (.bool true) ∧ Below w.heap.size w w' := by
  have hsame := sameO_yes _ u os w (hl.row (cap := cap)) h2.1 h2.2.1
  have HM : Hid (LentO w g os) := hl
  obtain ⟨y, d, e2⟩ := row_slice h2.1
  obtain ⟨N, hN⟩ : ∃ N, N = os.length := ⟨_, rfl⟩
  have HN : Hid (N = os.length) := hN
  rw [← hN] at hsame e2 hn hcap ⊢
  subst e2
  clear hN h2 hl
  unfold far at hn
  have hcap2 : (N : Int) + 2 ≤ (cap : Int) := by omega
  go_enter Try.func10, Try.ntmps10
  go_wp2_with (go_at_call 14; go_must (refine hsame.mono ?_); rintro e w1 ⟨rfl, b1⟩; have mm := (HM.out.below b1).marks; rw [← HN.out] at mm; obtain ⟨m1, m2, m3, m4⟩ := mm)
  go_ret
  exact ⟨rfl, b1⟩

set_option maxRecDepth 20000 in
theorem spoilO_far {B n cap : Nat} {y : Option Addr} {xs : List Value} {w : World} (hown : n = 0 ∨ w.ownsRow B 33 2 (.slice y n cap) n xs) (hi : Ints xs 2 0 n) (hn : n ≤ far) :
    Calls Try.prog 12 #[.slice y n cap] w fun e w' => e = .returned (.tuple #[]) ∧ Turn (fun k => (Value.slice y n cap).ownBlock = some k) w w' := by
  have HT : Hid (Turn (fun k => (Value.slice y n cap).ownBlock = some k) w w) := Turn.refl _ _
  unfold far at hn
  by_cases h0 : n = 0
  · subst h0
    clear hown hi
    go_enter Try.func12, Try.ntmps12
    go_wp2
    go_loopw [2] (fun i wr => i = .int .i64 0 ∧ wr = w) (fun _ _ => 0)
    case atStart => exact ⟨rfl, rfl⟩
    case round =>
      obtain ⟨rfl, rfl⟩ := hrel
      go_wp2
      go_end0
      exact ⟨rfl, HT.out⟩
  · replace hown := hown.resolve_left h0
    obtain ⟨g, cap', e1, _, _⟩ := hown.form (by omega)
    simp only [Value.slice.injEq, true_and] at e1
    obtain ⟨rfl, rfl⟩ := e1
    have HS : Hid (w.ownsRow B 33 2 (.slice (some ⟨g, 0, none⟩) n cap) n xs ∧ Ints xs 2 0 n ∧ Turn (fun k => (Value.slice (some ⟨g, 0, none⟩) n cap).ownBlock = some k) w w) := ⟨hown, hi, HT.out⟩
    clear hown hi HT
    go_enter Try.func12, Try.ntmps12
    go_wp2
    go_loopw [2] (fun i wr => ∃ (j : Nat) (xs' : List Value), j ≤ n ∧ i = .int .i64 (j : Int) ∧ Hid (wr.ownsRow B 33 2 (.slice (some ⟨g, 0, none⟩) n cap) n xs' ∧ Ints xs' 2 0 n ∧ Turn (fun k => (Value.slice (some ⟨g, 0, none⟩) n cap).ownBlock = some k) w wr)) (fun i _ => n - (intOf i).toNat)
    case atStart => exact ⟨0, xs, Nat.zero_le _, rfl, HS⟩
    case round =>
      clear HS
      obtain ⟨j, xs', hj, rfl, HS⟩ := hrel
      by_cases hjn : j < n
      · obtain ⟨t, ht⟩ := HS.out.2.1 j hjn
        have c1 : wr.cell? ⟨g, j * 2, none⟩ = some (.int .i64 t) := by rw [HS.out.1.cellAt (j * 2) (by omega)]; exact ht
        have f1 := HS.out.1.frozenAt (j * 2)
        have HST : Hid (∀ x : Int, (wr.setCell ⟨g, j * 2, none⟩ (.int .i64 x)).ownsRow B 33 2 (.slice (some ⟨g, 0, none⟩) n cap) n (xs'.set (j * 2) (.int .i64 x)) ∧ Ints (xs'.set (j * 2) (.int .i64 x)) 2 0 n ∧ Turn (fun k => (Value.slice (some ⟨g, 0, none⟩) n cap).ownBlock = some k) w (wr.setCell ⟨g, j * 2, none⟩ (.int .i64 x))) := fun x =>
          ⟨(HS.out.1.stored _ _).1, HS.out.2.1.set _ _, HS.out.2.2.same (Turn.of_set (S := fun k => (Value.slice (some ⟨g, 0, none⟩) n cap).ownBlock = some k) wr (p := ⟨g, j * 2, none⟩) rfl _)⟩
        clear ht
        go_wp2
        go_roundw
        case rel => exact ⟨j + 1, _, by omega, by go_num, HST.out _⟩
        case measure => simp [intOf]; omega
      · have hjn' : decide (j < n) = false := by simpa using hjn
        go_wp2
        go_end0
        exact ⟨rfl, HS.out.2.2⟩
theorem spoilO_any {B n cap : Nat} {y : Option Addr} {xs : List Value} {w : World} (hown : w.ownsRow B 33 2 (.slice y n cap) n xs) (hi : Ints xs 2 0 n) (hn : n ≤ 100000) :
    Calls Try.prog 12 #[.slice y n cap] w fun e w' => e = .returned (.tuple #[]) ∧ Turn (fun k => (Value.slice y n cap).ownBlock = some k) w w' := spoilO_far (.inr hown) hi (Nat.le_trans hn (by decide))

end Go.Proofs.Ytfhaogacblnnnaa
