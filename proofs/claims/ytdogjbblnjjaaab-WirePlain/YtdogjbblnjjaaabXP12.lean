/- The reader of package wire: what step, name, number and data leave. -/
import Derived.Test.YtdogjbblnjjaaabXP11
namespace Go.Proofs.Ytdogjbblnjjaaab
open Go.RowKit
open Pl

theorem Turn.alloc {S : Nat → Prop} {w a : World} (h : Turn S w a) (o : Obj) : Turn S w (a.alloc o) := h.trans (S' := fun _ => False) (Turn.of_below ((Below.refl _ _).alloc (Nat.le_refl _) o)) (fun _ => False.elim)
theorem Turn.past {S : Nat → Prop} {w a b : World} (h : Turn S w a) (hb : Below a.heap.size a b) : Turn S w b := h.trans (S' := fun _ => False) (Turn.of_below hb) (fun _ => False.elim)
theorem Turn.setNew {S : Nat → Prop} {w a : World} (h : Turn S w a) {k : Nat} (hk : w.heap.size ≤ k) (i : Nat) (v : Value) : Turn S w (a.setCell ⟨k, i, none⟩ v) :=
  h.trans (S' := fun j => j = k) (Turn.of_set (S := fun j => j = k) a (p := ⟨k, i, none⟩) rfl v) (fun _ e => .inr (by rw [e]; exact hk))
theorem Turn.same {S : Nat → Prop} {w a b : World} (h : Turn S w a) (k : Turn S a b) : Turn S w b := h.trans k (fun _ e => .inl e)

/-- At g lies a reader of s that stands at p. -/
def RD (w : World) (g : Nat) (s : ByteArray) (p : Nat) (b : Bool) : Prop := Blk w g #[.string s, .int .i64 (p : Int), .bool b] 52 ∧ p ≤ s.size
/-- The reader's block alone turns. -/
abbrev TG (g : Nat) (w w' : World) : Prop := Turn (fun k => k = g) w w'
theorem RD.below {w w' : World} {g : Nat} {s : ByteArray} {p : Nat} {b : Bool} (h : RD w g s p b) (hb : Below w.heap.size w w') : RD w' g s p b := ⟨h.1.below hb, h.2⟩
theorem RD.other {w : World} {g : Nat} {s : ByteArray} {p : Nat} {b : Bool} (h : RD w g s p b) {k : Nat} (hk : g ≠ k) (i : Nat) (v : Value) : RD (w.setCell ⟨k, i, none⟩ v) g s p b := ⟨h.1.other hk i v, h.2⟩
theorem RD.cells {w : World} {g : Nat} {s : ByteArray} {p : Nat} {b : Bool} (h : RD w g s p b) : w.cell? ⟨g, 0, none⟩ = some (.string s) ∧ w.cell? ⟨g, 1, none⟩ = some (.int .i64 (p : Int)) ∧ w.cell? ⟨g, 2, none⟩ = some (.bool b) := ⟨h.1.cell 0, h.1.cell 1, h.1.cell 2⟩
theorem RD.setBad {w : World} {g : Nat} {s : ByteArray} {p : Nat} {b : Bool} (h : RD w g s p b) : RD (w.setCell ⟨g, 2, none⟩ (.bool true)) g s p true ∧ TG g w (w.setCell ⟨g, 2, none⟩ (.bool true)) :=
  ⟨⟨h.1.set 2 _, h.2⟩, Turn.of_set (S := fun k => k = g) w (p := ⟨g, 2, none⟩) rfl _⟩
theorem RD.setAt {w : World} {g : Nat} {s : ByteArray} {p : Nat} {b : Bool} (h : RD w g s p b) {q : Nat} (hq : q ≤ s.size) : RD (w.setCell ⟨g, 1, none⟩ (.int .i64 (q : Int))) g s q b ∧ TG g w (w.setCell ⟨g, 1, none⟩ (.int .i64 (q : Int))) :=
  ⟨⟨h.1.set 1 _, hq⟩, Turn.of_set (S := fun k => k = g) w (p := ⟨g, 1, none⟩) rfl _⟩

theorem step_r {w : World} {g : Nat} {s : ByteArray} {p : Nat} {b : Bool} (h : RD w g s p b) (x E : Int) (q : Nat) (hq : E = 0 → x = (q : Int) ∧ q ≤ s.size) :
    Calls Try.prog 50 #[.pointer (some ⟨g, 0, none⟩), .int .i64 x, .int .i64 E] w fun e w' => e = .returned (.tuple #[]) ∧ RD w' g s (if E = 0 then q else p) (b || !(E == 0)) ∧ TG g w w' := by
  have f1 := h.1.frozen 1
  have f2 := h.1.frozen 2
  obtain ⟨c0, c1, c2⟩ := h.cells
  have HA : Hid (RD w g s p b) := h
  clear h
  by_cases hE : E = 0
  · subst hE
    obtain ⟨rfl, hq2⟩ := hq rfl
    have HQ2 : Hid (q ≤ s.size) := hq2
    clear hq hq2
    rw [if_pos rfl]
    go_enter Try.func50, Try.ntmps50
    go_wp2
    go_end0
    obtain ⟨b1, b2⟩ := HA.out.setAt HQ2.out
    exact ⟨rfl, by simpa using b1, b2⟩
  · have hE' : (E == 0) = false := by simpa using hE
    rw [if_neg hE]
    clear hq
    go_enter Try.func50, Try.ntmps50
    go_wp2
    (try simp only [Exit.inBlock, Exit.then]); refine bodyPost_ret (results_none rfl _ _ _) rfl ?_
    obtain ⟨b1, b2⟩ := HA.out.setBad
    exact ⟨rfl, by rw [hE', Bool.not_false, Bool.or_true]; exact b1, b2⟩

/-- What Name, U16, U32 and Data answer, as letters. -/
theorem nm_form (s : ByteArray) (p : Nat) (hs : s.size ≤ 4096) : ∃ (N : ByteArray) (x E : Int) (q : Nat), (∀ u, Calls Try.prog 49 #[.string s, .int .i64 (p : Int)] u fun e w' => e = .returned (.tuple #[.string N, .int .i64 x, .int .i64 E]) ∧ Below u.heap.size u w') ∧
    (E = 0 → x = (q : Int) ∧ q ≤ s.size) ∧ ((E = 0 ∧ nameOf s.data.toList p = some (N.data.toList, q)) ∨ (E ≠ 0 ∧ nameOf s.data.toList p = none)) := by
  cases h : nameOf s.data.toList p with
  | none => exact ⟨_, _, _, 0, fun u => cName_as s p none u (by omega) h, fun e => absurd e (by decide), .inr ⟨by decide, rfl⟩⟩
  | some z =>
    obtain ⟨n, b⟩ := z
    have hb := (nameOf_some h).2.1
    rw [data_len] at hb
    exact ⟨⟨n.toArray⟩, _, _, b, fun u => cName_as s p (some (n, b)) u (by omega) h, fun _ => ⟨rfl, hb⟩, .inl ⟨rfl, by rw [list_arr]⟩⟩
/-- A number of k bytes was read, or there was none. -/
def NumR (s : ByteArray) (p k : Nat) (x : Int) (E : Int) (q : Nat) : Prop := (E = 0 → q ≤ s.size) ∧ ((E = 0 ∧ p + k ≤ s.size ∧ x = val s p k ∧ q = p + k) ∨ (E ≠ 0 ∧ s.size < p + k ∧ x = 0))
theorem u16_form (s : ByteArray) (p : Nat) (hs : s.size ≤ 4096) : ∃ (x y E : Int) (q : Nat), (∀ u, Calls Try.prog 28 #[.string s, .int .i64 (p : Int)] u fun e w' => e = .returned (.tuple #[.int .i64 x, .int .i64 y, .int .i64 E]) ∧ Below u.heap.size u w') ∧ (E = 0 → y = (q : Int)) ∧ NumR s p 2 x E q := by
  have hm : s.size ≤ maxLen := by unfold maxLen; omega
  by_cases h : p + 2 ≤ s.size
  · exact ⟨_, _, _, p + 2, fun u => (u16_yes s p u hm h).mono fun e w' ⟨he, hd⟩ => ⟨he, below_drew hd⟩, fun _ => by omega, fun _ => h, .inl ⟨rfl, h, (val_two s p h).symm, rfl⟩⟩
  · exact ⟨_, _, _, 0, fun u => (u16_no s p u hm (.inr (by omega))).mono fun e w' ⟨he, hd⟩ => ⟨he, by rw [hd]; exact Below.refl _ _⟩, fun e => absurd e (by decide), fun e => absurd e (by decide), .inr ⟨by decide, by omega, rfl⟩⟩
theorem u32_form (s : ByteArray) (p : Nat) (hs : s.size ≤ 4096) : ∃ (x y E : Int) (q : Nat), (∀ u, Calls Try.prog 32 #[.string s, .int .i64 (p : Int)] u fun e w' => e = .returned (.tuple #[.int .i64 x, .int .i64 y, .int .i64 E]) ∧ Below u.heap.size u w') ∧ (E = 0 → y = (q : Int)) ∧ NumR s p 4 x E q := by
  have hm : s.size ≤ maxLen := by unfold maxLen; omega
  by_cases h : p + 4 ≤ s.size
  · exact ⟨_, _, _, p + 4, fun u => (u32_yes s p u hm h).mono fun e w' ⟨he, hd⟩ => ⟨he, below_drew hd⟩, fun _ => by omega, fun _ => h, .inl ⟨rfl, h, (val_four s p h).symm, rfl⟩⟩
  · exact ⟨_, _, _, 0, fun u => (u32_no s p u hm (.inr (by omega))).mono fun e w' ⟨he, hd⟩ => ⟨he, by rw [hd]; exact Below.refl _ _⟩, fun e => absurd e (by decide), fun e => absurd e (by decide), .inr ⟨by decide, by omega, rfl⟩⟩
theorem dt_form (s : ByteArray) (p n : Nat) (t : Int) (hs : s.size ≤ 4096) : ∃ (D : ByteArray) (E : Int), (∀ u, Calls Try.prog 51 #[.string s, .int .i64 (p : Int), .int .i64 (n : Int), .int .i64 t] u fun e w' => e = .returned (.tuple #[.string D, .int .i64 E]) ∧ Below u.heap.size u w') ∧
    ((E = 0 ∧ p + n ≤ s.size ∧ dataOf s.data.toList p n t = some D.data.toList) ∨ (E ≠ 0 ∧ (s.size < p + n ∨ dataOf s.data.toList p n t = none))) := by
  by_cases hp : p + n ≤ s.size
  · cases h : dataOf s.data.toList p n t with
    | none => exact ⟨_, _, fun u => cData_as s p n t none u (by omega) hp h, .inr ⟨by decide, .inr rfl⟩⟩
    | some d => exact ⟨⟨d.toArray⟩, _, fun u => cData_as s p n t (some d) u (by omega) hp h, .inl ⟨rfl, hp, by rw [list_arr]⟩⟩
  · exact ⟨_, _, fun u => cData_bad s p n t u (by omega) (.inr (.inr (by omega))), .inr ⟨by decide, .inl (by omega)⟩⟩

/-- What a reading step leaves. -/
def Stp (w w' : World) (g : Nat) (s : ByteArray) (p : Nat) (b : Bool) (E : Int) (q : Nat) : Prop := RD w' g s (if E = 0 then q else p) (b || !(E == 0)) ∧ TG g w w'

set_option maxRecDepth 20000 in
theorem rname_r {w : World} {g : Nat} {s : ByteArray} {p : Nat} {b : Bool} (hs : s.size ≤ 4096) (h : RD w g s p b) :
    ∃ (N : ByteArray) (E : Int) (q : Nat), ((E = 0 ∧ nameOf s.data.toList p = some (N.data.toList, q)) ∨ (E ≠ 0 ∧ nameOf s.data.toList p = none)) ∧
    Calls Try.prog 30 #[.pointer (some ⟨g, 0, none⟩)] w fun e w' => e = .returned (.string N) ∧ Stp w w' g s p b E q := by
  obtain ⟨N, x, E, q, hcall, hq, hn⟩ := nm_form s p hs
  refine ⟨N, E, q, hn, ?_⟩
  have HQ : Hid (E = 0 → x = (q : Int) ∧ q ≤ s.size) := hq
  have HA : Hid (RD w g s p b) := h
  have k0 : ∀ nb : Bel w, nb.to.cell? ⟨g, 0, none⟩ = some (.string s) := fun nb => (HA.out.below nb.h).cells.1
  have k1 : ∀ nb : Bel w, nb.to.cell? ⟨g, 1, none⟩ = some (.int .i64 (p : Int)) := fun nb => (HA.out.below nb.h).cells.2.1
  clear h hq hn
  go_enter Try.func30, Try.ntmps30
  go_wp2
  refine wp_region_bel (by kernel_rfl) (by kernel_rfl) (fun _ => ?_)
  repeat (go_big_quiet_step ((go_at_call 49; go_must (exact bel_lays (hcall _)))))
  refine wpQuiet_nil ?_
  intro wn hwn
  have hbn := bel_out hwn
  clear hwn k0 k1
  go_wp2_with (go_at_call 50; go_must (refine (step_r (HA.out.below hbn) x E q HQ.out).mono ?_); rintro e w2 ⟨rfl, h2, b2⟩; have H2 : Hid (Stp w w2 g s p b E q) := ⟨h2, (Turn.of_below hbn).same b2⟩; clear h2 b2)
  go_ret
  exact ⟨rfl, H2.out⟩

set_option maxRecDepth 20000 in
theorem num16_r {w : World} {g : Nat} {s : ByteArray} {p : Nat} {b : Bool} (hs : s.size ≤ 4096) (h : RD w g s p b) :
    ∃ (x E : Int) (q : Nat), NumR s p 2 x E q ∧
    Calls Try.prog 31 #[.pointer (some ⟨g, 0, none⟩), .func (.func 28) #[] #[]] w fun e w' => e = .returned (.int .i64 x) ∧ Stp w w' g s p b E q := by
  obtain ⟨x, y, E, q, hcall, hy, hn⟩ := u16_form s p hs
  refine ⟨x, E, q, hn, ?_⟩
  have HQ : Hid (E = 0 → y = (q : Int) ∧ q ≤ s.size) := fun e => ⟨hy e, hn.1 e⟩
  have HA : Hid (RD w g s p b) := h
  have k0 : ∀ nb : Bel w, nb.to.cell? ⟨g, 0, none⟩ = some (.string s) := fun nb => (HA.out.below nb.h).cells.1
  have k1 : ∀ nb : Bel w, nb.to.cell? ⟨g, 1, none⟩ = some (.int .i64 (p : Int)) := fun nb => (HA.out.below nb.h).cells.2.1
  clear h hy hn
  go_enter Try.func31, Try.ntmps31
  go_wp2
  refine wp_region_bel (by kernel_rfl) (by kernel_rfl) (fun _ => ?_)
  repeat (go_big_quiet_step ((go_at_call 28; go_must (exact bel_lays (hcall _)))))
  refine wpQuiet_nil ?_
  intro wn hwn
  have hbn := bel_out hwn
  clear hwn k0 k1
  go_wp2_with (go_at_call 50; go_must (refine (step_r (HA.out.below hbn) y E q HQ.out).mono ?_); rintro e w2 ⟨rfl, h2, b2⟩; have H2 : Hid (Stp w w2 g s p b E q) := ⟨h2, (Turn.of_below hbn).same b2⟩; clear h2 b2)
  go_ret
  exact ⟨rfl, H2.out⟩

set_option maxRecDepth 20000 in
theorem num32_r {w : World} {g : Nat} {s : ByteArray} {p : Nat} {b : Bool} (hs : s.size ≤ 4096) (h : RD w g s p b) :
    ∃ (x E : Int) (q : Nat), NumR s p 4 x E q ∧
    Calls Try.prog 31 #[.pointer (some ⟨g, 0, none⟩), .func (.func 32) #[] #[]] w fun e w' => e = .returned (.int .i64 x) ∧ Stp w w' g s p b E q := by
  obtain ⟨x, y, E, q, hcall, hy, hn⟩ := u32_form s p hs
  refine ⟨x, E, q, hn, ?_⟩
  have HQ : Hid (E = 0 → y = (q : Int) ∧ q ≤ s.size) := fun e => ⟨hy e, hn.1 e⟩
  have HA : Hid (RD w g s p b) := h
  have k0 : ∀ nb : Bel w, nb.to.cell? ⟨g, 0, none⟩ = some (.string s) := fun nb => (HA.out.below nb.h).cells.1
  have k1 : ∀ nb : Bel w, nb.to.cell? ⟨g, 1, none⟩ = some (.int .i64 (p : Int)) := fun nb => (HA.out.below nb.h).cells.2.1
  clear h hy hn
  go_enter Try.func31, Try.ntmps31
  go_wp2
  refine wp_region_bel (by kernel_rfl) (by kernel_rfl) (fun _ => ?_)
  repeat (go_big_quiet_step ((go_at_call 32; go_must (exact bel_lays (hcall _)))))
  refine wpQuiet_nil ?_
  intro wn hwn
  have hbn := bel_out hwn
  clear hwn k0 k1
  go_wp2_with (go_at_call 50; go_must (refine (step_r (HA.out.below hbn) y E q HQ.out).mono ?_); rintro e w2 ⟨rfl, h2, b2⟩; have H2 : Hid (Stp w w2 g s p b E q) := ⟨h2, (Turn.of_below hbn).same b2⟩; clear h2 b2)
  go_ret
  exact ⟨rfl, H2.out⟩

/-- The data of type t at p: its length, its bytes. -/
def DatR (s : ByteArray) (p : Nat) (t : Int) (D : ByteArray) (b b' : Bool) (p' : Nat) : Prop :=
  p' ≤ s.size ∧ ((b' = b ∧ p + 2 + (val s p 2).toNat ≤ s.size ∧ dataOf s.data.toList (p + 2) (val s p 2).toNat t = some D.data.toList ∧ p' = p + 2 + (val s p 2).toNat) ∨
  (b' = true ∧ (s.size < p + 2 + (val s p 2).toNat ∨ dataOf s.data.toList (p + 2) (val s p 2).toNat t = none)))
/-- Behind a length, with its data, or without. -/
theorem data_plain {s : ByteArray} {p q : Nat} {x E F t : Int} {D : ByteArray} {b : Bool} {p1 n : Nat} (hp : p ≤ s.size) (hn : NumR s p 2 x E q) (hp1 : p1 = if E = 0 then q else p) (hx : n = x.toNat)
    (hd : (F = 0 ∧ p1 + n ≤ s.size ∧ dataOf s.data.toList p1 n t = some D.data.toList) ∨ (F ≠ 0 ∧ (s.size < p1 + n ∨ dataOf s.data.toList p1 n t = none))) :
    DatR s p t D b ((b || !(E == 0)) || !(F == 0)) (if F = 0 then p1 + n else p1) := by
  obtain ⟨h0, h⟩ := hn
  rcases h with ⟨rfl, h1, rfl, rfl⟩ | ⟨hE, h1, rfl⟩
  · rw [if_pos rfl] at hp1
    subst hp1 hx
    rcases hd with ⟨rfl, h2, h3⟩ | ⟨hF, h2⟩
    · exact ⟨by rw [if_pos rfl]; exact h2, .inl ⟨by simp, h2, h3, by rw [if_pos rfl]⟩⟩
    · refine ⟨by rw [if_neg hF]; exact h1, .inr ⟨by simp [hF], h2⟩⟩
  · rw [if_neg hE] at hp1
    subst hp1
    refine ⟨?_, .inr ⟨by simp [hE], .inl (by omega)⟩⟩
    have h00 : (0 : Int).toNat = 0 := rfl
    split <;> omega

set_option maxRecDepth 20000 in
theorem data_r {w : World} {g : Nat} {s : ByteArray} {p : Nat} {b : Bool} (t : Int) (hs : s.size ≤ 4096) (h : RD w g s p b) :
    ∃ (D : ByteArray) (b' : Bool) (p' : Nat), DatR s p t D b b' p' ∧
    Calls Try.prog 33 #[.pointer (some ⟨g, 0, none⟩), .int .i64 t] w fun e w' => e = .returned (.string D) ∧ RD w' g s p' b' ∧ TG g w w' := by
  obtain ⟨x, E, q, hn, hnum⟩ := num16_r hs h
  obtain ⟨p1, hp1⟩ : ∃ p1, p1 = if E = 0 then q else p := ⟨_, rfl⟩
  obtain ⟨n, hx⟩ : ∃ n, n = x.toNat := ⟨_, rfl⟩
  have hxn : x = (n : Int) ∧ n < 65536 := by
    have := val_lt s p 2
    rcases hn.2 with ⟨_, _, e, _⟩ | ⟨_, _, e⟩ <;> omega
  obtain ⟨D, F, hdat, hd⟩ := dt_form s p1 n t hs
  have hpl := data_plain (b := b) h.2 hn hp1 hx hd
  obtain ⟨p', hp'⟩ : ∃ p', p' = if F = 0 then p1 + n else p1 := ⟨_, rfl⟩
  obtain ⟨b', hb'⟩ : ∃ b', b' = ((b || !(E == 0)) || !(F == 0)) := ⟨_, rfl⟩
  rw [← hp', ← hb'] at hpl
  refine ⟨D, b', p', hpl, ?_⟩
  have HPL : Hid ((if F = 0 then p1 + n else p1) ≤ s.size) := by unfold Hid; rw [← hp']; exact hpl.1
  have hp1s : p1 ≤ s.size := by
    rw [hp1]
    split
    · rename_i e; exact hn.1 e
    · exact h.2
  obtain ⟨rfl, hn6⟩ := hxn
  unfold Stp at hnum
  rw [← hp1] at hnum
  obtain ⟨b1, hb1⟩ : ∃ b1, b1 = (b || !(E == 0)) := ⟨_, rfl⟩
  rw [← hb1] at hnum hb'
  have HB' : Hid (b' = (b1 || !(F == 0))) := hb'
  have HP' : Hid (p' = if F = 0 then p1 + n else p1) := hp'
  clear hn hp1 hx hd hpl h hb1 hb' hp'
  go_enter Try.func33, Try.ntmps33
  go_wp2_with (go_at_call 31; go_must (refine hnum.mono ?_); rintro e w1 ⟨rfl, h1, u1⟩; have H1 : Hid (RD w1 g s p1 b1 ∧ TG g w w1) := ⟨h1, u1⟩; have k0 : ∀ nb : Bel w1, nb.to.cell? ⟨g, 0, none⟩ = some (.string s) := (fun nb => (H1.out.1.below nb.h).cells.1); have k1 : ∀ nb : Bel w1, nb.to.cell? ⟨g, 1, none⟩ = some (.int .i64 (p1 : Int)) := (fun nb => (H1.out.1.below nb.h).cells.2.1); clear h1 u1)
  refine wp_region_bel (by kernel_rfl) (by kernel_rfl) (fun _ => ?_)
  repeat (go_big_quiet_step ((go_at_call 51; go_must (exact bel_lays (hdat _)))))
  refine wpQuiet_nil ?_
  intro wn hwn
  have hbn := bel_out hwn
  clear hwn k0 k1
  obtain ⟨c0, c1, c2⟩ := (H1.out.1.below hbn).cells
  go_wp2_with (go_at_call 50; go_must (refine (step_r (H1.out.1.below hbn) _ F (p1 + n) (fun e => ⟨(by omega), (by have := HPL.out; rwa [if_pos e] at this)⟩)).mono ?_); rintro e w2 ⟨rfl, h2, b2⟩; have H2 : Hid (RD w2 g s p' b' ∧ TG g w w2) := ⟨(by rw [HP'.out, HB'.out]; exact h2), (H1.out.2.past hbn).same b2⟩; clear h2 b2)
  go_ret
  exact ⟨rfl, H2.out⟩

end Go.Proofs.Ytdogjbblnjjaaab

/- The reader of package wire: what question and record give. -/
namespace Go.Proofs.Ytdogjbblnjjaaab
open Go.RowKit
open Pl

/-- What question and record hold: the reader, the result, the part that is read. -/
structure Loc (w w' : World) (g : Nat) (s : ByteArray) (p : Nat) (b : Bool) (T : TypeId) (Z C : Array Value) : Prop where
  rd : RD w' g s p b
  tg : TG g w w'
  res : Blk w' w.heap.size Z T
  loc : Blk w' (w.heap.size + 1) C T
  lt : g < w.heap.size
section
variable {w w' w'' : World} {g : Nat} {s : ByteArray} {p p' : Nat} {b b' : Bool} {T : TypeId} {Z C : Array Value}
theorem Loc.step (j : Loc w w' g s p b T Z C) (hr : RD w'' g s p' b') (ht : TG g w' w'') : Loc w w'' g s p' b' T Z C :=
  ⟨hr, j.tg.same ht, ht.blk j.res (by have := j.lt; omega), ht.blk j.loc (by have := j.lt; omega), j.lt⟩
theorem Loc.put (j : Loc w w' g s p b T Z C) (i : Nat) (v : Value) (C' : Array Value) (hC : C.setIfInBounds i v = C') : Loc w (w'.setCell ⟨w.heap.size + 1, i, none⟩ v) g s p b T Z C' :=
  ⟨j.rd.other (by have := j.lt; omega) i v, j.tg.setNew (by omega) i v, j.res.other (by omega) i v, by rw [← hC]; exact j.loc.set i v, j.lt⟩
theorem Loc.give (j : Loc w w' g s p b T Z C) (i : Nat) (v : Value) (Z' : Array Value) (hC : Z.setIfInBounds i v = Z') : Loc w (w'.setCell ⟨w.heap.size, i, none⟩ v) g s p b T Z' C :=
  ⟨j.rd.other (by have := j.lt; omega) i v, j.tg.setNew (by omega) i v, by rw [← hC]; exact j.res.set i v, j.loc.other (by omega) i v, j.lt⟩
theorem Loc.bad (j : Loc w w' g s p b T Z C) : Loc w (w'.setCell ⟨g, 2, none⟩ (.bool true)) g s p true T Z C := j.step j.rd.setBad.1 j.rd.setBad.2
theorem Loc.start (h : RD w g s p b) (T : TypeId) (Z : Array Value) : Loc w ((w.alloc (.cells Z T)).alloc (.cells Z T)) g s p b T Z Z := by
  have e1 : (w.alloc (.cells Z T)).heap.size = w.heap.size + 1 := by simp
  refine ⟨h.below (lay (lay (Below.refl _ _) _) _), Turn.of_below (lay (lay (Below.refl _ _) _) _), (Blk.new w _ _).alloc _, ?_, h.1.lt⟩
  have := Blk.new (w.alloc (.cells Z T)) Z T
  rw [e1] at this; exact this
end

/-- A question, with the three steps of its reading. -/
theorem q_fin {s : ByteArray} {p p1 p2 p3 q1 q2 q3 : Nat} {N : ByteArray} {E1 E2 E3 x y : Int} (_hp : p ≤ s.size)
    (h1 : (E1 = 0 ∧ nameOf s.data.toList p = some (N.data.toList, q1)) ∨ (E1 ≠ 0 ∧ nameOf s.data.toList p = none)) (e1 : p1 = if E1 = 0 then q1 else p)
    (h2 : NumR s p1 2 x E2 q2) (e2 : p2 = if E2 = 0 then q2 else p1) (h3 : NumR s p2 2 y E3 q3) (e3 : p3 = if E3 = 0 then q3 else p2) :
    (x ≠ 0 → ((((false || !(E1 == 0)) || !(E2 == 0)) || !(E3 == 0)) = false ∧ getQ s p = some (⟨N, x, y⟩, p3)) ∨ ((((false || !(E1 == 0)) || !(E2 == 0)) || !(E3 == 0)) = true ∧ getQ s p = none)) ∧ (x = 0 → getQ s p = none) := by
  unfold getQ
  rcases h1 with ⟨rfl, h1⟩ | ⟨n1, h1⟩
  · rw [if_pos rfl] at e1
    subst e1
    rw [h1]
    simp only
    rcases h2.2 with ⟨rfl, a2, rfl, rfl⟩ | ⟨n2, a2, rfl⟩
    · rw [if_pos rfl] at e2
      subst e2
      rcases h3.2 with ⟨rfl, a3, rfl, rfl⟩ | ⟨n3, a3, rfl⟩
      · rw [if_pos rfl] at e3
        subst e3
        refine ⟨fun hx => .inl ⟨rfl, ?_⟩, fun hx => ?_⟩
        · rw [if_pos ⟨by omega, hx⟩, arr_list]
        · rw [if_neg (fun h => h.2 hx)]
      · exact ⟨fun hx => .inr ⟨by simp [n3], by rw [if_neg (by omega)]⟩, fun hx => by rw [if_neg (by omega)]⟩
    · exact ⟨fun hx => absurd rfl hx, fun _ => by rw [if_neg (by omega)]⟩
  · rw [h1]
    exact ⟨fun _ => .inr ⟨by simp [n1], rfl⟩, fun _ => rfl⟩

set_option maxRecDepth 20000 in
set_option maxHeartbeats 1000000 in
theorem question_r {w : World} {g : Nat} {s : ByteArray} {p : Nat} (hs : s.size ≤ 4096) (h : RD w g s p false) :
    Calls Try.prog 13 #[.pointer (some ⟨g, 0, none⟩)] w fun e w' => ∃ (q : Qn) (p' : Nat) (b' : Bool), e = .returned (.agg #[.string q.n, .int .i64 q.t, .int .i64 q.c]) ∧ RD w' g s p' b' ∧ TG g w w' ∧ ((b' = false ∧ getQ s p = some (q, p')) ∨ (b' = true ∧ getQ s p = none)) := by
  have j := Loc.start h 38 #[.string ⟨#[]⟩, .int .i64 0, .int .i64 0]
  have HP : Hid (p ≤ s.size) := h.2
  have hlt := h.1.lt
  have t1 : True := trivial
  clear h
  go_enter Try.func13, Try.ntmps13
  go_wp2_with (first
    | (go_at_call 30; obtain ⟨N, E1, q1, hN, cN⟩ := rname_r hs j.rd; have HN : Hid _ := hN; go_must (refine cN.mono ?_); rintro e w1 ⟨rfl, h1, u1⟩; obtain ⟨p1, e1⟩ : ∃ p1, p1 = if E1 = 0 then q1 else p := ⟨_, rfl⟩; rw [← e1] at h1; have HE1 : Hid (p1 = if E1 = 0 then q1 else p) := e1; replace j := j.step h1 u1; clear h1 u1 e1 cN hN; have fz := j.loc.frozen 0; have cl : w1.cell? ⟨w.heap.size + 1, 0, none⟩ = some (.string ⟨#[]⟩) := j.loc.cell 0)
    | (go_at_call 31; have _t := t1; replace j := j.put 0 (.string N) _ rfl; obtain ⟨x, E2, q2, hN2, cN⟩ := num16_r hs j.rd; have HN2 : Hid _ := hN2; go_must (refine cN.mono ?_); rintro e w2 ⟨rfl, h1, u1⟩; obtain ⟨p2, e2⟩ : ∃ p2, p2 = if E2 = 0 then q2 else p1 := ⟨_, rfl⟩; rw [← e2] at h1; have HE2 : Hid (p2 = if E2 = 0 then q2 else p1) := e2; replace j := j.step h1 u1; clear h1 u1 e2 cN hN2 fz cl t1 _t; have fz := j.loc.frozen 1; have cl : w2.cell? ⟨w.heap.size + 1, 1, none⟩ = some (.int .i64 0) := j.loc.cell 1)
    | (go_at_call 31; replace j := j.put 1 (.int .i64 x) _ rfl; obtain ⟨y, E3, q3, hN3, cN⟩ := num16_r hs j.rd; have HN3 : Hid _ := hN3; go_must (refine cN.mono ?_); rintro e w3 ⟨rfl, h1, u1⟩; obtain ⟨p3, e3⟩ : ∃ p3, p3 = if E3 = 0 then q3 else p2 := ⟨_, rfl⟩; rw [← e3] at h1; have HE3 : Hid (p3 = if E3 = 0 then q3 else p2) := e3; replace j := j.step h1 u1; clear h1 u1 e3 cN hN3 fz cl; have fz := j.loc.frozen 2; have cl : w3.cell? ⟨w.heap.size + 1, 2, none⟩ = some (.int .i64 0) := j.loc.cell 2; have cl1 : w3.cell? ⟨w.heap.size + 1, 1, none⟩ = some (.int .i64 x) := j.loc.cell 1; have HF : Hid _ := q_fin HP.out HN.out HE1.out HN2.out HE2.out HN3.out HE3.out; have cl0 : w3.cell? ⟨w.heap.size + 1, 0, none⟩ = some (.string N) := j.loc.cell 0; have r0 : w3.cell? ⟨w.heap.size, 0, none⟩ = some (.string ⟨#[]⟩) := j.res.cell 0; have r1 : w3.cell? ⟨w.heap.size, 1, none⟩ = some (.int .i64 0) := j.res.cell 1; have r2 : w3.cell? ⟨w.heap.size, 2, none⟩ = some (.int .i64 0) := j.res.cell 2; have y0 := j.res.frozen 0; have y1 := j.res.frozen 1; have y2 := j.res.frozen 2; have gb := j.rd.cells.2.2; have gf := j.rd.1.frozen 2; clear HP HN HE1 HN2 HE2 HN3 HE3))
  · rename_i hx0
    have hx : x = 0 := by simpa using hx0
    have j1 := (((((j.put 2 (.int .i64 y) _ rfl).bad).give 0 (.string N) _ rfl).give 1 (.int .i64 x) _ rfl).give 2 (.int .i64 y) _ rfl)
    have m0 := j1.res.cell 0
    have m1 := j1.res.cell 1
    have m2 := j1.res.cell 2
    refine bodyPost_ret (v := .agg #[.string N, .int .i64 x, .int .i64 y]) (by simp [results, Try.results13, go_sem, m0, m1, m2]) rfl ⟨⟨N, x, y⟩, _, _, rfl, j1.rd, j1.tg, .inr ⟨rfl, HF.out.2 hx⟩⟩
  · rename_i hx0
    have hx : x ≠ 0 := by simpa using hx0
    have j1 := ((((j.put 2 (.int .i64 y) _ rfl).give 0 (.string N) _ rfl).give 1 (.int .i64 x) _ rfl).give 2 (.int .i64 y) _ rfl)
    have m0 := j1.res.cell 0
    have m1 := j1.res.cell 1
    have m2 := j1.res.cell 2
    refine bodyPost_ret (v := .agg #[.string N, .int .i64 x, .int .i64 y]) (by simp [results, Try.results13, go_sem, m0, m1, m2]) rfl ⟨⟨N, x, y⟩, _, _, rfl, j1.rd, j1.tg, HF.out.1 hx⟩

/-- A record, with the five steps of its reading. -/
theorem r_fin {s : ByteArray} {p p1 p2 p3 p4 p5 q1 q2 q3 q4 : Nat} {N D : ByteArray} {E1 E2 E3 E4 x y l : Int} {b' : Bool}
    (h1 : (E1 = 0 ∧ nameOf s.data.toList p = some (N.data.toList, q1)) ∨ (E1 ≠ 0 ∧ nameOf s.data.toList p = none)) (e1 : p1 = if E1 = 0 then q1 else p)
    (h2 : NumR s p1 2 x E2 q2) (e2 : p2 = if E2 = 0 then q2 else p1) (h3 : NumR s p2 2 y E3 q3) (e3 : p3 = if E3 = 0 then q3 else p2) (h4 : NumR s p3 4 l E4 q4) (e4 : p4 = if E4 = 0 then q4 else p3)
    (h5 : DatR s p4 x D (((((false || !(E1 == 0)) || !(E2 == 0)) || !(E3 == 0))) || !(E4 == 0)) b' p5) :
    (b' = false ∧ getR s p = some (⟨N, x, y, l, D⟩, p5)) ∨ (b' = true ∧ getR s p = none) := by
  have hbad : (((((false || !(E1 == 0)) || !(E2 == 0)) || !(E3 == 0))) || !(E4 == 0)) = true → b' = true := fun h => by
    rcases h5.2 with ⟨a, _⟩ | ⟨a, _⟩
    · rw [a, h]
    · exact a
  unfold getR
  rcases h1 with ⟨rfl, h1⟩ | ⟨n1, h1⟩
  · rw [if_pos rfl] at e1
    subst e1
    rw [h1]
    simp only
    rcases h2.2 with ⟨rfl, a2, rfl, rfl⟩ | ⟨n2, a2, rfl⟩
    · rw [if_pos rfl] at e2
      subst e2
      rcases h3.2 with ⟨rfl, a3, rfl, rfl⟩ | ⟨n3, a3, rfl⟩
      · rw [if_pos rfl] at e3
        subst e3
        rcases h4.2 with ⟨rfl, a4, rfl, rfl⟩ | ⟨n4, a4, rfl⟩
        · rw [if_pos rfl] at e4
          subst e4
          have f1 : p1 + 2 + 2 + 4 = p1 + 8 := by omega
          have f2 : p1 + 2 + 2 = p1 + 4 := by omega
          have f3 : p1 + 8 + 2 = p1 + 10 := by omega
          rw [f1] at h5
          rw [f2]
          unfold DatR at h5
          rw [f3] at h5
          rcases h5.2 with ⟨hb, a5, a6, rfl⟩ | ⟨hb, a5⟩
          · left
            refine ⟨hb, ?_⟩
            rw [if_pos a5, a6, arr_list]
          · right
            refine ⟨hb, ?_⟩
            rcases a5 with a5 | a5
            · rw [if_neg (by omega)]
            · split
              · rw [a5]
              · rfl
        · exact .inr ⟨hbad (by simp [n4]), by rw [if_neg (by omega)]⟩
      · exact .inr ⟨hbad (by simp [n3]), by rw [if_neg (by omega)]⟩
    · exact .inr ⟨hbad (by simp [n2]), by rw [if_neg (by omega)]⟩
  · rw [h1]
    exact .inr ⟨hbad (by simp [n1]), rfl⟩

set_option maxRecDepth 20000 in
set_option maxHeartbeats 2000000 in
theorem record_r {w : World} {g : Nat} {s : ByteArray} {p : Nat} (hs : s.size ≤ 4096) (h : RD w g s p false) :
    Calls Try.prog 15 #[.pointer (some ⟨g, 0, none⟩)] w fun e w' => ∃ (r : Rc) (p' : Nat) (b' : Bool), e = .returned (.agg #[.string r.n, .int .i64 r.t, .int .i64 r.c, .int .i64 r.l, .string r.d]) ∧ RD w' g s p' b' ∧ TG g w w' ∧ ((b' = false ∧ getR s p = some (r, p')) ∨ (b' = true ∧ getR s p = none)) := by
  have j := Loc.start h 25 #[.string ⟨#[]⟩, .int .i64 0, .int .i64 0, .int .i64 0, .string ⟨#[]⟩]
  have hlt := h.1.lt
  have t1 : True := trivial
  have t2 : True := trivial
  clear h
  go_enter Try.func15, Try.ntmps15
  go_wp2_with (first
    | (go_at_call 30; obtain ⟨N, E1, q1, hN, cN⟩ := rname_r hs j.rd; have HN : Hid _ := hN; go_must (refine cN.mono ?_); rintro e w1 ⟨rfl, h1, u1⟩; obtain ⟨p1, e1⟩ : ∃ p1, p1 = if E1 = 0 then q1 else p := ⟨_, rfl⟩; rw [← e1] at h1; have HE1 : Hid (p1 = if E1 = 0 then q1 else p) := e1; replace j := j.step h1 u1; clear h1 u1 e1 cN hN; have fz := j.loc.frozen 0; have cl : w1.cell? ⟨w.heap.size + 1, 0, none⟩ = some (.string ⟨#[]⟩) := j.loc.cell 0)
    | (go_at_call 31; have _t := t1; replace j := j.put 0 (.string N) _ rfl; obtain ⟨x, E2, q2, hN2, cN⟩ := num16_r hs j.rd; have HN2 : Hid _ := hN2; go_must (refine cN.mono ?_); rintro e w2 ⟨rfl, h1, u1⟩; obtain ⟨p2, e2⟩ : ∃ p2, p2 = if E2 = 0 then q2 else p1 := ⟨_, rfl⟩; rw [← e2] at h1; have HE2 : Hid (p2 = if E2 = 0 then q2 else p1) := e2; replace j := j.step h1 u1; clear h1 u1 e2 cN hN2 fz cl t1 _t; have fz := j.loc.frozen 1; have cl : w2.cell? ⟨w.heap.size + 1, 1, none⟩ = some (.int .i64 0) := j.loc.cell 1)
    | (go_at_call 31; have _t := t2; replace j := j.put 1 (.int .i64 x) _ rfl; obtain ⟨y, E3, q3, hN3, cN⟩ := num16_r hs j.rd; have HN3 : Hid _ := hN3; go_must (refine cN.mono ?_); rintro e w3 ⟨rfl, h1, u1⟩; obtain ⟨p3, e3⟩ : ∃ p3, p3 = if E3 = 0 then q3 else p2 := ⟨_, rfl⟩; rw [← e3] at h1; have HE3 : Hid (p3 = if E3 = 0 then q3 else p2) := e3; replace j := j.step h1 u1; clear h1 u1 e3 cN hN3 fz cl t2 _t; have fz := j.loc.frozen 2; have cl : w3.cell? ⟨w.heap.size + 1, 2, none⟩ = some (.int .i64 0) := j.loc.cell 2)
    | (go_at_call 31; replace j := j.put 2 (.int .i64 y) _ rfl; obtain ⟨l, E4, q4, hN4, cN⟩ := num32_r hs j.rd; have HN4 : Hid _ := hN4; go_must (refine cN.mono ?_); rintro e w4 ⟨rfl, h1, u1⟩; obtain ⟨p4, e4⟩ : ∃ p4, p4 = if E4 = 0 then q4 else p3 := ⟨_, rfl⟩; rw [← e4] at h1; have HE4 : Hid (p4 = if E4 = 0 then q4 else p3) := e4; replace j := j.step h1 u1; clear h1 u1 e4 cN hN4 fz cl; have fz := j.loc.frozen 3; have cl : w4.cell? ⟨w.heap.size + 1, 3, none⟩ = some (.int .i64 0) := j.loc.cell 3; have cl1 : w4.cell? ⟨w.heap.size + 1, 1, none⟩ = some (.int .i64 x) := j.loc.cell 1)
    | (go_at_call 33; replace j := j.put 3 (.int .i64 l) _ rfl; obtain ⟨D, b', p', hD, cN⟩ := data_r x hs j.rd; have HF : Hid _ := r_fin HN.out HE1.out HN2.out HE2.out HN3.out HE3.out HN4.out HE4.out hD; go_must (refine cN.mono ?_); rintro e w5 ⟨rfl, h1, u1⟩; replace j := j.step h1 u1; clear h1 u1 cN hD fz cl cl1 HN HE1 HN2 HE2 HN3 HE3 HN4 HE4; have fz := j.loc.frozen 4; have cl : w5.cell? ⟨w.heap.size + 1, 4, none⟩ = some (.string ⟨#[]⟩) := j.loc.cell 4; have cl0 : w5.cell? ⟨w.heap.size + 1, 0, none⟩ = some (.string N) := j.loc.cell 0; have cl1 : w5.cell? ⟨w.heap.size + 1, 1, none⟩ = some (.int .i64 x) := j.loc.cell 1; have cl2 : w5.cell? ⟨w.heap.size + 1, 2, none⟩ = some (.int .i64 y) := j.loc.cell 2; have cl3 : w5.cell? ⟨w.heap.size + 1, 3, none⟩ = some (.int .i64 l) := j.loc.cell 3; have r0 : w5.cell? ⟨w.heap.size, 0, none⟩ = some (.string ⟨#[]⟩) := j.res.cell 0; have r1 : w5.cell? ⟨w.heap.size, 1, none⟩ = some (.int .i64 0) := j.res.cell 1; have r2 : w5.cell? ⟨w.heap.size, 2, none⟩ = some (.int .i64 0) := j.res.cell 2; have r3 : w5.cell? ⟨w.heap.size, 3, none⟩ = some (.int .i64 0) := j.res.cell 3; have r4 : w5.cell? ⟨w.heap.size, 4, none⟩ = some (.string ⟨#[]⟩) := j.res.cell 4; have y0 := j.res.frozen 0; have y1 := j.res.frozen 1; have y2 := j.res.frozen 2; have y3 := j.res.frozen 3; have y4 := j.res.frozen 4))
  have j1 := ((((((j.put 4 (.string D) _ rfl).give 0 (.string N) _ rfl).give 1 (.int .i64 x) _ rfl).give 2 (.int .i64 y) _ rfl).give 3 (.int .i64 l) _ rfl).give 4 (.string D) _ rfl)
  have m0 := j1.res.cell 0
  have m1 := j1.res.cell 1
  have m2 := j1.res.cell 2
  have m3 := j1.res.cell 3
  have m4 := j1.res.cell 4
  refine bodyPost_ret (v := .agg #[.string N, .int .i64 x, .int .i64 y, .int .i64 l, .string D]) (by simp [results, Try.results15, go_sem, m0, m1, m2, m3, m4]) rfl ⟨⟨N, x, y, l, D⟩, _, _, rfl, j1.rd, j1.tg, HF.out⟩

end Go.Proofs.Ytdogjbblnjjaaab
