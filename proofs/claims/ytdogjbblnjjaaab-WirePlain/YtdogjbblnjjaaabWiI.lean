/- The reader of package wire: what step, name, number and data leave. -/
import Derived.Test.YtdogjbblnjjaaabWiH
namespace Go.Proofs.Ytdogjbblnjjaaab
open Go.RowKit
open Pl

theorem Turn.alloc {S : Nat → Prop} {w a : World} (h : Turn S w a) (o : Obj) : Turn S w (a.alloc o) := h.trans (S' := fun _ => False) (Turn.of_below ((Below.refl _ _).alloc (Nat.le_refl _) o)) (fun _ => False.elim)
theorem Turn.past {S : Nat → Prop} {w a b : World} (h : Turn S w a) (hb : Below a.heap.size a b) : Turn S w b := h.trans (S' := fun _ => False) (Turn.of_below hb) (fun _ => False.elim)
theorem Turn.setNew {S : Nat → Prop} {w a : World} (h : Turn S w a) {k : Nat} (hk : w.heap.size ≤ k) (i : Nat) (v : Value) : Turn S w (a.setCell ⟨k, i, none⟩ v) :=
  h.trans (S' := fun j => j = k) (Turn.of_set (S := fun j => j = k) a (p := ⟨k, i, none⟩) rfl v) (fun _ e => .inr (by rw [e]; exact hk))
theorem Turn.same {S : Nat → Prop} {w a b : World} (h : Turn S w a) (k : Turn S a b) : Turn S w b := h.trans k (fun _ e => .inl e)

/-- At g lies a reader of s that stands at p. -/
def RD (w : World) (g : Nat) (s : ByteArray) (p : Nat) (b : Bool) : Prop := Blk w g #[.string s, .int .i64 (p : Int), .bool b] 52 ∧ p ≤ s.size
/-- The reader's block alone turns. -/
abbrev TG (g : Nat) (w w' : World) : Prop := Turn (fun k => k = g) w w'
theorem RD.below {w w' : World} {g : Nat} {s : ByteArray} {p : Nat} {b : Bool} (h : RD w g s p b) (hb : Below w.heap.size w w') : RD w' g s p b := ⟨h.1.below hb, h.2⟩
theorem RD.other {w : World} {g : Nat} {s : ByteArray} {p : Nat} {b : Bool} (h : RD w g s p b) {k : Nat} (hk : g ≠ k) (i : Nat) (v : Value) : RD (w.setCell ⟨k, i, none⟩ v) g s p b := ⟨h.1.other hk i v, h.2⟩
theorem RD.cells {w : World} {g : Nat} {s : ByteArray} {p : Nat} {b : Bool} (h : RD w g s p b) : w.cell? ⟨g, 0, none⟩ = some (.string s) ∧ w.cell? ⟨g, 1, none⟩ = some (.int .i64 (p : Int)) ∧ w.cell? ⟨g, 2, none⟩ = some (.bool b) := ⟨h.1.cell 0, h.1.cell 1, h.1.cell 2⟩
theorem RD.setBad {w : World} {g : Nat} {s : ByteArray} {p : Nat} {b : Bool} (h : RD w g s p b) : RD (w.setCell ⟨g, 2, none⟩ (.bool true)) g s p true ∧ TG g w (w.setCell ⟨g, 2, none⟩ (.bool true)) :=
  ⟨⟨h.1.set 2 _, h.2⟩, Turn.of_set (S := fun k => k = g) w (p := ⟨g, 2, none⟩) rfl _⟩
theorem RD.setAt {w : World} {g : Nat} {s : ByteArray} {p : Nat} {b : Bool} (h : RD w g s p b) {q : Nat} (hq : q ≤ s.size) : RD (w.setCell ⟨g, 1, none⟩ (.int .i64 (q : Int))) g s q b ∧ TG g w (w.setCell ⟨g, 1, none⟩ (.int .i64 (q : Int))) :=
  ⟨⟨h.1.set 1 _, hq⟩, Turn.of_set (S := fun k => k = g) w (p := ⟨g, 1, none⟩) rfl _⟩

theorem step_r {w : World} {g : Nat} {s : ByteArray} {p : Nat} {b : Bool} (h : RD w g s p b) (x E : Int) (q : Nat) (hq : E = 0 → x = (q : Int) ∧ q ≤ s.size) :
    Calls Try.prog 50 #[.pointer (some ⟨g, 0, none⟩), .int .i64 x, .int .i64 E] w fun e w' => e = .returned (.tuple #[]) ∧ RD w' g s (if E = 0 then q else p) (b || !(E == 0)) ∧ TG g w w' := by
  have f1 := h.1.frozen 1
  have f2 := h.1.frozen 2
  obtain ⟨c0, c1, c2⟩ := h.cells
  have HA : Hid (RD w g s p b) := h
  clear h
  by_cases hE : E = 0
  · subst hE
    obtain ⟨rfl, hq2⟩ := hq rfl
    have HQ2 : Hid (q ≤ s.size) := hq2
    clear hq hq2
    rw [if_pos rfl]
    go_enter Try.func50, Try.ntmps50
    go_wp2
    go_end0
    obtain ⟨b1, b2⟩ := HA.out.setAt HQ2.out
    exact ⟨rfl, by simpa using b1, b2⟩
  · have hE' : (E == 0) = false := by simpa using hE
    rw [if_neg hE]
    clear hq
    go_enter Try.func50, Try.ntmps50
    go_wp2
    (try simp only [Exit.inBlock, Exit.then]); refine bodyPost_ret (results_none rfl _ _ _) rfl ?_
    obtain ⟨b1, b2⟩ := HA.out.setBad
    exact ⟨rfl, by rw [hE', Bool.not_false, Bool.or_true]; exact b1, b2⟩

/-- What Name, U16, U32 and Data answer, as letters. -/
theorem nm_form (s : ByteArray) (p : Nat) (hs : s.size ≤ 4096) : ∃ (N : ByteArray) (x E : Int) (q : Nat), (∀ u, Calls Try.prog 49 #[.string s, .int .i64 (p : Int)] u fun e w' => e = .returned (.tuple #[.string N, .int .i64 x, .int .i64 E]) ∧ Below u.heap.size u w') ∧
    (E = 0 → x = (q : Int) ∧ q ≤ s.size) ∧ ((E = 0 ∧ nameOf s.data.toList p = some (N.data.toList, q)) ∨ (E ≠ 0 ∧ nameOf s.data.toList p = none)) := by
  cases h : nameOf s.data.toList p with
  | none => exact ⟨_, _, _, 0, fun u => cName_as s p none u (by omega) h, fun e => absurd e (by decide), .inr ⟨by decide, rfl⟩⟩
  | some z =>
    obtain ⟨n, b⟩ := z
    have hb := (nameOf_some h).2.1
    rw [data_len] at hb
    exact ⟨⟨n.toArray⟩, _, _, b, fun u => cName_as s p (some (n, b)) u (by omega) h, fun _ => ⟨rfl, hb⟩, .inl ⟨rfl, by rw [list_arr]⟩⟩
/-- A number of k bytes was read, or there was none. -/
def NumR (s : ByteArray) (p k : Nat) (x : Int) (E : Int) (q : Nat) : Prop := (E = 0 → q ≤ s.size) ∧ ((E = 0 ∧ p + k ≤ s.size ∧ x = val s p k ∧ q = p + k) ∨ (E ≠ 0 ∧ s.size < p + k ∧ x = 0))
theorem u16_form (s : ByteArray) (p : Nat) (hs : s.size ≤ 4096) : ∃ (x y E : Int) (q : Nat), (∀ u, Calls Try.prog 28 #[.string s, .int .i64 (p : Int)] u fun e w' => e = .returned (.tuple #[.int .i64 x, .int .i64 y, .int .i64 E]) ∧ Below u.heap.size u w') ∧ (E = 0 → y = (q : Int)) ∧ NumR s p 2 x E q := by
  have hm : s.size ≤ maxLen := by unfold maxLen; omega
  by_cases h : p + 2 ≤ s.size
  · exact ⟨_, _, _, p + 2, fun u => (u16_yes s p u hm h).mono fun e w' ⟨he, hd⟩ => ⟨he, below_drew hd⟩, fun _ => by omega, fun _ => h, .inl ⟨rfl, h, (val_two s p h).symm, rfl⟩⟩
  · exact ⟨_, _, _, 0, fun u => (u16_no s p u hm (.inr (by omega))).mono fun e w' ⟨he, hd⟩ => ⟨he, by rw [hd]; exact Below.refl _ _⟩, fun e => absurd e (by decide), fun e => absurd e (by decide), .inr ⟨by decide, by omega, rfl⟩⟩
theorem u32_form (s : ByteArray) (p : Nat) (hs : s.size ≤ 4096) : ∃ (x y E : Int) (q : Nat), (∀ u, Calls Try.prog 32 #[.string s, .int .i64 (p : Int)] u fun e w' => e = .returned (.tuple #[.int .i64 x, .int .i64 y, .int .i64 E]) ∧ Below u.heap.size u w') ∧ (E = 0 → y = (q : Int)) ∧ NumR s p 4 x E q := by
  have hm : s.size ≤ maxLen := by unfold maxLen; omega
  by_cases h : p + 4 ≤ s.size
  · exact ⟨_, _, _, p + 4, fun u => (u32_yes s p u hm h).mono fun e w' ⟨he, hd⟩ => ⟨he, below_drew hd⟩, fun _ => by omega, fun _ => h, .inl ⟨rfl, h, (val_four s p h).symm, rfl⟩⟩
  · exact ⟨_, _, _, 0, fun u => (u32_no s p u hm (.inr (by omega))).mono fun e w' ⟨he, hd⟩ => ⟨he, by rw [hd]; exact Below.refl _ _⟩, fun e => absurd e (by decide), fun e => absurd e (by decide), .inr ⟨by decide, by omega, rfl⟩⟩
theorem dt_form (s : ByteArray) (p n : Nat) (t : Int) (hs : s.size ≤ 4096) : ∃ (D : ByteArray) (E : Int), (∀ u, Calls Try.prog 51 #[.string s, .int .i64 (p : Int), .int .i64 (n : Int), .int .i64 t] u fun e w' => e = .returned (.tuple #[.string D, .int .i64 E]) ∧ Below u.heap.size u w') ∧
    ((E = 0 ∧ p + n ≤ s.size ∧ dataOf s.data.toList p n t = some D.data.toList) ∨ (E ≠ 0 ∧ (s.size < p + n ∨ dataOf s.data.toList p n t = none))) := by
  by_cases hp : p + n ≤ s.size
  · cases h : dataOf s.data.toList p n t with
    | none => exact ⟨_, _, fun u => cData_as s p n t none u (by omega) hp h, .inr ⟨by decide, .inr rfl⟩⟩
    | some d => exact ⟨⟨d.toArray⟩, _, fun u => cData_as s p n t (some d) u (by omega) hp h, .inl ⟨rfl, hp, by rw [list_arr]⟩⟩
  · exact ⟨_, _, fun u => cData_bad s p n t u (by omega) (.inr (.inr (by omega))), .inr ⟨by decide, .inl (by omega)⟩⟩

/-- What a reading step leaves. -/
def Stp (w w' : World) (g : Nat) (s : ByteArray) (p : Nat) (b : Bool) (E : Int) (q : Nat) : Prop := RD w' g s (if E = 0 then q else p) (b || !(E == 0)) ∧ TG g w w'

set_option maxRecDepth 20000 in
theorem rname_r {w : World} {g : Nat} {s : ByteArray} {p : Nat} {b : Bool} (hs : s.size ≤ 4096) (h : RD w g s p b) :
    ∃ (N : ByteArray) (E : Int) (q : Nat), ((E = 0 ∧ nameOf s.data.toList p = some (N.data.toList, q)) ∨ (E ≠ 0 ∧ nameOf s.data.toList p = none)) ∧
    Calls Try.prog 30 #[.pointer (some ⟨g, 0, none⟩)] w fun e w' => e = .returned (.string N) ∧ Stp w w' g s p b E q := by
  obtain ⟨N, x, E, q, hcall, hq, hn⟩ := nm_form s p hs
  refine ⟨N, E, q, hn, ?_⟩
  have HQ : Hid (E = 0 → x = (q : Int) ∧ q ≤ s.size) := hq
  have HA : Hid (RD w g s p b) := h
  have k0 : ∀ nb : Bel w, nb.to.cell? ⟨g, 0, none⟩ = some (.string s) := fun nb => (HA.out.below nb.h).cells.1
  have k1 : ∀ nb : Bel w, nb.to.cell? ⟨g, 1, none⟩ = some (.int .i64 (p : Int)) := fun nb => (HA.out.below nb.h).cells.2.1
  clear h hq hn
  go_enter Try.func30, Try.ntmps30
  go_wp2
  refine wp_region_bel (by kernel_rfl) (by kernel_rfl) ?_
  repeat (go_big_quiet_step ((go_at_call 49; go_must (exact bel_lays (hcall _)))))
  refine wpQuiet_nil ?_
  intro wn hwn
  have hbn := bel_out hwn
  clear hwn k0 k1
  go_wp2_with (go_at_call 50; go_must (refine (step_r (HA.out.below hbn) x E q HQ.out).mono ?_); rintro e w2 ⟨rfl, h2, b2⟩; have H2 : Hid (Stp w w2 g s p b E q) := ⟨h2, (Turn.of_below hbn).same b2⟩; clear h2 b2)
  go_ret
  exact ⟨rfl, H2.out⟩

set_option maxRecDepth 20000 in
theorem num16_r {w : World} {g : Nat} {s : ByteArray} {p : Nat} {b : Bool} (hs : s.size ≤ 4096) (h : RD w g s p b) :
    ∃ (x E : Int) (q : Nat), NumR s p 2 x E q ∧
    Calls Try.prog 31 #[.pointer (some ⟨g, 0, none⟩), .func (.func 28) #[] #[]] w fun e w' => e = .returned (.int .i64 x) ∧ Stp w w' g s p b E q := by
  obtain ⟨x, y, E, q, hcall, hy, hn⟩ := u16_form s p hs
  refine ⟨x, E, q, hn, ?_⟩
  have HQ : Hid (E = 0 → y = (q : Int) ∧ q ≤ s.size) := fun e => ⟨hy e, hn.1 e⟩
  have HA : Hid (RD w g s p b) := h
  have k0 : ∀ nb : Bel w, nb.to.cell? ⟨g, 0, none⟩ = some (.string s) := fun nb => (HA.out.below nb.h).cells.1
  have k1 : ∀ nb : Bel w, nb.to.cell? ⟨g, 1, none⟩ = some (.int .i64 (p : Int)) := fun nb => (HA.out.below nb.h).cells.2.1
  clear h hy hn
  go_enter Try.func31, Try.ntmps31
  go_wp2
  refine wp_region_bel (by kernel_rfl) (by kernel_rfl) ?_
  repeat (go_big_quiet_step ((go_at_call 28; go_must (exact bel_lays (hcall _)))))
  refine wpQuiet_nil ?_
  intro wn hwn
  have hbn := bel_out hwn
  clear hwn k0 k1
  go_wp2_with (go_at_call 50; go_must (refine (step_r (HA.out.below hbn) y E q HQ.out).mono ?_); rintro e w2 ⟨rfl, h2, b2⟩; have H2 : Hid (Stp w w2 g s p b E q) := ⟨h2, (Turn.of_below hbn).same b2⟩; clear h2 b2)
  go_ret
  exact ⟨rfl, H2.out⟩

set_option maxRecDepth 20000 in
theorem num32_r {w : World} {g : Nat} {s : ByteArray} {p : Nat} {b : Bool} (hs : s.size ≤ 4096) (h : RD w g s p b) :
    ∃ (x E : Int) (q : Nat), NumR s p 4 x E q ∧
    Calls Try.prog 31 #[.pointer (some ⟨g, 0, none⟩), .func (.func 32) #[] #[]] w fun e w' => e = .returned (.int .i64 x) ∧ Stp w w' g s p b E q := by
  obtain ⟨x, y, E, q, hcall, hy, hn⟩ := u32_form s p hs
  refine ⟨x, E, q, hn, ?_⟩
  have HQ : Hid (E = 0 → y = (q : Int) ∧ q ≤ s.size) := fun e => ⟨hy e, hn.1 e⟩
  have HA : Hid (RD w g s p b) := h
  have k0 : ∀ nb : Bel w, nb.to.cell? ⟨g, 0, none⟩ = some (.string s) := fun nb => (HA.out.below nb.h).cells.1
  have k1 : ∀ nb : Bel w, nb.to.cell? ⟨g, 1, none⟩ = some (.int .i64 (p : Int)) := fun nb => (HA.out.below nb.h).cells.2.1
  clear h hy hn
  go_enter Try.func31, Try.ntmps31
  go_wp2
  refine wp_region_bel (by kernel_rfl) (by kernel_rfl) ?_
  repeat (go_big_quiet_step ((go_at_call 32; go_must (exact bel_lays (hcall _)))))
  refine wpQuiet_nil ?_
  intro wn hwn
  have hbn := bel_out hwn
  clear hwn k0 k1
  go_wp2_with (go_at_call 50; go_must (refine (step_r (HA.out.below hbn) y E q HQ.out).mono ?_); rintro e w2 ⟨rfl, h2, b2⟩; have H2 : Hid (Stp w w2 g s p b E q) := ⟨h2, (Turn.of_below hbn).same b2⟩; clear h2 b2)
  go_ret
  exact ⟨rfl, H2.out⟩

/-- The data of type t at p: its length, its bytes. -/
def DatR (s : ByteArray) (p : Nat) (t : Int) (D : ByteArray) (b b' : Bool) (p' : Nat) : Prop :=
  p' ≤ s.size ∧ ((b' = b ∧ p + 2 + (val s p 2).toNat ≤ s.size ∧ dataOf s.data.toList (p + 2) (val s p 2).toNat t = some D.data.toList ∧ p' = p + 2 + (val s p 2).toNat) ∨
  (b' = true ∧ (s.size < p + 2 + (val s p 2).toNat ∨ dataOf s.data.toList (p + 2) (val s p 2).toNat t = none)))
/-- Behind a length, with its data, or without. -/
theorem data_plain {s : ByteArray} {p q : Nat} {x E F t : Int} {D : ByteArray} {b : Bool} {p1 n : Nat} (hp : p ≤ s.size) (hn : NumR s p 2 x E q) (hp1 : p1 = if E = 0 then q else p) (hx : n = x.toNat)
    (hd : (F = 0 ∧ p1 + n ≤ s.size ∧ dataOf s.data.toList p1 n t = some D.data.toList) ∨ (F ≠ 0 ∧ (s.size < p1 + n ∨ dataOf s.data.toList p1 n t = none))) :
    DatR s p t D b ((b || !(E == 0)) || !(F == 0)) (if F = 0 then p1 + n else p1) := by
  obtain ⟨h0, h⟩ := hn
  rcases h with ⟨rfl, h1, rfl, rfl⟩ | ⟨hE, h1, rfl⟩
  · rw [if_pos rfl] at hp1
    subst hp1 hx
    rcases hd with ⟨rfl, h2, h3⟩ | ⟨hF, h2⟩
    · exact ⟨by rw [if_pos rfl]; exact h2, .inl ⟨by simp, h2, h3, by rw [if_pos rfl]⟩⟩
    · refine ⟨by rw [if_neg hF]; exact h1, .inr ⟨by simp [hF], h2⟩⟩
  · rw [if_neg hE] at hp1
    subst hp1
    refine ⟨?_, .inr ⟨by simp [hE], .inl (by omega)⟩⟩
    have h00 : (0 : Int).toNat = 0 := rfl
    split <;> omega

set_option maxRecDepth 20000 in
theorem data_r {w : World} {g : Nat} {s : ByteArray} {p : Nat} {b : Bool} (t : Int) (hs : s.size ≤ 4096) (h : RD w g s p b) :
    ∃ (D : ByteArray) (b' : Bool) (p' : Nat), DatR s p t D b b' p' ∧
    Calls Try.prog 33 #[.pointer (some ⟨g, 0, none⟩), .int .i64 t] w fun e w' => e = .returned (.string D) ∧ RD w' g s p' b' ∧ TG g w w' := by
  obtain ⟨x, E, q, hn, hnum⟩ := num16_r hs h
  obtain ⟨p1, hp1⟩ : ∃ p1, p1 = if E = 0 then q else p := ⟨_, rfl⟩
  obtain ⟨n, hx⟩ : ∃ n, n = x.toNat := ⟨_, rfl⟩
  have hxn : x = (n : Int) ∧ n < 65536 := by
    have := val_lt s p 2
    rcases hn.2 with ⟨_, _, e, _⟩ | ⟨_, _, e⟩ <;> omega
  obtain ⟨D, F, hdat, hd⟩ := dt_form s p1 n t hs
  have hpl := data_plain (b := b) h.2 hn hp1 hx hd
  obtain ⟨p', hp'⟩ : ∃ p', p' = if F = 0 then p1 + n else p1 := ⟨_, rfl⟩
  obtain ⟨b', hb'⟩ : ∃ b', b' = ((b || !(E == 0)) || !(F == 0)) := ⟨_, rfl⟩
  rw [← hp', ← hb'] at hpl
  refine ⟨D, b', p', hpl, ?_⟩
  have HPL : Hid ((if F = 0 then p1 + n else p1) ≤ s.size) := by unfold Hid; rw [← hp']; exact hpl.1
  have hp1s : p1 ≤ s.size := by
    rw [hp1]
    split
    · rename_i e; exact hn.1 e
    · exact h.2
  obtain ⟨rfl, hn6⟩ := hxn
  unfold Stp at hnum
  rw [← hp1] at hnum
  obtain ⟨b1, hb1⟩ : ∃ b1, b1 = (b || !(E == 0)) := ⟨_, rfl⟩
  rw [← hb1] at hnum hb'
  have HB' : Hid (b' = (b1 || !(F == 0))) := hb'
  have HP' : Hid (p' = if F = 0 then p1 + n else p1) := hp'
  clear hn hp1 hx hd hpl h hb1 hb' hp'
  go_enter Try.func33, Try.ntmps33
  go_wp2_with (go_at_call 31; go_must (refine hnum.mono ?_); rintro e w1 ⟨rfl, h1, u1⟩; have H1 : Hid (RD w1 g s p1 b1 ∧ TG g w w1) := ⟨h1, u1⟩; have k0 : ∀ nb : Bel w1, nb.to.cell? ⟨g, 0, none⟩ = some (.string s) := (fun nb => (H1.out.1.below nb.h).cells.1); have k1 : ∀ nb : Bel w1, nb.to.cell? ⟨g, 1, none⟩ = some (.int .i64 (p1 : Int)) := (fun nb => (H1.out.1.below nb.h).cells.2.1); clear h1 u1)
  refine wp_region_bel (by kernel_rfl) (by kernel_rfl) ?_
  repeat (go_big_quiet_step ((go_at_call 51; go_must (exact bel_lays (hdat _)))))
  refine wpQuiet_nil ?_
  intro wn hwn
  have hbn := bel_out hwn
  clear hwn k0 k1
  obtain ⟨c0, c1, c2⟩ := (H1.out.1.below hbn).cells
  go_wp2_with (go_at_call 50; go_must (refine (step_r (H1.out.1.below hbn) _ F (p1 + n) (fun e => ⟨(by omega), (by have := HPL.out; rwa [if_pos e] at this)⟩)).mono ?_); rintro e w2 ⟨rfl, h2, b2⟩; have H2 : Hid (RD w2 g s p' b' ∧ TG g w w2) := ⟨(by rw [HP'.out, HB'.out]; exact h2), (H1.out.2.past hbn).same b2⟩; clear h2 b2)
  go_ret
  exact ⟨rfl, H2.out⟩

end Go.Proofs.Ytdogjbblnjjaaab
