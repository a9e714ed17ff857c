/- Names that are compressed, as they are written: plain functions on bytes, with no word of the program. -/
import Derived.Test.YtpfbmemejajbjabCpA
namespace Go.Proofs.Ytpfbmemejajbjab.Pl

/-- Rests of names, each with its place. -/
abbrev Marks := List (List UInt8 × Nat)

/-- Where a rest stands first. -/
def plc : Marks → List UInt8 → Option Nat
  | [], _ => none
  | (m, q) :: t, r => if m = r then some q else plc t r

theorem plc_app (a b : Marks) (r : List UInt8) : plc (a ++ b) r = (plc a r).or (plc b r) := by
  induction a with
  | nil => simp [plc]
  | cons c t ih =>
    obtain ⟨m, q⟩ := c
    rw [List.cons_append, plc, plc, ih]
    by_cases h : m = r
    · rw [if_pos h, if_pos h]; rfl
    · rw [if_neg h, if_neg h]
theorem plc_mem {ms : Marks} {r : List UInt8} {q : Nat} (h : plc ms r = some q) : (r, q) ∈ ms := by
  induction ms with
  | nil => simp [plc] at h
  | cons c t ih =>
    obtain ⟨m, q'⟩ := c
    rw [plc] at h
    split at h
    · rename_i e; simp at h; subst e h; simp
    · exact List.mem_cons_of_mem _ (ih h)
theorem plc_none {ms : Marks} {r : List UInt8} (h : ∀ q, (r, q) ∉ ms) : plc ms r = none := by
  cases hp : plc ms r with
  | none => rfl
  | some q => exact absurd (plc_mem hp) (h q)
theorem plc_keep {ms t : Marks} {r : List UInt8} {q : Nat} (h : plc ms r = some q) : plc (ms ++ t) r = some q := by rw [plc_app, h]; rfl

/-- The bytes of a pointer. -/
def ptrB (q : Nat) : List UInt8 := [UInt8.ofNat (192 + q / 256), UInt8.ofNat (q % 256)]

/-- From p on: how many bytes of a name are written out, and what ends it. -/
def spl : Nat → Marks → List UInt8 → Nat → Nat × List UInt8
  | 0, _, _, p => (p, [0])
  | f + 1, ms, n, p => if (n.getD p 0).toNat = 0 then (p, [0]) else
    match plc ms (n.drop p) with
    | some q => (p, ptrB q)
    | none => spl f ms n (p + 1 + (n.getD p 0).toNat)
def splN (ms : Marks) (n : List UInt8) : Nat × List UInt8 := spl n.length ms n 0

/-- Where labels begin, from p on, ahead of e. -/
def sts : Nat → List UInt8 → Nat → Nat → List Nat
  | 0, _, _, _ => []
  | f + 1, n, p, e => if p < e then p :: sts f n (p + 1 + (n.getD p 0).toNat) e else []
/-- The rests of a name that is written at b. -/
def mkM (b : Nat) (n : List UInt8) (qs : List Nat) : Marks := qs.map fun q => (n.drop q, b + q)
def newM (b : Nat) (n : List UInt8) (e : Nat) : Marks := mkM b n (sts n.length n 0 e)

/-- A name is written: all bytes, all rests. -/
def outW (B : List UInt8) (ms : Marks) (n : List UInt8) : List UInt8 := B ++ (n.take (splN ms n).1 ++ (splN ms n).2)
def marW (B : List UInt8) (ms : Marks) (n : List UInt8) : Marks := ms ++ newM B.length n (splN ms n).1
/-- How many bytes a name takes. -/
def sizW (ms : Marks) (n : List UInt8) : Nat := (splN ms n).1 + (splN ms n).2.length

/-- From p on a name goes on. -/
def NAt (n : List UInt8) (p : Nat) : Prop := (nmS 0 (n.drop p)).isSome = true

theorem nat_start {n : List UInt8} (h : isName n = true) : NAt n 0 := (name_some h).2
theorem nat_lt {n : List UInt8} {p : Nat} (h : NAt n p) : p < n.length := by
  have := nmS_cut h
  rw [List.length_drop] at this
  omega
theorem nat_zero {n : List UInt8} {p : Nat} (h : NAt n p) (hp : p < n.length) (h0 : n[p].toNat = 0) : p + 1 = n.length := by
  unfold NAt at h
  rw [drop_at n p hp, nmS, if_pos h0] at h
  split at h
  · rename_i e; rw [List.length_drop] at e; omega
  · simp at h
theorem nat_step {n : List UInt8} {p : Nat} (h : NAt n p) (hp : p < n.length) (h0 : n[p].toNat ≠ 0) : n[p].toNat ≤ 63 ∧ p + 1 + n[p].toNat < n.length ∧ NAt n (p + 1 + n[p].toNat) := by
  unfold NAt at h
  rw [drop_at n p hp] at h
  obtain ⟨h1, h2, h3⟩ := nmS_label h h0
  rw [List.length_drop] at h2
  rw [List.drop_drop] at h3
  exact ⟨h1, by omega, h3⟩
theorem nat_root {n : List UInt8} {p : Nat} (h : NAt n p) (hp : p < n.length) (h0 : n[p].toNat = 0) : n.drop p = [0] := by
  have := nat_zero h hp h0
  rw [drop_at n p hp, List.drop_of_length_le (by omega), show n[p] = 0 from UInt8.toNat_inj.1 (by simpa using h0)]
theorem nat_not_root {n : List UInt8} {p : Nat} (hp : p < n.length) (h0 : n[p].toNat ≠ 0) : n.drop p ≠ [0] := by
  rw [drop_at n p hp]
  intro e
  have := (List.cons.inj e).1
  rw [this] at h0
  exact h0 rfl
theorem nat_name {n : List UInt8} {p : Nat} (h : NAt n p) (hn : n.length ≤ 255) : isName (n.drop p) = true := by
  unfold isName nm
  rw [if_neg (by rw [List.length_drop]; omega)]
  exact h

theorem spl_ge : ∀ (f : Nat) (ms : Marks) (n : List UInt8) (p : Nat), p ≤ (spl f ms n p).1 := by
  intro f
  induction f with
  | zero => intros; exact Nat.le_refl _
  | succ f ih =>
    intro ms n p
    rw [spl]
    split
    · exact Nat.le_refl _
    · split
      · exact Nat.le_refl _
      · have := ih ms n (p + 1 + (n.getD p 0).toNat); omega
theorem sts_end (f : Nat) (n : List UInt8) {p e : Nat} (h : e ≤ p) : sts f n p e = [] := by
  cases f with
  | zero => rfl
  | succ f => rw [sts, if_neg (by omega)]

/-- The writing of a name stands at p, will end as R says, and labels were written out that begin at 'done'. -/
def WAt (ms : Marks) (n : List UInt8) (p : Nat) (R : Nat × List UInt8) (done : List Nat) : Prop :=
  NAt n p ∧ ∃ f, n.length ≤ f + p ∧ spl f ms n p = R ∧ sts n.length n 0 R.1 = done ++ sts f n p R.1

theorem w_start {n : List UInt8} (h : isName n = true) (ms : Marks) : WAt ms n 0 (splN ms n) [] := ⟨nat_start h, n.length, by omega, rfl, rfl⟩
section
variable {ms : Marks} {n : List UInt8} {p : Nat} {R : Nat × List UInt8} {done : List Nat}
theorem WAt.open (h : WAt ms n p R done) : ∃ f, n.length ≤ f + 1 + p ∧ spl (f + 1) ms n p = R ∧ sts n.length n 0 R.1 = done ++ sts (f + 1) n p R.1 := by
  obtain ⟨h0, f, hf, h1, h2⟩ := h
  have := nat_lt h0
  match f, hf, h1, h2 with
  | 0, hf, _, _ => omega
  | f + 1, hf, h1, h2 => exact ⟨f, by omega, h1, h2⟩
theorem w_zero (h : WAt ms n p R done) (hp : p < n.length) (h0 : n[p].toNat = 0) : R = (p, [0]) ∧ sts n.length n 0 p = done := by
  obtain ⟨f, hf, h1, h2⟩ := h.open
  rw [spl, getD_get hp, if_pos h0] at h1
  subst h1
  rw [sts_end _ _ (Nat.le_refl _), List.append_nil] at h2
  exact ⟨rfl, h2⟩
theorem w_hit (h : WAt ms n p R done) (hp : p < n.length) (h0 : n[p].toNat ≠ 0) {q : Nat} (hq : plc ms (n.drop p) = some q) : R = (p, ptrB q) ∧ sts n.length n 0 p = done := by
  obtain ⟨f, hf, h1, h2⟩ := h.open
  rw [spl, getD_get hp, if_neg h0, hq] at h1
  simp only at h1
  subst h1
  rw [sts_end _ _ (Nat.le_refl _), List.append_nil] at h2
  exact ⟨rfl, h2⟩
theorem w_miss (h : WAt ms n p R done) (hp : p < n.length) (h0 : n[p].toNat ≠ 0) (hq : plc ms (n.drop p) = none) : WAt ms n (p + 1 + n[p].toNat) R (done ++ [p]) ∧ p < R.1 := by
  have hn := h.1
  obtain ⟨f, hf, h1, h2⟩ := h.open
  rw [spl, getD_get hp, if_neg h0, hq] at h1
  simp only at h1
  have hge := spl_ge f ms n (p + 1 + n[p].toNat)
  rw [h1] at hge
  rw [sts, if_pos (by omega), getD_get hp] at h2
  exact ⟨⟨(nat_step hn hp h0).2.2, f, by omega, h1, by rw [h2]; simp⟩, by omega⟩
end

/-- The labels' places ahead of e are gone through up to p. -/
def KAt (n : List UInt8) (e p : Nat) (done : List Nat) : Prop := ∃ f, n.length ≤ f + p ∧ sts n.length n 0 e = done ++ sts f n p e
theorem k_start (n : List UInt8) (e : Nat) : KAt n e 0 [] := ⟨n.length, by omega, rfl⟩
theorem k_step {n : List UInt8} {e p : Nat} {done : List Nat} (h : KAt n e p done) (hp : p < n.length) (he : p < e) : KAt n e (p + 1 + n[p].toNat) (done ++ [p]) := by
  obtain ⟨f, hf, h⟩ := h
  match f, hf, h with
  | 0, hf, _ => omega
  | f + 1, hf, h =>
    rw [sts, if_pos he, getD_get hp] at h
    exact ⟨f, by omega, by rw [h]; simp⟩
theorem k_end {n : List UInt8} {e p : Nat} {done : List Nat} (h : KAt n e p done) (he : e ≤ p) : sts n.length n 0 e = done := by
  obtain ⟨f, hf, h⟩ := h
  rw [sts_end _ _ he, List.append_nil] at h
  exact h

/-- What is known of the place at which the labels that are written out end. -/
theorem spl_facts : ∀ (f : Nat) (ms : Marks) (n : List UInt8) (p : Nat), n.length ≤ f + p → NAt n p →
    (spl f ms n p).1 + (spl f ms n p).2.length ≤ n.length ∧ NAt n (spl f ms n p).1 ∧ (∀ q ∈ sts f n p (spl f ms n p).1, plc ms (n.drop q) = none ∧ q < (spl f ms n p).1 ∧ p ≤ q ∧ NAt n q ∧ (n.getD q 0).toNat ≠ 0) ∧
    ((∃ h : (spl f ms n p).1 < n.length, n[(spl f ms n p).1].toNat = 0 ∧ (spl f ms n p).2 = [0]) ∨ ∃ q, plc ms (n.drop (spl f ms n p).1) = some q ∧ (spl f ms n p).2 = ptrB q) := by
  intro f
  induction f with
  | zero => intro ms n p hf hn; have := nat_lt hn; omega
  | succ f ih =>
    intro ms n p hf hn
    have hp := nat_lt hn
    rw [spl, getD_get hp]
    by_cases h0 : n[p].toNat = 0
    · rw [if_pos h0]
      have := nat_zero hn hp h0
      refine ⟨by simp; omega, hn, ?_, .inl ⟨hp, h0, rfl⟩⟩
      rw [sts_end _ _ (Nat.le_refl _)]
      simp
    · rw [if_neg h0]
      obtain ⟨h1, h2, h3⟩ := nat_step hn hp h0
      cases hq : plc ms (n.drop p) with
      | some q =>
        refine ⟨by simp [ptrB]; omega, hn, ?_, .inr ⟨q, hq, rfl⟩⟩
        rw [sts_end _ _ (Nat.le_refl _)]
        simp
      | none =>
        obtain ⟨a1, a2, a3, a4⟩ := ih ms n (p + 1 + n[p].toNat) (by omega) h3
        refine ⟨a1, a2, ?_, a4⟩
        have hge := spl_ge f ms n (p + 1 + n[p].toNat)
        intro q hq'
        rw [sts, if_pos (by simp only; omega), getD_get hp] at hq'
        rcases List.mem_cons.1 hq' with rfl | hq'
        · exact ⟨hq, by simp only; omega, Nat.le_refl _, hn, by rw [getD_get hp]; exact h0⟩
        · have := a3 q hq'
          exact ⟨this.1, this.2.1, by omega, this.2.2.2⟩

theorem splN_size {n : List UInt8} (h : isName n = true) (ms : Marks) : sizW ms n ≤ n.length := (spl_facts n.length ms n 0 (by omega) (nat_start h)).1
theorem splN_at {n : List UInt8} (h : isName n = true) (ms : Marks) : NAt n (splN ms n).1 := (spl_facts n.length ms n 0 (by omega) (nat_start h)).2.1
theorem splN_miss {n : List UInt8} (h : isName n = true) (ms : Marks) (q : Nat) (hq : q ∈ sts n.length n 0 (splN ms n).1) : plc ms (n.drop q) = none ∧ q < (splN ms n).1 ∧ NAt n q ∧ (n.getD q 0).toNat ≠ 0 := by
  have := (spl_facts n.length ms n 0 (by omega) (nat_start h)).2.2.1 q hq
  exact ⟨this.1, this.2.1, this.2.2.2⟩
theorem splN_end {n : List UInt8} (h : isName n = true) (ms : Marks) : (∃ h : (splN ms n).1 < n.length, n[(splN ms n).1].toNat = 0 ∧ (splN ms n).2 = [0]) ∨ ∃ q, plc ms (n.drop (splN ms n).1) = some q ∧ (splN ms n).2 = ptrB q := (spl_facts n.length ms n 0 (by omega) (nat_start h)).2.2.2

theorem drop_ne {n : List UInt8} {p q : Nat} (hp : p < n.length) (h : q < p) : n.drop q ≠ n.drop p := by
  intro e
  have := congrArg List.length e
  rw [List.length_drop, List.length_drop] at this
  omega
theorem mkM_snoc (b : Nat) (n : List UInt8) (qs : List Nat) (p : Nat) : mkM b n (qs ++ [p]) = mkM b n qs ++ [(n.drop p, b + p)] := by simp [mkM]
/-- One rest more, which is not among the ones ahead of it. -/
theorem plc_snoc (ms : Marks) (r x : List UInt8) (q : Nat) (h : plc ms r = none) : plc (ms ++ [(r, q)]) x = if x = r then some q else plc ms x := by
  rw [plc_app, plc, plc]
  by_cases e : x = r
  · subst e; rw [h]; simp
  · rw [if_neg (fun e' => e e'.symm), if_neg e]; simp
theorem plc_done {n : List UInt8} {b p : Nat} {qs : List Nat} (hp : p < n.length) (h : ∀ q ∈ qs, q < p) : plc (mkM b n qs) (n.drop p) = none := by
  apply plc_none
  intro q hq
  simp only [mkM, List.mem_map, Prod.mk.injEq] at hq
  obtain ⟨a, ha, e, _⟩ := hq
  exact drop_ne hp (h a ha) e

end Go.Proofs.Ytpfbmemejajbjab.Pl
