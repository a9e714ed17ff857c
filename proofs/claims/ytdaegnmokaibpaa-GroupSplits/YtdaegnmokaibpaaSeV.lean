/- GroupSplits, plainly: as many sets as unlike pairs of a name and a type, as many texts as unlike triples. -/
import Derived.Test.YtdaegnmokaibpaaSeL
namespace Go.Proofs.Ytdaegnmokaibpaa
open Go.RowKit
open Pl

/-- A pick: which name, which type, which text. -/
structure Pk where
  k : Nat
  t : Nat
  d : Nat
def InK (p : Pk) : Prop := p.k < 4 ∧ p.t < 2 ∧ p.d < 4
def nmK : Nat → ByteArray
  | 0 => ⟨#[1, 97, 0]⟩
  | 1 => ⟨#[1, 65, 0]⟩
  | 2 => ⟨#[1, 98, 0]⟩
  | _ => ⟨#[0]⟩
def mK : Nat → Nat
  | 0 => 0
  | 1 => 0
  | 2 => 1
  | _ => 2
def nmM : Nat → ByteArray
  | 0 => ⟨#[1, 97, 0]⟩
  | 1 => ⟨#[1, 98, 0]⟩
  | _ => ⟨#[0]⟩
def tyK : Nat → Int
  | 0 => 1
  | _ => 28
def daK : Nat → Nat → ByteArray
  | 0, d => ⟨#[0, 0, 0, d.toUInt8]⟩
  | _, d => ⟨#[0, 0, 0, 0, 0, 0, 0, 0, 0, 0, 0, 0, 0, 0, 0, d.toUInt8]⟩
def recK (p : Pk) : Rc := ⟨nmK p.k, tyK p.t, 1, 9, daK p.t p.d⟩
theorem lt4 {k : Nat} (h : k < 4) : k = 0 ∨ k = 1 ∨ k = 2 ∨ k = 3 := by omega
theorem lt2 {k : Nat} (h : k < 2) : k = 0 ∨ k = 1 := by omega
theorem lt3 {k : Nat} (h : k < 3) : k = 0 ∨ k = 1 ∨ k = 2 := by omega
theorem recK_ok {p : Pk} (h : InK p) : okR (recK p) = true := by
  obtain ⟨k, t, d⟩ := p
  obtain ⟨h1, h2, h3⟩ := h
  simp only at h1 h2 h3
  rcases lt4 h1 with rfl | rfl | rfl | rfl <;> rcases lt2 h2 with rfl | rfl <;> rcases lt4 h3 with rfl | rfl | rfl | rfl <;> kernel_rfl
theorem fold_nm {k : Nat} (h : k < 4) : foldB (nmK k) = nmM (mK k) := by
  rcases lt4 h with rfl | rfl | rfl | rfl <;> kernel_rfl
theorem mK_lt (k : Nat) : mK k < 3 := by unfold mK; split <;> decide
theorem nmM_inj {a b : Nat} (ha : a < 3) (hb : b < 3) (h : nmM a = nmM b) : a = b := by
  rcases lt3 ha with rfl | rfl | rfl <;> rcases lt3 hb with rfl | rfl | rfl <;> first | rfl | (exfalso; revert h; decide)
theorem tyK_inj {a b : Nat} (ha : a < 2) (hb : b < 2) (h : tyK a = tyK b) : a = b := by
  rcases lt2 ha with rfl | rfl <;> rcases lt2 hb with rfl | rfl <;> first | rfl | (exfalso; revert h; decide)
theorem daK_inj {t a b : Nat} (ht : t < 2) (ha : a < 4) (hb : b < 4) (h : daK t a = daK t b) : a = b := by
  rcases lt2 ht with rfl | rfl <;> rcases lt4 ha with rfl | rfl | rfl | rfl <;> rcases lt4 hb with rfl | rfl | rfl | rfl <;> first | rfl | (exfalso; revert h; decide)

/-- How many are true below n. -/
def cnt (f : Nat → Bool) : Nat → Nat
  | 0 => 0
  | n + 1 => cnt f n + (if f n = true then 1 else 0)
theorem cnt_filter (f : Nat → Bool) : ∀ n, ((List.range n).filter f).length = cnt f n := by
  intro n
  induction n with
  | zero => rfl
  | succ n ih =>
    rw [List.range_succ, List.filter_append, List.length_append, ih, cnt]
    by_cases h : f n = true
    · simp [h]
    · simp [h]
theorem cnt_le (f : Nat → Bool) : ∀ n, cnt f n ≤ n := by
  intro n
  induction n with
  | zero => exact Nat.le_refl _
  | succ n ih => unfold cnt; split <;> omega
theorem cnt_none {f : Nat → Bool} : ∀ {n : Nat}, (∀ i, i < n → f i = false) → cnt f n = 0 := by
  intro n
  induction n with
  | zero => intro _; rfl
  | succ n ih => intro h; rw [cnt, ih (fun i hi => h i (by omega)), h n (by omega)]; simp
theorem cnt24 (g : Nat → Bool) : cnt g 24 = ((List.range 6).map (fun i => cnt (fun d => g (i * 4 + d)) 4)).sum := by
  simp only [cnt, List.range, List.range.loop, List.map_cons, List.map_nil, List.sum_cons, List.sum_nil, Nat.zero_add, Nat.add_zero, Nat.add_assoc, Nat.reduceAdd, Nat.reduceMul]

/-- A list of unlike ones among others weighs at most as much. -/
theorem sum_sub {α : Type} (f : α → Nat) : ∀ {a b : List α}, a.Nodup → (∀ s ∈ a, s ∈ b) → (a.map f).sum ≤ (b.map f).sum := by
  intro a
  induction a with
  | nil => intro b _ _; simp
  | cons x a ih =>
    intro b hn hs
    obtain ⟨b1, b2, rfl⟩ := List.append_of_mem (hs x (by simp))
    have hn2 := List.nodup_cons.1 hn
    have := ih (b := b1 ++ b2) hn2.2 (fun s h => by
      have h1 := hs s (List.mem_cons_of_mem _ h)
      rw [List.mem_append, List.mem_cons] at h1
      rcases h1 with h1 | rfl | h1
      · exact List.mem_append_left _ h1
      · exact absurd h hn2.1
      · exact List.mem_append_right _ h1)
    simp only [List.map_append, List.map_cons, List.sum_append, List.sum_cons] at this ⊢
    omega
theorem sum_same {α : Type} (f : α → Nat) {a b : List α} (ha : a.Nodup) (hb : b.Nodup) (h : ∀ s, s ∈ a ↔ s ∈ b) : (a.map f).sum = (b.map f).sum := by
  have h1 := sum_sub f ha (fun s hs => (h s).1 hs)
  have h2 := sum_sub f hb (fun s hs => (h s).2 hs)
  omega
theorem sum_one {α : Type} (a : List α) : (a.map (fun _ => 1)).sum = a.length := by
  induction a with
  | nil => rfl
  | cons x a ih => simp [ih]; omega
theorem len_same {α : Type} {a b : List α} (ha : a.Nodup) (hb : b.Nodup) (h : ∀ s, s ∈ a ↔ s ∈ b) : a.length = b.length := by
  rw [← sum_one a, ← sum_one b]; exact sum_same _ ha hb h
theorem rises_nodup {ds : List ByteArray} (h : Rises ds) : ds.Nodup := List.Pairwise.imp (fun {a b} hab e => by rw [e, ltB_irr] at hab; simp at hab) h

/-- Which pairs, which triples are there. -/
def thereF (ts : List Pk) (i : Nat) : Bool := ts.any (fun p => decide (mK p.k * 2 + p.t = i))
def seenF (ts : List Pk) (i : Nat) : Bool := ts.any (fun p => decide ((mK p.k * 2 + p.t) * 4 + p.d = i))
theorem thereF_snoc (ts : List Pk) (p : Pk) (i : Nat) : thereF (ts ++ [p]) i = (thereF ts i || decide (mK p.k * 2 + p.t = i)) := by unfold thereF; rw [List.any_append]; simp
theorem seenF_snoc (ts : List Pk) (p : Pk) (i : Nat) : seenF (ts ++ [p]) i = (seenF ts i || decide ((mK p.k * 2 + p.t) * 4 + p.d = i)) := by unfold seenF; rw [List.any_append]; simp

theorem sel_mem {ts : List Pk} (h : ∀ p ∈ ts, InK p) {m t : Nat} (hm : m < 3) (ht : t < 2) {r : Rc} : r ∈ selR (nmM m) (tyK t) (ts.map recK) ↔ ∃ p ∈ ts, recK p = r ∧ mK p.k = m ∧ p.t = t := by
  unfold selR
  rw [List.mem_filter, List.mem_map, decide_eq_true_eq]
  constructor
  · rintro ⟨⟨p, hp, rfl⟩, _, h2, h3⟩
    have hk := h p hp
    refine ⟨p, hp, rfl, ?_, tyK_inj hk.2.1 ht h3⟩
    have : foldB (nmK p.k) = nmM m := h2
    rw [fold_nm hk.1] at this
    exact nmM_inj (mK_lt _) hm this
  · rintro ⟨p, hp, rfl, h2, h3⟩
    have hk := h p hp
    refine ⟨⟨p, hp, rfl⟩, rfl, ?_, by show tyK p.t = tyK t; rw [h3]⟩
    show foldB (nmK p.k) = nmM m
    rw [fold_nm hk.1, h2]
theorem sel_some {ts : List Pk} (h : ∀ p ∈ ts, InK p) {i : Nat} (hi : i < 6) : selR (nmM (i / 2)) (tyK (i % 2)) (ts.map recK) ≠ [] ↔ thereF ts i = true := by
  unfold thereF
  rw [List.any_eq_true]
  constructor
  · intro hne
    obtain ⟨r, hr⟩ := List.exists_mem_of_ne_nil _ hne
    obtain ⟨p, hp, _, h2, h3⟩ := (sel_mem h (by omega) (by omega)).1 hr
    exact ⟨p, hp, by rw [decide_eq_true_eq]; omega⟩
  · rintro ⟨p, hp, he⟩
    rw [decide_eq_true_eq] at he
    have hk := h p hp
    have ht := hk.2.1
    exact List.ne_nil_of_mem ((sel_mem h (by omega) (by omega)).2 ⟨p, hp, rfl, by omega, by omega⟩)
theorem texts_len {ts : List Pk} (h : ∀ p ∈ ts, InK p) {i : Nat} (hi : i < 6) : (insAll [] (selR (nmM (i / 2)) (tyK (i % 2)) (ts.map recK))).length = cnt (fun d => seenF ts (i * 4 + d)) 4 := by
  rw [← cnt_filter, ← List.length_map (f := daK (i % 2))]
  refine len_same (rises_nodup (insAll_rises List.Pairwise.nil _)) ?_ ?_
  · have : ((List.range 4).filter (fun d => seenF ts (i * 4 + d))).Pairwise (fun a b => daK (i % 2) a ≠ daK (i % 2) b) := by
      refine List.Pairwise.filter _ ?_
      rcases lt2 (show i % 2 < 2 by omega) with e | e <;> rw [e] <;> decide
    exact List.Pairwise.map _ (fun a b hab => hab) this
  · intro x
    rw [insAll_mem, List.mem_map]
    constructor
    · rintro (hx | ⟨r, hr, rfl⟩)
      · simp at hx
      · obtain ⟨p, hp, rfl, h2, h3⟩ := (sel_mem h (by omega) (by omega)).1 hr
        have hk := h p hp
        refine ⟨p.d, ?_, by show daK (i % 2) p.d = daK p.t p.d; rw [h3]⟩
        rw [List.mem_filter, List.mem_range]
        refine ⟨hk.2.2, ?_⟩
        unfold seenF
        rw [List.any_eq_true]
        exact ⟨p, hp, by rw [decide_eq_true_eq]; omega⟩
    · rintro ⟨d, hd, rfl⟩
      rw [List.mem_filter, List.mem_range] at hd
      obtain ⟨hd4, hs⟩ := hd
      unfold seenF at hs
      rw [List.any_eq_true] at hs
      obtain ⟨p, hp, he⟩ := hs
      rw [decide_eq_true_eq] at he
      have hk := h p hp
      have h1 := hk.2.1
      have h2 := hk.2.2
      have e1 : p.d = d := by omega
      have e2 : mK p.k = i / 2 := by omega
      have e3 : p.t = i % 2 := by omega
      exact .inr ⟨recK p, (sel_mem h (by omega) (by omega)).2 ⟨p, hp, rfl, e2, e3⟩, by show daK p.t p.d = daK (i % 2) d; rw [e1, e3]⟩

/-- The sets of picks. -/
theorem split_mem {ts : List Pk} (h : ∀ p ∈ ts, InK p) (s : Sn) : s ∈ grpS (ts.map recK) ↔ s ∈ ((List.range 6).filter (thereF ts)).map (fun i => setOf (nmM (i / 2)) (tyK (i % 2)) (ts.map recK)) := by
  have hg := grp_inv (ts.map recK)
  rw [List.mem_map]
  constructor
  · intro hs
    have h1 := hg.each s hs
    obtain ⟨r, hr⟩ := List.exists_mem_of_ne_nil _ h1.2
    have hr2 := hr
    unfold selR at hr2
    rw [List.mem_filter, List.mem_map, decide_eq_true_eq] at hr2
    obtain ⟨⟨p, hp, rfl⟩, _, h3, h4⟩ := hr2
    have hk := h p hp
    have e1 : s.n = nmM (mK p.k) := by rw [← h3]; exact fold_nm hk.1
    have e2 : s.t = tyK p.t := h4.symm
    have hm := mK_lt p.k
    have ht := hk.2.1
    have d1 : (mK p.k * 2 + p.t) / 2 = mK p.k := by omega
    have d2 : (mK p.k * 2 + p.t) % 2 = p.t := by omega
    refine ⟨mK p.k * 2 + p.t, ?_, ?_⟩
    · rw [List.mem_filter, List.mem_range]
      refine ⟨by omega, ?_⟩
      unfold thereF
      rw [List.any_eq_true]
      exact ⟨p, hp, by simp⟩
    · rw [d1, d2, ← e1, ← e2]
      exact h1.1.symm
  · rintro ⟨i, hi, rfl⟩
    rw [List.mem_filter, List.mem_range] at hi
    have hne := (sel_some h hi.1).2 hi.2
    obtain ⟨s, hs, e1, e2⟩ := hg.all _ _ hne
    have h1 := (hg.each s hs).1
    rw [e1, e2] at h1
    rw [← h1]
    exact hs
theorem split_nodup (ts : List Pk) : (((List.range 6).filter (thereF ts)).map (fun i => setOf (nmM (i / 2)) (tyK (i % 2)) (ts.map recK))).Nodup := by
  have h0 : (List.range 6).Pairwise (fun a b => ¬ (nmM (a / 2) = nmM (b / 2) ∧ tyK (a % 2) = tyK (b % 2))) := by decide
  have h1 := List.Pairwise.filter (thereF ts) h0
  refine List.Pairwise.map _ (fun a b hab e => hab ?_) h1
  exact ⟨congrArg Sn.n e, congrArg Sn.t e⟩
theorem split_many {ts : List Pk} (h : ∀ p ∈ ts, InK p) : (grpS (ts.map recK)).length = cnt (thereF ts) 6 := by
  rw [len_same (unlike_nodup (grp_inv _).unl) (split_nodup ts) (split_mem h), List.length_map, cnt_filter]
theorem split_datas {ts : List Pk} (h : ∀ p ∈ ts, InK p) : ((grpS (ts.map recK)).map (fun s => s.ds.length)).sum = cnt (seenF ts) 24 := by
  rw [sum_same _ (unlike_nodup (grp_inv _).unl) (split_nodup ts) (split_mem h), cnt24, List.map_map]
  have e : ∀ l : List Nat, (∀ i ∈ l, i < 6) → ((l.filter (thereF ts)).map ((fun s : Sn => s.ds.length) ∘ fun i => setOf (nmM (i / 2)) (tyK (i % 2)) (ts.map recK))).sum = (l.map (fun i => cnt (fun d => seenF ts (i * 4 + d)) 4)).sum := by
    intro l
    induction l with
    | nil => intro _; rfl
    | cons i l ih =>
      intro hl
      have hi := hl i (by simp)
      have hr := ih (fun j hj => hl j (List.mem_cons_of_mem _ hj))
      have ht := texts_len h hi
      by_cases hf : thereF ts i = true
      · rw [List.filter_cons_of_pos hf, List.map_cons, List.sum_cons, hr, List.map_cons, List.sum_cons, ← ht]
        rfl
      · rw [List.filter_cons_of_neg hf, hr, List.map_cons, List.sum_cons, ← ht]
        have hz : selR (nmM (i / 2)) (tyK (i % 2)) (ts.map recK) = [] := by
          cases hx : selR (nmM (i / 2)) (tyK (i % 2)) (ts.map recK) with
          | nil => rfl
          | cons r l => exact absurd ((sel_some h hi).1 (by rw [hx]; simp)) hf
        rw [hz]
        simp [insAll]
  exact e _ (fun i hi => List.mem_range.1 hi)
theorem split_ttl {ts : List Pk} {s : Sn} (hs : s ∈ grpS (ts.map recK)) : s.l = 9 := by
  have h1 := (grp_inv (ts.map recK)).each s hs
  have e : s.l = minL 86400 (selR s.n s.t (ts.map recK)) := congrArg Sn.l h1.1
  have hall : ∀ r ∈ selR s.n s.t (ts.map recK), r.l = 9 := fun r hr => by
    unfold selR at hr
    rw [List.mem_filter, List.mem_map] at hr
    obtain ⟨⟨p, _, rfl⟩, _⟩ := hr
    rfl
  have hle : ¬ 9 < s.l := fun hlt => by
    have := (le_minL (selR s.n s.t (ts.map recK))).1 (show s.l ≤ minL 86400 _ from by rw [← e]; exact Int.le_refl _)
    obtain ⟨r, hr⟩ := List.exists_mem_of_ne_nil _ h1.2
    have h2 := this.2 r hr
    rw [hall r hr] at h2
    omega
  have hge : 9 ≤ s.l := by
    rw [e]
    exact (le_minL _).2 ⟨by decide, fun r hr => by rw [hall r hr]; exact Int.le_refl _⟩
  omega

end Go.Proofs.Ytdaegnmokaibpaa
