/- What is waited for, in memory: the map of a Table. -/
import Derived.Test.YtbldoplemfjcjaaOuA
import Derived.Maps.OwnSet
import Derived.Maps.OwnOps
import Derived.Maps.RangeWalk
import Derived.DeepKeys4
import Derived.WideKeyEntry
namespace Go.Proofs.Ytbldoplemfjcjaa
open Go.RowKit
open Pl
namespace Ou

/-- A key, its row, and where the row lies. -/
structure Gr where
  k : Ke
  xs : List Tn
  v : Value
/-- How a row is read. -/
def rE : Value → Option (DataW Value × List MemPlace)
  | .slice x n c => some (.held (.slice x n c), [])
  | _ => none
theorem rE_inv {v : Value} {y : DataW Value × List MemPlace} (h : rE v = some y) : y = (.held v, []) := by
  unfold rE at h
  split at h
  · cases h; rfl
  · cases h

theorem laidOutE : laidOutB Try.prog = true := by kernel_rfl
theorem keyE : Go.Maps.Keyed Try.prog 67 := Go.Maps.Keyed.of_law (deep_law_laid laidOutE (m := 3) (by omega) (of_decide_eq_true (by kernel_rfl)) (by kernel_rfl) (by kernel_rfl))
def kyL (k : Ke) : Lit := .string (keyBytes [.int .i64 k.1, .int .i64 k.2.1, .string k.2.2.1.data.toList, .int .i64 k.2.2.2.1, .int .i64 k.2.2.2.2])
def kyC (k : Ke) : Array Value := #[.int .i64 k.1, .int .i64 k.2.1, .string k.2.2.1, .int .i64 k.2.2.2.1, .int .i64 k.2.2.2.2]
def kyV (k : Ke) : Value := .agg (kyC k)
theorem typesE : ∃ m, Try.prog.types.size = m + 2 := ⟨Try.prog.types.size - 2, by have : (2 : Nat) ≤ Try.prog.types.size := of_decide_eq_true (by kernel_rfl); omega⟩
theorem cellsE : Try.prog.cellsOf 67 = 5 := by kernel_rfl
theorem cellsQ : Try.prog.cellsOf 37 = 3 := by kernel_rfl
theorem cellsE9 : Try.prog.cellsOf 9 = 1 := by kernel_rfl
theorem cellsE3 : Try.prog.cellsOf 3 = 1 := by kernel_rfl
theorem keyOf_e {k : Ke} (h : OkK k) : keyOf Try.prog 67 (kyV k) = some (kyL k) := by
  obtain ⟨m, hm⟩ := typesE
  have hk : Try.prog.keyType 67 = true := by kernel_rfl
  have ha := h.a; have hi := h.i; have hn := h.n; have ht := h.t; have hc := h.c
  unfold keyOf kyV
  rw [Try.underlying67]
  simp only [hk, Bool.true_and, Value.formed, Try.underlying67, cellsE]
  have h2 : ((kyC k).size == 5) = true := rfl
  rw [if_pos h2, hm]
  unfold kyC
  simp [Program.keyLits, Try.underlying67, Try.underlying37, Try.underlying9, Try.underlying3, cellsE, cellsQ, cellsE9, cellsE3, Value.cells, ha, hi, hn, ht, hc, kyL]
  rw [if_pos (by decide)]
  rfl
theorem ky_inj {k l : Ke} (hk : OkK k) (hl : OkK l) (h : kyL k = kyL l) : k = l := by
  have h1 := keyOf_e hk
  have h2 := keyOf_e hl
  rw [← h] at h2
  have := keyE.inj h1 h2
  unfold kyV kyC at this
  obtain ⟨a, i, n, t, c⟩ := k
  obtain ⟨a', i', n', t', c'⟩ := l
  simp at this
  simp [this]
theorem isKyL (k : Ke) : WideAt.IsKeyLit (kyL k) := by simp [WideAt.IsKeyLit, kyL]
theorem same_ky {k l : Ke} (hk : OkK k) (hl : OkK l) : (kyL k).sameKey (kyL l) = decide (k = l) := by
  by_cases e : k = l
  · subst e; simp [WideAt.sameKey_self (isKyL _)]
  · simp [e]
    exact Maps.sameKey_ne (fun e' => e (ky_inj hk hl e'))

def ents (L : List Gr) : List (Lit × DataW Value) := L.map fun g => (kyL g.k, .held g.v)
def MapOf (D : DataW Value) (L : List Gr) : Prop := ∃ es, D = .map es ∧ es.Perm (ents L)
/-- The rows of a table that holds T. -/
structure Good (L : List Gr) (T : List Tn) : Prop where
  ok : ∀ t ∈ T, OkA t.x
  dis : L.Pairwise (fun x y => x.k ≠ y.k)
  grp : ∀ g ∈ L, g.xs = T.filter (mt g.k) ∧ g.xs ≠ []
  cov : ∀ t ∈ T, ∃ g ∈ L, g.k = keyA t.x
theorem Good.nil : Good [] [] := ⟨by simp, List.Pairwise.nil, by simp, by simp⟩
theorem Good.some {L : List Gr} {T : List Tn} (h : Good L T) {g : Gr} (hg : g ∈ L) : ∃ t ∈ T, keyA t.x = g.k := by
  obtain ⟨h1, h2⟩ := h.grp g hg
  obtain ⟨t, ht⟩ := List.exists_mem_of_ne_nil _ h2
  rw [h1] at ht
  obtain ⟨h3, h4⟩ := List.mem_filter.1 ht
  exact ⟨t, h3, mt_iff.1 h4⟩
theorem Good.key {L : List Gr} {T : List Tn} (h : Good L T) {g : Gr} (hg : g ∈ L) : OkK g.k := by
  obtain ⟨t, ht, e⟩ := h.some hg
  rw [← e]
  exact (h.ok t ht).key
theorem Good.one {L : List Gr} {T : List Tn} (h : Good L T) {x y : Gr} (hx : x ∈ L) (hy : y ∈ L) (e : x.k = y.k) : x = y := by
  obtain ⟨i, hi, rfl⟩ := List.getElem_of_mem hx
  obtain ⟨j, hj, rfl⟩ := List.getElem_of_mem hy
  rcases Nat.lt_trichotomy i j with h1 | h1 | h1
  · exact absurd e (List.pairwise_iff_getElem.1 h.dis i j hi hj h1)
  · subst h1; rfl
  · exact absurd e.symm (List.pairwise_iff_getElem.1 h.dis j i hj hi h1)
theorem mapOf_nil : MapOf (.map []) [] := ⟨[], rfl, List.Perm.refl _⟩
theorem any_perm {α : Type} {f : α → Bool} {a b : List α} (h : a.Perm b) : a.any f = b.any f := by
  rw [Bool.eq_iff_iff, List.any_eq_true, List.any_eq_true]
  exact ⟨fun ⟨x, hx, hf⟩ => ⟨x, h.mem_iff.1 hx, hf⟩, fun ⟨x, hx, hf⟩ => ⟨x, h.mem_iff.2 hx, hf⟩⟩
theorem mapOf_size {D : DataW Value} {L : List Gr} (h : MapOf D L) : Maps.size D = L.length := by
  obtain ⟨es, rfl, hp⟩ := h
  rw [Maps.size_eq, hp.length_eq]; simp [ents]
theorem mapOf_has {D : DataW Value} {L : List Gr} {T : List Tn} (h : MapOf D L) (hg : Good L T) {k : Ke} (hk : OkK k) : Maps.has D (kyL k) = L.any (fun g => decide (g.k = k)) := by
  obtain ⟨es, rfl, hp⟩ := h
  rw [Maps.has_eq, any_perm hp]
  unfold ents
  rw [List.any_map]
  rw [Bool.eq_iff_iff, List.any_eq_true, List.any_eq_true]
  constructor
  · rintro ⟨g, hg', hs⟩; exact ⟨g, hg', by rw [← same_ky (hg.key hg') hk]; exact hs⟩
  · rintro ⟨g, hg', hs⟩; exact ⟨g, hg', by show (kyL g.k).sameKey (kyL k) = true; rw [same_ky (hg.key hg') hk]; exact hs⟩
theorem mapOf_at {D : DataW Value} {L : List Gr} {T : List Tn} (h : MapOf D L) (hg : Good L T) {g : Gr} (hm : g ∈ L) (z : DataW Value) : D.atKey (kyL g.k) z = .held g.v := by
  obtain ⟨es, rfl, hpm⟩ := h
  unfold DataW.atKey
  have hmem : ((kyL g.k, DataW.held g.v) : Lit × DataW Value) ∈ es := hpm.mem_iff.2 (List.mem_map.2 ⟨g, hm, rfl⟩)
  cases hf : es.find? (fun q => q.1.sameKey (kyL g.k)) with
  | none =>
    have := List.find?_eq_none.1 hf _ hmem
    simp [WideAt.sameKey_self (isKyL g.k)] at this
  | some q =>
    have h1 := List.find?_some hf
    have h2 := List.mem_of_find?_eq_some hf
    obtain ⟨q', hq', rfl⟩ := List.mem_map.1 (hpm.mem_iff.1 h2)
    have h3 : q'.k = g.k := by
      have : (kyL q'.k).sameKey (kyL g.k) = true := h1
      rw [same_ky (hg.key hq') (hg.key hm)] at this
      simpa using this
    obtain rfl := hg.one hq' hm h3
    simp only [hf]
theorem mapOf_del {D : DataW Value} {L : List Gr} {T : List Tn} (h : MapOf D L) (hg : Good L T) {k : Ke} (hk : OkK k) : MapOf (D.del (kyL k)) (L.filter fun g => !decide (g.k = k)) := by
  obtain ⟨es, rfl, hp⟩ := h
  refine ⟨_, rfl, (hp.filter _).trans ?_⟩
  unfold ents
  rw [List.filter_map]
  refine List.Perm.of_eq (congrArg _ (List.filter_congr (fun g hm => ?_)))
  show (!(kyL g.k).sameKey (kyL k)) = _
  rw [same_ky (hg.key hm) hk]
theorem insert_perm (x : Lit × DataW Value) : ∀ l, (DataW.insert x l).Perm (x :: l) := by
  intro l
  induction l with
  | nil => exact List.Perm.refl _
  | cons y l ih =>
    unfold DataW.insert
    split
    · exact List.Perm.refl _
    · exact ((ih.cons y).trans (List.Perm.swap x y l))
/-- A row is laid at a key, in place of what was there. -/
def setL (L : List Gr) (k : Ke) (xs : List Tn) (v : Value) : List Gr := (L.filter fun g => !decide (g.k = k)) ++ [⟨k, xs, v⟩]
def delL (L : List Gr) (k : Ke) : List Gr := L.filter fun g => !decide (g.k = k)
theorem mapOf_put {D : DataW Value} {L : List Gr} {T : List Tn} (h : MapOf D L) (hg : Good L T) {k : Ke} (hk : OkK k) (xs : List Tn) (v : Value) : MapOf (D.put (kyL k) (.held v)) (setL L k xs v) := by
  obtain ⟨es, rfl, hpm⟩ := h
  refine ⟨_, rfl, ?_⟩
  refine (insert_perm _ _).trans ?_
  unfold setL ents
  rw [List.map_append]
  refine List.Perm.trans (List.Perm.cons _ ?_) (List.perm_append_singleton _ _).symm
  refine (hpm.filter _).trans (List.Perm.of_eq ?_)
  unfold ents
  rw [List.filter_map]
  refine congrArg _ (List.filter_congr (fun g hm => ?_))
  show (!(kyL g.k).sameKey (kyL k)) = _
  rw [same_ky (hg.key hm) hk]

theorem Good.put {L : List Gr} {T T' : List Tn} (h : Good L T) {k : Ke} {xs : List Tn} (v : Value) (hok : ∀ t ∈ T', OkA t.x) (hx : xs = T'.filter (mt k)) (hne : xs ≠ []) (ho : ∀ l, l ≠ k → T'.filter (mt l) = T.filter (mt l)) : Good (setL L k xs v) T' := by
  unfold setL
  refine ⟨hok, ?_, ?_, ?_⟩
  · refine List.pairwise_append.2 ⟨h.dis.sublist List.filter_sublist, List.pairwise_singleton _ _, fun x hx y hy => ?_⟩
    simp at hy
    subst hy
    have := (List.mem_filter.1 hx).2
    simpa using this
  · intro g hg
    rcases List.mem_append.1 hg with hg | hg
    · obtain ⟨h1, h2⟩ := List.mem_filter.1 hg
      have h3 : g.k ≠ k := by simpa using h2
      rw [ho _ h3]
      exact h.grp g h1
    · simp at hg; subst hg; exact ⟨hx, hne⟩
  · intro t ht
    by_cases e : keyA t.x = k
    · exact ⟨_, List.mem_append_right _ (List.mem_singleton.2 rfl), e.symm⟩
    · have h1 : t ∈ T'.filter (mt (keyA t.x)) := List.mem_filter.2 ⟨ht, mt_iff.2 rfl⟩
      rw [ho _ e] at h1
      obtain ⟨g, hg, hk⟩ := h.cov t (List.mem_filter.1 h1).1
      exact ⟨g, List.mem_append_left _ (List.mem_filter.2 ⟨hg, by simp [hk, e]⟩), hk⟩
theorem Good.del {L : List Gr} {T T' : List Tn} (h : Good L T) {k : Ke} (hok : ∀ t ∈ T', OkA t.x) (hx : T'.filter (mt k) = []) (ho : ∀ l, l ≠ k → T'.filter (mt l) = T.filter (mt l)) : Good (delL L k) T' := by
  unfold delL
  refine ⟨hok, h.dis.sublist List.filter_sublist, ?_, ?_⟩
  · intro g hg
    obtain ⟨h1, h2⟩ := List.mem_filter.1 hg
    have h3 : g.k ≠ k := by simpa using h2
    rw [ho _ h3]
    exact h.grp g h1
  · intro t ht
    by_cases e : keyA t.x = k
    · have : t ∈ T'.filter (mt k) := List.mem_filter.2 ⟨ht, mt_iff.2 e⟩
      rw [hx] at this; simp at this
    · have h1 : t ∈ T'.filter (mt (keyA t.x)) := List.mem_filter.2 ⟨ht, mt_iff.2 rfl⟩
      rw [ho _ e] at h1
      obtain ⟨g, hg, hk⟩ := h.cov t (List.mem_filter.1 h1).1
      exact ⟨g, List.mem_filter.2 ⟨hg, by simp [hk, e]⟩, hk⟩

/-- A map's rows lie in memory, each in a block of its own. -/
structure Hold (w : World) (b : Nat) (L : List Gr) (T : List Tn) : Prop where
  map : ∃ n D, w.ownsMap Try.prog 67 rE b n D ∧ MapOf D L
  good : Good L T
  row : ∀ g ∈ L, w.ownsRow 0 73 9 g.v g.xs.length (tF g.xs)
  apart : L.Pairwise (fun x y => x.v.ownBlock ≠ y.v.ownBlock)
theorem own_tight {w : World} {b n : Nat} {D : DataW Value} (h : w.ownsMap Try.prog 67 rE b n D) : w.ownsMap Try.prog 67 rE b (Maps.size D) D := by
  obtain ⟨es, clock, hb, F, _, rfl⟩ := h
  exact ⟨es, clock, hb, F, by simp [Maps.size, length_sorted], rfl⟩
theorem own_turn {S : Nat → Prop} {w w' : World} {b n : Nat} {D : DataW Value} (h : w.ownsMap Try.prog 67 rE b n D) (ht : Turn S w w') (hs : ¬ S b) : w'.ownsMap Try.prog 67 rE b n D := by
  have hlt := h.lt
  obtain ⟨es, clock, hb, F, hn, rfl⟩ := h
  exact ⟨es, clock, (ht.block b hlt hs).trans hb, F, hn, rfl⟩
/-- The blocks of a table. -/
def foot (gs b : Nat) (L : List Gr) (k : Nat) : Prop := k = gs ∨ k = b ∨ ∃ g ∈ L, g.v.ownBlock = some k
theorem Hold.turn {S : Nat → Prop} {w w' : World} {b : Nat} {L : List Gr} {T : List Tn} (h : Hold w b L T) (ht : Turn S w w') (hb : ¬ S b) (hL : ∀ g ∈ L, ∀ k, g.v.ownBlock = some k → ¬ S k) : Hold w' b L T := by
  obtain ⟨n, D, ho, hm⟩ := h.map
  exact ⟨⟨n, D, own_turn ho ht hb, hm⟩, h.good, fun g hg => ht.row (h.row g hg) (hL g hg), h.apart⟩
theorem Hold.own {w : World} {b : Nat} {L : List Gr} {T : List Tn} (h : Hold w b L T) : ∃ D, w.ownsMap Try.prog 67 rE b L.length D ∧ MapOf D L := by
  obtain ⟨n, D, ho, hm⟩ := h.map
  refine ⟨D, ?_, hm⟩
  have := own_tight ho
  rw [mapOf_size hm] at this
  exact this
/-- A Table in memory. -/
structure St (w : World) (gs most added b : Nat) (L : List Gr) (T : List Tn) : Prop where
  blk : Blk w gs #[.int .i64 most, .int .i64 added, .map (some b)] 61
  m1 : 1 ≤ most
  m2 : most ≤ 16
  len : T.length ≤ most
  hold : Hold w b L T
  rise : Rise T
  lt : ∀ t ∈ T, t.p < added
theorem St.turn {S : Nat → Prop} {w w' : World} {gs most added b : Nat} {L : List Gr} {T : List Tn} (h : St w gs most added b L T) (ht : Turn S w w') (hs : ∀ k, foot gs b L k → ¬ S k) : St w' gs most added b L T :=
  ⟨ht.blk h.blk (hs gs (.inl rfl)), h.m1, h.m2, h.len, h.hold.turn ht (hs b (.inr (.inl rfl))) (fun g hg k e => hs k (.inr (.inr ⟨g, hg, e⟩))), h.rise, h.lt⟩
theorem St.below {w w' : World} {gs most added b : Nat} {L : List Gr} {T : List Tn} (h : St w gs most added b L T) (hb : Below w.heap.size w w') : St w' gs most added b L T := h.turn (Turn.of_below (S := fun _ => False) hb) (fun _ _ => id)
theorem Hold.bmap {w : World} {b : Nat} {L : List Gr} {T : List Tn} (h : Hold w b L T) : ∃ es clock, w.heap[b]? = some (.map es clock) := by
  obtain ⟨n, D, ⟨es, clock, hb, _⟩, _⟩ := h.map
  exact ⟨es, clock, hb⟩
theorem Hold.blt {w : World} {b : Nat} {L : List Gr} {T : List Tn} (h : Hold w b L T) : b < w.heap.size := by
  obtain ⟨es, clock, hb⟩ := h.bmap
  exact (Array.getElem?_eq_some_iff.1 hb).1
theorem St.footlt {w : World} {gs most added b : Nat} {L : List Gr} {T : List Tn} (h : St w gs most added b L T) : ∀ k, foot gs b L k → k < w.heap.size := by
  rintro k (rfl | rfl | ⟨g, hg, e⟩)
  · exact h.blk.lt
  · exact h.hold.blt
  · exact ((h.hold.row g hg).lt k e).2

/-- What is told of a key. -/
def atL (L : List Gr) (k : Ke) : Option Gr := L.find? fun g => decide (g.k = k)
def vL (L : List Gr) (k : Ke) : Value := match atL L k with | some g => g.v | none => .slice none 0 0
theorem atL_some {L : List Gr} {k : Ke} {g : Gr} (h : atL L k = some g) : g ∈ L ∧ g.k = k := by
  unfold atL at h
  exact ⟨List.mem_of_find?_eq_some h, by simpa using List.find?_some h⟩
theorem atL_none {L : List Gr} {k : Ke} (h : atL L k = none) : ∀ g ∈ L, g.k ≠ k := by
  unfold atL at h
  intro g hg
  simpa using List.find?_eq_none.1 h g hg
/-- The row of a key, as it is told. -/
theorem Hold.rowAt {w : World} {b : Nat} {L : List Gr} {T : List Tn} (h : Hold w b L T) (k : Ke) : w.ownsRow 0 73 9 (vL L k) (T.filter (mt k)).length (tF (T.filter (mt k))) := by
  unfold vL
  cases ha : atL L k with
  | none =>
    have : T.filter (mt k) = [] := List.filter_eq_nil_iff.2 (fun t ht e => by
      obtain ⟨g, hg, hk⟩ := h.good.cov t ht
      exact atL_none ha g hg (hk.trans (mt_iff.1 e)))
    rw [this]
    exact World.ownsRow_nil _ _ _ _
  | some g =>
    obtain ⟨h1, rfl⟩ := atL_some ha
    have := h.row g h1
    rw [(h.good.grp g h1).1] at this
    exact this
theorem zeroE (w : World) : (zeroValue 70).run Try.prog w = .ok (.slice none 0 0) w := Try.zeroValue70 w
theorem slice_of {w : World} {base e z n : Nat} {v : Value} {xs : List Value} (h : w.ownsRow base e z v n xs) : rE v = some (.held v, []) := by
  obtain ⟨y, c, rfl⟩ := row_shape h
  rfl
theorem Hold.look {w : World} {b : Nat} {L : List Gr} {T : List Tn} (h : Hold w b L T) {k : Ke} (hk : OkK k) :
    (Instr.lookup 59 (.map (some b)) (kyV k) false).run Try.prog w = .ok (vL L k) w := by
  obtain ⟨n, D, ho, hm⟩ := h.map
  obtain ⟨v, ps, hrun, hv⟩ := ho.lookup keyE Try.underlying59 (zeroE w) (zd := .held (.slice none 0 0)) (zp := []) rfl (keyOf_e hk)
  rw [hrun]
  have := rE_inv hv
  simp only [Prod.mk.injEq] at this
  obtain ⟨hv, _⟩ := this
  unfold vL
  cases ha : atL L k with
  | none =>
    have hat := Maps.atKey_of_not_has (k := kyL k) (D := D) (by
      rw [mapOf_has hm h.good hk, List.any_eq_false]
      intro g hg
      simpa using atL_none ha g hg) (.held (.slice none 0 0))
    rw [hat] at hv
    cases hv
    rfl
  | some g =>
    obtain ⟨h1, rfl⟩ := atL_some ha
    rw [mapOf_at hm h.good h1] at hv
    cases hv
    rfl

/-- 'm[k] = v' of a key that stands there, in a range's round: who is left does not turn. -/
theorem ranges_put {H : Type} {P : Program} {k : TypeId} {R : Value → Option (DataW H × List MemPlace)} {w : World} {b r n cnt : Nat} {D : DataW H} {left : Lit → Bool} {t e : TypeId} (h : w.ranges P k R b r n D left cnt) (K : Maps.Keyed P k) (ht : P.underlying t = some (.map k e)) (hn : n < maxLen) {key val : Value} {kl : Lit} {d : DataW H} {ps : List MemPlace}
    (hkey : keyOf P k key = some kl) (hv : R val = some (d, ps)) (hthere : Maps.has D kl = true) :
    ∃ w', (Instr.mapUpdate t (.map (some b)) key val).run P w = .ok () w' ∧ w'.ranges P k R b r (n + 1) (D.put kl d) left cnt ∧ w.mapTurned w' b := by
  have hne := h.ne
  obtain ⟨es, clock, since, seen, c0, hb, F, hs, rfl, hr, hold, rfl, hl1, hl2, hsc, hsk⟩ := h
  obtain ⟨es', clock', hrun, F', hput, _, _, hwho⟩ := Maps.fit_store (R' := R) K ht hb F (Nat.lt_of_le_of_lt hs hn) (fun _ _ _ _ hz => hz) hkey hv
  rcases K.find w hkey es.toList F.keys with ⟨h1, h2⟩ | ⟨j, e0, h1, h2, h3⟩
  · exfalso
    rw [Maps.has_eq, List.any_eq_true] at hthere
    obtain ⟨q, hq, hs'⟩ := hthere
    obtain ⟨x, hx, rfl⟩ := List.mem_map.1 (mem_sorted.1 hq)
    obtain ⟨y, hy⟩ := F.reads x hx
    rw [WideElems.rg_of hy] at hs'
    have e1 : y.1 = kl := WideAt.sameKey_eq hs'
    have m1 := WideElems.rd_key hy
    rw [e1] at m1
    exact h2 x hx (K.inj m1 hkey)
  · have hj : es[j]? = some e0 := by simpa using h2
    have hrun2 : (Instr.mapUpdate t (.map (some b)) key val).run P w = .ok () (ChangeMaps.setBlock w b (.map (es.modify j (fun e' => { e' with key := key, val := val })) clock)) := by
      simp [Instr.mapUpdate, run_underlying ht, MapKept.run_getObj_map hb, K.check w false hkey, h1, hj, h3, K.stays w hkey, MapKept.run_setObj_map _ hb, Result.andThen, ChangeMaps.setBlock]
    have hw : ChangeMaps.setBlock w b (.map es' clock') = ChangeMaps.setBlock w b (.map (es.modify j (fun e' => { e' with key := key, val := val })) clock) := by
      have h9 := hrun.symm.trans hrun2
      simp only [Result.ok.injEq] at h9
      exact h9.2
    have hbb := ChangeMaps.heap_setBlock_same hb (.map es' clock')
    rw [hw, ChangeMaps.heap_setBlock_same hb] at hbb
    simp at hbb
    obtain ⟨rfl, rfl⟩ := hbb
    have hlist : (es.modify j (fun e' => { e' with key := key, val := val })).toList = es.toList.set j { e0 with key := key, val := val } := by rw [Array.toList_modify, ChangeMaps.modify_eq_set _ _ _ _ h2]
    have hjl : j < es.toList.length := (List.getElem?_eq_some_iff.1 h2).1
    have hm0 : e0 ∈ es.toList := List.mem_of_getElem? h2
    have who : ∀ x ∈ es.toList.set j { e0 with key := key, val := val }, x = { e0 with key := key, val := val } ∨ x ∈ es.toList := by
      intro x hx
      obtain ⟨i, hi, ex⟩ := List.getElem_of_mem hx
      rw [List.getElem_set] at ex
      split at ex
      · exact .inl ex.symm
      · exact .inr (ex ▸ List.getElem_mem _)
    have rgn : (WideElems.rg P k R { e0 with key := key, val := val }).1 = (WideElems.rg P k R e0).1 := by
      obtain ⟨y, hy⟩ := F.reads e0 hm0
      have m1 := WideElems.rd_key hy
      rw [h3, hkey] at m1
      rw [WideElems.rg_of hy, WideElems.rg_of (WideElems.rd_mk hkey hv)]
      exact Option.some.inj m1
    refine ⟨_, hrun, ⟨_, clock, since, seen, c0, ChangeMaps.heap_setBlock_same hb _, F', by simp; omega, by rw [DataW.put_eq, hput], (ChangeMaps.heap_setBlock_other hb _ hne).trans hr, fun x hx => ?_, ?_, fun x hx => ?_, fun x0 hx0 => ?_, hsc, hsk⟩, ⟨es, clock, _, clock, hb, rfl⟩⟩
    · rw [hlist] at hx
      rcases who x hx with rfl | hx
      · exact hold e0 hm0
      · exact hold x hx
    · have e1 : ∀ a : Array MapEntry, (leftOf a seen).size = ((a.toList.map (·.born)).filter fun n => !seen.contains n).length := fun a => by
        unfold leftOf
        rw [← Array.length_toList, Array.toList_filter, List.filter_map, List.length_map]
        rfl
      rw [e1, e1, hlist, List.map_set]
      congr 2
      apply List.ext_getElem?
      intro i
      by_cases hi : i = j
      · subst hi
        rw [List.getElem?_set_self (by simpa using hjl), List.getElem?_map, h2]; rfl
      · rw [List.getElem?_set_ne (fun e => hi e.symm)]
    · rw [hlist] at hx
      rcases who x hx with rfl | hx
      · rw [rgn]; exact hl1 e0 hm0
      · exact hl1 x hx
    · obtain ⟨x, hx, rfl⟩ := hl2 x0 hx0
      obtain ⟨i, hi, rfl⟩ := List.getElem_of_mem hx
      rw [hlist]
      by_cases e : i = j
      · subst e
        have : es.toList[i] = e0 := by rw [List.getElem?_eq_getElem hi] at h2; exact Option.some.inj h2
        rw [this, ← rgn]
        exact ⟨_, List.mem_iff_getElem.2 ⟨i, by simpa using hi, by simp⟩, rfl⟩
      · exact ⟨_, List.mem_iff_getElem.2 ⟨i, by simpa using hi, by rw [List.getElem_set_ne (fun q => e q.symm)]⟩, rfl⟩
end Ou
end Go.Proofs.Ytbldoplemfjcjaa
