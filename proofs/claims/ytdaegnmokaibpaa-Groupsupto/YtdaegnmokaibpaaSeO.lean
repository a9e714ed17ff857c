/- What SameSets and SpoilSets give; one cell of a set is turned. -/
import Derived.Test.YtdaegnmokaibpaaSeN
namespace Go.Proofs.Ytdaegnmokaibpaa
open Go.RowKit
open Pl

theorem set_noop {xs : List Value} {i : Nat} {a : Value} (h : xs[i]? = some a) : xs.set i a = xs := by
  apply List.ext_getElem?
  intro j
  by_cases e : i = j
  · subst e; rw [List.getElem?_set_self (List.getElem?_eq_some_iff.1 h).1, h]
  · rw [List.getElem?_set_ne e]
theorem pC_setL (ps : List (Sn × Value)) (k : Nat) (hk : k < ps.length) (l : Int) : (pC ps).set (k * 4 + 2) (.int .i64 l) = pC (ps.set k (⟨ps[k].1.n, ps[k].1.t, l, ps[k].1.ds⟩, ps[k].2)) := by
  rw [← pC_set ps k _ hk]
  have h0 : (pC ps)[k * 4]? = some (.string ps[k].1.n) := pC_at hk 0 (by decide)
  have h1 : (pC ps)[k * 4 + 1]? = some (.int .i64 ps[k].1.t) := pC_at hk 1 (by decide)
  have h3 : (pC ps)[k * 4 + 3]? = some ps[k].2 := pC_at hk 3 (by decide)
  have h4 : ((pC ps).set (k * 4 + 2) (.int .i64 l))[k * 4 + 3]? = some ps[k].2 := by rw [List.getElem?_set_ne (by omega)]; exact h3
  simp only
  rw [set_noop h0, set_noop h1, set_noop h4]
theorem pC_setD (ps : List (Sn × Value)) (k : Nat) (hk : k < ps.length) (ds : List ByteArray) (v : Value) : (pC ps).set (k * 4 + 3) v = pC (ps.set k (⟨ps[k].1.n, ps[k].1.t, ps[k].1.l, ds⟩, v)) := by
  rw [← pC_set ps k _ hk]
  have h0 : (pC ps)[k * 4]? = some (.string ps[k].1.n) := pC_at hk 0 (by decide)
  have h1 : (pC ps)[k * 4 + 1]? = some (.int .i64 ps[k].1.t) := pC_at hk 1 (by decide)
  have h2 : (pC ps)[k * 4 + 2]? = some (.int .i64 ps[k].1.l) := pC_at hk 2 (by decide)
  simp only
  rw [set_noop h0, set_noop h1, set_noop h2]
/-- A set's Ttl is turned. -/
theorem GS.setL {B : Nat} {w : World} {g n cap k : Nat} {ps : List (Sn × Value)} (h : GS B w (.slice (some ⟨g, 0, none⟩) n cap) ps) (hk : k < ps.length) (l : Int) :
    GS B (w.setCell ⟨g, k * 4 + 2, none⟩ (.int .i64 l)) (.slice (some ⟨g, 0, none⟩) n cap) (ps.set k (⟨ps[k].1.n, ps[k].1.t, l, ps[k].1.ds⟩, ps[k].2)) := by
  have hown := h.own
  have hl := own_len hown
  subst hl
  have o2 := (hown.stored (k * 4 + 2) (.int .i64 l)).1
  rw [pC_setL ps k hk l] at o2
  have T := Turn.of_set (S := fun j => j = g) w (p := ⟨g, k * 4 + 2, none⟩) rfl (.int .i64 l)
  refine ⟨by rw [List.length_set]; exact o2, fun p hp => ?_, ?_⟩
  · obtain ⟨j, hj, rfl⟩ := List.getElem_of_mem hp
    rw [List.length_set] at hj
    rw [List.getElem_set]
    have hd := h.dat _ (List.getElem_mem hk)
    split
    · exact T.row hd (fun i hi e => by subst e; exact own_apart hd hown (by decide) hi rfl)
    · have hd2 := h.dat _ (List.getElem_mem hj)
      exact T.row hd2 (fun i hi e => by subst e; exact own_apart hd2 hown (by decide) hi rfl)
  · exact pair_set h.sep (fun j hj hjk i hi e => Pairwise_at h.sep hk hjk i hi e) (fun j hj hjk i hi e => Pairwise_at h.sep hj hjk i hi e)
/-- A set's texts are turned: they lie where they lay, or in a new block. -/
theorem GS.setD {B : Nat} {w w1 : World} {g n cap k : Nat} {ps : List (Sn × Value)} {ds : List ByteArray} {v2 : Value} (h : GS B w (.slice (some ⟨g, 0, none⟩) n cap) ps) (hk : k < ps.length) (hb : Below w.heap.size w w1) (ho : w1.ownsRow B 9 1 v2 ds.length (tC ds)) (hn : ∀ j, v2.ownBlock = some j → ps[k].2.ownBlock = some j ∨ w.heap.size ≤ j) :
    GS B (w1.setCell ⟨g, k * 4 + 3, none⟩ v2) (.slice (some ⟨g, 0, none⟩) n cap) (ps.set k (⟨ps[k].1.n, ps[k].1.t, ps[k].1.l, ds⟩, v2)) := by
  have h1 := h.below hb
  have hown := h1.own
  have hl := own_len hown
  subst hl
  have o2 := (hown.stored (k * 4 + 3) v2).1
  rw [pC_setD ps k hk ds v2] at o2
  have T := Turn.of_set (S := fun j => j = g) w1 (p := ⟨g, k * 4 + 3, none⟩) rfl v2
  refine ⟨by rw [List.length_set]; exact o2, fun p hp => ?_, ?_⟩
  · obtain ⟨j, hj, rfl⟩ := List.getElem_of_mem hp
    rw [List.length_set] at hj
    rw [List.getElem_set]
    split
    · exact T.row ho (fun i hi e => by subst e; exact own_apart ho hown (by decide) hi rfl)
    · have hd2 := h1.dat _ (List.getElem_mem hj)
      exact T.row hd2 (fun i hi e => by subst e; exact own_apart hd2 hown (by decide) hi rfl)
  · refine pair_set h.sep (fun j hj hjk i hi e => ?_) (fun j hj hjk i hi e => ?_)
    · rcases hn i e with h2 | h2
      · exact Pairwise_at h.sep hk hjk i hi h2
      · have := (h.dat _ (List.getElem_mem hj)).lt i hi; omega
    · rcases hn i hi with h2 | h2
      · exact Pairwise_at h.sep hj hjk i h2 e
      · have := (h.dat _ (List.getElem_mem hj)).lt i e; omega

set_option maxRecDepth 20000 in
set_option maxHeartbeats 1000000 in
theorem sameSets_yes {B B' : Nat} (y y' : Option Addr) (n c c' : Nat) (ps qs : List (Sn × Value)) (w : World) (h : GS B w (.slice y n c) ps) (h' : GS B' w (.slice y' n c') qs) (he : ps.map Prod.fst = qs.map Prod.fst) (hm : ∀ p ∈ ps, p.1.ds.length ≤ 1000) (hn : n ≤ 1000) :
    Calls Try.prog 15 #[.slice y n c, .slice y' n c'] w fun e w' => e = .returned (.bool true) ∧ Below w.heap.size w w' := by
  have HG : Hid (GS B w (.slice y n c) ps) := h
  have HG' : Hid (GS B' w (.slice y' n c') qs) := h'
  have HE : Hid (ps.map Prod.fst = qs.map Prod.fst) := he
  have HM : Hid (∀ p ∈ ps, p.1.ds.length ≤ 1000) := hm
  have HL : Hid (n = ps.length ∧ n = qs.length) := ⟨own_len h.own, own_len h'.own⟩
  have hb : Below w.heap.size w w := Below.refl _ _
  have hnn : ((n : Int) != (n : Int)) = false := by simp
  clear h h' he hm
  go_enter Try.func15, Try.ntmps15
  go_wp2
  go_loopw [5] (fun i wr => ∃ k : Nat, k ≤ n ∧ i = .int .i64 (k : Int) ∧ Below w.heap.size w wr) (fun i _ => n - (intOf i).toNat)
  case atStart => exact ⟨0, Nat.zero_le _, rfl, hb⟩
  case round =>
    clear hb
    obtain ⟨k, hk, rfl, hb⟩ := hrel
    by_cases hkn : k < n
    · have hkn' : (k : Int) < (n : Int) := by omega
      have hkp : k < ps.length := by have := HL.out.1; omega
      have hkq : k < qs.length := by have := HL.out.2; omega
      have hss : ps[k].1 = qs[k].1 := by
        have h1 := congrArg (fun l => l[k]?) HE.out
        simp only [List.getElem?_map, List.getElem?_eq_getElem hkp, List.getElem?_eq_getElem hkq, Option.map_some, Option.some.injEq] at h1
        exact h1
      obtain ⟨g, cap2, hv, _, _⟩ := HG.out.own.form (by omega)
      simp only [Value.slice.injEq] at hv
      obtain ⟨rfl, -, rfl⟩ := hv
      obtain ⟨g', cap3, hv, _, _⟩ := HG'.out.own.form (by omega)
      simp only [Value.slice.injEq] at hv
      obtain ⟨rfl, -, rfl⟩ := hv
      have C1 : Hid (∀ {u : World}, Below w.heap.size w u → u.cell? ⟨g, k * 4, none⟩ = some (.string ps[k].1.n) ∧ u.cell? ⟨g, k * 4 + 1, none⟩ = some (.int .i64 ps[k].1.t) ∧ u.cell? ⟨g, k * 4 + 2, none⟩ = some (.int .i64 ps[k].1.l) ∧ u.cell? ⟨g, k * 4 + 3, none⟩ = some ps[k].2) := fun h => (own_four (HG.out.below h).own hkp).1
      have C2 : Hid (∀ {u : World}, Below w.heap.size w u → u.cell? ⟨g', k * 4, none⟩ = some (.string ps[k].1.n) ∧ u.cell? ⟨g', k * 4 + 1, none⟩ = some (.int .i64 ps[k].1.t) ∧ u.cell? ⟨g', k * 4 + 2, none⟩ = some (.int .i64 ps[k].1.l) ∧ u.cell? ⟨g', k * 4 + 3, none⟩ = some qs[k].2) := fun h => by rw [hss]; exact (own_four (HG'.out.below h).own hkq).1
      have SM : Hid (∀ {u : World}, Below w.heap.size w u → Calls Try.prog 22 #[.agg #[.string ps[k].1.n, .int .i64 ps[k].1.t, .int .i64 ps[k].1.l, ps[k].2], .agg #[.string ps[k].1.n, .int .i64 ps[k].1.t, .int .i64 ps[k].1.l, qs[k].2]] u fun e w' => e = .returned (.bool true) ∧ Below u.heap.size u w') := fun {u} h => by
        have hl := HM.out _ (List.getElem_mem hkp)
        have r2 := (HG'.out.below h).row hkq
        rw [← hss] at r2
        exact sameS_any _ _ _ _ ps[k].1.ds _ _ _ _ ps[k].1.ds u ((HG.out.below h).row hkp) r2 (small100 (by omega)) (small100 (by omega)) true (by simp)
      have hsh1 := row_shape (HG.out.dat _ (List.getElem_mem hkp))
      have hsh2 := row_shape (HG'.out.dat _ (List.getElem_mem hkq))
      rw [← hss] at hsh2
      obtain ⟨s, hs⟩ : ∃ z, z = ps[k].1 := ⟨_, rfl⟩
      obtain ⟨v1, hv1⟩ : ∃ z, z = ps[k].2 := ⟨_, rfl⟩
      obtain ⟨v2, hv2⟩ : ∃ z, z = qs[k].2 := ⟨_, rfl⟩
      simp only [← hs, ← hv1, ← hv2] at C1 C2 SM hsh1 hsh2
      obtain ⟨y1, c1, e1⟩ := hsh1
      obtain ⟨y2, c2, e2⟩ := hsh2
      subst e1 e2
      obtain ⟨M, hM⟩ : ∃ z, z = s.ds.length := ⟨_, rfl⟩
      obtain ⟨sn, hsn⟩ : ∃ z, z = s.n := ⟨_, rfl⟩
      obtain ⟨st, hst⟩ : ∃ z, z = s.t := ⟨_, rfl⟩
      obtain ⟨sl, hsl⟩ : ∃ z, z = s.l := ⟨_, rfl⟩
      simp only [← hsn, ← hst, ← hsl, ← hM] at C1 C2 SM
      have a0 : ∀ nb : Bel wr, nb.to.cell? ⟨g, k * 4, none⟩ = some (.string sn) := fun nb => (C1.out (next hb nb.h)).1
      have a1 : ∀ nb : Bel wr, nb.to.cell? ⟨g, k * 4 + 1, none⟩ = some (.int .i64 st) := fun nb => (C1.out (next hb nb.h)).2.1
      have a2 : ∀ nb : Bel wr, nb.to.cell? ⟨g, k * 4 + 2, none⟩ = some (.int .i64 sl) := fun nb => (C1.out (next hb nb.h)).2.2.1
      have a3 : ∀ nb : Bel wr, nb.to.cell? ⟨g, k * 4 + 3, none⟩ = some (.slice y1 M c1) := fun nb => (C1.out (next hb nb.h)).2.2.2
      have b0 : ∀ nb : Bel wr, nb.to.cell? ⟨g', k * 4, none⟩ = some (.string sn) := fun nb => (C2.out (next hb nb.h)).1
      have b1 : ∀ nb : Bel wr, nb.to.cell? ⟨g', k * 4 + 1, none⟩ = some (.int .i64 st) := fun nb => (C2.out (next hb nb.h)).2.1
      have b2 : ∀ nb : Bel wr, nb.to.cell? ⟨g', k * 4 + 2, none⟩ = some (.int .i64 sl) := fun nb => (C2.out (next hb nb.h)).2.2.1
      have b3 : ∀ nb : Bel wr, nb.to.cell? ⟨g', k * 4 + 3, none⟩ = some (.slice y2 M c2) := fun nb => (C2.out (next hb nb.h)).2.2.2
      have S1 := fun nb : Bel wr => SM.out (next hb nb.h)
      clear hs hv1 hv2 hM hsn hst hsl hss C1 C2 SM
      go_wp2
      refine wp_region_bel (by kernel_rfl) (by kernel_rfl) (fun _ => ?_)
      repeat (go_big_quiet_step ((go_at_call 22; go_must (exact bel_lays (S1 _)))))
      refine wpQuiet_nil ?_
      intro wn hwn
      have hbn := bel_out hwn
      replace hb := next hb hbn
      clear hwn hbn a0 a1 a2 a3 b0 b1 b2 b3 S1
      go_wp2
      go_roundw
      case rel => exact ⟨k + 1, by omega, by go_num, hb⟩
      case measure => simp [intOf]; omega
    · have hkn' : decide (k < n) = false := by simpa using hkn
      go_wp2
      go_ret
      exact ⟨rfl, hb⟩

/-- How far SpoilSets is: those that are still to come lie as they lay. -/
structure SpS (B E : Nat) (w0 w : World) (g n cap j : Nat) (ps : List (Sn × Value)) (xs : List Value) : Prop where
  own : w.ownsRow B 25 4 (.slice (some ⟨g, 0, none⟩) n cap) n xs
  ty : Ints xs 4 1 n
  da : ∀ i (hi : i < ps.length), xs[i * 4 + 3]? = some ps[i].2
  dat : ∀ i (hi : i < ps.length), j ≤ i → w.ownsRow B 9 1 ps[i].2 ps[i].1.ds.length (tC ps[i].1.ds)
  sep : ps.Pairwise (fun p q => ∀ k, p.2.ownBlock = some k → q.2.ownBlock ≠ some k)
  len : ps.length = n
  turn : Turn (fun k => B ≤ k ∧ k < E) w0 w
  lt : w0.heap.size ≤ w.heap.size
theorem SpS.start {B E : Nat} {w : World} {g n cap : Nat} {ps : List (Sn × Value)} (h : GS B w (.slice (some ⟨g, 0, none⟩) n cap) ps) : SpS B E w w g n cap 0 ps (pC ps) := by
  have hl := own_len h.own
  subst hl
  exact ⟨h.own, fun i hi => ⟨ps[i].1.t, pC_at hi 1 (by decide)⟩, fun i hi => pC_at hi 3 (by decide), fun i hi _ => h.dat _ (List.getElem_mem hi), h.sep, rfl, Turn.refl _ _, Nat.le_refl _⟩
theorem SpS.texts {B E : Nat} {w0 w w1 : World} {g n cap j : Nat} {ps : List (Sn × Value)} {xs : List Value} (h : SpS B E w0 w g n cap j ps xs) (hj : j < ps.length) (ht : Turn (fun k => ps[j].2.ownBlock = some k) w w1) (hlt : ∀ k, ps[j].2.ownBlock = some k → k < E) : SpS B E w0 w1 g n cap (j + 1) ps xs := by
  have hd := h.dat j hj (Nat.le_refl _)
  refine ⟨ht.row h.own (fun k hk e => own_apart hd h.own (by decide) e hk), h.ty, h.da, fun i hi hij => ?_, h.sep, h.len, h.turn.same (ht.more (fun k hk => ⟨(hd.lt k hk).1, hlt k hk⟩)), Nat.le_trans h.lt ht.size⟩
  exact ht.row (h.dat i hi (by omega)) (fun k hk e => Pairwise_at h.sep hi (show j < i by omega) k e hk)
theorem SpS.type {B E : Nat} {w0 w : World} {g n cap j i : Nat} {ps : List (Sn × Value)} {xs : List Value} (h : SpS B E w0 w g n cap j ps xs) (x : Int) (hg : g < E) : SpS B E w0 (w.setCell ⟨g, i * 4 + 1, none⟩ (.int .i64 x)) g n cap j ps (xs.set (i * 4 + 1) (.int .i64 x)) := by
  have T := Turn.of_set (S := fun k => k = g) w (p := ⟨g, i * 4 + 1, none⟩) rfl (.int .i64 x)
  refine ⟨(h.own.stored _ _).1, h.ty.set _ _, fun i' hi' => ?_, fun i' hi' hij => ?_, h.sep, h.len, h.turn.same (T.more (fun k hk => by rw [hk]; exact ⟨(h.own.lt g rfl).1, hg⟩)), Nat.le_trans h.lt T.size⟩
  · rw [List.getElem?_set_ne (by omega)]; exact h.da i' hi'
  · have hd := h.dat i' hi' hij
    exact T.row hd (fun k hk e => by subst e; exact own_apart hd h.own (by decide) hk rfl)

set_option maxRecDepth 20000 in
set_option maxHeartbeats 1000000 in
theorem spoilS_any {B E n cap : Nat} {y : Option Addr} {ps : List (Sn × Value)} {w : World} (h : GS B w (.slice y n cap) ps) (hE1 : ∀ k, (Value.slice y n cap).ownBlock = some k → k < E) (hE2 : ∀ p ∈ ps, ∀ k, p.2.ownBlock = some k → k < E) (hn : n ≤ 1000) (hm : ∀ p ∈ ps, p.1.ds.length ≤ 1000 ∧ ∀ d ∈ p.1.ds, d.size ≤ 65535) :
    Calls Try.prog 20 #[.slice y n cap] w fun e w' => e = .returned (.tuple #[]) ∧ Turn (fun k => B ≤ k ∧ k < E) w w' := by
  by_cases h0 : n = 0
  · subst h0
    clear h hm hE1 hE2
    go_enter Try.func20, Try.ntmps20
    go_wp2
    go_loopw [2] (fun i wr => i = .int .i64 0 ∧ wr = w) (fun _ _ => 0)
    case atStart => exact ⟨rfl, rfl⟩
    case round =>
      obtain ⟨rfl, rfl⟩ := hrel
      go_wp2
      go_end0
      exact ⟨rfl, Turn.refl _ _⟩
  · obtain ⟨g, cap', e1, _, _⟩ := h.own.form (by have := own_len h.own; omega)
    have hl := own_len h.own
    simp only [Value.slice.injEq] at e1
    obtain ⟨rfl, -, rfl⟩ := e1
    have HS : Hid (SpS B E w w g n cap 0 ps (pC ps)) := SpS.start h
    have HG : Hid (g < E) := hE1 g rfl
    have HLT : Hid (∀ i (hi : i < ps.length), ∀ k, ps[i].2.ownBlock = some k → k < E) := fun i hi k hk => hE2 _ (List.getElem_mem hi) k hk
    have HM : Hid (∀ p ∈ ps, p.1.ds.length ≤ 1000 ∧ ∀ d ∈ p.1.ds, d.size ≤ 65535) := hm
    have HL : Hid (n = ps.length) := hl
    clear h hm hl hE1 hE2
    go_enter Try.func20, Try.ntmps20
    go_wp2
    go_loopw [2] (fun i wr => ∃ (j : Nat) (xs : List Value), j ≤ n ∧ i = .int .i64 (j : Int) ∧ Hid (SpS B E w wr g n cap j ps xs)) (fun i _ => n - (intOf i).toNat)
    case atStart => exact ⟨0, _, Nat.zero_le _, rfl, HS⟩
    case round =>
      clear HS
      obtain ⟨j, xs, hj, rfl, HS⟩ := hrel
      by_cases hjn : j < n
      · have hjn' : (j : Int) < (n : Int) := by omega
        have hjp : j < ps.length := by have := HL.out; omega
        have c3 : wr.cell? ⟨g, j * 4 + 3, none⟩ = some ps[j].2 := by rw [HS.out.own.cellAt _ (by omega)]; exact HS.out.da j hjp
        have hd := HS.out.dat j hjp (Nat.le_refl _)
        obtain ⟨y1, c1, e1⟩ := row_shape hd
        have hmm := HM.out _ (List.getElem_mem hjp)
        have SP : Hid (Calls Try.prog 37 #[ps[j].2] wr fun e w' => e = .returned (.tuple #[]) ∧ Turn (fun k => ps[j].2.ownBlock = some k) wr w') := by
          rw [e1] at hd ⊢
          refine spoilT_any (m := 65535) hd (fun i hi => ?_) hmm.1 (by decide)
          exact ⟨ps[j].1.ds[i], tC_at hi, hmm.2 _ (List.getElem_mem hi)⟩
        have ST : Hid (∀ {u : World}, Turn (fun k => ps[j].2.ownBlock = some k) wr u → SpS B E w u g n cap (j + 1) ps xs ∧ (∃ t, u.cell? ⟨g, j * 4 + 1, none⟩ = some (.int .i64 t)) ∧ u.frozen? ⟨g, j * 4 + 1, none⟩ = false ∧ ∀ x : Int, SpS B E w (u.setCell ⟨g, j * 4 + 1, none⟩ (.int .i64 x)) g n cap (j + 1) ps (xs.set (j * 4 + 1) (.int .i64 x))) := fun {u} ht => by
          have h1 := HS.out.texts hjp ht (HLT.out j hjp)
          obtain ⟨t, h2⟩ := h1.ty j hjn
          exact ⟨h1, ⟨t, by rw [h1.own.cellAt _ (by omega)]; exact h2⟩, h1.own.frozenAt _, fun x => h1.type x HG.out⟩
        obtain ⟨sv, hsv⟩ : ∃ z, z = ps[j].2 := ⟨_, rfl⟩
        obtain ⟨M, hM⟩ : ∃ z, z = ps[j].1.ds.length := ⟨_, rfl⟩
        simp only [← hsv, ← hM] at c3 SP ST e1
        subst e1
        clear hd hmm hsv hM
        go_wp2_with (go_at_call 37; go_must (refine SP.out.mono ?_); rintro e w1 ⟨rfl, t1⟩; obtain ⟨h1, ⟨tt, h2⟩, h3, h4⟩ := ST.out t1; have HS2 : Hid (∀ x : Int, SpS B E w (w1.setCell ⟨g, j * 4 + 1, none⟩ (.int .i64 x)) g n cap (j + 1) ps (xs.set (j * 4 + 1) (.int .i64 x))) := h4; clear t1 h1 h4 c3)
        go_roundw
        case rel => exact ⟨j + 1, _, by omega, by go_num, HS2.out _⟩
        case measure => simp [intOf]; omega
      · have hjn' : decide (j < n) = false := by simpa using hjn
        go_wp2
        go_end0
        exact ⟨rfl, HS.out.turn⟩

end Go.Proofs.Ytdaegnmokaibpaa
