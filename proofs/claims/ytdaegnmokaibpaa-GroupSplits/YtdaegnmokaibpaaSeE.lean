/- Sets in memory: a row of sets and each one's own texts; a map of names and types. -/
import Derived.Test.YtdaegnmokaibpaaSeD
import Derived.Maps.OwnSet
import Derived.Maps.OwnOps
import Derived.DeepKeys4
namespace Go.Proofs.Ytdaegnmokaibpaa
open Go.RowKit
open Pl

theorem laidOutS : laidOutB Try.prog = true := by kernel_rfl
theorem keyT : Go.Maps.Keyed Try.prog 61 := Go.Maps.Keyed.of_law (deep_law_laid laidOutS (m := 3) (by omega) (of_decide_eq_true (by kernel_rfl)) (by kernel_rfl) (by kernel_rfl))
theorem zero3 (w : World) : (zeroValue 3).run Try.prog w = .ok (.int .i64 0) w := Try.zeroValue3 w
/-- A name and a type as a key. -/
def keyR (n : ByteArray) (t : Int) : Lit := .string (keyBytes [.string n.data.toList, .int .i64 t])
theorem typesN : ∃ m, Try.prog.types.size = m + 1 := ⟨Try.prog.types.size - 1, by have : (1 : Nat) ≤ Try.prog.types.size := of_decide_eq_true (by kernel_rfl); omega⟩
theorem cellsK : Try.prog.cellsOf 61 = 2 := by kernel_rfl
theorem cells9' : Try.prog.cellsOf 9 = 1 := by kernel_rfl
theorem cells3' : Try.prog.cellsOf 3 = 1 := by kernel_rfl
theorem keyOf_r {n : ByteArray} {t : Int} (hn : n.size ≤ maxLen) (ht : (Lit.int .i64 t).wf = true) : keyOf Try.prog 61 (.agg #[.string n, .int .i64 t]) = some (keyR n t) := by
  obtain ⟨m, hm⟩ := typesN
  have hk : Try.prog.keyType 61 = true := by kernel_rfl
  unfold keyOf
  rw [Try.underlying61]
  simp only [hk, Bool.true_and, Value.formed, Try.underlying61, cellsK]
  have h2 : (#[Value.string n, Value.int .i64 t].size == 2) = true := rfl
  rw [if_pos h2, hm]
  simp [Program.keyLits, Try.underlying61, Try.underlying9, Try.underlying3, cellsK, cells9', cells3', Value.cells, hn, ht, keyR]
theorem wf_small {t : Int} (h : inB 65535 t = true) : (Lit.int .i64 t).wf = true := by
  unfold inB at h
  simp only [decide_eq_true_eq] at h
  exact WalkArith.wf_i64 (by omega)
theorem keyR_inj {n n' : ByteArray} {t t' : Int} (hn : n.size ≤ 255) (hn' : n'.size ≤ 255) (ht : inB 65535 t = true) (ht' : inB 65535 t' = true) (h : keyR n t = keyR n' t') : n = n' ∧ t = t' := by
  have h1 := keyOf_r (n := n) (t := t) (by unfold maxLen; omega) (wf_small ht)
  have h2 := keyOf_r (n := n') (t := t') (by unfold maxLen; omega) (wf_small ht')
  rw [← h] at h2
  have := keyT.inj h1 h2
  simp at this
  exact this

/-- What the map of places holds. -/
def MapIs (D : DataW Unit) (ss : List Sn) : Prop :=
  ∀ n t, n.size ≤ 255 → inB 65535 t = true → Maps.has D (keyR n t) = decide (atS n t ss < ss.length) ∧ (atS n t ss < ss.length → D.atKey (keyR n t) (.lit (.int .i64 0)) = .lit (.int .i64 (atS n t ss : Nat)))
theorem mapIs_nil : MapIs (.map []) [] := fun n t _ _ => ⟨rfl, fun h => by simp at h⟩
theorem isKeyR (n : ByteArray) (t : Int) : WideAt.IsKeyLit (keyR n t) := by simp [WideAt.IsKeyLit, keyR]
theorem mapIs_put {D : DataW Unit} {ss : List Sn} {s : Sn} (hD : Maps.IsMap D) (h : MapIs D ss) (hs : s.n.size ≤ 255) (ht : inB 65535 s.t = true) (hn : atS s.n s.t ss = ss.length) : MapIs (D.put (keyR s.n s.t) (.lit (.int .i64 (ss.length : Nat)))) (ss ++ [s]) := by
  intro n t hn1 ht1
  by_cases e : n = s.n ∧ t = s.t
  · obtain ⟨rfl, rfl⟩ := e
    have e2 : atS s.n s.t (ss ++ [s]) = ss.length := by rw [atS_snoc_new s hn, if_pos (by simp [hasK])]
    rw [Maps.has_put_same hD (isKeyR _ _), Maps.atKey_put_same hD (isKeyR _ _), e2]
    exact ⟨by simp, fun _ => rfl⟩
  · have hne : keyR n t ≠ keyR s.n s.t := fun h => e (keyR_inj hn1 hs ht1 ht h)
    rw [Maps.has_put_other hne, Maps.atKey_put_other hne]
    obtain ⟨h1, h2⟩ := h n t hn1 ht1
    by_cases hl : atS n t ss < ss.length
    · rw [atS_snoc_old s hl]
      exact ⟨by rw [h1]; simp; omega, fun _ => h2 hl⟩
    · have he : atS n t ss = ss.length := by have := atS_le n t ss; omega
      have hk : hasK n t s = false := by
        unfold hasK
        rw [decide_eq_false_iff_not]
        rintro ⟨rfl, rfl⟩
        exact e ⟨rfl, rfl⟩
      rw [atS_snoc_new s he, hk, if_neg (by simp)]
      exact ⟨by rw [h1]; simp; omega, fun h => by simp at h⟩
theorem mapIs_set {D : DataW Unit} {ss : List Sn} (h : MapIs D ss) {k : Nat} (hk : k < ss.length) (s : Sn) (hs : s.n = ss[k].n ∧ s.t = ss[k].t) : MapIs D (ss.set k s) := by
  intro n t hn ht
  rw [atS_set hk s hs, List.length_set]
  exact h n t hn ht

/-- Sets as cells, each with the slice of its texts. -/
def pV (p : Sn × Value) : List Value := [.string p.1.n, .int .i64 p.1.t, .int .i64 p.1.l, p.2]
def pC (ps : List (Sn × Value)) : List Value := ps.flatMap pV
theorem pC_len (ps : List (Sn × Value)) : (pC ps).length = ps.length * 4 := flat_len (f := pV) (z := 4) (fun _ => rfl) ps
theorem pC_app (a b : List (Sn × Value)) : pC (a ++ b) = pC a ++ pC b := by simp [pC]
theorem pC_at {xs : List (Sn × Value)} {k : Nat} (hk : k < xs.length) (i : Nat) (hi : i < 4) : (pC xs)[k * 4 + i]? = (pV xs[k])[i]? := flat_get (f := pV) (z := 4) (fun _ => rfl) xs k hk i hi
theorem pC_set (ps : List (Sn × Value)) (k : Nat) (q : Sn × Value) (_hk : k < ps.length) : ((((pC ps).set (k * 4) (.string q.1.n)).set (k * 4 + 1) (.int .i64 q.1.t)).set (k * 4 + 2) (.int .i64 q.1.l)).set (k * 4 + 3) q.2 = pC (ps.set k q) := by
  apply List.ext_getElem?
  intro j
  have hlen : (pC ps).length = ps.length * 4 := pC_len ps
  by_cases hj : j < ps.length * 4
  · have hd : j / 4 < ps.length := by omega
    have hd' : j / 4 < (ps.set k q).length := by rw [List.length_set]; exact hd
    have e : j / 4 * 4 + j % 4 = j := by omega
    have a1 := pC_at hd' (j % 4) (Nat.mod_lt _ (by decide))
    have a2 := pC_at hd (j % 4) (Nat.mod_lt _ (by decide))
    rw [e] at a1 a2
    rw [a1, List.getElem_set]
    by_cases h3 : j = k * 4 + 3
    · subst h3
      rw [List.getElem?_set_self (by simp only [List.length_set]; rw [hlen]; exact hj), if_pos (by omega), show (k * 4 + 3) % 4 = 3 from by omega]
      rfl
    · rw [List.getElem?_set_ne (fun e => h3 e.symm)]
      by_cases h2 : j = k * 4 + 2
      · subst h2
        rw [List.getElem?_set_self (by simp only [List.length_set]; rw [hlen]; exact hj), if_pos (by omega), show (k * 4 + 2) % 4 = 2 from by omega]
        rfl
      · rw [List.getElem?_set_ne (fun e => h2 e.symm)]
        by_cases h1 : j = k * 4 + 1
        · subst h1
          rw [List.getElem?_set_self (by simp only [List.length_set]; rw [hlen]; exact hj), if_pos (by omega), show (k * 4 + 1) % 4 = 1 from by omega]
          rfl
        · rw [List.getElem?_set_ne (fun e => h1 e.symm)]
          by_cases h0 : j = k * 4
          · subst h0
            rw [List.getElem?_set_self (by rw [hlen]; exact hj), if_pos (by omega), show (k * 4) % 4 = 0 from by omega]
            rfl
          · rw [List.getElem?_set_ne (fun e => h0 e.symm), a2, if_neg (by omega)]
  · rw [List.getElem?_eq_none (by simp only [List.length_set]; rw [hlen]; omega), List.getElem?_eq_none (by rw [pC_len, List.length_set]; omega)]
theorem infoS : (Try.prog.info? 25).map (fun i => (i.zero, i.size, i.bytes)) = some (some (.agg #[.string ⟨#[]⟩, .int .i64 0, .int .i64 0, .slice none 0 0]), 4, 56) := by kernel_rfl

/-- A row of sets that the call owns. -/
structure GS (B : Nat) (w : World) (v : Value) (ps : List (Sn × Value)) : Prop where
  own : w.ownsRow B 25 4 v ps.length (pC ps)
  dat : ∀ p ∈ ps, w.ownsRow B 9 1 p.2 p.1.ds.length (tC p.1.ds)
  sep : ps.Pairwise (fun p q => ∀ k, p.2.ownBlock = some k → q.2.ownBlock ≠ some k)
theorem GS.nil (B : Nat) (w : World) : GS B w (.slice none 0 0) [] := ⟨World.ownsRow_nil _ _ _ _, fun _ h => by simp at h, List.Pairwise.nil⟩
theorem GS.below {B : Nat} {w w' : World} {v : Value} {ps : List (Sn × Value)} (h : GS B w v ps) (hb : Below w.heap.size w w') : GS B w' v ps := ⟨own_past h.own hb, fun p hp => own_past (h.dat p hp) hb, h.sep⟩
theorem GS.turn {B : Nat} {S : Nat → Prop} {w w' : World} {v : Value} {ps : List (Sn × Value)} (h : GS B w v ps) (ht : Turn S w w') (hS : ∀ k, S k → w.heap.size ≤ k ∨ k < B) : GS B w' v ps :=
  ⟨ht.row h.own (fun k hk e => by have := h.own.lt k hk; rcases hS k e with h | h <;> omega), fun p hp => ht.row (h.dat p hp) (fun k hk e => by have := (h.dat p hp).lt k hk; rcases hS k e with h | h <;> omega), h.sep⟩
/-- A set of none is appended. -/
theorem GS.add {B : Nat} {w w' : World} {v v' : Value} {ps : List (Sn × Value)} (s : Sn) (hs : s.ds = []) (h : GS B w v ps) (ho : w'.ownsRow B 25 4 v' (ps.length + 1) (pC ps ++ pV (s, .slice none 0 0))) (hg : w.grownBy w' v.ownBlock) : GS B w' v' (ps ++ [(s, .slice none 0 0)]) := by
  refine ⟨?_, fun p hp => ?_, ?_⟩
  · rw [pC_app, List.length_append]
    have : pC [(s, Value.slice none 0 0)] = pV (s, .slice none 0 0) := by simp [pC]
    rw [this]
    exact ho
  · rcases List.mem_append.1 hp with hp | hp
    · refine (h.dat p hp).kept hg ?_
      cases hv : p.2.ownBlock with
      | none => exact .inl rfl
      | some k => exact .inr (fun e => own_apart (h.dat p hp) h.own (by decide) hv e.symm)
    · simp at hp
      subst hp
      simp only [hs]
      exact World.ownsRow_nil _ _ _ _
  · rw [List.pairwise_append]
    refine ⟨h.sep, List.pairwise_singleton _ _, fun p _ q hq k _ => ?_⟩
    simp at hq
    subst hq
    simp [Value.ownBlock]
theorem pair_set {α : Type} {R : α → α → Prop} : ∀ {l : List α} {k : Nat} {x : α}, l.Pairwise R → (∀ j (hj : j < l.length), j < k → R l[j] x) → (∀ j (hj : j < l.length), k < j → R x l[j]) → (l.set k x).Pairwise R := by
  intro l
  induction l with
  | nil => intro k x _ _ _; exact List.Pairwise.nil
  | cons a l ih =>
    intro k x h h1 h2
    have h3 := List.pairwise_cons.1 h
    cases k with
    | zero =>
      rw [List.set_cons_zero]
      refine List.pairwise_cons.2 ⟨fun y hy => ?_, h3.2⟩
      obtain ⟨j, hj, rfl⟩ := List.getElem_of_mem hy
      exact h2 (j + 1) (by simpa using hj) (by omega)
    | succ k =>
      rw [List.set_cons_succ]
      refine List.pairwise_cons.2 ⟨fun y hy => ?_, ih h3.2 (fun j hj hk => ?_) (fun j hj hk => ?_)⟩
      · obtain ⟨j, hj, rfl⟩ := List.getElem_of_mem hy
        rw [List.getElem_set]
        split
        · exact h1 0 (by simp) (by omega)
        · exact h3.1 _ (List.getElem_mem _)
      · exact h1 (j + 1) (by simpa using hj) (by omega)
      · exact h2 (j + 1) (by simpa using hj) (by omega)
/-- Four cells of a row are set. -/
def put4at (w : World) (g k : Nat) (a b c d : Value) : World := (((w.setCell ⟨g, k * 4, none⟩ a).setCell ⟨g, k * 4 + 1, none⟩ b).setCell ⟨g, k * 4 + 2, none⟩ c).setCell ⟨g, k * 4 + 3, none⟩ d
theorem put4at_turn (w : World) (g k : Nat) (a b c d : Value) : Turn (fun i => i = g) w (put4at w g k a b c d) := by
  have T : ∀ (u : World) (i : Nat) (v : Value), Turn (fun k => k = g) u (u.setCell ⟨g, i, none⟩ v) := fun u i v => Turn.of_set (S := fun k => k = g) u (p := ⟨g, i, none⟩) rfl v
  exact (((T _ _ _).same (T _ _ _)).same (T _ _ _)).same (T _ _ _)
theorem Pairwise_at {α : Type} {R : α → α → Prop} {l : List α} (h : l.Pairwise R) {i j : Nat} (hj : j < l.length) (hij : i < j) : R (l[i]'(by omega)) l[j] := by
  rw [List.pairwise_iff_getElem] at h
  exact h i j (by omega) hj hij
/-- One set is turned: its texts lie where they lay, or in a new block. -/
theorem GS.put {B : Nat} {w w1 : World} {g n cap k : Nat} {ps : List (Sn × Value)} {s : Sn} {v2 : Value} (h : GS B w (.slice (some ⟨g, 0, none⟩) n cap) ps) (hk : k < ps.length) (ht : Turn (fun j => ps[k].2.ownBlock = some j) w w1)
    (ho : w1.ownsRow B 9 1 v2 s.ds.length (tC s.ds)) (hn : ∀ j, v2.ownBlock = some j → ps[k].2.ownBlock = some j ∨ w.heap.size ≤ j) :
    GS B (put4at w1 g k (.string s.n) (.int .i64 s.t) (.int .i64 s.l) v2) (.slice (some ⟨g, 0, none⟩) n cap) (ps.set k (s, v2)) := by
  have hown := h.own
  have hl := own_len hown
  subst hl
  have hg := hown.lt g rfl
  have o1 : w1.ownsRow B 25 4 (.slice (some ⟨g, 0, none⟩) ps.length cap) ps.length (pC ps) := ht.row hown (fun j hj e => own_apart (h.dat _ (List.getElem_mem hk)) hown (by decide) e hj)
  have o2 := ((((o1.stored (k * 4) (.string s.n)).1.stored (k * 4 + 1) (.int .i64 s.t)).1.stored (k * 4 + 2) (.int .i64 s.l)).1.stored (k * 4 + 3) v2).1
  rw [pC_set ps k (s, v2) hk] at o2
  refine ⟨by rw [List.length_set]; exact o2, fun p hp => ?_, ?_⟩
  · obtain ⟨j, hj, rfl⟩ := List.getElem_of_mem hp
    rw [List.length_set] at hj
    rw [List.getElem_set]
    split
    · exact (put4at_turn _ _ _ _ _ _ _).row ho (fun i hi e => by subst e; exact own_apart ho o1 (by decide) hi rfl)
    · rename_i hne
      have hd := h.dat _ (List.getElem_mem hj)
      have hd1 := ht.row hd (fun i hi e => by
        rcases Nat.lt_or_gt_of_ne hne with hlt | hlt
        · exact Pairwise_at h.sep hj hlt i e hi
        · exact Pairwise_at h.sep hk hlt i hi e)
      exact (put4at_turn _ _ _ _ _ _ _).row hd1 (fun i hi e => by subst e; exact own_apart hd1 o1 (by decide) hi rfl)
  · refine pair_set h.sep (fun j hj hjk i hi e => ?_) (fun j hj hjk i hi e => ?_)
    · rcases hn i e with h1 | h1
      · exact Pairwise_at h.sep hk hjk i hi h1
      · have := (h.dat _ (List.getElem_mem hj)).lt i hi; omega
    · rcases hn i hi with h1 | h1
      · exact Pairwise_at h.sep hj hjk i h1 e
      · have := (h.dat _ (List.getElem_mem hj)).lt i e; omega

end Go.Proofs.Ytdaegnmokaibpaa
