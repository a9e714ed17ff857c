/- How far Group is: the sets of the records so far, and the map of their places. -/
import Derived.Test.YtdaegnmokaibpaaSeE
namespace Go.Proofs.Ytdaegnmokaibpaa
open Go.RowKit
open Pl

theorem may_type {t : Int} {l : List UInt8} (h : mayD t l = true) : inB 65535 t = true := by
  unfold inB
  rw [decide_eq_true_eq]
  rcases kinds t with rfl | rfl | h1 | rfl | rfl | rfl | h1
  · omega
  · omega
  · omega
  · omega
  · omega
  · omega
  · rw [may_o h1] at h
    simp only [Bool.and_eq_true, decide_eq_true_eq] at h
    omega
theorem ok_parts {r : Rc} (h : okR r = true) : isName r.n.data.toList = true ∧ (0 ≤ r.l ∧ r.l ≤ 4294967295) ∧ mayD r.t r.d.data.toList = true := by
  unfold okR inB at h
  simp only [Bool.and_eq_true, decide_eq_true_eq] at h
  exact ⟨h.1.1, h.1.2, h.2⟩
theorem foldB_size {n : ByteArray} (h : isName n.data.toList = true) : (foldB n).size ≤ 255 := by
  have h1 := name_size h
  rw [← data_len] at h1
  show ((foldR n.data.toList).toArray).size ≤ 255
  rw [foldR_yes h]
  simp only [List.size_toArray, fold_len]
  exact h1
theorem ok_small {r : Rc} (h : okR r = true) : (foldB r.n).size ≤ 255 ∧ inB 65535 r.t = true ∧ r.d.size ≤ 65535 := by
  obtain ⟨h1, _, h3⟩ := ok_parts h
  refine ⟨foldB_size h1, may_type h3, ?_⟩
  rw [← data_len]
  by_cases e : 65535 < r.d.data.toList.length
  · rw [may_long r.t e] at h3; simp at h3
  · omega
/-- What each set has. -/
theorem putS_all {P Q : Sn → Prop} {r : Rc} (h1 : Q (updS (frS r) r)) (h2 : ∀ s, P s → Q (updS s r)) (h3 : ∀ s, P s → Q s) : ∀ {ss : List Sn}, (∀ s ∈ ss, P s) → ∀ s ∈ putS r ss, Q s := by
  intro ss
  induction ss with
  | nil => intro _ s hs; simp [putS] at hs; subst hs; exact h1
  | cons a ss ih =>
    intro h s hs
    unfold putS at hs
    split at hs
    · rcases List.mem_cons.1 hs with rfl | hs
      · exact h2 _ (h _ (by simp))
      · exact h3 _ (h _ (List.mem_cons_of_mem _ hs))
    · rcases List.mem_cons.1 hs with rfl | hs
      · exact h3 _ (h _ (by simp))
      · exact ih (fun s hs => h s (List.mem_cons_of_mem _ hs)) s hs
theorem putS_len (r : Rc) (ss : List Sn) : ss.length ≤ (putS r ss).length ∧ (putS r ss).length ≤ ss.length + 1 := by
  induction ss with
  | nil => simp [putS]
  | cons a ss ih => unfold putS; split <;> simp <;> omega
theorem grpS_good : ∀ rs : List Rc, (grpS rs).length ≤ rs.length ∧ ∀ s ∈ grpS rs, Rises s.ds ∧ s.ds.length ≤ rs.length := by
  intro rs
  induction hn : rs.length generalizing rs with
  | zero =>
    have : rs = [] := List.eq_nil_of_length_eq_zero hn
    subst this
    exact ⟨Nat.le_refl _, fun s hs => by simp [grpS] at hs⟩
  | succ n ih =>
    obtain ⟨r, rs', rfl⟩ : ∃ r rs', rs = rs' ++ [r] := ⟨rs.getLast (by intro e; subst e; simp at hn), rs.dropLast, (List.dropLast_concat_getLast _).symm⟩
    have hn' : rs'.length = n := by simpa using hn
    obtain ⟨h1, h2⟩ := ih rs' hn'
    rw [grpS_snoc]
    unfold stepS
    split
    · have h3 := putS_len r (grpS rs')
      refine ⟨by omega, putS_all (P := fun s => Rises s.ds ∧ s.ds.length ≤ n) (Q := fun s => Rises s.ds ∧ s.ds.length ≤ n + 1) ?_ ?_ ?_ h2⟩
      · exact ⟨insB_rises List.Pairwise.nil, by show (insB r.d []).length ≤ n + 1; simp [insB]⟩
      · intro s hs
        exact ⟨insB_rises hs.1, by show (insB r.d s.ds).length ≤ n + 1; have := (insB_len r.d s.ds).2.1; have := hs.2; omega⟩
      · intro s hs
        exact ⟨hs.1, by have := hs.2; omega⟩
    · exact ⟨by omega, fun s hs => ⟨(h2 s hs).1, by have := (h2 s hs).2; omega⟩⟩

theorem map_turn {S : Nat → Prop} {w w' : World} {b n : Nat} {D : DataW Unit} (h : w.ownsMap Try.prog 61 (plainElem Try.prog 3) b n D) (ht : Turn S w w') (hs : ¬ S b) : w'.ownsMap Try.prog 61 (plainElem Try.prog 3) b n D := by
  obtain ⟨es, clock, hb, rest⟩ := h
  have hlt := (Array.getElem?_eq_some_iff.1 hb).1
  exact ⟨es, clock, by rw [ht.block b hlt hs]; exact hb, rest⟩
theorem map_apart {w : World} {b n B e z m : Nat} {D : DataW Unit} {v : Value} {xs : List Value} (h : w.ownsMap Try.prog 61 (plainElem Try.prog 3) b n D) (ho : w.ownsRow B e z v m xs) : v.ownBlock ≠ some b := by
  intro e2
  obtain ⟨es, clock, hb, rest⟩ := h
  rcases ho.2 with ⟨h2, _⟩ | ⟨g', cap, cur, h2, _, hg, _⟩
  · rw [h2] at e2; simp [Value.ownBlock] at e2
  · rw [h2] at e2
    simp [Value.ownBlock] at e2
    subst e2
    rw [hb] at hg
    simp at hg

/-- How far Group is. -/
structure GAt (w0 w : World) (v : Value) (ps : List (Sn × Value)) (b : Nat) (D : DataW Unit) : Prop where
  gs : GS w0.heap.size w v ps
  map : w.ownsMap Try.prog 61 (plainElem Try.prog 3) b ps.length D
  mis : MapIs D (ps.map Prod.fst)
  lo : w0.heap.size ≤ b
  below : Below w0.heap.size w0 w
theorem GAt.past {w0 w w' : World} {v : Value} {ps : List (Sn × Value)} {b : Nat} {D : DataW Unit} (h : GAt w0 w v ps b D) (hb : Below w.heap.size w w') : GAt w0 w' v ps b D :=
  ⟨h.gs.below hb, map_turn (S := fun _ => False) h.map (Turn.of_below hb) id, h.mis, h.lo, next h.below hb⟩
/-- What the map tells. -/
theorem GAt.look {w0 w : World} {v : Value} {ps : List (Sn × Value)} {b : Nat} {D : DataW Unit} (h : GAt w0 w v ps b D) {r : Rc} (hr : okR r = true) :
    Maps.has D (keyR (foldB r.n) r.t) = decide (atS (foldB r.n) r.t (ps.map Prod.fst) < ps.length) ∧ (atS (foldB r.n) r.t (ps.map Prod.fst) < ps.length → D.atKey (keyR (foldB r.n) r.t) (.lit (.int .i64 0)) = .lit (.int .i64 (atS (foldB r.n) r.t (ps.map Prod.fst) : Nat))) := by
  obtain ⟨h1, h2, _⟩ := ok_small hr
  have := h.mis (foldB r.n) r.t h1 h2
  rw [List.length_map] at this
  exact this
/-- A set of none more. -/
theorem GAt.add {w0 w w1 w2 : World} {v v' : Value} {ps : List (Sn × Value)} {b : Nat} {D : DataW Unit} {o : Obj} (h : GAt w0 w v ps b D) {r : Rc} (hr : okR r = true) (hat : atS (foldB r.n) r.t (ps.map Prod.fst) = ps.length)
    (hm : w1.ownsMap Try.prog 61 (plainElem Try.prog 3) b (ps.length + 1) (D.put (keyR (foldB r.n) r.t) (.lit (.int .i64 (ps.length : Nat))))) (hg1 : w.grownBy w1 (some b))
    (ho : w2.ownsRow w0.heap.size 25 4 v' (ps.length + 1) (pC ps ++ pV (frS r, .slice none 0 0))) (hg2 : (w1.alloc o).grownBy w2 v.ownBlock) :
    GAt w0 w2 v' (ps ++ [(frS r, .slice none 0 0)]) b (D.put (keyR (foldB r.n) r.t) (.lit (.int .i64 (ps.length : Nat)))) := by
  obtain ⟨s1, s2, _⟩ := ok_small hr
  have t1 : Turn (fun k => k = b) w w1 := Turn.of_grown hg1 (fun k e => (Option.some.inj e).symm)
  have g1 : GS w0.heap.size w1 v ps := ⟨t1.row h.gs.own (fun k hk e => map_apart h.map h.gs.own (by rw [hk, e])), fun p hp => t1.row (h.gs.dat p hp) (fun k hk e => map_apart h.map (h.gs.dat p hp) (by rw [hk, e])), h.gs.sep⟩
  have b1 : Below w0.heap.size w0 w1 := Turn.below h.below t1 h.below.size (fun i e => by rw [e]; exact h.lo)
  have g2 := g1.below (lay (Below.refl _ _) o)
  have m2 : (w1.alloc o).ownsMap Try.prog 61 (plainElem Try.prog 3) b (ps.length + 1) (D.put (keyR (foldB r.n) r.t) (.lit (.int .i64 (ps.length : Nat)))) := hm.alloc o
  have t2 : Turn (fun k => v.ownBlock = some k) (w1.alloc o) w2 := Turn.of_grown hg2 (fun k e => e)
  refine ⟨g2.add (frS r) rfl ho hg2, ?_, ?_, h.lo, Turn.below (lay b1 o) t2 (lay b1 o).size (fun i e => (g2.own.lt i e).1)⟩
  · rw [List.length_append]
    exact map_turn m2 t2 (map_apart m2 g2.own)
  · rw [List.map_append]
    have hh := h.map.isMap
    have := mapIs_put (s := frS r) hh h.mis s1 s2 (by rw [List.length_map]; exact hat)
    rw [List.length_map] at this
    exact this
/-- One set is turned. -/
theorem GAt.put {w0 w w1 : World} {g n cap k b : Nat} {D : DataW Unit} {ps : List (Sn × Value)} {s : Sn} {v2 : Value} (h : GAt w0 w (.slice (some ⟨g, 0, none⟩) n cap) ps b D) (hk : k < ps.length) (ht : Turn (fun j => ps[k].2.ownBlock = some j) w w1)
    (ho : w1.ownsRow w0.heap.size 9 1 v2 s.ds.length (tC s.ds)) (hn : ∀ j, v2.ownBlock = some j → ps[k].2.ownBlock = some j ∨ w.heap.size ≤ j) (hs : s.n = ps[k].1.n ∧ s.t = ps[k].1.t) :
    GAt w0 (put4at w1 g k (.string s.n) (.int .i64 s.t) (.int .i64 s.l) v2) (.slice (some ⟨g, 0, none⟩) n cap) (ps.set k (s, v2)) b D := by
  have m1 := map_turn h.map ht (map_apart h.map (h.gs.dat _ (List.getElem_mem hk)))
  have b1 : Below w0.heap.size w0 w1 := Turn.below h.below ht h.below.size (fun i e => ((h.gs.dat _ (List.getElem_mem hk)).lt i e).1)
  have hg := h.gs.own.lt g rfl
  refine ⟨h.gs.put hk ht ho hn, ?_, ?_, h.lo, Turn.below b1 (put4at_turn _ _ _ _ _ _ _) b1.size (fun i e => by rw [e]; exact hg.1)⟩
  · rw [List.length_set]
    refine map_turn m1 (put4at_turn _ _ _ _ _ _ _) (fun e => ?_)
    subst e
    exact map_apart h.map h.gs.own rfl
  · rw [List.map_set]
    exact mapIs_set h.mis (by rw [List.length_map]; exact hk) s (by simpa using hs)
/-- The row of sets as another call left it, that turned one set's texts alone. -/
theorem GAt.still {w0 w w1 : World} {v : Value} {k b : Nat} {D : DataW Unit} {ps : List (Sn × Value)} (h : GAt w0 w v ps b D) (hk : k < ps.length) (ht : Turn (fun j => ps[k].2.ownBlock = some j) w w1) : w1.ownsRow w0.heap.size 25 4 v ps.length (pC ps) :=
  ht.row h.gs.own (fun j hj e => own_apart (h.gs.dat _ (List.getElem_mem hk)) h.gs.own (by decide) e hj)
theorem own_four {w : World} {B g n cap k : Nat} {ps : List (Sn × Value)} (h : w.ownsRow B 25 4 (.slice (some ⟨g, 0, none⟩) n cap) ps.length (pC ps)) (hk : k < ps.length) :
    (w.cell? ⟨g, k * 4, none⟩ = some (.string ps[k].1.n) ∧ w.cell? ⟨g, k * 4 + 1, none⟩ = some (.int .i64 ps[k].1.t) ∧ w.cell? ⟨g, k * 4 + 2, none⟩ = some (.int .i64 ps[k].1.l) ∧ w.cell? ⟨g, k * 4 + 3, none⟩ = some ps[k].2) ∧
    (w.frozen? ⟨g, k * 4, none⟩ = false ∧ w.frozen? ⟨g, k * 4 + 1, none⟩ = false ∧ w.frozen? ⟨g, k * 4 + 2, none⟩ = false ∧ w.frozen? ⟨g, k * 4 + 3, none⟩ = false) := by
  have hl := own_len h
  subst hl
  refine ⟨⟨?_, ?_, ?_, ?_⟩, h.frozenAt _, h.frozenAt _, h.frozenAt _, h.frozenAt _⟩
  · rw [h.cellAt _ (by omega)]; exact pC_at hk 0 (by decide)
  · rw [h.cellAt _ (by omega)]; exact pC_at hk 1 (by decide)
  · rw [h.cellAt _ (by omega)]; exact pC_at hk 2 (by decide)
  · rw [h.cellAt _ (by omega)]; exact pC_at hk 3 (by decide)

end Go.Proofs.Ytdaegnmokaibpaa
