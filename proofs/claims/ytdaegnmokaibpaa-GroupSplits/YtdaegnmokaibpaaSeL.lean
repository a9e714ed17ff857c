/- What the sets of records are, set by set: plainly. -/
import Derived.Test.YtdaegnmokaibpaaSeF
namespace Go.Proofs.Ytdaegnmokaibpaa
open Go.RowKit
open Pl

/-- The records of one name and type. -/
def selR (n : ByteArray) (t : Int) (rs : List Rc) : List Rc := rs.filter (fun r => decide (r.c = 1 ∧ foldB r.n = n ∧ r.t = t))
/-- The least Ttl. -/
def minL (l : Int) (rs : List Rc) : Int := rs.foldl (fun a r => min a r.l) l
/-- The texts, each once. -/
def insAll (ds : List ByteArray) (rs : List Rc) : List ByteArray := rs.foldl (fun ds r => insB r.d ds) ds
/-- The set of a name and a type. -/
def setOf (n : ByteArray) (t : Int) (rs : List Rc) : Sn := ⟨n, t, minL 86400 (selR n t rs), insAll [] (selR n t rs)⟩

theorem minL_snoc (l : Int) (rs : List Rc) (r : Rc) : minL l (rs ++ [r]) = min (minL l rs) r.l := by unfold minL; rw [List.foldl_append]; rfl
theorem insAll_snoc (ds : List ByteArray) (rs : List Rc) (r : Rc) : insAll ds (rs ++ [r]) = insB r.d (insAll ds rs) := by unfold insAll; rw [List.foldl_append]; rfl
theorem selR_snoc (n : ByteArray) (t : Int) (rs : List Rc) (r : Rc) : selR n t (rs ++ [r]) = if r.c = 1 ∧ foldB r.n = n ∧ r.t = t then selR n t rs ++ [r] else selR n t rs := by
  unfold selR
  rw [List.filter_append]
  by_cases h : r.c = 1 ∧ foldB r.n = n ∧ r.t = t
  · rw [if_pos h]; simp [h]
  · rw [if_neg h]; simp [h]
theorem snoc_ind {P : List Rc → Prop} (h0 : P []) (h1 : ∀ rs r, P rs → P (rs ++ [r])) : ∀ rs, P rs := by
  intro rs
  induction hn : rs.length generalizing rs with
  | zero =>
    have : rs = [] := List.eq_nil_of_length_eq_zero hn
    subst this
    exact h0
  | succ n ih =>
    obtain ⟨r, rs', rfl⟩ : ∃ r rs', rs = rs' ++ [r] := ⟨rs.getLast (by intro e; subst e; simp at hn), rs.dropLast, (List.dropLast_concat_getLast _).symm⟩
    exact h1 _ _ (ih rs' (by simpa using hn))
theorem le_minL {x l : Int} : ∀ rs : List Rc, x ≤ minL l rs ↔ x ≤ l ∧ ∀ r ∈ rs, x ≤ r.l := by
  refine snoc_ind ?_ ?_
  · simp [minL]
  · intro rs r ih
    rw [minL_snoc]
    constructor
    · intro h
      have h1 : x ≤ minL l rs := by omega
      have h2 := ih.1 h1
      refine ⟨h2.1, fun r' hr => ?_⟩
      rcases List.mem_append.1 hr with hr | hr
      · exact h2.2 r' hr
      · simp at hr; subst hr; omega
    · intro ⟨h1, h2⟩
      have h3 := ih.2 ⟨h1, fun r' hr => h2 r' (List.mem_append_left _ hr)⟩
      have h4 := h2 r (by simp)
      omega
theorem insAll_mem {x : ByteArray} {ds : List ByteArray} : ∀ rs : List Rc, x ∈ insAll ds rs ↔ x ∈ ds ∨ ∃ r ∈ rs, r.d = x := by
  refine snoc_ind ?_ ?_
  · simp [insAll]
  · intro rs r ih
    rw [insAll_snoc, insB_mem, ih]
    constructor
    · rintro (h | h | ⟨r', h1, h2⟩)
      · exact .inr ⟨r, by simp, h.symm⟩
      · exact .inl h
      · exact .inr ⟨r', List.mem_append_left _ h1, h2⟩
    · rintro (h | ⟨r', h1, h2⟩)
      · exact .inr (.inl h)
      · rcases List.mem_append.1 h1 with h1 | h1
        · exact .inr (.inr ⟨r', h1, h2⟩)
        · simp at h1; subst h1; exact .inl h2.symm
theorem insAll_rises {ds : List ByteArray} (h : Rises ds) : ∀ rs : List Rc, Rises (insAll ds rs) := by
  refine snoc_ind ?_ ?_
  · exact h
  · intro rs r ih
    rw [insAll_snoc]
    exact insB_rises ih
theorem minL_ext {l : Int} {a b : List Rc} (h : ∀ x, (∃ r ∈ a, r.l = x) ↔ ∃ r ∈ b, r.l = x) : minL l a = minL l b := by
  have h1 : minL l a ≤ minL l b := by
    have ha := (le_minL a).1 (Int.le_refl (minL l a))
    refine (le_minL b).2 ⟨ha.1, fun r hr => ?_⟩
    obtain ⟨r', h1, h2⟩ := (h r.l).2 ⟨r, hr, rfl⟩
    have := ha.2 r' h1
    omega
  have h2 : minL l b ≤ minL l a := by
    have ha := (le_minL b).1 (Int.le_refl (minL l b))
    refine (le_minL a).2 ⟨ha.1, fun r hr => ?_⟩
    obtain ⟨r', h1, h2⟩ := (h r.l).1 ⟨r, hr, rfl⟩
    have := ha.2 r' h1
    omega
  omega
theorem insAll_ext {a b : List Rc} (h : ∀ x, (∃ r ∈ a, r.d = x) ↔ ∃ r ∈ b, r.d = x) : insAll [] a = insAll [] b :=
  rises_ext (insAll_rises List.Pairwise.nil a) (insAll_rises List.Pairwise.nil b) (fun x => by rw [insAll_mem, insAll_mem, h x])
/-- The same records in another row, and more than once. -/
theorem setOf_ext {a b : List Rc} (h : ∀ r, r ∈ a ↔ r ∈ b) (n : ByteArray) (t : Int) : setOf n t a = setOf n t b := by
  have hs : ∀ r, r ∈ selR n t a ↔ r ∈ selR n t b := fun r => by unfold selR; rw [List.mem_filter, List.mem_filter, h r]
  unfold setOf
  rw [minL_ext (fun x => ⟨fun ⟨r, h1, h2⟩ => ⟨r, (hs r).1 h1, h2⟩, fun ⟨r, h1, h2⟩ => ⟨r, (hs r).2 h1, h2⟩⟩), insAll_ext (fun x => ⟨fun ⟨r, h1, h2⟩ => ⟨r, (hs r).1 h1, h2⟩, fun ⟨r, h1, h2⟩ => ⟨r, (hs r).2 h1, h2⟩⟩)]

/-- A set's records. -/
def rrsOf' (s : Sn) : List Rc := s.ds.map (fun d => ⟨s.n, s.t, 1, s.l, d⟩)
theorem rrsOf'_len (s : Sn) : (rrsOf' s).length = s.ds.length := by simp [rrsOf']
/-- Sets of unlike names or types. -/
def Unlike (ss : List Sn) : Prop := ss.Pairwise (fun s s' => ¬ (s.n = s'.n ∧ s.t = s'.t))
theorem has_iff {n : ByteArray} {t : Int} {s : Sn} : hasK n t s = true ↔ s.n = n ∧ s.t = t := by unfold hasK; rw [decide_eq_true_eq]
theorem putS_mem {r : Rc} : ∀ {ss : List Sn}, Unlike ss → ∀ s ∈ putS r ss, (s ∈ ss ∧ ¬ (s.n = foldB r.n ∧ s.t = r.t)) ∨ (∃ s0 ∈ ss, (s0.n = foldB r.n ∧ s0.t = r.t) ∧ s = updS s0 r) ∨ ((∀ s0 ∈ ss, ¬ (s0.n = foldB r.n ∧ s0.t = r.t)) ∧ s = updS (frS r) r) := by
  intro ss
  induction ss with
  | nil =>
    intro _ s hs
    simp [putS] at hs
    exact .inr (.inr ⟨fun s0 h => by simp at h, hs⟩)
  | cons a ss ih =>
    intro hu s hs
    have hu2 := List.pairwise_cons.1 hu
    unfold putS at hs
    by_cases ha : hasK (foldB r.n) r.t a = true
    · rw [if_pos ha] at hs
      have ha' := has_iff.1 ha
      rcases List.mem_cons.1 hs with rfl | hs
      · exact .inr (.inl ⟨a, by simp, ha', rfl⟩)
      · refine .inl ⟨List.mem_cons_of_mem _ hs, fun h => hu2.1 s hs ⟨by rw [ha'.1, h.1], by rw [ha'.2, h.2]⟩⟩
    · rw [if_neg ha] at hs
      have ha' : ¬ (a.n = foldB r.n ∧ a.t = r.t) := fun h => ha (has_iff.2 h)
      rcases List.mem_cons.1 hs with rfl | hs
      · exact .inl ⟨by simp, ha'⟩
      · rcases ih hu2.2 s hs with ⟨h1, h2⟩ | ⟨s0, h1, h2, h3⟩ | ⟨h1, h2⟩
        · exact .inl ⟨List.mem_cons_of_mem _ h1, h2⟩
        · exact .inr (.inl ⟨s0, List.mem_cons_of_mem _ h1, h2, h3⟩)
        · refine .inr (.inr ⟨fun s0 h => ?_, h2⟩)
          rcases List.mem_cons.1 h with rfl | h
          · exact ha'
          · exact h1 s0 h
theorem putS_keep {r : Rc} : ∀ {ss : List Sn} {s : Sn}, s ∈ ss → ∃ s' ∈ putS r ss, s'.n = s.n ∧ s'.t = s.t := by
  intro ss
  induction ss with
  | nil => intro s h; simp at h
  | cons a ss ih =>
    intro s h
    unfold putS
    split
    · rcases List.mem_cons.1 h with rfl | h
      · exact ⟨updS s r, by simp, rfl, rfl⟩
      · exact ⟨s, List.mem_cons_of_mem _ h, rfl, rfl⟩
    · rcases List.mem_cons.1 h with rfl | h
      · exact ⟨s, by simp, rfl, rfl⟩
      · obtain ⟨s', h1, h2⟩ := ih h
        exact ⟨s', List.mem_cons_of_mem _ h1, h2⟩
theorem putS_has {r : Rc} : ∀ ss : List Sn, ∃ s ∈ putS r ss, s.n = foldB r.n ∧ s.t = r.t := by
  intro ss
  induction ss with
  | nil => exact ⟨updS (frS r) r, by simp [putS], rfl, rfl⟩
  | cons a ss ih =>
    unfold putS
    by_cases ha : hasK (foldB r.n) r.t a = true
    · rw [if_pos ha]
      have := has_iff.1 ha
      exact ⟨updS a r, by simp, this.1, this.2⟩
    · rw [if_neg ha]
      obtain ⟨s, h1, h2⟩ := ih
      exact ⟨s, List.mem_cons_of_mem _ h1, h2⟩
theorem putS_unlike {r : Rc} : ∀ {ss : List Sn}, Unlike ss → Unlike (putS r ss) := by
  intro ss
  induction ss with
  | nil => intro _; exact List.pairwise_singleton _ _
  | cons a ss ih =>
    intro hu
    have hu2 := List.pairwise_cons.1 hu
    unfold putS
    by_cases ha : hasK (foldB r.n) r.t a = true
    · rw [if_pos ha]
      exact List.pairwise_cons.2 ⟨fun s hs => hu2.1 s hs, hu2.2⟩
    · rw [if_neg ha]
      have ha' : ¬ (a.n = foldB r.n ∧ a.t = r.t) := fun h => ha (has_iff.2 h)
      refine List.pairwise_cons.2 ⟨fun s hs => ?_, ih hu2.2⟩
      rcases putS_mem hu2.2 s hs with ⟨h1, _⟩ | ⟨s0, h1, h2, rfl⟩ | ⟨_, rfl⟩
      · exact hu2.1 s h1
      · exact hu2.1 s0 h1
      · exact ha'

/-- What the sets of records are. -/
structure GInv (rs : List Rc) (ss : List Sn) : Prop where
  unl : Unlike ss
  each : ∀ s ∈ ss, s = setOf s.n s.t rs ∧ selR s.n s.t rs ≠ []
  all : ∀ n t, selR n t rs ≠ [] → ∃ s ∈ ss, s.n = n ∧ s.t = t
theorem grp_inv : ∀ rs : List Rc, GInv rs (grpS rs) := by
  refine snoc_ind ?_ ?_
  · exact ⟨List.Pairwise.nil, fun s h => by simp [grpS] at h, fun n t h => absurd rfl h⟩
  · intro rs r ih
    rw [grpS_snoc]
    unfold stepS
    by_cases hc : r.c = 1
    · rw [if_pos hc]
      refine ⟨putS_unlike ih.unl, fun s hs => ?_, fun n t h => ?_⟩
      · rcases putS_mem ih.unl s hs with ⟨h1, h2⟩ | ⟨s0, h1, h2, rfl⟩ | ⟨h1, rfl⟩
        · have e : selR s.n s.t (rs ++ [r]) = selR s.n s.t rs := by
            rw [selR_snoc, if_neg (fun h => h2 ⟨h.2.1.symm, h.2.2.symm⟩)]
          have := ih.each s h1
          unfold setOf at this ⊢
          rw [e]
          exact this
        · have h3 := ih.each s0 h1
          have e : selR (updS s0 r).n (updS s0 r).t (rs ++ [r]) = selR s0.n s0.t rs ++ [r] := by
            show selR s0.n s0.t (rs ++ [r]) = _
            rw [selR_snoc, if_pos ⟨hc, h2.1.symm, h2.2.symm⟩]
          refine ⟨?_, by rw [e]; simp⟩
          unfold setOf
          rw [e, minL_snoc, insAll_snoc]
          have hl : s0.l = minL 86400 (selR s0.n s0.t rs) := congrArg Sn.l h3.1
          have hd : s0.ds = insAll [] (selR s0.n s0.t rs) := congrArg Sn.ds h3.1
          unfold updS
          rw [← hl, ← hd]
        · have e0 : selR (foldB r.n) r.t rs = [] := by
            cases hh : selR (foldB r.n) r.t rs with
            | nil => rfl
            | cons x xs =>
              obtain ⟨s0, k1, k2⟩ := ih.all _ _ (by rw [hh]; simp)
              exact absurd k2 (h1 s0 k1)
          have e : selR (updS (frS r) r).n (updS (frS r) r).t (rs ++ [r]) = [r] := by
            show selR (foldB r.n) r.t (rs ++ [r]) = _
            rw [selR_snoc, if_pos ⟨hc, rfl, rfl⟩, e0]; rfl
          refine ⟨?_, by rw [e]; simp⟩
          unfold setOf
          rw [e]
          rfl
      · rw [selR_snoc] at h
        by_cases hk : r.c = 1 ∧ foldB r.n = n ∧ r.t = t
        · obtain ⟨s, h1, h2⟩ := putS_has (r := r) (grpS rs)
          exact ⟨s, h1, by rw [h2.1, hk.2.1], by rw [h2.2, hk.2.2]⟩
        · rw [if_neg hk] at h
          obtain ⟨s, h1, h2⟩ := ih.all n t h
          obtain ⟨s', h3, h4⟩ := putS_keep (r := r) h1
          exact ⟨s', h3, by rw [h4.1, h2.1], by rw [h4.2, h2.2]⟩
    · rw [if_neg hc]
      have e : ∀ n t, selR n t (rs ++ [r]) = selR n t rs := fun n t => by rw [selR_snoc, if_neg (fun h => hc h.1)]
      refine ⟨ih.unl, fun s hs => ?_, fun n t h => ih.all n t (by rw [← e]; exact h)⟩
      have := ih.each s hs
      unfold setOf at this ⊢
      rw [e]
      exact this

theorem unlike_nodup {ss : List Sn} (h : Unlike ss) : ss.Nodup := List.Pairwise.imp (fun {a b} hab e => hab (by rw [e]; exact ⟨rfl, rfl⟩)) h
theorem len_sub : ∀ {a b : List Sn}, a.Nodup → (∀ s ∈ a, s ∈ b) → a.length ≤ b.length := by
  intro a
  induction a with
  | nil => intro b _ _; exact Nat.zero_le _
  | cons x a ih =>
    intro b ha h
    have ha2 := List.nodup_cons.1 ha
    obtain ⟨l, r, rfl⟩ := List.append_of_mem (h x (by simp))
    have := ih (b := l ++ r) ha2.2 (fun s hs => by
      have h1 := h s (List.mem_cons_of_mem _ hs)
      rcases List.mem_append.1 h1 with h1 | h1
      · exact List.mem_append_left _ h1
      · rcases List.mem_cons.1 h1 with rfl | h1
        · exact absurd hs ha2.1
        · exact List.mem_append_right _ h1)
    simp at this ⊢
    omega
theorem grp_sub {a b : List Rc} (h : ∀ r, r ∈ a ↔ r ∈ b) : ∀ s ∈ grpS a, s ∈ grpS b := by
  intro s hs
  have h1 := (grp_inv a).each s hs
  have h2 : selR s.n s.t b ≠ [] := by
    obtain ⟨r, hr⟩ := List.exists_mem_of_ne_nil _ h1.2
    unfold selR at hr
    rw [List.mem_filter, h r] at hr
    have : r ∈ selR s.n s.t b := by unfold selR; rw [List.mem_filter]; exact hr
    exact List.ne_nil_of_mem this
  obtain ⟨s', h3, h4⟩ := (grp_inv b).all _ _ h2
  have h5 := ((grp_inv b).each s' h3).1
  rw [h4.1, h4.2, ← setOf_ext h, ← h1.1] at h5
  rw [← h5]
  exact h3
/-- The same records in another row make the same sets but for their row. -/
theorem grp_same {a b : List Rc} (h : ∀ r, r ∈ a ↔ r ∈ b) : (grpS a).length = (grpS b).length ∧ ∀ s ∈ grpS a, s ∈ grpS b := by
  have h1 := len_sub (unlike_nodup (grp_inv a).unl) (grp_sub h)
  have h2 := len_sub (unlike_nodup (grp_inv b).unl) (grp_sub (fun r => (h r).symm))
  exact ⟨by omega, grp_sub h⟩
theorem foldB_twice {n : ByteArray} (h : isName n.data.toList = true) : foldB (foldB n) = foldB n ∧ isName (foldB n).data.toList = true := by
  have e : (foldB n).data.toList = foldL n.data.toList := by
    unfold foldB; rw [foldR_yes h]
  have h2 : isName (foldB n).data.toList = true := by rw [e, name_fold]; exact h
  refine ⟨?_, h2⟩
  have e2 : foldR (foldB n).data.toList = foldR n.data.toList := by
    rw [foldR_yes h2, foldR_yes h, e, fold_twice]
  unfold foldB at e2 ⊢
  rw [e2]
/-- What each set of records that may be has. -/
theorem grp_facts {rs : List Rc} (hok : ∀ r ∈ rs, okR r = true) {s : Sn} (hs : s ∈ grpS rs) : (0 ≤ s.l ∧ s.l ≤ 86400) ∧ s.ds ≠ [] ∧ foldB s.n = s.n ∧ isName s.n.data.toList = true ∧ Rises s.ds ∧ ∀ d ∈ s.ds, mayD s.t d.data.toList = true := by
  have h1 := (grp_inv rs).each s hs
  obtain ⟨r, hr⟩ := List.exists_mem_of_ne_nil _ h1.2
  have hsel : ∀ r ∈ selR s.n s.t rs, r ∈ rs ∧ r.c = 1 ∧ foldB r.n = s.n ∧ r.t = s.t := fun r hr => by
    unfold selR at hr
    rw [List.mem_filter, decide_eq_true_eq] at hr
    exact ⟨hr.1, hr.2⟩
  have hr2 := hsel r hr
  have hn := (ok_parts (hok r hr2.1)).1
  have hl : s.l = minL 86400 (selR s.n s.t rs) := congrArg Sn.l h1.1
  have hd : s.ds = insAll [] (selR s.n s.t rs) := congrArg Sn.ds h1.1
  refine ⟨⟨?_, ?_⟩, ?_, ?_, ?_, ?_, fun d hdm => ?_⟩
  · rw [hl]
    exact (le_minL _).2 ⟨by decide, fun r hr => (ok_parts (hok r (hsel r hr).1)).2.1.1⟩
  · rw [hl]
    exact ((le_minL _).1 (Int.le_refl _)).1
  · rw [hd]
    exact List.ne_nil_of_mem ((insAll_mem _).2 (.inr ⟨r, hr, rfl⟩))
  · rw [← hr2.2.2.1]; exact (foldB_twice hn).1
  · rw [← hr2.2.2.1]; exact (foldB_twice hn).2
  · rw [hd]; exact insAll_rises List.Pairwise.nil _
  · rw [hd] at hdm
    rcases (insAll_mem _).1 hdm with h | ⟨r', h2, rfl⟩
    · simp at h
    · have h3 := hsel r' h2
      rw [← h3.2.2.2]
      exact (ok_parts (hok r' h3.1)).2.2
/-- Records of one name and type make one set. -/
theorem grp_one {n : ByteArray} {t : Int} : ∀ rs : List Rc, rs ≠ [] → (∀ r ∈ rs, r.c = 1 ∧ foldB r.n = n ∧ r.t = t) → grpS rs = [⟨n, t, minL 86400 rs, insAll [] rs⟩] := by
  refine snoc_ind (fun h => absurd rfl h) ?_
  intro rs r ih _ hk
  have hr := hk r (by simp)
  rw [grpS_snoc]
  unfold stepS
  rw [if_pos hr.1, minL_snoc, insAll_snoc]
  by_cases h0 : rs = []
  · subst h0
    show putS r [] = _
    unfold putS updS frS
    rw [hr.2.1, hr.2.2]
    rfl
  · rw [ih h0 (fun r' h' => hk r' (List.mem_append_left _ h'))]
    unfold putS
    rw [if_pos (has_iff.2 ⟨hr.2.1.symm, hr.2.2.symm⟩)]
    rfl
/-- A set's records make it. -/
theorem grp_back {rs : List Rc} (hok : ∀ r ∈ rs, okR r = true) (hn : rs.length ≤ 64) {s : Sn} (hs : s ∈ grpS rs) : badG (rrsOf' s) = false ∧ grpS (rrsOf' s) = [s] := by
  obtain ⟨⟨l0, l1⟩, hd, hf, hnm, hr, hm⟩ := grp_facts hok hs
  have hlen := ((grpS_good rs).2 s hs).2
  refine ⟨?_, ?_⟩
  · unfold badG
    rw [Bool.or_eq_false_iff, decide_eq_false_iff_not, List.any_eq_false]
    refine ⟨by rw [rrsOf'_len]; omega, fun r hr => ?_⟩
    obtain ⟨d, h1, rfl⟩ := List.mem_map.1 hr
    have : okR ⟨s.n, s.t, 1, s.l, d⟩ = true := by
      unfold okR
      rw [hnm, hm d h1]
      unfold inB
      simp
      omega
    rw [this]
    simp
  · have h1 := grp_one (n := s.n) (t := s.t) (rrsOf' s) (by unfold rrsOf'; simpa using hd) (fun r hr => by
      obtain ⟨d, _, rfl⟩ := List.mem_map.1 hr
      exact ⟨rfl, hf, rfl⟩)
    rw [h1]
    have e1 : minL 86400 (rrsOf' s) = s.l := by
      have h2 : s.l ≤ minL 86400 (rrsOf' s) := (le_minL _).2 ⟨l1, fun r hr => by
        obtain ⟨d, _, rfl⟩ := List.mem_map.1 hr
        exact Int.le_refl _⟩
      have h3 : minL 86400 (rrsOf' s) ≤ s.l := by
        obtain ⟨d, h4⟩ := List.exists_mem_of_ne_nil _ hd
        exact ((le_minL _).1 (Int.le_refl _)).2 ⟨s.n, s.t, 1, s.l, d⟩ (List.mem_map.2 ⟨d, h4, rfl⟩)
      omega
    have e2 : insAll [] (rrsOf' s) = s.ds := by
      refine rises_ext (insAll_rises List.Pairwise.nil _) hr (fun x => ?_)
      rw [insAll_mem]
      constructor
      · rintro (h | ⟨r, h2, rfl⟩)
        · simp at h
        · obtain ⟨d, h3, rfl⟩ := List.mem_map.1 h2
          exact h3
      · intro h
        exact .inr ⟨⟨s.n, s.t, 1, s.l, x⟩, List.mem_map.2 ⟨x, h, rfl⟩, rfl⟩
    rw [e1, e2]

end Go.Proofs.Ytdaegnmokaibpaa
