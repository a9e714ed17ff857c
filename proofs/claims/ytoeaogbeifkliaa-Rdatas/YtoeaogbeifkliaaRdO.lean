/- What lends a row of strings with marked room behind it, and what looks whether it was kept. -/
import Derived.Test.YtoeaogbeifkliaaRdN
namespace Go.Proofs.Ytoeaogbeifkliaa
open Go.RowKit
open Pl

/-- Strings are appended to a row of strings that the call owns, out of a row that lies anywhere; there may be none; as many as there may be. -/
theorem wpList_appT (w : World) {ops : Array Oper} {rest : List Oper} {o : Oper} {a : Act} {Q : Exit → Act → World → Prop} (hgd : o.guard = none) (s x : Operand)
    (ho : o.op = .call { callee := .builtin .append, args := #[s, x], argTypes := #[24, 24] }) (base : Nat) (v : Value) (n : Nat) (ss : List ByteArray) (hs : a.eval s = v)
    (hown : w.ownsRow base 9 1 v n (ss.map Value.string)) (x0 : Option Addr) (m c : Nat) (ms : List ByteArray) (hx : a.eval x = .slice x0 m c) (hml : ms.length = m)
    (hcell : m = 0 ∨ ∃ ad, x0 = some ad ∧ ∀ j, j < ms.length → w.cell? (ad.add j) = some (.string (ms.getD j ⟨#[]⟩))) (hn : (n + m) * 16 ≤ 140737488355328) (hbase : base ≤ w.heap.size)
    (h : ∀ v' w', w'.ownsRow base 9 1 v' (n + m) ((ss ++ ms).map Value.string) → w.grownBy w' v.ownBlock → wpList Try.prog ops Q rest (a.put o.dst v') w') :
    wpList Try.prog ops Q (o :: rest) a w := by
  obtain ⟨i0, hi, hz0, hz1, hz2⟩ := info_parts info9
  by_cases hm : m = 0
  · subst hm
    have hms : ms = [] := List.eq_nil_of_length_eq_zero hml
    subst hms
    refine wpList_plain hgd fun K hK => ?_
    have hsrc : Src Try.prog i0.size 24 (.slice x0 0 c) 0 [] w := by
      cases x0 with
      | none => exact Src.ofNil w Try.underlying24 c
      | some ad => exact Src.ofSlice w Try.underlying24 ad 0 c [] (by simp) (fun j u hu => by simp at hu) (fun u hu => by cases hu)
    have hv : ∃ b l k, v = .slice b l k ∧ l ≤ k := by
      rcases hown.2 with ⟨rfl, rfl⟩ | ⟨g, cap, cur, rfl, _, _, hnc, _⟩
      · exact ⟨_, _, _, rfl, Nat.le_refl _⟩
      · exact ⟨_, _, _, rfl, hnc⟩
    obtain ⟨b, l, k, hv, hlk⟩ := hv
    have hrun := run_append_nothing (P := Try.prog) w 24 24 o.type 9 i0 Try.underlying24 hi b l k hlk _ hsrc
    rw [← hv] at hrun
    unfold Oper.wp
    simp only [execOp, ho, resolve, invoke, builtin, Sem.run_bind, Sem.run_pure, Result.andThen_ok, List.map_toArray, List.map_cons, List.map_nil, hs, hx, hrun]
    exact hK _ _ (h v w (by simpa using hown) (World.grownBy.refl w _))
  · rcases hcell with h0 | ⟨ad, rfl, hcell⟩
    · exact absurd h0 hm
    refine wpList_append_lies w hgd s x 24 ho base 9 i0 (.string ⟨#[]⟩) 1 16 Try.underlying24 hi hz0 hz1 hz2 rfl (by decide) v n (ss.map Value.string) hs hown ad m c (ms.map Value.string) hx (by simpa using hml)
      (fun j u hu => ?_) (fun u hu => ?_) (by omega) (by unfold maxLen; omega) (by omega) hbase _ rfl ?_
    · have hj : j < ms.length := by have := (List.getElem?_eq_some_iff.1 hu).1; simpa using this
      rw [hcell j hj, ← hu]
      simp [List.getD_eq_getElem?_getD, List.getElem?_eq_getElem hj]
    · simp only [List.mem_map] at hu
      obtain ⟨b, _, rfl⟩ := hu
      rfl
    · intro g cap w' h1 h2 h3 h4
      exact h _ w' (by rw [List.map_append]; exact h1) h2

theorem own_empty (w : World) : (w.alloc (.cells #[] 9)).ownsRow w.heap.size 9 1 (.slice (some ⟨w.heap.size, 0, none⟩) 0 0) 0 (([] : List ByteArray).map Value.string) :=
  ⟨rfl, .inr ⟨w.heap.size, 0, #[], rfl, Nat.le_refl _, heap_alloc_new w _, Nat.le_refl _, Nat.zero_le _, rfl, rfl⟩⟩

/-- The parts of a row that came in, as an append takes them. -/
theorem SRow.src {w : World} {v : Value} {ps : List ByteArray} (h : SRow w v ps) : ∃ x0 c, v = .slice x0 ps.length c ∧ (ps.length = 0 ∨ ∃ ad, x0 = some ad ∧ ∀ j, j < ps.length → w.cell? (ad.add j) = some (.string (ps.getD j ⟨#[]⟩))) := by
  rcases h.1 with ⟨rfl, rfl⟩ | ⟨a, cap, rfl, hc⟩
  · exact ⟨none, 0, rfl, .inl rfl⟩
  · exact ⟨some a, cap, rfl, .inr ⟨a, rfl, hc⟩⟩

theorem copy_any (v : Value) (ps : List ByteArray) (w : World) (h : SRow w v ps) (hn : ps.length * 16 ≤ 140737488351232) :
    Calls Try.prog 42 #[v] w fun e w' => ∃ v', e = .returned v' ∧ w'.ownsRow w.heap.size 9 1 v' ps.length (ps.map Value.string) ∧ Below w.heap.size w w' := by
  have h2 := h.below (lay (Below.refl w.heap.size w) (.cells #[] 9))
  obtain ⟨x0, c, rfl, hc⟩ := h2.src
  have hown := own_empty w
  have hb := lay (Below.refl w.heap.size w) (.cells #[] 9)
  go_enter Try.func42, Try.ntmps42
  go_wp2_with (at_builtin; refine wpList_appT _ rfl _ _ rfl w.heap.size _ 0 [] rfl hown x0 ps.length c ps rfl rfl hc (by omega) hb.size ?_; intro v' w2 h1 h3)
  go_ret
  refine ⟨_, rfl, by simpa using h1, hb.grown h3 hb.size (fun j e => (hown.lt j e).1)⟩

/-- A row that was lent: its strings, and the two marks behind them. -/
def Lent (w : World) (g : Nat) (ps : List ByteArray) : Prop :=
  g < w.heap.size ∧ (∀ k, k < ps.length → w.cell? ⟨g, k, none⟩ = some (.string (ps.getD k ⟨#[]⟩))) ∧ w.cell? ⟨g, ps.length, none⟩ = some (.string ⟨#[126, 114, 111, 111, 109]⟩) ∧ w.cell? ⟨g, ps.length + 1, none⟩ = some (.string ⟨#[126, 98, 101, 104, 105, 110, 100]⟩)
theorem Lent.below {w w' : World} {g : Nat} {ps : List ByteArray} (h : Lent w g ps) (hb : Below w.heap.size w w') : Lent w' g ps := by
  obtain ⟨h1, h2, h3, h4⟩ := h
  refine ⟨Nat.lt_of_lt_of_le h1 hb.size, fun k hk => ?_, ?_, ?_⟩
  · rw [hb.cell (p := ⟨g, k, none⟩) h1]; exact h2 k hk
  · rw [hb.cell (p := ⟨g, ps.length, none⟩) h1]; exact h3
  · rw [hb.cell (p := ⟨g, ps.length + 1, none⟩) h1]; exact h4
theorem lent_own {w : World} {base g cap N : Nat} {ps : List ByteArray} (hN : N = ps.length) (h : w.ownsRow base 9 1 (.slice (some ⟨g, 0, none⟩) (N + 2) cap) (N + 2) ((ps ++ ([⟨#[126, 114, 111, 111, 109]⟩, ⟨#[126, 98, 101, 104, 105, 110, 100]⟩] : List ByteArray)).map Value.string)) : Lent w g ps ∧ N + 2 ≤ cap := by
  subst hN
  have hlt := (h.lt g rfl).2
  have hc := fun k (hk : k < ps.length + 2) => h.cellAt k (by omega)
  refine ⟨⟨hlt, fun k hk => ?_, ?_, ?_⟩, ?_⟩
  · rw [hc k (by omega), List.map_append, List.getElem?_append_left (by simpa using hk)]
    simp [List.getD_eq_getElem?_getD, List.getElem?_eq_getElem hk]
  · rw [hc _ (by omega), List.map_append, List.getElem?_append_right (by simp)]
    simp
  · rw [hc _ (by omega), List.map_append, List.getElem?_append_right (by simp)]
    simp
  · rcases h.2 with ⟨e, _⟩ | ⟨g', cap', cur, e, _, _, hnc, _⟩
    · simp at e
    · simp at e; omega

theorem two_new (w : World) (b c : ByteArray) (j : Nat) (hj : j < [b, c].length) : (w.alloc (.cells #[.string b, .string c] 9)).cell? ((⟨w.heap.size, 0, none⟩ : Addr).add j) = some (.string ([b, c].getD j ⟨#[]⟩)) := by
  have : j = 0 ∨ j = 1 := by simp at hj; omega
  rw [add_off, World.cell?_alloc_mark]
  rcases this with rfl | rfl <;> rfl

theorem lend_any (v : Value) (ps : List ByteArray) (w : World) (h : SRow w v ps) (hn : ps.length * 16 ≤ 140737488351232) :
    Calls Try.prog 23 #[v] w fun e w' => ∃ g cap, e = .returned (.slice (some ⟨g, 0, none⟩) ps.length cap) ∧ ps.length + 2 ≤ cap ∧ Lent w' g ps ∧ Below w.heap.size w w' := by
  obtain ⟨N, hN⟩ : ∃ N, N = ps.length := ⟨_, rfl⟩
  have HN : Hid (N = ps.length) := hN
  have hlen : ∃ x0 c, v = .slice x0 N c := by obtain ⟨x0, c, e, _⟩ := h.src; exact ⟨x0, c, by rw [hN]; exact e⟩
  obtain ⟨x0, c, rfl⟩ := hlen
  rw [← hN] at hn ⊢
  clear hN
  go_enter Try.func23, Try.ntmps23
  go_wp2_with (first
    | (go_at_call 42; go_must (refine (copy_any _ ps _ h (by rw [← HN.out]; exact hn)).mono ?_); rintro e w1 ⟨v1, rfl, hown, hb⟩; rw [← HN.out] at hown)
    | (at_builtin; refine wpList_appT _ rfl _ _ rfl w.heap.size _ N ps rfl (hown.alloc _) _ 2 2 [⟨#[126, 114, 111, 111, 109]⟩, ⟨#[126, 98, 101, 104, 105, 110, 100]⟩] rfl rfl (.inr ⟨_, rfl, fun j hj => two_new w1 _ _ j hj⟩) (by omega) (lay hb _).size ?_; intro v2 w2 h1 h3; obtain ⟨g, cap, rfl, _, _⟩ := h1.form (by omega); obtain ⟨hl, hcap⟩ := lent_own HN.out h1; have hcap2 : N ≤ cap := (by omega); have hb2 : Below w.heap.size w w2 := (lay hb _).grown h3 (lay hb _).size (fun j e => (hown.lt j e).1); clear h1 h3))
  go_ret
  exact ⟨g, cap, rfl, hcap, hl, hb2⟩

/-- Two rows of the same strings. -/
theorem same_any (v u : Value) (ps : List ByteArray) (w : World) (h1 : SRow w v ps) (h2 : SRow w u ps) :
    Calls Try.prog 43 #[v, u] w fun e w' => e = .returned (.bool true) ∧ ∃ m, w' = w.drewN m := by
  obtain ⟨N, hN⟩ : ∃ N, N = ps.length := ⟨_, rfl⟩
  have hm := h1.2.1
  obtain ⟨x, c, e1, k1⟩ := h1.src
  obtain ⟨y, d, e2, k2⟩ := h2.src
  rw [← hN] at e1 e2 k1 k2 hm
  subst e1 e2
  unfold maxLen at hm
  clear hN h1 h2
  have HD : Hid (∃ m, w = w.drewN m) := ⟨0, rfl⟩
  have K1 : Hid (∀ j, j < N → ∃ ad, x = some ad ∧ w.cell? (ad.add j) = some (.string (ps.getD j ⟨#[]⟩))) := fun j hj => by
    rcases k1 with e | ⟨ad, rfl, hc⟩
    · omega
    · exact ⟨ad, rfl, hc j hj⟩
  have K2 : Hid (∀ j, j < N → ∃ ad, y = some ad ∧ w.cell? (ad.add j) = some (.string (ps.getD j ⟨#[]⟩))) := fun j hj => by
    rcases k2 with e | ⟨ad, rfl, hc⟩
    · omega
    · exact ⟨ad, rfl, hc j hj⟩
  clear k1 k2
  have hNN : ((N : Int) != (N : Int)) = false := by simp
  go_enter Try.func43, Try.ntmps43
  go_wp2
  go_loopw [5] (fun i wr => ∃ k : Nat, k ≤ N ∧ i = .int .i64 (k : Int) ∧ Hid (∃ m, wr = w.drewN m)) (fun i _ => N - (intOf i).toNat)
  case atStart => exact ⟨0, Nat.zero_le _, rfl, HD⟩
  case round =>
    obtain ⟨k, hk, rfl, hdr⟩ := hrel
    by_cases hkN : k < N
    · obtain ⟨ad, rfl, c1⟩ := K1.out k hkN
      obtain ⟨ae, rfl, c2⟩ := K2.out k hkN
      obtain ⟨p, hp⟩ : ∃ p, p = ps.getD k ⟨#[]⟩ := ⟨_, rfl⟩
      rw [← hp] at c1 c2
      clear hp
      have d1 : wr.cell? (ad.add k) = some (.string p) := by obtain ⟨m, rfl⟩ := hdr.out; exact c1
      have d2 : wr.cell? (ae.add k) = some (.string p) := by obtain ⟨m, rfl⟩ := hdr.out; exact c2
      go_wp2
      go_quiet (fail)
      go_wp2
      go_roundw
      case rel => exact ⟨k + 1, by omega, by go_num, drew_next hdr.out ⟨_, rfl⟩⟩
      case measure => simp [intOf]; omega
    · go_wp2
      go_ret
      exact ⟨rfl, hdr.out⟩

theorem lent_row {w : World} {g cap : Nat} {ps : List ByteArray} (h : Lent w g ps) (hm : ps.length ≤ maxLen) (hz : ∀ k, k < ps.length → (ps.getD k ⟨#[]⟩).size ≤ maxLen) : SRow w (.slice (some ⟨g, 0, none⟩) ps.length cap) ps :=
  ⟨.inr ⟨_, _, rfl, fun k hk => by rw [add_off]; exact h.2.1 k hk⟩, hm, hz⟩

theorem kept_any (g cap : Nat) (u : Value) (ps : List ByteArray) (w : World) (hl : Lent w g ps) (hcap : ps.length + 2 ≤ cap) (h2 : SRow w u ps) (hn : ps.length * 16 ≤ 140737488351232) :
    Calls Try.prog 26 #[.slice (some ⟨g, 0, none⟩) ps.length cap, u] w fun e w' => e = .returned (.bool true) ∧ ∃ m, w' = w.drewN m := by
  have hsame := same_any _ u ps w (lent_row (cap := cap) hl h2.2.1 h2.2.2) h2
  obtain ⟨y, d, e2, _⟩ := h2.src
  obtain ⟨N, hN⟩ : ∃ N, N = ps.length := ⟨_, rfl⟩
  obtain ⟨_, _, l3, l4⟩ := hl
  rw [← hN] at hsame e2 l3 l4 hn hcap ⊢
  subst e2
  clear hN h2
  have hcap2 : (N : Int) + 2 ≤ (cap : Int) := by omega
  go_enter Try.func26, Try.ntmps26
  go_wp2_with (go_at_call 43; go_must (refine hsame.mono ?_); rintro e w1 ⟨rfl, b1⟩; have m3 : w1.cell? ⟨g, N, none⟩ = some (.string ⟨#[126, 114, 111, 111, 109]⟩) := by { obtain ⟨m, rfl⟩ := b1; exact l3 }; have m4 : w1.cell? ⟨g, N + 1, none⟩ = some (.string ⟨#[126, 98, 101, 104, 105, 110, 100]⟩) := by { obtain ⟨m, rfl⟩ := b1; exact l4 })

  go_ret
  exact ⟨rfl, b1⟩

end Go.Proofs.Ytoeaogbeifkliaa
