/- What the document's question and record give. -/
import Derived.Test.YtcapankhobnfeaaXP6
import Derived.Test.YtcapankhobnfeaaXCpL
import Derived.Test.YtcapankhobnfeaaXHdK
namespace Go.Proofs.Ytcapankhobnfeaa
open Go.RowKit
open Pl

theorem data_zero (l : List UInt8) (p n : Nat) : dataOf l p n 0 = none := by
  rw [data_o (by decide) (by decide) (by decide), may_none (.inl (by decide))]; rfl
theorem getQ_nameless {s : ByteArray} {p : Nat} (h : nameOf s.data.toList p = none) : getQ s p = none ∧ getR s p = none := by
  unfold getQ getR; rw [h]; exact ⟨rfl, rfl⟩
theorem getQ_at {s : ByteArray} {p a : Nat} {n : List UInt8} (h : nameOf s.data.toList p = some (n, a)) : getQ s p = if a + 4 ≤ s.size ∧ val s a 2 ≠ 0 then some (⟨⟨n.toArray⟩, val s a 2, val s (a + 2) 2⟩, a + 4) else none := by
  unfold getQ; rw [h]
theorem getR_none {s : ByteArray} {p : Nat} (h : getQ s p = none) : getR s p = none := by
  cases hn : nameOf s.data.toList p with
  | none => exact (getQ_nameless hn).2
  | some z =>
    obtain ⟨n, a⟩ := z
    rw [getQ_at hn] at h
    split at h
    · simp at h
    · rename_i h1
      unfold getR
      rw [hn]
      simp only
      by_cases h2 : a + 4 ≤ s.size
      · have h0 : val s a 2 = 0 := by
          by_cases e : val s a 2 = 0
          · exact e
          · exact absurd ⟨h2, e⟩ h1
        rw [h0, data_zero]
        simp
      · rw [if_neg (by omega)]
theorem getR_some {s : ByteArray} {p a : Nat} {q : Qn} (h : getQ s p = some (q, a)) :
    getR s p = if a + 6 + (val s (a + 4) 2).toNat ≤ s.size then (match dataOf s.data.toList (a + 6) (val s (a + 4) 2).toNat q.t with | none => none | some d => some (⟨q.n, q.t, q.c, val s a 4, ⟨d.toArray⟩⟩, a + 6 + (val s (a + 4) 2).toNat)) else none := by
  cases hn : nameOf s.data.toList p with
  | none => rw [(getQ_nameless hn).1] at h; simp at h
  | some z =>
    obtain ⟨n, b⟩ := z
    rw [getQ_at hn] at h
    split at h
    · simp at h
      obtain ⟨rfl, rfl⟩ := h
      unfold getR
      rw [hn]
      simp only
      rw [show b + 4 + 6 = b + 10 from by omega, show b + 4 + 4 = b + 8 from by omega]
      cases dataOf s.data.toList (b + 10) (val s (b + 8) 2).toNat (val s b 2) <;> rfl
    · simp at h

/-- What the document's Num answers, as letters. -/
theorem rnum_form (s : ByteArray) (p n : Nat) (hs : s.size ≤ 4096) (hn : n ≤ 4) : (p + n ≤ s.size ∧ ∀ u, Calls Try.prog 44 #[.string s, .int .i64 (p : Int), .int .i64 (n : Int)] u fun e w' => e = .returned (.tuple #[.int .i64 (val s p n), .int .i64 ((p + n : Nat) : Int), .int .i64 0]) ∧ w' = u) ∨
    (s.size < p + n ∧ ∀ u, Calls Try.prog 44 #[.string s, .int .i64 (p : Int), .int .i64 (n : Int)] u fun e w' => e = .returned (.tuple #[.int .i64 0, .int .i64 ((0 : Nat) : Int), .int .i64 300]) ∧ w' = u) := by
  have hm : s.size ≤ maxLen := small100 (by omega)
  by_cases h : p + n ≤ s.size
  · left
    refine ⟨h, fun u => ?_⟩
    rw [Int.natCast_add]
    exact refNum_yes s p n u hm hn h
  · right
    exact ⟨by omega, fun u => refNum_no s p n u hm hn (.inr (by omega))⟩

/-- What question leaves. -/
def QueP (s : ByteArray) (p : Nat) (w : World) (e : Ending) (w' : World) : Prop := ∃ (q : Qn) (p' : Nat) (ok : Bool), e = .returned (.tuple #[.agg #[.string q.n, .int .i64 q.t, .int .i64 q.c], .int .i64 (p' : Int), .bool ok]) ∧ Below w.heap.size w w' ∧ p' ≤ 5000 ∧ ((ok = true ∧ getQ s p = some (q, p')) ∨ (ok = false ∧ getQ s p = none))
theorem qz (w : World) : Blk (w.alloc (.cells #[.string ⟨#[]⟩, .int .i64 0, .int .i64 0] 46)) w.heap.size #[.string ⟨#[]⟩, .int .i64 0, .int .i64 0] 46 := Blk.new _ _ _

set_option maxRecDepth 20000 in
set_option maxHeartbeats 1000000 in
theorem rque_none (s : ByteArray) (p : Nat) (w : World) (hs : s.size ≤ 4096) (h : nameOf s.data.toList p = none) : Calls Try.prog 40 #[.string s, .int .i64 (p : Int)] w (QueP s p w) := by
  have hc := fun u => rName_as s p none u (by omega) h
  unfold nmV at hc
  have HQ : Hid (getQ s p = none) := (getQ_nameless h).1
  have KB := qz w
  have hb : Below w.heap.size w _ := lay (Below.refl _ _) (.cells #[.string ⟨#[]⟩, .int .i64 0, .int .i64 0] 46)
  clear h
  go_enter Try.func40, Try.ntmps40
  go_wp2_with (go_at_call 66; go_must (refine (hc _).mono ?_); rintro e w1 ⟨rfl, bb⟩; replace KB := KB.below bb; replace hb := next hb bb; have c0 : w1.cell? ⟨w.heap.size, 0, none⟩ = some (.string ⟨#[]⟩) := KB.cell 0; have c1 : w1.cell? ⟨w.heap.size, 1, none⟩ = some (.int .i64 0) := KB.cell 1; have c2 : w1.cell? ⟨w.heap.size, 2, none⟩ = some (.int .i64 0) := KB.cell 2; have f0 := KB.frozen 0; have f1 := KB.frozen 1; have f2 := KB.frozen 2; clear bb)
  have q := ((KB.set 0 (.string ⟨#[]⟩)).set 1 (.int .i64 0)).set 2 (.int .i64 0)
  have qb := ((hb.setCell (p := ⟨w.heap.size, 0, none⟩) (Nat.le_refl _) (.string ⟨#[]⟩)).setCell (p := ⟨w.heap.size, 1, none⟩) (Nat.le_refl _) (.int .i64 0)).setCell (p := ⟨w.heap.size, 2, none⟩) (Nat.le_refl _) (.int .i64 0)
  have m0 := q.cell 0
  have m1 := q.cell 1
  have m2 := q.cell 2
  refine bodyPost_ret (v := .tuple #[.agg #[.string ⟨#[]⟩, .int .i64 0, .int .i64 0], .int .i64 0, .bool false]) (by simp [results, Try.results40, go_sem, m0, m1, m2]) rfl ⟨⟨⟨#[]⟩, 0, 0⟩, 0, false, rfl, qb, by decide, .inr ⟨rfl, HQ.out⟩⟩

/-- The name was read; what is behind it, as letters. -/
theorem rque_some (s : ByteArray) (p a : Nat) (N : ByteArray) (x y E F : Int) (b d : Nat) (ok : Bool) (w : World) (hs : s.size ≤ 4096) (h : nameOf s.data.toList p = some (N.data.toList, a)) (hd : d ≤ 5000)
    (h1 : ∀ u, Calls Try.prog 44 #[.string s, .int .i64 (a : Int), .int .i64 2] u fun e w' => e = .returned (.tuple #[.int .i64 x, .int .i64 (b : Int), .int .i64 E]) ∧ w' = u)
    (h2 : ∀ u, Calls Try.prog 44 #[.string s, .int .i64 (b : Int), .int .i64 2] u fun e w' => e = .returned (.tuple #[.int .i64 y, .int .i64 (d : Int), .int .i64 F]) ∧ w' = u)
    (hok : (E = 0 ∧ F = 0 ∧ ok = decide (0 < x)) ∨ (E = 0 ∧ F = 300 ∧ ok = false) ∨ (E = 300 ∧ ok = false)) (hg : (ok = true ∧ getQ s p = some (⟨N, x, y⟩, d)) ∨ (ok = false ∧ getQ s p = none)) : Calls Try.prog 40 #[.string s, .int .i64 (p : Int)] w (QueP s p w) := by
  have hc := fun u => rName_as s p (some (N.data.toList, a)) u (by omega) h
  unfold nmV at hc
  simp only [arr_list] at hc
  have KB := qz w
  have hb : Below w.heap.size w _ := lay (Below.refl _ _) (.cells #[.string ⟨#[]⟩, .int .i64 0, .int .i64 0] 46)
  have HG : Hid ((ok = true ∧ getQ s p = some (⟨N, x, y⟩, d)) ∨ (ok = false ∧ getQ s p = none)) := hg
  have t1 : True := trivial
  clear h hg
  rcases hok with ⟨rfl, rfl, hok⟩ | ⟨rfl, rfl, hok⟩ | ⟨rfl, hok⟩
  all_goals
    have HK : Hid (ok = _) := hok
    clear hok
    go_enter Try.func40, Try.ntmps40
    go_wp2_with (first
      | (go_at_call 66; go_must (refine (hc _).mono ?_); rintro e w1 ⟨rfl, bb⟩; replace KB := KB.below bb; replace hb := next hb bb; have c0 : w1.cell? ⟨w.heap.size, 0, none⟩ = some (.string ⟨#[]⟩) := KB.cell 0; have c1 : w1.cell? ⟨w.heap.size, 1, none⟩ = some (.int .i64 0) := KB.cell 1; have c2 : w1.cell? ⟨w.heap.size, 2, none⟩ = some (.int .i64 0) := KB.cell 2; have f0 := KB.frozen 0; have f1 := KB.frozen 1; have f2 := KB.frozen 2; clear bb)
      | (go_at_call 44; have _t := t1; go_must (refine (h1 _).mono ?_); rintro e w' ⟨rfl, hw⟩; obtain rfl := hw.symm; clear t1 _t)
      | (go_at_call 44; go_must (refine (h2 _).mono ?_); rintro e w' ⟨rfl, hw⟩; obtain rfl := hw.symm))
    have q := ((KB.set 0 (.string N)).set 1 (.int .i64 x)).set 2 (.int .i64 y)
    have qb := ((hb.setCell (p := ⟨w.heap.size, 0, none⟩) (Nat.le_refl _) (.string N)).setCell (p := ⟨w.heap.size, 1, none⟩) (Nat.le_refl _) (.int .i64 x)).setCell (p := ⟨w.heap.size, 2, none⟩) (Nat.le_refl _) (.int .i64 y)
    have m0 := q.cell 0
    have m1 := q.cell 1
    have m2 := q.cell 2
    refine bodyPost_ret (v := .tuple #[.agg #[.string N, .int .i64 x, .int .i64 y], .int .i64 (d : Int), .bool ok]) (by rw [HK.out]; simp [results, Try.results40, go_sem, m0, m1, m2]) rfl ⟨⟨N, x, y⟩, d, ok, rfl, qb, hd, HG.out⟩

theorem rque_any (s : ByteArray) (p : Nat) (w : World) (hs : s.size ≤ 4096) : Calls Try.prog 40 #[.string s, .int .i64 (p : Int)] w (QueP s p w) := by
  cases h : nameOf s.data.toList p with
  | none => exact rque_none s p w hs h
  | some z =>
    obtain ⟨n, a⟩ := z
    have ha := (nameOf_some h).2.1
    rw [data_len] at ha
    have h' : nameOf s.data.toList p = some ((⟨n.toArray⟩ : ByteArray).data.toList, a) := by rw [list_arr]; exact h
    have hq := getQ_at h
    rcases rnum_form s a 2 hs (by decide) with ⟨a1, c1⟩ | ⟨a1, c1⟩
    · rcases rnum_form s (a + 2) 2 hs (by decide) with ⟨a2, c2⟩ | ⟨a2, c2⟩
      · have hx := val_lt s a 2
        refine rque_some s p a ⟨n.toArray⟩ _ _ 0 0 (a + 2) (a + 2 + 2) (decide (0 < val s a 2)) w hs h' (by omega) c1 c2 (.inl ⟨rfl, rfl, rfl⟩) ?_
        by_cases e : val s a 2 = 0
        · right
          rw [hq, if_neg (fun hh => hh.2 e), e]; exact ⟨rfl, rfl⟩
        · left
          rw [hq, if_pos ⟨by omega, e⟩]
          exact ⟨by simp; omega, rfl⟩
      · refine rque_some s p a ⟨n.toArray⟩ _ _ 0 300 (a + 2) 0 false w hs h' (by omega) c1 c2 (.inr (.inl ⟨rfl, rfl, rfl⟩)) (.inr ⟨rfl, ?_⟩)
        rw [hq, if_neg (by omega)]
    · rcases rnum_form s 0 2 hs (by decide) with ⟨a2, c2⟩ | ⟨a2, c2⟩
      · refine rque_some s p a ⟨n.toArray⟩ _ _ 300 0 0 (0 + 2) false w hs h' (by omega) c1 c2 (.inr (.inr ⟨rfl, rfl⟩)) (.inr ⟨rfl, ?_⟩)
        rw [hq, if_neg (by omega)]
      · refine rque_some s p a ⟨n.toArray⟩ _ _ 300 300 0 0 false w hs h' (by omega) c1 c2 (.inr (.inr ⟨rfl, rfl⟩)) (.inr ⟨rfl, ?_⟩)
        rw [hq, if_neg (by omega)]

/-- What record leaves. -/
def RecP (s : ByteArray) (p : Nat) (w : World) (e : Ending) (w' : World) : Prop := ∃ (r : Rc) (p' : Nat) (ok : Bool), e = .returned (.tuple #[.agg #[.string r.n, .int .i64 r.t, .int .i64 r.c, .int .i64 r.l, .string r.d], .int .i64 (p' : Int), .bool ok]) ∧ Below w.heap.size w w' ∧ p' ≤ 100000 ∧ ((ok = true ∧ getR s p = some (r, p')) ∨ (ok = false ∧ getR s p = none))
/-- What the document's Data answers, as letters. -/
theorem rdt_form (s : ByteArray) (p n : Nat) (t : Int) (hs : s.size ≤ 4096) : ∃ (D : ByteArray) (E : Int), (∀ u, Calls Try.prog 67 #[.string s, .int .i64 (p : Int), .int .i64 (n : Int), .int .i64 t] u fun e w' => e = .returned (.tuple #[.string D, .int .i64 E]) ∧ Below u.heap.size u w') ∧
    ((E = 0 ∧ p + n ≤ s.size ∧ dataOf s.data.toList p n t = some D.data.toList) ∨ (E ≠ 0 ∧ (s.size < p + n ∨ dataOf s.data.toList p n t = none))) := by
  by_cases hp : p + n ≤ s.size
  · have := fun u => rData_any s p n t u (by omega) hp
    cases h : dataOf s.data.toList p n t with
    | none => rw [h] at this; exact ⟨_, _, this, .inr ⟨by decide, .inr rfl⟩⟩
    | some d => rw [h] at this; exact ⟨⟨d.toArray⟩, _, this, .inl ⟨rfl, hp, by rw [list_arr]⟩⟩
  · exact ⟨_, _, fun u => rData_bad s p n t u (by omega) (.inr (.inr (by omega))), .inr ⟨by decide, .inl (by omega)⟩⟩
theorem rnum_l (s : ByteArray) (p n : Nat) (hs : s.size ≤ 4096) (hn : n ≤ 4) : ∃ (x b : Nat) (E : Int), (∀ u, Calls Try.prog 44 #[.string s, .int .i64 (p : Int), .int .i64 (n : Int)] u fun e w' => e = .returned (.tuple #[.int .i64 (x : Int), .int .i64 (b : Int), .int .i64 E]) ∧ w' = u) ∧ b ≤ 5000 ∧ (x : Int) < 256 ^ n ∧ ((E = 0 ∧ p + n ≤ s.size ∧ val s p n = (x : Int) ∧ b = p + n) ∨ (E = 300 ∧ s.size < p + n)) := by
  have hv := val_lt s p n
  rcases rnum_form s p n hs hn with ⟨a1, c1⟩ | ⟨a1, c1⟩
  · have e : val s p n = ((val s p n).toNat : Int) := by omega
    refine ⟨(val s p n).toNat, p + n, 0, ?_, by omega, by omega, .inl ⟨rfl, a1, e, rfl⟩⟩
    rw [← e]; exact c1
  · exact ⟨0, 0, 300, c1, by decide, Int.pow_pos (by decide), .inr ⟨rfl, a1⟩⟩
theorem rz (w : World) : Blk (w.alloc (.cells #[.string ⟨#[]⟩, .int .i64 0, .int .i64 0, .int .i64 0, .string ⟨#[]⟩] 54)) w.heap.size #[.string ⟨#[]⟩, .int .i64 0, .int .i64 0, .int .i64 0, .string ⟨#[]⟩] 54 := Blk.new _ _ _
theorem rz_set {w u : World} {n d : ByteArray} {t c l : Int} (hb : Below w.heap.size w u) (k : Blk u w.heap.size #[.string ⟨#[]⟩, .int .i64 0, .int .i64 0, .int .i64 0, .string ⟨#[]⟩] 54) :
    Below w.heap.size w (((((u.setCell ⟨w.heap.size, 0, none⟩ (.string n)).setCell ⟨w.heap.size, 1, none⟩ (.int .i64 t)).setCell ⟨w.heap.size, 2, none⟩ (.int .i64 c)).setCell ⟨w.heap.size, 3, none⟩ (.int .i64 l)).setCell ⟨w.heap.size, 4, none⟩ (.string d)) ∧ Blk (((((u.setCell ⟨w.heap.size, 0, none⟩ (.string n)).setCell ⟨w.heap.size, 1, none⟩ (.int .i64 t)).setCell ⟨w.heap.size, 2, none⟩ (.int .i64 c)).setCell ⟨w.heap.size, 3, none⟩ (.int .i64 l)).setCell ⟨w.heap.size, 4, none⟩ (.string d)) w.heap.size #[.string n, .int .i64 t, .int .i64 c, .int .i64 l, .string d] 54 :=
  ⟨((((hb.setCell (p := ⟨w.heap.size, 0, none⟩) (Nat.le_refl _) _).setCell (p := ⟨w.heap.size, 1, none⟩) (Nat.le_refl _) _).setCell (p := ⟨w.heap.size, 2, none⟩) (Nat.le_refl _) _).setCell (p := ⟨w.heap.size, 3, none⟩) (Nat.le_refl _) _).setCell (p := ⟨w.heap.size, 4, none⟩) (Nat.le_refl _) _, ((((k.set 0 _).set 1 _).set 2 _).set 3 _).set 4 _⟩

/-- One of two, told by a mark. -/
def Alt (ok : Bool) (A B : Prop) : Prop := (ok = true ∧ A) ∨ (ok = false ∧ B)
theorem rec_bad {s : ByteArray} {p a : Nat} {q : Qn} (h : Alt true (getQ s p = some (q, a)) (getQ s p = none)) (hs : s.size < a + 6) : getR s p = none := by
  rcases h with ⟨_, h⟩ | ⟨h, _⟩
  · rw [getR_some h, if_neg (by omega)]
  · simp at h
theorem rec_no {s : ByteArray} {p a : Nat} {q : Qn} (h : Alt false (getQ s p = some (q, a)) (getQ s p = none)) : getR s p = none := by
  rcases h with ⟨h, _⟩ | ⟨_, h⟩
  · simp at h
  · exact getR_none h
theorem rec_fin {s : ByteArray} {p a l z b d : Nat} {q : Qn} {G : Int} {D : ByteArray} (h : Alt true (getQ s p = some (q, a)) (getQ s p = none)) (h1 : a + 4 ≤ s.size ∧ val s a 4 = (l : Int) ∧ b = a + 4) (h2 : b + 2 ≤ s.size ∧ val s b 2 = (z : Int) ∧ d = b + 2)
    (h3 : (G = 0 ∧ d + z ≤ s.size ∧ dataOf s.data.toList d z q.t = some D.data.toList) ∨ (G ≠ 0 ∧ (s.size < d + z ∨ dataOf s.data.toList d z q.t = none))) :
    ((G == 0) = true ∧ getR s p = some (⟨q.n, q.t, q.c, (l : Int), D⟩, d + z)) ∨ ((G == 0) = false ∧ getR s p = none) := by
  obtain ⟨a1, a2, rfl⟩ := h1
  obtain ⟨b1, b2, rfl⟩ := h2
  rcases h with ⟨_, h⟩ | ⟨h, _⟩
  · rw [getR_some h, b2, a2]
    rw [show a + 4 + 2 = a + 6 from by omega] at h3 ⊢
    simp only [Int.toNat_natCast]
    rcases h3 with ⟨rfl, c1, c2⟩ | ⟨c1, c2 | c2⟩
    · left
      rw [if_pos c1, c2]
      exact ⟨rfl, by simp only [arr_list]⟩
    · right
      rw [if_neg (by omega)]
      exact ⟨by simpa using c1, rfl⟩
    · right
      rw [c2]
      exact ⟨by simpa using c1, by split <;> rfl⟩
  · simp at h

set_option maxRecDepth 20000 in
set_option maxHeartbeats 2000000 in
theorem rrec_any (s : ByteArray) (p : Nat) (w : World) (hs : s.size ≤ 4096) : Calls Try.prog 41 #[.string s, .int .i64 (p : Int)] w (RecP s p w) := by
  have KB := rz w
  have hb : Below w.heap.size w _ := lay (Below.refl _ _) (.cells #[.string ⟨#[]⟩, .int .i64 0, .int .i64 0, .int .i64 0, .string ⟨#[]⟩] 54)
  have hcq := fun u => rque_any s p u hs
  have t1 : True := trivial
  go_enter Try.func41, Try.ntmps41
  go_wp2_with (first
    | (go_at_call 40; go_must (refine (hcq _).mono ?_); rintro e w1 ⟨q, a, ok, rfl, bb, ha, hq⟩; obtain ⟨qn, qt, qc⟩ := q; have HQ : Hid (Alt ok (getQ s p = some (⟨qn, qt, qc⟩, a)) (getQ s p = none)) := hq; replace KB := KB.below bb; replace hb := next hb bb; have c0 : w1.cell? ⟨w.heap.size, 0, none⟩ = some (.string ⟨#[]⟩) := KB.cell 0; have f0 := KB.frozen 0; have c1 : w1.cell? ⟨w.heap.size, 1, none⟩ = some (.int .i64 0) := KB.cell 1; have f1 := KB.frozen 1; have c2 : w1.cell? ⟨w.heap.size, 2, none⟩ = some (.int .i64 0) := KB.cell 2; have f2 := KB.frozen 2; have c3 : w1.cell? ⟨w.heap.size, 3, none⟩ = some (.int .i64 0) := KB.cell 3; have f3 := KB.frozen 3; have c4 : w1.cell? ⟨w.heap.size, 4, none⟩ = some (.string ⟨#[]⟩) := KB.cell 4; have f4 := KB.frozen 4; have klt := KB.lt; clear bb hq hcq; cases ok)
    | (go_at_call 44; have _t := t1; obtain ⟨l, b, E, h1, hb1, hl1, hE⟩ := rnum_l s a 4 hs (by decide); go_must (refine (h1 _).mono ?_); rintro e w' ⟨rfl, hw⟩; obtain rfl := hw.symm; clear t1 _t h1; rcases hE with ⟨rfl, e1⟩ | ⟨rfl, e1⟩ <;> have HE : Hid _ := e1 <;> clear e1)
    | (go_at_call 44; obtain ⟨z, d, F, h2, hd1, hz1, hF⟩ := rnum_l s b 2 hs (by decide); go_must (refine (h2 _).mono ?_); rintro e w' ⟨rfl, hw⟩; obtain rfl := hw.symm; clear h2; rcases hF with ⟨rfl, e1⟩ | ⟨rfl, e1⟩ <;> have HF : Hid _ := e1 <;> clear e1)
    | (go_at_call 67; obtain ⟨D, G, h3, hG⟩ := rdt_form s d z qt hs; go_must (refine (h3 _).mono ?_); rintro e w2 ⟨rfl, bb⟩; have HG : Hid ((G = 0 ∧ d + z ≤ s.size ∧ dataOf s.data.toList d z qt = some D.data.toList) ∨ (G ≠ 0 ∧ (s.size < d + z ∨ dataOf s.data.toList d z qt = none))) := hG; replace KB := (KB.alloc _).below bb; have KQ := (Blk.new w1 #[.string qn, .int .i64 qt, .int .i64 qc] 46).below bb; replace hb := next (lay hb _) bb; clear c0 c1 c2 c3 c4 f0 f1 f2 f3 f4; have c0 : w2.cell? ⟨w.heap.size, 0, none⟩ = some (.string ⟨#[]⟩) := KB.cell 0; have f0 := KB.frozen 0; have c1 : w2.cell? ⟨w.heap.size, 1, none⟩ = some (.int .i64 0) := KB.cell 1; have f1 := KB.frozen 1; have c2 : w2.cell? ⟨w.heap.size, 2, none⟩ = some (.int .i64 0) := KB.cell 2; have f2 := KB.frozen 2; have c3 : w2.cell? ⟨w.heap.size, 3, none⟩ = some (.int .i64 0) := KB.cell 3; have f3 := KB.frozen 3; have c4 : w2.cell? ⟨w.heap.size, 4, none⟩ = some (.string ⟨#[]⟩) := KB.cell 4; have f4 := KB.frozen 4; have k0 : w2.cell? ⟨w1.heap.size, 0, none⟩ = some (.string qn) := KQ.cell 0; have k1 : w2.cell? ⟨w1.heap.size, 1, none⟩ = some (.int .i64 qt) := KQ.cell 1; have k2 : w2.cell? ⟨w1.heap.size, 2, none⟩ = some (.int .i64 qc) := KQ.cell 2; clear h3 hG bb))
  · skip
    obtain ⟨qb, q⟩ := rz_set (n := ⟨#[]⟩) (t := 0) (c := 0) (l := 0) (d := ⟨#[]⟩) hb KB
    clear c0 c1 c2 c3 c4 f0 f1 f2 f3 f4 hb KB
    revert qb q
    generalize (((((w1.setCell ⟨w.heap.size, 0, none⟩ (.string ⟨#[]⟩)).setCell ⟨w.heap.size, 1, none⟩ (.int .i64 0)).setCell ⟨w.heap.size, 2, none⟩ (.int .i64 0)).setCell ⟨w.heap.size, 3, none⟩ (.int .i64 0)).setCell ⟨w.heap.size, 4, none⟩ (.string ⟨#[]⟩)) = V
    intro qb q
    replace q := q.alloc (.cells #[.string qn, .int .i64 qt, .int .i64 qc] 46)
    replace qb := lay qb (.cells #[.string qn, .int .i64 qt, .int .i64 qc] 46)
    have m0 := q.cell 0
    have m1 := q.cell 1
    have m2 := q.cell 2
    have m3 := q.cell 3
    have m4 := q.cell 4
    refine bodyPost_ret (v := .tuple #[.agg #[.string ⟨#[]⟩, .int .i64 0, .int .i64 0, .int .i64 0, .string ⟨#[]⟩], .int .i64 0, .bool false]) (by simp [results, Try.results41, go_sem, m0, m1, m2, m3, m4]) rfl ⟨⟨⟨#[]⟩, 0, 0, 0, ⟨#[]⟩⟩, 0, false, rfl, qb, by decide, .inr ⟨rfl, rec_no HQ.out⟩⟩
  · obtain ⟨qb, q⟩ := rz_set (n := qn) (t := qt) (c := qc) (l := (l : Int)) (d := D) hb KB
    have hfin := rec_fin HQ.out HE.out HF.out HG.out
    clear c0 c1 c2 c3 c4 f0 f1 f2 f3 f4 hb KB
    revert qb q
    generalize (((((w2.setCell ⟨w.heap.size, 0, none⟩ (.string qn)).setCell ⟨w.heap.size, 1, none⟩ (.int .i64 qt)).setCell ⟨w.heap.size, 2, none⟩ (.int .i64 qc)).setCell ⟨w.heap.size, 3, none⟩ (.int .i64 (l : Int))).setCell ⟨w.heap.size, 4, none⟩ (.string D)) = V
    intro qb q
    have m0 := q.cell 0
    have m1 := q.cell 1
    have m2 := q.cell 2
    have m3 := q.cell 3
    have m4 := q.cell 4
    refine bodyPost_ret (v := .tuple #[.agg #[.string qn, .int .i64 qt, .int .i64 qc, .int .i64 (l : Int), .string D], .int .i64 ((d : Int) + (z : Int)), .bool (G == 0)]) (by simp [results, Try.results41, go_sem, m0, m1, m2, m3, m4]) rfl ⟨⟨qn, qt, qc, (l : Int), D⟩, d + z, (G == 0), by rw [Int.natCast_add], qb, by omega, hfin⟩
  · skip
    obtain ⟨qb, q⟩ := rz_set (n := ⟨#[]⟩) (t := 0) (c := 0) (l := 0) (d := ⟨#[]⟩) hb KB
    clear c0 c1 c2 c3 c4 f0 f1 f2 f3 f4 hb KB
    revert qb q
    generalize (((((w1.setCell ⟨w.heap.size, 0, none⟩ (.string ⟨#[]⟩)).setCell ⟨w.heap.size, 1, none⟩ (.int .i64 0)).setCell ⟨w.heap.size, 2, none⟩ (.int .i64 0)).setCell ⟨w.heap.size, 3, none⟩ (.int .i64 0)).setCell ⟨w.heap.size, 4, none⟩ (.string ⟨#[]⟩)) = V
    intro qb q
    replace q := q.alloc (.cells #[.string qn, .int .i64 qt, .int .i64 qc] 46)
    replace qb := lay qb (.cells #[.string qn, .int .i64 qt, .int .i64 qc] 46)
    have m0 := q.cell 0
    have m1 := q.cell 1
    have m2 := q.cell 2
    have m3 := q.cell 3
    have m4 := q.cell 4
    refine bodyPost_ret (v := .tuple #[.agg #[.string ⟨#[]⟩, .int .i64 0, .int .i64 0, .int .i64 0, .string ⟨#[]⟩], .int .i64 0, .bool false]) (by simp [results, Try.results41, go_sem, m0, m1, m2, m3, m4]) rfl ⟨⟨⟨#[]⟩, 0, 0, 0, ⟨#[]⟩⟩, 0, false, rfl, qb, by decide, .inr ⟨rfl, rec_bad HQ.out (by have := HE.out; have := HF.out; omega)⟩⟩
  · skip
    obtain ⟨qb, q⟩ := rz_set (n := ⟨#[]⟩) (t := 0) (c := 0) (l := 0) (d := ⟨#[]⟩) hb KB
    clear c0 c1 c2 c3 c4 f0 f1 f2 f3 f4 hb KB
    revert qb q
    generalize (((((w1.setCell ⟨w.heap.size, 0, none⟩ (.string ⟨#[]⟩)).setCell ⟨w.heap.size, 1, none⟩ (.int .i64 0)).setCell ⟨w.heap.size, 2, none⟩ (.int .i64 0)).setCell ⟨w.heap.size, 3, none⟩ (.int .i64 0)).setCell ⟨w.heap.size, 4, none⟩ (.string ⟨#[]⟩)) = V
    intro qb q
    replace q := q.alloc (.cells #[.string qn, .int .i64 qt, .int .i64 qc] 46)
    replace qb := lay qb (.cells #[.string qn, .int .i64 qt, .int .i64 qc] 46)
    have m0 := q.cell 0
    have m1 := q.cell 1
    have m2 := q.cell 2
    have m3 := q.cell 3
    have m4 := q.cell 4
    refine bodyPost_ret (v := .tuple #[.agg #[.string ⟨#[]⟩, .int .i64 0, .int .i64 0, .int .i64 0, .string ⟨#[]⟩], .int .i64 0, .bool false]) (by simp [results, Try.results41, go_sem, m0, m1, m2, m3, m4]) rfl ⟨⟨⟨#[]⟩, 0, 0, 0, ⟨#[]⟩⟩, 0, false, rfl, qb, by decide, .inr ⟨rfl, rec_bad HQ.out (by have := HE.out; omega)⟩⟩
  · skip
    obtain ⟨qb, q⟩ := rz_set (n := ⟨#[]⟩) (t := 0) (c := 0) (l := 0) (d := ⟨#[]⟩) hb KB
    clear c0 c1 c2 c3 c4 f0 f1 f2 f3 f4 hb KB
    revert qb q
    generalize (((((w1.setCell ⟨w.heap.size, 0, none⟩ (.string ⟨#[]⟩)).setCell ⟨w.heap.size, 1, none⟩ (.int .i64 0)).setCell ⟨w.heap.size, 2, none⟩ (.int .i64 0)).setCell ⟨w.heap.size, 3, none⟩ (.int .i64 0)).setCell ⟨w.heap.size, 4, none⟩ (.string ⟨#[]⟩)) = V
    intro qb q
    replace q := q.alloc (.cells #[.string qn, .int .i64 qt, .int .i64 qc] 46)
    replace qb := lay qb (.cells #[.string qn, .int .i64 qt, .int .i64 qc] 46)
    have m0 := q.cell 0
    have m1 := q.cell 1
    have m2 := q.cell 2
    have m3 := q.cell 3
    have m4 := q.cell 4
    refine bodyPost_ret (v := .tuple #[.agg #[.string ⟨#[]⟩, .int .i64 0, .int .i64 0, .int .i64 0, .string ⟨#[]⟩], .int .i64 0, .bool false]) (by simp [results, Try.results41, go_sem, m0, m1, m2, m3, m4]) rfl ⟨⟨⟨#[]⟩, 0, 0, 0, ⟨#[]⟩⟩, 0, false, rfl, qb, by decide, .inr ⟨rfl, rec_bad HQ.out (by have := HE.out; omega)⟩⟩

end Go.Proofs.Ytcapankhobnfeaa
