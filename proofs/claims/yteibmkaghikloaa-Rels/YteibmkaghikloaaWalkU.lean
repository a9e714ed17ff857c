/- What Compare of the document's answers gives, for every two strings. -/
import Derived.Test.YteibmkaghikloaaWalkT
import Derived.LoopN
namespace Go.Proofs.Yteibmkaghikloaa
open Go.RowKit
open Pl

theorem less_lex : ∀ x y : List UInt8, Op.bytesLess x y = decide (lexG cB x y = -1) := by
  intro x
  induction x with
  | nil =>
    intro y
    cases y with
    | nil => simp [Op.bytesLess, lexG]
    | cons b y => simp [Op.bytesLess, lexG]
  | cons a x ih =>
    intro y
    cases y with
    | nil => simp [Op.bytesLess, lexG]
    | cons b y =>
      rw [Op.bytesLess, ih y, lexG]
      have hl : decide (a < b) = decide (a.toNat < b.toNat) := by rw [Bool.eq_iff_iff]; simp [UInt8.lt_iff_toNat_lt]
      have he : (a == b) = decide (a.toNat = b.toNat) := by rw [Bool.eq_iff_iff]; simp [UInt8.toNat_inj]
      rw [hl, he]
      unfold cB sgn
      rcases Nat.lt_trichotomy a.toNat b.toNat with h | h | h
      · have h1 : (a.toNat : Int) < (b.toNat : Int) := by omega
        have h2 : ¬ a.toNat = b.toNat := by omega
        simp [h, h2]
      · have h1 : ¬ a.toNat < b.toNat := by omega
        have h2 : ¬ b.toNat < a.toNat := by omega
        simp [h]
      · have h1 : ¬ a.toNat < b.toNat := by omega
        have h2 : ¬ a.toNat = b.toNat := by omega
        simp [h, h1, h2]

/-- A row of strings, as a slice and its cells. -/
theorem str_row {w : World} {base n : Nat} {v : Value} {ss : List ByteArray} (h : w.ownsRow base 9 1 v n (ss.map Value.string)) :
    ∃ a c, v = .slice a n c ∧ (n = 0 ∨ ∃ g, a = some ⟨g, 0, none⟩ ∧ ∀ j (hj : j < ss.length), w.cell? ⟨g, j, none⟩ = some (.string ss[j])) := by
  rcases h.2 with ⟨rfl, rfl⟩ | ⟨g, cap, cur, rfl, hb, hg, hnc, hm, hcs, htake⟩
  · exact ⟨none, 0, rfl, .inl rfl⟩
  · refine ⟨_, _, rfl, .inr ⟨g, rfl, fun j hj => ?_⟩⟩
    have hn : ss.length = n := by simpa using h.1
    rw [h.cellAt j (by omega)]
    simp [hj]

theorem cmpK_start (a b : List UInt8) : cmpN a b = lexG (lexG cB) ((fl a).drop 0) ((fl b).drop 0) := rfl

theorem cmpK_step {a b : List UInt8} {ss tt : List ByteArray} {k : Nat} (ha : Strs a ss) (hb : Strs b tt) (h : cmpN a b = lexG (lexG cB) ((fl a).drop k) ((fl b).drop k)) (h1 : k < ss.length) (h2 : k < tt.length) :
    cmpN a b = if lexG cB ss[k].data.toList tt[k].data.toList = 0 then lexG (lexG cB) ((fl a).drop (k + 1)) ((fl b).drop (k + 1)) else lexG cB ss[k].data.toList tt[k].data.toList := by
  unfold Strs at ha hb
  have l1 : (fl a).length = ss.length := by rw [← ha]; simp
  have l2 : (fl b).length = tt.length := by rw [← hb]; simp
  rw [h, lexG_drop ord_ord _ _ k (by omega) (by omega)]
  have e : ∀ (l : List (List UInt8)) (rs : List ByteArray) (i : Nat) (hi : i < l.length) (hj : i < rs.length), rs.map (fun s => s.data.toList) = l → l[i] = rs[i].data.toList := by
    intro l rs i hi hj e; subst e; simp
  rw [e _ _ _ (by omega) h1 ha, e _ _ _ (by omega) h2 hb]

theorem less_as {X Y : ByteArray} {b : Bool} (h : decide (lexG cB X.data.toList Y.data.toList = -1) = b) : Op.bytesLess X.toList Y.toList = b := by
  rw [ByteArray.toList_eq, ByteArray.toList_eq, less_lex]; exact h
theorem gtr_as {X Y : ByteArray} {b : Bool} (h : decide (lexG cB X.data.toList Y.data.toList = 1) = b) : binOp .gtr 9 (.string X) (.string Y) = pure (.bool b) := by
  have e : binOp .gtr 9 (.string X) (.string Y) = pure (.bool !(Op.bytesLess X.toList Y.toList || X.toList == Y.toList)) := by simp [binOp, Op.stringOp]
  rw [e, ← h, ByteArray.toList_eq, ByteArray.toList_eq, less_lex]
  congr 2
  rw [Bool.eq_iff_iff]
  have hz := ord_ord.zero X.data.toList Y.data.toList
  rcases ord_ord.three X.data.toList Y.data.toList with h3 | h3 | h3
  · rw [h3]; simp
  · have := hz.1 h3
    rw [h3]; simp [this]
  · have hne : X.data.toList ≠ Y.data.toList := fun e => by have := hz.2 e; omega
    rw [h3]; simp; exact fun e => hne (by rw [e])

set_option maxRecDepth 20000 in
set_option maxHeartbeats 2000000 in
theorem refCompare_any (a b : ByteArray) (w : World) (ha : a.size ≤ maxLen) (hb : b.size ≤ maxLen) :
    Calls Try.prog 23 #[.string a, .string b] w fun e w' => e = .returned (.int .i64 (cmpN a.data.toList b.data.toList)) ∧ Below w.heap.size w w' := by
  obtain ⟨n, hn⟩ : ∃ n, n = (fl a.data.toList).length := ⟨_, rfl⟩
  obtain ⟨m, hm⟩ : ∃ m, m = (fl b.data.toList).length := ⟨_, rfl⟩
  have HN : Hid (n = (fl a.data.toList).length) := hn
  have HM : Hid (m = (fl b.data.toList).length) := hm
  have hn127 : n ≤ 127 := by
    rw [hn, fl_len]
    cases h : isName a.data.toList with
    | true => exact few h
    | false => rw [labs_none h]; simp
  have hm127 : m ≤ 127 := by
    rw [hm, fl_len]
    cases h : isName b.data.toList with
    | true => exact few h
    | false => rw [labs_none h]; simp
  clear hn hm
  have t1 : True := trivial
  have t2 : True := trivial
  go_enter Try.func23, Try.ntmps23
  go_wp2_with (first
    | (go_at_call 39; have _t := t1; refine (labels_any a _ ha).mono ?_; rintro e w1 ⟨v1, ss, rfl, ho1, hs1, b1⟩; clear t1)
    | (go_at_call 39; have _t := t2; refine (labels_any b _ hb).mono ?_; rintro e w2 ⟨v2, tt, rfl, ho2, hs2, b2⟩; clear t2; rw [← HM.out] at ho2; rw [← HN.out] at ho1; have ho3 := (ho1.kept (w' := w2) (row := none) (by obtain ⟨e1, e2, e3, e4, e5⟩ := b2; exact ⟨e1, e2, e3, e4, fun k hk _ => e5 k hk⟩) (by cases hv : v1.ownBlock <;> simp)); obtain ⟨x1, c1, rfl, hr1⟩ := str_row ho3; obtain ⟨x2, c2, rfl, hr2⟩ := str_row ho2; have hl1 : ss.length = n := (by simpa using ho1.1); have hl2 : tt.length = m := (by simpa using ho2.1); clear ho1 ho2 ho3))
  have HB : Hid (Below w.heap.size w w2) := next b1 b2
  have HS1 : Hid (Strs a.data.toList ss) := hs1
  have HS2 : Hid (Strs b.data.toList tt) := hs2
  have HL1 : Hid (ss.length = n) := hl1
  have HL2 : Hid (tt.length = m) := hl2
  have HEND : Hid (∀ k, (k = n ∨ k = m) → k ≤ n → k ≤ m → cmpN a.data.toList b.data.toList = lexG (lexG cB) ((fl a.data.toList).drop k) ((fl b.data.toList).drop k) → sgn (n : Int) (m : Int) = cmpN a.data.toList b.data.toList) := by
    intro k h1 h2 h3 h4
    rw [h4, lexG_end _ _ k (by rw [← HN.out, ← HM.out]; exact h1) (by rw [← HN.out]; exact h2) (by rw [← HM.out]; exact h3), ← HN.out, ← HM.out]
  clear b1 b2 hs1 hs2 hl1 hl2
  by_cases hz : n = 0 ∨ m = 0
  · have hres := HEND.out 0 (by omega) (by omega) (by omega) (cmpK_start _ _)
    have HRES : Hid (sgn (n : Int) (m : Int) = cmpN a.data.toList b.data.toList) := hres
    have hz2 : decide (0 < n) = false ∨ (decide (0 < n) = true ∧ decide (0 < m) = false) := by
      by_cases h0 : n = 0
      · exact .inl (by simp; omega)
      · exact .inr ⟨by simp; omega, by simp; omega⟩
    clear hres hr1 hr2
    rcases hz2 with e0 | ⟨e0, e3⟩
    all_goals
      refine wp_loop_rounds 1 ?_
      rw [rounds_succ]
      rcases Nat.lt_trichotomy n m with hlt | heq | hgt
      · have hv : Hid ((-1 : Int) = cmpN a.data.toList b.data.toList) := by unfold Hid; rw [← HRES.out]; unfold sgn; rw [if_pos (by omega)]
        have e1 : decide (n < m) = true := by simpa using hlt
        clear hlt
        go_wp2
        go_ret
        exact ⟨ret_int hv.out, HB.out⟩
      · have hv : Hid ((0 : Int) = cmpN a.data.toList b.data.toList) := by unfold Hid; rw [← HRES.out]; unfold sgn; rw [if_neg (by omega), if_neg (by omega)]
        have e1 : decide (n < m) = false := by simp; omega
        have e2 : decide (m < n) = false := by simp; omega
        clear heq
        go_wp2
        go_ret
        exact ⟨ret_int hv.out, HB.out⟩
      · have hv : Hid ((1 : Int) = cmpN a.data.toList b.data.toList) := by unfold Hid; rw [← HRES.out]; unfold sgn; rw [if_neg (by omega), if_pos (by omega)]
        have e1 : decide (n < m) = false := by simp; omega
        have e2 : decide (m < n) = true := by simpa using hgt
        clear hgt
        go_wp2
        go_ret
        exact ⟨ret_int hv.out, HB.out⟩
  · obtain ⟨g1, rfl, hc1⟩ := hr1.resolve_left (by omega)
    obtain ⟨g2, rfl, hc2⟩ := hr2.resolve_left (by omega)
    have HC1 : Hid (∀ j (hj : j < ss.length), w2.cell? ⟨g1, j, none⟩ = some (.string ss[j])) := hc1
    have HC2 : Hid (∀ j (hj : j < tt.length), w2.cell? ⟨g2, j, none⟩ = some (.string tt[j])) := hc2
    clear hr1 hr2 hc1 hc2 hz
    go_loopw [7] (fun i wr => ∃ (k : Nat), k ≤ n ∧ k ≤ m ∧ i = .int .i64 k ∧ Hid (∃ q, wr = w2.drewN q) ∧ Hid (cmpN a.data.toList b.data.toList = lexG (lexG cB) ((fl a.data.toList).drop k) ((fl b.data.toList).drop k))) (fun i _ => n - (intOf i).toNat)
    case atStart => exact ⟨0, Nat.zero_le _, Nat.zero_le _, rfl, ⟨0, rfl⟩, cmpK_start _ _⟩
    case round =>
      obtain ⟨k, hkn, hkm, rfl, hdr, hc⟩ := hrel
      by_cases hkk : k < n ∧ k < m
      · obtain ⟨hk1, hk2⟩ := hkk
        have hks : k < ss.length := by have := HL1.out; omega
        have hkt : k < tt.length := by have := HL2.out; omega
        have hcx : wr.cell? ⟨g1, k, none⟩ = some (.string ss[k]) := by rw [drew_cell hdr.out]; exact HC1.out k hks
        have hcy : wr.cell? ⟨g2, k, none⟩ = some (.string tt[k]) := by rw [drew_cell hdr.out]; exact HC2.out k hkt
        have hst := cmpK_step HS1.out HS2.out hc.out hks hkt
        obtain ⟨X, hX⟩ : ∃ X, X = ss[k] := ⟨_, rfl⟩
        obtain ⟨Y, hY⟩ : ∃ Y, Y = tt[k] := ⟨_, rfl⟩
        rw [← hX] at hcx hst
        rw [← hY] at hcy hst
        have hk1' : (k : Int) < (n : Int) := by omega
        have hk2' : (k : Int) < (m : Int) := by omega
        have e0 : decide (k < n) = true := by simpa using hk1
        have e3 : decide (k < m) = true := by simpa using hk2
        clear hX hY
        rcases ord_ord.three X.data.toList Y.data.toList with h3 | h3 | h3
        · have hv : Hid ((-1 : Int) = cmpN a.data.toList b.data.toList) := by unfold Hid; rw [hst, h3]; simp
          have hl : Op.bytesLess X.toList Y.toList = true := less_as (by rw [h3]; rfl)
          clear hst h3
          go_wp2
          go_quiet (fail)
          go_wp2
          go_ret
          exact ⟨ret_int hv.out, next HB.out (below_drew (drew_more hdr.out))⟩
        · have HX : Hid (cmpN a.data.toList b.data.toList = lexG (lexG cB) ((fl a.data.toList).drop (k + 1)) ((fl b.data.toList).drop (k + 1))) := by unfold Hid; rw [hst, if_pos h3]
          have hl : Op.bytesLess X.toList Y.toList = false := less_as (by rw [h3]; rfl)
          have hg : binOp .gtr 9 (.string X) (.string Y) = pure (.bool false) := gtr_as (by rw [h3]; rfl)
          clear hst h3
          go_wp2
          go_quiet (fail)
          obtain ⟨wq, hwq⟩ : ∃ u : World, u = wr.drewN nq := ⟨_, rfl⟩
          rw [← hwq]
          have hcx' : wq.cell? ⟨g1, k, none⟩ = some (.string X) := by rw [hwq]; exact hcx
          have hcy' : wq.cell? ⟨g2, k, none⟩ = some (.string Y) := by rw [hwq]; exact hcy
          have HDQ : Hid (∃ q, wq = w2.drewN q) := by rw [hwq]; exact drew_more hdr.out
          clear hwq hcx hcy
          go_wp2
          go_quiet (fail)
          go_wp2
          go_roundw
          case rel => exact ⟨k + 1, by omega, by omega, by go_num, drew_more HDQ.out, HX⟩
          case measure => simp [intOf]; omega
        · have hv : Hid ((1 : Int) = cmpN a.data.toList b.data.toList) := by unfold Hid; rw [hst, h3]; simp
          have hl : Op.bytesLess X.toList Y.toList = false := less_as (by rw [h3]; rfl)
          have hg : binOp .gtr 9 (.string X) (.string Y) = pure (.bool true) := gtr_as (by rw [h3]; rfl)
          clear hst h3
          go_wp2
          go_quiet (fail)
          obtain ⟨wq, hwq⟩ : ∃ u : World, u = wr.drewN nq := ⟨_, rfl⟩
          rw [← hwq]
          have hcx' : wq.cell? ⟨g1, k, none⟩ = some (.string X) := by rw [hwq]; exact hcx
          have hcy' : wq.cell? ⟨g2, k, none⟩ = some (.string Y) := by rw [hwq]; exact hcy
          have HDQ : Hid (∃ q, wq = w2.drewN q) := by rw [hwq]; exact drew_more hdr.out
          clear hwq hcx hcy
          go_wp2
          go_quiet (fail)
          go_wp2
          go_ret
          exact ⟨ret_int hv.out, next HB.out (below_drew (drew_more HDQ.out))⟩
      · have hres := HEND.out k (by omega) hkn hkm hc.out
        have HRES : Hid (sgn (n : Int) (m : Int) = cmpN a.data.toList b.data.toList) := hres
        have hz2 : decide (k < n) = false ∨ (decide (k < n) = true ∧ decide (k < m) = false) := by
          by_cases h0 : k < n
          · exact .inr ⟨by simpa using h0, by simp; omega⟩
          · exact .inl (by simp; omega)
        clear hres hkk
        rcases hz2 with e0 | ⟨e0, e3⟩
        all_goals
          rcases Nat.lt_trichotomy n m with hlt | heq | hgt
          · have hv : Hid ((-1 : Int) = cmpN a.data.toList b.data.toList) := by unfold Hid; rw [← HRES.out]; unfold sgn; rw [if_pos (by omega)]
            have e1 : decide (n < m) = true := by simpa using hlt
            clear hlt
            go_wp2
            go_ret
            exact ⟨ret_int hv.out, next HB.out (below_drew hdr.out)⟩
          · have hv : Hid ((0 : Int) = cmpN a.data.toList b.data.toList) := by unfold Hid; rw [← HRES.out]; unfold sgn; rw [if_neg (by omega), if_neg (by omega)]
            have e1 : decide (n < m) = false := by simp; omega
            have e2 : decide (m < n) = false := by simp; omega
            clear heq
            go_wp2
            go_ret
            exact ⟨ret_int hv.out, next HB.out (below_drew hdr.out)⟩
          · have hv : Hid ((1 : Int) = cmpN a.data.toList b.data.toList) := by unfold Hid; rw [← HRES.out]; unfold sgn; rw [if_neg (by omega), if_pos (by omega)]
            have e1 : decide (n < m) = false := by simp; omega
            have e2 : decide (m < n) = true := by simpa using hgt
            clear hgt
            go_wp2
            go_ret
            exact ⟨ret_int hv.out, next HB.out (below_drew hdr.out)⟩

end Go.Proofs.Yteibmkaghikloaa
