/- What Compare of the document's answers gives, for every two strings. -/
import Derived.Test.YtcmhjlflgedcdaaXP3
import Derived.LoopN
import Derived.Test.YtcmhjlflgedcdaaXP2
import Derived.Deep.DeepCutAuto
import Derived.Maps.OwnSet
import Derived.Maps.OwnOps
import Derived.Maps.RangeWalk
import Derived.DeepKeys4
import Derived.Test.YtcmhjlflgedcdaaXP1
import Derived.Deep.WholeRow
import Derived.Deep.RegionHeld3
import Derived.Laws.StructEq
import Derived.Laws.IdiomRangeMap
import Derived.Deep.RegionLaw
import Derived.Carry
namespace Go.Proofs.Ytcmhjlflgedcdaa
open Go.RowKit
open Pl

theorem less_lex : ∀ x y : List UInt8, Op.bytesLess x y = decide (lexG cB x y = -1) := by
  intro x
  induction x with
  | nil =>
    intro y
    cases y with
    | nil => simp [Op.bytesLess, lexG]
    | cons b y => simp [Op.bytesLess, lexG]
  | cons a x ih =>
    intro y
    cases y with
    | nil => simp [Op.bytesLess, lexG]
    | cons b y =>
      rw [Op.bytesLess, ih y, lexG]
      have hl : decide (a < b) = decide (a.toNat < b.toNat) := by rw [Bool.eq_iff_iff]; simp [UInt8.lt_iff_toNat_lt]
      have he : (a == b) = decide (a.toNat = b.toNat) := by rw [Bool.eq_iff_iff]; simp [UInt8.toNat_inj]
      rw [hl, he]
      unfold cB sgn
      rcases Nat.lt_trichotomy a.toNat b.toNat with h | h | h
      · have h1 : (a.toNat : Int) < (b.toNat : Int) := by omega
        have h2 : ¬ a.toNat = b.toNat := by omega
        simp [h, h2]
      · have h1 : ¬ a.toNat < b.toNat := by omega
        have h2 : ¬ b.toNat < a.toNat := by omega
        simp [h]
      · have h1 : ¬ a.toNat < b.toNat := by omega
        have h2 : ¬ a.toNat = b.toNat := by omega
        simp [h, h1, h2]

/-- A row of strings, as a slice and its cells. -/
theorem str_row {w : World} {base n : Nat} {v : Value} {ss : List ByteArray} (h : w.ownsRow base 9 1 v n (ss.map Value.string)) :
    ∃ a c, v = .slice a n c ∧ (n = 0 ∨ ∃ g, a = some ⟨g, 0, none⟩ ∧ ∀ j (hj : j < ss.length), w.cell? ⟨g, j, none⟩ = some (.string ss[j])) := by
  rcases h.2 with ⟨rfl, rfl⟩ | ⟨g, cap, cur, rfl, hb, hg, hnc, hm, hcs, htake⟩
  · exact ⟨none, 0, rfl, .inl rfl⟩
  · refine ⟨_, _, rfl, .inr ⟨g, rfl, fun j hj => ?_⟩⟩
    have hn : ss.length = n := by simpa using h.1
    rw [h.cellAt j (by omega)]
    simp [hj]

theorem cmpK_start (a b : List UInt8) : cmpN a b = lexG (lexG cB) ((fl a).drop 0) ((fl b).drop 0) := rfl

theorem cmpK_step {a b : List UInt8} {ss tt : List ByteArray} {k : Nat} (ha : Strs a ss) (hb : Strs b tt) (h : cmpN a b = lexG (lexG cB) ((fl a).drop k) ((fl b).drop k)) (h1 : k < ss.length) (h2 : k < tt.length) :
    cmpN a b = if lexG cB ss[k].data.toList tt[k].data.toList = 0 then lexG (lexG cB) ((fl a).drop (k + 1)) ((fl b).drop (k + 1)) else lexG cB ss[k].data.toList tt[k].data.toList := by
  unfold Strs at ha hb
  have l1 : (fl a).length = ss.length := by rw [← ha]; simp
  have l2 : (fl b).length = tt.length := by rw [← hb]; simp
  rw [h, lexG_drop ord_ord _ _ k (by omega) (by omega)]
  have e : ∀ (l : List (List UInt8)) (rs : List ByteArray) (i : Nat) (hi : i < l.length) (hj : i < rs.length), rs.map (fun s => s.data.toList) = l → l[i] = rs[i].data.toList := by
    intro l rs i hi hj e; subst e; simp
  rw [e _ _ _ (by omega) h1 ha, e _ _ _ (by omega) h2 hb]

theorem less_as {X Y : ByteArray} {b : Bool} (h : decide (lexG cB X.data.toList Y.data.toList = -1) = b) : Op.bytesLess X.toList Y.toList = b := by
  rw [ByteArray.toList_eq, ByteArray.toList_eq, less_lex]; exact h
theorem gtr_as {X Y : ByteArray} {b : Bool} (h : decide (lexG cB X.data.toList Y.data.toList = 1) = b) : binOp .gtr 9 (.string X) (.string Y) = pure (.bool b) := by
  have e : binOp .gtr 9 (.string X) (.string Y) = pure (.bool !(Op.bytesLess X.toList Y.toList || X.toList == Y.toList)) := by simp [binOp, Op.stringOp]
  rw [e, ← h, ByteArray.toList_eq, ByteArray.toList_eq, less_lex]
  congr 2
  rw [Bool.eq_iff_iff]
  have hz := ord_ord.zero X.data.toList Y.data.toList
  rcases ord_ord.three X.data.toList Y.data.toList with h3 | h3 | h3
  · rw [h3]; simp
  · have := hz.1 h3
    rw [h3]; simp [this]
  · have hne : X.data.toList ≠ Y.data.toList := fun e => by have := hz.2 e; omega
    rw [h3]; simp; exact fun e => hne (by rw [e])

set_option maxRecDepth 20000 in
set_option maxHeartbeats 2000000 in
theorem refCompare_any (a b : ByteArray) (w : World) (ha : a.size ≤ maxLen) (hb : b.size ≤ maxLen) :
    Calls Try.prog 29 #[.string a, .string b] w fun e w' => e = .returned (.int .i64 (cmpN a.data.toList b.data.toList)) ∧ Below w.heap.size w w' := by
  obtain ⟨n, hn⟩ : ∃ n, n = (fl a.data.toList).length := ⟨_, rfl⟩
  obtain ⟨m, hm⟩ : ∃ m, m = (fl b.data.toList).length := ⟨_, rfl⟩
  have HN : Hid (n = (fl a.data.toList).length) := hn
  have HM : Hid (m = (fl b.data.toList).length) := hm
  have hn127 : n ≤ 127 := by
    rw [hn, fl_len]
    cases h : isName a.data.toList with
    | true => exact few h
    | false => rw [labs_none h]; simp
  have hm127 : m ≤ 127 := by
    rw [hm, fl_len]
    cases h : isName b.data.toList with
    | true => exact few h
    | false => rw [labs_none h]; simp
  clear hn hm
  have t1 : True := trivial
  have t2 : True := trivial
  go_enter Try.func29, Try.ntmps29
  go_wp2_with (first
    | (go_at_call 43; have _t := t1; refine (labels_any a _ ha).mono ?_; rintro e w1 ⟨v1, ss, rfl, ho1, hs1, b1⟩; clear t1)
    | (go_at_call 43; have _t := t2; refine (labels_any b _ hb).mono ?_; rintro e w2 ⟨v2, tt, rfl, ho2, hs2, b2⟩; clear t2; rw [← HM.out] at ho2; rw [← HN.out] at ho1; have ho3 := (ho1.kept (w' := w2) (row := none) (by obtain ⟨e1, e2, e3, e4, e5⟩ := b2; exact ⟨e1, e2, e3, e4, fun k hk _ => e5 k hk⟩) (by cases hv : v1.ownBlock <;> simp)); obtain ⟨x1, c1, rfl, hr1⟩ := str_row ho3; obtain ⟨x2, c2, rfl, hr2⟩ := str_row ho2; have hl1 : ss.length = n := (by simpa using ho1.1); have hl2 : tt.length = m := (by simpa using ho2.1); clear ho1 ho2 ho3))
  have HB : Hid (Below w.heap.size w w2) := next b1 b2
  have HS1 : Hid (Strs a.data.toList ss) := hs1
  have HS2 : Hid (Strs b.data.toList tt) := hs2
  have HL1 : Hid (ss.length = n) := hl1
  have HL2 : Hid (tt.length = m) := hl2
  have HEND : Hid (∀ k, (k = n ∨ k = m) → k ≤ n → k ≤ m → cmpN a.data.toList b.data.toList = lexG (lexG cB) ((fl a.data.toList).drop k) ((fl b.data.toList).drop k) → sgn (n : Int) (m : Int) = cmpN a.data.toList b.data.toList) := by
    intro k h1 h2 h3 h4
    rw [h4, lexG_end _ _ k (by rw [← HN.out, ← HM.out]; exact h1) (by rw [← HN.out]; exact h2) (by rw [← HM.out]; exact h3), ← HN.out, ← HM.out]
  clear b1 b2 hs1 hs2 hl1 hl2
  by_cases hz : n = 0 ∨ m = 0
  · have hres := HEND.out 0 (by omega) (by omega) (by omega) (cmpK_start _ _)
    have HRES : Hid (sgn (n : Int) (m : Int) = cmpN a.data.toList b.data.toList) := hres
    have hz2 : decide (0 < n) = false ∨ (decide (0 < n) = true ∧ decide (0 < m) = false) := by
      by_cases h0 : n = 0
      · exact .inl (by simp; omega)
      · exact .inr ⟨by simp; omega, by simp; omega⟩
    clear hres hr1 hr2
    rcases hz2 with e0 | ⟨e0, e3⟩
    all_goals
      refine wp_loop_rounds 1 ?_
      rw [rounds_succ]
      rcases Nat.lt_trichotomy n m with hlt | heq | hgt
      · have hv : Hid ((-1 : Int) = cmpN a.data.toList b.data.toList) := by unfold Hid; rw [← HRES.out]; unfold sgn; rw [if_pos (by omega)]
        have e1 : decide (n < m) = true := by simpa using hlt
        clear hlt
        go_wp2
        go_ret
        exact ⟨ret_int hv.out, HB.out⟩
      · have hv : Hid ((0 : Int) = cmpN a.data.toList b.data.toList) := by unfold Hid; rw [← HRES.out]; unfold sgn; rw [if_neg (by omega), if_neg (by omega)]
        have e1 : decide (n < m) = false := by simp; omega
        have e2 : decide (m < n) = false := by simp; omega
        clear heq
        go_wp2
        go_ret
        exact ⟨ret_int hv.out, HB.out⟩
      · have hv : Hid ((1 : Int) = cmpN a.data.toList b.data.toList) := by unfold Hid; rw [← HRES.out]; unfold sgn; rw [if_neg (by omega), if_pos (by omega)]
        have e1 : decide (n < m) = false := by simp; omega
        have e2 : decide (m < n) = true := by simpa using hgt
        clear hgt
        go_wp2
        go_ret
        exact ⟨ret_int hv.out, HB.out⟩
  · obtain ⟨g1, rfl, hc1⟩ := hr1.resolve_left (by omega)
    obtain ⟨g2, rfl, hc2⟩ := hr2.resolve_left (by omega)
    have HC1 : Hid (∀ j (hj : j < ss.length), w2.cell? ⟨g1, j, none⟩ = some (.string ss[j])) := hc1
    have HC2 : Hid (∀ j (hj : j < tt.length), w2.cell? ⟨g2, j, none⟩ = some (.string tt[j])) := hc2
    clear hr1 hr2 hc1 hc2 hz
    go_loopw [7] (fun i wr => ∃ (k : Nat), k ≤ n ∧ k ≤ m ∧ i = .int .i64 k ∧ Hid (∃ q, wr = w2.drewN q) ∧ Hid (cmpN a.data.toList b.data.toList = lexG (lexG cB) ((fl a.data.toList).drop k) ((fl b.data.toList).drop k))) (fun i _ => n - (intOf i).toNat)
    case atStart => exact ⟨0, Nat.zero_le _, Nat.zero_le _, rfl, ⟨0, rfl⟩, cmpK_start _ _⟩
    case round =>
      obtain ⟨k, hkn, hkm, rfl, hdr, hc⟩ := hrel
      by_cases hkk : k < n ∧ k < m
      · obtain ⟨hk1, hk2⟩ := hkk
        have hks : k < ss.length := by have := HL1.out; omega
        have hkt : k < tt.length := by have := HL2.out; omega
        have hcx : wr.cell? ⟨g1, k, none⟩ = some (.string ss[k]) := by rw [drew_cell hdr.out]; exact HC1.out k hks
        have hcy : wr.cell? ⟨g2, k, none⟩ = some (.string tt[k]) := by rw [drew_cell hdr.out]; exact HC2.out k hkt
        have hst := cmpK_step HS1.out HS2.out hc.out hks hkt
        obtain ⟨X, hX⟩ : ∃ X, X = ss[k] := ⟨_, rfl⟩
        obtain ⟨Y, hY⟩ : ∃ Y, Y = tt[k] := ⟨_, rfl⟩
        rw [← hX] at hcx hst
        rw [← hY] at hcy hst
        have hk1' : (k : Int) < (n : Int) := by omega
        have hk2' : (k : Int) < (m : Int) := by omega
        have e0 : decide (k < n) = true := by simpa using hk1
        have e3 : decide (k < m) = true := by simpa using hk2
        clear hX hY
        rcases ord_ord.three X.data.toList Y.data.toList with h3 | h3 | h3
        · have hv : Hid ((-1 : Int) = cmpN a.data.toList b.data.toList) := by unfold Hid; rw [hst, h3]; simp
          have hl : Op.bytesLess X.toList Y.toList = true := less_as (by rw [h3]; rfl)
          clear hst h3
          go_wp2
          go_quiet (fail)
          go_wp2
          go_ret
          exact ⟨ret_int hv.out, next HB.out (below_drew (drew_more hdr.out))⟩
        · have HX : Hid (cmpN a.data.toList b.data.toList = lexG (lexG cB) ((fl a.data.toList).drop (k + 1)) ((fl b.data.toList).drop (k + 1))) := by unfold Hid; rw [hst, if_pos h3]
          have hl : Op.bytesLess X.toList Y.toList = false := less_as (by rw [h3]; rfl)
          have hg : binOp .gtr 9 (.string X) (.string Y) = pure (.bool false) := gtr_as (by rw [h3]; rfl)
          clear hst h3
          go_wp2
          go_quiet (fail)
          obtain ⟨wq, hwq⟩ : ∃ u : World, u = wr.drewN nq := ⟨_, rfl⟩
          rw [← hwq]
          have hcx' : wq.cell? ⟨g1, k, none⟩ = some (.string X) := by rw [hwq]; exact hcx
          have hcy' : wq.cell? ⟨g2, k, none⟩ = some (.string Y) := by rw [hwq]; exact hcy
          have HDQ : Hid (∃ q, wq = w2.drewN q) := by rw [hwq]; exact drew_more hdr.out
          clear hwq hcx hcy
          go_wp2
          go_quiet (fail)
          go_wp2
          go_roundw
          case rel => exact ⟨k + 1, by omega, by omega, by go_num, drew_more HDQ.out, HX⟩
          case measure => simp [intOf]; omega
        · have hv : Hid ((1 : Int) = cmpN a.data.toList b.data.toList) := by unfold Hid; rw [hst, h3]; simp
          have hl : Op.bytesLess X.toList Y.toList = false := less_as (by rw [h3]; rfl)
          have hg : binOp .gtr 9 (.string X) (.string Y) = pure (.bool true) := gtr_as (by rw [h3]; rfl)
          clear hst h3
          go_wp2
          go_quiet (fail)
          obtain ⟨wq, hwq⟩ : ∃ u : World, u = wr.drewN nq := ⟨_, rfl⟩
          rw [← hwq]
          have hcx' : wq.cell? ⟨g1, k, none⟩ = some (.string X) := by rw [hwq]; exact hcx
          have hcy' : wq.cell? ⟨g2, k, none⟩ = some (.string Y) := by rw [hwq]; exact hcy
          have HDQ : Hid (∃ q, wq = w2.drewN q) := by rw [hwq]; exact drew_more hdr.out
          clear hwq hcx hcy
          go_wp2
          go_quiet (fail)
          go_wp2
          go_ret
          exact ⟨ret_int hv.out, next HB.out (below_drew (drew_more HDQ.out))⟩
      · have hres := HEND.out k (by omega) hkn hkm hc.out
        have HRES : Hid (sgn (n : Int) (m : Int) = cmpN a.data.toList b.data.toList) := hres
        have hz2 : decide (k < n) = false ∨ (decide (k < n) = true ∧ decide (k < m) = false) := by
          by_cases h0 : k < n
          · exact .inr ⟨by simpa using h0, by simp; omega⟩
          · exact .inl (by simp; omega)
        clear hres hkk
        rcases hz2 with e0 | ⟨e0, e3⟩
        all_goals
          rcases Nat.lt_trichotomy n m with hlt | heq | hgt
          · have hv : Hid ((-1 : Int) = cmpN a.data.toList b.data.toList) := by unfold Hid; rw [← HRES.out]; unfold sgn; rw [if_pos (by omega)]
            have e1 : decide (n < m) = true := by simpa using hlt
            clear hlt
            go_wp2
            go_ret
            exact ⟨ret_int hv.out, next HB.out (below_drew hdr.out)⟩
          · have hv : Hid ((0 : Int) = cmpN a.data.toList b.data.toList) := by unfold Hid; rw [← HRES.out]; unfold sgn; rw [if_neg (by omega), if_neg (by omega)]
            have e1 : decide (n < m) = false := by simp; omega
            have e2 : decide (m < n) = false := by simp; omega
            clear heq
            go_wp2
            go_ret
            exact ⟨ret_int hv.out, next HB.out (below_drew hdr.out)⟩
          · have hv : Hid ((1 : Int) = cmpN a.data.toList b.data.toList) := by unfold Hid; rw [← HRES.out]; unfold sgn; rw [if_neg (by omega), if_pos (by omega)]
            have e1 : decide (n < m) = false := by simp; omega
            have e2 : decide (m < n) = true := by simpa using hgt
            clear hgt
            go_wp2
            go_ret
            exact ⟨ret_int hv.out, next HB.out (below_drew hdr.out)⟩

end Go.Proofs.Ytcmhjlflgedcdaa

/- What a store holds, plainly: entries, which is less, what is put, what is told. -/
namespace Go.Proofs.Ytcmhjlflgedcdaa
open Pl

/-- An entry. -/
structure En where
  n : ByteArray
  t : Int
  l : Int
  ds : List ByteArray
  r : Int
  u : Int

/-- Names and types in their row. -/
def cK (a : ByteArray) (s : Int) (b : ByteArray) (t : Int) : Int := if cmpN a.data.toList b.data.toList = 0 then sgn s t else cmpN a.data.toList b.data.toList
theorem sgn_self (s : Int) : sgn s s = 0 := by unfold sgn; simp
theorem sgn_anti (s t : Int) : sgn t s = - sgn s t := by unfold sgn; repeat' split <;> omega
theorem sgn_zero {s t : Int} (h : sgn s t = 0) : s = t := by unfold sgn at h; repeat' split at h <;> omega
theorem sgn_neg (s t : Int) : sgn s t < 0 ↔ s < t := by unfold sgn; repeat' split <;> omega
theorem cK_self (a : ByteArray) (s : Int) : cK a s a s = 0 := by unfold cK; rw [if_pos (cmp_self _), sgn_self]
theorem cK_anti (a : ByteArray) (s : Int) (b : ByteArray) (t : Int) : cK b t a s = - cK a s b t := by
  unfold cK
  rw [cmp_anti a.data.toList b.data.toList]
  by_cases h : cmpN a.data.toList b.data.toList = 0
  · rw [if_pos (by omega), if_pos h, sgn_anti]
  · rw [if_neg (by omega), if_neg h]
theorem cK_three (a : ByteArray) (s : Int) (b : ByteArray) (t : Int) : -1 ≤ cK a s b t ∧ cK a s b t ≤ 1 := by
  unfold cK
  split
  · unfold sgn; repeat' split <;> omega
  · exact cmp_three _ _
theorem cmp_lt {a b c : List UInt8} (h1 : cmpN a b < 0) (h2 : cmpN b c ≤ 0) : cmpN a c < 0 := by
  have h3 := cmp_trans (Int.le_of_lt h1) h2
  rcases Int.lt_or_eq_of_le h3 with h | h
  · exact h
  · exfalso
    have h4 : cmpN c a ≤ 0 := by rw [cmp_anti a c]; omega
    have := cmp_trans h2 h4
    have := cmp_anti a b
    omega
theorem cmp_lt' {a b c : List UInt8} (h1 : cmpN a b ≤ 0) (h2 : cmpN b c < 0) : cmpN a c < 0 := by
  have h3 := cmp_trans h1 (Int.le_of_lt h2)
  rcases Int.lt_or_eq_of_le h3 with h | h
  · exact h
  · exfalso
    have h4 : cmpN c a ≤ 0 := by rw [cmp_anti a c]; omega
    have := cmp_trans h4 h1
    have := cmp_anti b c
    omega
theorem cK_neg {a : ByteArray} {s : Int} {b : ByteArray} {t : Int} : cK a s b t < 0 ↔ cmpN a.data.toList b.data.toList < 0 ∨ cmpN a.data.toList b.data.toList = 0 ∧ s < t := by
  unfold cK
  split
  · rename_i h; rw [sgn_neg]; omega
  · rename_i h; omega
theorem cK_trans {a b c : ByteArray} {s t u : Int} (h1 : cK a s b t < 0) (h2 : cK b t c u < 0) : cK a s c u < 0 := by
  rw [cK_neg] at *
  rcases h1 with h1 | ⟨h1, h3⟩
  · rcases h2 with h2 | ⟨h2, _⟩
    · exact .inl (cmp_lt h1 (Int.le_of_lt h2))
    · exact .inl (cmp_lt h1 (Int.le_of_eq h2))
  · rcases h2 with h2 | ⟨h2, h4⟩
    · exact .inl (cmp_lt' (Int.le_of_eq h1) h2)
    · refine .inr ⟨?_, by omega⟩
      have e := (cmp_zero _ _).1 h1
      have e' := (cmp_zero _ _).1 h2
      exact (cmp_zero _ _).2 (e.trans e')

/-- A name in its small letters and a type: what tells entries apart. -/
structure OkK (n : ByteArray) (t : Int) : Prop where
  nm : isName n.data.toList = true
  fo : foldL n.data.toList = n.data.toList
  lo : 1 ≤ t
  hi : t ≤ 65535
theorem OkK.size {n : ByteArray} {t : Int} (h : OkK n t) : n.size ≤ 255 := by
  have := (name_some h.nm).1
  have e := data_len n
  omega
theorem bytes_ext {a b : ByteArray} (h : a.data.toList = b.data.toList) : a = b := by
  cases a with | mk a => cases b with | mk b => simp at h; rw [h]
theorem cK_zero {a b : ByteArray} {s t : Int} (ha : OkK a s) (hb : OkK b t) (h : cK a s b t = 0) : a = b ∧ s = t := by
  unfold cK at h
  by_cases e : cmpN a.data.toList b.data.toList = 0
  · rw [if_pos e] at h
    refine ⟨bytes_ext ?_, sgn_zero h⟩
    rw [← ha.fo, ← hb.fo]
    exact (fold_inj ha.nm hb.nm).2 ((cmp_zero _ _).1 e)
  · rw [if_neg e] at h
    exact absurd h e

/-- An entry that may be held. -/
structure OkE (e : En) : Prop where
  k : OkK e.n e.t
  len : e.ds.length ≤ 8796093022000
  siz : ∀ d ∈ e.ds, d.size ≤ 140737488351232
/-- Which entry is less: by its end, then by its name and type. -/
def ltE (x y : En) : Bool := decide (x.u < y.u) || (decide (x.u = y.u) && decide (cK x.n x.t y.n y.t < 0))
theorem ltE_iff {x y : En} : ltE x y = true ↔ x.u < y.u ∨ x.u = y.u ∧ cK x.n x.t y.n y.t < 0 := by unfold ltE; simp
theorem ltE_irr (x : En) : ltE x x = false := by
  cases h : ltE x x with
  | false => rfl
  | true => rw [ltE_iff, cK_self] at h; omega
theorem ltE_trans {x y z : En} (h1 : ltE x y = true) (h2 : ltE y z = true) : ltE x z = true := by
  rw [ltE_iff] at *
  rcases h1 with h1 | ⟨h1, h3⟩
  · exact .inl (by omega)
  · rcases h2 with h2 | ⟨h2, h4⟩
    · exact .inl (by omega)
    · exact .inr ⟨by omega, cK_trans h3 h4⟩
def sameK (n : ByteArray) (t : Int) (e : En) : Bool := decide (e.n = n) && decide (e.t = t)
theorem sameK_iff {n : ByteArray} {t : Int} {e : En} : sameK n t e = true ↔ e.n = n ∧ e.t = t := by unfold sameK; simp
theorem ltE_total {x y : En} (hx : OkE x) (hy : OkE y) (h : ltE x y = false) (hk : sameK x.n x.t y = false) : ltE y x = true := by
  rw [ltE_iff]
  have h1 : ¬ (x.u < y.u ∨ x.u = y.u ∧ cK x.n x.t y.n y.t < 0) := fun e => by rw [← ltE_iff, h] at e; cases e
  by_cases e : y.u < x.u
  · exact .inl e
  · refine .inr ⟨by omega, ?_⟩
    have h2 : ¬ cK x.n x.t y.n y.t < 0 := fun e' => h1 (.inr ⟨by omega, e'⟩)
    have h3 : cK x.n x.t y.n y.t ≠ 0 := fun e' => by
      have := cK_zero hx.k hy.k e'
      rw [sameK_iff.2 ⟨this.1.symm, this.2.symm⟩] at hk
      cases hk
    have := cK_anti x.n x.t y.n y.t
    omega

/-- Entries of which no two have one name and type. -/
def Dis (L : List En) : Prop := L.Pairwise (fun x y => sameK x.n x.t y = false)
theorem sameK_symm {x y : En} (h : sameK x.n x.t y = false) : sameK y.n y.t x = false := by
  cases e : sameK y.n y.t x with
  | false => rfl
  | true => rw [sameK_iff] at e; rw [sameK_iff.2 ⟨e.1.symm, e.2.symm⟩] at h; cases h
theorem Dis.at {L : List En} (h : Dis L) {i j : Nat} (hi : i < L.length) (hj : j < L.length) (hij : i ≠ j) : sameK L[i].n L[i].t L[j] = false := by
  rcases Nat.lt_or_gt_of_ne hij with h1 | h1
  · exact List.pairwise_iff_getElem.1 h i j hi hj h1
  · exact sameK_symm (List.pairwise_iff_getElem.1 h j i hj hi h1)
theorem Dis.filter {L : List En} (h : Dis L) (p : En → Bool) : Dis (L.filter p) := List.Pairwise.filter _ h

/-- The place of the least of the first i. -/
def minK (L : List En) : Nat → Nat
  | 0 => 0
  | i + 1 => match L[i]?, L[minK L i]? with
    | some a, some b => if ltE a b then i else minK L i
    | _, _ => minK L i
def minP (L : List En) : Nat := minK L L.length
theorem minK_step {L : List En} {i : Nat} (hi : i < L.length) (hk : minK L i < L.length) : minK L (i + 1) = if ltE L[i] L[minK L i] then i else minK L i := by
  rw [minK, List.getElem?_eq_getElem hi, List.getElem?_eq_getElem hk]
theorem minK_lt {L : List En} : ∀ {i : Nat}, 1 ≤ i → i ≤ L.length → minK L i < i := by
  intro i
  induction i with
  | zero => intro h _; omega
  | succ i ih =>
    intro _ hi
    by_cases h0 : i = 0
    · subst h0
      rw [minK_step (by omega) (by show 0 < _; omega)]
      split
      · omega
      · show minK L 0 < 1; simp [minK]
    · have := ih (by omega) (by omega)
      rw [minK_step (by omega) (by omega)]
      split <;> omega
theorem minK_least {L : List En} (hd : Dis L) (ho : ∀ e ∈ L, OkE e) : ∀ {i : Nat} (_ : 1 ≤ i) (hi : i ≤ L.length) (hk : minK L i < L.length) (j : Nat) (hj : j < i), j ≠ minK L i → ltE L[minK L i] (L[j]'(by omega)) = true := by
  intro i
  induction i with
  | zero => intro h; omega
  | succ i ih =>
    intro _ hi hk j hj hne
    by_cases h0 : i = 0
    · subst h0
      have e0 : minK L 1 = 0 := by have := minK_lt (L := L) (Nat.le_refl 1) (by omega); omega
      rw [e0] at hne
      omega
    · have hm := minK_lt (L := L) (i := i) (by omega) (by omega)
      have hs := minK_step (L := L) (i := i) (by omega) (by omega)
      have hd' := hd.at (i := i) (j := minK L i) (by omega) (by omega) (by omega)
      cases hl : ltE (L[i]'(by omega)) (L[minK L i]'(by omega)) with
      | true =>
        rw [hl, if_pos rfl] at hs
        simp only [hs] at hne ⊢
        by_cases hjm : j = minK L i
        · subst hjm; exact hl
        · exact ltE_trans hl (ih (by omega) (by omega) (by omega) j (by omega) hjm)
      | false =>
        rw [hl, if_neg (by simp)] at hs
        simp only [hs] at hne ⊢
        by_cases hji : j = i
        · subst hji
          exact ltE_total (ho _ (List.getElem_mem _)) (ho _ (List.getElem_mem _)) hl hd'
        · exact ih (by omega) (by omega) (by omega) j (by omega) hne
theorem minP_lt {L : List En} (h : 0 < L.length) : minP L < L.length := minK_lt h (Nat.le_refl _)
theorem minP_least {L : List En} (hd : Dis L) (ho : ∀ e ∈ L, OkE e) (h : 0 < L.length) (j : Nat) (hj : j < L.length) (hne : j ≠ minP L) : ltE (L[minP L]'(minP_lt h)) L[j] = true :=
  minK_least hd ho h (Nat.le_refl _) (minP_lt h) j hj hne
/-- What is less than all others is the least. -/
theorem minP_eq {L : List En} (hd : Dis L) (ho : ∀ e ∈ L, OkE e) {i : Nat} (hi : i < L.length) (h : ∀ j (hj : j < L.length), j ≠ i → ltE L[i] L[j] = true) : i = minP L := by
  by_cases e : i = minP L
  · exact e
  · have h1 := minP_least hd ho (by omega) i hi e
    have h2 := h (minP L) (minP_lt (by omega)) (fun e' => e e'.symm)
    have := ltE_trans h1 h2
    rw [ltE_irr] at this
    cases this

/-- What is put, and what goes. -/
def beatsP (L : List En) (n : ByteArray) (t r now : Int) : Bool := L.any fun y => sameK n t y && decide (now < y.u) && decide (r < y.r)
def leftP (L : List En) (n : ByteArray) (t now : Int) : List En := L.filter fun y => !sameK n t y && decide (now < y.u)
def cutP (most : Nat) (L : List En) : List En := if L.length = most then L.eraseIdx (minP L) else L
def mayE (e : En) (now : Int) : Bool := isName e.n.data.toList && decide (1 ≤ e.t) && decide (e.t ≤ 65535) && decide (e.ds ≠ []) && decide (1 ≤ e.r) && decide (e.r ≤ 3) && decide (now < e.u) && decide (0 ≤ now) && decide (now ≤ 1099511627776)
def fdB (n : ByteArray) : ByteArray := ⟨(foldR n.data.toList).toArray⟩
def heldE (e : En) : En := { e with n := fdB e.n }
def putP (most : Nat) (L : List En) (e : En) (now : Int) : List En := if mayE e now && !beatsP L (fdB e.n) e.t e.r now then cutP most (leftP L (fdB e.n) e.t now) ++ [heldE e] else L
def errP (e : En) (now : Int) : Int := if mayE e now then 0 else 1300
def getP (L : List En) (n : ByteArray) (t now : Int) : Option En := L.find? fun y => sameK (fdB n) t y && decide (now < y.u)

theorem fdB_list (n : ByteArray) : (fdB n).data.toList = foldR n.data.toList := by simp [fdB]
theorem mayE_parts {e : En} {now : Int} (h : mayE e now = true) : isName e.n.data.toList = true ∧ 1 ≤ e.t ∧ e.t ≤ 65535 ∧ e.ds ≠ [] ∧ 1 ≤ e.r ∧ e.r ≤ 3 ∧ now < e.u ∧ 0 ≤ now ∧ now ≤ 1099511627776 := by
  unfold mayE at h
  simp only [Bool.and_eq_true, decide_eq_true_eq] at h
  obtain ⟨⟨⟨⟨⟨⟨⟨⟨h1, h2⟩, h3⟩, h4⟩, h5⟩, h6⟩, h7⟩, h8⟩, h9⟩ := h
  exact ⟨h1, h2, h3, h4, h5, h6, h7, h8, h9⟩
theorem held_ok {e : En} {now : Int} (h : mayE e now = true) (hl : e.ds.length ≤ 8796093022000) (hs : ∀ d ∈ e.ds, d.size ≤ 140737488351232) : OkE (heldE e) := by
  obtain ⟨h1, h2, h3, _⟩ := mayE_parts h
  have e1 : foldR e.n.data.toList = foldL e.n.data.toList := by unfold foldR; rw [if_pos h1]
  refine ⟨⟨?_, ?_, h2, h3⟩, hl, hs⟩
  · show isName (fdB e.n).data.toList = true
    rw [fdB_list, e1, name_fold]; exact h1
  · show foldL (fdB e.n).data.toList = (fdB e.n).data.toList
    rw [fdB_list, e1, fold_twice]

theorem left_ok {L : List En} (h : ∀ e ∈ L, OkE e) (n : ByteArray) (t now : Int) : ∀ e ∈ leftP L n t now, OkE e := fun e he => h e ((List.mem_filter.1 he).1)
theorem cut_mem {most : Nat} {L : List En} {e : En} (h : e ∈ cutP most L) : e ∈ L := by
  unfold cutP at h
  split at h
  · exact List.mem_of_mem_eraseIdx h
  · exact h
theorem cut_len {most : Nat} {L : List En} (h : L.length ≤ most) (hm : 1 ≤ most) : (cutP most L).length + 1 ≤ most := by
  unfold cutP
  split
  · rename_i e; rw [List.length_eraseIdx_of_lt (minP_lt (by omega))]; omega
  · omega
theorem put_ok {most : Nat} {L : List En} {e : En} {now : Int} (h : ∀ e ∈ L, OkE e) (hl : e.ds.length ≤ 8796093022000) (hs : ∀ d ∈ e.ds, d.size ≤ 140737488351232) : ∀ x ∈ putP most L e now, OkE x := by
  intro x hx
  unfold putP at hx
  split at hx
  · rename_i hc
    rcases List.mem_append.1 hx with hx | hx
    · exact left_ok h _ _ _ _ (cut_mem hx)
    · simp at hx; subst hx
      simp only [Bool.and_eq_true] at hc
      exact held_ok hc.1 hl hs
  · exact h x hx
theorem put_len {most : Nat} {L : List En} {e : En} {now : Int} (h : L.length ≤ most) (hm : 1 ≤ most) : (putP most L e now).length ≤ most := by
  unfold putP
  split
  · have h1 : (leftP L (fdB e.n) e.t now).length ≤ most := Nat.le_trans (List.length_filter_le _ _) h
    have := cut_len h1 hm
    simp; omega
  · exact h
theorem Dis.sub {L M : List En} (h : Dis L) (hs : M.Sublist L) : Dis M := List.Pairwise.sublist hs h
theorem cut_dis {most : Nat} {L : List En} (h : Dis L) : Dis (cutP most L) := by
  unfold cutP
  split
  · exact h.sub (List.eraseIdx_sublist _ _)
  · exact h
theorem Dis.snoc {L : List En} {e : En} (h : Dis L) (hn : ∀ x ∈ L, sameK e.n e.t x = false) : Dis (L ++ [e]) := by
  refine List.pairwise_append.2 ⟨h, List.pairwise_singleton _ _, fun x hx y hy => ?_⟩
  simp at hy
  subst hy
  exact sameK_symm (hn x hx)
theorem left_not {L : List En} {n : ByteArray} {t now : Int} {x : En} (h : x ∈ leftP L n t now) : sameK n t x = false := by
  unfold leftP at h
  have := (List.mem_filter.1 h).2
  simp only [Bool.and_eq_true, Bool.not_eq_true'] at this
  exact this.1
theorem put_dis {most : Nat} {L : List En} {e : En} {now : Int} (h : Dis L) : Dis (putP most L e now) := by
  unfold putP
  split
  · exact (cut_dis (h.filter _)).snoc (fun x hx => left_not (cut_mem hx))
  · exact h

/-- Striking one is striking all of its name and type. -/
theorem erase_filter : ∀ {L : List En} (_ : Dis L) {i : Nat} (hi : i < L.length), L.filter (fun y => !sameK L[i].n L[i].t y) = L.eraseIdx i := by
  intro L
  induction L with
  | nil => intro _ i hi; simp at hi
  | cons a L ih =>
    intro hd i hi
    have hd2 := List.pairwise_cons.1 hd
    cases i with
    | zero =>
      have : sameK a.n a.t a = true := sameK_iff.2 ⟨rfl, rfl⟩
      simp only [List.getElem_cons_zero, List.filter_cons, this, List.eraseIdx_cons_zero]
      simp only [Bool.not_true, Bool.false_eq_true, if_false]
      exact List.filter_eq_self.2 (fun y hy => by rw [hd2.1 y hy]; rfl)
    | succ i =>
      simp only [List.getElem_cons_succ, List.filter_cons, List.eraseIdx_cons_succ]
      have hi' : i < L.length := by simp at hi; omega
      have : sameK L[i].n L[i].t a = false := sameK_symm (hd2.1 _ (List.getElem_mem _))
      rw [this, Bool.not_false, if_pos rfl, ih hd2.2 hi']

/-- All, by names and types. -/
def befE (x e : En) : Bool := decide (cK x.n x.t e.n e.t < 0)
def insE (e : En) (out : List En) : List En := out.takeWhile (fun x => befE x e) ++ e :: out.dropWhile (fun x => befE x e)
def allP (L : List En) : List En := L.foldl (fun out e => insE e out) []
def RisE (L : List En) : Prop := L.Pairwise (fun x y => cK x.n x.t y.n y.t < 0)
theorem insE_perm (e : En) (out : List En) : (insE e out).Perm (e :: out) := by
  unfold insE
  have : (out.takeWhile (fun x => befE x e) ++ out.dropWhile (fun x => befE x e)) = out := List.takeWhile_append_dropWhile
  exact List.perm_middle.trans (by rw [this])
theorem insE_rise {e : En} {out : List En} (h : RisE out) (ho : ∀ x ∈ out, OkE x) (he : OkE e) (hn : ∀ x ∈ out, sameK e.n e.t x = false) : RisE (insE e out) := by
  unfold insE
  induction out with
  | nil => exact List.pairwise_singleton _ _
  | cons a out ih =>
    have h2 := List.pairwise_cons.1 h
    have ih2 := ih h2.2 (fun x hx => ho x (List.mem_cons_of_mem _ hx)) (fun x hx => hn x (List.mem_cons_of_mem _ hx))
    cases hb : befE a e with
    | true =>
      rw [List.takeWhile_cons_of_pos (p := fun x => befE x e) hb, List.dropWhile_cons_of_pos (p := fun x => befE x e) hb]
      refine List.pairwise_cons.2 ⟨fun x hx => ?_, ih2⟩
      rcases List.mem_append.1 hx with hx | hx
      · exact h2.1 x ((List.takeWhile_sublist _).subset hx)
      · rcases List.mem_cons.1 hx with rfl | hx
        · unfold befE at hb; simpa using hb
        · exact h2.1 x (List.dropWhile_sublist _ |>.subset hx)
    | false =>
      rw [List.takeWhile_cons_of_neg (p := fun x => befE x e) (by rw [hb]; simp), List.dropWhile_cons_of_neg (p := fun x => befE x e) (by rw [hb]; simp), List.nil_append]
      have hlt : cK e.n e.t a.n a.t < 0 := by
        unfold befE at hb
        simp only [decide_eq_false_iff_not] at hb
        have h3 := cK_anti a.n a.t e.n e.t
        have h4 : cK a.n a.t e.n e.t ≠ 0 := fun e' => by
          have h5 := cK_zero (ho a (List.mem_cons_self ..)).k he.k e'
          have h6 := hn a (List.mem_cons_self ..)
          rw [sameK_iff.2 h5] at h6
          cases h6
        omega
      refine List.pairwise_cons.2 ⟨fun x hx => ?_, h⟩
      rcases List.mem_cons.1 hx with rfl | hx
      · exact hlt
      · exact cK_trans hlt (h2.1 x hx)
theorem all_fold : ∀ (L out : List En), (L.foldl (fun out e => insE e out) out).Perm (out ++ L) := by
  intro L
  induction L with
  | nil => intro out; simp
  | cons e L ih =>
    intro out
    refine (ih (insE e out)).trans ?_
    refine ((insE_perm e out).append_right L).trans ?_
    exact List.perm_middle.symm
theorem all_perm (L : List En) : (allP L).Perm L := by have := all_fold L []; rw [List.nil_append] at this; exact this
theorem all_rise_fold : ∀ (L out : List En), RisE out → (∀ x ∈ out, OkE x) → (∀ x ∈ L, OkE x) → Dis L → (∀ x ∈ L, ∀ y ∈ out, sameK x.n x.t y = false) → RisE (L.foldl (fun out e => insE e out) out) := by
  intro L
  induction L with
  | nil => intro out h _ _ _ _; exact h
  | cons e L ih =>
    intro out h ho hL hd hn
    have hd2 := List.pairwise_cons.1 hd
    refine ih _ (insE_rise h ho (hL e (List.mem_cons_self ..)) (hn e (List.mem_cons_self ..))) (fun x hx => ?_) (fun x hx => hL x (List.mem_cons_of_mem _ hx)) hd2.2 (fun x hx y hy => ?_)
    · rcases List.mem_cons.1 ((insE_perm e out).mem_iff.1 hx) with rfl | hx
      · exact hL x (List.mem_cons_self ..)
      · exact ho x hx
    · rcases List.mem_cons.1 ((insE_perm e out).mem_iff.1 hy) with rfl | hy
      · exact sameK_symm (hd2.1 x hx)
      · exact hn x (List.mem_cons_of_mem _ hx) y hy
theorem all_rise {L : List En} (ho : ∀ x ∈ L, OkE x) (hd : Dis L) : RisE (allP L) := all_rise_fold L [] List.Pairwise.nil (fun x hx => by simp at hx) ho hd (fun _ _ y hy => by simp at hy)
/-- Two rising rows of the same entries are one. -/
theorem rise_one : ∀ {L M : List En}, RisE L → RisE M → L.Perm M → L = M := by
  intro L
  induction L with
  | nil => intro M _ _ hp; exact (List.Perm.nil_eq hp)
  | cons a L ih =>
    intro M hL hM hp
    cases M with
    | nil => exact absurd hp.length_eq (by simp)
    | cons b M =>
      have hL2 := List.pairwise_cons.1 hL
      have hM2 := List.pairwise_cons.1 hM
      have hab : a = b := by
        rcases List.mem_cons.1 (hp.mem_iff.1 (List.mem_cons_self ..)) with h | h
        · exact h
        · rcases List.mem_cons.1 (hp.mem_iff.2 (List.mem_cons_self ..)) with h' | h'
          · exact h'.symm
          · have h1 := hM2.1 a h
            have h2 := hL2.1 b h'
            have := cK_anti a.n a.t b.n b.t
            omega
      subst hab
      rw [ih hL2.2 hM2.2 (List.Perm.cons_inv hp)]
theorem all_len (L : List En) : (allP L).length = L.length := (all_perm L).length_eq

end Go.Proofs.Ytcmhjlflgedcdaa

/- Rows of texts: how they lie, and what the laws' helpers do with them. -/
namespace Go.Proofs.Ytcmhjlflgedcdaa
open Go.RowKit
open Pl
/-- Texts as cells. -/
def tC (ds : List ByteArray) : List Value := ds.map Value.string
theorem tC_len (ds : List ByteArray) : (tC ds).length = ds.length := by simp [tC]
theorem tC_app (a b : List ByteArray) : tC (a ++ b) = tC a ++ tC b := by simp [tC]
theorem tC_one (a : List ByteArray) : ∀ u ∈ tC a, u.oneCell' = true := by
  intro u hu
  simp only [tC, List.mem_map] at hu
  obtain ⟨m, _, rfl⟩ := hu
  rfl
theorem tC_at {ds : List ByteArray} {k : Nat} (hk : k < ds.length) : (tC ds)[k]? = some (.string ds[k]) := by
  unfold tC; rw [List.getElem?_map, List.getElem?_eq_getElem hk]; rfl
theorem str_eqd (a b : ByteArray) : (a.toList == b.toList) = decide (a = b) := by
  rw [Bool.eq_iff_iff, beq_iff_eq, decide_eq_true_eq]
  exact ⟨fun h => bytes_ext (by rw [ByteArray.toList_eq, ByteArray.toList_eq] at h; exact h), fun e => by rw [e]⟩
set_option maxRecDepth 20000 in
theorem sameT_any (v u : Value) (a b : List ByteArray) (w : World) (h1 : Row w v a.length (tC a)) (h2 : Row w u b.length (tC b)) (hm1 : a.length ≤ maxLen) (hm2 : b.length ≤ maxLen) (r : Bool) (hr : decide (a = b) = r) :
    Calls Try.prog 26 #[v, u] w fun e w' => e = .returned (.bool r) ∧ Below w.heap.size w w' := by
  obtain ⟨N, hN⟩ : ∃ N, N = a.length := ⟨_, rfl⟩
  obtain ⟨M, hM⟩ : ∃ M, M = b.length := ⟨_, rfl⟩
  obtain ⟨x, c, rfl⟩ := row_slice h1
  obtain ⟨x', c', rfl⟩ := row_slice h2
  have HN : Hid (N = a.length) := hN
  have HM : Hid (M = b.length) := hM
  rw [← hN] at h1 hm1 ⊢
  rw [← hM] at h2 hm2 ⊢
  unfold maxLen at hm1 hm2
  have HR1 : Hid (Row w (.slice x N c) N (tC a)) := h1
  have HR2 : Hid (Row w (.slice x' M c') M (tC b)) := h2
  have HR : Hid (decide (a = b) = r) := hr
  have hb : Below w.heap.size w w := Below.refl _ _
  by_cases hl : N = M
  · have HL : Hid (N = M) := hl
    have hne : ((N : Int) != (M : Int)) = false := by rw [hl]; simp
    clear h1 h2 hr hN hM hl
    go_enter Try.func26, Try.ntmps26
    go_wp2
    go_loopw [5] (fun i wr => ∃ k : Nat, k ≤ N ∧ i = .int .i64 (k : Int) ∧ Hid (a.take k = b.take k) ∧ Below w.heap.size w wr) (fun i _ => N - (intOf i).toNat)
    case atStart => exact ⟨0, Nat.zero_le _, rfl, by unfold Hid; simp, hb⟩
    case round =>
      clear hb
      obtain ⟨k, hk, rfl, HT, hb⟩ := hrel
      by_cases hkn : k < N
      · have hkn' : (k : Int) < (N : Int) := by omega
        have hka : k < a.length := by have := HN.out; omega
        have hkb : k < b.length := by have := HM.out; have := HL.out; omega
        have hkm' : (k : Int) < (M : Int) := by have := HL.out; omega
        obtain ⟨g, o, cap, hx, hc⟩ := row_at (HR1.out.below hb) (by omega)
        obtain ⟨g', o', cap', hx', hc'⟩ := row_at (HR2.out.below hb) (by omega)
        simp only [Value.slice.injEq] at hx hx'
        obtain ⟨rfl, -, rfl⟩ := hx
        obtain ⟨rfl, -, rfl⟩ := hx'
        have d0 := hc k _ (tC_at hka)
        have e0 := hc' k _ (tC_at hkb)
        obtain ⟨p, hp⟩ : ∃ p, p = a[k] := ⟨_, rfl⟩
        obtain ⟨q, hq⟩ : ∃ q, q = b[k] := ⟨_, rfl⟩
        have HP : Hid (p = a[k]) := hp
        have HQ : Hid (q = b[k]) := hq
        rw [← hp] at d0
        rw [← hq] at e0
        clear hc hc' hp hq
        by_cases e : p = q
        · have HT2 : Hid (a.take (k + 1) = b.take (k + 1)) := by
            unfold Hid
            rw [List.take_succ_eq_append_getElem hka, List.take_succ_eq_append_getElem hkb, HT.out, ← HP.out, ← HQ.out, e]
          subst e
          go_wp2
          go_region
          go_wp2
          go_roundw
          case rel => exact ⟨k + 1, by omega, by go_num, HT2, next hb (below_drew ⟨1, rfl⟩)⟩
          case measure => simp [intOf]; omega
        · have hpq : (p.toList == q.toList) = false := by rw [str_eqd]; simpa using e
          have HF : Hid (r = false) := by
            unfold Hid
            rw [← HR.out, decide_eq_false_iff_not]
            rintro rfl
            exact e (HP.out.trans HQ.out.symm)
          clear e
          go_wp2
          go_region
          go_wp2
          go_ret
          exact ⟨ret_bool HF.out.symm, next hb (below_drew ⟨1, rfl⟩)⟩
      · have hkn' : decide (k < N) = false := by simpa using hkn
        have HF : Hid (r = true) := by
          unfold Hid
          rw [← HR.out, decide_eq_true_eq]
          have h1 := HT.out
          have h2 := HN.out
          have h3 := HM.out
          have h4 := HL.out
          rw [List.take_of_length_le (by omega), List.take_of_length_le (by omega)] at h1
          exact h1
        go_wp2
        go_ret
        exact ⟨ret_bool HF.out.symm, hb⟩
  · have hne : ((N : Int) != (M : Int)) = true := by simp; omega
    have HF : Hid (r = false) := by
      unfold Hid
      rw [← hr, decide_eq_false_iff_not]
      rintro rfl
      omega
    clear h1 h2 hr hl HR hN hM
    go_enter Try.func26, Try.ntmps26
    go_wp2
    go_ret
    exact ⟨ret_bool HF.out.symm, hb⟩
theorem info9' : (Try.prog.info? 9).map (fun i => (i.zero, i.size, i.bytes)) = some (some (.string ⟨#[]⟩), 1, 16) := by kernel_rfl
/-- Rows that were lent: their cells, and the marks behind them. -/
def Lies (w : World) (g : Nat) (xs : List Value) : Prop := ∀ j u, xs[j]? = some u → w.cell? ⟨g, j, none⟩ = some u
theorem Lies.below {w w' : World} {g : Nat} {xs : List Value} (h : Lies w g xs) (hb : Below w.heap.size w w') : Lies w' g xs := fun j u hu => by
  have h1 := h j u hu
  rw [hb.cell (World.block_lt_of_cell? _ _ h1)]; exact h1
theorem Lies.turn {S : Nat → Prop} {w w' : World} {g : Nat} {xs : List Value} (h : Lies w g xs) (ht : Turn S w w') (hs : ¬ S g) : Lies w' g xs := fun j u hu => by
  have h1 := h j u hu
  have hlt := World.block_lt_of_cell? _ _ h1
  have hb := ht.block g hlt hs
  unfold World.cell? at h1 ⊢
  simp only [hb]
  exact h1
theorem Lies.row {w : World} {g cap n : Nat} {xs ys : List Value} (h : Lies w g (xs ++ ys)) : Row w (.slice (some ⟨g, 0, none⟩) n cap) n xs := by
  refine .inr ⟨g, 0, none, cap, rfl, fun _ => rfl, fun j u hu => ?_⟩
  rw [Nat.zero_add]
  refine h j u ?_
  rw [List.getElem?_append_left (List.getElem?_eq_some_iff.1 hu).1]
  exact hu
theorem lies_own {w : World} {base e z g cap N : Nat} {xs : List Value} (h : w.ownsRow base e z (.slice (some ⟨g, 0, none⟩) N cap) N xs) : Lies w g xs ∧ N ≤ cap := by
  refine ⟨fun j u hu => ?_, ?_⟩
  · have hj := (List.getElem?_eq_some_iff.1 hu).1
    rw [h.cellAt j (by rw [← h.1]; exact hj), hu]
  · rcases h.2 with ⟨e, _⟩ | ⟨g', cap', cur, e, _, _, hnc, _⟩
    · simp at e
    · simp at e; omega
/-- The marks behind texts that were lent. -/
def mkT : List ByteArray := [⟨#[126, 114, 111, 111, 109]⟩, ⟨#[126, 98, 101, 104, 105, 110, 100]⟩]
theorem copyT_any (v : Value) (ds : List ByteArray) (w : World) (h : Row w v ds.length (tC ds)) (hn : ds.length ≤ 8796093022000) :
    Calls Try.prog 30 #[v] w fun e w' => ∃ v', e = .returned v' ∧ w'.ownsRow w.heap.size 9 1 v' ds.length (tC ds) ∧ Below w.heap.size w w' := by
  obtain ⟨i0, hi, hz0, hz1, hz2⟩ := info_parts info9'
  have hb := lay (Below.refl w.heap.size w) (.cells #[] 9)
  have h2 := h.below hb
  have hown := own_blk (B := w.heap.size) (z := 1) (n := 0) (xs := []) (Blk.new w #[] 9) (Nat.le_refl _) rfl rfl (Nat.zero_le _)
  obtain ⟨x, c, rfl⟩ := row_slice h
  go_enter Try.func30, Try.ntmps30
  go_wp2_with (at_builtin; refine wpList_appG _ rfl (.tmp 3) (.tmp 4) 32 9 i0 _ 1 16 Try.underlying32 hi hz0 hz1 hz2 rfl (by decide) rfl w.heap.size _ 0 [] rfl hown _ ds.length (tC ds) rfl h2 (by rw [tC_len, Nat.mul_one]) (tC_one ds) (by omega) (by unfold maxLen; omega) hb.size ?_; intro v' w2 h1 h3 _)
  go_ret
  exact ⟨_, rfl, by simpa using h1, hb.grown h3 hb.size (fun j e => (hown.lt j e).1)⟩
theorem lendT_any (v : Value) (ds : List ByteArray) (w : World) (h : Row w v ds.length (tC ds)) (hn : ds.length ≤ 8796093022000) :
    Calls Try.prog 13 #[v] w fun e w' => ∃ g cap, e = .returned (.slice (some ⟨g, 0, none⟩) ds.length cap) ∧ ds.length + 2 ≤ cap ∧ Lies w' g (tC ds ++ tC mkT) ∧ w.heap.size ≤ g ∧ Below w.heap.size w w' := by
  obtain ⟨i0, hi, hz0, hz1, hz2⟩ := info_parts info9'
  obtain ⟨N, hN⟩ : ∃ N, N = ds.length := ⟨_, rfl⟩
  have HN : Hid (N = ds.length) := hN
  obtain ⟨x, c, hv⟩ := row_slice h
  have hc := copyT_any v ds w h hn
  rw [← hN] at hv hn ⊢
  subst hv
  clear hN
  go_enter Try.func13, Try.ntmps13
  go_wp2_with (first
    | (go_at_call 30; go_must (refine hc.mono ?_); rintro e w1 ⟨v1, rfl, hown, hb⟩; rw [← HN.out] at hown)
    | (at_builtin; refine wpList_appG _ rfl (.tmp 5) (.tmp 6) 32 9 i0 _ 1 16 Try.underlying32 hi hz0 hz1 hz2 rfl (by decide) rfl w.heap.size _ N (tC ds) rfl (hown.alloc _) (.slice (some ⟨w1.heap.size, 0, none⟩) 2 2) 2 (tC mkT) rfl (Row.of_blk (Blk.new w1 #[.string ⟨#[126, 114, 111, 111, 109]⟩, .string ⟨#[126, 98, 101, 104, 105, 110, 100]⟩] 9) rfl 2 2) rfl (tC_one _) (by omega) (by unfold maxLen; omega) (lay hb _).size ?_; intro v2 w2 h1 h3 _; obtain ⟨g, cap, rfl, _, _⟩ := h1.form (by omega); obtain ⟨hl, hcap⟩ := lies_own h1; have hcap2 : N ≤ cap := (by omega); have hgl := (h1.lt g rfl).1; have hb2 : Below w.heap.size w w2 := (lay hb _).grown h3 (lay hb _).size (fun j e => (hown.lt j e).1); clear h1 h3))
  go_ret
  exact ⟨g, cap, rfl, hcap, hl, hgl, hb2⟩
theorem marksT {w : World} {g : Nat} {ds : List ByteArray} (h : Lies w g (tC ds ++ tC mkT)) : w.cell? ⟨g, ds.length, none⟩ = some (.string ⟨#[126, 114, 111, 111, 109]⟩) ∧ w.cell? ⟨g, ds.length + 1, none⟩ = some (.string ⟨#[126, 98, 101, 104, 105, 110, 100]⟩) := by
  have hl := tC_len ds
  have H : ∀ i u, (tC mkT)[i]? = some u → w.cell? ⟨g, ds.length + i, none⟩ = some u := fun i u hu => h _ _ (by
    rw [List.getElem?_append_right (by omega), hl, show ds.length + i - ds.length = i from by omega]; exact hu)
  exact ⟨H 0 _ rfl, H 1 _ rfl⟩
set_option maxRecDepth 20000 in
theorem keptT_any (g cap : Nat) (u : Value) (ds : List ByteArray) (w : World) (hl : Lies w g (tC ds ++ tC mkT)) (hcap : ds.length + 2 ≤ cap) (h2 : Row w u ds.length (tC ds)) (hn : ds.length ≤ 8796093022000) :
    Calls Try.prog 16 #[.slice (some ⟨g, 0, none⟩) ds.length cap, u] w fun e w' => e = .returned (.bool true) ∧ Below w.heap.size w w' := by
  have hsame := sameT_any _ u ds ds w (hl.row (cap := cap) (n := ds.length)) h2 (by unfold maxLen; omega) (by unfold maxLen; omega) true (by simp)
  have HM : Hid (Lies w g (tC ds ++ tC mkT)) := hl
  obtain ⟨y, d, e2⟩ := row_slice h2
  obtain ⟨N, hN⟩ : ∃ N, N = ds.length := ⟨_, rfl⟩
  have HN : Hid (N = ds.length) := hN
  rw [← hN] at hsame e2 hn hcap ⊢
  subst e2
  clear hN h2 hl
  have hcap2 : (N : Int) + 2 ≤ (cap : Int) := by omega
  go_enter Try.func16, Try.ntmps16
  go_wp2_with (go_at_call 26; go_must (refine hsame.mono ?_); rintro e w1 ⟨rfl, b1⟩; have mm := marksT (HM.out.below b1); rw [← HN.out] at mm; obtain ⟨m0, m1⟩ := mm)
  go_ret
  exact ⟨rfl, b1⟩
/-- From the place j on there are n texts, none of them too great. -/
def TextsF (xs : List Value) (j n : Nat) : Prop := ∀ i, j ≤ i → i < n → ∃ s : ByteArray, xs[i]? = some (.string s) ∧ s.size ≤ 140737488351232
theorem TextsF.set {xs : List Value} {j n : Nat} (h : TextsF xs j n) (v : Value) : TextsF (xs.set j v) (j + 1) n := by
  intro i hi hn
  obtain ⟨s, h1, h2⟩ := h i (by omega) hn
  exact ⟨s, by rw [List.getElem?_set_ne (by omega)]; exact h1, h2⟩
theorem textsF_tC {ds : List ByteArray} (h : ∀ d ∈ ds, d.size ≤ 140737488351232) : TextsF (tC ds) 0 ds.length := fun i _ hi => ⟨ds[i], tC_at hi, h _ (List.getElem_mem _)⟩
set_option maxRecDepth 20000 in
theorem spoilT_far {B n cap : Nat} {y : Option Addr} {xs : List Value} {w : World} (hown : w.ownsRow B 9 1 (.slice y n cap) n xs) (hi : TextsF xs 0 n) (hn : n ≤ 8796093022000) :
    Calls Try.prog 17 #[.slice y n cap] w fun e w' => e = .returned (.tuple #[]) ∧ Turn (fun k => (Value.slice y n cap).ownBlock = some k) w w' := by
  have HT : Hid (Turn (fun k => (Value.slice y n cap).ownBlock = some k) w w) := Turn.refl _ _
  by_cases h0 : n = 0
  · subst h0
    clear hown hi
    go_enter Try.func17, Try.ntmps17
    go_wp2
    go_loopw [2] (fun i wr => i = .int .i64 0 ∧ wr = w) (fun _ _ => 0)
    case atStart => exact ⟨rfl, rfl⟩
    case round =>
      obtain ⟨rfl, rfl⟩ := hrel
      go_wp2
      go_end0
      exact ⟨rfl, HT.out⟩
  · obtain ⟨g, cap', e1, _, _⟩ := hown.form (by omega)
    simp only [Value.slice.injEq, true_and] at e1
    obtain ⟨rfl, rfl⟩ := e1
    have HS : Hid (w.ownsRow B 9 1 (.slice (some ⟨g, 0, none⟩) n cap) n xs ∧ TextsF xs 0 n ∧ Turn (fun k => (Value.slice (some ⟨g, 0, none⟩) n cap).ownBlock = some k) w w) := ⟨hown, hi, HT.out⟩
    clear hown hi HT
    go_enter Try.func17, Try.ntmps17
    go_wp2
    go_loopw [2] (fun i wr => ∃ (j : Nat) (xs' : List Value), j ≤ n ∧ i = .int .i64 (j : Int) ∧ Hid (wr.ownsRow B 9 1 (.slice (some ⟨g, 0, none⟩) n cap) n xs' ∧ TextsF xs' j n ∧ Turn (fun k => (Value.slice (some ⟨g, 0, none⟩) n cap).ownBlock = some k) w wr)) (fun i _ => n - (intOf i).toNat)
    case atStart => exact ⟨0, xs, Nat.zero_le _, rfl, HS⟩
    case round =>
      clear HS
      obtain ⟨j, xs', hj, rfl, HS⟩ := hrel
      by_cases hjn : j < n
      · obtain ⟨s, ht, hs⟩ := HS.out.2.1 j (Nat.le_refl _) hjn
        have c1 : wr.cell? ⟨g, j, none⟩ = some (.string s) := by rw [HS.out.1.cellAt j (by omega)]; exact ht
        have f1 := HS.out.1.frozenAt j
        have HST : Hid ((wr.setCell ⟨g, j, none⟩ (.string (⟨#[126]⟩ ++ s))).ownsRow B 9 1 (.slice (some ⟨g, 0, none⟩) n cap) n (xs'.set j (.string (⟨#[126]⟩ ++ s))) ∧ TextsF (xs'.set j (.string (⟨#[126]⟩ ++ s))) (j + 1) n ∧ Turn (fun k => (Value.slice (some ⟨g, 0, none⟩) n cap).ownBlock = some k) w (wr.setCell ⟨g, j, none⟩ (.string (⟨#[126]⟩ ++ s)))) :=
          ⟨(HS.out.1.stored _ _).1, HS.out.2.1.set _, HS.out.2.2.same (Turn.of_set (S := fun k => (Value.slice (some ⟨g, 0, none⟩) n cap).ownBlock = some k) wr (p := ⟨g, j, none⟩) rfl _)⟩
        have zz : ∀ u : World, (Op.stringOp .add ⟨#[126]⟩ s).run Try.prog u = .ok (.string (⟨#[126]⟩ ++ s)) u := fun u => run_string_add_sum u _ s (by show 1 + s.size ≤ _; omega)
        clear ht
        go_wp2
        go_roundw
        case rel => exact ⟨j + 1, _, by omega, by go_num, HST.out⟩
        case measure => simp [intOf]; omega
      · have hjn' : decide (j < n) = false := by simpa using hjn
        go_wp2
        go_end0
        exact ⟨rfl, HS.out.2.2⟩

end Go.Proofs.Ytcmhjlflgedcdaa

/- A store in memory: the map of its entries, each with a row of texts of its own. -/
namespace Go.Proofs.Ytcmhjlflgedcdaa
open Go.RowKit
open Pl

/-- An entry's cells. -/
abbrev Hc := ByteArray × Int × Int × Value × Int × Int
def hA (c : Hc) : Value := .agg #[.string c.1, .int .i64 c.2.1, .int .i64 c.2.2.1, c.2.2.2.1, .int .i64 c.2.2.2.2.1, .int .i64 c.2.2.2.2.2]
def eA (e : En) (d : Value) : Value := .agg #[.string e.n, .int .i64 e.t, .int .i64 e.l, d, .int .i64 e.r, .int .i64 e.u]
def hc (p : En × Value) : Hc := (p.1.n, p.1.t, p.1.l, p.2, p.1.r, p.1.u)
theorem hA_hc (p : En × Value) : hA (hc p) = eA p.1 p.2 := rfl
def rE : Value → Option (DataW Hc × List MemPlace)
  | .agg cs => match cs.toList with
    | [.string n, .int .i64 t, .int .i64 l, d, .int .i64 r, .int .i64 u] => some (.held (n, t, l, d, r, u), [])
    | _ => none
  | _ => none
theorem rE_mk (c : Hc) : rE (hA c) = some (.held c, []) := rfl
theorem rE_inv {v : Value} {y : DataW Hc × List MemPlace} (h : rE v = some y) : ∃ c, v = hA c ∧ y = (.held c, []) := by
  unfold rE at h
  split at h
  · rename_i cs
    split at h
    · rename_i n t l d r u he
      cases h
      refine ⟨(n, t, l, d, r, u), ?_, rfl⟩
      unfold hA
      have : cs = #[.string n, .int .i64 t, .int .i64 l, d, .int .i64 r, .int .i64 u] := by
        apply Array.ext'
        exact he
      rw [this]
    · cases h
  · cases h

theorem laidOutE : laidOutB Try.prog = true := by kernel_rfl
theorem keyE : Go.Maps.Keyed Try.prog 73 := Go.Maps.Keyed.of_law (deep_law_laid laidOutE (m := 3) (by omega) (of_decide_eq_true (by kernel_rfl)) (by kernel_rfl) (by kernel_rfl))
/-- A name and a type as a key. -/
def kyL (n : ByteArray) (t : Int) : Lit := .string (keyBytes [.string n.data.toList, .int .i64 t])
def kyV (n : ByteArray) (t : Int) : Value := .agg #[.string n, .int .i64 t]
theorem typesE : ∃ m, Try.prog.types.size = m + 1 := ⟨Try.prog.types.size - 1, by have : (1 : Nat) ≤ Try.prog.types.size := of_decide_eq_true (by kernel_rfl); omega⟩
theorem cellsE : Try.prog.cellsOf 73 = 2 := by kernel_rfl
theorem cellsE9 : Try.prog.cellsOf 9 = 1 := by kernel_rfl
theorem cellsE3 : Try.prog.cellsOf 3 = 1 := by kernel_rfl
theorem keyOf_e {n : ByteArray} {t : Int} (hn : n.size ≤ maxLen) (ht : (Lit.int .i64 t).wf = true) : keyOf Try.prog 73 (kyV n t) = some (kyL n t) := by
  obtain ⟨m, hm⟩ := typesE
  have hk : Try.prog.keyType 73 = true := by kernel_rfl
  unfold keyOf kyV
  rw [Try.underlying73]
  simp only [hk, Bool.true_and, Value.formed, Try.underlying73, cellsE]
  have h2 : (#[Value.string n, Value.int .i64 t].size == 2) = true := rfl
  rw [if_pos h2, hm]
  simp [Program.keyLits, Try.underlying73, Try.underlying9, Try.underlying3, cellsE, cellsE9, cellsE3, Value.cells, hn, ht, kyL]
theorem ky_inj {n n' : ByteArray} {t t' : Int} (hn : n.size ≤ maxLen) (hn' : n'.size ≤ maxLen) (ht : (Lit.int .i64 t).wf = true) (ht' : (Lit.int .i64 t').wf = true) (h : kyL n t = kyL n' t') : n = n' ∧ t = t' := by
  have h1 := keyOf_e (n := n) (t := t) hn ht
  have h2 := keyOf_e (n := n') (t := t') hn' ht'
  rw [← h] at h2
  have := keyE.inj h1 h2
  unfold kyV at this
  simp at this
  exact this

theorem isKyL (n : ByteArray) (t : Int) : WideAt.IsKeyLit (kyL n t) := by simp [WideAt.IsKeyLit, kyL]
theorem wf_ok {n : ByteArray} {t : Int} (h : OkK n t) : (Lit.int .i64 t).wf = true := WalkArith.wf_i64 (by have := h.lo; have := h.hi; omega)
theorem max_ok {n : ByteArray} {t : Int} (h : OkK n t) : n.size ≤ maxLen := by have := h.size; unfold maxLen; omega
theorem same_ky {e : En} (he : OkE e) {n : ByteArray} {t : Int} (hn : n.size ≤ maxLen) (ht : (Lit.int .i64 t).wf = true) : (kyL e.n e.t).sameKey (kyL n t) = sameK n t e := by
  cases h : sameK n t e with
  | true =>
    obtain ⟨rfl, rfl⟩ := sameK_iff.1 h
    exact WideAt.sameKey_self (isKyL _ _)
  | false =>
    refine Maps.sameKey_ne (fun e' => ?_)
    have := ky_inj (max_ok he.k) hn (wf_ok he.k) ht e'
    rw [sameK_iff.2 this] at h
    cases h

/-- A map's reading and the entries that are held, each with its row of texts. -/
def ents (L : List (En × Value)) : List (Lit × DataW Hc) := L.map fun p => (kyL p.1.n p.1.t, .held (hc p))
def MapOf (D : DataW Hc) (L : List (En × Value)) : Prop := ∃ es, D = .map es ∧ es.Perm (ents L)
def fstL (L : List (En × Value)) : List En := L.map Prod.fst
structure Good (L : List (En × Value)) : Prop where
  ok : ∀ p ∈ L, OkE p.1
  dis : Dis (fstL L)
theorem mapOf_nil : MapOf (.map []) [] := ⟨[], rfl, List.Perm.refl _⟩
theorem any_perm {α : Type} {f : α → Bool} {a b : List α} (h : a.Perm b) : a.any f = b.any f := by
  rw [Bool.eq_iff_iff, List.any_eq_true, List.any_eq_true]
  exact ⟨fun ⟨x, hx, hf⟩ => ⟨x, h.mem_iff.1 hx, hf⟩, fun ⟨x, hx, hf⟩ => ⟨x, h.mem_iff.2 hx, hf⟩⟩
theorem mapOf_size {D : DataW Hc} {L : List (En × Value)} (h : MapOf D L) : Maps.size D = L.length := by
  obtain ⟨es, rfl, hp⟩ := h
  rw [Maps.size_eq, hp.length_eq]; simp [ents]
theorem mapOf_has {D : DataW Hc} {L : List (En × Value)} (h : MapOf D L) (hg : Good L) {n : ByteArray} {t : Int} (hn : n.size ≤ maxLen) (ht : (Lit.int .i64 t).wf = true) : Maps.has D (kyL n t) = L.any (fun p => sameK n t p.1) := by
  obtain ⟨es, rfl, hp⟩ := h
  rw [Maps.has_eq, any_perm hp]
  unfold ents
  rw [List.any_map]
  rw [Bool.eq_iff_iff, List.any_eq_true, List.any_eq_true]
  constructor
  · rintro ⟨p, hp, hs⟩; exact ⟨p, hp, by rw [← same_ky (hg.ok p hp) hn ht]; exact hs⟩
  · rintro ⟨p, hp, hs⟩; exact ⟨p, hp, by show (kyL p.1.n p.1.t).sameKey (kyL n t) = true; rw [same_ky (hg.ok p hp) hn ht]; exact hs⟩
theorem Good.one {L : List (En × Value)} (hg : Good L) {p q : En × Value} (hp : p ∈ L) (hq : q ∈ L) (h : sameK p.1.n p.1.t q.1 = true) : p = q := by
  obtain ⟨i, hi, rfl⟩ := List.getElem_of_mem hp
  obtain ⟨j, hj, rfl⟩ := List.getElem_of_mem hq
  by_cases e : i = j
  · subst e; rfl
  · have h1 : i < (fstL L).length := by unfold fstL; simpa using hi
    have h2 : j < (fstL L).length := by unfold fstL; simpa using hj
    have := hg.dis.at h1 h2 e
    simp only [fstL, List.getElem_map] at this
    rw [this] at h
    cases h
theorem mapOf_at {D : DataW Hc} {L : List (En × Value)} (h : MapOf D L) (hg : Good L) {p : En × Value} (hp : p ∈ L) (z : DataW Hc) : D.atKey (kyL p.1.n p.1.t) z = .held (hc p) := by
  obtain ⟨es, rfl, hpm⟩ := h
  unfold DataW.atKey
  have hmem : ((kyL p.1.n p.1.t, DataW.held (hc p)) : Lit × DataW Hc) ∈ es := hpm.mem_iff.2 (List.mem_map.2 ⟨p, hp, rfl⟩)
  cases hf : es.find? (fun q => q.1.sameKey (kyL p.1.n p.1.t)) with
  | none =>
    have := List.find?_eq_none.1 hf _ hmem
    simp [WideAt.sameKey_self (isKyL p.1.n p.1.t)] at this
  | some q =>
    have h1 := List.find?_some hf
    have h2 := List.mem_of_find?_eq_some hf
    obtain ⟨q', hq', rfl⟩ := List.mem_map.1 (hpm.mem_iff.1 h2)
    have h3 : sameK p.1.n p.1.t q'.1 = true := by rw [← same_ky (hg.ok q' hq') (max_ok (hg.ok p hp).k) (wf_ok (hg.ok p hp).k)]; exact h1
    obtain rfl := hg.one hp hq' h3
    simp only [hf]
theorem Good.sub {L M : List (En × Value)} (h : Good L) (hs : M.Sublist L) : Good M := ⟨fun p hp => h.ok p (hs.subset hp), h.dis.sub (hs.map _)⟩
theorem Good.snoc {L : List (En × Value)} (h : Good L) {p : En × Value} (hp : OkE p.1) (hn : ∀ q ∈ L, sameK p.1.n p.1.t q.1 = false) : Good (L ++ [p]) := by
  refine ⟨fun q hq => ?_, ?_⟩
  · rcases List.mem_append.1 hq with hq | hq
    · exact h.ok q hq
    · simp at hq; subst hq; exact hp
  · unfold fstL
    rw [List.map_append]
    refine Dis.snoc h.dis (fun x hx => ?_)
    obtain ⟨q, hq, rfl⟩ := List.mem_map.1 hx
    exact hn q hq
theorem mapOf_del {D : DataW Hc} {L : List (En × Value)} (h : MapOf D L) (hg : Good L) {n : ByteArray} {t : Int} (hn : n.size ≤ maxLen) (ht : (Lit.int .i64 t).wf = true) : MapOf (D.del (kyL n t)) (L.filter fun p => !sameK n t p.1) := by
  obtain ⟨es, rfl, hp⟩ := h
  refine ⟨_, rfl, (hp.filter _).trans ?_⟩
  unfold ents
  rw [List.filter_map]
  refine List.Perm.of_eq (congrArg _ (List.filter_congr (fun p hp => ?_)))
  show (!(kyL p.1.n p.1.t).sameKey (kyL n t)) = _
  rw [same_ky (hg.ok p hp) hn ht]
theorem insert_perm (x : Lit × DataW Hc) : ∀ l, (DataW.insert x l).Perm (x :: l) := by
  intro l
  induction l with
  | nil => exact List.Perm.refl _
  | cons y l ih =>
    unfold DataW.insert
    split
    · exact List.Perm.refl _
    · exact ((ih.cons y).trans (List.Perm.swap x y l))
theorem mapOf_put {D : DataW Hc} {L : List (En × Value)} (h : MapOf D L) (hg : Good L) (p : En × Value) (hp : OkE p.1) (hn : ∀ q ∈ L, sameK p.1.n p.1.t q.1 = false) : MapOf (D.put (kyL p.1.n p.1.t) (.held (hc p))) (L ++ [p]) := by
  obtain ⟨es, rfl, hpm⟩ := h
  refine ⟨_, rfl, ?_⟩
  have hf : es.filter (fun q => !q.1.sameKey (kyL p.1.n p.1.t)) = es := List.filter_eq_self.2 (fun q hq => by
    obtain ⟨q', hq', rfl⟩ := List.mem_map.1 (hpm.mem_iff.1 hq)
    show (!(kyL q'.1.n q'.1.t).sameKey (kyL p.1.n p.1.t)) = true
    rw [same_ky (hg.ok q' hq') (max_ok hp.k) (wf_ok hp.k), hn q' hq']; rfl)
  rw [hf]
  refine (insert_perm _ _).trans ?_
  unfold ents
  rw [List.map_append]
  exact (hpm.cons _).trans (List.perm_append_singleton _ _).symm

/-- The entries of a map lie in memory. -/
structure Hold (w : World) (b : Nat) (L : List (En × Value)) : Prop where
  map : ∃ n D, w.ownsMap Try.prog 73 rE b n D ∧ MapOf D L
  good : Good L
  dat : ∀ p ∈ L, w.ownsRow 0 9 1 p.2 p.1.ds.length (tC p.1.ds)
theorem own_tight {w : World} {b n : Nat} {D : DataW Hc} (h : w.ownsMap Try.prog 73 rE b n D) : w.ownsMap Try.prog 73 rE b (Maps.size D) D := by
  obtain ⟨es, clock, hb, F, _, rfl⟩ := h
  exact ⟨es, clock, hb, F, by simp [Maps.size, length_sorted], rfl⟩
theorem own_turn {S : Nat → Prop} {w w' : World} {b n : Nat} {D : DataW Hc} (h : w.ownsMap Try.prog 73 rE b n D) (ht : Turn S w w') (hs : ¬ S b) : w'.ownsMap Try.prog 73 rE b n D := by
  have hlt := h.lt
  obtain ⟨es, clock, hb, F, hn, rfl⟩ := h
  exact ⟨es, clock, (ht.block b hlt hs).trans hb, F, hn, rfl⟩
/-- The blocks of a store. -/
def foot (gs : Nat) (mb : Option Nat) (L : List (En × Value)) (k : Nat) : Prop := k = gs ∨ mb = some k ∨ ∃ p ∈ L, p.2.ownBlock = some k
theorem Hold.turn {S : Nat → Prop} {w w' : World} {b : Nat} {L : List (En × Value)} (h : Hold w b L) (ht : Turn S w w') (hb : ¬ S b) (hL : ∀ p ∈ L, ∀ k, p.2.ownBlock = some k → ¬ S k) : Hold w' b L := by
  obtain ⟨n, D, ho, hm⟩ := h.map
  exact ⟨⟨n, D, own_turn ho ht hb, hm⟩, h.good, fun p hp => ht.row (h.dat p hp) (hL p hp)⟩
theorem Hold.own {w : World} {b : Nat} {L : List (En × Value)} (h : Hold w b L) : ∃ D, w.ownsMap Try.prog 73 rE b L.length D ∧ MapOf D L := by
  obtain ⟨n, D, ho, hm⟩ := h.map
  refine ⟨D, ?_, hm⟩
  have := own_tight ho
  rw [mapOf_size hm] at this
  exact this
def MapAt (w : World) (mb : Option Nat) (L : List (En × Value)) : Prop := (mb = none ∧ L = []) ∨ ∃ b, mb = some b ∧ Hold w b L
structure St (w : World) (gs most : Nat) (mb : Option Nat) (L : List (En × Value)) : Prop where
  blk : Blk w gs #[.int .i64 most, .map mb] 68
  m1 : 1 ≤ most
  m2 : most ≤ 256
  len : L.length ≤ most
  at' : MapAt w mb L
theorem MapAt.good {w : World} {mb : Option Nat} {L : List (En × Value)} (h : MapAt w mb L) : Good L := by
  rcases h with ⟨_, rfl⟩ | ⟨b, _, h⟩
  · exact ⟨fun p hp => by simp at hp, List.Pairwise.nil⟩
  · exact h.good
theorem MapAt.turn {S : Nat → Prop} {w w' : World} {mb : Option Nat} {L : List (En × Value)} (h : MapAt w mb L) (ht : Turn S w w') (hb : ∀ b, mb = some b → ¬ S b) (hL : ∀ p ∈ L, ∀ k, p.2.ownBlock = some k → ¬ S k) : MapAt w' mb L :=
  h.imp id (fun ⟨b, e, hh⟩ => ⟨b, e, hh.turn ht (hb b e) hL⟩)
theorem MapAt.below {w w' : World} {mb : Option Nat} {L : List (En × Value)} (h : MapAt w mb L) (hb : Below w.heap.size w w') : MapAt w' mb L := h.turn (Turn.of_below (S := fun _ => False) hb) (fun _ _ => id) (fun _ _ _ _ => id)
theorem St.turn {S : Nat → Prop} {w w' : World} {gs most : Nat} {mb : Option Nat} {L : List (En × Value)} (h : St w gs most mb L) (ht : Turn S w w') (hs : ∀ k, foot gs mb L k → ¬ S k) : St w' gs most mb L :=
  ⟨ht.blk h.blk (hs gs (.inl rfl)), h.m1, h.m2, h.len, h.at'.turn ht (fun b e => hs b (.inr (.inl e))) (fun p hp k hk => hs k (.inr (.inr ⟨p, hp, hk⟩)))⟩
theorem St.below {w w' : World} {gs most : Nat} {mb : Option Nat} {L : List (En × Value)} (h : St w gs most mb L) (hb : Below w.heap.size w w') : St w' gs most mb L := h.turn (Turn.of_below (S := fun _ => False) hb) (fun _ _ => id)
theorem St.lt {w : World} {gs most : Nat} {mb : Option Nat} {L : List (En × Value)} (h : St w gs most mb L) : ∀ k, foot gs mb L k → k < w.heap.size := by
  rintro k (rfl | e | ⟨p, hp, e⟩)
  · exact h.blk.lt
  · rcases h.at' with ⟨e', _⟩ | ⟨b, e', hh⟩
    · rw [e'] at e; cases e
    · rw [e'] at e; cases e
      obtain ⟨n, D, ho, _⟩ := hh.map
      exact ho.lt
  · rcases h.at' with ⟨_, rfl⟩ | ⟨b, e', hh⟩
    · simp at hp
    · exact ((hh.dat p hp).lt k e).2

/-- What is told of a name and a type. -/
def eZ : Value := .agg #[.string ⟨#[]⟩, .int .i64 0, .int .i64 0, .slice none 0 0, .int .i64 0, .int .i64 0]
theorem zeroE (w : World) : (zeroValue 36).run Try.prog w = .ok eZ w := Try.zeroValue36 w
def atL (L : List (En × Value)) (n : ByteArray) (t : Int) : Option (En × Value) := L.find? fun p => sameK n t p.1
def vL (L : List (En × Value)) (n : ByteArray) (t : Int) : Value := match atL L n t with | some p => eA p.1 p.2 | none => eZ
def bL (L : List (En × Value)) (n : ByteArray) (t : Int) : Bool := (atL L n t).isSome
theorem atL_some {L : List (En × Value)} {n : ByteArray} {t : Int} {p : En × Value} (h : atL L n t = some p) : p ∈ L ∧ p.1.n = n ∧ p.1.t = t := by
  unfold atL at h
  exact ⟨List.mem_of_find?_eq_some h, sameK_iff.1 (by simpa using List.find?_some h)⟩
theorem atL_none {L : List (En × Value)} {n : ByteArray} {t : Int} (h : atL L n t = none) : ∀ p ∈ L, sameK n t p.1 = false := by
  unfold atL at h
  intro p hp
  simpa using List.find?_eq_none.1 h p hp
theorem atL_mem {L : List (En × Value)} (hg : Good L) {p : En × Value} (hp : p ∈ L) : atL L p.1.n p.1.t = some p := by
  cases h : atL L p.1.n p.1.t with
  | none => have := atL_none h p hp; rw [sameK_iff.2 ⟨rfl, rfl⟩] at this; cases this
  | some q =>
    obtain ⟨h1, h2, h3⟩ := atL_some h
    rw [hg.one hp h1 (sameK_iff.2 ⟨h2, h3⟩)]
theorem MapAt.look {w : World} {mb : Option Nat} {L : List (En × Value)} (h : MapAt w mb L) {n : ByteArray} {t : Int} (hn : n.size ≤ maxLen) (ht : (Lit.int .i64 t).wf = true) :
    (Instr.lookup 66 (.map mb) (kyV n t) true).run Try.prog w = .ok (.tuple #[vL L n t, .bool (bL L n t)]) w := by
  rcases h with ⟨rfl, rfl⟩ | ⟨b, rfl, hh⟩
  · have := Maps.look_nil (P := Try.prog) (w := w) (t := 66) true keyE Try.underlying66 (zeroE w) (keyOf_e hn ht)
    exact this
  · obtain ⟨k, D, ho, hm⟩ := hh.map
    obtain ⟨v, ps, hrun, hv⟩ := ho.look_ok keyE Try.underlying66 (zeroE w) (zd := .held (⟨#[]⟩, 0, 0, .slice none 0 0, 0, 0)) (zp := []) rfl (keyOf_e hn ht)
    rw [hrun, mapOf_has hm hh.good hn ht]
    obtain ⟨c, rfl, hc⟩ := rE_inv hv
    cases ha : atL L n t with
    | none =>
      have hf : L.any (fun p => sameK n t p.1) = false := by
        rw [List.any_eq_false]
        intro p hp
        rw [atL_none ha p hp]; simp
      rw [hf]
      have hat := Maps.atKey_of_not_has (k := kyL n t) (D := D) (by rw [mapOf_has hm hh.good hn ht, hf]) (.held (⟨#[]⟩, 0, 0, .slice none 0 0, 0, 0))
      rw [hat] at hc
      cases hc
      unfold vL bL
      rw [ha]
      rfl
    | some p =>
      obtain ⟨h1, rfl, rfl⟩ := atL_some ha
      have hf : L.any (fun q => sameK p.1.n p.1.t q.1) = true := List.any_eq_true.2 ⟨p, h1, sameK_iff.2 ⟨rfl, rfl⟩⟩
      rw [hf]
      rw [mapOf_at hm hh.good h1] at hc
      cases hc
      unfold vL bL
      rw [ha]
      rfl
theorem MapAt.len {w : World} {mb : Option Nat} {L : List (En × Value)} (h : MapAt w mb L) (ty : TypeId) : (Builtin.len_ #[66] ty #[.map mb]).run Try.prog w = .ok (.int .i64 (L.length : Nat)) w := by
  rcases h with ⟨rfl, rfl⟩ | ⟨b, rfl, hh⟩
  · exact Maps.len_nil Try.underlying66 ty
  · obtain ⟨k, D, ho, hm⟩ := hh.map
    rw [ho.len Try.underlying66 ty, mapOf_size hm]

/-- A range over the map: one of its entries comes. -/
theorem rg_next {w : World} {b r n cnt : Nat} {D : DataW Hc} {left : Lit → Bool} {L : List (En × Value)} (h : w.ranges Try.prog 73 rE b r n D left cnt) (hm : MapOf D L) (hg : Good L) (ty : TypeId) :
    (cnt = 0 ∧ (∀ kl, left kl = false) ∧ (Instr.next (.pointer (some ⟨r, 0, none⟩)) false ty).run Try.prog w = .ok (.tuple #[.bool false]) w) ∨
    ∃ (p : En × Value) (w' : World) (cnt' : Nat), p ∈ L ∧ left (kyL p.1.n p.1.t) = true ∧ (Instr.next (.pointer (some ⟨r, 0, none⟩)) false ty).run Try.prog w = .ok (.tuple #[.bool true, kyV p.1.n p.1.t, eA p.1 p.2]) w' ∧
      w'.ranges Try.prog 73 rE b r n D (fun x => left x && !x.sameKey (kyL p.1.n p.1.t)) cnt' ∧ cnt' < cnt ∧ w.grownBy w' (some r) ∧ w'.heap.size = w.heap.size ∧ (Instr.entry (.pointer (some ⟨r, 0, none⟩))).run Try.prog w' = .ok (.tuple #[kyV p.1.n p.1.t, eA p.1 p.2]) w' := by
  rcases h.next keyE ty with h | ⟨key, v, kl, y, w', cnt', hkey, hlk, hv, hat, hrun, hrg, hlt, hgr, hsz, hen⟩
  · exact .inl h
  · have hh := Maps.has_true_of_atKey hat
    obtain ⟨es, rfl, hp⟩ := hm
    have hh2 := hh
    rw [Maps.has_eq, any_perm hp, List.any_eq_true] at hh2
    obtain ⟨q, hq, hs⟩ := hh2
    obtain ⟨p, hpL, rfl⟩ := List.mem_map.1 hq
    have hkl : kyL p.1.n p.1.t = kl := WideAt.sameKey_eq hs
    subst hkl
    have hk2 := keyOf_e (max_ok (hg.ok p hpL).k) (wf_ok (hg.ok p hpL).k)
    have : key = kyV p.1.n p.1.t := keyE.inj hkey hk2
    subst this
    have ha := mapOf_at (L := L) ⟨es, rfl, hp⟩ hg hpL (.nil)
    rw [hat] at ha
    obtain ⟨c, rfl, hc⟩ := rE_inv hv
    rw [hc] at ha
    cases ha
    exact .inr ⟨p, w', cnt', hpL, hlk, hrun, hrg, hlt, hgr, hsz, hen⟩
theorem wpList_next_e (w : World) {ops : Array Oper} {rest : List Oper} {o : Oper} {a : Act} {Q : Exit → Act → World → Prop} (hgd : o.guard = none) (it : Operand) (hop : o.op = Op.next it false) (b r n cnt : Nat) (D : DataW Hc) (left : Lit → Bool) (L : List (En × Value))
    (hit : a.eval it = .pointer (some ⟨r, 0, none⟩)) (h : w.ranges Try.prog 73 rE b r n D left cnt) (hm : MapOf D L) (hg : Good L)
    (hDone : cnt = 0 → (∀ kl, left kl = false) → wpList Try.prog ops Q rest (a.put o.dst (.tuple #[.bool false])) w)
    (hMore : ∀ (p : En × Value) (w' : World) (cnt' : Nat), p ∈ L → left (kyL p.1.n p.1.t) = true → w'.ranges Try.prog 73 rE b r n D (fun x => left x && !x.sameKey (kyL p.1.n p.1.t)) cnt' → cnt' < cnt → w.grownBy w' (some r) → w'.heap.size = w.heap.size →
      (Instr.entry (.pointer (some ⟨r, 0, none⟩))).run Try.prog w' = .ok (.tuple #[kyV p.1.n p.1.t, eA p.1 p.2]) w' → wpList Try.prog ops Q rest (a.put o.dst (.tuple #[.bool true, kyV p.1.n p.1.t, eA p.1 p.2])) w') :
    wpList Try.prog ops Q (o :: rest) a w := by
  refine wpList_plain hgd fun K' hK' => ?_
  unfold Oper.wp
  rcases rg_next h hm hg o.type with ⟨h0, hl, hrun⟩ | ⟨p, w', cnt', hp, hlk, hrun, hrg, hlt, hgr, hsz, hen⟩
  · simp [execOp, hop, hit, hrun, Result.andThen]
    exact hK' _ _ (hDone h0 hl)
  · simp [execOp, hop, hit, hrun, Result.andThen]
    exact hK' _ _ (hMore p w' cnt' hp hlk hrg hlt hgr hsz hen)

end Go.Proofs.Ytcmhjlflgedcdaa

/- Structs as a whole out of their blocks and into them. -/
namespace Go.Proofs.Ytcmhjlflgedcdaa
open Go.RowKit
open Pl

def structB (T : TypeId) : Prop := ∃ fs, Try.prog.underlying T = some (.struct fs)
theorem load_s {w : World} {g : Nat} {C : Array Value} {t : TypeId} (T : TypeId) (hg : Blk w g C t) (hu : structB T) (hs : (Try.prog.info? T).map (·.size) = some C.size) : (loadVar T ⟨g, 0, none⟩).run Try.prog w = .ok (.agg C) w := by
  obtain ⟨fs, hq⟩ := hu
  exact run_loadVar_row _ _ t T C (0, 0) _ hg hq rfl hs
theorem store_s {w : World} {g : Nat} {Z C : Array Value} {t : TypeId} (T : TypeId) (hg : Blk w g Z t) (hs : (Try.prog.info? T).map (·.size) = some C.size) (hZ : Z.size = C.size) (h1 : C.all (·.oneCell') = true) :
    ∃ w', (storeVar T ⟨g, 0, none⟩ (.agg C)).run Try.prog w = .ok () w' ∧ Blk w' g C t ∧ Turn (fun k => k = g) w w' ∧ w'.heap.size = w.heap.size ∧ w'.drawn = w.drawn :=
  ⟨_, run_storeVar_row _ _ t T Z C hg hs hZ h1, setRow_heap _ _ Z _ t (0, 0) hg, Turn.of_grown (row := some g) ⟨rfl, rfl, rfl, by simp, fun k _ hne => setRow_other _ _ _ _ (fun e => hne (by rw [e]))⟩ (fun k e => (Option.some.inj e).symm), by simp, rfl⟩
/-- A whole struct out of its block. -/
theorem wpList_loadS (w : World) {ops : Array Oper} {rest : List Oper} {o : Oper} {a : Act} {Q : Exit → Act → World → Prop} (hgd : o.guard = none) (x : Operand) (T : TypeId) (ho : o.op = .load T x) (g : Nat) (C : Array Value) (t : TypeId)
    (hx : a.eval x = .pointer (some ⟨g, 0, none⟩)) (hg : Blk w g C t) (hu : structB T) (hs : (Try.prog.info? T).map (·.size) = some C.size)
    (h : wpList Try.prog ops Q rest (a.put o.dst (.agg C)) w) : wpList Try.prog ops Q (o :: rest) a w := by
  refine wpList_plain hgd fun K hK => ?_
  have hr : (Instr.loadAt T (.pointer (some ⟨g, 0, none⟩))).run Try.prog w = .ok (.agg C) w := by
    simp only [Instr.loadAt, Instr.sureAddr, Sem.run_bind, Sem.run_pure, Result.andThen]
    exact load_s T hg hu hs
  unfold Oper.wp execOp
  simp only [ho, hx, Sem.run_bind, hr, Result.andThen_ok, Sem.run_pure]
  exact hK _ _ h
/-- A whole struct into its block. -/
theorem wpList_storeS (w : World) {ops : Array Oper} {rest : List Oper} {o : Oper} {a : Act} {Q : Exit → Act → World → Prop} (hgd : o.guard = none) (x y : Operand) (T : TypeId) (ho : o.op = .store T x y) (g : Nat) (Z C : Array Value) (t : TypeId)
    (hx : a.eval x = .pointer (some ⟨g, 0, none⟩)) (hy : a.eval y = .agg C) (hg : Blk w g Z t) (hs : (Try.prog.info? T).map (·.size) = some C.size) (hZ : Z.size = C.size) (h1 : C.all (·.oneCell') = true)
    (h : ∀ w', Blk w' g C t → Turn (fun k => k = g) w w' → w'.heap.size = w.heap.size → w'.drawn = w.drawn → wpList Try.prog ops Q rest (a.put o.dst undef) w') : wpList Try.prog ops Q (o :: rest) a w := by
  refine wpList_plain hgd fun K hK => ?_
  obtain ⟨w', hrun, hb, ht, hz, hd⟩ := store_s T hg hs hZ h1
  have hr : (Instr.storeAt T (.pointer (some ⟨g, 0, none⟩)) (.agg C)).run Try.prog w = .ok () w' := by
    simp only [Instr.storeAt, Instr.sureAddr, Sem.run_bind, Sem.run_pure, Result.andThen]
    exact hrun
  unfold Oper.wp execOp
  simp only [ho, hx, hy, Sem.run_bind, hr, Result.andThen_ok, Sem.run_pure]
  exact hK _ _ (h _ hb ht hz hd)
/-- The same in a region that draws its order. -/
theorem step_storeS (w : World) {ops : Array Oper} {o : Oper} {a : Act} {K : Act → World → Prop} {Q : Exit → Act → World → Prop} {E : Prop} (hgd : o.guard = none) (x y : Operand) (T : TypeId) (ho : o.op = .store T x y) (g : Nat) (Z C : Array Value) (t : TypeId)
    (hx : a.eval x = .pointer (some ⟨g, 0, none⟩)) (hy : a.eval y = .agg C) (hg : Blk w g Z t) (hs : (Try.prog.info? T).map (·.size) = some C.size) (hZ : Z.size = C.size) (h1 : C.all (·.oneCell') = true)
    (h : ∀ w', Blk w' g C t → Turn (fun k => k = g) w w' → w'.heap.size = w.heap.size → w'.drawn = w.drawn → K (a.put o.dst undef) w') : if Region.wanted o (yielded ops a.tmps) = true then Oper.wp Try.prog o a w K Q else E := by
  have hw : Region.wanted o (yielded ops a.tmps) = true := by simp [Region.wanted, hgd]
  rw [if_pos hw]
  obtain ⟨w', hrun, hb, ht, hz, hd⟩ := store_s T hg hs hZ h1
  have hr : (Instr.storeAt T (.pointer (some ⟨g, 0, none⟩)) (.agg C)).run Try.prog w = .ok () w' := by
    simp only [Instr.storeAt, Instr.sureAddr, Sem.run_bind, Sem.run_pure, Result.andThen]
    exact hrun
  unfold Oper.wp execOp
  simp only [ho, hx, hy, Sem.run_bind, hr, Result.andThen_ok, Sem.run_pure]
  exact h _ hb ht hz hd
/-- What a function hands back out of its result's block. -/
theorem ret_s {fn : Func} {p : Tmp} {T : TypeId} (hf : fn.results = #[.cell p T]) {tmps : Array Value} {w : World} {g : Nat} {C : Array Value} {t : TypeId} (hp : tmps.getD p undef = .pointer (some ⟨g, 0, none⟩)) (hg : Blk w g C t) (hu : structB T) (hs : (Try.prog.info? T).map (·.size) = some C.size) :
    (results fn tmps).run Try.prog w = .ok (.agg C) w := by
  have hl := load_s T hg hu hs
  rw [results_cell hf, hp]
  simp only [asAddr, Sem.run_pure, Result.andThen]
  exact hl
theorem ret_s1 {fn : Func} {p q : Tmp} {T : TypeId} (hf : fn.results = #[.cell p T, .tmp q]) {tmps : Array Value} {w : World} {g : Nat} {C : Array Value} {t : TypeId} {v : Value} (hp : tmps.getD p undef = .pointer (some ⟨g, 0, none⟩)) (hq : tmps.getD q undef = v) (hg : Blk w g C t) (hu : structB T) (hs : (Try.prog.info? T).map (·.size) = some C.size) :
    (results fn tmps).run Try.prog w = .ok (.tuple #[.agg C, v]) w := by
  have hl := load_s T hg hu hs
  have ha : (asAddr (tmps.getD p undef)).run Try.prog w = .ok ⟨g, 0, none⟩ w := by rw [hp]; simp only [asAddr, Sem.run_pure]
  rw [Array.getD_eq_getD_getElem?] at ha hq
  simp only [results, hf]
  simp [Sem.run_bind, Result.andThen]
  rw [ha]
  simp only
  rw [hl, hq]
theorem ret_s2 {fn : Func} {p q r : Tmp} {T : TypeId} (hf : fn.results = #[.cell p T, .tmp q, .tmp r]) {tmps : Array Value} {w : World} {g : Nat} {C : Array Value} {t : TypeId} {v u : Value} (hp : tmps.getD p undef = .pointer (some ⟨g, 0, none⟩)) (hq : tmps.getD q undef = v) (hr : tmps.getD r undef = u) (hg : Blk w g C t) (hu : structB T) (hs : (Try.prog.info? T).map (·.size) = some C.size) :
    (results fn tmps).run Try.prog w = .ok (.tuple #[.agg C, v, u]) w := by
  have hl := load_s T hg hu hs
  have ha : (asAddr (tmps.getD p undef)).run Try.prog w = .ok ⟨g, 0, none⟩ w := by rw [hp]; simp only [asAddr, Sem.run_pure]
  rw [Array.getD_eq_getD_getElem?] at ha hq hr
  simp only [results, hf]
  simp [Sem.run_bind, Result.andThen]
  rw [ha]
  simp only
  rw [hl, hq, hr]
theorem Turn.one_below {w a b : World} {g : Nat} (h : Turn (fun k => k = g) a b) (hb : Below w.heap.size w a) (hg : w.heap.size ≤ g) : Below w.heap.size w b := Turn.below hb h hb.size (fun i e => by rw [e]; exact hg)

end Go.Proofs.Ytcmhjlflgedcdaa

/- The store's small functions: isWrong, isLive, keyOf, order. -/
namespace Go.Proofs.Ytcmhjlflgedcdaa
open Go.RowKit
open Pl

theorem isLive_any (n : ByteArray) (t l r u now : Int) (d : Value) (w : World) (_hd : d.oneCell' = true) :
    Calls Try.prog 46 #[.agg #[.string n, .int .i64 t, .int .i64 l, d, .int .i64 r, .int .i64 u], .int .i64 now] w fun e w' => e = .returned (.bool (decide (now < u))) ∧ Below w.heap.size w w' := by
  go_enter Try.func46, Try.ntmps46
  go_wp2
  go_ret
  exact ⟨rfl, lay (Below.refl _ _) _⟩

theorem keyOf_any (n : ByteArray) (t : Int) (w : World) (hn : n.size ≤ maxLen) :
    Calls Try.prog 32 #[.string n, .int .i64 t] w fun e w' => e = .returned (kyV (fdB n) t) ∧ Below w.heap.size w w' := by
  unfold kyV fdB
  have hb : Below w.heap.size w (w.alloc (.cells #[.string ⟨#[]⟩, .int .i64 0] 73)) := lay (Below.refl _ _) _
  have hk := Blk.new w #[.string ⟨#[]⟩, .int .i64 0] 73
  go_enter Try.func32, Try.ntmps32
  go_wp2_with (first
    | (go_at_call 45; go_must (refine (fold_any _ _ hn).mono ?_); rintro e w1 ⟨rfl, b1⟩; replace hk := hk.below b1; replace hb := next hb b1)
    | (refine wpList_storeS _ rfl (.tmp 4) (.tmp 8) 73 rfl w.heap.size _ _ 73 rfl rfl hk (by kernel_rfl) rfl (by simp [Value.oneCell']) ?_; intro w2 k2 t2 _ _))
  refine bodyPost_ret (v := kyV (fdB n) t) (ret_s rfl rfl k2 ⟨_, Try.underlying73⟩ (by kernel_rfl)) rfl ⟨rfl, t2.one_below hb (Nat.le_refl _)⟩

/-- What order gives, what it lays and draws. -/
theorem order_d (a b : ByteArray) (s t : Int) (w : World) (ha : a.size ≤ maxLen) (hb : b.size ≤ maxLen) :
    Calls Try.prog 41 #[.agg #[.string a, .int .i64 s], .agg #[.string b, .int .i64 t]] w fun e w' => e = .returned (.int .i64 (cK a s b t)) ∧ Below w.heap.size w w' ∧ w.drawn ≤ w'.drawn := by
  have hbel : Below w.heap.size w ((w.alloc (.cells #[.string a, .int .i64 s] 73)).alloc (.cells #[.string b, .int .i64 t] 73)) := lay (lay (Below.refl _ _) _) _
  have k1 := (Blk.new w #[.string a, .int .i64 s] 73).alloc (.cells #[.string b, .int .i64 t] 73)
  have k2 := Blk.new (w.alloc (.cells #[.string a, .int .i64 s] 73)) #[.string b, .int .i64 t] 73
  have e2 : (w.alloc (.cells #[.string a, .int .i64 s] 73)).heap.size = w.heap.size + 1 := by simp
  rw [e2] at k2
  by_cases hz : cmpN a.data.toList b.data.toList = 0
  · have HC : Hid (cK a s b t = sgn s t) := by unfold Hid cK; rw [if_pos hz]
    have HZ : Hid (cmpN a.data.toList b.data.toList = 0) := hz
    clear hz
    have hcmp : ∀ u : World, Calls Try.prog 51 #[.string a, .string b] u fun e w' => e = .returned (.int .i64 0) ∧ Below u.heap.size u w' ∧ u.drawn ≤ w'.drawn := fun u => by have := compare_d a b u ha hb; rw [HZ.out] at this; exact this
    go_enter Try.func41, Try.ntmps41
    go_wp2_with (first
      | (go_at_call 51; go_must (refine (hcmp _).mono ?_); rintro e w1 ⟨rfl, b1, d1⟩; have c1 := (k1.below b1).cell 1; have c2 := (k2.below b1).cell 1; simp only [List.getElem?_toArray, List.getElem?_cons_succ, List.getElem?_cons_zero] at c1 c2)
      | (go_at_call 52; go_must (refine (cmpI_any _ _ _).mono ?_); rintro e w' ⟨rfl, hw⟩; obtain rfl := hw.symm))
    go_ret
    exact ⟨ret_int HC.out.symm, next hbel b1, d1⟩
  · have HC : Hid (cK a s b t = cmpN a.data.toList b.data.toList) := by unfold Hid cK; rw [if_neg hz]
    have hz2 : (cmpN a.data.toList b.data.toList != 0) = true := by simpa using hz
    clear hz
    go_enter Try.func41, Try.ntmps41
    go_wp2_with (go_at_call 51; go_must (refine (compare_d a b _ ha hb).mono ?_); rintro e w1 ⟨rfl, b1, d1⟩)
    go_ret
    exact ⟨ret_int HC.out.symm, next hbel b1, d1⟩

theorem isWrong_any (n : ByteArray) (t l r u now : Int) (y : Option Addr) (c k : Nat) (ds : List ByteArray) (w : World) (hn : n.size ≤ maxLen) (hk : k = ds.length) (b : Bool) (hb : mayE ⟨n, t, l, ds, r, u⟩ now = b) :
    Calls Try.prog 31 #[.agg #[.string n, .int .i64 t, .int .i64 l, .slice y k c, .int .i64 r, .int .i64 u], .int .i64 now] w fun e w' => e = .returned (.bool (!b)) ∧ Below w.heap.size w w' := by
  have hds : decide (ds ≠ []) = decide (¬ k = 0) := by rw [hk]; cases ds <;> simp
  have HB : Hid ((isName n.data.toList && decide (1 ≤ t) && decide (t ≤ 65535) && decide (¬ k = 0) && decide (1 ≤ r) && decide (r ≤ 3) && decide (now < u) && decide (0 ≤ now) && decide (now ≤ 1099511627776)) = b) := by
    unfold mayE at hb
    rw [hds] at hb
    exact hb
  clear hb hds hk
  cases h0 : isName n.data.toList with
  | false =>
    have hb0 : b = false := by have := HB.out; rw [h0] at this; simpa using this.symm
    subst hb0
    go_enter Try.func31, Try.ntmps31
    go_wp2_with (go_at_call 44; go_must (refine (may_as _ false _ hn h0).mono ?_); rintro e w' ⟨rfl, hw⟩; obtain rfl := hw.symm)
    go_ret
    exact ⟨rfl, lay (Below.refl _ _) _⟩
  | true =>
    by_cases c0 : t < 1
    · have hb0 : b = false := by have := HB.out; rw [show decide (1 ≤ t) = false from by simp; omega] at this; simp at this; exact this
      subst hb0
      go_enter Try.func31, Try.ntmps31
      go_wp2_with (go_at_call 44; go_must (refine (may_as _ true _ hn h0).mono ?_); rintro e w' ⟨rfl, hw⟩; obtain rfl := hw.symm)
      go_ret
      exact ⟨rfl, lay (Below.refl _ _) _⟩
    · have d0 : decide (t < 1) = false := by simp; omega
      by_cases c1 : 65535 < t
      · have hb0 : b = false := by have := HB.out; rw [show decide (t ≤ 65535) = false from by simp; omega] at this; simp at this; exact this
        subst hb0
        go_enter Try.func31, Try.ntmps31
        go_wp2_with (go_at_call 44; go_must (refine (may_as _ true _ hn h0).mono ?_); rintro e w' ⟨rfl, hw⟩; obtain rfl := hw.symm)
        go_ret
        exact ⟨rfl, lay (Below.refl _ _) _⟩
      · have d1 : decide (65535 < t) = false := by simp; omega
        by_cases c2 : k = 0
        · have hb0 : b = false := by have := HB.out; rw [show decide (¬ k = 0) = false from by simp; omega] at this; simp at this; exact this
          subst hb0
          subst c2
          go_enter Try.func31, Try.ntmps31
          go_wp2_with (go_at_call 44; go_must (refine (may_as _ true _ hn h0).mono ?_); rintro e w' ⟨rfl, hw⟩; obtain rfl := hw.symm)
          go_ret
          exact ⟨rfl, lay (Below.refl _ _) _⟩
        · have d2 : ((k : Int) == 0) = false := by simp; omega
          by_cases c3 : r < 1
          · have hb0 : b = false := by have := HB.out; rw [show decide (1 ≤ r) = false from by simp; omega] at this; simp at this; exact this
            subst hb0
            go_enter Try.func31, Try.ntmps31
            go_wp2_with (go_at_call 44; go_must (refine (may_as _ true _ hn h0).mono ?_); rintro e w' ⟨rfl, hw⟩; obtain rfl := hw.symm)
            go_ret
            exact ⟨rfl, lay (Below.refl _ _) _⟩
          · have d3 : decide (r < 1) = false := by simp; omega
            by_cases c4 : 3 < r
            · have hb0 : b = false := by have := HB.out; rw [show decide (r ≤ 3) = false from by simp; omega] at this; simp at this; exact this
              subst hb0
              go_enter Try.func31, Try.ntmps31
              go_wp2_with (go_at_call 44; go_must (refine (may_as _ true _ hn h0).mono ?_); rintro e w' ⟨rfl, hw⟩; obtain rfl := hw.symm)
              go_ret
              exact ⟨rfl, lay (Below.refl _ _) _⟩
            · have d4 : decide (3 < r) = false := by simp; omega
              by_cases c5 : u ≤ now
              · have hb0 : b = false := by have := HB.out; rw [show decide (now < u) = false from by simp; omega] at this; simp at this; exact this
                subst hb0
                go_enter Try.func31, Try.ntmps31
                go_wp2_with (go_at_call 44; go_must (refine (may_as _ true _ hn h0).mono ?_); rintro e w' ⟨rfl, hw⟩; obtain rfl := hw.symm)
                go_ret
                exact ⟨rfl, lay (Below.refl _ _) _⟩
              · have d5 : decide (u ≤ now) = false := by simp; omega
                by_cases c6 : now < 0
                · have hb0 : b = false := by have := HB.out; rw [show decide (0 ≤ now) = false from by simp; omega] at this; simp at this; exact this
                  subst hb0
                  go_enter Try.func31, Try.ntmps31
                  go_wp2_with (go_at_call 44; go_must (refine (may_as _ true _ hn h0).mono ?_); rintro e w' ⟨rfl, hw⟩; obtain rfl := hw.symm)
                  go_ret
                  exact ⟨rfl, lay (Below.refl _ _) _⟩
                · have d6 : decide (now < 0) = false := by simp; omega
                  by_cases c7 : 1099511627776 < now
                  · have hb0 : b = false := by have := HB.out; rw [show decide (now ≤ 1099511627776) = false from by simp; omega] at this; simp at this; exact this
                    subst hb0
                    go_enter Try.func31, Try.ntmps31
                    go_wp2_with (go_at_call 44; go_must (refine (may_as _ true _ hn h0).mono ?_); rintro e w' ⟨rfl, hw⟩; obtain rfl := hw.symm)
                    go_ret
                    exact ⟨rfl, lay (Below.refl _ _) _⟩
                  · have d7 : decide (1099511627776 < now) = false := by simp; omega
                    have hb0 : b = true := by have := HB.out; rw [h0] at this; rw [← this]; simp; omega
                    subst hb0
                    go_enter Try.func31, Try.ntmps31
                    go_wp2_with (go_at_call 44; go_must (refine (may_as _ true _ hn h0).mono ?_); rintro e w' ⟨rfl, hw⟩; obtain rfl := hw.symm)
                    go_ret
                    exact ⟨rfl, lay (Below.refl _ _) _⟩

end Go.Proofs.Ytcmhjlflgedcdaa

/- What copyOf of package store gives: a set in memory of its own. -/
namespace Go.Proofs.Ytcmhjlflgedcdaa
open Go.RowKit
open Pl

/-- The first j texts, and none. -/
def dTo (ds : List ByteArray) (j : Nat) : List ByteArray := ds.take j ++ List.replicate (ds.length - j) ⟨#[]⟩
theorem dTo_len {ds : List ByteArray} {j : Nat} (h : j ≤ ds.length) : (dTo ds j).length = ds.length := by
  unfold dTo; rw [List.length_append, List.length_take, List.length_replicate]; omega
theorem dTo_set {ds : List ByteArray} {j : Nat} (h : j < ds.length) : (dTo ds j).set j ds[j] = dTo ds (j + 1) := by
  have hl : (ds.take j).length = j := by rw [List.length_take]; omega
  unfold dTo
  rw [List.set_append_right _ _ (by omega), hl, Nat.sub_self, show ds.length - j = (ds.length - (j + 1)) + 1 from by omega, List.replicate_succ, List.set_cons_zero, List.take_succ_eq_append_getElem h, List.append_assoc]
  rfl
theorem dTo_all (ds : List ByteArray) : dTo ds ds.length = ds := by unfold dTo; rw [Nat.sub_self]; simp
theorem tC_set (ds : List ByteArray) (j : Nat) (s : ByteArray) : (tC ds).set j (.string s) = tC (ds.set j s) := by unfold tC; rw [List.map_set]
theorem made1 (n : Nat) : (madeCells (Value.string ⟨#[]⟩).cells (n * 1)).toList = tC (List.replicate n ⟨#[]⟩) := by
  apply List.ext_getElem?
  intro j
  unfold madeCells tC
  rw [Array.getElem?_toList, Array.getElem?_map, Array.getElem?_range, List.getElem?_map, List.getElem?_replicate]
  by_cases hj : j < n
  · rw [if_pos (by omega), if_pos hj]
    simp [Value.cells, Nat.mod_one]
  · rw [if_neg (by omega), if_neg hj]
    rfl

def sA (n : ByteArray) (t l : Int) (d : Value) : Array Value := #[.string n, .int .i64 t, .int .i64 l, d]
/-- How far copyOf is. -/
structure CO (w0 w : World) (n : ByteArray) (t l : Int) (v : Value) (g : Nat) (ds : List ByteArray) (j : Nat) : Prop where
  b1 : Blk w w0.heap.size (sA n t l v) 34
  b2 : Blk w (w0.heap.size + 1) (sA ⟨#[]⟩ 0 0 (.slice none 0 0)) 34
  row : w.ownsRow (w0.heap.size + 2) 9 1 (.slice (some ⟨g, 0, none⟩) ds.length ds.length) ds.length (tC (dTo ds j))
  src : Row w v ds.length (tC ds)
  bel : Below w0.heap.size w0 w
  old : Row w0 v ds.length (tC ds)
theorem CO.below {w0 w w' : World} {n : ByteArray} {t l : Int} {v : Value} {g : Nat} {ds : List ByteArray} {j : Nat} (h : CO w0 w n t l v g ds j) (hb : Below w.heap.size w w') : CO w0 w' n t l v g ds j :=
  ⟨h.b1.below hb, h.b2.below hb, own_past h.row hb, h.src.below hb, next h.bel hb, h.old⟩
theorem row_turned {w0 w : World} {v : Value} {k : Nat} {xs : List Value} (h : Row w0 v k xs) (hb : Below w0.heap.size w0 w) : Row w v k xs := h.below hb
theorem CO.set {w0 w : World} {n : ByteArray} {t l : Int} {v : Value} {g : Nat} {ds : List ByteArray} {j : Nat} (h : CO w0 w n t l v g ds j) (hj : j < ds.length) : CO w0 (w.setCell ⟨g, j, none⟩ (.string ds[j])) n t l v g ds (j + 1) := by
  have hlt := h.row.lt g rfl
  have hb : Below w0.heap.size w0 (w.setCell ⟨g, j, none⟩ (.string ds[j])) := h.bel.setCell (p := ⟨g, j, none⟩) (by show w0.heap.size ≤ g; omega) _
  refine ⟨h.b1.other (by omega) _ _, h.b2.other (by omega) _ _, ?_, h.old.below hb, hb, h.old⟩
  have := (h.row.stored j (.string ds[j])).1
  rw [tC_set, dTo_set hj] at this
  exact this

theorem co_start {w w1 w2 : World} {n : ByteArray} {t l : Int} {v : Value} {ds : List ByteArray} {N : Nat} (hN : N = ds.length) (k1 : Blk w1 w.heap.size #[.string n, .int .i64 t, .int .i64 l, v] 34) (k2 : Blk w1 (w.heap.size + 1) #[.string ⟨#[]⟩, .int .i64 0, .int .i64 0, .slice none 0 0] 34)
    (hb : Below w.heap.size w w1) (old : Row w v ds.length (tC ds)) {g : Nat} (own2 : w2.ownsRow (w.heap.size + 2) 9 1 (.slice (some ⟨g, 0, none⟩) N N) N (madeCells (Value.string ⟨#[]⟩).cells (N * 1)).toList)
    (grow2 : (w1.setCell ⟨w.heap.size, 0, none⟩ (.string n)).grownBy w2 none) : CO w w2 n t l v g ds 0 := by
  subst hN
  have hb2 := grown_below grow2
  have hb1 : Below w.heap.size w (w1.setCell ⟨w.heap.size, 0, none⟩ (.string n)) := hb.setCell (p := ⟨w.heap.size, 0, none⟩) (Nat.le_refl _) _
  have e : dTo ds 0 = List.replicate ds.length ⟨#[]⟩ := by unfold dTo; simp
  refine ⟨?_, (k2.other (by omega) _ _).below hb2, ?_, old.below (next hb1 hb2), next hb1 hb2, old⟩
  · have := (k1.set 0 (.string n)).below hb2
    exact this
  · rw [made1] at own2
    rw [e]
    exact own2

set_option maxRecDepth 20000 in
set_option maxHeartbeats 1000000 in
theorem copyOf_any (n : ByteArray) (t l : Int) (v : Value) (ds : List ByteArray) (w : World) (hn : n.size ≤ 140737488351232) (hr : Row w v ds.length (tC ds)) (h0 : 0 < ds.length) (hl : ds.length ≤ 8796093022000) (hs : ∀ d ∈ ds, d.size ≤ 140737488351232) :
    Calls Try.prog 38 #[.agg #[.string n, .int .i64 t, .int .i64 l, v]] w fun e w' => ∃ g, e = .returned (.agg #[.string n, .int .i64 t, .int .i64 l, .slice (some ⟨g, 0, none⟩) ds.length ds.length]) ∧
      w'.ownsRow w.heap.size 9 1 (.slice (some ⟨g, 0, none⟩) ds.length ds.length) ds.length (tC ds) ∧ w.heap.size ≤ g ∧ Below w.heap.size w w' := by
  obtain ⟨i0, hi, hz0, hz1, hz2⟩ := info_parts info9'
  obtain ⟨y, c, hv⟩ := row_slice hr
  have HOLD : Hid (Row w v ds.length (tC ds)) := hr
  obtain ⟨N, hN⟩ : ∃ N, N = ds.length := ⟨_, rfl⟩
  have HN : Hid (N = ds.length) := hN
  rw [← hN] at hv hl h0 ⊢
  have HS : Hid (∀ d ∈ ds, d.size ≤ 140737488351232) := hs
  have HV : Hid (v = .slice y N c) := hv
  have hb0 : Below w.heap.size w ((w.alloc (.cells (sA n t l v) 34)).alloc (.cells (sA ⟨#[]⟩ 0 0 (.slice none 0 0)) 34)) := lay (lay (Below.refl _ _) _) _
  have k1 := (Blk.new w (sA n t l v) 34).alloc (.cells (sA ⟨#[]⟩ 0 0 (.slice none 0 0)) 34)
  have k2 := Blk.new (w.alloc (.cells (sA n t l v) 34)) (sA ⟨#[]⟩ 0 0 (.slice none 0 0)) 34
  have e2 : (w.alloc (.cells (sA n t l v) 34)).heap.size = w.heap.size + 1 := by simp
  rw [e2] at k2
  subst hv
  unfold sA at hb0 k1 k2
  clear hN hr hs
  have t1 : True := trivial
  go_enter Try.func38, Try.ntmps38
  go_wp2_with (first
    | (go_at_call 47; have _t := t1; go_must (refine (clone_far n _ (by omega)).mono ?_); rintro e w1 ⟨rfl, b1⟩; replace k1 := k1.below b1; replace k2 := k2.below b1; replace hb0 := next hb0 b1; clear t1 b1; have c0 := k1.cell 0; have c3 := k1.cell 3; have f0 := k1.frozen 0; simp only [List.getElem?_toArray, List.getElem?_cons_succ, List.getElem?_cons_zero] at c0 c3)
    | (at_make; refine wpList_make_full _ rfl _ _ 32 rfl (w.heap.size + 2) 9 i0 (.string ⟨#[]⟩) 1 Try.underlying32 hi hz0 hz1 .i64 .i64 _ _ N rfl rfl rfl rfl (by rw [hz2]; omega) (by unfold maxLen; omega) (by have := k2.lt; simp; omega) ?_; intro w2 own2 grow2; have HCO : Hid (CO w w2 n t l (.slice y N c) _ ds 0) := co_start HN.out k1 k2 hb0 HOLD.out own2 grow2; generalize hgg : (w1.setCell ⟨w.heap.size, 0, none⟩ (.string n)).heap.size = g at HCO ⊢; clear own2 grow2 k1 k2 hb0 c0 c3 f0 hgg; have c3 := HCO.out.b1.cell 3; simp only [sA, List.getElem?_toArray, List.getElem?_cons_succ, List.getElem?_cons_zero] at c3))
  go_loopw [17] (fun i wr => ∃ j : Nat, j ≤ N ∧ i = .int .i64 (j : Int) ∧ Hid (CO w wr n t l (.slice y N c) g ds j)) (fun i _ => N - (intOf i).toNat)
  case atStart => exact ⟨0, Nat.zero_le _, rfl, HCO⟩
  case round =>
    obtain ⟨j, hj, rfl, HC⟩ := hrel
    clear HCO c3
    by_cases hjn : j < N
    · have hjd : j < ds.length := by rw [← HN.out]; exact hjn
      obtain ⟨s, hs⟩ : ∃ s, s = ds[j] := ⟨_, rfl⟩
      have hss : s.size ≤ 140737488351232 := by rw [hs]; exact HS.out _ (List.getElem_mem _)
      have hsrc := HC.out.src
      rw [← HN.out] at hsrc
      obtain ⟨ga, oa, ca, ev, hcell⟩ := row_at hsrc (by omega)
      simp only [Value.slice.injEq, true_and] at ev
      obtain ⟨rfl, rfl⟩ := ev
      have d1 := hcell j (.string s) (by rw [hs]; exact tC_at hjd)
      have HJ : Hid (∀ wn, CO w wn n t l (.slice (some ⟨ga, oa, none⟩) N c) g ds j → CO w (wn.setCell ⟨g, j, none⟩ (.string s)) n t l (.slice (some ⟨ga, oa, none⟩) N c) g ds (j + 1)) := fun wn h => by rw [hs]; exact h.set hjd
      clear hs hjd hsrc hcell
      go_wp2_with (go_at_call 47; go_must (refine (clone_far s _ (by omega)).mono ?_); rintro e w3 ⟨rfl, b3⟩; have HC3 : Hid (CO w w3 n t l (.slice (some ⟨ga, oa, none⟩) N c) g ds j) := HC.out.below b3; have ro := HC3.out.row; rw [← HN.out] at ro; have cj := ro.cellAt j (by omega); have fj := ro.frozenAt j; rw [List.getElem?_eq_getElem (by rw [tC_len, dTo_len (by rw [← HN.out]; omega), ← HN.out]; omega)] at cj; clear ro b3)
      go_roundw
      case rel => exact ⟨j + 1, by omega, by go_num, HJ.out _ HC3.out⟩
      case measure => simp [intOf]; omega
    · have hjn' : decide (j < N) = false := by simpa using hjn
      have HE : Hid (CO w wr n t l (.slice y N c) g ds ds.length) := by rw [← HN.out, show N = j from by omega]; rw [show N = j from by omega] at HC; exact HC
      clear HC
      have f3 := HE.out.b1.frozen 3
      have c3 := HE.out.b1.cell 3
      simp only [sA, List.getElem?_toArray, List.getElem?_cons_succ, List.getElem?_cons_zero] at c3
      have k1 : Blk (wr.setCell ⟨w.heap.size, 3, none⟩ (.slice (some ⟨g, 0, none⟩) N N)) w.heap.size #[.string n, .int .i64 t, .int .i64 l, .slice (some ⟨g, 0, none⟩) N N] 34 := HE.out.b1.set 3 _
      have k2 : Blk (wr.setCell ⟨w.heap.size, 3, none⟩ (.slice (some ⟨g, 0, none⟩) N N)) (w.heap.size + 1) #[.string ⟨#[]⟩, .int .i64 0, .int .i64 0, .slice none 0 0] 34 := HE.out.b2.other (by omega) _ _
      have HR : Hid ((wr.setCell ⟨w.heap.size, 3, none⟩ (.slice (some ⟨g, 0, none⟩) N N)).ownsRow (w.heap.size + 2) 9 1 (.slice (some ⟨g, 0, none⟩) N N) N (tC ds)) := by
        have := HE.out.row
        rw [dTo_all, ← HN.out] at this
        exact ownsRow_setCell_below this (a := ⟨w.heap.size, 3, none⟩) (by show w.heap.size < _; omega) _
      have HB : Hid (Below w.heap.size w (wr.setCell ⟨w.heap.size, 3, none⟩ (.slice (some ⟨g, 0, none⟩) N N))) := HE.out.bel.setCell (p := ⟨w.heap.size, 3, none⟩) (Nat.le_refl _) _
      clear HE
      go_wp2_with (first
        | (refine wpList_loadS _ rfl (.tmp 1) 34 rfl w.heap.size _ 34 rfl k1 ⟨_, Try.underlying34⟩ (by kernel_rfl) ?_)
        | (refine wpList_storeS _ rfl (.tmp 2) (.tmp 30) 34 rfl (w.heap.size + 1) _ _ 34 rfl rfl k2 (by kernel_rfl) rfl (by simp [Value.oneCell']) ?_; intro w5 k5 t5 _ _))
      have hlt := HR.out.lt g rfl
      refine bodyPost_ret (v := .agg #[.string n, .int .i64 t, .int .i64 l, .slice (some ⟨g, 0, none⟩) N N]) (ret_s rfl rfl k5 ⟨_, Try.underlying34⟩ (by kernel_rfl)) rfl ⟨g, rfl, ?_, by omega, t5.one_below HB.out (by omega)⟩
      exact t5.row (own_base HR.out (by omega)) (fun k hk e => by simp [Value.ownBlock] at hk; omega)

end Go.Proofs.Ytcmhjlflgedcdaa

/- What live gives: the entry of a name and a type, if it is live. -/
namespace Go.Proofs.Ytcmhjlflgedcdaa
open Go.RowKit
open Pl

def uL (L : List (En × Value)) (n : ByteArray) (t : Int) : Int := match atL L n t with | some p => p.1.u | none => 0
def lvB (L : List (En × Value)) (n : ByteArray) (t now : Int) : Bool := bL L n t && decide (now < uL L n t)
theorem MapAt.dat {w : World} {mb : Option Nat} {L : List (En × Value)} (h : MapAt w mb L) {p : En × Value} (hp : p ∈ L) : w.ownsRow 0 9 1 p.2 p.1.ds.length (tC p.1.ds) := by
  rcases h with ⟨_, rfl⟩ | ⟨b, _, h⟩
  · simp at hp
  · exact h.dat p hp
theorem MapAt.one {w : World} {mb : Option Nat} {L : List (En × Value)} (h : MapAt w mb L) {p : En × Value} (hp : p ∈ L) : p.2.oneCell' = true := by
  obtain ⟨y, c, e⟩ := row_shape (h.dat hp)
  rw [e]; rfl

set_option maxRecDepth 20000 in
set_option maxHeartbeats 1000000 in
theorem live_any {w : World} {gs most : Nat} {mb : Option Nat} {L : List (En × Value)} (h : St w gs most mb L) (n : ByteArray) (t now : Int) (hn : n.size ≤ maxLen) (ht : (Lit.int .i64 t).wf = true) :
    Calls Try.prog 33 #[.pointer (some ⟨gs, 0, none⟩), .agg #[.string n, .int .i64 t], .int .i64 now] w fun e w' => e = .returned (.tuple #[vL L n t, .bool (lvB L n t now)]) ∧ Below w.heap.size w w' := by
  cases ha : atL L n t with
  | none =>
    have e1 : vL L n t = eZ := by unfold vL; rw [ha]
    have e2 : bL L n t = false := by unfold bL; rw [ha]; rfl
    have e3 : lvB L n t now = false := by unfold lvB; rw [e2]; rfl
    rw [e1, e3]
    have hlk : ∀ u, MapAt u mb L → (Instr.lookup 66 (.map mb) (.agg #[.string n, .int .i64 t]) true).run Try.prog u = .ok (.tuple #[eZ, .bool false]) u := fun u hu => by have := hu.look hn ht; rw [e1, e2] at this; exact this
    unfold eZ at hlk ⊢
    clear e1 e2 e3 ha
    go_enter Try.func33, Try.ntmps33
    go_wp2
    obtain ⟨W, hW⟩ : ∃ W, W = (w.alloc (.cells #[.string n, .int .i64 t] 73)).alloc (.cells #[.string ⟨#[]⟩, .int .i64 0, .int .i64 0, .slice none 0 0, .int .i64 0, .int .i64 0] 36) := ⟨_, rfl⟩
    have hb : Below w.heap.size w W := by rw [hW]; exact lay (lay (Below.refl _ _) _) _
    have hs := h.below hb
    have k1 : Blk W w.heap.size #[.string n, .int .i64 t] 73 := by rw [hW]; exact (Blk.new w _ _).alloc _
    have k2 : Blk W (w.heap.size + 1) #[.string ⟨#[]⟩, .int .i64 0, .int .i64 0, .slice none 0 0, .int .i64 0, .int .i64 0] 36 := by rw [hW]; have := Blk.new (w.alloc (.cells #[.string n, .int .i64 t] 73)) #[.string ⟨#[]⟩, .int .i64 0, .int .i64 0, .slice none 0 0, .int .i64 0, .int .i64 0] 36; simpa using this
    have hws : W.heap.size = w.heap.size + 1 + 1 := by rw [hW]; simp
    rw [← hW]
    have c1 := hs.blk.cell 1
    have d0 := k1.cell 0
    have d1 := k1.cell 1
    simp only [List.getElem?_toArray, List.getElem?_cons_succ, List.getElem?_cons_zero] at c1 d0 d1
    have l1 := hlk W.drew (hs.at'.below ((Below.refl _ _).drew))
    have l2 : ∀ o, (Instr.lookup 66 (.map mb) (.agg #[.string n, .int .i64 t]) true).run Try.prog (W.alloc o).drew = _ := fun o => hlk _ (hs.at'.below (((Below.refl _ _).alloc (Nat.le_refl _) o).drew))
    have c1' : ∀ o, (W.alloc o).cell? ⟨gs, 1, none⟩ = some (.map mb) := fun o => (hs.blk.alloc o).cell 1
    have d0' : ∀ o, (W.alloc o).cell? ⟨w.heap.size, 0, none⟩ = some (.string n) := fun o => (k1.alloc o).cell 0
    have d1' : ∀ o, (W.alloc o).cell? ⟨w.heap.size, 1, none⟩ = some (.int .i64 t) := fun o => (k1.alloc o).cell 1
    clear hlk hW hs
    go_region
    obtain ⟨X, hX⟩ : ∃ X, X = (W.alloc (.cells #[.string ⟨#[]⟩, .int .i64 0, .int .i64 0, .slice none 0 0, .int .i64 0, .int .i64 0] 36)).drew := ⟨_, rfl⟩
    rw [← hX]
    have hbx : Below w.heap.size w X := by rw [hX]; exact (hb.alloc hb.size _).drew
    have j1 : Blk X W.heap.size #[.string ⟨#[]⟩, .int .i64 0, .int .i64 0, .slice none 0 0, .int .i64 0, .int .i64 0] 36 := by rw [hX]; exact Blk.new W _ _
    have j2 : Blk X (w.heap.size + 1) #[.string ⟨#[]⟩, .int .i64 0, .int .i64 0, .slice none 0 0, .int .i64 0, .int .i64 0] 36 := by rw [hX]; exact k2.alloc _
    rw [hws] at j1
    clear hX c1 d0 d1 l1 l2 c1' d0' d1' k1 k2 hb hws
    go_wp2
    refine wp_region_held_drew (S := fun u => Blk u (w.heap.size + 1 + 1) #[.string ⟨#[]⟩, .int .i64 0, .int .i64 0, .slice none 0 0, .int .i64 0, .int .i64 0] 36) (by kernel_rfl) (j1.drew ⟨1, rfl⟩) (fun hHeld => ?_)
    refine wpAnyH_take (i := 0) (v := .agg #[.string ⟨#[]⟩, .int .i64 0, .int .i64 0, .slice none 0 0, .int .i64 0, .int .i64 0]) rfl (by kernel_rfl) (by kernel_rfl) (by kernel_rfl) (fun _ _ _ h => h) (Or.inl ⟨by rfl, ?_⟩) hHeld ?_
    · intro u u1
      have a0 := u1.cell 0; have a1 := u1.cell 1; have a2 := u1.cell 2; have a3 := u1.cell 3; have a4 := u1.cell 4; have a5 := u1.cell 5; simp only [List.getElem?_toArray, List.getElem?_cons_succ, List.getElem?_cons_zero] at a0 a1 a2 a3 a4 a5
      go_simp
    simp only [Act.put, List.getElem_toArray, List.getElem_cons_zero, List.setIfInBounds_toArray, List.set_cons_zero, List.set_cons_succ]
    refine wpAnyH_take (i := 1) (v := .bool false) rfl (by kernel_rfl) (by kernel_rfl) (by kernel_rfl) (fun _ _ _ h => h) (Or.inl ⟨by rfl, ?_⟩) hHeld ?_
    · intro u u1
      go_simp
    simp only [Act.put, List.getElem_toArray, List.getElem_cons_succ, List.getElem_cons_zero, List.setIfInBounds_toArray, List.set_cons_zero, List.set_cons_succ]
    refine wpAnyH_take (i := 2) (v := .bool false) rfl (by kernel_rfl) (by kernel_rfl) (by kernel_rfl) (fun _ _ _ h => h) (Or.inl ⟨by rfl, ?_⟩) hHeld ?_
    · intro u u1
      go_simp
    simp only [Act.put, List.getElem_toArray, List.getElem_cons_succ, List.getElem_cons_zero, List.setIfInBounds_toArray, List.set_cons_zero, List.set_cons_succ]
    have hbx5 := hbx.drew
    have i2 := j2.drew ⟨1, rfl⟩
    refine wpAnyH_take (i := 3) (v := undef) rfl (by kernel_rfl) (by kernel_rfl) (by kernel_rfl) (fun _ _ _ h => h) (Or.inr ⟨by rfl, rfl⟩) hHeld ?_
    simp only [Act.put, List.getElem_toArray, List.getElem_cons_succ, List.getElem_cons_zero, List.setIfInBounds_toArray, List.set_cons_zero, List.set_cons_succ]
    refine wpAnyH_take (i := 4) (v := undef) rfl (by kernel_rfl) (by kernel_rfl) (by kernel_rfl) (fun _ _ _ h => h) (Or.inr ⟨by rfl, rfl⟩) hHeld ?_
    simp only [Act.put, List.getElem_toArray, List.getElem_cons_succ, List.getElem_cons_zero, List.setIfInBounds_toArray, List.set_cons_zero, List.set_cons_succ]
    refine wpAnyH_take (i := 5) (v := undef) rfl (by kernel_rfl) (by kernel_rfl) (by kernel_rfl) (fun _ _ _ h => h) (Or.inr ⟨by rfl, rfl⟩) hHeld ?_
    simp only [Act.put, List.getElem_toArray, List.getElem_cons_succ, List.getElem_cons_zero, List.setIfInBounds_toArray, List.set_cons_zero, List.set_cons_succ]
    refine wpAnyH_take (i := 6) (v := .bool false) rfl (by kernel_rfl) (by kernel_rfl) (by kernel_rfl) (fun _ _ _ h => h) (Or.inl ⟨by rfl, ?_⟩) hHeld ?_
    · intro u u1
      go_simp
    simp only [Act.put, List.getElem_toArray, List.getElem_cons_succ, List.getElem_cons_zero, List.setIfInBounds_toArray, List.set_cons_zero, List.set_cons_succ]
    refine wpAnyH_ready (rs := [7]) (by kernel_rfl) (by simp) ?_
    refine AllReadyH.cons rfl (fun K hK => ?_) AllReadyH.nil
    refine step_storeS _ rfl (.tmp 6) (.tmp 19) 36 rfl (w.heap.size + 1) _ _ 36 rfl rfl i2 (by kernel_rfl) rfl (by simp [Value.oneCell']) ?_
    intro w6 i6 t6 _ _
    have hb6 := t6.one_below hbx5 (by omega)
    have i7 := t6.blk hHeld (by omega)
    go_simp
    refine hK.out _ _ i7 (fun hHeld => ?_)
    refine wpAnyH_take (i := 8) (v := .bool false) rfl (by kernel_rfl) (by kernel_rfl) (by kernel_rfl) (fun _ _ _ h => h) (Or.inl ⟨by rfl, ?_⟩) hHeld ?_
    · intro u u1
      go_simp
    simp only [Act.put, List.getElem_toArray, List.getElem_cons_succ, List.getElem_cons_zero, List.setIfInBounds_toArray, List.set_cons_zero, List.set_cons_succ]
    refine wpAnyH_done (by kernel_rfl) ?_ _
    go_wp2
    exact bodyPost_ret (ret_s1 rfl rfl rfl i6 ⟨_, Try.underlying36⟩ (by kernel_rfl)) rfl ⟨rfl, hb6⟩
  | some p =>
    have e1 : vL L n t = eA p.1 p.2 := by unfold vL; rw [ha]
    have e2 : bL L n t = true := by unfold bL; rw [ha]; rfl
    have e3 : lvB L n t now = decide (now < p.1.u) := by unfold lvB uL; rw [e2, ha]; rfl
    obtain ⟨py, pc, hpd⟩ := row_shape (h.at'.dat (atL_some ha).1)
    generalize p.1.ds.length = pk at hpd
    rw [e1, e3]
    have hlk : ∀ u, MapAt u mb L → (Instr.lookup 66 (.map mb) (.agg #[.string n, .int .i64 t]) true).run Try.prog u = .ok (.tuple #[eA p.1 p.2, .bool true]) u := fun u hu => by have := hu.look hn ht; rw [e1, e2] at this; exact this
    unfold eA at hlk ⊢
    clear e1 e2 e3 ha
    obtain ⟨⟨pn, pt, pl, pds, pr, pu⟩, pd⟩ := p
    simp only at hlk hpd ⊢
    subst hpd
    go_enter Try.func33, Try.ntmps33
    go_wp2
    obtain ⟨W, hW⟩ : ∃ W, W = (w.alloc (.cells #[.string n, .int .i64 t] 73)).alloc (.cells #[.string ⟨#[]⟩, .int .i64 0, .int .i64 0, .slice none 0 0, .int .i64 0, .int .i64 0] 36) := ⟨_, rfl⟩
    have hb : Below w.heap.size w W := by rw [hW]; exact lay (lay (Below.refl _ _) _) _
    have hs := h.below hb
    have k1 : Blk W w.heap.size #[.string n, .int .i64 t] 73 := by rw [hW]; exact (Blk.new w _ _).alloc _
    have k2 : Blk W (w.heap.size + 1) #[.string ⟨#[]⟩, .int .i64 0, .int .i64 0, .slice none 0 0, .int .i64 0, .int .i64 0] 36 := by rw [hW]; have := Blk.new (w.alloc (.cells #[.string n, .int .i64 t] 73)) #[.string ⟨#[]⟩, .int .i64 0, .int .i64 0, .slice none 0 0, .int .i64 0, .int .i64 0] 36; simpa using this
    have hws : W.heap.size = w.heap.size + 1 + 1 := by rw [hW]; simp
    rw [← hW]
    have c1 := hs.blk.cell 1
    have d0 := k1.cell 0
    have d1 := k1.cell 1
    simp only [List.getElem?_toArray, List.getElem?_cons_succ, List.getElem?_cons_zero] at c1 d0 d1
    have l1 := hlk W.drew (hs.at'.below ((Below.refl _ _).drew))
    have l2 : ∀ o, (Instr.lookup 66 (.map mb) (.agg #[.string n, .int .i64 t]) true).run Try.prog (W.alloc o).drew = _ := fun o => hlk _ (hs.at'.below (((Below.refl _ _).alloc (Nat.le_refl _) o).drew))
    have c1' : ∀ o, (W.alloc o).cell? ⟨gs, 1, none⟩ = some (.map mb) := fun o => (hs.blk.alloc o).cell 1
    have d0' : ∀ o, (W.alloc o).cell? ⟨w.heap.size, 0, none⟩ = some (.string n) := fun o => (k1.alloc o).cell 0
    have d1' : ∀ o, (W.alloc o).cell? ⟨w.heap.size, 1, none⟩ = some (.int .i64 t) := fun o => (k1.alloc o).cell 1
    clear hlk hW hs
    go_region
    obtain ⟨X, hX⟩ : ∃ X, X = (W.alloc (.cells #[.string pn, .int .i64 pt, .int .i64 pl, .slice py pk pc, .int .i64 pr, .int .i64 pu] 36)).drew := ⟨_, rfl⟩
    rw [← hX]
    have hbx : Below w.heap.size w X := by rw [hX]; exact (hb.alloc hb.size _).drew
    have j1 : Blk X W.heap.size #[.string pn, .int .i64 pt, .int .i64 pl, .slice py pk pc, .int .i64 pr, .int .i64 pu] 36 := by rw [hX]; exact Blk.new W _ _
    have j2 : Blk X (w.heap.size + 1) #[.string ⟨#[]⟩, .int .i64 0, .int .i64 0, .slice none 0 0, .int .i64 0, .int .i64 0] 36 := by rw [hX]; exact k2.alloc _
    rw [hws] at j1
    clear hX c1 d0 d1 l1 l2 c1' d0' d1' k1 k2 hb hws
    go_wp2
    refine wp_region_held_drew (S := fun u => Blk u (w.heap.size + 1 + 1) #[.string pn, .int .i64 pt, .int .i64 pl, .slice py pk pc, .int .i64 pr, .int .i64 pu] 36) (by kernel_rfl) (j1.drew ⟨1, rfl⟩) (fun hHeld => ?_)
    refine wpAnyH_take (i := 0) (v := .agg #[.string pn, .int .i64 pt, .int .i64 pl, .slice py pk pc, .int .i64 pr, .int .i64 pu]) rfl (by kernel_rfl) (by kernel_rfl) (by kernel_rfl) (fun _ _ _ h => h) (Or.inl ⟨by rfl, ?_⟩) hHeld ?_
    · intro u u1
      have a0 := u1.cell 0; have a1 := u1.cell 1; have a2 := u1.cell 2; have a3 := u1.cell 3; have a4 := u1.cell 4; have a5 := u1.cell 5; simp only [List.getElem?_toArray, List.getElem?_cons_succ, List.getElem?_cons_zero] at a0 a1 a2 a3 a4 a5
      go_simp
    simp only [Act.put, List.getElem_toArray, List.getElem_cons_zero, List.setIfInBounds_toArray, List.set_cons_zero, List.set_cons_succ]
    refine wpAnyH_take (i := 1) (v := .bool true) rfl (by kernel_rfl) (by kernel_rfl) (by kernel_rfl) (fun _ _ _ h => h) (Or.inl ⟨by rfl, ?_⟩) hHeld ?_
    · intro u u1
      go_simp
    simp only [Act.put, List.getElem_toArray, List.getElem_cons_succ, List.getElem_cons_zero, List.setIfInBounds_toArray, List.set_cons_zero, List.set_cons_succ]
    refine wpAnyH_take (i := 2) (v := .bool true) rfl (by kernel_rfl) (by kernel_rfl) (by kernel_rfl) (fun _ _ _ h => h) (Or.inl ⟨by rfl, ?_⟩) hHeld ?_
    · intro u u1
      go_simp
    simp only [Act.put, List.getElem_toArray, List.getElem_cons_succ, List.getElem_cons_zero, List.setIfInBounds_toArray, List.set_cons_zero, List.set_cons_succ]
    refine wpAnyH_take (i := 3) (v := .agg #[.string pn, .int .i64 pt, .int .i64 pl, .slice py pk pc, .int .i64 pr, .int .i64 pu]) rfl (by kernel_rfl) (by kernel_rfl) (by kernel_rfl) (fun _ _ _ h => h) (Or.inl ⟨by rfl, ?_⟩) hHeld ?_
    · intro u u1
      have a0 := u1.cell 0; have a1 := u1.cell 1; have a2 := u1.cell 2; have a3 := u1.cell 3; have a4 := u1.cell 4; have a5 := u1.cell 5; simp only [List.getElem?_toArray, List.getElem?_cons_succ, List.getElem?_cons_zero] at a0 a1 a2 a3 a4 a5
      go_simp
    simp only [Act.put, List.getElem_toArray, List.getElem_cons_succ, List.getElem_cons_zero, List.setIfInBounds_toArray, List.set_cons_zero, List.set_cons_succ]
    refine wpAnyH_take (i := 4) (v := .int .i64 now) rfl (by kernel_rfl) (by kernel_rfl) (by kernel_rfl) (fun _ _ _ h => h) (Or.inl ⟨by rfl, ?_⟩) hHeld ?_
    · intro u u1
      go_simp
    simp only [Act.put, List.getElem_toArray, List.getElem_cons_succ, List.getElem_cons_zero, List.setIfInBounds_toArray, List.set_cons_zero, List.set_cons_succ]
    refine wpAnyH_ready (rs := [5]) (by kernel_rfl) (by simp) ?_
    refine AllReadyH.cons rfl (fun K hK => ?_) AllReadyH.nil
    go_simp
    refine (isLive_any pn pt pl pr pu now (.slice py pk pc) _ rfl).mono ?_
    rintro e w5 ⟨rfl, b5⟩
    have hbx5 := next (hbx.drew) b5
    have i1 := hHeld.below b5
    have i2 := (j2.drew ⟨1, rfl⟩).below b5
    clear hHeld hbx b5
    go_simp
    refine hK.out _ _ i1 (fun hHeld => ?_)
    refine wpAnyH_take (i := 6) (v := .bool (decide (now < pu))) rfl (by kernel_rfl) (by kernel_rfl) (by kernel_rfl) (fun _ _ _ h => h) (Or.inl ⟨by rfl, ?_⟩) hHeld ?_
    · intro u u1
      go_simp
    simp only [Act.put, List.getElem_toArray, List.getElem_cons_succ, List.getElem_cons_zero, List.setIfInBounds_toArray, List.set_cons_zero, List.set_cons_succ]
    refine wpAnyH_ready (rs := [7]) (by kernel_rfl) (by simp) ?_
    refine AllReadyH.cons rfl (fun K hK => ?_) AllReadyH.nil
    refine step_storeS _ rfl (.tmp 6) (.tmp 19) 36 rfl (w.heap.size + 1) _ _ 36 rfl rfl i2 (by kernel_rfl) rfl (by simp [Value.oneCell']) ?_
    intro w6 i6 t6 _ _
    have hb6 := t6.one_below hbx5 (by omega)
    have i7 := t6.blk hHeld (by omega)
    go_simp
    refine hK.out _ _ i7 (fun hHeld => ?_)
    refine wpAnyH_take (i := 8) (v := .bool (decide (now < pu))) rfl (by kernel_rfl) (by kernel_rfl) (by kernel_rfl) (fun _ _ _ h => h) (Or.inl ⟨by rfl, ?_⟩) hHeld ?_
    · intro u u1
      go_simp
    simp only [Act.put, List.getElem_toArray, List.getElem_cons_succ, List.getElem_cons_zero, List.setIfInBounds_toArray, List.set_cons_zero, List.set_cons_succ]
    refine wpAnyH_done (by kernel_rfl) ?_ _
    go_wp2
    exact bodyPost_ret (ret_s1 rfl rfl rfl i6 ⟨_, Try.underlying36⟩ (by kernel_rfl)) rfl ⟨rfl, hb6⟩

end Go.Proofs.Ytcmhjlflgedcdaa

/- What sweep does: what is not live goes, and the entry of a name and a type. -/
namespace Go.Proofs.Ytcmhjlflgedcdaa
open Go.RowKit
open Pl

theorem key_eq (a b : ByteArray) (s t : Int) (v : Bool) (h : (decide (a = b) && decide (s = t)) = v) (u : World) : (binOp .eql 73 (.agg #[.string a, .int .i64 s]) (.agg #[.string b, .int .i64 t])).run Try.prog u = .ok (.bool v) u := by
  have h1 := run_eql_struct (P := Try.prog) (w := u) 73 #[.string a, .int .i64 s] #[.string b, .int .i64 t]
  rw [h1]
  rw [show (10000 : Nat) = 9999 + 1 from rfl, run_equalIn_struct (P := Try.prog) u 9999 73 #[.string a, .int .i64 s] #[.string b, .int .i64 t] (by kernel_rfl) (by kernel_rfl)]
  go_simp
  subst h
  by_cases h2 : a = b
  · subst h2
    by_cases h3 : s = t
    · simp [h3]
    · simp [h3]
  · have h4 : ¬ a.toList = b.toList := fun e => h2 (bytes_ext (by rw [ByteArray.toList_eq, ByteArray.toList_eq] at e; exact e))
    simp [h2, h4]

/-- delete, in a region that draws its order, while the map is ranged over. -/
theorem step_del_e (w : World) {ops : Array Oper} {o : Oper} {a : Act} {K : Act → World → Prop} {Q : Exit → Act → World → Prop} {E : Prop} (hgd : o.guard = none) (m x : Operand)
    (ho : o.op = .call { callee := .builtin .delete, args := #[m, x], argTypes := #[66, 73] }) (b r n cnt : Nat) (D : DataW Hc) (left : Lit → Bool) (kn : ByteArray) (kt : Int) (hm : a.eval m = .map (some b)) (hx : a.eval x = .agg #[.string kn, .int .i64 kt])
    (h : w.ranges Try.prog 73 rE b r n D left cnt) (hn : kn.size ≤ maxLen) (ht : (Lit.int .i64 kt).wf = true)
    (hK : ∀ w' cnt', w'.ranges Try.prog 73 rE b r n (D.del (kyL kn kt)) (fun z => left z && !z.sameKey (kyL kn kt)) cnt' → cnt' ≤ cnt → w.mapTurned w' b → K (a.put o.dst (.tuple #[])) w') :
    if Region.wanted o (yielded ops a.tmps) = true then Oper.wp Try.prog o a w K Q else E := by
  have hw : Region.wanted o (yielded ops a.tmps) = true := by simp [Region.wanted, hgd]
  rw [if_pos hw]
  obtain ⟨w', cnt', hrun, r1, r2, r3⟩ := h.drop keyE Try.underlying66 (keyOf_e hn ht) o.type
  have hrun2 : (Builtin.delete_ #[66, 73] o.type #[.map (some b), .agg #[.string kn, .int .i64 kt]]).run Try.prog w = .ok (.tuple #[]) w' := hrun
  unfold Oper.wp
  simp only [execOp, ho, resolve, invoke, builtin, Sem.run_bind, Sem.run_pure, Result.andThen_ok, List.map_toArray, List.map_cons, List.map_nil, hm, hx, hrun2]
  exact hK _ _ r1 r2 r3
/-- delete, in a region that draws its order. -/
theorem step_del_o (w : World) {ops : Array Oper} {o : Oper} {a : Act} {K : Act → World → Prop} {Q : Exit → Act → World → Prop} {E : Prop} (hgd : o.guard = none) (m x : Operand)
    (ho : o.op = .call { callee := .builtin .delete, args := #[m, x], argTypes := #[66, 73] }) (b n : Nat) (D : DataW Hc) (kn : ByteArray) (kt : Int) (hm : a.eval m = .map (some b)) (hx : a.eval x = .agg #[.string kn, .int .i64 kt])
    (h : w.ownsMap Try.prog 73 rE b n D) (hn : kn.size ≤ maxLen) (ht : (Lit.int .i64 kt).wf = true)
    (hK : ∀ w', w'.ownsMap Try.prog 73 rE b n (D.del (kyL kn kt)) → w.mapTurned w' b → K (a.put o.dst (.tuple #[])) w') :
    if Region.wanted o (yielded ops a.tmps) = true then Oper.wp Try.prog o a w K Q else E := by
  have hw : Region.wanted o (yielded ops a.tmps) = true := by simp [Region.wanted, hgd]
  rw [if_pos hw]
  obtain ⟨w', hrun, r1, r3⟩ := h.drop keyE Try.underlying66 (keyOf_e hn ht) o.type
  have hrun2 : (Builtin.delete_ #[66, 73] o.type #[.map (some b), .agg #[.string kn, .int .i64 kt]]).run Try.prog w = .ok (.tuple #[]) w' := hrun
  unfold Oper.wp
  simp only [execOp, ho, resolve, invoke, builtin, Sem.run_bind, Sem.run_pure, Result.andThen_ok, List.map_toArray, List.map_cons, List.map_nil, hm, hx, hrun2]
  exact hK _ r1 r3

/-- What stays. -/
def keepB (n : ByteArray) (t now : Int) (p : En × Value) : Bool := !sameK n t p.1 && decide (now < p.1.u)
def fltL (n : ByteArray) (t now : Int) (left : Lit → Bool) (L : List (En × Value)) : List (En × Value) := L.filter fun p => left (kyL p.1.n p.1.t) || keepB n t now p
def nextL (left : Lit → Bool) (p : En × Value) : Lit → Bool := fun x => left x && !x.sameKey (kyL p.1.n p.1.t)
theorem nextL_at {L : List (En × Value)} (hg : Good L) {p q : En × Value} (hp : p ∈ L) (hq : q ∈ L) (left : Lit → Bool) : nextL left p (kyL q.1.n q.1.t) = (left (kyL q.1.n q.1.t) && !sameK p.1.n p.1.t q.1) := by
  unfold nextL
  rw [same_ky (hg.ok q hq) (max_ok (hg.ok p hp).k) (wf_ok (hg.ok p hp).k)]
theorem flt_keep {L : List (En × Value)} (hg : Good L) {p : En × Value} (hp : p ∈ L) {n : ByteArray} {t now : Int} {left : Lit → Bool} (hk : keepB n t now p = true) : fltL n t now (nextL left p) L = fltL n t now left L := by
  unfold fltL
  refine List.filter_congr (fun q hq => ?_)
  rw [nextL_at hg hp hq]
  cases hs : sameK p.1.n p.1.t q.1 with
  | false => simp
  | true =>
    obtain rfl := hg.one hp hq hs
    rw [hk]; simp
theorem flt_drop {L : List (En × Value)} (hg : Good L) {p : En × Value} (hp : p ∈ L) {n : ByteArray} {t now : Int} {left : Lit → Bool} (hk : keepB n t now p = false) : (fltL n t now left L).filter (fun q => !sameK p.1.n p.1.t q.1) = fltL n t now (nextL left p) L := by
  unfold fltL
  rw [List.filter_filter]
  refine List.filter_congr (fun q hq => ?_)
  rw [nextL_at hg hp hq]
  cases hs : sameK p.1.n p.1.t q.1 with
  | false => simp
  | true =>
    obtain rfl := hg.one hp hq hs
    rw [hk]; simp
theorem flt_end {L : List (En × Value)} {n : ByteArray} {t now : Int} {left : Lit → Bool} (h : ∀ kl, left kl = false) : fltL n t now left L = L.filter (keepB n t now) := by
  unfold fltL
  refine List.filter_congr (fun q _ => ?_)
  rw [h]; rfl
theorem flt_start {D : DataW Hc} {L : List (En × Value)} (hm : MapOf D L) (hg : Good L) (n : ByteArray) (t now : Int) : fltL n t now (Maps.has D) L = L := by
  unfold fltL
  refine List.filter_eq_self.2 (fun q hq => ?_)
  rw [mapOf_has hm hg (max_ok (hg.ok q hq).k) (wf_ok (hg.ok q hq).k), List.any_eq_true.2 ⟨q, hq, sameK_iff.2 ⟨rfl, rfl⟩⟩]
  rfl

/-- A range over the map of a store, under way. -/
structure SWp (w0 w : World) (gs most b r : Nat) (L M : List (En × Value)) (left : Lit → Bool) (cnt : Nat) : Prop where
  rg : ∃ k D, w.ranges Try.prog 73 rE b r k D left cnt ∧ MapOf D M
  good : Good L
  dat : ∀ p ∈ L, w.ownsRow 0 9 1 p.2 p.1.ds.length (tC p.1.ds)
  blk : Blk w gs #[.int .i64 most, .map (some b)] 68
  turn : Turn (fun k => k = b) w0 w
  oldb : b < w0.heap.size
  oldg : gs < w0.heap.size
  oldd : ∀ p ∈ L, ∀ k, p.2.ownBlock = some k → k < w0.heap.size
  new : w0.heap.size ≤ r
theorem row_not_map {w : World} {b : Nat} {es : Array MapEntry} {clock : Nat} (hb : w.heap[b]? = some (.map es clock)) {base e z n : Nat} {v : Value} {xs : List Value} (h : w.ownsRow base e z v n xs) : ∀ k, v.ownBlock = some k → k ≠ b := by
  intro k hk e
  rcases h.2 with ⟨rfl, _⟩ | ⟨g, cap, cur, rfl, _, hgb, _⟩
  · simp [Value.ownBlock] at hk
  · have : g = k := by simpa [Value.ownBlock] using hk
    subst this; subst e
    rw [hgb] at hb; cases hb
theorem Blk.not_map {w : World} {b g : Nat} {es : Array MapEntry} {clock : Nat} (hb : w.heap[b]? = some (.map es clock)) {C : Array Value} {t : TypeId} (h : Blk w g C t) : g ≠ b := by
  intro e; subst e
  have h' : w.heap[g]? = some (.cells C t (0, 0)) := h
  rw [h'] at hb; cases hb
theorem SWp.below {w0 w w' : World} {gs most b r : Nat} {L M : List (En × Value)} {left : Lit → Bool} {cnt : Nat} (h : SWp w0 w gs most b r L M left cnt) (hb : Below w.heap.size w w') : SWp w0 w' gs most b r L M left cnt := by
  obtain ⟨k, D, hr, hm⟩ := h.rg
  exact ⟨⟨k, D, hr.kept (row := none) ⟨hb.os, hb.tape, hb.output, hb.size, fun k hk _ => hb.block k hk⟩ (by simp) (by simp), hm⟩, h.good, fun p hp => own_past (h.dat p hp) hb, h.blk.below hb, h.turn.past hb, h.oldb, h.oldg, h.oldd, h.new⟩
theorem SWp.moved {w0 w w' : World} {gs most b r : Nat} {L M : List (En × Value)} {left left' : Lit → Bool} {cnt cnt' k : Nat} {D : DataW Hc} (h : SWp w0 w gs most b r L M left cnt) (hr : w'.ranges Try.prog 73 rE b r k D left' cnt') (hm : MapOf D M) (hg : w.grownBy w' (some r)) : SWp w0 w' gs most b r L M left' cnt' := by
  have ht : Turn (fun k => k = r) w w' := Turn.of_grown hg (fun k e => (Option.some.inj e).symm)
  have hn := h.new
  exact ⟨⟨k, D, hr, hm⟩, h.good, fun p hp => ht.row (h.dat p hp) (fun k hk e => by have := h.oldd p hp k hk; omega), ht.blk h.blk (by have := h.oldg; omega), h.turn.trans ht (fun i hi => .inr (by omega)), h.oldb, h.oldg, h.oldd, h.new⟩
theorem SWp.struck {w0 w w' : World} {gs most b r : Nat} {L M N : List (En × Value)} {left left' : Lit → Bool} {cnt cnt' k : Nat} {D : DataW Hc} (h : SWp w0 w gs most b r L M left cnt) (hr : w'.ranges Try.prog 73 rE b r k D left' cnt') (hm : MapOf D N) (ht : w.mapTurned w' b) : SWp w0 w' gs most b r L N left' cnt' := by
  obtain ⟨k0, D0, hr0, _⟩ := h.rg
  obtain ⟨es, clock, hb, _⟩ := hr0.owns
  have ht2 : Turn (fun k => k = b) w w' := Turn.of_grown ht.grown (fun k e => (Option.some.inj e).symm)
  exact ⟨⟨k, D, hr, hm⟩, h.good, fun p hp => ht2.row (h.dat p hp) (fun k hk e => row_not_map hb (h.dat p hp) k hk e), ht2.blk h.blk (h.blk.not_map hb), h.turn.same ht2, h.oldb, h.oldg, h.oldd, h.new⟩
/-- A range begins. -/
theorem sw_start {w0 w w' : World} {gs most b : Nat} {L : List (En × Value)} {D : DataW Hc} (h : St w0 gs most (some b) L) (hb : Below w0.heap.size w0 w) (hm : MapOf D L) (hr : w'.ranges Try.prog 73 rE b w.heap.size L.length D (Maps.has D) (Maps.size D)) (hg : w.grownBy w' none) :
    SWp w0 w' gs most b w.heap.size L L (Maps.has D) (Maps.size D) := by
  have hb2 : Below w0.heap.size w0 w' := next hb (grown_below hg)
  have hs := h.below hb2
  have hl := h.lt
  rcases hs.at' with ⟨e, _⟩ | ⟨b', e, hh⟩
  · cases e
  · cases e
    exact ⟨⟨_, D, hr, hm⟩, hh.good, hh.dat, hs.blk, Turn.of_below hb2, hl b (.inr (.inl rfl)), hl gs (.inl rfl), fun p hp k hk => hl k (.inr (.inr ⟨p, hp, hk⟩)), hb.size⟩
theorem SWp.st {w0 w : World} {gs most b r : Nat} {L M : List (En × Value)} {left : Lit → Bool} {cnt : Nat} (h : SWp w0 w gs most b r L M left cnt) (hs : M.Sublist L) (h1 : 1 ≤ most) (h2 : most ≤ 256) (hl : L.length ≤ most) : St w gs most (some b) M := by
  obtain ⟨k, D, hr, hm⟩ := h.rg
  exact ⟨h.blk, h1, h2, Nat.le_trans hs.length_le hl, .inr ⟨b, rfl, ⟨k, D, hr.owns, hm⟩, h.good.sub hs, fun p hp => h.dat p (hs.subset hp)⟩⟩

theorem sw_struck {w0 w w' : World} {gs most b r : Nat} {L M N : List (En × Value)} {left : Lit → Bool} {cnt cnt' k : Nat} {D : DataW Hc} {p : En × Value} (h : SWp w0 w gs most b r L M (nextL left p) cnt) (hg : Good M) (hok : OkK p.1.n p.1.t) (hm : MapOf D M) (hN : M.filter (fun q => !sameK p.1.n p.1.t q.1) = N)
    (hr : w'.ranges Try.prog 73 rE b r k (D.del (kyL p.1.n p.1.t)) (fun z => nextL left p z && !z.sameKey (kyL p.1.n p.1.t)) cnt') (ht : w.mapTurned w' b) : SWp w0 w' gs most b r L N (nextL left p) cnt' := by
  have e : (fun z => nextL left p z && !z.sameKey (kyL p.1.n p.1.t)) = nextL left p := Maps.strike_twice left (kyL p.1.n p.1.t)
  rw [e] at hr
  have := mapOf_del hm hg (max_ok hok) (wf_ok hok)
  rw [hN] at this
  exact h.struck hr this ht

set_option maxRecDepth 20000 in
set_option maxHeartbeats 2000000 in
theorem sweep_any {w : World} {gs most : Nat} {mb : Option Nat} {L : List (En × Value)} (h : St w gs most mb L) (n : ByteArray) (t now : Int) (_hk : OkK n t) :
    Calls Try.prog 34 #[.pointer (some ⟨gs, 0, none⟩), .agg #[.string n, .int .i64 t], .int .i64 now] w fun e w' => e = .returned (.tuple #[]) ∧ St w' gs most mb (L.filter (keepB n t now)) ∧ Turn (fun k => mb = some k) w w' := by
  have hb1 : Below w.heap.size w (w.alloc (.cells #[.string n, .int .i64 t] 73)) := lay (Below.refl _ _) _
  have hs1 := h.below hb1
  have c1 : (w.alloc (.cells #[.string n, .int .i64 t] 73)).cell? ⟨gs, 1, none⟩ = some (.map mb) := hs1.blk.cell 1
  cases mb with
  | none =>
    have hL : L = [] := by
      rcases h.at' with ⟨_, e⟩ | ⟨b, e, _⟩
      · exact e
      · cases e
    subst hL
    have hrg := run_range_nilMap (P := Try.prog) (w.alloc (.cells #[.string n, .int .i64 t] 73)) 66 73 36 Try.underlying66
    have hnx : ∀ ty, (Instr.next (.pointer (some ⟨(w.alloc (.cells #[.string n, .int .i64 t] 73)).heap.size, 0, none⟩)) false ty).run Try.prog ((w.alloc (.cells #[.string n, .int .i64 t] 73)).alloc (.mapIter none 0 #[] 0)) = _ := fun ty => run_next_nilMap _ ty 0 0 #[]
    have e2 : (w.alloc (.cells #[.string n, .int .i64 t] 73)).heap.size = w.heap.size + 1 := by simp
    rw [e2] at hnx
    have HS : Hid (St ((w.alloc (.cells #[.string n, .int .i64 t] 73)).alloc (.mapIter none 0 #[] 0)) gs most none []) := h.below (lay hb1 _)
    have HT : Hid (Turn (fun k => (none : Option Nat) = some k) w ((w.alloc (.cells #[.string n, .int .i64 t] 73)).alloc (.mapIter none 0 #[] 0))) := Turn.of_below (lay hb1 _)
    clear h hs1 hb1
    go_enter Try.func34, Try.ntmps34
    go_wp2
    go_loopw [13] (fun _ wr => wr = (w.alloc (.cells #[.string n, .int .i64 t] 73)).alloc (.mapIter none 0 #[] 0)) (fun _ _ => 0)
    case atStart => exact rfl
    case round =>
      obtain rfl := hrel
      go_wp2
      go_end0
      exact ⟨rfl, HS.out, HT.out⟩
  | some b =>
    obtain ⟨hhold⟩ : Nonempty (Hold (w.alloc (.cells #[.string n, .int .i64 t] 73)) b L) := by
      rcases hs1.at' with ⟨e, _⟩ | ⟨b', e, hh⟩
      · cases e
      · cases e; exact ⟨hh⟩
    obtain ⟨D, hown, hm⟩ := hhold.own
    have hg := hhold.good
    have h1 := h.m1
    have h2 := h.m2
    have h3 := h.len
    have HST : Hid (∀ w', w'.ranges Try.prog 73 rE b (w.alloc (.cells #[.string n, .int .i64 t] 73)).heap.size L.length D (Maps.has D) (Maps.size D) → (w.alloc (.cells #[.string n, .int .i64 t] 73)).grownBy w' none → SWp w w' gs most b (w.alloc (.cells #[.string n, .int .i64 t] 73)).heap.size L (fltL n t now (Maps.has D) L) (Maps.has D) (Maps.size D) ∧ Blk w' w.heap.size #[.string n, .int .i64 t] 73) := fun w' hr hgr => ⟨by rw [flt_start hm hg]; exact sw_start h hb1 hm hr hgr, (Blk.new w _ _).below (grown_below hgr)⟩
    clear h hs1 hb1 hhold
    go_enter Try.func34, Try.ntmps34
    go_wp2_with (first
      | (at_range; refine wpList_range_own _ rfl _ 66 rfl 73 36 keyE Try.underlying66 rE b L.length D rfl hown ?_; intro w1 hr1 hg1 hs1; have HS1 := HST.out w1 hr1 hg1; clear hr1 hg1 hs1 HST)
      | go_in)
    go_frame
    have hrw : w.heap.size < (w.alloc (.cells #[.string n, .int .i64 t] 73)).heap.size := by simp
    generalize (w.alloc (.cells #[.string n, .int .i64 t] 73)).heap.size = r at HS1 hrw ⊢
    have HS : Hid (SWp w w1 gs most b r L (fltL n t now (Maps.has D) L) (Maps.has D) (Maps.size D) ∧ Blk w1 w.heap.size #[.string n, .int .i64 t] 73) := HS1
    clear HS1 hown hm c1
    go_loopw [13] (fun _ wr => ∃ (left : Lit → Bool) (cnt : Nat), Hid (SWp w wr gs most b r L (fltL n t now left L) left cnt ∧ Blk wr w.heap.size #[.string n, .int .i64 t] 73)) (fun _ wr => wr.rangeLeft b r)
    case atStart => exact ⟨_, _, HS⟩
    case round =>
      clear HS
      obtain ⟨left, cnt, HR⟩ := hrel
      obtain ⟨kk, D', hr', hm'⟩ := HR.out.1.rg
      go_wp2_with (first
        | (at_next; go_must (refine wpList_next_e _ rfl (.tmp 12) rfl b r kk cnt D' left (fltL n t now left L) rfl hr' hm' (hg.sub List.filter_sublist) ?_ ?_))
        | go_in)
      · intro _ hl0
        go_wp2
        go_end0
        refine ⟨rfl, ?_, ?_⟩
        · have := HR.out.1
          rw [flt_end hl0] at this
          exact this.st List.filter_sublist h1 h2 h3
        · exact HR.out.1.turn.more (fun k e => by rw [e])
      · intro pe pd w2 cnt2 hpm hlp hr2 hlt hg2 hsz2 hen
        obtain ⟨hpL, _⟩ := List.mem_filter.1 hpm
        have HK := HR.out
        have HM : Hid (SWp w w2 gs most b r L (fltL n t now left L) (nextL left (pe, pd)) cnt2 ∧ Blk w2 w.heap.size #[.string n, .int .i64 t] 73) := ⟨HK.1.moved hr2 hm' hg2, (Turn.of_grown (S := fun k => k = r) hg2 (fun k e => (Option.some.inj e).symm)).blk HK.2 (by omega)⟩
        have HLT : Hid (∀ c, wr.rangeLeft b r = c → c = cnt) := fun c hc => by rw [hr'.left_eq] at hc; exact hc.symm
        obtain ⟨y, c, hpd⟩ := row_shape (HK.1.dat _ hpL)
        have hok := (hg.ok _ hpL).k
        have HF1 : Hid (keepB n t now (pe, pd) = true → fltL n t now (nextL left (pe, pd)) L = fltL n t now left L) := fun hkk => flt_keep hg hpL hkk
        have HF2 : Hid (keepB n t now (pe, pd) = false → (fltL n t now left L).filter (fun q => !sameK pe.n pe.t q.1) = fltL n t now (nextL left (pe, pd)) L) := fun hkk => flt_drop hg hpL hkk
        clear HK hpm hlp hr2 hg2 hsz2 hpL hr' hm' HR
        unfold kyV eA at hen ⊢
        obtain ⟨pn, pt, pl, pds, pr, pu⟩ := pe
        simp only at hpd hok hen HF2 ⊢
        generalize pds.length = N at hpd
        subst hpd
        have c0 := HM.out.2.cell 0
        have c1 := HM.out.2.cell 1
        simp only [List.getElem?_toArray, List.getElem?_cons_succ, List.getElem?_cons_zero] at c0 c1
        have d0 : ∀ o o' : Obj, ((w2.alloc o).alloc o').cell? ⟨w.heap.size, 0, none⟩ = some (.string n) := fun o o' => ((HM.out.2.alloc o).alloc o').cell 0
        have d1 : ∀ o o' : Obj, ((w2.alloc o).alloc o').cell? ⟨w.heap.size, 1, none⟩ = some (.int .i64 t) := fun o o' => ((HM.out.2.alloc o).alloc o').cell 1
        cases hsame : sameK n t ⟨pn, pt, pl, pds, pr, pu⟩ with
        | true =>
          have hke := key_eq pn n pt t true (by have := sameK_iff.1 hsame; simp at this ⊢; exact this)
          have hkk : keepB n t now (⟨pn, pt, pl, pds, pr, pu⟩, .slice y N c) = false := by unfold keepB; rw [hsame]; rfl
          go_wp2
          have HW : Hid (SWp w ((w2.alloc (.cells #[.string pn, .int .i64 pt] 73)).alloc (.cells #[.string pn, .int .i64 pt, .int .i64 pl, .slice y N c, .int .i64 pr, .int .i64 pu] 36)) gs most b r L (fltL n t now left L) (nextL left (⟨pn, pt, pl, pds, pr, pu⟩, .slice y N c)) cnt2 ∧ Blk ((w2.alloc (.cells #[.string pn, .int .i64 pt] 73)).alloc (.cells #[.string pn, .int .i64 pt, .int .i64 pl, .slice y N c, .int .i64 pr, .int .i64 pu] 36)) w.heap.size #[.string n, .int .i64 t] 73) := ⟨HM.out.1.below (lay (lay (Below.refl _ _) _) _), HM.out.2.below (lay (lay (Below.refl _ _) _) _)⟩
          obtain ⟨k3, D3, hr3, hm3⟩ := (HW.out.1.below (Below.refl _ _).drew).rg
          have e1 : (((w2.alloc (.cells #[.string pn, .int .i64 pt] 73)).alloc (.cells #[.string pn, .int .i64 pt, .int .i64 pl, .slice y N c, .int .i64 pr, .int .i64 pu] 36))).cell? ⟨gs, 1, none⟩ = some (.map (some b)) := HW.out.1.blk.cell 1
          go_region_law ((refine step_del_e _ (by rfl) (.tmp 30) (.tmp 31) (by rfl) b r k3 cnt2 D3 _ pn pt (by rfl) (by rfl) hr3 (max_ok hok) (wf_ok hok) ?_; intro w4 cnt4 hr4 hle4 ht4))
          all_goals (have HN := sw_struck (HW.out.1.below (Below.refl _ _).drew) (hg.sub List.filter_sublist) hok hm3 (HF2.out hkk) hr4 ht4; have HBX := (Turn.of_grown (S := fun k => k = b) ht4.grown (fun k e => (Option.some.inj e).symm)).blk (HW.out.2.below (Below.refl _ _).drew) (fun e => by have := HN.oldb; omega); go_wp2; exact ⟨⟨_, _, HN, HBX⟩, by rw [hr4.left_eq, HLT.out _ rfl]; omega⟩)
        | false =>
          have hke := key_eq pn n pt t false (by cases hq : (decide (pn = n) && decide (pt = t)) with | false => rfl | true => (rw [show sameK n t ⟨pn, pt, pl, pds, pr, pu⟩ = true from hq] at hsame; cases hsame))
          have HB3 : Hid (Below w2.heap.size w2 ((w2.alloc (.cells #[.string pn, .int .i64 pt] 73)).alloc (.cells #[.string pn, .int .i64 pt, .int .i64 pl, .slice y N c, .int .i64 pr, .int .i64 pu] 36))) := lay (lay (Below.refl _ _) _) _
          have q0 : Blk ((w2.alloc (.cells #[.string pn, .int .i64 pt] 73)).alloc (.cells #[.string pn, .int .i64 pt, .int .i64 pl, .slice y N c, .int .i64 pr, .int .i64 pu] 36)) w2.heap.size #[.string pn, .int .i64 pt] 73 := (Blk.new w2 _ _).alloc _
          cases hlv : decide (now < pu) with
          | true =>
            have hkk : keepB n t now (⟨pn, pt, pl, pds, pr, pu⟩, .slice y N c) = true := by unfold keepB; rw [hsame]; simpa using hlv
            have hil := fun u => isLive_any pn pt pl pr pu now (.slice y N c) u rfl
            rw [hlv] at hil
            go_wp2_with (go_at_call 46; go_must (refine (hil _).mono ?_); rintro e w3 ⟨rfl, b3⟩)
            have HN := HM.out.1.below (next HB3.out b3)
            rw [← HF1.out hkk] at HN
            have HBX := HM.out.2.below (next HB3.out b3)
            have HL := HN.rg
            obtain ⟨k5, D5, hr5, _⟩ := HL
            go_roundw
            case rel => exact ⟨_, _, HN, HBX⟩
            case measure => rw [hr5.left_eq, HLT.out _ rfl]; omega
          | false =>
            have hkk : keepB n t now (⟨pn, pt, pl, pds, pr, pu⟩, .slice y N c) = false := by unfold keepB; rw [hsame]; simpa using hlv
            have hil := fun u => isLive_any pn pt pl pr pu now (.slice y N c) u rfl
            rw [hlv] at hil
            go_wp2_with (go_at_call 46; go_must (refine (hil _).mono ?_); rintro e w3 ⟨rfl, b3⟩; have q1 := (q0.below b3).cell 0; have q2 := (q0.below b3).cell 1; simp only [List.getElem?_toArray, List.getElem?_cons_succ, List.getElem?_cons_zero] at q1 q2)
            have HW : Hid (SWp w w3 gs most b r L (fltL n t now left L) (nextL left (⟨pn, pt, pl, pds, pr, pu⟩, .slice y N c)) cnt2 ∧ Blk w3 w.heap.size #[.string n, .int .i64 t] 73) := ⟨HM.out.1.below (next HB3.out b3), HM.out.2.below (next HB3.out b3)⟩
            obtain ⟨k3, D3, hr3, hm3⟩ := (HW.out.1.below (Below.refl _ _).drew).rg
            have e1 : (w3).cell? ⟨gs, 1, none⟩ = some (.map (some b)) := HW.out.1.blk.cell 1
            go_region_law ((refine step_del_e _ (by rfl) (.tmp 30) (.tmp 31) (by rfl) b r k3 cnt2 D3 _ pn pt (by rfl) (by rfl) hr3 (max_ok hok) (wf_ok hok) ?_; intro w4 cnt4 hr4 hle4 ht4))
            all_goals (have HN := sw_struck (HW.out.1.below (Below.refl _ _).drew) (hg.sub List.filter_sublist) hok hm3 (HF2.out hkk) hr4 ht4; have HBX := (Turn.of_grown (S := fun k => k = b) ht4.grown (fun k e => (Option.some.inj e).symm)).blk (HW.out.2.below (Below.refl _ _).drew) (fun e => by have := HN.oldb; omega); go_wp2; exact ⟨⟨_, _, HN, HBX⟩, by rw [hr4.left_eq, HLT.out _ rfl]; omega⟩)

end Go.Proofs.Ytcmhjlflgedcdaa

/- What dropOne does: the least goes. -/
namespace Go.Proofs.Ytcmhjlflgedcdaa
open Go.RowKit
open Pl

/-- The least of those that have come. -/
def Least (L : List (En × Value)) (left : Lit → Bool) (ln : ByteArray) (lt : Int) : Prop :=
  (ln = ⟨#[]⟩ ∧ lt = 0 ∧ ∀ p ∈ L, left (kyL p.1.n p.1.t) = true) ∨
  ∃ q ∈ L, q.1.n = ln ∧ q.1.t = lt ∧ left (kyL q.1.n q.1.t) = false ∧ ∀ p ∈ L, left (kyL p.1.n p.1.t) = false → sameK q.1.n q.1.t p.1 = false → ltE q.1 p.1 = true
theorem least_start {D : DataW Hc} {L : List (En × Value)} (hm : MapOf D L) (hg : Good L) : Least L (Maps.has D) ⟨#[]⟩ 0 :=
  .inl ⟨rfl, rfl, fun p hp => by rw [mapOf_has hm hg (max_ok (hg.ok p hp).k) (wf_ok (hg.ok p hp).k)]; exact List.any_eq_true.2 ⟨p, hp, sameK_iff.2 ⟨rfl, rfl⟩⟩⟩
theorem least_first {L : List (En × Value)} (hg : Good L) {left : Lit → Bool} (h : ∀ p ∈ L, left (kyL p.1.n p.1.t) = true) {p : En × Value} (hp : p ∈ L) : Least L (nextL left p) p.1.n p.1.t := by
  refine .inr ⟨p, hp, rfl, rfl, ?_, fun q hq hl hs => ?_⟩
  · rw [nextL_at hg hp hp, sameK_iff.2 ⟨rfl, rfl⟩]; simp
  · rw [nextL_at hg hp hq, h q hq, hs] at hl; simp at hl
theorem least_take {L : List (En × Value)} (hg : Good L) {left : Lit → Bool} {q p : En × Value} (hq : q ∈ L) (h : ∀ p ∈ L, left (kyL p.1.n p.1.t) = false → sameK q.1.n q.1.t p.1 = false → ltE q.1 p.1 = true) (hp : p ∈ L) (hlt : ltE p.1 q.1 = true) : Least L (nextL left p) p.1.n p.1.t := by
  refine .inr ⟨p, hp, rfl, rfl, ?_, fun x hx hl hs => ?_⟩
  · rw [nextL_at hg hp hp, sameK_iff.2 ⟨rfl, rfl⟩]; simp
  · rw [nextL_at hg hp hx, hs] at hl
    simp at hl
    cases hs2 : sameK q.1.n q.1.t x.1 with
    | true => rw [← hg.one hq hx hs2]; exact hlt
    | false => exact ltE_trans hlt (h x hx hl hs2)
theorem least_stay {L : List (En × Value)} (hg : Good L) {left : Lit → Bool} {q p : En × Value} (hq : q ∈ L) (hql : left (kyL q.1.n q.1.t) = false) (h : ∀ p ∈ L, left (kyL p.1.n p.1.t) = false → sameK q.1.n q.1.t p.1 = false → ltE q.1 p.1 = true) (hp : p ∈ L) (hlt : ltE p.1 q.1 = false) : Least L (nextL left p) q.1.n q.1.t := by
  refine .inr ⟨q, hq, rfl, rfl, ?_, fun x hx hl hs => ?_⟩
  · rw [nextL_at hg hp hq, hql]; rfl
  · rw [nextL_at hg hp hx] at hl
    cases hl2 : left (kyL x.1.n x.1.t) with
    | false => exact h x hx hl2 hs
    | true =>
      rw [hl2] at hl
      simp at hl
      obtain rfl := hg.one hp hx hl
      exact ltE_total (hg.ok p hp) (hg.ok q hq) hlt (sameK_symm hs)
theorem erase_pairs : ∀ {L : List (En × Value)} (_ : Dis (fstL L)) {i : Nat} (hi : i < L.length), L.filter (fun y => !sameK L[i].1.n L[i].1.t y.1) = L.eraseIdx i := by
  intro L
  induction L with
  | nil => intro _ i hi; simp at hi
  | cons a L ih =>
    intro hd i hi
    have hd2 := List.pairwise_cons.1 hd
    cases i with
    | zero =>
      have : sameK a.1.n a.1.t a.1 = true := sameK_iff.2 ⟨rfl, rfl⟩
      simp only [List.getElem_cons_zero, List.filter_cons, this, List.eraseIdx_cons_zero]
      simp only [Bool.not_true, Bool.false_eq_true, if_false]
      exact List.filter_eq_self.2 (fun y hy => by rw [hd2.1 y.1 (List.mem_map.2 ⟨y, hy, rfl⟩)]; rfl)
    | succ i =>
      simp only [List.getElem_cons_succ, List.filter_cons, List.eraseIdx_cons_succ]
      have hi' : i < L.length := by simp at hi; omega
      have : sameK L[i].1.n L[i].1.t a.1 = false := sameK_symm (hd2.1 _ (List.mem_map.2 ⟨L[i], List.getElem_mem _, rfl⟩))
      rw [this, Bool.not_false, if_pos rfl, ih hd2.2 hi']
theorem Good.fst {L : List (En × Value)} (h : Good L) : ∀ e ∈ fstL L, OkE e := fun e he => by obtain ⟨p, hp, rfl⟩ := List.mem_map.1 he; exact h.ok p hp
/-- In the end the least of all goes. -/
theorem least_end {L : List (En × Value)} (hg : Good L) {left : Lit → Bool} (hl : ∀ kl, left kl = false) {ln : ByteArray} {lt : Int} (h : Least L left ln lt) (h0 : 0 < L.length) : OkK ln lt ∧ L.filter (fun y => !sameK ln lt y.1) = L.eraseIdx (minP (fstL L)) := by
  rcases h with ⟨_, _, h⟩ | ⟨q, hq, rfl, rfl, _, h⟩
  · have := h L[0] (List.getElem_mem _)
    rw [hl] at this; cases this
  · obtain ⟨i, hi, rfl⟩ := List.getElem_of_mem hq
    have hlen : (fstL L).length = L.length := by unfold fstL; simp
    have hi' : i < (fstL L).length := by omega
    refine ⟨(hg.ok _ hq).k, ?_⟩
    rw [erase_pairs hg.dis hi]
    congr 1
    refine minP_eq hg.dis hg.fst hi' (fun j hj hne => ?_)
    have := h (L[j]'(by omega)) (List.getElem_mem _) (hl _) (by
      have := hg.dis.at hi' hj (fun e => hne e.symm)
      simpa [fstL] using this)
    simpa [fstL] using this
theorem atL_empty {L : List (En × Value)} (hg : Good L) : atL L ⟨#[]⟩ 0 = none := by
  cases h : atL L ⟨#[]⟩ 0 with
  | none => rfl
  | some p =>
    obtain ⟨h1, _, h3⟩ := atL_some h
    have := (hg.ok p h1).k.lo
    omega
/-- The box of the least is written. -/
theorem SWp.own {w0 w w' : World} {gs most b r : Nat} {L M : List (En × Value)} {left : Lit → Bool} {cnt g : Nat} (h : SWp w0 w gs most b r L M left cnt) (ht : Turn (fun k => k = g) w w') (hg : w0.heap.size ≤ g) (hr : g ≠ r) : SWp w0 w' gs most b r L M left cnt := by
  obtain ⟨k, D, hrg, hm⟩ := h.rg
  have hgr : w.grownBy w' (some g) := ⟨ht.os, ht.tape, ht.output, ht.size, fun k hk hne => ht.block k hk (fun e => hne (by rw [e]))⟩
  have := h.oldb
  have := h.oldg
  exact ⟨⟨k, D, hrg.kept hgr (fun e => by have := Option.some.inj e; omega) (fun e => by have := Option.some.inj e; omega), hm⟩, h.good, fun p hp => ht.row (h.dat p hp) (fun k hk e => by have := h.oldd p hp k hk; omega), ht.blk h.blk (by omega), h.turn.trans ht (fun i hi => .inr (by omega)), h.oldb, h.oldg, h.oldd, h.new⟩
theorem SWp.look {w0 w : World} {gs most b r : Nat} {L : List (En × Value)} {left : Lit → Bool} {cnt : Nat} (h : SWp w0 w gs most b r L L left cnt) {n : ByteArray} {t : Int} (hn : n.size ≤ maxLen) (ht : (Lit.int .i64 t).wf = true) :
    (Instr.lookup 66 (.map (some b)) (.agg #[.string n, .int .i64 t]) true).run Try.prog w = .ok (.tuple #[vL L n t, .bool (bL L n t)]) w := by
  obtain ⟨k, D, hr, hm⟩ := h.rg
  have : MapAt w (some b) L := .inr ⟨b, rfl, ⟨k, D, hr.owns, hm⟩, h.good, h.dat⟩
  exact this.look hn ht

set_option maxRecDepth 20000 in
set_option maxHeartbeats 4000000 in
theorem dropOne_any {w : World} {gs most b : Nat} {L : List (En × Value)} (h : St w gs most (some b) L) (h0 : 0 < L.length) :
    Calls Try.prog 35 #[.pointer (some ⟨gs, 0, none⟩)] w fun e w' => e = .returned (.tuple #[]) ∧ St w' gs most (some b) (L.eraseIdx (minP (fstL L))) ∧ Turn (fun k => k = b) w w' := by
  have hb1 : Below w.heap.size w (w.alloc (.cells #[.string ⟨#[]⟩, .int .i64 0] 73)) := lay (Below.refl _ _) _
  have hs1 := h.below hb1
  have c1 : (w.alloc (.cells #[.string ⟨#[]⟩, .int .i64 0] 73)).cell? ⟨gs, 1, none⟩ = some (.map (some b)) := hs1.blk.cell 1
  obtain ⟨hhold⟩ : Nonempty (Hold (w.alloc (.cells #[.string ⟨#[]⟩, .int .i64 0] 73)) b L) := by
    rcases hs1.at' with ⟨e, _⟩ | ⟨b', e, hh⟩
    · cases e
    · cases e; exact ⟨hh⟩
  obtain ⟨D, hown, hm⟩ := hhold.own
  have hg := hhold.good
  have h1 := h.m1
  have h2 := h.m2
  have h3 := h.len
  have HST : Hid (∀ w', w'.ranges Try.prog 73 rE b (w.alloc (.cells #[.string ⟨#[]⟩, .int .i64 0] 73)).heap.size L.length D (Maps.has D) (Maps.size D) → (w.alloc (.cells #[.string ⟨#[]⟩, .int .i64 0] 73)).grownBy w' none → SWp w w' gs most b (w.alloc (.cells #[.string ⟨#[]⟩, .int .i64 0] 73)).heap.size L L (Maps.has D) (Maps.size D) ∧ Blk w' w.heap.size #[.string ⟨#[]⟩, .int .i64 0] 73 ∧ Least L (Maps.has D) ⟨#[]⟩ 0) := fun w' hr hgr => ⟨sw_start h hb1 hm hr hgr, (Blk.new w _ _).below (grown_below hgr), least_start hm hg⟩
  clear h hs1 hb1 hhold
  go_enter Try.func35, Try.ntmps35
  go_wp2_with (first
    | (at_range; refine wpList_range_own _ rfl _ 66 rfl 73 36 keyE Try.underlying66 rE b L.length D rfl hown ?_; intro w1 hr1 hg1 hs1; have HS1 := HST.out w1 hr1 hg1; clear hr1 hg1 hs1 HST)
    | go_in)
  go_frame
  have hrw : w.heap.size < (w.alloc (.cells #[.string ⟨#[]⟩, .int .i64 0] 73)).heap.size := by simp
  generalize (w.alloc (.cells #[.string ⟨#[]⟩, .int .i64 0] 73)).heap.size = r at HS1 hrw ⊢
  have HS : Hid (SWp w w1 gs most b r L L (Maps.has D) (Maps.size D) ∧ Blk w1 w.heap.size #[.string ⟨#[]⟩, .int .i64 0] 73 ∧ Least L (Maps.has D) ⟨#[]⟩ 0) := HS1
  clear HS1 hown hm c1
  go_loopw [12] (fun _ wr => ∃ (left : Lit → Bool) (cnt : Nat) (ln : ByteArray) (lt : Int), Hid (SWp w wr gs most b r L L left cnt ∧ Blk wr w.heap.size #[.string ln, .int .i64 lt] 73 ∧ Least L left ln lt)) (fun _ wr => wr.rangeLeft b r)
  case atStart => exact ⟨_, _, _, _, HS⟩
  case round =>
    clear HS
    obtain ⟨left, cnt, ln, lt, HR⟩ := hrel
    obtain ⟨kk, D', hr', hm'⟩ := HR.out.1.rg
    go_wp2_with (first
      | (at_next; go_must (refine wpList_next_e _ rfl (.tmp 11) rfl b r kk cnt D' left L rfl hr' hm' hg ?_ ?_))
      | go_in)
    · intro _ hl0
      obtain ⟨hok, hfil⟩ := least_end hg hl0 HR.out.2.2 h0
      have HF : Hid (L.filter (fun y => !sameK ln lt y.1) = L.eraseIdx (minP (fstL L))) := hfil
      clear hfil
      have c1 : wr.cell? ⟨gs, 1, none⟩ = some (.map (some b)) := HR.out.1.blk.cell 1
      have d0 : wr.cell? ⟨w.heap.size, 0, none⟩ = some (.string ln) := HR.out.2.1.cell 0
      have d1 : wr.cell? ⟨w.heap.size, 1, none⟩ = some (.int .i64 lt) := HR.out.2.1.cell 1
      have hr9 := (hr'.kept (row := none) (w' := wr.drew) ⟨rfl, rfl, rfl, Nat.le_refl _, fun _ _ _ => rfl⟩ (by simp) (by simp))
      go_wp2
      go_region_law ((refine step_del_e _ (by rfl) (.tmp 52) (.tmp 53) (by rfl) b r kk cnt D' left ln lt (by rfl) (by rfl) hr9 (max_ok hok) (wf_ok hok) ?_; intro w4 cnt4 hr4 hle4 ht4))
      all_goals (have HQ := mapOf_del hm' hg (max_ok hok) (wf_ok hok); rw [HF.out] at HQ; have HN := (HR.out.1.below (Below.refl _ _).drew).struck hr4 HQ ht4; go_wp2; go_end0; exact ⟨rfl, HN.st (List.eraseIdx_sublist _ _) h1 h2 h3, HN.turn⟩)
    · intro pe pd w2 cnt2 hpL hlp hr2 hlt hg2 hsz2 hen
      have HK := HR.out
      have HM : Hid (SWp w w2 gs most b r L L (nextL left (pe, pd)) cnt2 ∧ Blk w2 w.heap.size #[.string ln, .int .i64 lt] 73) := ⟨HK.1.moved hr2 hm' hg2, (Turn.of_grown (S := fun k => k = r) hg2 (fun k e => (Option.some.inj e).symm)).blk HK.2.1 (by omega)⟩
      have HLT : Hid (∀ c, wr.rangeLeft b r = c → c = cnt) := fun c hc => by rw [hr'.left_eq] at hc; exact hc.symm
      obtain ⟨y, c, hpd⟩ := row_shape (HK.1.dat _ hpL)
      have hok := (hg.ok _ hpL).k
      have HLE : Hid (Least L left ln lt) := HK.2.2
      have HPL : Hid ((pe, pd) ∈ L) := hpL
      have HDAT : Hid (∀ p ∈ L, wr.ownsRow 0 9 1 p.2 p.1.ds.length (tC p.1.ds)) := HK.1.dat
      clear HK hlp hr2 hg2 hsz2 hpL hr' hm' HR
      unfold kyV eA at hen ⊢
      obtain ⟨pn, pt, pl, pds, pr, pu⟩ := pe
      simp only at hpd hok hen ⊢
      generalize pds.length = N at hpd
      subst hpd
      rcases HLE.out with ⟨rfl, rfl, hall⟩ | ⟨⟨⟨qn, qt, ql, qds, qr, qu⟩, qd⟩, hqL, rfl, rfl, hql, hq⟩
      · have HTAKE : Hid (Least L (nextL left (⟨pn, pt, pl, pds, pr, pu⟩, .slice y N c)) pn pt) := least_first hg hall HPL.out
        have hlk : Hid (∀ u, SWp w u gs most b r L L (nextL left (⟨pn, pt, pl, pds, pr, pu⟩, .slice y N c)) cnt2 → (Instr.lookup 66 (.map (some b)) (.agg #[.string ⟨#[]⟩, .int .i64 0]) true).run Try.prog u = .ok (.tuple #[.agg #[.string ⟨#[]⟩, .int .i64 0, .int .i64 0, .slice none 0 0, .int .i64 0, .int .i64 0], .bool false]) u) := fun u hu => by
          have := hu.look (n := ⟨#[]⟩) (t := 0) (by decide) (by decide)
          unfold vL bL at this
          rw [atL_empty hg] at this
          exact this
        clear hall HLE HPL HDAT
        go_wp2
        obtain ⟨W, hW⟩ : ∃ W, W = (w2.alloc (.cells #[.string pn, .int .i64 pt] 73)).alloc (.cells #[.string pn, .int .i64 pt, .int .i64 pl, .slice y N c, .int .i64 pr, .int .i64 pu] 36) := ⟨_, rfl⟩
        have hbW : Below w2.heap.size w2 W := by rw [hW]; exact lay (lay (Below.refl _ _) _) _
        have kK : Blk W w2.heap.size #[.string pn, .int .i64 pt] 73 := by rw [hW]; exact (Blk.new w2 _ _).alloc _
        have kE : Blk W (w2.heap.size + 1) #[.string pn, .int .i64 pt, .int .i64 pl, .slice y N c, .int .i64 pr, .int .i64 pu] 36 := by rw [hW]; have := Blk.new (w2.alloc (.cells #[.string pn, .int .i64 pt] 73)) #[.string pn, .int .i64 pt, .int .i64 pl, .slice y N c, .int .i64 pr, .int .i64 pu] 36; simpa using this
        have hWs : W.heap.size = w2.heap.size + 1 + 1 := by rw [hW]; simp
        rw [← hW]
        clear hW
        have HS := HM.out.1.below hbW
        have kB := HM.out.2.below hbW
        have c1 : W.cell? ⟨gs, 1, none⟩ = some (.map (some b)) := HS.blk.cell 1
        have c1' : ∀ o, (W.alloc o).cell? ⟨gs, 1, none⟩ = some (.map (some b)) := fun o => (HS.blk.alloc o).cell 1
        have d0 : W.cell? ⟨w.heap.size, 0, none⟩ = some (.string ⟨#[]⟩) := kB.cell 0
        have d1 : W.cell? ⟨w.heap.size, 1, none⟩ = some (.int .i64 0) := kB.cell 1
        have d0' : ∀ o, (W.alloc o).cell? ⟨w.heap.size, 0, none⟩ = some (.string ⟨#[]⟩) := fun o => (kB.alloc o).cell 0
        have d1' : ∀ o, (W.alloc o).cell? ⟨w.heap.size, 1, none⟩ = some (.int .i64 0) := fun o => (kB.alloc o).cell 1
        have l1 := hlk.out W.drew (HS.below (Below.refl _ _).drew)
        have l2 : ∀ o, (Instr.lookup 66 (.map (some b)) (.agg #[.string ⟨#[]⟩, .int .i64 0]) true).run Try.prog (W.alloc o).drew = _ := fun o => hlk.out _ (HS.below (((Below.refl _ _).alloc (Nat.le_refl _) o).drew))
        go_region
        obtain ⟨X, hX⟩ : ∃ X, X = (W.alloc (.cells #[.string ⟨#[]⟩, .int .i64 0, .int .i64 0, .slice none 0 0, .int .i64 0, .int .i64 0] 36)).drew := ⟨_, rfl⟩
        rw [← hX]
        have hbX : Below W.heap.size W X := by rw [hX]; exact ((Below.refl _ _).alloc (Nat.le_refl _) _).drew
        have kF : Blk X W.heap.size #[.string ⟨#[]⟩, .int .i64 0, .int .i64 0, .slice none 0 0, .int .i64 0, .int .i64 0] 36 := by rw [hX]; exact Blk.new W _ _
        rw [hWs] at kF
        clear hX c1 c1' d0 d1 d0' d1' l1 l2
        replace HS := HS.below hbX
        replace kB := kB.below hbX
        replace kK := kK.below hbX
        replace kE := kE.below hbX
        have f5 := kF.cell 5
        have e5 := kE.cell 5
        have k0 := kK.cell 0
        have k1 := kK.cell 1
        have b0 := kB.cell 0
        have b1 := kB.cell 1
        have g0 := kB.frozen 0
        have g1 := kB.frozen 1
        simp only [List.getElem?_toArray, List.getElem?_cons_succ, List.getElem?_cons_zero] at f5 e5 k0 k1 b0 b1
        clear kF kE
        go_wp2
        have t6 : Turn (fun k => k = w.heap.size) X ((X.setCell ⟨w.heap.size, 0, none⟩ (.string pn)).setCell ⟨w.heap.size, 1, none⟩ (.int .i64 pt)) := (Turn.of_set (S := fun k => k = w.heap.size) _ (p := ⟨w.heap.size, 0, none⟩) rfl _).same (Turn.of_set (S := fun k => k = w.heap.size) _ (p := ⟨w.heap.size, 1, none⟩) rfl _)
        have k6 : Blk ((X.setCell ⟨w.heap.size, 0, none⟩ (.string pn)).setCell ⟨w.heap.size, 1, none⟩ (.int .i64 pt)) w.heap.size #[.string pn, .int .i64 pt] 73 := (kB.set 0 _).set 1 _
        have HN := HS.own t6 (Nat.le_refl _) (by omega)
        have HL := HTAKE.out
        obtain ⟨k7, D7, hr7, _⟩ := HN.rg
        go_roundw
        case rel => exact ⟨_, _, _, _, ⟨HN, k6, HL⟩⟩
        case measure => rw [hr7.left_eq, HLT.out _ rfl]; omega
      · obtain ⟨qy, qc, hqd⟩ := row_shape (HDAT.out _ hqL)
        have hqk := (hg.ok _ hqL).k
        have HTAKE : Hid (ltE ⟨pn, pt, pl, pds, pr, pu⟩ ⟨qn, qt, ql, qds, qr, qu⟩ = true → Least L (nextL left (⟨pn, pt, pl, pds, pr, pu⟩, .slice y N c)) pn pt) := fun hx => least_take hg hqL hq HPL.out hx
        have HSTAY : Hid (ltE ⟨pn, pt, pl, pds, pr, pu⟩ ⟨qn, qt, ql, qds, qr, qu⟩ = false → Least L (nextL left (⟨pn, pt, pl, pds, pr, pu⟩, .slice y N c)) qn qt) := fun hx => least_stay hg hqL hql hq HPL.out hx
        have hlk : Hid (∀ u, SWp w u gs most b r L L (nextL left (⟨pn, pt, pl, pds, pr, pu⟩, .slice y N c)) cnt2 → (Instr.lookup 66 (.map (some b)) (.agg #[.string qn, .int .i64 qt]) true).run Try.prog u = .ok (.tuple #[eA ⟨qn, qt, ql, qds, qr, qu⟩ qd, .bool true]) u) := fun u hu => by
          have := hu.look (n := qn) (t := qt) (max_ok hqk) (wf_ok hqk)
          have ha := atL_mem hg hqL
          simp only at ha
          unfold vL bL at this
          rw [ha] at this
          exact this
        simp only at hqd hqk
        generalize qds.length = qN at hqd
        subst hqd
        unfold eA at hlk
        clear HLE HPL HDAT hqL hql hq
        by_cases hu1 : pu < qu
        · replace HTAKE := HTAKE.out (ltE_iff.2 (.inl hu1))
          replace HTAKE : Hid (Least L (nextL left (⟨pn, pt, pl, pds, pr, pu⟩, .slice y N c)) pn pt) := HTAKE
          go_wp2
          obtain ⟨W, hW⟩ : ∃ W, W = (w2.alloc (.cells #[.string pn, .int .i64 pt] 73)).alloc (.cells #[.string pn, .int .i64 pt, .int .i64 pl, .slice y N c, .int .i64 pr, .int .i64 pu] 36) := ⟨_, rfl⟩
          have hbW : Below w2.heap.size w2 W := by rw [hW]; exact lay (lay (Below.refl _ _) _) _
          have kK : Blk W w2.heap.size #[.string pn, .int .i64 pt] 73 := by rw [hW]; exact (Blk.new w2 _ _).alloc _
          have kE : Blk W (w2.heap.size + 1) #[.string pn, .int .i64 pt, .int .i64 pl, .slice y N c, .int .i64 pr, .int .i64 pu] 36 := by rw [hW]; have := Blk.new (w2.alloc (.cells #[.string pn, .int .i64 pt] 73)) #[.string pn, .int .i64 pt, .int .i64 pl, .slice y N c, .int .i64 pr, .int .i64 pu] 36; simpa using this
          have hWs : W.heap.size = w2.heap.size + 1 + 1 := by rw [hW]; simp
          rw [← hW]
          clear hW
          have HS := HM.out.1.below hbW
          have kB := HM.out.2.below hbW
          have c1 : W.cell? ⟨gs, 1, none⟩ = some (.map (some b)) := HS.blk.cell 1
          have c1' : ∀ o, (W.alloc o).cell? ⟨gs, 1, none⟩ = some (.map (some b)) := fun o => (HS.blk.alloc o).cell 1
          have d0 : W.cell? ⟨w.heap.size, 0, none⟩ = some (.string qn) := kB.cell 0
          have d1 : W.cell? ⟨w.heap.size, 1, none⟩ = some (.int .i64 qt) := kB.cell 1
          have d0' : ∀ o, (W.alloc o).cell? ⟨w.heap.size, 0, none⟩ = some (.string qn) := fun o => (kB.alloc o).cell 0
          have d1' : ∀ o, (W.alloc o).cell? ⟨w.heap.size, 1, none⟩ = some (.int .i64 qt) := fun o => (kB.alloc o).cell 1
          have l1 := hlk.out W.drew (HS.below (Below.refl _ _).drew)
          have l2 : ∀ o, (Instr.lookup 66 (.map (some b)) (.agg #[.string qn, .int .i64 qt]) true).run Try.prog (W.alloc o).drew = _ := fun o => hlk.out _ (HS.below (((Below.refl _ _).alloc (Nat.le_refl _) o).drew))
          go_region
          obtain ⟨X, hX⟩ : ∃ X, X = (W.alloc (.cells #[.string qn, .int .i64 qt, .int .i64 ql, .slice qy qN qc, .int .i64 qr, .int .i64 qu] 36)).drew := ⟨_, rfl⟩
          rw [← hX]
          have hbX : Below W.heap.size W X := by rw [hX]; exact ((Below.refl _ _).alloc (Nat.le_refl _) _).drew
          have kF : Blk X W.heap.size #[.string qn, .int .i64 qt, .int .i64 ql, .slice qy qN qc, .int .i64 qr, .int .i64 qu] 36 := by rw [hX]; exact Blk.new W _ _
          rw [hWs] at kF
          clear hX c1 c1' d0 d1 d0' d1' l1 l2
          replace HS := HS.below hbX
          replace kB := kB.below hbX
          replace kK := kK.below hbX
          replace kE := kE.below hbX
          have f5 := kF.cell 5
          have e5 := kE.cell 5
          have k0 := kK.cell 0
          have k1 := kK.cell 1
          have b0 := kB.cell 0
          have b1 := kB.cell 1
          have g0 := kB.frozen 0
          have g1 := kB.frozen 1
          simp only [List.getElem?_toArray, List.getElem?_cons_succ, List.getElem?_cons_zero] at f5 e5 k0 k1 b0 b1
          clear kF kE
          go_wp2
          have t6 : Turn (fun k => k = w.heap.size) X ((X.setCell ⟨w.heap.size, 0, none⟩ (.string pn)).setCell ⟨w.heap.size, 1, none⟩ (.int .i64 pt)) := (Turn.of_set (S := fun k => k = w.heap.size) _ (p := ⟨w.heap.size, 0, none⟩) rfl _).same (Turn.of_set (S := fun k => k = w.heap.size) _ (p := ⟨w.heap.size, 1, none⟩) rfl _)
          have k6 : Blk ((X.setCell ⟨w.heap.size, 0, none⟩ (.string pn)).setCell ⟨w.heap.size, 1, none⟩ (.int .i64 pt)) w.heap.size #[.string pn, .int .i64 pt] 73 := (kB.set 0 _).set 1 _
          have HN := HS.own t6 (Nat.le_refl _) (by omega)
          have HL := HTAKE.out
          obtain ⟨k7, D7, hr7, _⟩ := HN.rg
          go_roundw
          case rel => exact ⟨_, _, _, _, ⟨HN, k6, HL⟩⟩
          case measure => rw [hr7.left_eq, HLT.out _ rfl]; omega
        · have hu1' : decide (pu < qu) = false := by simpa using hu1
          by_cases hu2 : pu = qu
          · by_cases hu3 : cK pn pt qn qt < 0
            · replace HTAKE := HTAKE.out (ltE_iff.2 (.inr ⟨hu2, hu3⟩))
              replace HTAKE : Hid (Least L (nextL left (⟨pn, pt, pl, pds, pr, pu⟩, .slice y N c)) pn pt) := HTAKE
              have hu2' : (pu == qu) = true := by simpa using hu2
              clear hu2
              go_wp2
              obtain ⟨W, hW⟩ : ∃ W, W = (w2.alloc (.cells #[.string pn, .int .i64 pt] 73)).alloc (.cells #[.string pn, .int .i64 pt, .int .i64 pl, .slice y N c, .int .i64 pr, .int .i64 pu] 36) := ⟨_, rfl⟩
              have hbW : Below w2.heap.size w2 W := by rw [hW]; exact lay (lay (Below.refl _ _) _) _
              have kK : Blk W w2.heap.size #[.string pn, .int .i64 pt] 73 := by rw [hW]; exact (Blk.new w2 _ _).alloc _
              have kE : Blk W (w2.heap.size + 1) #[.string pn, .int .i64 pt, .int .i64 pl, .slice y N c, .int .i64 pr, .int .i64 pu] 36 := by rw [hW]; have := Blk.new (w2.alloc (.cells #[.string pn, .int .i64 pt] 73)) #[.string pn, .int .i64 pt, .int .i64 pl, .slice y N c, .int .i64 pr, .int .i64 pu] 36; simpa using this
              have hWs : W.heap.size = w2.heap.size + 1 + 1 := by rw [hW]; simp
              rw [← hW]
              clear hW
              have HS := HM.out.1.below hbW
              have kB := HM.out.2.below hbW
              have c1 : W.cell? ⟨gs, 1, none⟩ = some (.map (some b)) := HS.blk.cell 1
              have c1' : ∀ o, (W.alloc o).cell? ⟨gs, 1, none⟩ = some (.map (some b)) := fun o => (HS.blk.alloc o).cell 1
              have d0 : W.cell? ⟨w.heap.size, 0, none⟩ = some (.string qn) := kB.cell 0
              have d1 : W.cell? ⟨w.heap.size, 1, none⟩ = some (.int .i64 qt) := kB.cell 1
              have d0' : ∀ o, (W.alloc o).cell? ⟨w.heap.size, 0, none⟩ = some (.string qn) := fun o => (kB.alloc o).cell 0
              have d1' : ∀ o, (W.alloc o).cell? ⟨w.heap.size, 1, none⟩ = some (.int .i64 qt) := fun o => (kB.alloc o).cell 1
              have l1 := hlk.out W.drew (HS.below (Below.refl _ _).drew)
              have l2 : ∀ o, (Instr.lookup 66 (.map (some b)) (.agg #[.string qn, .int .i64 qt]) true).run Try.prog (W.alloc o).drew = _ := fun o => hlk.out _ (HS.below (((Below.refl _ _).alloc (Nat.le_refl _) o).drew))
              go_region
              obtain ⟨X, hX⟩ : ∃ X, X = (W.alloc (.cells #[.string qn, .int .i64 qt, .int .i64 ql, .slice qy qN qc, .int .i64 qr, .int .i64 qu] 36)).drew := ⟨_, rfl⟩
              rw [← hX]
              have hbX : Below W.heap.size W X := by rw [hX]; exact ((Below.refl _ _).alloc (Nat.le_refl _) _).drew
              have kF : Blk X W.heap.size #[.string qn, .int .i64 qt, .int .i64 ql, .slice qy qN qc, .int .i64 qr, .int .i64 qu] 36 := by rw [hX]; exact Blk.new W _ _
              rw [hWs] at kF
              clear hX c1 c1' d0 d1 d0' d1' l1 l2
              replace HS := HS.below hbX
              replace kB := kB.below hbX
              replace kK := kK.below hbX
              replace kE := kE.below hbX
              have f5 := kF.cell 5
              have e5 := kE.cell 5
              have k0 := kK.cell 0
              have k1 := kK.cell 1
              have b0 := kB.cell 0
              have b1 := kB.cell 1
              have g0 := kB.frozen 0
              have g1 := kB.frozen 1
              simp only [List.getElem?_toArray, List.getElem?_cons_succ, List.getElem?_cons_zero] at f5 e5 k0 k1 b0 b1
              clear kF kE
              go_wp2_with (first | (go_at_call 41; go_must (refine (order_d pn qn pt qt _ (max_ok hok) (max_ok hqk)).mono ?_); rintro e X2 ⟨rfl, bX2, _⟩; replace HS := HS.below bX2; replace kB := kB.below bX2; replace kK := kK.below bX2; clear f5 e5 k0 k1 b0 b1 g0 g1; have k0 := kK.cell 0; have k1 := kK.cell 1; have b0 := kB.cell 0; have b1 := kB.cell 1; have g0 := kB.frozen 0; have g1 := kB.frozen 1; simp only [List.getElem?_toArray, List.getElem?_cons_succ, List.getElem?_cons_zero] at k0 k1 b0 b1))
              have t6 : Turn (fun k => k = w.heap.size) X2 ((X2.setCell ⟨w.heap.size, 0, none⟩ (.string pn)).setCell ⟨w.heap.size, 1, none⟩ (.int .i64 pt)) := (Turn.of_set (S := fun k => k = w.heap.size) _ (p := ⟨w.heap.size, 0, none⟩) rfl _).same (Turn.of_set (S := fun k => k = w.heap.size) _ (p := ⟨w.heap.size, 1, none⟩) rfl _)
              have k6 : Blk ((X2.setCell ⟨w.heap.size, 0, none⟩ (.string pn)).setCell ⟨w.heap.size, 1, none⟩ (.int .i64 pt)) w.heap.size #[.string pn, .int .i64 pt] 73 := (kB.set 0 _).set 1 _
              have HN := HS.own t6 (Nat.le_refl _) (by omega)
              have HL := HTAKE.out
              obtain ⟨k7, D7, hr7, _⟩ := HN.rg
              go_roundw
              case rel => exact ⟨_, _, _, _, ⟨HN, k6, HL⟩⟩
              case measure => rw [hr7.left_eq, HLT.out _ rfl]; omega
            · replace HSTAY := HSTAY.out (by cases hx : ltE ⟨pn, pt, pl, pds, pr, pu⟩ ⟨qn, qt, ql, qds, qr, qu⟩ with | false => rfl | true => (have := ltE_iff.1 hx; simp only at this; omega))
              replace HSTAY : Hid (Least L (nextL left (⟨pn, pt, pl, pds, pr, pu⟩, .slice y N c)) qn qt) := HSTAY
              have hu2' : (pu == qu) = true := by simpa using hu2
              have hu3' : decide (cK pn pt qn qt < 0) = false := by simpa using hu3
              clear hu2 hu3
              go_wp2
              obtain ⟨W, hW⟩ : ∃ W, W = (w2.alloc (.cells #[.string pn, .int .i64 pt] 73)).alloc (.cells #[.string pn, .int .i64 pt, .int .i64 pl, .slice y N c, .int .i64 pr, .int .i64 pu] 36) := ⟨_, rfl⟩
              have hbW : Below w2.heap.size w2 W := by rw [hW]; exact lay (lay (Below.refl _ _) _) _
              have kK : Blk W w2.heap.size #[.string pn, .int .i64 pt] 73 := by rw [hW]; exact (Blk.new w2 _ _).alloc _
              have kE : Blk W (w2.heap.size + 1) #[.string pn, .int .i64 pt, .int .i64 pl, .slice y N c, .int .i64 pr, .int .i64 pu] 36 := by rw [hW]; have := Blk.new (w2.alloc (.cells #[.string pn, .int .i64 pt] 73)) #[.string pn, .int .i64 pt, .int .i64 pl, .slice y N c, .int .i64 pr, .int .i64 pu] 36; simpa using this
              have hWs : W.heap.size = w2.heap.size + 1 + 1 := by rw [hW]; simp
              rw [← hW]
              clear hW
              have HS := HM.out.1.below hbW
              have kB := HM.out.2.below hbW
              have c1 : W.cell? ⟨gs, 1, none⟩ = some (.map (some b)) := HS.blk.cell 1
              have c1' : ∀ o, (W.alloc o).cell? ⟨gs, 1, none⟩ = some (.map (some b)) := fun o => (HS.blk.alloc o).cell 1
              have d0 : W.cell? ⟨w.heap.size, 0, none⟩ = some (.string qn) := kB.cell 0
              have d1 : W.cell? ⟨w.heap.size, 1, none⟩ = some (.int .i64 qt) := kB.cell 1
              have d0' : ∀ o, (W.alloc o).cell? ⟨w.heap.size, 0, none⟩ = some (.string qn) := fun o => (kB.alloc o).cell 0
              have d1' : ∀ o, (W.alloc o).cell? ⟨w.heap.size, 1, none⟩ = some (.int .i64 qt) := fun o => (kB.alloc o).cell 1
              have l1 := hlk.out W.drew (HS.below (Below.refl _ _).drew)
              have l2 : ∀ o, (Instr.lookup 66 (.map (some b)) (.agg #[.string qn, .int .i64 qt]) true).run Try.prog (W.alloc o).drew = _ := fun o => hlk.out _ (HS.below (((Below.refl _ _).alloc (Nat.le_refl _) o).drew))
              go_region
              obtain ⟨X, hX⟩ : ∃ X, X = (W.alloc (.cells #[.string qn, .int .i64 qt, .int .i64 ql, .slice qy qN qc, .int .i64 qr, .int .i64 qu] 36)).drew := ⟨_, rfl⟩
              rw [← hX]
              have hbX : Below W.heap.size W X := by rw [hX]; exact ((Below.refl _ _).alloc (Nat.le_refl _) _).drew
              have kF : Blk X W.heap.size #[.string qn, .int .i64 qt, .int .i64 ql, .slice qy qN qc, .int .i64 qr, .int .i64 qu] 36 := by rw [hX]; exact Blk.new W _ _
              rw [hWs] at kF
              clear hX c1 c1' d0 d1 d0' d1' l1 l2
              replace HS := HS.below hbX
              replace kB := kB.below hbX
              replace kK := kK.below hbX
              replace kE := kE.below hbX
              have f5 := kF.cell 5
              have e5 := kE.cell 5
              have k0 := kK.cell 0
              have k1 := kK.cell 1
              have b0 := kB.cell 0
              have b1 := kB.cell 1
              have g0 := kB.frozen 0
              have g1 := kB.frozen 1
              simp only [List.getElem?_toArray, List.getElem?_cons_succ, List.getElem?_cons_zero] at f5 e5 k0 k1 b0 b1
              clear kF kE
              go_wp2_with (first | (go_at_call 41; go_must (refine (order_d pn qn pt qt _ (max_ok hok) (max_ok hqk)).mono ?_); rintro e X2 ⟨rfl, bX2, _⟩; replace HS := HS.below bX2; replace kB := kB.below bX2; replace kK := kK.below bX2; clear f5 e5 k0 k1 b0 b1 g0 g1; have k0 := kK.cell 0; have k1 := kK.cell 1; have b0 := kB.cell 0; have b1 := kB.cell 1; have g0 := kB.frozen 0; have g1 := kB.frozen 1; simp only [List.getElem?_toArray, List.getElem?_cons_succ, List.getElem?_cons_zero] at k0 k1 b0 b1))
              have HL := HSTAY.out
              obtain ⟨k7, D7, hr7, _⟩ := HS.rg
              go_roundw
              case rel => exact ⟨_, _, _, _, ⟨HS, kB, HL⟩⟩
              case measure => rw [hr7.left_eq, HLT.out _ rfl]; omega
          · replace HSTAY := HSTAY.out (by cases hx : ltE ⟨pn, pt, pl, pds, pr, pu⟩ ⟨qn, qt, ql, qds, qr, qu⟩ with | false => rfl | true => (have := ltE_iff.1 hx; simp only at this; omega))
            replace HSTAY : Hid (Least L (nextL left (⟨pn, pt, pl, pds, pr, pu⟩, .slice y N c)) qn qt) := HSTAY
            have hu2' : (pu == qu) = false := by simpa using hu2
            clear hu2
            go_wp2
            obtain ⟨W, hW⟩ : ∃ W, W = (w2.alloc (.cells #[.string pn, .int .i64 pt] 73)).alloc (.cells #[.string pn, .int .i64 pt, .int .i64 pl, .slice y N c, .int .i64 pr, .int .i64 pu] 36) := ⟨_, rfl⟩
            have hbW : Below w2.heap.size w2 W := by rw [hW]; exact lay (lay (Below.refl _ _) _) _
            have kK : Blk W w2.heap.size #[.string pn, .int .i64 pt] 73 := by rw [hW]; exact (Blk.new w2 _ _).alloc _
            have kE : Blk W (w2.heap.size + 1) #[.string pn, .int .i64 pt, .int .i64 pl, .slice y N c, .int .i64 pr, .int .i64 pu] 36 := by rw [hW]; have := Blk.new (w2.alloc (.cells #[.string pn, .int .i64 pt] 73)) #[.string pn, .int .i64 pt, .int .i64 pl, .slice y N c, .int .i64 pr, .int .i64 pu] 36; simpa using this
            have hWs : W.heap.size = w2.heap.size + 1 + 1 := by rw [hW]; simp
            rw [← hW]
            clear hW
            have HS := HM.out.1.below hbW
            have kB := HM.out.2.below hbW
            have c1 : W.cell? ⟨gs, 1, none⟩ = some (.map (some b)) := HS.blk.cell 1
            have c1' : ∀ o, (W.alloc o).cell? ⟨gs, 1, none⟩ = some (.map (some b)) := fun o => (HS.blk.alloc o).cell 1
            have d0 : W.cell? ⟨w.heap.size, 0, none⟩ = some (.string qn) := kB.cell 0
            have d1 : W.cell? ⟨w.heap.size, 1, none⟩ = some (.int .i64 qt) := kB.cell 1
            have d0' : ∀ o, (W.alloc o).cell? ⟨w.heap.size, 0, none⟩ = some (.string qn) := fun o => (kB.alloc o).cell 0
            have d1' : ∀ o, (W.alloc o).cell? ⟨w.heap.size, 1, none⟩ = some (.int .i64 qt) := fun o => (kB.alloc o).cell 1
            have l1 := hlk.out W.drew (HS.below (Below.refl _ _).drew)
            have l2 : ∀ o, (Instr.lookup 66 (.map (some b)) (.agg #[.string qn, .int .i64 qt]) true).run Try.prog (W.alloc o).drew = _ := fun o => hlk.out _ (HS.below (((Below.refl _ _).alloc (Nat.le_refl _) o).drew))
            go_region
            obtain ⟨X, hX⟩ : ∃ X, X = (W.alloc (.cells #[.string qn, .int .i64 qt, .int .i64 ql, .slice qy qN qc, .int .i64 qr, .int .i64 qu] 36)).drew := ⟨_, rfl⟩
            rw [← hX]
            have hbX : Below W.heap.size W X := by rw [hX]; exact ((Below.refl _ _).alloc (Nat.le_refl _) _).drew
            have kF : Blk X W.heap.size #[.string qn, .int .i64 qt, .int .i64 ql, .slice qy qN qc, .int .i64 qr, .int .i64 qu] 36 := by rw [hX]; exact Blk.new W _ _
            rw [hWs] at kF
            clear hX c1 c1' d0 d1 d0' d1' l1 l2
            replace HS := HS.below hbX
            replace kB := kB.below hbX
            replace kK := kK.below hbX
            replace kE := kE.below hbX
            have f5 := kF.cell 5
            have e5 := kE.cell 5
            have k0 := kK.cell 0
            have k1 := kK.cell 1
            have b0 := kB.cell 0
            have b1 := kB.cell 1
            have g0 := kB.frozen 0
            have g1 := kB.frozen 1
            simp only [List.getElem?_toArray, List.getElem?_cons_succ, List.getElem?_cons_zero] at f5 e5 k0 k1 b0 b1
            clear kF kE
            go_wp2
            have HL := HSTAY.out
            obtain ⟨k7, D7, hr7, _⟩ := HS.rg
            go_roundw
            case rel => exact ⟨_, _, _, _, ⟨HS, kB, HL⟩⟩
            case measure => rw [hr7.left_eq, HLT.out _ rfl]; omega

end Go.Proofs.Ytcmhjlflgedcdaa

/- What hold does: an entry is held, in memory of its own. -/
namespace Go.Proofs.Ytcmhjlflgedcdaa
open Go.RowKit
open Pl

theorem map_some (b : Nat) (u : World) : (binOp .eql 66 (.map (some b)) (.map none)).run Try.prog u = .ok (.bool false) u := by kernel_rfl
theorem map_none (u : World) : (binOp .eql 66 (.map none) (.map none)).run Try.prog u = .ok (.bool true) u := by kernel_rfl
theorem Row.turned {S : Nat → Prop} {w w' : World} {v : Value} {n : Nat} {xs : List Value} (h : Row w v n xs) (hn : 0 < n) (_hl : xs.length = n) (ht : Turn S w w') (hs : ∀ g o cap, v = .slice (some ⟨g, o, none⟩) n cap → ¬ S g) : Row w' v n xs := by
  obtain ⟨g, o, cap, rfl, hc⟩ := row_at h hn
  refine .inr ⟨g, o, none, cap, rfl, fun _ => rfl, fun j u hu => ?_⟩
  have h0 := hc j u hu
  have hlt : g < w.heap.size := by
    by_cases e : g < w.heap.size
    · exact e
    · have : w.heap[g]? = none := Array.getElem?_eq_none (by omega)
      simp [World.cell?, this] at h0
  rw [World.cell?_of_block (w := w) (ht.block g hlt (hs g o cap rfl))]
  exact h0
theorem row_block {w : World} {v : Value} {n : Nat} {xs : List Value} (h : Row w v n xs) (hn : 0 < n) (hl : xs.length = n) {g o cap : Nat} (e : v = .slice (some ⟨g, o, none⟩) n cap) : g < w.heap.size ∧ w.cell? ⟨g, o, none⟩ = some (xs[0]'(by omega)) := by
  obtain ⟨g', o', cap', e', hc⟩ := row_at h hn
  rw [e] at e'
  simp only [Value.slice.injEq, Option.some.injEq, Addr.mk.injEq, and_true, true_and] at e'
  obtain ⟨⟨rfl, rfl⟩, rfl⟩ := e'
  have h0 := hc 0 (xs[0]'(by omega)) (List.getElem?_eq_getElem (by omega))
  refine ⟨?_, h0⟩
  by_cases e : g < w.heap.size
  · exact e
  · have : w.heap[g]? = none := Array.getElem?_eq_none (by omega)
    simp [World.cell?, this] at h0
/-- A row of texts is no store's block, and no map. -/
theorem row_apart {w : World} {v : Value} {ds : List ByteArray} (h : Row w v ds.length (tC ds)) (h0 : 0 < ds.length) {gs most : Nat} {mb : Option Nat} (hb : Blk w gs #[.int .i64 most, .map mb] 68) : ∀ g o cap, v = .slice (some ⟨g, o, none⟩) ds.length cap → g < w.heap.size ∧ g ≠ gs := by
  intro g o cap e
  obtain ⟨h1, h2⟩ := row_block h h0 (tC_len ds) e
  refine ⟨h1, fun e' => ?_⟩
  subst e'
  rw [hb.cell o] at h2
  have ht : (tC ds)[0]'(by rw [tC_len]; exact h0) = .string ds[0] := by unfold tC; rw [List.getElem_map]
  rw [ht] at h2
  rcases o with _ | _ | o
  · simp at h2
  · simp at h2
  · simp at h2
theorem row_no_map {w : World} {v : Value} {n : Nat} {xs : List Value} (h : Row w v n xs) (hn : 0 < n) (hl : xs.length = n) {b : Nat} {es : Array MapEntry} {clock : Nat} (hb : w.heap[b]? = some (.map es clock)) : ∀ g o cap, v = .slice (some ⟨g, o, none⟩) n cap → g ≠ b := by
  intro g o cap e e'
  subst e'
  have := (row_block h hn hl e).2
  simp [World.cell?, hb] at this

/-- How far hold is. -/
structure HX (w0 w : World) (gs most b : Nat) (M : List (En × Value)) (v : Value) (ds : List ByteArray) (mb : Option Nat) : Prop where
  blk : Blk w gs #[.int .i64 most, .map (some b)] 68
  hold : Hold w b M
  src : Row w v ds.length (tC ds)
  pos : 0 < ds.length
  apart : ∀ g o cap, v = .slice (some ⟨g, o, none⟩) ds.length cap → g < w0.heap.size
  turn : Turn (fun k => k = gs ∨ mb = some k) w0 w
  far : w0.heap.size + 2 ≤ w.heap.size
  small : M.length ≤ 256
  oldg : gs < w0.heap.size
  oldd : ∀ p ∈ M, ∀ k, p.2.ownBlock = some k → k < w0.heap.size
  m1 : 1 ≤ most
  m2 : most ≤ 256
  isb : (mb = some b ∧ b < w0.heap.size) ∨ (mb = none ∧ w0.heap.size + 2 ≤ b)
theorem HX.below {w0 w w' : World} {gs most b : Nat} {M : List (En × Value)} {v : Value} {ds : List ByteArray} {mb : Option Nat} (h : HX w0 w gs most b M v ds mb) (hb : Below w.heap.size w w') : HX w0 w' gs most b M v ds mb :=
  ⟨h.blk.below hb, h.hold.turn (Turn.of_below (S := fun _ => False) hb) id (fun _ _ _ _ => id), h.src.below hb, h.pos, h.apart, h.turn.past hb, Nat.le_trans h.far hb.size, h.small, h.oldg, h.oldd, h.m1, h.m2, h.isb⟩
theorem HX.own {w0 w w' : World} {gs most b : Nat} {M : List (En × Value)} {v : Value} {ds : List ByteArray} {mb : Option Nat} {x : Nat} (h : HX w0 w gs most b M v ds mb) (ht : Turn (fun k => k = x) w w') (hx : w0.heap.size ≤ x ∧ x < w0.heap.size + 2) : HX w0 w' gs most b M v ds mb := by
  have h1 := h.oldg
  have h2 : b ≠ x := by rcases h.isb with ⟨_, h⟩ | ⟨_, h⟩ <;> omega
  exact ⟨ht.blk h.blk (by omega), h.hold.turn ht h2 (fun p hp k hk e => by have := h.oldd p hp k hk; omega), h.src.turned h.pos (tC_len ds) ht (fun g o cap e e' => by have := h.apart g o cap e; omega), h.pos, h.apart, h.turn.trans ht (fun i hi => .inr (by omega)), Nat.le_trans h.far ht.size, h.small, h.oldg, h.oldd, h.m1, h.m2, h.isb⟩
theorem HX.put {w0 w w' : World} {gs most b : Nat} {M : List (En × Value)} {v : Value} {ds : List ByteArray} {mb : Option Nat} {p : En × Value} {k : Nat} {D : DataW Hc} (h : HX w0 w gs most b M v ds mb) (ho : w'.ownsMap Try.prog 73 rE b k (D.put (kyL p.1.n p.1.t) (.held (hc p)))) (hm : MapOf D M) (ht : w.drew.mapTurned w' b)
    (hr : w.ownsRow 0 9 1 p.2 p.1.ds.length (tC p.1.ds)) (hp : OkE p.1) (hno : ∀ q ∈ M, sameK p.1.n p.1.t q.1 = false) (hle : M.length + 1 ≤ most) : St w' gs most (some b) (M ++ [p]) ∧ Turn (fun k => k = gs ∨ mb = some k) w0 w' := by
  have ht2 : Turn (fun k => k = b) w w' := (Turn.of_below (S := fun k => k = b) (Below.refl _ _).drew).same (Turn.of_grown ht.grown (fun k e => (Option.some.inj e).symm))
  obtain ⟨es, clock, hb, _⟩ := h.hold.map.choose_spec.choose_spec.1
  refine ⟨⟨ht2.blk h.blk (h.blk.not_map hb), h.m1, h.m2, by simp; omega, .inr ⟨b, rfl, ⟨k, _, ho, mapOf_put hm h.hold.good p hp hno⟩, h.hold.good.snoc hp hno, fun q hq => ?_⟩⟩, h.turn.trans ht2 (fun i hi => ?_)⟩
  · rcases List.mem_append.1 hq with hq | hq
    · exact ht2.row (h.hold.dat q hq) (fun k hk e => row_not_map hb (h.hold.dat q hq) k hk e)
    · simp at hq; subst hq
      exact ht2.row hr (fun k hk e => row_not_map hb hr k hk e)
  · rcases h.isb with ⟨e, _⟩ | ⟨_, e⟩
    · exact .inl (.inr (by rw [e, hi]))
    · exact .inr (by omega)

set_option maxRecDepth 20000 in
set_option maxHeartbeats 2000000 in
theorem hold_any {w : World} {gs most : Nat} {mb : Option Nat} {M : List (En × Value)} (h : St w gs most mb M) (n n0 : ByteArray) (t l r u : Int) (v : Value) (ds : List ByteArray) (hk : OkK n t) (hr : Row w v ds.length (tC ds)) (h0 : 0 < ds.length) (hl : ds.length ≤ 8796093022000) (hs : ∀ d ∈ ds, d.size ≤ 140737488351232)
    (hno : ∀ q ∈ M, sameK n t q.1 = false) (hle : M.length + 1 ≤ most) :
    Calls Try.prog 36 #[.pointer (some ⟨gs, 0, none⟩), .agg #[.string n, .int .i64 t], .agg #[.string n0, .int .i64 t, .int .i64 l, v, .int .i64 r, .int .i64 u]] w fun e w' => ∃ mb' d', e = .returned (.tuple #[]) ∧ St w' gs most mb' (M ++ [(⟨n, t, l, ds, r, u⟩, d')]) ∧ Turn (fun k => k = gs ∨ mb = some k) w w' ∧ (∀ k, mb' = some k → mb = some k ∨ w.heap.size ≤ k) ∧ (∀ k, d'.ownBlock = some k → w.heap.size ≤ k) := by
  obtain ⟨y, c, hv⟩ := row_slice hr
  obtain ⟨N, hN⟩ : ∃ N, N = ds.length := ⟨_, rfl⟩
  have HN : Hid (N = ds.length) := hN
  have HS : Hid (∀ d ∈ ds, d.size ≤ 140737488351232) := hs
  have HNO : Hid (∀ q ∈ M, sameK n t q.1 = false) := hno
  have HLE : Hid (M.length + 1 ≤ most) := hle
  rw [← hN] at hv
  subst hv
  have hN0 : 0 < N := by omega
  have hNl : N ≤ 8796093022000 := by omega
  have hgd := h.at'.good
  have hlt := h.lt
  have hap := row_apart hr h0 h.blk
  have HM1 := h.m1
  have HM2 := h.m2
  have HML := h.len
  clear hs hno hle hN
  cases mb with
  | some b =>
    obtain ⟨Wx, hW⟩ : ∃ W, W = (w.alloc (.cells #[.string n, .int .i64 t] 73)).alloc (.cells #[.string n, .int .i64 t, .int .i64 l, .slice y N c, .int .i64 r, .int .i64 u] 36) := ⟨_, rfl⟩
    have hbW : Below w.heap.size w Wx := by rw [hW]; exact lay (lay (Below.refl _ _) _) _
    have kb : Blk Wx w.heap.size #[.string n, .int .i64 t] 73 := by rw [hW]; exact (Blk.new w _ _).alloc _
    have ke : Blk Wx (w.heap.size + 1) #[.string n, .int .i64 t, .int .i64 l, .slice y N c, .int .i64 r, .int .i64 u] 36 := by rw [hW]; have := Blk.new (w.alloc (.cells #[.string n, .int .i64 t] 73)) #[.string n, .int .i64 t, .int .i64 l, .slice y N c, .int .i64 r, .int .i64 u] 36; simpa using this
    have hWs : Wx.heap.size = w.heap.size + 1 + 1 := by rw [hW]; simp
    have hsx := h.below hbW
    have HXx : Hid (HX w Wx gs most b M (.slice y N c) ds (some b)) := by
      rcases hsx.at' with ⟨e, _⟩ | ⟨b', e, hh⟩
      · cases e
      · cases e
        exact ⟨hsx.blk, hh, hr.below hbW, h0, fun g o cap e => (hap g o cap e).1, Turn.of_below hbW, by omega, by omega, hlt gs (.inl rfl), fun p hp k hk => hlt k (.inr (.inr ⟨p, hp, hk⟩)), HM1, HM2, .inl ⟨rfl, hlt b (.inr (.inl rfl))⟩⟩
    have hnil := map_some b
    have HMB : Hid (∀ k, some b = some k → some b = some k ∨ w.heap.size ≤ k) := fun k e => .inl e
    have c1 : ∀ o o' : Obj, ((w.alloc o).alloc o').cell? ⟨gs, 1, none⟩ = some (.map (some b)) := fun o o' => ((h.blk.alloc o).alloc o').cell 1
    clear h hr h0 hl hlt hap hgd hsx hbW hWs
    have hcp := copyOf_any n t l (.slice y N c) ds Wx (by have := hk.size; omega) HXx.out.src (by rw [← HN.out]; exact hN0) (by rw [← HN.out]; exact hNl) HS.out
    rw [← HN.out] at hcp
    rw [hW] at hcp
    go_enter Try.func36, Try.ntmps36
    go_wp2_with (go_at_call 38; go_must (refine hcp.mono ?_); go_must (rintro e w4 ⟨g, rfl, hown4, hg4, b4⟩); go_must (rw [← hW] at b4 hg4 hown4; have HX4 : Hid (HX w w4 gs most b M (.slice y N c) ds (some b)) := HXx.out.below b4; have ke4 := ke.below b4; have kb4 := kb.below b4; have HO4 : Hid (w4.ownsRow 0 9 1 (.slice (some ⟨g, 0, none⟩) N N) N (tC ds)) := own_base hown4 (Nat.zero_le _); have HG4 : Hid (w.heap.size + 2 ≤ g) := Nat.le_trans HXx.out.far hg4; clear hown4 hg4 b4 HXx ke kb; have e0 := ke4.cell 0; have e1 := ke4.cell 1; have e2 := ke4.cell 2; have e3 := ke4.cell 3; have f0 := ke4.frozen 0; have f1 := ke4.frozen 1; have f2 := ke4.frozen 2; have f3 := ke4.frozen 3; simp only [List.getElem?_toArray, List.getElem?_cons_succ, List.getElem?_cons_zero] at e0 e1 e2 e3))
    obtain ⟨Y, hY⟩ : ∃ Y, Y = ((((w4.setCell ⟨w.heap.size + 1, 0, none⟩ (.string n)).setCell ⟨w.heap.size + 1, 1, none⟩ (.int .i64 t)).setCell ⟨w.heap.size + 1, 2, none⟩ (.int .i64 l)).setCell ⟨w.heap.size + 1, 3, none⟩ (.slice (some ⟨g, 0, none⟩) N N)) := ⟨_, rfl⟩
    rw [← hY]
    have keY : Blk Y (w.heap.size + 1) #[.string n, .int .i64 t, .int .i64 l, .slice (some ⟨g, 0, none⟩) N N, .int .i64 r, .int .i64 u] 36 := by rw [hY]; exact (((ke4.set 0 _).set 1 _).set 2 _).set 3 _
    have tY : Turn (fun k => k = w.heap.size + 1) w4 Y := by
      have T : ∀ (x : World) (i : Nat) (v : Value), Turn (fun k => k = w.heap.size + 1) x (x.setCell ⟨w.heap.size + 1, i, none⟩ v) := fun x i v => Turn.of_set (S := fun k => k = w.heap.size + 1) x (p := ⟨w.heap.size + 1, i, none⟩) rfl v
      rw [hY]
      exact (((T _ _ _).same (T _ _ _)).same (T _ _ _)).same (T _ _ _)
    clear hY e0 e1 e2 e3 f0 f1 f2 f3
    have HXY := HX4.out.own tY (by omega)
    have kbY := tY.blk kb4 (by omega)
    have HOY : Hid (Y.ownsRow 0 9 1 (.slice (some ⟨g, 0, none⟩) N N) N (tC ds)) := tY.row HO4.out (fun k hk e => by simp [Value.ownBlock] at hk; have := HG4.out; omega)
    have hoo := HOY.out
    rw [HN.out] at hoo
    obtain ⟨D, hown, hm⟩ := (HXY.hold).own
    have hown2 : Y.drew.ownsMap Try.prog 73 rE b M.length D := hown.drew
    obtain ⟨Y2, hrun, hown3, hturn⟩ := hown2.store keyE Try.underlying66 (by have := HXY.small; unfold maxLen; omega) (keyOf_e (max_ok hk) (wf_ok hk)) (rE_mk (n, t, l, .slice (some ⟨g, 0, none⟩) N N, r, u))
    unfold kyV hA at hrun
    simp only at hrun
    have HY : Hid (St Y2 gs most (some b) (M ++ [(⟨n, t, l, ds, r, u⟩, .slice (some ⟨g, 0, none⟩) N N)]) ∧ Turn (fun k => k = gs ∨ (some b) = some k) w Y2) := HXY.put hown3 hm hturn (by rw [HN.out]; exact hoo) ⟨hk, by rw [← HN.out]; exact hNl, HS.out⟩ HNO.out HLE.out
    have c1 : Y.cell? ⟨gs, 1, none⟩ = some (.map (some b)) := HXY.blk.cell 1
    have d0 := kbY.cell 0
    have d1 := kbY.cell 1
    have e0 := keY.cell 0
    have e1 := keY.cell 1
    have e2 := keY.cell 2
    have e3 := keY.cell 3
    have e4 := keY.cell 4
    have e5 := keY.cell 5
    simp only [List.getElem?_toArray, List.getElem?_cons_succ, List.getElem?_cons_zero] at d0 d1 e0 e1 e2 e3 e4 e5
    go_region
    go_wp2
    go_end0
    exact ⟨some b, _, rfl, HY.out.1, HY.out.2, fun k e => HMB.out k e, fun k e => by simp [Value.ownBlock] at e; have := HG4.out; omega⟩
  | none =>
    have hM : M = [] := by
      rcases h.at' with ⟨_, e⟩ | ⟨b, e, _⟩
      · exact e
      · cases e
    subst hM
    have hmm := @run_makeMap Try.prog
    have hnil := map_none
    obtain ⟨W0, hW0⟩ : ∃ W, W = ((w.alloc (.cells #[.string n, .int .i64 t] 73)).alloc (.cells #[.string n0, .int .i64 t, .int .i64 l, .slice y N c, .int .i64 r, .int .i64 u] 36)).alloc (.map #[] 0) := ⟨_, rfl⟩
    have hb0 : Below w.heap.size w W0 := by rw [hW0]; exact lay (lay (lay (Below.refl _ _) _) _) _
    have kb0 : Blk W0 w.heap.size #[.string n, .int .i64 t] 73 := by rw [hW0]; exact ((Blk.new w _ _).alloc _).alloc _
    have ke0 : Blk W0 (w.heap.size + 1) #[.string n0, .int .i64 t, .int .i64 l, .slice y N c, .int .i64 r, .int .i64 u] 36 := by rw [hW0]; have := (Blk.new (w.alloc (.cells #[.string n, .int .i64 t] 73)) #[.string n0, .int .i64 t, .int .i64 l, .slice y N c, .int .i64 r, .int .i64 u] 36).alloc (.map #[] 0); simpa using this
    have hmade : W0.ownsMap Try.prog 73 rE (w.heap.size + 1 + 1) 0 (.map []) := by rw [hW0]; have := World.ownsMap_made ((w.alloc (.cells #[.string n, .int .i64 t] 73)).alloc (.cells #[.string n0, .int .i64 t, .int .i64 l, .slice y N c, .int .i64 r, .int .i64 u] 36)) Try.prog 73 rE; simpa using this
    have hgs := hlt gs (.inl rfl)
    have kg0 := h.blk.below hb0
    have hs0 : w.heap.size + 2 < W0.heap.size := by rw [hW0]; simp
    obtain ⟨Wm, hWm⟩ : ∃ W, W = W0.setCell ⟨gs, 1, none⟩ (.map (some (w.heap.size + 1 + 1))) := ⟨_, rfl⟩
    have tm : Turn (fun k => k = gs) W0 Wm := by rw [hWm]; exact Turn.of_set (S := fun k => k = gs) W0 (p := ⟨gs, 1, none⟩) rfl _
    have kgm : Blk Wm gs #[.int .i64 most, .map (some (w.heap.size + 1 + 1))] 68 := by rw [hWm]; exact kg0.set 1 _
    have kbm := tm.blk kb0 (by omega)
    have kem := tm.blk ke0 (by omega)
    have hmm2 := own_turn hmade tm (by omega)
    have hrm : Row Wm (.slice y N c) ds.length (tC ds) := (hr.below hb0).turned h0 (tC_len ds) tm (fun g o cap e e' => (hap g o cap e).2 e')
    have c0 := kg0.cell 1
    have g0 := kg0.frozen 1
    have z0 := kbm.cell 0
    have e0 := kem.cell 0
    have e1 := kem.cell 1
    have e2 := kem.cell 2
    have e3 := kem.cell 3
    have f0 := kem.frozen 0
    simp only [List.getElem?_toArray, List.getElem?_cons_succ, List.getElem?_cons_zero] at c0 z0 e0 e1 e2 e3
    obtain ⟨Wx, hWx⟩ : ∃ W, W = Wm.setCell ⟨w.heap.size + 1, 0, none⟩ (.string n) := ⟨_, rfl⟩
    have tx : Turn (fun k => k = w.heap.size + 1) Wm Wx := by rw [hWx]; exact Turn.of_set (S := fun k => k = w.heap.size + 1) Wm (p := ⟨w.heap.size + 1, 0, none⟩) rfl _
    have kb := tx.blk kbm (by omega)
    have ke : Blk Wx (w.heap.size + 1) #[.string n, .int .i64 t, .int .i64 l, .slice y N c, .int .i64 r, .int .i64 u] 36 := by rw [hWx]; exact kem.set 0 _
    have HXm : HX w Wm gs most (w.heap.size + 1 + 1) [] (.slice y N c) ds none := ⟨kgm, ⟨⟨0, _, hmm2, mapOf_nil⟩, hgd, fun p hp => by simp at hp⟩, hrm, h0, fun g o cap e => (hap g o cap e).1, (Turn.of_below hb0).trans tm (fun i hi => .inl (.inl hi)), by have := tm.size; omega, by simp, hgs, fun p hp => by simp at hp, HM1, HM2, .inr ⟨rfl, by omega⟩⟩
    have HXx : Hid (HX w Wx gs most (w.heap.size + 1 + 1) [] (.slice y N c) ds none) := HXm.own tx ⟨by omega, by omega⟩
    have HMB : Hid (∀ k, some (w.heap.size + 1 + 1) = some k → (none : Option Nat) = some k ∨ w.heap.size ≤ k) := fun k e => .inr (by have := Option.some.inj e; omega)
    have cg : ∀ o o' : Obj, ((w.alloc o).alloc o').cell? ⟨gs, 1, none⟩ = some (.map none) := fun o o' => ((h.blk.alloc o).alloc o').cell 1
    rw [hWm, hW0] at z0 e0 e1 e2 e3 f0
    rw [hW0] at c0 g0
    have hW := hWx
    rw [hWm, hW0] at hW
    generalize hbb : w.heap.size + 1 + 1 = b at HXx HMB
    clear hbb
    clear hWx hWm hW0 hmade hmm2 kg0 kgm kb0 ke0 kbm kem tm tx HXm hrm hb0 h hr h0 hl hlt hap hgd hs0 hgs
    have hcp := copyOf_any n t l (.slice y N c) ds Wx (by have := hk.size; omega) HXx.out.src (by rw [← HN.out]; exact hN0) (by rw [← HN.out]; exact hNl) HS.out
    rw [← HN.out] at hcp
    rw [hW] at hcp
    go_enter Try.func36, Try.ntmps36
    go_wp2_with (go_at_call 38; go_must (refine hcp.mono ?_); go_must (rintro e w4 ⟨g, rfl, hown4, hg4, b4⟩); go_must (rw [← hW] at b4 hg4 hown4; have HX4 : Hid (HX w w4 gs most b [] (.slice y N c) ds none) := HXx.out.below b4; have ke4 := ke.below b4; have kb4 := kb.below b4; have HO4 : Hid (w4.ownsRow 0 9 1 (.slice (some ⟨g, 0, none⟩) N N) N (tC ds)) := own_base hown4 (Nat.zero_le _); have HG4 : Hid (w.heap.size + 2 ≤ g) := Nat.le_trans HXx.out.far hg4; clear hown4 hg4 b4 HXx ke kb; have e0 := ke4.cell 0; have e1 := ke4.cell 1; have e2 := ke4.cell 2; have e3 := ke4.cell 3; have f0 := ke4.frozen 0; have f1 := ke4.frozen 1; have f2 := ke4.frozen 2; have f3 := ke4.frozen 3; simp only [List.getElem?_toArray, List.getElem?_cons_succ, List.getElem?_cons_zero] at e0 e1 e2 e3))
    obtain ⟨Y, hY⟩ : ∃ Y, Y = ((((w4.setCell ⟨w.heap.size + 1, 0, none⟩ (.string n)).setCell ⟨w.heap.size + 1, 1, none⟩ (.int .i64 t)).setCell ⟨w.heap.size + 1, 2, none⟩ (.int .i64 l)).setCell ⟨w.heap.size + 1, 3, none⟩ (.slice (some ⟨g, 0, none⟩) N N)) := ⟨_, rfl⟩
    rw [← hY]
    have keY : Blk Y (w.heap.size + 1) #[.string n, .int .i64 t, .int .i64 l, .slice (some ⟨g, 0, none⟩) N N, .int .i64 r, .int .i64 u] 36 := by rw [hY]; exact (((ke4.set 0 _).set 1 _).set 2 _).set 3 _
    have tY : Turn (fun k => k = w.heap.size + 1) w4 Y := by
      have T : ∀ (x : World) (i : Nat) (v : Value), Turn (fun k => k = w.heap.size + 1) x (x.setCell ⟨w.heap.size + 1, i, none⟩ v) := fun x i v => Turn.of_set (S := fun k => k = w.heap.size + 1) x (p := ⟨w.heap.size + 1, i, none⟩) rfl v
      rw [hY]
      exact (((T _ _ _).same (T _ _ _)).same (T _ _ _)).same (T _ _ _)
    clear hY e0 e1 e2 e3 f0 f1 f2 f3
    have HXY := HX4.out.own tY (by omega)
    have kbY := tY.blk kb4 (by omega)
    have HOY : Hid (Y.ownsRow 0 9 1 (.slice (some ⟨g, 0, none⟩) N N) N (tC ds)) := tY.row HO4.out (fun k hk e => by simp [Value.ownBlock] at hk; have := HG4.out; omega)
    have hoo := HOY.out
    rw [HN.out] at hoo
    obtain ⟨D, hown, hm⟩ := (HXY.hold).own
    have hown2 : Y.drew.ownsMap Try.prog 73 rE b ([] : List (En × Value)).length D := hown.drew
    obtain ⟨Y2, hrun, hown3, hturn⟩ := hown2.store keyE Try.underlying66 (by have := HXY.small; unfold maxLen; omega) (keyOf_e (max_ok hk) (wf_ok hk)) (rE_mk (n, t, l, .slice (some ⟨g, 0, none⟩) N N, r, u))
    unfold kyV hA at hrun
    simp only at hrun
    have HY : Hid (St Y2 gs most (some b) ([] ++ [(⟨n, t, l, ds, r, u⟩, .slice (some ⟨g, 0, none⟩) N N)]) ∧ Turn (fun k => k = gs ∨ none = some k) w Y2) := HXY.put hown3 hm hturn (by rw [HN.out]; exact hoo) ⟨hk, by rw [← HN.out]; exact hNl, HS.out⟩ HNO.out HLE.out
    have c1 : Y.cell? ⟨gs, 1, none⟩ = some (.map (some b)) := HXY.blk.cell 1
    have d0 := kbY.cell 0
    have d1 := kbY.cell 1
    have e0 := keY.cell 0
    have e1 := keY.cell 1
    have e2 := keY.cell 2
    have e3 := keY.cell 3
    have e4 := keY.cell 4
    have e5 := keY.cell 5
    simp only [List.getElem?_toArray, List.getElem?_cons_succ, List.getElem?_cons_zero] at d0 d1 e0 e1 e2 e3 e4 e5
    go_region
    go_wp2
    go_end0
    exact ⟨some b, _, rfl, HY.out.1, HY.out.2, fun k e => HMB.out k e, fun k e => by simp [Value.ownBlock] at e; have := HG4.out; omega⟩

end Go.Proofs.Ytcmhjlflgedcdaa
