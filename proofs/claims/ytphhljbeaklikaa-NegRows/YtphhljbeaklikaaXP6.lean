/- What Compare of the document's answers gives, for every two strings. -/
import Derived.Test.YtphhljbeaklikaaXP5
import Derived.LoopN
import Derived.Test.YtphhljbeaklikaaRows
import Derived.Test.YtphhljbeaklikaaXP1
import Derived.WalkKit
import Derived.WalkMore
import Derived.OwnWalk
import Derived.Deep.LoopGhost
import Derived.Deep.AppendLies
import Derived.Deep.DeepMust
import Derived.Deep.QuietTactic
import Derived.Deep.RegionWith
import Derived.BigQuiet
import Derived.Laws.IdiomStrings
import Derived.Laws.BytesArg
import Derived.Laws.Concat
import Derived.Laws.Bits128
import Derived.WalkSpells
import Derived.Laws.MakeOwn
import Derived.Lib.BufferWrite
import Derived.Lib.UnsafeStr
import Derived.Lib.AppendStr
import Derived.Deep.WholeRow
import Derived.Deep.AppendSrc
import Derived.Deep.Upon
import Derived.Deep.RegionHeld3
import Derived.Deep.RegionLawGrows
import Derived.SizedLaws
import Derived.Test.YtphhljbeaklikaaXP3
import Derived.Maps.OwnSet
import Derived.Maps.OwnOps
import Derived.Maps.RangeWalk
import Derived.DeepKeys4
namespace Go.Proofs.Ytphhljbeaklikaa
open Go.RowKit
open Pl

theorem less_lex : ∀ x y : List UInt8, Op.bytesLess x y = decide (lexG cB x y = -1) := by
  intro x
  induction x with
  | nil =>
    intro y
    cases y with
    | nil => simp [Op.bytesLess, lexG]
    | cons b y => simp [Op.bytesLess, lexG]
  | cons a x ih =>
    intro y
    cases y with
    | nil => simp [Op.bytesLess, lexG]
    | cons b y =>
      rw [Op.bytesLess, ih y, lexG]
      have hl : decide (a < b) = decide (a.toNat < b.toNat) := by rw [Bool.eq_iff_iff]; simp [UInt8.lt_iff_toNat_lt]
      have he : (a == b) = decide (a.toNat = b.toNat) := by rw [Bool.eq_iff_iff]; simp [UInt8.toNat_inj]
      rw [hl, he]
      unfold cB sgn
      rcases Nat.lt_trichotomy a.toNat b.toNat with h | h | h
      · have h1 : (a.toNat : Int) < (b.toNat : Int) := by omega
        have h2 : ¬ a.toNat = b.toNat := by omega
        simp [h, h2]
      · have h1 : ¬ a.toNat < b.toNat := by omega
        have h2 : ¬ b.toNat < a.toNat := by omega
        simp [h]
      · have h1 : ¬ a.toNat < b.toNat := by omega
        have h2 : ¬ a.toNat = b.toNat := by omega
        simp [h, h1, h2]

/-- A row of strings, as a slice and its cells. -/
theorem str_row {w : World} {base n : Nat} {v : Value} {ss : List ByteArray} (h : w.ownsRow base 9 1 v n (ss.map Value.string)) :
    ∃ a c, v = .slice a n c ∧ (n = 0 ∨ ∃ g, a = some ⟨g, 0, none⟩ ∧ ∀ j (hj : j < ss.length), w.cell? ⟨g, j, none⟩ = some (.string ss[j])) := by
  rcases h.2 with ⟨rfl, rfl⟩ | ⟨g, cap, cur, rfl, hb, hg, hnc, hm, hcs, htake⟩
  · exact ⟨none, 0, rfl, .inl rfl⟩
  · refine ⟨_, _, rfl, .inr ⟨g, rfl, fun j hj => ?_⟩⟩
    have hn : ss.length = n := by simpa using h.1
    rw [h.cellAt j (by omega)]
    simp [hj]

theorem cmpK_start (a b : List UInt8) : cmpN a b = lexG (lexG cB) ((fl a).drop 0) ((fl b).drop 0) := rfl

theorem cmpK_step {a b : List UInt8} {ss tt : List ByteArray} {k : Nat} (ha : Strs a ss) (hb : Strs b tt) (h : cmpN a b = lexG (lexG cB) ((fl a).drop k) ((fl b).drop k)) (h1 : k < ss.length) (h2 : k < tt.length) :
    cmpN a b = if lexG cB ss[k].data.toList tt[k].data.toList = 0 then lexG (lexG cB) ((fl a).drop (k + 1)) ((fl b).drop (k + 1)) else lexG cB ss[k].data.toList tt[k].data.toList := by
  unfold Strs at ha hb
  have l1 : (fl a).length = ss.length := by rw [← ha]; simp
  have l2 : (fl b).length = tt.length := by rw [← hb]; simp
  rw [h, lexG_drop ord_ord _ _ k (by omega) (by omega)]
  have e : ∀ (l : List (List UInt8)) (rs : List ByteArray) (i : Nat) (hi : i < l.length) (hj : i < rs.length), rs.map (fun s => s.data.toList) = l → l[i] = rs[i].data.toList := by
    intro l rs i hi hj e; subst e; simp
  rw [e _ _ _ (by omega) h1 ha, e _ _ _ (by omega) h2 hb]

theorem less_as {X Y : ByteArray} {b : Bool} (h : decide (lexG cB X.data.toList Y.data.toList = -1) = b) : Op.bytesLess X.toList Y.toList = b := by
  rw [ByteArray.toList_eq, ByteArray.toList_eq, less_lex]; exact h
theorem gtr_as {X Y : ByteArray} {b : Bool} (h : decide (lexG cB X.data.toList Y.data.toList = 1) = b) : binOp .gtr 9 (.string X) (.string Y) = pure (.bool b) := by
  have e : binOp .gtr 9 (.string X) (.string Y) = pure (.bool !(Op.bytesLess X.toList Y.toList || X.toList == Y.toList)) := by simp [binOp, Op.stringOp]
  rw [e, ← h, ByteArray.toList_eq, ByteArray.toList_eq, less_lex]
  congr 2
  rw [Bool.eq_iff_iff]
  have hz := ord_ord.zero X.data.toList Y.data.toList
  rcases ord_ord.three X.data.toList Y.data.toList with h3 | h3 | h3
  · rw [h3]; simp
  · have := hz.1 h3
    rw [h3]; simp [this]
  · have hne : X.data.toList ≠ Y.data.toList := fun e => by have := hz.2 e; omega
    rw [h3]; simp; exact fun e => hne (by rw [e])

set_option maxRecDepth 20000 in
set_option maxHeartbeats 2000000 in
theorem refCompare_any (a b : ByteArray) (w : World) (ha : a.size ≤ maxLen) (hb : b.size ≤ maxLen) :
    Calls Try.prog 23 #[.string a, .string b] w fun e w' => e = .returned (.int .i64 (cmpN a.data.toList b.data.toList)) ∧ Below w.heap.size w w' := by
  obtain ⟨n, hn⟩ : ∃ n, n = (fl a.data.toList).length := ⟨_, rfl⟩
  obtain ⟨m, hm⟩ : ∃ m, m = (fl b.data.toList).length := ⟨_, rfl⟩
  have HN : Hid (n = (fl a.data.toList).length) := hn
  have HM : Hid (m = (fl b.data.toList).length) := hm
  have hn127 : n ≤ 127 := by
    rw [hn, fl_len]
    cases h : isName a.data.toList with
    | true => exact few h
    | false => rw [labs_none h]; simp
  have hm127 : m ≤ 127 := by
    rw [hm, fl_len]
    cases h : isName b.data.toList with
    | true => exact few h
    | false => rw [labs_none h]; simp
  clear hn hm
  have t1 : True := trivial
  have t2 : True := trivial
  go_enter Try.func23, Try.ntmps23
  go_wp2_with (first
    | (go_at_call 37; have _t := t1; refine (labels_any a _ ha).mono ?_; rintro e w1 ⟨v1, ss, rfl, ho1, hs1, b1⟩; clear t1)
    | (go_at_call 37; have _t := t2; refine (labels_any b _ hb).mono ?_; rintro e w2 ⟨v2, tt, rfl, ho2, hs2, b2⟩; clear t2; rw [← HM.out] at ho2; rw [← HN.out] at ho1; have ho3 := (ho1.kept (w' := w2) (row := none) (by obtain ⟨e1, e2, e3, e4, e5⟩ := b2; exact ⟨e1, e2, e3, e4, fun k hk _ => e5 k hk⟩) (by cases hv : v1.ownBlock <;> simp)); obtain ⟨x1, c1, rfl, hr1⟩ := str_row ho3; obtain ⟨x2, c2, rfl, hr2⟩ := str_row ho2; have hl1 : ss.length = n := (by simpa using ho1.1); have hl2 : tt.length = m := (by simpa using ho2.1); clear ho1 ho2 ho3))
  have HB : Hid (Below w.heap.size w w2) := next b1 b2
  have HS1 : Hid (Strs a.data.toList ss) := hs1
  have HS2 : Hid (Strs b.data.toList tt) := hs2
  have HL1 : Hid (ss.length = n) := hl1
  have HL2 : Hid (tt.length = m) := hl2
  have HEND : Hid (∀ k, (k = n ∨ k = m) → k ≤ n → k ≤ m → cmpN a.data.toList b.data.toList = lexG (lexG cB) ((fl a.data.toList).drop k) ((fl b.data.toList).drop k) → sgn (n : Int) (m : Int) = cmpN a.data.toList b.data.toList) := by
    intro k h1 h2 h3 h4
    rw [h4, lexG_end _ _ k (by rw [← HN.out, ← HM.out]; exact h1) (by rw [← HN.out]; exact h2) (by rw [← HM.out]; exact h3), ← HN.out, ← HM.out]
  clear b1 b2 hs1 hs2 hl1 hl2
  by_cases hz : n = 0 ∨ m = 0
  · have hres := HEND.out 0 (by omega) (by omega) (by omega) (cmpK_start _ _)
    have HRES : Hid (sgn (n : Int) (m : Int) = cmpN a.data.toList b.data.toList) := hres
    have hz2 : decide (0 < n) = false ∨ (decide (0 < n) = true ∧ decide (0 < m) = false) := by
      by_cases h0 : n = 0
      · exact .inl (by simp; omega)
      · exact .inr ⟨by simp; omega, by simp; omega⟩
    clear hres hr1 hr2
    rcases hz2 with e0 | ⟨e0, e3⟩
    all_goals
      refine wp_loop_rounds 1 ?_
      rw [rounds_succ]
      rcases Nat.lt_trichotomy n m with hlt | heq | hgt
      · have hv : Hid ((-1 : Int) = cmpN a.data.toList b.data.toList) := by unfold Hid; rw [← HRES.out]; unfold sgn; rw [if_pos (by omega)]
        have e1 : decide (n < m) = true := by simpa using hlt
        clear hlt
        go_wp2
        go_ret
        exact ⟨ret_int hv.out, HB.out⟩
      · have hv : Hid ((0 : Int) = cmpN a.data.toList b.data.toList) := by unfold Hid; rw [← HRES.out]; unfold sgn; rw [if_neg (by omega), if_neg (by omega)]
        have e1 : decide (n < m) = false := by simp; omega
        have e2 : decide (m < n) = false := by simp; omega
        clear heq
        go_wp2
        go_ret
        exact ⟨ret_int hv.out, HB.out⟩
      · have hv : Hid ((1 : Int) = cmpN a.data.toList b.data.toList) := by unfold Hid; rw [← HRES.out]; unfold sgn; rw [if_neg (by omega), if_pos (by omega)]
        have e1 : decide (n < m) = false := by simp; omega
        have e2 : decide (m < n) = true := by simpa using hgt
        clear hgt
        go_wp2
        go_ret
        exact ⟨ret_int hv.out, HB.out⟩
  · obtain ⟨g1, rfl, hc1⟩ := hr1.resolve_left (by omega)
    obtain ⟨g2, rfl, hc2⟩ := hr2.resolve_left (by omega)
    have HC1 : Hid (∀ j (hj : j < ss.length), w2.cell? ⟨g1, j, none⟩ = some (.string ss[j])) := hc1
    have HC2 : Hid (∀ j (hj : j < tt.length), w2.cell? ⟨g2, j, none⟩ = some (.string tt[j])) := hc2
    clear hr1 hr2 hc1 hc2 hz
    go_loopw [7] (fun i wr => ∃ (k : Nat), k ≤ n ∧ k ≤ m ∧ i = .int .i64 k ∧ Hid (∃ q, wr = w2.drewN q) ∧ Hid (cmpN a.data.toList b.data.toList = lexG (lexG cB) ((fl a.data.toList).drop k) ((fl b.data.toList).drop k))) (fun i _ => n - (intOf i).toNat)
    case atStart => exact ⟨0, Nat.zero_le _, Nat.zero_le _, rfl, ⟨0, rfl⟩, cmpK_start _ _⟩
    case round =>
      obtain ⟨k, hkn, hkm, rfl, hdr, hc⟩ := hrel
      by_cases hkk : k < n ∧ k < m
      · obtain ⟨hk1, hk2⟩ := hkk
        have hks : k < ss.length := by have := HL1.out; omega
        have hkt : k < tt.length := by have := HL2.out; omega
        have hcx : wr.cell? ⟨g1, k, none⟩ = some (.string ss[k]) := by rw [drew_cell hdr.out]; exact HC1.out k hks
        have hcy : wr.cell? ⟨g2, k, none⟩ = some (.string tt[k]) := by rw [drew_cell hdr.out]; exact HC2.out k hkt
        have hst := cmpK_step HS1.out HS2.out hc.out hks hkt
        obtain ⟨X, hX⟩ : ∃ X, X = ss[k] := ⟨_, rfl⟩
        obtain ⟨Y, hY⟩ : ∃ Y, Y = tt[k] := ⟨_, rfl⟩
        rw [← hX] at hcx hst
        rw [← hY] at hcy hst
        have hk1' : (k : Int) < (n : Int) := by omega
        have hk2' : (k : Int) < (m : Int) := by omega
        have e0 : decide (k < n) = true := by simpa using hk1
        have e3 : decide (k < m) = true := by simpa using hk2
        clear hX hY
        rcases ord_ord.three X.data.toList Y.data.toList with h3 | h3 | h3
        · have hv : Hid ((-1 : Int) = cmpN a.data.toList b.data.toList) := by unfold Hid; rw [hst, h3]; simp
          have hl : Op.bytesLess X.toList Y.toList = true := less_as (by rw [h3]; rfl)
          clear hst h3
          go_wp2
          go_quiet (fail)
          go_wp2
          go_ret
          exact ⟨ret_int hv.out, next HB.out (below_drew (drew_more hdr.out))⟩
        · have HX : Hid (cmpN a.data.toList b.data.toList = lexG (lexG cB) ((fl a.data.toList).drop (k + 1)) ((fl b.data.toList).drop (k + 1))) := by unfold Hid; rw [hst, if_pos h3]
          have hl : Op.bytesLess X.toList Y.toList = false := less_as (by rw [h3]; rfl)
          have hg : binOp .gtr 9 (.string X) (.string Y) = pure (.bool false) := gtr_as (by rw [h3]; rfl)
          clear hst h3
          go_wp2
          go_quiet (fail)
          obtain ⟨wq, hwq⟩ : ∃ u : World, u = wr.drewN nq := ⟨_, rfl⟩
          rw [← hwq]
          have hcx' : wq.cell? ⟨g1, k, none⟩ = some (.string X) := by rw [hwq]; exact hcx
          have hcy' : wq.cell? ⟨g2, k, none⟩ = some (.string Y) := by rw [hwq]; exact hcy
          have HDQ : Hid (∃ q, wq = w2.drewN q) := by rw [hwq]; exact drew_more hdr.out
          clear hwq hcx hcy
          go_wp2
          go_quiet (fail)
          go_wp2
          go_roundw
          case rel => exact ⟨k + 1, by omega, by omega, by go_num, drew_more HDQ.out, HX⟩
          case measure => simp [intOf]; omega
        · have hv : Hid ((1 : Int) = cmpN a.data.toList b.data.toList) := by unfold Hid; rw [hst, h3]; simp
          have hl : Op.bytesLess X.toList Y.toList = false := less_as (by rw [h3]; rfl)
          have hg : binOp .gtr 9 (.string X) (.string Y) = pure (.bool true) := gtr_as (by rw [h3]; rfl)
          clear hst h3
          go_wp2
          go_quiet (fail)
          obtain ⟨wq, hwq⟩ : ∃ u : World, u = wr.drewN nq := ⟨_, rfl⟩
          rw [← hwq]
          have hcx' : wq.cell? ⟨g1, k, none⟩ = some (.string X) := by rw [hwq]; exact hcx
          have hcy' : wq.cell? ⟨g2, k, none⟩ = some (.string Y) := by rw [hwq]; exact hcy
          have HDQ : Hid (∃ q, wq = w2.drewN q) := by rw [hwq]; exact drew_more hdr.out
          clear hwq hcx hcy
          go_wp2
          go_quiet (fail)
          go_wp2
          go_ret
          exact ⟨ret_int hv.out, next HB.out (below_drew (drew_more HDQ.out))⟩
      · have hres := HEND.out k (by omega) hkn hkm hc.out
        have HRES : Hid (sgn (n : Int) (m : Int) = cmpN a.data.toList b.data.toList) := hres
        have hz2 : decide (k < n) = false ∨ (decide (k < n) = true ∧ decide (k < m) = false) := by
          by_cases h0 : k < n
          · exact .inr ⟨by simpa using h0, by simp; omega⟩
          · exact .inl (by simp; omega)
        clear hres hkk
        rcases hz2 with e0 | ⟨e0, e3⟩
        all_goals
          rcases Nat.lt_trichotomy n m with hlt | heq | hgt
          · have hv : Hid ((-1 : Int) = cmpN a.data.toList b.data.toList) := by unfold Hid; rw [← HRES.out]; unfold sgn; rw [if_pos (by omega)]
            have e1 : decide (n < m) = true := by simpa using hlt
            clear hlt
            go_wp2
            go_ret
            exact ⟨ret_int hv.out, next HB.out (below_drew hdr.out)⟩
          · have hv : Hid ((0 : Int) = cmpN a.data.toList b.data.toList) := by unfold Hid; rw [← HRES.out]; unfold sgn; rw [if_neg (by omega), if_neg (by omega)]
            have e1 : decide (n < m) = false := by simp; omega
            have e2 : decide (m < n) = false := by simp; omega
            clear heq
            go_wp2
            go_ret
            exact ⟨ret_int hv.out, next HB.out (below_drew hdr.out)⟩
          · have hv : Hid ((1 : Int) = cmpN a.data.toList b.data.toList) := by unfold Hid; rw [← HRES.out]; unfold sgn; rw [if_neg (by omega), if_pos (by omega)]
            have e1 : decide (n < m) = false := by simp; omega
            have e2 : decide (m < n) = true := by simpa using hgt
            clear hgt
            go_wp2
            go_ret
            exact ⟨ret_int hv.out, next HB.out (below_drew hdr.out)⟩

end Go.Proofs.Ytphhljbeaklikaa

/- What U16, U32, Put16 and Put32 of package octet give, for every argument. -/
namespace Go.Proofs.Ytphhljbeaklikaa
open Go.RowKit

/-- The byte of a number that stands at d, a power of 256. -/
def oct (x d : Int) : UInt8 := UInt8.ofNat (x / d % 256).toNat
theorem oct_nat (x d : Int) : ((oct x d).toNat : Int) = x / d % 256 := by
  unfold oct
  have h0 : 0 ≤ x / d % 256 := Int.emod_nonneg _ (by decide)
  have h1 : x / d % 256 < 256 := Int.emod_lt_of_pos _ (by decide)
  rw [UInt8.toNat_ofNat']
  omega

/-- The number of two bytes, of four. -/
def two (a b : UInt8) : Int := 256 * (a.toNat : Int) + (b.toNat : Int)
def four (a b c d : UInt8) : Int := 65536 * two a b + two c d
/-- A number as two bytes, as four. -/
def be2 (x : Int) : ByteArray := ⟨#[oct x 256, oct x 1]⟩
def be4 (x : Int) : ByteArray := ⟨#[oct x 16777216, oct x 65536, oct x 256, oct x 1]⟩

theorem two_be (x : Int) : two (oct x 256) (oct x 1) = x % 65536 := by
  unfold two; rw [oct_nat, oct_nat]; omega
theorem four_be (x : Int) : four (oct x 16777216) (oct x 65536) (oct x 256) (oct x 1) = x % 4294967296 := by
  unfold four two; rw [oct_nat, oct_nat, oct_nat, oct_nat]; omega
theorem two_lt (a b : UInt8) : 0 ≤ two a b ∧ two a b < 65536 := by
  unfold two; have := a.toNat_lt; have := b.toNat_lt; omega


theorem or8 (a b : Nat) (ha : a < 256) (hb : b < 256) : bits .or .u16 ((a : Int) * 256) (b : Int) = 256 * (a : Int) + (b : Int) := by
  have e : ((a : Int) * 256) = ((a * 2 ^ 8 : Nat) : Int) := by omega
  rw [e, u16_or_nat _ _ (by omega) (by omega), Nat.mul_comm, ← Nat.two_pow_add_eq_or_of_lt (by omega)]
  omega
theorem or16 (a b : Nat) (ha : a < 65536) (hb : b < 65536) : bits .or .u32 ((a : Int) * 65536) (b : Int) = 65536 * (a : Int) + (b : Int) := by
  have e : ((a : Int) * 65536) = ((a * 2 ^ 16 : Nat) : Int) := by omega
  rw [e, u32_or_nat _ _ (by omega) (by omega), Nat.mul_comm, ← Nat.two_pow_add_eq_or_of_lt (by omega)]
  omega






theorem ext_at (s : ByteArray) (k j : Nat) (h : k + j < s.size) : (s.extract k s.size)[j]'(by simp; omega) = s[k + j] := by
  show (s.extract k s.size).data[j]'(by have : j < (s.extract k s.size).size := by simp; omega
                                        exact this) = s.data[k + j]'h
  simp only [ByteArray.data_extract, Array.getElem_extract]






theorem cut_from (s : ByteArray) (k : Nat) (h : k ≤ s.size) (u : World) : (Instr.slice 9 (.string s) (some (.int .i64 (k : Int))) none none).run Try.prog u = .ok (.string (s.extract k s.size)) u := by
  have := run_slice_string_l (P := Try.prog) (w := u) (t := 9) (s := s) Try.underlying9 .i64 (k : Int) (by omega) (by omega)
  rw [this]; rfl





end Go.Proofs.Ytphhljbeaklikaa

/- What awake gives: true. -/
namespace Go.Proofs.Ytphhljbeaklikaa
open Go.RowKit



end Go.Proofs.Ytphhljbeaklikaa

/- U16 and U32 at a place where a number was put; masks. -/
namespace Go.Proofs.Ytphhljbeaklikaa
open Go.RowKit

theorem app_list (a b : ByteArray) : (a ++ b).data.toList = a.data.toList ++ b.data.toList := by simp

theorem drop_get {s : ByteArray} {k : Nat} {l : List UInt8} (h : s.data.toList.drop k = l) (j : Nat) (hj : j < l.length) : ∃ h2 : k + j < s.size, s[k + j] = l[j] := by
  have h1 : l.length = s.size - k := by rw [← h, List.length_drop, data_len]
  have h2 : k + j < s.size := by omega
  refine ⟨h2, ?_⟩
  subst h
  rw [List.getElem_drop]
  rfl



theorem mask (n : Int) (j : Nat) (hj : j ≤ 62) : bits .and .i64 n (((2 ^ j - 1 : Nat)) : Int) = n % ((2 ^ j : Nat) : Int) := by
  have h2 : 2 ^ j ≤ 2 ^ 62 := Nat.pow_le_pow_right (by decide) hj
  have h1 : 1 ≤ 2 ^ j := Nat.one_le_two_pow
  have h3 : (BitVec.ofInt 64 (((2 ^ j - 1 : Nat)) : Int)).toNat = 2 ^ j - 1 := by
    rw [BitVec.ofInt_natCast, BitVec.toNat_ofNat]; exact Nat.mod_eq_of_lt (by omega)
  have key : (BitVec.ofInt 64 n &&& BitVec.ofInt 64 (((2 ^ j - 1 : Nat)) : Int)).toNat = (n % ((2 ^ 64 : Nat) : Int)).toNat % 2 ^ j := by
    rw [BitVec.toNat_and, BitVec.toNat_ofInt, h3, Nat.and_two_pow_sub_one_eq_mod]
  show IntKind.i64.wrap ((BitVec.ofInt 64 n &&& BitVec.ofInt 64 (((2 ^ j - 1 : Nat)) : Int)).toNat : Nat) = _
  have hl : (n % ((2 ^ 64 : Nat) : Int)).toNat % 2 ^ j < 2 ^ j := Nat.mod_lt _ h1
  rw [key, IntKind.wrap_i64]
  have e1 : (((n % ((2 ^ 64 : Nat) : Int)).toNat % 2 ^ j : Nat) : Int) = n % ((2 ^ j : Nat) : Int) := by
    rw [Int.natCast_emod, Int.toNat_of_nonneg (Int.emod_nonneg _ (by decide))]
    exact Int.emod_emod_of_dvd _ (Int.natCast_dvd_natCast.2 (Nat.pow_dvd_pow 2 (by omega)))
  omega
theorem mask16 (n : Int) : bits .and .i64 n 65535 = n % 65536 := mask n 16 (by decide)
theorem mask32 (n : Int) : bits .and .i64 n 4294967295 = n % 4294967296 := mask n 32 (by decide)
theorem mask1 (n : Int) : bits .and .i64 n 1 = n % 2 := mask n 1 (by decide)

end Go.Proofs.Ytphhljbeaklikaa

/- What the document's Num and Be give. -/
namespace Go.Proofs.Ytphhljbeaklikaa
open Go.RowKit

/-- The number of n bytes from k on. -/
def val (s : ByteArray) (k : Nat) : Nat → Int
  | 0 => 0
  | i + 1 => val s k i * 256 + ((s.data.toList.getD (k + i) 0).toNat : Int)
theorem val_lt (s : ByteArray) (k : Nat) : ∀ i, 0 ≤ val s k i ∧ val s k i < 256 ^ i := by
  intro i
  induction i with
  | zero => simp [val]
  | succ i ih =>
    have := (s.data.toList.getD (k + i) 0).toNat_lt
    unfold val
    rw [Int.pow_succ]
    omega
theorem val_getD (s : ByteArray) (k : Nat) (h : k < s.size) : s.data.toList.getD k 0 = s[k] := by
  rw [List.getD_eq_getElem?_getD, List.getElem?_eq_getElem (by rw [data_len]; exact h)]
  rfl
theorem val_two (s : ByteArray) (k : Nat) (h : k + 2 ≤ s.size) : val s k 2 = two s[k] s[k + 1] := by
  unfold val val val two
  rw [val_getD s _ (by omega), val_getD s _ (by omega)]
  simp only [Nat.add_zero]
  omega
theorem val_four (s : ByteArray) (k : Nat) (h : k + 4 ≤ s.size) : val s k 4 = four s[k] s[k + 1] s[k + 2] s[k + 3] := by
  unfold val val val val val four two
  rw [val_getD s _ (by omega), val_getD s _ (by omega), val_getD s _ (by omega), val_getD s _ (by omega)]
  simp only [Nat.add_zero]
  omega

theorem wraps_i64 (n : Int) (h₀ : 0 ≤ n) (h₁ : n < 2 ^ 62) : IntKind.i64.wrap n = n := by rw [IntKind.wrap_i64]; omega



end Go.Proofs.Ytphhljbeaklikaa

/- What the document's Be gives. -/
namespace Go.Proofs.Ytphhljbeaklikaa
open Go.RowKit


theorem made_zero (n : Nat) : madeCells #[.int .u8 0] n = ((List.replicate n (0 : UInt8)).map bv).toArray := by
  apply Array.ext
  · simp [madeCells]
  · intro i h1 h2
    simp [madeCells, bv, Nat.mod_one]

/-- The last j bytes of a number of n bytes, zeros ahead of them. -/
def beL (x : Int) (n j : Nat) : List UInt8 := (List.range n).map fun p => if n - j ≤ p then oct x (256 ^ (n - 1 - p)) else 0
theorem beL_len (x : Int) (n j : Nat) : (beL x n j).length = n := by simp [beL]
theorem beL_zero (x : Int) (n : Nat) : beL x n 0 = List.replicate n 0 := by
  apply List.ext_getElem (by simp [beL])
  intro i h1 h2
  have : i < n := by simpa [beL] using h1
  simp only [beL, List.getElem_map, List.getElem_range, List.getElem_replicate]
  rw [if_neg (by omega)]
theorem beL_set (x : Int) (n j q : Nat) (h : q + 1 + j = n) : (beL x n j).set q (oct x (256 ^ j)) = beL x n (j + 1) := by
  apply List.ext_getElem (by simp [beL])
  intro i h1 h2
  have hi : i < n := by simpa [beL] using h2
  rw [List.getElem_set]
  simp only [beL, List.getElem_map, List.getElem_range]
  split
  · rename_i e
    subst e
    rw [if_pos (by omega), show n - 1 - q = j from by omega]
  · by_cases hj : n - j ≤ i
    · rw [if_pos hj, if_pos (by omega)]
    · rw [if_neg hj, if_neg (by omega)]
theorem beL_two (x : Int) : beL x 2 2 = [oct x 256, oct x 1] := by
  simp [beL, List.range_succ]
theorem beL_four (x : Int) : beL x 4 4 = [oct x 16777216, oct x 65536, oct x 256, oct x 1] := by
  simp [beL, List.range_succ]

theorem set_cells (l : List UInt8) (i : Nat) (b : UInt8) : (l.map bv).set i (.int .u8 (b.toNat : Int)) = (l.set i b).map bv := by
  rw [List.map_set]; rfl

theorem wraps_u64 (n : Int) (h₀ : 0 ≤ n) (h₁ : n < 2 ^ 64) : IntKind.u64.wrap n = n := by
  have : IntKind.u64.wrap n = n % 18446744073709551616 := by simp [IntKind.wrap, IntKind.bits, IntKind.signed]
  rw [this]; omega

theorem u64_byte (x u : Int) (j : Nat) (hj : j ≤ 4) (hu : u = x % 18446744073709551616 / 256 ^ j) : bits .and .u64 u 255 = ((oct x (256 ^ j)).toNat : Int) := by
  have hd : j = 0 ∨ j = 1 ∨ j = 2 ∨ j = 3 ∨ j = 4 := by omega
  have h0 : 0 ≤ u ∧ u < 18446744073709551616 := by
    rcases hd with rfl | rfl | rfl | rfl | rfl <;> subst hu <;> omega
  have := bits_mask .u64 64 (by decide) wraps_u64 8 (by decide) u h0.1 (by omega)
  rw [oct_nat]
  have h2 : bits .and .u64 u 255 = u % 256 := by simpa using this
  rw [h2]
  rcases hd with rfl | rfl | rfl | rfl | rfl <;> subst hu <;> omega




end Go.Proofs.Ytphhljbeaklikaa

/- Blocks, rows and what calls leave of them, where the seat has no text of package wire's to take them from. -/
namespace Go.Proofs.Ytphhljbeaklikaa
open Go.RowKit

/-- A block as it was laid. -/
def Blk (w : World) (g : Nat) (C : Array Value) (t : TypeId) : Prop := w.heap[g]? = some (.cells C t (0, 0))
theorem Blk.cell {w : World} {g : Nat} {C : Array Value} {t : TypeId} (h : Blk w g C t) (i : Nat) : w.cell? ⟨g, i, none⟩ = C[i]? := cell_of_row w g i C t _ h
theorem Blk.frozen {w : World} {g : Nat} {C : Array Value} {t : TypeId} (h : Blk w g C t) (i : Nat) : w.frozen? ⟨g, i, none⟩ = false := by
  unfold Blk at h
  simp only [World.frozen?, h]
  simp
theorem Blk.drew {w w' : World} {g : Nat} {C : Array Value} {t : TypeId} (h : Blk w g C t) (hd : ∃ m, w' = w.drewN m) : Blk w' g C t := by
  obtain ⟨m, rfl⟩ := hd; exact h
theorem Blk.lt {w : World} {g : Nat} {C : Array Value} {t : TypeId} (h : Blk w g C t) : g < w.heap.size := (Array.getElem?_eq_some_iff.1 h).1
theorem Blk.below {w w' : World} {g : Nat} {C : Array Value} {t : TypeId} (h : Blk w g C t) (hb : Below w.heap.size w w') : Blk w' g C t := by
  unfold Blk; rw [hb.block g h.lt]; exact h
theorem Blk.alloc {w : World} {g : Nat} {C : Array Value} {t : TypeId} (h : Blk w g C t) (o : Obj) : Blk (w.alloc o) g C t := h.below ((Below.refl _ _).alloc (Nat.le_refl _) o)
theorem Blk.new (w : World) (C : Array Value) (t : TypeId) : Blk (w.alloc (.cells C t)) w.heap.size C t := heap_alloc_new w _
theorem Blk.set {w : World} {g : Nat} {C : Array Value} {t : TypeId} (h : Blk w g C t) (i : Nat) (v : Value) : Blk (w.setCell ⟨g, i, none⟩ v) g (C.setIfInBounds i v) t := heap_setCell_same w g i C t v h
theorem Blk.other {w : World} {g b : Nat} {C : Array Value} {t : TypeId} (h : Blk w g C t) (hb : g ≠ b) (i : Nat) (v : Value) : Blk (w.setCell ⟨b, i, none⟩ v) g C t := by
  unfold Blk; rw [heap_setCell_other w ⟨b, i, none⟩ g v hb]; exact h
/-- A world in which all that w holds lies as it lay. -/
structure Bel (w : World) where
  to : World
  h : Below w.heap.size w to
/-- A region that draws its order, whose calls lay new blocks alone: one walk, in the order of the text. -/
theorem wp_region_bel {P : Program} {id : Nat} {Q : Exit → Act → World → Prop} {a : Act} {w : World} {l : List Oper} (hm : P.follows .mixedOrders = true) (hB : Region.lexB .any l.toArray = true)
    (h : Nonempty (Bel w) → wpQuiet P l.toArray (fun w' => ∃ n : Bel w, w' = n.to) (fun a' => ∀ w', (∃ n : Bel w, w' = n.to) → Q .normal a' w') l a) : (Code.region id l.toArray true).wp P Q a w :=
  wp_region_quiet (C := fun w' => ∃ n : Bel w, w' = n.to) hm hB ⟨⟨_, below_drew ⟨1, rfl⟩⟩, rfl⟩ (h ⟨⟨w, Below.refl _ _⟩⟩)
theorem bel_same {P : Program} {f : FuncId} {args : Array Value} {w : World} {n : Bel w} {v : Value}
    (h : Calls P f args n.to fun e w' => e = .returned v ∧ w' = n.to) : Calls P f args n.to fun e w'' => e = .returned v ∧ ∃ m : Bel w, w'' = m.to :=
  h.mono fun _ _ ⟨he, hm⟩ => ⟨he, n, hm⟩
theorem bel_lays {P : Program} {f : FuncId} {args : Array Value} {w : World} {n : Bel w} {v : Value}
    (h : Calls P f args n.to fun e w' => e = .returned v ∧ Below n.to.heap.size n.to w') : Calls P f args n.to fun e w'' => e = .returned v ∧ ∃ m : Bel w, w'' = m.to :=
  h.mono fun _ w' ⟨he, hm⟩ => ⟨he, ⟨w', next n.h hm⟩, rfl⟩
theorem bel_out {w w' : World} (h : ∃ n : Bel w, w' = n.to) : Below w.heap.size w w' := by
  obtain ⟨n, rfl⟩ := h; exact n.h
theorem Blk.grown {w w' : World} {g : Nat} {C : Array Value} {t : TypeId} {row : Option Nat} (h : Blk w g C t) (hg : w.grownBy w' row) (hne : some g ≠ row) : Blk w' g C t := by
  unfold Blk; rw [hg.block g h.lt hne]; exact h
/-- All that lay in w lies in w' as it lay, but for the blocks of S. -/
structure Turn (S : Nat → Prop) (w w' : World) : Prop where
  os : w'.os = w.os
  tape : w'.tape = w.tape
  output : w'.output = w.output
  size : w.heap.size ≤ w'.heap.size
  block : ∀ k, k < w.heap.size → ¬ S k → w'.heap[k]? = w.heap[k]?
theorem Turn.refl (S : Nat → Prop) (w : World) : Turn S w w := ⟨rfl, rfl, rfl, Nat.le_refl _, fun _ _ _ => rfl⟩
theorem Turn.of_below {S : Nat → Prop} {w w' : World} (h : Below w.heap.size w w') : Turn S w w' := ⟨h.os, h.tape, h.output, h.size, fun k hk _ => h.block k hk⟩
theorem Turn.of_grown {S : Nat → Prop} {w w' : World} {row : Option Nat} (h : w.grownBy w' row) (hr : ∀ k, row = some k → S k) : Turn S w w' :=
  ⟨h.os, h.tape, h.output, h.size, fun k hk hs => h.block k hk (fun e => hs (hr k e.symm))⟩
theorem Turn.of_set {S : Nat → Prop} (w : World) {p : Addr} (hp : S p.block) (v : Value) : Turn S w (w.setCell p v) :=
  ⟨rfl, rfl, rfl, by simp, fun k _ hs => Below.heap_setCell w p v k (fun e => hs (e ▸ hp))⟩
theorem Turn.trans {S S' : Nat → Prop} {a b c : World} (h : Turn S a b) (k : Turn S' b c) (hs : ∀ i, S' i → S i ∨ a.heap.size ≤ i) : Turn S a c :=
  ⟨k.os.trans h.os, k.tape.trans h.tape, k.output.trans h.output, Nat.le_trans h.size k.size, fun i hi hn =>
    (k.block i (Nat.lt_of_lt_of_le hi h.size) (fun e => (hs i e).elim hn (fun g => by omega))).trans (h.block i hi hn)⟩
theorem Turn.below {S : Nat → Prop} {w a b : World} {B : Nat} (hb : Below B w a) (h : Turn S a b) (hB : B ≤ a.heap.size) (hs : ∀ i, S i → B ≤ i) : Below B w b :=
  ⟨h.os.trans hb.os, h.tape.trans hb.tape, h.output.trans hb.output, Nat.le_trans hb.size h.size, fun k hk => (h.block k (by omega) (fun e => by have := hs k e; omega)).trans (hb.block k hk)⟩
theorem Turn.blk {S : Nat → Prop} {w w' : World} {g : Nat} {C : Array Value} {t : TypeId} (h : Turn S w w') (hb : Blk w g C t) (hs : ¬ S g) : Blk w' g C t := by
  unfold Blk; rw [h.block g hb.lt hs]; exact hb
theorem Turn.row {S : Nat → Prop} {w w' : World} {base e z n : Nat} {v : Value} {xs : List Value} (h : Turn S w w') (ho : w.ownsRow base e z v n xs) (hs : ∀ k, v.ownBlock = some k → ¬ S k) : w'.ownsRow base e z v n xs := by
  refine ⟨ho.1, ?_⟩
  rcases ho.2 with h0 | ⟨g, cap, cur, rfl, hb, hg, rest⟩
  · exact .inl h0
  · have hlt := (Array.getElem?_eq_some_iff.1 hg).1
    exact .inr ⟨g, cap, cur, rfl, hb, by rw [h.block g hlt (hs g rfl)]; exact hg, rest⟩
theorem Turn.alloc {S : Nat → Prop} {w a : World} (h : Turn S w a) (o : Obj) : Turn S w (a.alloc o) := h.trans (S' := fun _ => False) (Turn.of_below ((Below.refl _ _).alloc (Nat.le_refl _) o)) (fun _ => False.elim)
theorem Turn.past {S : Nat → Prop} {w a b : World} (h : Turn S w a) (hb : Below a.heap.size a b) : Turn S w b := h.trans (S' := fun _ => False) (Turn.of_below hb) (fun _ => False.elim)
theorem Turn.setNew {S : Nat → Prop} {w a : World} (h : Turn S w a) {k : Nat} (hk : w.heap.size ≤ k) (i : Nat) (v : Value) : Turn S w (a.setCell ⟨k, i, none⟩ v) :=
  h.trans (S' := fun j => j = k) (Turn.of_set (S := fun j => j = k) a (p := ⟨k, i, none⟩) rfl v) (fun _ e => .inr (by rw [e]; exact hk))
theorem Turn.same {S : Nat → Prop} {w a b : World} (h : Turn S w a) (k : Turn S a b) : Turn S w b := h.trans k (fun _ e => .inl e)
theorem Turn.more {S S' : Nat → Prop} {w w' : World} (h : Turn S w w') (hs : ∀ k, S k → S' k) : Turn S' w w' := ⟨h.os, h.tape, h.output, h.size, fun k hk hn => h.block k hk (fun e => hn (hs k e))⟩
theorem row_shape {w : World} {base e z n : Nat} {v : Value} {xs : List Value} (h : w.ownsRow base e z v n xs) : ∃ y c, v = .slice y n c := by
  rcases h.2 with ⟨h1, h2⟩ | ⟨g, cap, cur, h1, _⟩
  · exact ⟨none, 0, by rw [h1, h2]⟩
  · exact ⟨_, _, h1⟩
theorem str_list (s : ByteArray) : Lib.strCells s = s.data.toList.map bv := rfl
/-- A question. -/
structure Qn where
  n : ByteArray
  t : Int
  c : Int
/-- A record. -/
structure Rc where
  n : ByteArray
  t : Int
  c : Int
  l : Int
  d : ByteArray
/-- A header. -/
structure Hd where
  id : Int
  qr : Bool
  op : Int
  aa : Bool
  tc : Bool
  rd : Bool
  ra : Bool
  z : Int
  rc : Int
/-- A message. -/
structure Ms where
  h : Hd
  qs : List Qn
  an : List Rc
  ns : List Rc
  ar : List Rc
theorem arr_list (s : ByteArray) : (⟨s.data.toList.toArray⟩ : ByteArray) = s := by cases s; simp
/-- Questions and records as cells. -/
def qV (q : Qn) : List Value := [.string q.n, .int .i64 q.t, .int .i64 q.c]
def rV (r : Rc) : List Value := [.string r.n, .int .i64 r.t, .int .i64 r.c, .int .i64 r.l, .string r.d]
def qC (qs : List Qn) : List Value := qs.flatMap qV
def rC (rs : List Rc) : List Value := rs.flatMap rV
theorem flat_len {α : Type} {f : α → List Value} {z : Nat} (hz : ∀ x, (f x).length = z) (xs : List α) : (xs.flatMap f).length = xs.length * z := by
  induction xs with
  | nil => simp
  | cons x xs ih => rw [List.flatMap_cons, List.length_append, hz, ih, List.length_cons, Nat.succ_mul]; omega
theorem flat_get {α : Type} {f : α → List Value} {z : Nat} (hz : ∀ x, (f x).length = z) : ∀ (xs : List α) (k : Nat) (hk : k < xs.length) (i : Nat), i < z → (xs.flatMap f)[k * z + i]? = (f xs[k])[i]? := by
  intro xs
  induction xs with
  | nil => intro k hk; simp at hk
  | cons x xs ih =>
    intro k hk i hi
    rw [List.flatMap_cons]
    cases k with
    | zero => rw [Nat.zero_mul, Nat.zero_add, List.getElem?_append_left (by rw [hz]; exact hi)]; rfl
    | succ k =>
      rw [List.getElem?_append_right (by rw [hz, Nat.succ_mul]; omega), hz, show (k + 1) * z + i - z = k * z + i from by rw [Nat.succ_mul]; omega]
      exact ih k (by simpa using hk) i hi
theorem qC_len (qs : List Qn) : (qC qs).length = qs.length * 3 := flat_len (f := qV) (z := 3) (fun _ => rfl) qs
theorem rC_len (rs : List Rc) : (rC rs).length = rs.length * 5 := flat_len (f := rV) (z := 5) (fun _ => rfl) rs
theorem qC_app (a b : List Qn) : qC (a ++ b) = qC a ++ qC b := by simp [qC]
theorem rC_app (a b : List Rc) : rC (a ++ b) = rC a ++ rC b := by simp [rC]
theorem qC_one (a : List Qn) : ∀ u ∈ qC a, u.oneCell' = true := by
  intro u hu
  simp only [qC, List.mem_flatMap] at hu
  obtain ⟨m, _, hu⟩ := hu
  simp [qV] at hu
  rcases hu with rfl | rfl | rfl <;> rfl
theorem rC_one (a : List Rc) : ∀ u ∈ rC a, u.oneCell' = true := by
  intro u hu
  simp only [rC, List.mem_flatMap] at hu
  obtain ⟨m, _, hu⟩ := hu
  simp [rV] at hu
  rcases hu with rfl | rfl | rfl | rfl | rfl <;> rfl
/-- A row that is read: so many elements, their cells. -/
def Row (w : World) (v : Value) (n : Nat) (xs : List Value) : Prop :=
  (v = .slice none 0 0 ∧ n = 0) ∨ ∃ (g o : Nat) (p : Option Nat) (cap : Nat), v = .slice (some ⟨g, o, p⟩) n cap ∧ (0 < n → p = none) ∧ ∀ j u, xs[j]? = some u → w.cell? ⟨g, o + j, none⟩ = some u
theorem Row.below {w w' : World} {v : Value} {n : Nat} {xs : List Value} (h : Row w v n xs) (hb : Below w.heap.size w w') : Row w' v n xs := by
  rcases h with h | ⟨g, o, p, cap, hv, hp, hc⟩
  · exact .inl h
  · exact .inr ⟨g, o, p, cap, hv, hp, fun j u hu => by have h1 := hc j u hu; rw [hb.cell (World.block_lt_of_cell? _ _ h1)]; exact h1⟩
theorem Row.of_own {w : World} {base e z n : Nat} {v : Value} {xs : List Value} (h : w.ownsRow base e z v n xs) : Row w v n xs := by
  rcases h.2 with ⟨h1, h2⟩ | ⟨g, cap, cur, h1, rest⟩
  · exact .inl ⟨h1, h2⟩
  · refine .inr ⟨g, 0, none, cap, h1, fun _ => rfl, fun j u hu => ?_⟩
    have hj : j < n * z := by have := (List.getElem?_eq_some_iff.1 hu).1; rw [← h.1]; exact this
    subst h1
    rw [Nat.zero_add, h.cellAt j hj, hu]
/-- A row of questions, of records: no string is too long. -/
def QRow (w : World) (v : Value) (qs : List Qn) : Prop := Row w v qs.length (qC qs) ∧ qs.length ≤ maxLen ∧ ∀ q ∈ qs, q.n.size ≤ maxLen
def RRow (w : World) (v : Value) (rs : List Rc) : Prop := Row w v rs.length (rC rs) ∧ rs.length ≤ maxLen ∧ ∀ r ∈ rs, r.n.size ≤ maxLen ∧ r.d.size ≤ maxLen
theorem QRow.below {w w' : World} {v : Value} {qs : List Qn} (h : QRow w v qs) (hb : Below w.heap.size w w') : QRow w' v qs := ⟨h.1.below hb, h.2⟩
theorem RRow.below {w w' : World} {v : Value} {rs : List Rc} (h : RRow w v rs) (hb : Below w.heap.size w w') : RRow w' v rs := ⟨h.1.below hb, h.2⟩
theorem row_none {w : World} {v : Value} {xs : List Value} (h : Row w v 0 xs) : ∃ x c, v = .slice x 0 c := by
  rcases h with ⟨h, _⟩ | ⟨g, o, p, cap, h, _⟩
  · exact ⟨_, _, h⟩
  · exact ⟨_, _, h⟩
theorem row_at {w : World} {v : Value} {n : Nat} {xs : List Value} (h : Row w v n xs) (hn : 0 < n) : ∃ g o cap, v = .slice (some ⟨g, o, none⟩) n cap ∧ ∀ j u, xs[j]? = some u → w.cell? ⟨g, o + j, none⟩ = some u := by
  rcases h with ⟨_, h⟩ | ⟨g, o, p, cap, h, hp, hc⟩
  · omega
  · rw [hp hn] at h; exact ⟨g, o, cap, h, hc⟩
theorem row_slice {w : World} {v : Value} {n : Nat} {xs : List Value} (h : Row w v n xs) : ∃ x c, v = .slice x n c := by
  rcases h with ⟨h, rfl⟩ | ⟨g, o, p, cap, h, _⟩
  · exact ⟨_, _, h⟩
  · exact ⟨_, _, h⟩
theorem qC_at {xs : List Qn} {k : Nat} (hk : k < xs.length) (i : Nat) (hi : i < 3) : (qC xs)[k * 3 + i]? = (qV xs[k])[i]? := flat_get (f := qV) (z := 3) (fun _ => rfl) xs k hk i hi
theorem rC_at {xs : List Rc} {k : Nat} (hk : k < xs.length) (i : Nat) (hi : i < 5) : (rC xs)[k * 5 + i]? = (rV xs[k])[i]? := flat_get (f := rV) (z := 5) (fun _ => rfl) xs k hk i hi
/-- The cells of one element. -/
theorem q_cells {w : World} {g o : Nat} {xs : List Qn} (hc : ∀ j u, (qC xs)[j]? = some u → w.cell? ⟨g, o + j, none⟩ = some u) {k : Nat} (hk : k < xs.length) :
    w.cell? ⟨g, o + k * 3, none⟩ = some (.string xs[k].n) ∧ w.cell? ⟨g, o + k * 3 + 1, none⟩ = some (.int .i64 xs[k].t) ∧ w.cell? ⟨g, o + k * 3 + 2, none⟩ = some (.int .i64 xs[k].c) :=
  ⟨hc _ _ (qC_at hk 0 (by decide)), hc _ _ (qC_at hk 1 (by decide)), hc _ _ (qC_at hk 2 (by decide))⟩
theorem r_cells {w : World} {g o : Nat} {xs : List Rc} (hc : ∀ j u, (rC xs)[j]? = some u → w.cell? ⟨g, o + j, none⟩ = some u) {k : Nat} (hk : k < xs.length) :
    w.cell? ⟨g, o + k * 5, none⟩ = some (.string xs[k].n) ∧ w.cell? ⟨g, o + k * 5 + 1, none⟩ = some (.int .i64 xs[k].t) ∧ w.cell? ⟨g, o + k * 5 + 2, none⟩ = some (.int .i64 xs[k].c) ∧ w.cell? ⟨g, o + k * 5 + 3, none⟩ = some (.int .i64 xs[k].l) ∧ w.cell? ⟨g, o + k * 5 + 4, none⟩ = some (.string xs[k].d) :=
  ⟨hc _ _ (rC_at hk 0 (by decide)), hc _ _ (rC_at hk 1 (by decide)), hc _ _ (rC_at hk 2 (by decide)), hc _ _ (rC_at hk 3 (by decide)), hc _ _ (rC_at hk 4 (by decide))⟩
/-- A message as values. -/
def msgC (h : Hd) (v0 v1 v2 v3 : Value) : Array Value := #[.int .i64 h.id, .bool h.qr, .int .i64 h.op, .bool h.aa, .bool h.tc, .bool h.rd, .bool h.ra, .int .i64 h.z, .int .i64 h.rc, v0, v1, v2, v3]
/-- No message. -/
def hdZ : Hd := ⟨0, false, 0, false, false, false, false, 0, 0⟩
def msZ : Ms := ⟨hdZ, [], [], [], []⟩
theorem own_base {w : World} {B B' e z n : Nat} {v : Value} {xs : List Value} (h : w.ownsRow B e z v n xs) (hB : B' ≤ B) : w.ownsRow B' e z v n xs := by
  refine ⟨h.1, ?_⟩
  rcases h.2 with h1 | ⟨g, cap, cur, h1, h2, rest⟩
  · exact .inl h1
  · exact .inr ⟨g, cap, cur, h1, Nat.le_trans hB h2, rest⟩
theorem own_past {w w' : World} {B e z n : Nat} {v : Value} {xs : List Value} (h : w.ownsRow B e z v n xs) (hb : Below w.heap.size w w') : w'.ownsRow B e z v n xs := Turn.row (S := fun _ => False) (Turn.of_below hb) h (fun _ _ => id)
/-- A row that was laid as it is. -/
theorem Row.of_blk {w : World} {g : Nat} {C : Array Value} {t : TypeId} (h : Blk w g C t) {xs : List Value} (hx : C.toList = xs) (n cap : Nat) : Row w (.slice (some ⟨g, 0, none⟩) n cap) n xs := by
  refine .inr ⟨g, 0, none, cap, rfl, fun _ => rfl, fun j u hu => ?_⟩
  rw [Nat.zero_add, h.cell j, ← hu, ← hx]; simp
theorem Row.nil (w : World) (xs : List Value) : Row w (.slice none 0 0) 0 xs := .inl ⟨rfl, rfl⟩
theorem QRow.nil (w : World) : QRow w (.slice none 0 0) [] := ⟨Row.nil _ _, by decide, fun q h => by simp at h⟩
theorem RRow.nil (w : World) : RRow w (.slice none 0 0) [] := ⟨Row.nil _ _, by decide, fun q h => by simp at h⟩
theorem small100 {n : Nat} (h : n ≤ 100000) : n ≤ maxLen := by unfold maxLen; omega
theorem toArr_size (l : List UInt8) : (⟨l.toArray⟩ : ByteArray).size = l.length := by show l.toArray.size = _; simp
/-- Bytes of nought. -/
def zerosB (n : Nat) : ByteArray := ⟨(List.replicate n (0 : UInt8)).toArray⟩
theorem zerosB_size (n : Nat) : (zerosB n).size = n := by unfold zerosB; rw [toArr_size]; simp
/-- The cells at place f of each element are numbers. -/
def Ints (xs : List Value) (z f n : Nat) : Prop := ∀ j, j < n → ∃ t, xs[j * z + f]? = some (.int .i64 t)
theorem Ints.set {xs : List Value} {z f n : Nat} (h : Ints xs z f n) (i : Nat) (x : Int) : Ints (xs.set i (.int .i64 x)) z f n := by
  intro j hj
  obtain ⟨t, ht⟩ := h j hj
  by_cases e : i = j * z + f
  · subst e
    exact ⟨x, List.getElem?_set_self (List.getElem?_eq_some_iff.1 ht).1⟩
  · exact ⟨t, by rw [List.getElem?_set_ne e]; exact ht⟩
theorem own_len {w : World} {B e z n n0 k0 : Nat} {y : Option Addr} {xs : List Value} (h : w.ownsRow B e z (.slice y n0 k0) n xs) : n0 = n := by
  rcases h.2 with ⟨h1, h2⟩ | ⟨g, cap, cur, h1, _⟩
  · simp at h1; omega
  · simp at h1; exact h1.2.1
theorem own_apart {w : World} {B B' e e' z z' n n' : Nat} {v v' : Value} {xs xs' : List Value} (h : w.ownsRow B e z v n xs) (h' : w.ownsRow B' e' z' v' n' xs') (he : e ≠ e') {k : Nat} (hk : v.ownBlock = some k) : v'.ownBlock ≠ some k := by
  intro hk'
  rcases h.2 with ⟨h1, _⟩ | ⟨g, cap, cur, h1, _, hg, _⟩
  · rw [h1] at hk; simp [Value.ownBlock] at hk
  · rcases h'.2 with ⟨h2, _⟩ | ⟨g', cap', cur', h2, _, hg', _⟩
    · rw [h2] at hk'; simp [Value.ownBlock] at hk'
    · rw [h1] at hk
      rw [h2] at hk'
      simp [Value.ownBlock] at hk hk'
      subst hk hk'
      rw [hg] at hg'
      simp at hg'
      exact he hg'.2
theorem ext_to (s : ByteArray) (i : Nat) : (s.extract 0 i).data.toList = s.data.toList.take i := by rw [ext_list]; simp
theorem cut_to (s : ByteArray) (k : Nat) (c : Int) (hc : c = (k : Int)) (h : k ≤ s.size) (u : World) : (Instr.slice 9 (.string s) none (some (.int .i64 c)) none).run Try.prog u = .ok (.string (s.extract 0 k)) u := by
  subst hc
  have := run_slice_string_h (P := Try.prog) (w := u) (t := 9) (s := s) Try.underlying9 .i64 (k : Int) (by omega) (by omega)
  rw [this]; rfl
theorem int_cells : Try.prog.cellsOf 3 = 1 := by kernel_rfl
theorem bool_cells : Try.prog.cellsOf 4 = 1 := by kernel_rfl
/-- What is left where no message is given. -/
theorem blk13 {w : World} {g : Nat} {h : Hd} {v0 v1 v2 v3 : Value} {t : TypeId} (k : Blk w g (msgC h v0 v1 v2 v3) t) :
    w.cell? ⟨g, 0, none⟩ = some (.int .i64 h.id) ∧ w.cell? ⟨g, 1, none⟩ = some (.bool h.qr) ∧ w.cell? ⟨g, 2, none⟩ = some (.int .i64 h.op) ∧ w.cell? ⟨g, 3, none⟩ = some (.bool h.aa) ∧ w.cell? ⟨g, 4, none⟩ = some (.bool h.tc) ∧ w.cell? ⟨g, 5, none⟩ = some (.bool h.rd) ∧ w.cell? ⟨g, 6, none⟩ = some (.bool h.ra) ∧ w.cell? ⟨g, 7, none⟩ = some (.int .i64 h.z) ∧ w.cell? ⟨g, 8, none⟩ = some (.int .i64 h.rc) ∧
    w.cell? ⟨g, 9, none⟩ = some v0 ∧ w.cell? ⟨g, 10, none⟩ = some v1 ∧ w.cell? ⟨g, 11, none⟩ = some v2 ∧ w.cell? ⟨g, 12, none⟩ = some v3 :=
  ⟨k.cell 0, k.cell 1, k.cell 2, k.cell 3, k.cell 4, k.cell 5, k.cell 6, k.cell 7, k.cell 8, k.cell 9, k.cell 10, k.cell 11, k.cell 12⟩
theorem open13 {w : World} {g : Nat} {C : Array Value} {t : TypeId} (k : Blk w g C t) :
    w.frozen? ⟨g, 0, none⟩ = false ∧ w.frozen? ⟨g, 1, none⟩ = false ∧ w.frozen? ⟨g, 2, none⟩ = false ∧ w.frozen? ⟨g, 3, none⟩ = false ∧ w.frozen? ⟨g, 4, none⟩ = false ∧ w.frozen? ⟨g, 5, none⟩ = false ∧ w.frozen? ⟨g, 6, none⟩ = false ∧ w.frozen? ⟨g, 7, none⟩ = false ∧ w.frozen? ⟨g, 8, none⟩ = false ∧ w.frozen? ⟨g, 9, none⟩ = false ∧ w.frozen? ⟨g, 10, none⟩ = false ∧ w.frozen? ⟨g, 11, none⟩ = false ∧ w.frozen? ⟨g, 12, none⟩ = false :=
  ⟨k.frozen 0, k.frozen 1, k.frozen 2, k.frozen 3, k.frozen 4, k.frozen 5, k.frozen 6, k.frozen 7, k.frozen 8, k.frozen 9, k.frozen 10, k.frozen 11, k.frozen 12⟩

end Go.Proofs.Ytphhljbeaklikaa

/- Rows that are appended to each other; a region that draws its order; copies of strings. -/
namespace Go.Proofs.Ytphhljbeaklikaa
open Go.RowKit

/-- What an append reads of. -/
theorem Row.src {w : World} {v : Value} {n : Nat} {xs : List Value} (h : Row w v n xs) : ∃ x0 c, v = .slice x0 n c ∧ (n = 0 ∨ ∃ ad, x0 = some ad ∧ ∀ j u, xs[j]? = some u → w.cell? (ad.add j) = some u) := by
  by_cases hn : n = 0
  · subst hn
    obtain ⟨x, c, hv⟩ := row_none h
    exact ⟨x, c, hv, .inl rfl⟩
  · obtain ⟨g, o, cap, hv, hc⟩ := row_at h (by omega)
    refine ⟨_, _, hv, .inr ⟨_, rfl, fun j u hu => ?_⟩⟩
    have : (⟨g, o, none⟩ : Addr).add j = ⟨g, o + j, none⟩ := by unfold Addr.add; split <;> simp_all
    rw [this]
    exact hc j u hu
/-- How many have not come up. -/
def unl (l : List Bool) : Nat := (l.filter (fun b => !b)).length
theorem unl_set : ∀ (l : List Bool) (i : Nat), l[i]? = some false → unl (l.set i true) + 1 = unl l := by
  intro l
  induction l with
  | nil => intro i h; simp at h
  | cons b l ih =>
    intro i h
    cases i with
    | zero =>
      simp at h
      subst h
      simp [unl]
    | succ i =>
      have := ih i (by simpa using h)
      unfold unl at this ⊢
      cases b <;> simp [List.set_cons_succ] <;> simpa using this
theorem getD_false {l : Array Bool} {i : Nat} (h : l.getD i true = false) : l.toList[i]? = some false := by
  rw [Array.getD_eq_getD_getElem?] at h
  rw [Array.getElem?_toList]
  cases e : l[i]? with
  | none => rw [e] at h; simp at h
  | some b => rw [e] at h; simp at h; rw [h]
section
variable {P : Program} {md : Region.Mode} {ops : Array Oper} {Q : Exit → Act → World → Prop} {S : World → Prop}
/-- A region that draws its order: what holds behind each operation, whichever comes up. -/
theorem wpAnyH_inv (J : Array Bool → Act → World → Prop) (hS : ∀ l a w, J l a w → S w)
    (hstep : ∀ l a w, J l a w → ∀ i, l.getD i true = false → ∀ o, ops[i]? = some o → (∀ e ∈ o.after, Region.binds md e = true → l.getD e.on false = true) →
      ∀ K : Act → World → Prop, (∀ a' w', J (l.setIfInBounds i true) a' w' → K a' w') → if Region.wanted o (yielded ops a.tmps) = true then Oper.wp P o a w K Q else K (a.put o.dst undef) w)
    (hend : ∀ l a w, J l a w → Region.ready md ops l = [] → Q .normal a w) :
    ∀ fuel l a w, unl l.toList ≤ fuel → J l a w → wpAnyH P md ops Q S fuel l a w := by
  intro fuel
  induction fuel with
  | zero =>
    intro l a w hf hJ
    have hr : Region.ready md ops l = [] := by
      apply List.eq_nil_iff_forall_not_mem.2
      intro i hi
      have h1 := unl_set _ _ (getD_false (mem_ready.1 hi).1)
      omega
    exact ⟨hr, hend l a w hJ hr⟩
  | succ fuel ih =>
    intro l a w hf hJ
    refine ⟨hend l a w hJ, fun i hi => ?_⟩
    obtain ⟨hun, o, ho, hall⟩ := mem_ready.1 hi
    refine wpOp_step ho fun K hK => hstep l a w hJ i hun o ho hall K fun a' w' hJ' => hK a' w' ⟨hS _ _ _ hJ', ih _ a' w' ?_ hJ'⟩
    have h1 := unl_set _ _ (getD_false hun)
    rw [Array.toList_setIfInBounds]
    omega
end
theorem ready_nil {md : Region.Mode} {ops : Array Oper} {l : Array Bool} (htop : (List.range ops.size).all (fun i => ((ops[i]?).map (fun o => o.after.all (fun e => decide (e.on < i)))).getD true) = true) (hsz : l.size = ops.size) (hr : Region.ready md ops l = []) : ∀ i, l.getD i true = true := by
  intro i
  induction i using Nat.strongRecOn with
  | _ i ih =>
    cases hi : l.getD i true with
    | true => rfl
    | false =>
      have hlt : i < l.size := by
        rcases Nat.lt_or_ge i l.size with h | h
        · exact h
        · rw [Array.getD_eq_getD_getElem?, Array.getElem?_eq_none h] at hi
          simp at hi
      have ho : ops[i]? = some ops[i] := Array.getElem?_eq_getElem (by omega)
      have ht := List.all_eq_true.1 htop i (List.mem_range.2 (by omega))
      rw [ho] at ht
      simp only [Option.map_some, Option.getD_some, Array.all_eq_true_iff_forall_mem, decide_eq_true_eq] at ht
      have hm : i ∈ Region.ready md ops l := mem_ready.2 ⟨hi, _, ho, fun e he _ => by
        have h1 := ih e.on (ht e he)
        have h2 : e.on < l.size := by have := ht e he; omega
        rw [Array.getD_eq_getD_getElem?, Array.getElem?_eq_getElem h2] at h1 ⊢
        simpa using h1⟩
      rw [hr] at hm
      cases hm
/-- A row that a copy has: an empty one, or one that the call owns. -/
def CRow (B : Nat) (w : World) (e z : Nat) (v : Value) (n : Nat) (xs : List Value) : Prop := (n = 0 ∧ xs = [] ∧ ∃ g, v = .slice (some g) 0 0) ∨ w.ownsRow B e z v n xs
theorem CRow.below {B : Nat} {w w' : World} {e z : Nat} {v : Value} {n : Nat} {xs : List Value} (h : CRow B w e z v n xs) (hb : Below w.heap.size w w') : CRow B w' e z v n xs := h.imp id (fun o => own_past o hb)
theorem CRow.turn {B g : Nat} {w w' : World} {e z : Nat} {v : Value} {n : Nat} {xs : List Value} (h : CRow B w e z v n xs) (ht : Turn (fun k => k = g) w w') (hg : g < B) : CRow B w' e z v n xs := h.imp id (fun o => ht.row o (fun k hk e => by have := (o.lt k hk).1; omega))
theorem CRow.row {B : Nat} {w : World} {e z : Nat} {v : Value} {n : Nat} {xs : List Value} (h : CRow B w e z v n xs) : Row w v n xs := by
  rcases h with ⟨rfl, rfl, g, rfl⟩ | h
  · exact .inr ⟨g.block, g.off, g.spot, 0, rfl, fun h => by omega, fun j u hu => by simp at hu⟩
  · exact Row.of_own h
theorem grown_below {w w' : World} (h : w.grownBy w' none) : Below w.heap.size w w' := (Below.refl _ _).grown h (Nat.le_refl _) (fun _ e => by simp at e)
/-- A row is appended to an empty one without room. -/
theorem step_copy {P : Program} {ops : Array Oper} {o : Oper} {a : Act} {w : World} {K : Act → World → Prop} {Q : Exit → Act → World → Prop} {E : Prop}
    (hgd : o.guard = none) (s x : Operand) (t : TypeId) (ho : o.op = Op.call { callee := Callee.builtin Builtin.append, args := #[s, x], argTypes := #[t, t] })
    (B : Nat) (e : TypeId) (i : TypeInfo) (z : Value) (size bytes : Nat) (h1 : P.underlying t = some (.slice e)) (h2 : P.info? e = some i) (h3 : i.zero = some z) (h4 : i.size = size) (h5 : i.bytes = bytes) (h6 : z.cells.size = size) (h7 : 0 < size)
    (g : Addr) (hs : a.eval s = .slice (some g) 0 0) (v : Value) (n : Nat) (xs : List Value) (hx : a.eval x = v) (hrow : Row w v n xs) (hl : xs.length = n * size) (h1c : ∀ u ∈ xs, u.oneCell' = true) (hb : n * bytes ≤ 140737488355328) (hm : n ≤ maxLen) (hB : B ≤ w.heap.size)
    (hK : ∀ v' w', CRow B w' e size v' n xs → Below w.heap.size w w' → K (a.put o.dst v') w') :
    if Region.wanted o (yielded ops a.tmps) = true then Oper.wp P o a w K Q else E := by
  obtain ⟨x0, c, rfl, hc⟩ := hrow.src
  by_cases hn : n = 0
  · subst hn
    have hxs : xs = [] := List.eq_nil_of_length_eq_zero (by simpa using hl)
    subst hxs
    have hw : Region.wanted o (yielded ops a.tmps) = true := by simp [Region.wanted, hgd]
    rw [if_pos hw]
    have hsrc : Src P i.size t (.slice x0 0 c) 0 [] w := by
      cases x0 with
      | none => exact Src.ofNil w h1 c
      | some ad => exact Src.ofSlice w h1 ad 0 c [] (by simp) (fun j u hu => by simp at hu) (fun u hu => by cases hu)
    have hrun := run_append_nothing (P := P) w t t o.type e i h1 h2 (some g) 0 0 (Nat.le_refl _) _ hsrc
    unfold Oper.wp
    simp only [execOp, ho, resolve, invoke, builtin, Sem.run_bind, Sem.run_pure, Result.andThen_ok, List.map_toArray, List.map_cons, List.map_nil, hs, hx, hrun]
    exact hK _ w (.inl ⟨rfl, rfl, g, rfl⟩) (Below.refl _ _)
  · rcases hc with h0 | ⟨ad, rfl, hcell⟩
    · exact absurd h0 hn
    refine step_append_grows hgd s x t ho e i z size bytes h1 h2 h3 h4 h5 h6 h7 (some g) 0 0 [] hs (fun e => by cases e) (by simp) (fun b _ j u hu => by simp at hu) ad n c xs hx hl hcell h1c (by omega) (by omega) (by rw [Nat.zero_add]; exact hb) (fun v' w' ow gr => ?_)
    rw [Nat.zero_add, List.nil_append] at ow
    exact hK v' w' (.inr (own_base ow hB)) (grown_below gr)
/-- So many bytes of nought are made, and become a string. -/
theorem madeN (n : Nat) (hn : n ≤ 100000) : ∃ Zc : Array Value, (∀ u : World, (Instr.makeSlice 51 (.int .i64 (n : Int)) (.int .i64 (n : Int))).run Try.prog u = .ok (.slice (some ⟨u.heap.size, 0, none⟩) n n) (u.alloc (.cells Zc 5))) ∧
    ∀ (u : World), (convert 51 9 (.slice (some ⟨u.heap.size, 0, none⟩) n n)).run Try.prog (u.alloc (.cells Zc 5)) = .ok (.string (zerosB n)) (u.alloc (.cells Zc 5)) := by
  obtain ⟨i0, hi, hz0, hz1, hz2⟩ := info_parts info5
  refine ⟨((List.replicate n (0 : UInt8)).map bv).toArray, fun u => ?_, fun u => ?_⟩
  · have := run_make (P := Try.prog) u 51 5 i0 (.int .u8 0) Try.underlying51 hi hz0 .i64 .i64 (n : Int) (n : Int) (by omega) (by omega) (by rw [hz2]; omega) (by omega)
    rw [hz1, show (Value.int .u8 0).cells = #[.int .u8 0] from rfl, Nat.mul_one, Int.toNat_natCast, made_zero] at this
    exact this
  · have := conv_lit (List.replicate n 0) u
    rw [List.length_replicate] at this
    exact this

/-- Elements are appended to a row that the call owns, out of a row that lies anywhere; there may be none. -/
theorem wpList_appG (w : World) {ops : Array Oper} {rest : List Oper} {o : Oper} {a : Act} {Q : Exit → Act → World → Prop} (hgd : o.guard = none) (s x : Operand) (t e : TypeId) (i : TypeInfo) (z : Value) (size bytes : Nat)
    (h1 : Try.prog.underlying t = some (.slice e)) (h2 : Try.prog.info? e = some i) (h3 : i.zero = some z) (h4 : i.size = size) (h5 : i.bytes = bytes) (h6 : z.cells.size = size) (h7 : 0 < size)
    (ho : o.op = .call { callee := .builtin .append, args := #[s, x], argTypes := #[t, t] }) (base : Nat) (v : Value) (n : Nat) (xs : List Value) (hs : a.eval s = v) (hown : w.ownsRow base e size v n xs)
    (u : Value) (m : Nat) (ys : List Value) (hx : a.eval x = u) (hrow : Row w u m ys) (hl : ys.length = m * size) (h1c : ∀ y ∈ ys, y.oneCell' = true) (hb : (n + m) * bytes ≤ 140737488355328) (hm : n + m ≤ maxLen) (hbase : base ≤ w.heap.size)
    (h : ∀ v' w', w'.ownsRow base e size v' (n + m) (xs ++ ys) → w.grownBy w' v.ownBlock → (∀ k, v'.ownBlock = some k → v.ownBlock = some k ∨ w.heap.size ≤ k) → wpList Try.prog ops Q rest (a.put o.dst v') w') :
    wpList Try.prog ops Q (o :: rest) a w := by
  obtain ⟨x0, c, rfl, hc⟩ := hrow.src
  by_cases hm0 : m = 0
  · subst hm0
    have hys : ys = [] := List.eq_nil_of_length_eq_zero (by simpa using hl)
    subst hys
    refine wpList_plain hgd fun K hK => ?_
    have hsrc : Src Try.prog i.size t (.slice x0 0 c) 0 [] w := by
      cases x0 with
      | none => exact Src.ofNil w h1 c
      | some ad => exact Src.ofSlice w h1 ad 0 c [] (by simp) (fun j u hu => by simp at hu) (fun u hu => by cases hu)
    have hv : ∃ b l k, v = .slice b l k ∧ l ≤ k := by
      rcases hown.2 with ⟨rfl, rfl⟩ | ⟨g, cap, cur, rfl, _, _, hnc, _⟩
      · exact ⟨_, _, _, rfl, Nat.le_refl _⟩
      · exact ⟨_, _, _, rfl, hnc⟩
    obtain ⟨b, l, k, hv, hlk⟩ := hv
    have hrun := run_append_nothing (P := Try.prog) w t t o.type e i h1 h2 b l k hlk _ hsrc
    rw [← hv] at hrun
    unfold Oper.wp
    simp only [execOp, ho, resolve, invoke, builtin, Sem.run_bind, Sem.run_pure, Result.andThen_ok, List.map_toArray, List.map_cons, List.map_nil, hs, hx, hrun]
    exact hK _ _ (h v w (by simpa using hown) (World.grownBy.refl w _) (fun k hk => .inl hk))
  · rcases hc with h0 | ⟨ad, rfl, hcell⟩
    · exact absurd h0 hm0
    refine wpList_append_lies w hgd s x t ho base e i z size bytes h1 h2 h3 h4 h5 h6 h7 v n xs hs hown ad m c ys hx hl hcell h1c (by omega) hm (by omega) hbase _ rfl ?_
    intro g cap w' g1 g2 g3 g4
    refine h _ w' g1 g2 (fun k hk => ?_)
    rcases g3 with g3 | g3
    · exact .inl (by rw [g3]; exact hk)
    · have : k = g := by simp [Value.ownBlock] at hk; exact hk.symm
      exact .inr (by omega)

/-- The same in a region that draws its order. -/
theorem step_appG (w : World) {ops : Array Oper} {o : Oper} {a : Act} {K : Act → World → Prop} {Q : Exit → Act → World → Prop} {E : Prop} (hgd : o.guard = none) (s x : Operand) (t e : TypeId) (i : TypeInfo) (z : Value) (size bytes : Nat)
    (h1 : Try.prog.underlying t = some (.slice e)) (h2 : Try.prog.info? e = some i) (h3 : i.zero = some z) (h4 : i.size = size) (h5 : i.bytes = bytes) (h6 : z.cells.size = size) (h7 : 0 < size)
    (ho : o.op = .call { callee := .builtin .append, args := #[s, x], argTypes := #[t, t] }) (base : Nat) (v : Value) (n : Nat) (xs : List Value) (hs : a.eval s = v) (hown : w.ownsRow base e size v n xs)
    (u : Value) (m : Nat) (ys : List Value) (hx : a.eval x = u) (hrow : Row w u m ys) (hl : ys.length = m * size) (h1c : ∀ y ∈ ys, y.oneCell' = true) (hb : (n + m) * bytes ≤ 140737488355328) (hm : n + m ≤ maxLen) (hbase : base ≤ w.heap.size)
    (h : ∀ v' w', w'.ownsRow base e size v' (n + m) (xs ++ ys) → w.grownBy w' v.ownBlock → (∀ k, v'.ownBlock = some k → v.ownBlock = some k ∨ w.heap.size ≤ k) → K (a.put o.dst v') w') :
    if Region.wanted o (yielded ops a.tmps) = true then Oper.wp Try.prog o a w K Q else E := by
  have hw : Region.wanted o (yielded ops a.tmps) = true := by simp [Region.wanted, hgd]
  obtain ⟨x0, c, rfl, hc⟩ := hrow.src
  by_cases hm0 : m = 0
  · rw [if_pos hw]
    subst hm0
    have hys : ys = [] := List.eq_nil_of_length_eq_zero (by simpa using hl)
    subst hys
    have hsrc : Src Try.prog i.size t (.slice x0 0 c) 0 [] w := by
      cases x0 with
      | none => exact Src.ofNil w h1 c
      | some ad => exact Src.ofSlice w h1 ad 0 c [] (by simp) (fun j u hu => by simp at hu) (fun u hu => by cases hu)
    have hv : ∃ b l k, v = .slice b l k ∧ l ≤ k := by
      rcases hown.2 with ⟨rfl, rfl⟩ | ⟨g, cap, cur, rfl, _, _, hnc, _⟩
      · exact ⟨_, _, _, rfl, Nat.le_refl _⟩
      · exact ⟨_, _, _, rfl, hnc⟩
    obtain ⟨b, l, k, hv, hlk⟩ := hv
    have hrun := run_append_nothing (P := Try.prog) w t t o.type e i h1 h2 b l k hlk _ hsrc
    rw [← hv] at hrun
    unfold Oper.wp
    simp only [execOp, ho, resolve, invoke, builtin, Sem.run_bind, Sem.run_pure, Result.andThen_ok, List.map_toArray, List.map_cons, List.map_nil, hs, hx, hrun]
    exact h v w (by simpa using hown) (World.grownBy.refl w _) (fun k hk => .inl hk)
  · rcases hc with h0 | ⟨ad, rfl, hcell⟩
    · exact absurd h0 hm0
    refine step_append_lies w hgd s x t ho base e i z size bytes h1 h2 h3 h4 h5 h6 h7 v n xs hs hown ad m c ys hx hl hcell h1c (by omega) hm (by omega) hbase _ rfl ?_
    intro g cap w' g1 g2 g3 g4
    refine h _ w' g1 g2 (fun k hk => ?_)
    rcases g3 with g3 | g3
    · exact .inl (by rw [g3]; exact hk)
    · have : k = g := by simp [Value.ownBlock] at hk; exact hk.symm
      exact .inr (by omega)

/-- A block that was laid, as a row of the call's own. -/
theorem own_blk {w : World} {g B z n : Nat} {C : Array Value} {t : TypeId} {xs : List Value} (h : Blk w g C t) (hB : B ≤ g) (hx : C.toList = xs) (hl : xs.length = n * z) (hn : n ≤ maxLen) : w.ownsRow B t z (.slice (some ⟨g, 0, none⟩) n n) n xs := by
  have hs : C.size = n * z := by rw [← Array.length_toList, hx, hl]
  exact ⟨hl, .inr ⟨g, n, C, rfl, hB, h, Nat.le_refl _, hn, hs, by rw [← hx, List.take_of_length_le (by rw [Array.length_toList, hs]; exact Nat.le_refl _)]⟩⟩

end Go.Proofs.Ytphhljbeaklikaa

/- What a store holds, plainly: entries, which is less, what is put, what is told. -/
namespace Go.Proofs.Ytphhljbeaklikaa
open Pl

/-- An entry. -/
structure En where
  n : ByteArray
  t : Int
  l : Int
  ds : List ByteArray
  r : Int
  u : Int

/-- Names and types in their row. -/
def cK (a : ByteArray) (s : Int) (b : ByteArray) (t : Int) : Int := if cmpN a.data.toList b.data.toList = 0 then sgn s t else cmpN a.data.toList b.data.toList
theorem sgn_self (s : Int) : sgn s s = 0 := by unfold sgn; simp
theorem sgn_anti (s t : Int) : sgn t s = - sgn s t := by unfold sgn; repeat' split <;> omega
theorem sgn_zero {s t : Int} (h : sgn s t = 0) : s = t := by unfold sgn at h; repeat' split at h <;> omega
theorem sgn_neg (s t : Int) : sgn s t < 0 ↔ s < t := by unfold sgn; repeat' split <;> omega
theorem cK_self (a : ByteArray) (s : Int) : cK a s a s = 0 := by unfold cK; rw [if_pos (cmp_self _), sgn_self]
theorem cK_anti (a : ByteArray) (s : Int) (b : ByteArray) (t : Int) : cK b t a s = - cK a s b t := by
  unfold cK
  rw [cmp_anti a.data.toList b.data.toList]
  by_cases h : cmpN a.data.toList b.data.toList = 0
  · rw [if_pos (by omega), if_pos h, sgn_anti]
  · rw [if_neg (by omega), if_neg h]
theorem cK_three (a : ByteArray) (s : Int) (b : ByteArray) (t : Int) : -1 ≤ cK a s b t ∧ cK a s b t ≤ 1 := by
  unfold cK
  split
  · unfold sgn; repeat' split <;> omega
  · exact cmp_three _ _
theorem cmp_lt {a b c : List UInt8} (h1 : cmpN a b < 0) (h2 : cmpN b c ≤ 0) : cmpN a c < 0 := by
  have h3 := cmp_trans (Int.le_of_lt h1) h2
  rcases Int.lt_or_eq_of_le h3 with h | h
  · exact h
  · exfalso
    have h4 : cmpN c a ≤ 0 := by rw [cmp_anti a c]; omega
    have := cmp_trans h2 h4
    have := cmp_anti a b
    omega
theorem cmp_lt' {a b c : List UInt8} (h1 : cmpN a b ≤ 0) (h2 : cmpN b c < 0) : cmpN a c < 0 := by
  have h3 := cmp_trans h1 (Int.le_of_lt h2)
  rcases Int.lt_or_eq_of_le h3 with h | h
  · exact h
  · exfalso
    have h4 : cmpN c a ≤ 0 := by rw [cmp_anti a c]; omega
    have := cmp_trans h4 h1
    have := cmp_anti b c
    omega
theorem cK_neg {a : ByteArray} {s : Int} {b : ByteArray} {t : Int} : cK a s b t < 0 ↔ cmpN a.data.toList b.data.toList < 0 ∨ cmpN a.data.toList b.data.toList = 0 ∧ s < t := by
  unfold cK
  split
  · rename_i h; rw [sgn_neg]; omega
  · rename_i h; omega
theorem cK_trans {a b c : ByteArray} {s t u : Int} (h1 : cK a s b t < 0) (h2 : cK b t c u < 0) : cK a s c u < 0 := by
  rw [cK_neg] at *
  rcases h1 with h1 | ⟨h1, h3⟩
  · rcases h2 with h2 | ⟨h2, _⟩
    · exact .inl (cmp_lt h1 (Int.le_of_lt h2))
    · exact .inl (cmp_lt h1 (Int.le_of_eq h2))
  · rcases h2 with h2 | ⟨h2, h4⟩
    · exact .inl (cmp_lt' (Int.le_of_eq h1) h2)
    · refine .inr ⟨?_, by omega⟩
      have e := (cmp_zero _ _).1 h1
      have e' := (cmp_zero _ _).1 h2
      exact (cmp_zero _ _).2 (e.trans e')

/-- A name in its small letters and a type: what tells entries apart. -/
structure OkK (n : ByteArray) (t : Int) : Prop where
  nm : isName n.data.toList = true
  fo : foldL n.data.toList = n.data.toList
  lo : 0 ≤ t
  hi : t ≤ 65535
theorem OkK.size {n : ByteArray} {t : Int} (h : OkK n t) : n.size ≤ 255 := by
  have := (name_some h.nm).1
  have e := data_len n
  omega
theorem bytes_ext {a b : ByteArray} (h : a.data.toList = b.data.toList) : a = b := by
  cases a with | mk a => cases b with | mk b => simp at h; rw [h]
theorem cK_zero {a b : ByteArray} {s t : Int} (ha : OkK a s) (hb : OkK b t) (h : cK a s b t = 0) : a = b ∧ s = t := by
  unfold cK at h
  by_cases e : cmpN a.data.toList b.data.toList = 0
  · rw [if_pos e] at h
    refine ⟨bytes_ext ?_, sgn_zero h⟩
    rw [← ha.fo, ← hb.fo]
    exact (fold_inj ha.nm hb.nm).2 ((cmp_zero _ _).1 e)
  · rw [if_neg e] at h
    exact absurd h e

/-- An entry that may be held. -/
structure OkE (e : En) : Prop where
  k : OkK e.n e.t
  len : e.ds.length ≤ 8796093022000
  siz : ∀ d ∈ e.ds, d.size ≤ 140737488351232
/-- Which entry is less: by its end, then by its name and type. -/
def ltE (x y : En) : Bool := decide (x.u < y.u) || (decide (x.u = y.u) && decide (cK x.n x.t y.n y.t < 0))
theorem ltE_iff {x y : En} : ltE x y = true ↔ x.u < y.u ∨ x.u = y.u ∧ cK x.n x.t y.n y.t < 0 := by unfold ltE; simp
theorem ltE_irr (x : En) : ltE x x = false := by
  cases h : ltE x x with
  | false => rfl
  | true => rw [ltE_iff, cK_self] at h; omega
theorem ltE_trans {x y z : En} (h1 : ltE x y = true) (h2 : ltE y z = true) : ltE x z = true := by
  rw [ltE_iff] at *
  rcases h1 with h1 | ⟨h1, h3⟩
  · exact .inl (by omega)
  · rcases h2 with h2 | ⟨h2, h4⟩
    · exact .inl (by omega)
    · exact .inr ⟨by omega, cK_trans h3 h4⟩
def sameK (n : ByteArray) (t : Int) (e : En) : Bool := decide (e.n = n) && decide (e.t = t)
theorem sameK_iff {n : ByteArray} {t : Int} {e : En} : sameK n t e = true ↔ e.n = n ∧ e.t = t := by unfold sameK; simp
theorem ltE_total {x y : En} (hx : OkE x) (hy : OkE y) (h : ltE x y = false) (hk : sameK x.n x.t y = false) : ltE y x = true := by
  rw [ltE_iff]
  have h1 : ¬ (x.u < y.u ∨ x.u = y.u ∧ cK x.n x.t y.n y.t < 0) := fun e => by rw [← ltE_iff, h] at e; cases e
  by_cases e : y.u < x.u
  · exact .inl e
  · refine .inr ⟨by omega, ?_⟩
    have h2 : ¬ cK x.n x.t y.n y.t < 0 := fun e' => h1 (.inr ⟨by omega, e'⟩)
    have h3 : cK x.n x.t y.n y.t ≠ 0 := fun e' => by
      have := cK_zero hx.k hy.k e'
      rw [sameK_iff.2 ⟨this.1.symm, this.2.symm⟩] at hk
      cases hk
    have := cK_anti x.n x.t y.n y.t
    omega

/-- Entries of which no two have one name and type. -/
def Dis (L : List En) : Prop := L.Pairwise (fun x y => sameK x.n x.t y = false)
theorem sameK_symm {x y : En} (h : sameK x.n x.t y = false) : sameK y.n y.t x = false := by
  cases e : sameK y.n y.t x with
  | false => rfl
  | true => rw [sameK_iff] at e; rw [sameK_iff.2 ⟨e.1.symm, e.2.symm⟩] at h; cases h
theorem Dis.at {L : List En} (h : Dis L) {i j : Nat} (hi : i < L.length) (hj : j < L.length) (hij : i ≠ j) : sameK L[i].n L[i].t L[j] = false := by
  rcases Nat.lt_or_gt_of_ne hij with h1 | h1
  · exact List.pairwise_iff_getElem.1 h i j hi hj h1
  · exact sameK_symm (List.pairwise_iff_getElem.1 h j i hj hi h1)
theorem Dis.filter {L : List En} (h : Dis L) (p : En → Bool) : Dis (L.filter p) := List.Pairwise.filter _ h

/-- The place of the least of the first i. -/
def minK (L : List En) : Nat → Nat
  | 0 => 0
  | i + 1 => match L[i]?, L[minK L i]? with
    | some a, some b => if ltE a b then i else minK L i
    | _, _ => minK L i
def minP (L : List En) : Nat := minK L L.length
theorem minK_step {L : List En} {i : Nat} (hi : i < L.length) (hk : minK L i < L.length) : minK L (i + 1) = if ltE L[i] L[minK L i] then i else minK L i := by
  rw [minK, List.getElem?_eq_getElem hi, List.getElem?_eq_getElem hk]
theorem minK_lt {L : List En} : ∀ {i : Nat}, 1 ≤ i → i ≤ L.length → minK L i < i := by
  intro i
  induction i with
  | zero => intro h _; omega
  | succ i ih =>
    intro _ hi
    by_cases h0 : i = 0
    · subst h0
      rw [minK_step (by omega) (by show 0 < _; omega)]
      split
      · omega
      · show minK L 0 < 1; simp [minK]
    · have := ih (by omega) (by omega)
      rw [minK_step (by omega) (by omega)]
      split <;> omega
theorem minK_least {L : List En} (hd : Dis L) (ho : ∀ e ∈ L, OkE e) : ∀ {i : Nat} (_ : 1 ≤ i) (hi : i ≤ L.length) (hk : minK L i < L.length) (j : Nat) (hj : j < i), j ≠ minK L i → ltE L[minK L i] (L[j]'(by omega)) = true := by
  intro i
  induction i with
  | zero => intro h; omega
  | succ i ih =>
    intro _ hi hk j hj hne
    by_cases h0 : i = 0
    · subst h0
      have e0 : minK L 1 = 0 := by have := minK_lt (L := L) (Nat.le_refl 1) (by omega); omega
      rw [e0] at hne
      omega
    · have hm := minK_lt (L := L) (i := i) (by omega) (by omega)
      have hs := minK_step (L := L) (i := i) (by omega) (by omega)
      have hd' := hd.at (i := i) (j := minK L i) (by omega) (by omega) (by omega)
      cases hl : ltE (L[i]'(by omega)) (L[minK L i]'(by omega)) with
      | true =>
        rw [hl, if_pos rfl] at hs
        simp only [hs] at hne ⊢
        by_cases hjm : j = minK L i
        · subst hjm; exact hl
        · exact ltE_trans hl (ih (by omega) (by omega) (by omega) j (by omega) hjm)
      | false =>
        rw [hl, if_neg (by simp)] at hs
        simp only [hs] at hne ⊢
        by_cases hji : j = i
        · subst hji
          exact ltE_total (ho _ (List.getElem_mem _)) (ho _ (List.getElem_mem _)) hl hd'
        · exact ih (by omega) (by omega) (by omega) j (by omega) hne
theorem minP_lt {L : List En} (h : 0 < L.length) : minP L < L.length := minK_lt h (Nat.le_refl _)
theorem minP_least {L : List En} (hd : Dis L) (ho : ∀ e ∈ L, OkE e) (h : 0 < L.length) (j : Nat) (hj : j < L.length) (hne : j ≠ minP L) : ltE (L[minP L]'(minP_lt h)) L[j] = true :=
  minK_least hd ho h (Nat.le_refl _) (minP_lt h) j hj hne
/-- What is less than all others is the least. -/
theorem minP_eq {L : List En} (hd : Dis L) (ho : ∀ e ∈ L, OkE e) {i : Nat} (hi : i < L.length) (h : ∀ j (hj : j < L.length), j ≠ i → ltE L[i] L[j] = true) : i = minP L := by
  by_cases e : i = minP L
  · exact e
  · have h1 := minP_least hd ho (by omega) i hi e
    have h2 := h (minP L) (minP_lt (by omega)) (fun e' => e e'.symm)
    have := ltE_trans h1 h2
    rw [ltE_irr] at this
    cases this

/-- What is put, and what goes. -/
def beatsP (L : List En) (n : ByteArray) (t r now : Int) : Bool := L.any fun y => sameK n t y && decide (now < y.u) && decide (r < y.r)
def leftP (L : List En) (n : ByteArray) (t now : Int) : List En := L.filter fun y => !sameK n t y && decide (now < y.u)
def cutP (most : Nat) (L : List En) : List En := if L.length = most then L.eraseIdx (minP L) else L
def mayE (e : En) (now : Int) : Bool := isName e.n.data.toList && decide (1 ≤ e.t) && decide (e.t ≤ 65535) && decide (e.ds ≠ []) && decide (1 ≤ e.r) && decide (e.r ≤ 3) && decide (now < e.u) && decide (0 ≤ now) && decide (now ≤ 1099511627776)
def fdB (n : ByteArray) : ByteArray := ⟨(foldR n.data.toList).toArray⟩
def heldE (e : En) : En := { e with n := fdB e.n }
def putP (most : Nat) (L : List En) (e : En) (now : Int) : List En := if mayE e now && !beatsP L (fdB e.n) e.t e.r now then cutP most (leftP L (fdB e.n) e.t now) ++ [heldE e] else L
def errP (e : En) (now : Int) : Int := if mayE e now then 0 else 1300
def getP (L : List En) (n : ByteArray) (t now : Int) : Option En := L.find? fun y => sameK (fdB n) t y && decide (now < y.u)

theorem fdB_list (n : ByteArray) : (fdB n).data.toList = foldR n.data.toList := by simp [fdB]
theorem mayE_parts {e : En} {now : Int} (h : mayE e now = true) : isName e.n.data.toList = true ∧ 1 ≤ e.t ∧ e.t ≤ 65535 ∧ e.ds ≠ [] ∧ 1 ≤ e.r ∧ e.r ≤ 3 ∧ now < e.u ∧ 0 ≤ now ∧ now ≤ 1099511627776 := by
  unfold mayE at h
  simp only [Bool.and_eq_true, decide_eq_true_eq] at h
  obtain ⟨⟨⟨⟨⟨⟨⟨⟨h1, h2⟩, h3⟩, h4⟩, h5⟩, h6⟩, h7⟩, h8⟩, h9⟩ := h
  exact ⟨h1, h2, h3, h4, h5, h6, h7, h8, h9⟩
theorem held_ok {e : En} {now : Int} (h : mayE e now = true) (hl : e.ds.length ≤ 8796093022000) (hs : ∀ d ∈ e.ds, d.size ≤ 140737488351232) : OkE (heldE e) := by
  obtain ⟨h1, h2, h3, _⟩ := mayE_parts h
  have e1 : foldR e.n.data.toList = foldL e.n.data.toList := by unfold foldR; rw [if_pos h1]
  refine ⟨⟨?_, ?_, by show 0 ≤ e.t; omega, h3⟩, hl, hs⟩
  · show isName (fdB e.n).data.toList = true
    rw [fdB_list, e1, name_fold]; exact h1
  · show foldL (fdB e.n).data.toList = (fdB e.n).data.toList
    rw [fdB_list, e1, fold_twice]

theorem left_ok {L : List En} (h : ∀ e ∈ L, OkE e) (n : ByteArray) (t now : Int) : ∀ e ∈ leftP L n t now, OkE e := fun e he => h e ((List.mem_filter.1 he).1)
theorem cut_mem {most : Nat} {L : List En} {e : En} (h : e ∈ cutP most L) : e ∈ L := by
  unfold cutP at h
  split at h
  · exact List.mem_of_mem_eraseIdx h
  · exact h
theorem cut_len {most : Nat} {L : List En} (h : L.length ≤ most) (hm : 1 ≤ most) : (cutP most L).length + 1 ≤ most := by
  unfold cutP
  split
  · rename_i e; rw [List.length_eraseIdx_of_lt (minP_lt (by omega))]; omega
  · omega
theorem put_ok {most : Nat} {L : List En} {e : En} {now : Int} (h : ∀ e ∈ L, OkE e) (hl : e.ds.length ≤ 8796093022000) (hs : ∀ d ∈ e.ds, d.size ≤ 140737488351232) : ∀ x ∈ putP most L e now, OkE x := by
  intro x hx
  unfold putP at hx
  split at hx
  · rename_i hc
    rcases List.mem_append.1 hx with hx | hx
    · exact left_ok h _ _ _ _ (cut_mem hx)
    · simp at hx; subst hx
      simp only [Bool.and_eq_true] at hc
      exact held_ok hc.1 hl hs
  · exact h x hx
theorem put_len {most : Nat} {L : List En} {e : En} {now : Int} (h : L.length ≤ most) (hm : 1 ≤ most) : (putP most L e now).length ≤ most := by
  unfold putP
  split
  · have h1 : (leftP L (fdB e.n) e.t now).length ≤ most := Nat.le_trans (List.length_filter_le _ _) h
    have := cut_len h1 hm
    simp; omega
  · exact h
theorem Dis.sub {L M : List En} (h : Dis L) (hs : M.Sublist L) : Dis M := List.Pairwise.sublist hs h
theorem cut_dis {most : Nat} {L : List En} (h : Dis L) : Dis (cutP most L) := by
  unfold cutP
  split
  · exact h.sub (List.eraseIdx_sublist _ _)
  · exact h
theorem Dis.snoc {L : List En} {e : En} (h : Dis L) (hn : ∀ x ∈ L, sameK e.n e.t x = false) : Dis (L ++ [e]) := by
  refine List.pairwise_append.2 ⟨h, List.pairwise_singleton _ _, fun x hx y hy => ?_⟩
  simp at hy
  subst hy
  exact sameK_symm (hn x hx)
theorem left_not {L : List En} {n : ByteArray} {t now : Int} {x : En} (h : x ∈ leftP L n t now) : sameK n t x = false := by
  unfold leftP at h
  have := (List.mem_filter.1 h).2
  simp only [Bool.and_eq_true, Bool.not_eq_true'] at this
  exact this.1
theorem put_dis {most : Nat} {L : List En} {e : En} {now : Int} (h : Dis L) : Dis (putP most L e now) := by
  unfold putP
  split
  · exact (cut_dis (h.filter _)).snoc (fun x hx => left_not (cut_mem hx))
  · exact h

/-- Striking one is striking all of its name and type. -/
theorem erase_filter : ∀ {L : List En} (_ : Dis L) {i : Nat} (hi : i < L.length), L.filter (fun y => !sameK L[i].n L[i].t y) = L.eraseIdx i := by
  intro L
  induction L with
  | nil => intro _ i hi; simp at hi
  | cons a L ih =>
    intro hd i hi
    have hd2 := List.pairwise_cons.1 hd
    cases i with
    | zero =>
      have : sameK a.n a.t a = true := sameK_iff.2 ⟨rfl, rfl⟩
      simp only [List.getElem_cons_zero, List.filter_cons, this, List.eraseIdx_cons_zero]
      simp only [Bool.not_true, Bool.false_eq_true, if_false]
      exact List.filter_eq_self.2 (fun y hy => by rw [hd2.1 y hy]; rfl)
    | succ i =>
      simp only [List.getElem_cons_succ, List.filter_cons, List.eraseIdx_cons_succ]
      have hi' : i < L.length := by simp at hi; omega
      have : sameK L[i].n L[i].t a = false := sameK_symm (hd2.1 _ (List.getElem_mem _))
      rw [this, Bool.not_false, if_pos rfl, ih hd2.2 hi']

/-- All, by names and types. -/
def befE (x e : En) : Bool := decide (cK x.n x.t e.n e.t < 0)
def insE (e : En) (out : List En) : List En := out.takeWhile (fun x => befE x e) ++ e :: out.dropWhile (fun x => befE x e)
def allP (L : List En) : List En := L.foldl (fun out e => insE e out) []
def RisE (L : List En) : Prop := L.Pairwise (fun x y => cK x.n x.t y.n y.t < 0)
theorem insE_perm (e : En) (out : List En) : (insE e out).Perm (e :: out) := by
  unfold insE
  have : (out.takeWhile (fun x => befE x e) ++ out.dropWhile (fun x => befE x e)) = out := List.takeWhile_append_dropWhile
  exact List.perm_middle.trans (by rw [this])
theorem insE_rise {e : En} {out : List En} (h : RisE out) (ho : ∀ x ∈ out, OkE x) (he : OkE e) (hn : ∀ x ∈ out, sameK e.n e.t x = false) : RisE (insE e out) := by
  unfold insE
  induction out with
  | nil => exact List.pairwise_singleton _ _
  | cons a out ih =>
    have h2 := List.pairwise_cons.1 h
    have ih2 := ih h2.2 (fun x hx => ho x (List.mem_cons_of_mem _ hx)) (fun x hx => hn x (List.mem_cons_of_mem _ hx))
    cases hb : befE a e with
    | true =>
      rw [List.takeWhile_cons_of_pos (p := fun x => befE x e) hb, List.dropWhile_cons_of_pos (p := fun x => befE x e) hb]
      refine List.pairwise_cons.2 ⟨fun x hx => ?_, ih2⟩
      rcases List.mem_append.1 hx with hx | hx
      · exact h2.1 x ((List.takeWhile_sublist _).subset hx)
      · rcases List.mem_cons.1 hx with rfl | hx
        · unfold befE at hb; simpa using hb
        · exact h2.1 x (List.dropWhile_sublist _ |>.subset hx)
    | false =>
      rw [List.takeWhile_cons_of_neg (p := fun x => befE x e) (by rw [hb]; simp), List.dropWhile_cons_of_neg (p := fun x => befE x e) (by rw [hb]; simp), List.nil_append]
      have hlt : cK e.n e.t a.n a.t < 0 := by
        unfold befE at hb
        simp only [decide_eq_false_iff_not] at hb
        have h3 := cK_anti a.n a.t e.n e.t
        have h4 : cK a.n a.t e.n e.t ≠ 0 := fun e' => by
          have h5 := cK_zero (ho a (List.mem_cons_self ..)).k he.k e'
          have h6 := hn a (List.mem_cons_self ..)
          rw [sameK_iff.2 h5] at h6
          cases h6
        omega
      refine List.pairwise_cons.2 ⟨fun x hx => ?_, h⟩
      rcases List.mem_cons.1 hx with rfl | hx
      · exact hlt
      · exact cK_trans hlt (h2.1 x hx)
theorem all_fold : ∀ (L out : List En), (L.foldl (fun out e => insE e out) out).Perm (out ++ L) := by
  intro L
  induction L with
  | nil => intro out; simp
  | cons e L ih =>
    intro out
    refine (ih (insE e out)).trans ?_
    refine ((insE_perm e out).append_right L).trans ?_
    exact List.perm_middle.symm
theorem all_perm (L : List En) : (allP L).Perm L := by have := all_fold L []; rw [List.nil_append] at this; exact this
theorem all_rise_fold : ∀ (L out : List En), RisE out → (∀ x ∈ out, OkE x) → (∀ x ∈ L, OkE x) → Dis L → (∀ x ∈ L, ∀ y ∈ out, sameK x.n x.t y = false) → RisE (L.foldl (fun out e => insE e out) out) := by
  intro L
  induction L with
  | nil => intro out h _ _ _ _; exact h
  | cons e L ih =>
    intro out h ho hL hd hn
    have hd2 := List.pairwise_cons.1 hd
    refine ih _ (insE_rise h ho (hL e (List.mem_cons_self ..)) (hn e (List.mem_cons_self ..))) (fun x hx => ?_) (fun x hx => hL x (List.mem_cons_of_mem _ hx)) hd2.2 (fun x hx y hy => ?_)
    · rcases List.mem_cons.1 ((insE_perm e out).mem_iff.1 hx) with rfl | hx
      · exact hL x (List.mem_cons_self ..)
      · exact ho x hx
    · rcases List.mem_cons.1 ((insE_perm e out).mem_iff.1 hy) with rfl | hy
      · exact sameK_symm (hd2.1 x hx)
      · exact hn x (List.mem_cons_of_mem _ hx) y hy
theorem all_rise {L : List En} (ho : ∀ x ∈ L, OkE x) (hd : Dis L) : RisE (allP L) := all_rise_fold L [] List.Pairwise.nil (fun x hx => by simp at hx) ho hd (fun _ _ y hy => by simp at hy)
/-- Two rising rows of the same entries are one. -/
theorem rise_one : ∀ {L M : List En}, RisE L → RisE M → L.Perm M → L = M := by
  intro L
  induction L with
  | nil => intro M _ _ hp; exact (List.Perm.nil_eq hp)
  | cons a L ih =>
    intro M hL hM hp
    cases M with
    | nil => exact absurd hp.length_eq (by simp)
    | cons b M =>
      have hL2 := List.pairwise_cons.1 hL
      have hM2 := List.pairwise_cons.1 hM
      have hab : a = b := by
        rcases List.mem_cons.1 (hp.mem_iff.1 (List.mem_cons_self ..)) with h | h
        · exact h
        · rcases List.mem_cons.1 (hp.mem_iff.2 (List.mem_cons_self ..)) with h' | h'
          · exact h'.symm
          · have h1 := hM2.1 a h
            have h2 := hL2.1 b h'
            have := cK_anti a.n a.t b.n b.t
            omega
      subst hab
      rw [ih hL2.2 hM2.2 (List.Perm.cons_inv hp)]
theorem all_len (L : List En) : (allP L).length = L.length := (all_perm L).length_eq

end Go.Proofs.Ytphhljbeaklikaa

/- What a Negs holds, plainly: what is put, what is told. -/
namespace Go.Proofs.Ytphhljbeaklikaa
open Pl
namespace Ng

/-- A name, a type and an end. -/
def nE (n : ByteArray) (t u : Int) : En := ⟨n, t, 0, [], 0, u⟩
def mayN (e : En) (now : Int) : Bool := isName e.n.data.toList && decide (0 ≤ e.t) && decide (e.t ≤ 65535) && decide (now < e.u) && decide (0 ≤ now) && decide (now ≤ 1099511627776)
def putN (most : Nat) (L : List En) (e : En) (now : Int) : List En := if mayN e now then cutP most (leftP L (fdB e.n) e.t now) ++ [heldE e] else L
def errN (e : En) (now : Int) : Int := if mayN e now then 0 else 1400
/-- Is there a live one of that name and type? -/
def hasN (L : List En) (n : ByteArray) (t now : Int) : Bool := L.any fun y => sameK (fdB n) t y && decide (now < y.u)

theorem mayN_parts {e : En} {now : Int} (h : mayN e now = true) : isName e.n.data.toList = true ∧ 0 ≤ e.t ∧ e.t ≤ 65535 ∧ now < e.u ∧ 0 ≤ now ∧ now ≤ 1099511627776 := by
  unfold mayN at h
  simp only [Bool.and_eq_true, decide_eq_true_eq] at h
  obtain ⟨⟨⟨⟨⟨h1, h2⟩, h3⟩, h4⟩, h5⟩, h6⟩ := h
  exact ⟨h1, h2, h3, h4, h5, h6⟩
theorem fd_name {n : ByteArray} (h : isName n.data.toList = true) : isName (fdB n).data.toList = true ∧ foldL (fdB n).data.toList = (fdB n).data.toList := by
  have e1 : foldR n.data.toList = foldL n.data.toList := by unfold foldR; rw [if_pos h]
  refine ⟨?_, ?_⟩
  · rw [fdB_list, e1, name_fold]; exact h
  · rw [fdB_list, e1, fold_twice]
theorem fd_none {n : ByteArray} (h : isName n.data.toList = false) : fdB n = ⟨#[]⟩ := by
  refine bytes_ext ?_
  rw [fdB_list]
  unfold foldR
  rw [if_neg (by simp [h])]
theorem fd_size {n : ByteArray} (hn : n.size ≤ maxLen) : (fdB n).size ≤ maxLen := by
  have h1 := data_len n
  have h2 := data_len (fdB n)
  rw [fdB_list] at h2
  have h3 : (foldR n.data.toList).length ≤ n.data.toList.length := by
    unfold foldR
    split
    · rw [fold_len]; exact Nat.le_refl _
    · simp
  omega
theorem key_ok {n : ByteArray} {t : Int} (h : isName n.data.toList = true) (h2 : 0 ≤ t) (h3 : t ≤ 65535) : OkK (fdB n) t := ⟨(fd_name h).1, (fd_name h).2, h2, h3⟩
theorem held_okN {n : ByteArray} {t u now : Int} (h : mayN (nE n t u) now = true) : OkE (heldE (nE n t u)) := by
  obtain ⟨h1, h2, h3, _⟩ := mayN_parts h
  exact ⟨key_ok h1 h2 h3, by simp [heldE, nE], by simp [heldE, nE]⟩
theorem put_okN {most : Nat} {L : List En} {n : ByteArray} {t u now : Int} (h : ∀ e ∈ L, OkE e) : ∀ x ∈ putN most L (nE n t u) now, OkE x := by
  intro x hx
  unfold putN at hx
  split at hx
  · rename_i hc
    rcases List.mem_append.1 hx with hx | hx
    · exact left_ok h _ _ _ _ (cut_mem hx)
    · simp at hx; subst hx
      exact held_okN hc
  · exact h x hx
theorem put_lenN {most : Nat} {L : List En} {e : En} {now : Int} (h : L.length ≤ most) (hm : 1 ≤ most) : (putN most L e now).length ≤ most := by
  unfold putN
  split
  · have h1 : (leftP L (fdB e.n) e.t now).length ≤ most := Nat.le_trans (List.length_filter_le _ _) h
    have := cut_len h1 hm
    simp; omega
  · exact h
theorem put_disN {most : Nat} {L : List En} {e : En} {now : Int} (h : Dis L) : Dis (putN most L e now) := by
  unfold putN
  split
  · exact (cut_dis (h.filter _)).snoc (fun x hx => left_not (cut_mem hx))
  · exact h
/-- The empty name is no entry's. -/
theorem not_empty {e : En} (h : OkE e) : e.n ≠ ⟨#[]⟩ := by
  intro h2
  have := h.k.nm
  rw [h2] at this
  exact absurd this (by decide)

end Ng
end Go.Proofs.Ytphhljbeaklikaa

/- Names that are not there, in memory: the map of a Negs. -/
namespace Go.Proofs.Ytphhljbeaklikaa
open Go.RowKit
open Pl
namespace Ng

/-- How an end is read. -/
def rE : Value → Option (DataW Int × List MemPlace)
  | .int .i64 u => some (.held u, [])
  | _ => none
theorem rE_inv {v : Value} {y : DataW Int × List MemPlace} (h : rE v = some y) : ∃ c, v = .int .i64 c ∧ y = (.held c, []) := by
  unfold rE at h
  split at h
  · cases h; exact ⟨_, rfl, rfl⟩
  · cases h

theorem laidOutE : laidOutB Try.prog = true := by kernel_rfl
theorem keyE : Go.Maps.Keyed Try.prog 63 := Go.Maps.Keyed.of_law (deep_law_laid laidOutE (m := 3) (by omega) (of_decide_eq_true (by kernel_rfl)) (by kernel_rfl) (by kernel_rfl))
/-- A name and a type as a key. -/
def kyL (n : ByteArray) (t : Int) : Lit := .string (keyBytes [.string n.data.toList, .int .i64 t])
def kyV (n : ByteArray) (t : Int) : Value := .agg #[.string n, .int .i64 t]
theorem typesE : ∃ m, Try.prog.types.size = m + 1 := ⟨Try.prog.types.size - 1, by have : (1 : Nat) ≤ Try.prog.types.size := of_decide_eq_true (by kernel_rfl); omega⟩
theorem cellsE : Try.prog.cellsOf 63 = 2 := by kernel_rfl
theorem cellsE9 : Try.prog.cellsOf 9 = 1 := by kernel_rfl
theorem cellsE3 : Try.prog.cellsOf 3 = 1 := by kernel_rfl
theorem keyOf_e {n : ByteArray} {t : Int} (hn : n.size ≤ maxLen) (ht : (Lit.int .i64 t).wf = true) : keyOf Try.prog 63 (kyV n t) = some (kyL n t) := by
  obtain ⟨m, hm⟩ := typesE
  have hk : Try.prog.keyType 63 = true := by kernel_rfl
  unfold keyOf kyV
  rw [Try.underlying63]
  simp only [hk, Bool.true_and, Value.formed, Try.underlying63, cellsE]
  have h2 : (#[Value.string n, Value.int .i64 t].size == 2) = true := rfl
  rw [if_pos h2, hm]
  simp [Program.keyLits, Try.underlying63, Try.underlying9, Try.underlying3, cellsE, cellsE9, cellsE3, Value.cells, hn, ht, kyL]
theorem ky_inj {n n' : ByteArray} {t t' : Int} (hn : n.size ≤ maxLen) (hn' : n'.size ≤ maxLen) (ht : (Lit.int .i64 t).wf = true) (ht' : (Lit.int .i64 t').wf = true) (h : kyL n t = kyL n' t') : n = n' ∧ t = t' := by
  have h1 := keyOf_e (n := n) (t := t) hn ht
  have h2 := keyOf_e (n := n') (t := t') hn' ht'
  rw [← h] at h2
  have := keyE.inj h1 h2
  unfold kyV at this
  simp at this
  exact this

theorem isKyL (n : ByteArray) (t : Int) : WideAt.IsKeyLit (kyL n t) := by simp [WideAt.IsKeyLit, kyL]
theorem wf_ok {n : ByteArray} {t : Int} (h : OkK n t) : (Lit.int .i64 t).wf = true := WalkArith.wf_i64 (by have := h.lo; have := h.hi; omega)
theorem max_ok {n : ByteArray} {t : Int} (h : OkK n t) : n.size ≤ maxLen := by have := h.size; unfold maxLen; omega
theorem same_ky {e : En} (he : OkE e) {n : ByteArray} {t : Int} (hn : n.size ≤ maxLen) (ht : (Lit.int .i64 t).wf = true) : (kyL e.n e.t).sameKey (kyL n t) = sameK n t e := by
  cases h : sameK n t e with
  | true =>
    obtain ⟨rfl, rfl⟩ := sameK_iff.1 h
    exact WideAt.sameKey_self (isKyL _ _)
  | false =>
    refine Maps.sameKey_ne (fun e' => ?_)
    have := ky_inj (max_ok he.k) hn (wf_ok he.k) ht e'
    rw [sameK_iff.2 this] at h
    cases h

/-- A map's reading and the entries that are held, each with its row of texts. -/
def ents (L : List En) : List (Lit × DataW Int) := L.map fun p => (kyL p.n p.t, .held p.u)
def MapOf (D : DataW Int) (L : List En) : Prop := ∃ es, D = .map es ∧ es.Perm (ents L)
structure Good (L : List En) : Prop where
  ok : ∀ p ∈ L, OkE p
  dis : Dis L
theorem mapOf_nil : MapOf (.map []) [] := ⟨[], rfl, List.Perm.refl _⟩
theorem any_perm {α : Type} {f : α → Bool} {a b : List α} (h : a.Perm b) : a.any f = b.any f := by
  rw [Bool.eq_iff_iff, List.any_eq_true, List.any_eq_true]
  exact ⟨fun ⟨x, hx, hf⟩ => ⟨x, h.mem_iff.1 hx, hf⟩, fun ⟨x, hx, hf⟩ => ⟨x, h.mem_iff.2 hx, hf⟩⟩
theorem mapOf_size {D : DataW Int} {L : List En} (h : MapOf D L) : Maps.size D = L.length := by
  obtain ⟨es, rfl, hp⟩ := h
  rw [Maps.size_eq, hp.length_eq]; simp [ents]
theorem mapOf_has {D : DataW Int} {L : List En} (h : MapOf D L) (hg : Good L) {n : ByteArray} {t : Int} (hn : n.size ≤ maxLen) (ht : (Lit.int .i64 t).wf = true) : Maps.has D (kyL n t) = L.any (fun p => sameK n t p) := by
  obtain ⟨es, rfl, hp⟩ := h
  rw [Maps.has_eq, any_perm hp]
  unfold ents
  rw [List.any_map]
  rw [Bool.eq_iff_iff, List.any_eq_true, List.any_eq_true]
  constructor
  · rintro ⟨p, hp, hs⟩; exact ⟨p, hp, by rw [← same_ky (hg.ok p hp) hn ht]; exact hs⟩
  · rintro ⟨p, hp, hs⟩; exact ⟨p, hp, by show (kyL p.n p.t).sameKey (kyL n t) = true; rw [same_ky (hg.ok p hp) hn ht]; exact hs⟩
theorem Good.one {L : List En} (hg : Good L) {p q : En} (hp : p ∈ L) (hq : q ∈ L) (h : sameK p.n p.t q = true) : p = q := by
  obtain ⟨i, hi, rfl⟩ := List.getElem_of_mem hp
  obtain ⟨j, hj, rfl⟩ := List.getElem_of_mem hq
  by_cases e : i = j
  · subst e; rfl
  · have := hg.dis.at hi hj e
    rw [this] at h
    cases h
theorem mapOf_at {D : DataW Int} {L : List En} (h : MapOf D L) (hg : Good L) {p : En} (hp : p ∈ L) (z : DataW Int) : D.atKey (kyL p.n p.t) z = .held p.u := by
  obtain ⟨es, rfl, hpm⟩ := h
  unfold DataW.atKey
  have hmem : ((kyL p.n p.t, DataW.held p.u) : Lit × DataW Int) ∈ es := hpm.mem_iff.2 (List.mem_map.2 ⟨p, hp, rfl⟩)
  cases hf : es.find? (fun q => q.1.sameKey (kyL p.n p.t)) with
  | none =>
    have := List.find?_eq_none.1 hf _ hmem
    simp [WideAt.sameKey_self (isKyL p.n p.t)] at this
  | some q =>
    have h1 := List.find?_some hf
    have h2 := List.mem_of_find?_eq_some hf
    obtain ⟨q', hq', rfl⟩ := List.mem_map.1 (hpm.mem_iff.1 h2)
    have h3 : sameK p.n p.t q' = true := by rw [← same_ky (hg.ok q' hq') (max_ok (hg.ok p hp).k) (wf_ok (hg.ok p hp).k)]; exact h1
    obtain rfl := hg.one hp hq' h3
    simp only [hf]
theorem Good.sub {L M : List En} (h : Good L) (hs : M.Sublist L) : Good M := ⟨fun p hp => h.ok p (hs.subset hp), h.dis.sub hs⟩
theorem Good.snoc {L : List En} (h : Good L) {p : En} (hp : OkE p) (hn : ∀ q ∈ L, sameK p.n p.t q = false) : Good (L ++ [p]) := by
  refine ⟨fun q hq => ?_, ?_⟩
  · rcases List.mem_append.1 hq with hq | hq
    · exact h.ok q hq
    · simp at hq; subst hq; exact hp
  · exact Dis.snoc h.dis hn
theorem mapOf_del {D : DataW Int} {L : List En} (h : MapOf D L) (hg : Good L) {n : ByteArray} {t : Int} (hn : n.size ≤ maxLen) (ht : (Lit.int .i64 t).wf = true) : MapOf (D.del (kyL n t)) (L.filter fun p => !sameK n t p) := by
  obtain ⟨es, rfl, hp⟩ := h
  refine ⟨_, rfl, (hp.filter _).trans ?_⟩
  unfold ents
  rw [List.filter_map]
  refine List.Perm.of_eq (congrArg _ (List.filter_congr (fun p hp => ?_)))
  show (!(kyL p.n p.t).sameKey (kyL n t)) = _
  rw [same_ky (hg.ok p hp) hn ht]
theorem insert_perm (x : Lit × DataW Int) : ∀ l, (DataW.insert x l).Perm (x :: l) := by
  intro l
  induction l with
  | nil => exact List.Perm.refl _
  | cons y l ih =>
    unfold DataW.insert
    split
    · exact List.Perm.refl _
    · exact ((ih.cons y).trans (List.Perm.swap x y l))
theorem mapOf_put {D : DataW Int} {L : List En} (h : MapOf D L) (hg : Good L) (p : En) (hp : OkE p) (hn : ∀ q ∈ L, sameK p.n p.t q = false) : MapOf (D.put (kyL p.n p.t) (.held p.u)) (L ++ [p]) := by
  obtain ⟨es, rfl, hpm⟩ := h
  refine ⟨_, rfl, ?_⟩
  have hf : es.filter (fun q => !q.1.sameKey (kyL p.n p.t)) = es := List.filter_eq_self.2 (fun q hq => by
    obtain ⟨q', hq', rfl⟩ := List.mem_map.1 (hpm.mem_iff.1 hq)
    show (!(kyL q'.n q'.t).sameKey (kyL p.n p.t)) = true
    rw [same_ky (hg.ok q' hq') (max_ok hp.k) (wf_ok hp.k), hn q' hq']; rfl)
  rw [hf]
  refine (insert_perm _ _).trans ?_
  unfold ents
  rw [List.map_append]
  exact (hpm.cons _).trans (List.perm_append_singleton _ _).symm

/-- The entries of a map lie in memory. -/
structure Hold (w : World) (b : Nat) (L : List En) : Prop where
  map : ∃ n D, w.ownsMap Try.prog 63 rE b n D ∧ MapOf D L
  good : Good L
theorem own_tight {w : World} {b n : Nat} {D : DataW Int} (h : w.ownsMap Try.prog 63 rE b n D) : w.ownsMap Try.prog 63 rE b (Maps.size D) D := by
  obtain ⟨es, clock, hb, F, _, rfl⟩ := h
  exact ⟨es, clock, hb, F, by simp [Maps.size, length_sorted], rfl⟩
theorem own_turn {S : Nat → Prop} {w w' : World} {b n : Nat} {D : DataW Int} (h : w.ownsMap Try.prog 63 rE b n D) (ht : Turn S w w') (hs : ¬ S b) : w'.ownsMap Try.prog 63 rE b n D := by
  have hlt := h.lt
  obtain ⟨es, clock, hb, F, hn, rfl⟩ := h
  exact ⟨es, clock, (ht.block b hlt hs).trans hb, F, hn, rfl⟩
/-- The blocks of a store. -/
def foot (gs : Nat) (mb : Option Nat) (k : Nat) : Prop := k = gs ∨ mb = some k
theorem Hold.turn {S : Nat → Prop} {w w' : World} {b : Nat} {L : List En} (h : Hold w b L) (ht : Turn S w w') (hb : ¬ S b) : Hold w' b L := by
  obtain ⟨n, D, ho, hm⟩ := h.map
  exact ⟨⟨n, D, own_turn ho ht hb, hm⟩, h.good⟩
theorem Hold.own {w : World} {b : Nat} {L : List En} (h : Hold w b L) : ∃ D, w.ownsMap Try.prog 63 rE b L.length D ∧ MapOf D L := by
  obtain ⟨n, D, ho, hm⟩ := h.map
  refine ⟨D, ?_, hm⟩
  have := own_tight ho
  rw [mapOf_size hm] at this
  exact this
def MapAt (w : World) (mb : Option Nat) (L : List En) : Prop := (mb = none ∧ L = []) ∨ ∃ b, mb = some b ∧ Hold w b L
structure St (w : World) (gs most : Nat) (mb : Option Nat) (L : List En) : Prop where
  blk : Blk w gs #[.int .i64 most, .map mb] 58
  m1 : 1 ≤ most
  m2 : most ≤ 256
  len : L.length ≤ most
  at' : MapAt w mb L
theorem MapAt.good {w : World} {mb : Option Nat} {L : List En} (h : MapAt w mb L) : Good L := by
  rcases h with ⟨_, rfl⟩ | ⟨b, _, h⟩
  · exact ⟨fun p hp => by simp at hp, List.Pairwise.nil⟩
  · exact h.good
theorem MapAt.turn {S : Nat → Prop} {w w' : World} {mb : Option Nat} {L : List En} (h : MapAt w mb L) (ht : Turn S w w') (hb : ∀ b, mb = some b → ¬ S b) : MapAt w' mb L :=
  h.imp id (fun ⟨b, e, hh⟩ => ⟨b, e, hh.turn ht (hb b e)⟩)
theorem MapAt.below {w w' : World} {mb : Option Nat} {L : List En} (h : MapAt w mb L) (hb : Below w.heap.size w w') : MapAt w' mb L := h.turn (Turn.of_below (S := fun _ => False) hb) (fun _ _ => id)
theorem St.turn {S : Nat → Prop} {w w' : World} {gs most : Nat} {mb : Option Nat} {L : List En} (h : St w gs most mb L) (ht : Turn S w w') (hs : ∀ k, foot gs mb k → ¬ S k) : St w' gs most mb L :=
  ⟨ht.blk h.blk (hs gs (.inl rfl)), h.m1, h.m2, h.len, h.at'.turn ht (fun b e => hs b (.inr e))⟩
theorem St.below {w w' : World} {gs most : Nat} {mb : Option Nat} {L : List En} (h : St w gs most mb L) (hb : Below w.heap.size w w') : St w' gs most mb L := h.turn (Turn.of_below (S := fun _ => False) hb) (fun _ _ => id)
theorem St.lt {w : World} {gs most : Nat} {mb : Option Nat} {L : List En} (h : St w gs most mb L) : ∀ k, foot gs mb k → k < w.heap.size := by
  rintro k (rfl | e)
  · exact h.blk.lt
  · rcases h.at' with ⟨e', _⟩ | ⟨b, e', hh⟩
    · rw [e'] at e; cases e
    · rw [e'] at e; cases e
      obtain ⟨n, D, ho, _⟩ := hh.map
      exact ho.lt

/-- What is told of a name and a type. -/
def eZ : Value := .int .i64 0
theorem zeroE (w : World) : (zeroValue 3).run Try.prog w = .ok eZ w := Try.zeroValue3 w
def atL (L : List En) (n : ByteArray) (t : Int) : Option (En) := L.find? fun p => sameK n t p
def vL (L : List En) (n : ByteArray) (t : Int) : Value := match atL L n t with | some p => .int .i64 p.u | none => eZ
def bL (L : List En) (n : ByteArray) (t : Int) : Bool := (atL L n t).isSome
theorem atL_some {L : List En} {n : ByteArray} {t : Int} {p : En} (h : atL L n t = some p) : p ∈ L ∧ p.n = n ∧ p.t = t := by
  unfold atL at h
  exact ⟨List.mem_of_find?_eq_some h, sameK_iff.1 (by simpa using List.find?_some h)⟩
theorem atL_none {L : List En} {n : ByteArray} {t : Int} (h : atL L n t = none) : ∀ p ∈ L, sameK n t p = false := by
  unfold atL at h
  intro p hp
  simpa using List.find?_eq_none.1 h p hp
theorem atL_mem {L : List En} (hg : Good L) {p : En} (hp : p ∈ L) : atL L p.n p.t = some p := by
  cases h : atL L p.n p.t with
  | none => have := atL_none h p hp; rw [sameK_iff.2 ⟨rfl, rfl⟩] at this; cases this
  | some q =>
    obtain ⟨h1, h2, h3⟩ := atL_some h
    rw [hg.one hp h1 (sameK_iff.2 ⟨h2, h3⟩)]
theorem MapAt.look {w : World} {mb : Option Nat} {L : List En} (h : MapAt w mb L) {n : ByteArray} {t : Int} (hn : n.size ≤ maxLen) (ht : (Lit.int .i64 t).wf = true) :
    (Instr.lookup 56 (.map mb) (kyV n t) true).run Try.prog w = .ok (.tuple #[vL L n t, .bool (bL L n t)]) w := by
  rcases h with ⟨rfl, rfl⟩ | ⟨b, rfl, hh⟩
  · have := Maps.look_nil (P := Try.prog) (w := w) (t := 56) true keyE Try.underlying56 (zeroE w) (keyOf_e hn ht)
    exact this
  · obtain ⟨k, D, ho, hm⟩ := hh.map
    obtain ⟨v, ps, hrun, hv⟩ := ho.look_ok keyE Try.underlying56 (zeroE w) (zd := .held 0) (zp := []) rfl (keyOf_e hn ht)
    rw [hrun, mapOf_has hm hh.good hn ht]
    obtain ⟨c, rfl, hc⟩ := rE_inv hv
    cases ha : atL L n t with
    | none =>
      have hf : L.any (fun p => sameK n t p) = false := by
        rw [List.any_eq_false]
        intro p hp
        rw [atL_none ha p hp]; simp
      rw [hf]
      have hat := Maps.atKey_of_not_has (k := kyL n t) (D := D) (by rw [mapOf_has hm hh.good hn ht, hf]) (.held 0)
      rw [hat] at hc
      cases hc
      unfold vL bL
      rw [ha]
      rfl
    | some p =>
      obtain ⟨h1, rfl, rfl⟩ := atL_some ha
      have hf : L.any (fun q => sameK p.n p.t q) = true := List.any_eq_true.2 ⟨p, h1, sameK_iff.2 ⟨rfl, rfl⟩⟩
      rw [hf]
      rw [mapOf_at hm hh.good h1] at hc
      cases hc
      unfold vL bL
      rw [ha]
      rfl
theorem MapAt.len {w : World} {mb : Option Nat} {L : List En} (h : MapAt w mb L) (ty : TypeId) : (Builtin.len_ #[56] ty #[.map mb]).run Try.prog w = .ok (.int .i64 (L.length : Nat)) w := by
  rcases h with ⟨rfl, rfl⟩ | ⟨b, rfl, hh⟩
  · exact Maps.len_nil Try.underlying56 ty
  · obtain ⟨k, D, ho, hm⟩ := hh.map
    rw [ho.len Try.underlying56 ty, mapOf_size hm]

/-- A range over the map: one of its entries comes. -/
theorem rg_next {w : World} {b r n cnt : Nat} {D : DataW Int} {left : Lit → Bool} {L : List En} (h : w.ranges Try.prog 63 rE b r n D left cnt) (hm : MapOf D L) (hg : Good L) (ty : TypeId) :
    (cnt = 0 ∧ (∀ kl, left kl = false) ∧ (Instr.next (.pointer (some ⟨r, 0, none⟩)) false ty).run Try.prog w = .ok (.tuple #[.bool false]) w) ∨
    ∃ (p : En) (w' : World) (cnt' : Nat), p ∈ L ∧ left (kyL p.n p.t) = true ∧ (Instr.next (.pointer (some ⟨r, 0, none⟩)) false ty).run Try.prog w = .ok (.tuple #[.bool true, kyV p.n p.t, .int .i64 p.u]) w' ∧
      w'.ranges Try.prog 63 rE b r n D (fun x => left x && !x.sameKey (kyL p.n p.t)) cnt' ∧ cnt' < cnt ∧ w.grownBy w' (some r) ∧ w'.heap.size = w.heap.size ∧ (Instr.entry (.pointer (some ⟨r, 0, none⟩))).run Try.prog w' = .ok (.tuple #[kyV p.n p.t, .int .i64 p.u]) w' := by
  rcases h.next keyE ty with h | ⟨key, v, kl, y, w', cnt', hkey, hlk, hv, hat, hrun, hrg, hlt, hgr, hsz, hen⟩
  · exact .inl h
  · have hh := Maps.has_true_of_atKey hat
    obtain ⟨es, rfl, hp⟩ := hm
    have hh2 := hh
    rw [Maps.has_eq, any_perm hp, List.any_eq_true] at hh2
    obtain ⟨q, hq, hs⟩ := hh2
    obtain ⟨p, hpL, rfl⟩ := List.mem_map.1 hq
    have hkl : kyL p.n p.t = kl := WideAt.sameKey_eq hs
    subst hkl
    have hk2 := keyOf_e (max_ok (hg.ok p hpL).k) (wf_ok (hg.ok p hpL).k)
    have : key = kyV p.n p.t := keyE.inj hkey hk2
    subst this
    have ha := mapOf_at (L := L) ⟨es, rfl, hp⟩ hg hpL (.nil)
    rw [hat] at ha
    obtain ⟨c, rfl, hc⟩ := rE_inv hv
    rw [hc] at ha
    cases ha
    exact .inr ⟨p, w', cnt', hpL, hlk, hrun, hrg, hlt, hgr, hsz, hen⟩
theorem wpList_next_e (w : World) {ops : Array Oper} {rest : List Oper} {o : Oper} {a : Act} {Q : Exit → Act → World → Prop} (hgd : o.guard = none) (it : Operand) (hop : o.op = Op.next it false) (b r n cnt : Nat) (D : DataW Int) (left : Lit → Bool) (L : List En)
    (hit : a.eval it = .pointer (some ⟨r, 0, none⟩)) (h : w.ranges Try.prog 63 rE b r n D left cnt) (hm : MapOf D L) (hg : Good L)
    (hDone : cnt = 0 → (∀ kl, left kl = false) → wpList Try.prog ops Q rest (a.put o.dst (.tuple #[.bool false])) w)
    (hMore : ∀ (p : En) (w' : World) (cnt' : Nat), p ∈ L → left (kyL p.n p.t) = true → w'.ranges Try.prog 63 rE b r n D (fun x => left x && !x.sameKey (kyL p.n p.t)) cnt' → cnt' < cnt → w.grownBy w' (some r) → w'.heap.size = w.heap.size →
      (Instr.entry (.pointer (some ⟨r, 0, none⟩))).run Try.prog w' = .ok (.tuple #[kyV p.n p.t, .int .i64 p.u]) w' → wpList Try.prog ops Q rest (a.put o.dst (.tuple #[.bool true, kyV p.n p.t, .int .i64 p.u])) w') :
    wpList Try.prog ops Q (o :: rest) a w := by
  refine wpList_plain hgd fun K' hK' => ?_
  unfold Oper.wp
  rcases rg_next h hm hg o.type with ⟨h0, hl, hrun⟩ | ⟨p, w', cnt', hp, hlk, hrun, hrg, hlt, hgr, hsz, hen⟩
  · simp [execOp, hop, hit, hrun, Result.andThen]
    exact hK' _ _ (hDone h0 hl)
  · simp [execOp, hop, hit, hrun, Result.andThen]
    exact hK' _ _ (hMore p w' cnt' hp hlk hrg hlt hgr hsz hen)

end Ng
end Go.Proofs.Ytphhljbeaklikaa
