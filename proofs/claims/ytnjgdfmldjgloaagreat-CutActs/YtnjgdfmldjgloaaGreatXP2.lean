/- A message as it comes in, and how great its rows may be, where the seat has no text of package wire's to take them from. -/
import Derived.Test.YtnjgdfmldjgloaaGreatXP1
import Derived.ChangeSlices
import Derived.SliceStrings
import Derived.Carry
import Derived.ProofKit
import Derived.OpenShut
import Derived.ShutString
import Derived.Lib.AppendStr
import Derived.LoopN
import Derived.Deep.RegionWith
namespace Go.Proofs.YtnjgdfmldjgloaaGreat
open Go.ChangeShapes Go.WideShapes Go.ChangeAt Go.RowKit

theorem spot_none {w : World} {a : Addr} {v : Value} (h : w.cell? a = some v) : a.spot = none := by
  unfold World.cell? at h
  split at h
  · split at h
    · simp at h
    · rename_i h1; simpa using h1
  · simp at h
/-- One thing for each number below n. -/
theorem list_of {α : Type} {P : Nat → α → Prop} : ∀ (n : Nat), (∀ i, i < n → ∃ x, P i x) → ∃ xs : List α, xs.length = n ∧ ∀ i (h : i < xs.length), P i xs[i] := by
  intro n
  induction n with
  | zero => intro _; exact ⟨[], rfl, fun i h => by simp at h⟩
  | succ n ih =>
    intro h
    obtain ⟨xs, hl, hx⟩ := ih (fun i hi => h i (by omega))
    obtain ⟨x, hp⟩ := h n (by omega)
    refine ⟨xs ++ [x], by simp [hl], fun i hi => ?_⟩
    by_cases e : i < xs.length
    · rw [List.getElem_append_left e]; exact hx i e
    · have : i = n := by simp at hi; omega
      subst this
      rw [List.getElem_append_right (by omega)]
      simpa [hl] using hp
theorem add_in {g o k j : Nat} : ((⟨g, o, none⟩ : Addr).add k).add j = ⟨g, o + (k + j), none⟩ := by
  unfold Addr.add
  split <;> split <;> simp_all <;> omega
/-- A row of elements of z cells each, as it is read. -/
theorem row_of {α : Type} {f : α → List Value} {z : Nat} (hz : ∀ x, (f x).length = z) (hz0 : 0 < z) {w : World} {a : Addr} {len cap : Nat} {xs : List α} (hl : xs.length = len)
    (h : ∀ i (hi : i < xs.length), ∀ j, j < z → w.cell? ((a.add (i * z)).add j) = (f xs[i])[j]?) : Row w (.slice (some a) len cap) len (xs.flatMap f) := by
  obtain ⟨g, o, p⟩ := a
  have hp : 0 < len → p = none := fun h0 => by
    have h1 := h 0 (by omega) 0 hz0
    have h2 : w.cell? ⟨g, o, p⟩ = (f xs[0])[0]? := by simpa [Addr.add] using h1
    rw [List.getElem?_eq_getElem (by rw [hz]; exact hz0)] at h2
    exact spot_none h2
  refine .inr ⟨g, o, p, cap, rfl, hp, fun j u hu => ?_⟩
  have hj : j < xs.length * z := by have := (List.getElem?_eq_some_iff.1 hu).1; rwa [flat_len hz] at this
  have hlen : 0 < len := by
    cases len with
    | zero => rw [hl] at hj; simp at hj
    | succ n => omega
  have hp0 := hp hlen
  subst hp0
  have hi : j / z < xs.length := Nat.div_lt_of_lt_mul (by rw [Nat.mul_comm]; exact hj)
  have hm := Nat.mod_lt j hz0
  have e : j / z * z + j % z = j := by rw [Nat.mul_comm]; exact Nat.div_add_mod j z
  have h1 := h (j / z) hi (j % z) hm
  rw [add_in, e] at h1
  rw [h1, ← flat_get hz xs (j / z) hi (j % z) hm, e]
  exact hu
theorem s_cellsOf : Tryz.prog.cellsOf 9 = 1 := by kernel_rfl
theorem weights_all {H : Type} {P : Program} {ts : List TypeId} {ds : List (DataW H)} (h : (DataW.weightsEach P ts ds).all (· ≤ reachBytes) = true) {j : Nat} {t : TypeId} {d : DataW H} (ht : ts[j]? = some t) (hd : ds[j]? = some d) : (d.weights P t).all (· ≤ reachBytes) = true :=
  List.all_eq_true.2 fun n hn => List.all_eq_true.1 h n (DataW.weights_mem_each ht hd n hn)
theorem row_weight {H : Type} {enc : TypeId × Value → H} {W : World} {fuel : Nat} {t e : TypeId} {c : Value} {x : DataW H × List MemPlace} (hu : Tryz.prog.underlying t = some (.slice e)) (h : DataW.trod enc Tryz.prog W 0 (fun _ => true) true fuel t [c] = some x)
    (hw : (x.1.weights Tryz.prog t).all (· ≤ reachBytes) = true) {y : Option Addr} {n k : Nat} (hc : c = .slice y n k) : n * Tryz.prog.bytesOf e ≤ reachBytes := by
  rcases DataW.trod_slice hu h with ⟨h0, _⟩ | ⟨a, len, cap, elems, rest, _, _, hcs, hx, _, _, _, hlen, _⟩
  · rw [hc] at h0
    simp at h0
    rw [h0.2.1, Nat.zero_mul]
    exact Nat.zero_le _
  · rw [hc] at hcs
    simp at hcs
    rw [hx] at hw
    have := List.all_eq_true.1 hw ((elems.length + rest.length) * Tryz.prog.bytesOf e) (by simp [DataW.weights, hu])
    simp only [decide_eq_true_eq] at this
    refine Nat.le_trans (Nat.mul_le_mul_right _ ?_) this
    rw [hcs.2.1, hlen]
    omega

end Go.Proofs.YtnjgdfmldjgloaaGreat

/- What Parent, Last and Child answer: plain functions on bytes, with no word of the program. -/
namespace Go.Proofs.YtnjgdfmldjgloaaGreat.Pl

/-- A name without its first label. -/
def parR (l : List UInt8) : Option (List UInt8) := if isName l = true ∧ (labs l).length ≠ 0 then some (enc ((labs l).drop 1)) else none
/-- A name's last k labels. -/
def lastR (l : List UInt8) (k : Int) : Option (List UInt8) := if isName l = true ∧ 0 ≤ k ∧ k ≤ (labs l).length then some (lastN l k.toNat) else none
/-- A label ahead of a name. -/
def childR (x l : List UInt8) : Option (List UInt8) := if 1 ≤ x.length ∧ x.length ≤ 63 ∧ isName l = true ∧ 1 + x.length + l.length ≤ 255 then some (UInt8.ofNat x.length :: (x ++ l)) else none
/-- A name folded. -/
def foldR (l : List UInt8) : List UInt8 := if isName l = true then foldL l else []

theorem last_drop {l : List UInt8} (h : isName l = true) (k : Nat) : lastN l k = l.drop (pos (labs l) ((labs l).length - k)) := by
  obtain ⟨e1, _, _, _⟩ := enc_of h
  unfold lastN
  rw [← enc_drop, ← e1]

theorem name_pos {l : List UInt8} (h : isName l = true) : 0 < l.length := by
  obtain ⟨e1, _, _, _⟩ := enc_of h
  have := pos_lt (labs l) 0
  rw [← e1] at this
  omega

theorem labs_zero {l : List UInt8} (h : isName l = true) : (labs l).length = 0 ↔ l = [0] := by
  obtain ⟨e1, _, _, _⟩ := enc_of h
  constructor
  · intro hz
    rw [e1, List.eq_nil_of_length_eq_zero hz]; rfl
  · intro hz; rw [hz]; decide

/-- The first byte tells where the second label begins. -/
theorem first_len {l : List UInt8} (h : isName l = true) (h0 : (labs l).length ≠ 0) : 1 + (l[0]'(name_pos h)).toNat = pos (labs l) 1 ∧ 1 + (l[0]'(name_pos h)).toNat < l.length ∧ 1 ≤ (l[0]'(name_pos h)).toNat ∧ (l[0]'(name_pos h)).toNat ≤ 63 := by
  obtain ⟨e1, e2, _, _⟩ := enc_of h
  have h1 := pos_at (labs l) 0 (by omega)
  have h2 := e2 (labs l)[0] (List.getElem_mem _)
  have h3 : l[0]'(name_pos h) = UInt8.ofNat (labs l)[0].length := by
    rw [← h1]
    have e : ∀ (a b : List UInt8) (i j : Nat) (ha : i < a.length) (hb : j < b.length), a = b → i = j → a[i] = b[j] := by
      intro a b i j ha hb e f; subst e; subst f; rfl
    exact e _ _ _ _ _ _ e1 (pos_zero _).symm
  have h4 : (l[0]'(name_pos h)).toNat = (labs l)[0].length := by rw [h3, len_byte h2.2]
  have h5 := pos_succ (labs l) 0 (by omega)
  rw [pos_zero, show 0 + 1 = 1 from rfl] at h5
  have h6 := pos_lt (labs l) 1
  rw [← e1] at h6
  omega

theorem par_drop {l : List UInt8} (h : isName l = true) (h0 : (labs l).length ≠ 0) : parR l = some (l.drop (1 + (l[0]'(name_pos h)).toNat)) := by
  obtain ⟨e1, _, _, _⟩ := enc_of h
  unfold parR
  rw [if_pos ⟨h, h0⟩, (first_len h h0).1]
  congr 1
  rw [← enc_drop, ← e1]

theorem par_none {l : List UInt8} (h : isName l = false ∨ (labs l).length = 0) : parR l = none := by
  unfold parR
  rw [if_neg]
  rintro ⟨h1, h2⟩
  rcases h with h | h
  · rw [h] at h1; simp at h1
  · exact h2 h

end Go.Proofs.YtnjgdfmldjgloaaGreat.Pl

/- The order of names, label by label from the end: plain facts on bytes, with no word of the program. -/
namespace Go.Proofs.YtnjgdfmldjgloaaGreat.Pl

theorem fl_at (l : List UInt8) (k : Nat) (h1 : 1 ≤ k) (hk : k ≤ (labs l).length) : (fl l)[k - 1]'(by rw [fl_len]; omega) = foldL ((labs l)[(labs l).length - k]'(by omega)) := by
  unfold fl
  rw [List.getElem_reverse, List.getElem_map]
  congr 2
  simp
  omega

theorem cmp_start (a b : List UInt8) : cmpN a b = lexG (lexG cB) ((fl a).drop (1 - 1)) ((fl b).drop (1 - 1)) := rfl

theorem cmp_step {a b : List UInt8} {k : Nat} (h : cmpN a b = lexG (lexG cB) ((fl a).drop (k - 1)) ((fl b).drop (k - 1))) (h1 : 1 ≤ k) (ha : k ≤ (labs a).length) (hb : k ≤ (labs b).length) :
    cmpN a b = if ord ((labs a)[(labs a).length - k]'(by omega)) ((labs b)[(labs b).length - k]'(by omega)) = 0 then lexG (lexG cB) ((fl a).drop k) ((fl b).drop k) else ord ((labs a)[(labs a).length - k]'(by omega)) ((labs b)[(labs b).length - k]'(by omega)) := by
  rw [h, lexG_drop ord_ord _ _ (k - 1) (by rw [fl_len]; omega) (by rw [fl_len]; omega), fl_at a k h1 ha, fl_at b k h1 hb, show k - 1 + 1 = k from by omega]
  rfl

theorem cmp_next {a b : List UInt8} {k : Nat} (h : cmpN a b = lexG (lexG cB) ((fl a).drop (k - 1)) ((fl b).drop (k - 1))) (h1 : 1 ≤ k) (ha : k ≤ (labs a).length) (hb : k ≤ (labs b).length)
    (hz : ord ((labs a)[(labs a).length - k]'(by omega)) ((labs b)[(labs b).length - k]'(by omega)) = 0) : cmpN a b = lexG (lexG cB) ((fl a).drop (k + 1 - 1)) ((fl b).drop (k + 1 - 1)) := by
  rw [cmp_step h h1 ha hb, if_pos hz, show k + 1 - 1 = k from by omega]
theorem cmp_here {a b : List UInt8} {k : Nat} (h : cmpN a b = lexG (lexG cB) ((fl a).drop (k - 1)) ((fl b).drop (k - 1))) (h1 : 1 ≤ k) (ha : k ≤ (labs a).length) (hb : k ≤ (labs b).length)
    (hz : ord ((labs a)[(labs a).length - k]'(by omega)) ((labs b)[(labs b).length - k]'(by omega)) ≠ 0) : ord ((labs a)[(labs a).length - k]'(by omega)) ((labs b)[(labs b).length - k]'(by omega)) = cmpN a b := by
  rw [cmp_step h h1 ha hb, if_neg hz]
theorem cmp_end {a b : List UInt8} {k : Nat} (h : cmpN a b = lexG (lexG cB) ((fl a).drop (k - 1)) ((fl b).drop (k - 1))) (hk : k - 1 = (labs a).length ∨ k - 1 = (labs b).length) (ha : k - 1 ≤ (labs a).length) (hb : k - 1 ≤ (labs b).length) :
    sgn ((labs a).length : Int) ((labs b).length : Int) = cmpN a b := by
  rw [h, lexG_end _ _ (k - 1) (by rw [fl_len, fl_len]; exact hk) (by rw [fl_len]; exact ha) (by rw [fl_len]; exact hb), fl_len, fl_len]

theorem root_name : isName [0] = true := by decide
theorem root_labs : labs [0] = [] := by decide

/-- A name, or the root in its place. -/
def orR (l : List UInt8) : List UInt8 := if isName l = true then l else [0]
theorem orR_name (l : List UInt8) : isName (orR l) = true := by
  unfold orR; split
  · assumption
  · exact root_name
theorem orR_labs (l : List UInt8) : labs (orR l) = labs l := by
  unfold orR; split
  · rfl
  · rename_i h
    rw [root_labs, labs_none (by simpa using h)]
theorem orR_cmp (a b : List UInt8) : cmpN (orR a) (orR b) = cmpN a b := by unfold cmpN fl; rw [orR_labs, orR_labs]

theorem above_few {a b : List UInt8} (h : (labs b).length < (labs a).length) : aboveB a b = false := by
  unfold aboveB
  rw [show decide ((labs a).length ≤ (labs b).length) = false from by simp; omega]
  simp

end Go.Proofs.YtnjgdfmldjgloaaGreat.Pl

/- Rules that the order of names and what is above what keep: plain facts on bytes, with no word of the program. -/
namespace Go.Proofs.YtnjgdfmldjgloaaGreat.Pl

theorem cmp_three (a b : List UInt8) : -1 ≤ cmpN a b ∧ cmpN a b ≤ 1 := by
  rcases cmp_ord.three (fl a) (fl b) with h | h | h <;> (unfold cmpN; omega)
theorem cmp_anti (a b : List UInt8) : cmpN b a = - cmpN a b := cmp_ord.anti _ _
theorem cmp_trans {a b c : List UInt8} (h1 : cmpN a b ≤ 0) (h2 : cmpN b c ≤ 0) : cmpN a c ≤ 0 := cmp_ord.trans _ _ _ h1 h2
theorem cmp_self (a : List UInt8) : cmpN a a = 0 := (cmp_zero a a).2 rfl
theorem same_cmp {a b : List UInt8} (ha : isName a = true) (hb : isName b = true) : sameB a b = (cmpN a b == 0) := by
  rw [Bool.eq_iff_iff, same_iff]
  simp [ha, hb, cmp_zero]
theorem above_root {a : List UInt8} (ha : isName a = true) : aboveB [0] a = true := by
  rw [above_iff]
  refine ⟨root_name, ha, ?_⟩
  unfold fl
  rw [root_labs]
  exact List.nil_prefix
theorem same_fold {a : List UInt8} (ha : isName a = true) : sameB a (foldL a) = true := by
  rw [same_iff]
  exact ⟨ha, by rw [name_fold]; exact ha, (fl_fold a).symm⟩
theorem above_trans {a b c : List UInt8} (h1 : aboveB a b = true) (h2 : aboveB b c = true) : aboveB a c = true := by
  rw [above_iff] at *
  exact ⟨h1.1, h2.2.1, h1.2.2.trans h2.2.2⟩
theorem above_self {a : List UInt8} (ha : isName a = true) : aboveB a a = true := by
  rw [above_iff]; exact ⟨ha, ha, List.prefix_refl _⟩

/-- A label ahead of a name. -/
theorem child_some {x l t : List UInt8} (h : childR x l = some t) : isName l = true ∧ isName t = true ∧ labs t = x :: labs l ∧ t.length = 1 + x.length + l.length ∧ 1 ≤ x.length ∧ x.length ≤ 63 ∧ t.length ≤ 255 := by
  unfold childR at h
  split at h
  · rename_i hc
    obtain ⟨h1, h2, h3, h4⟩ := hc
    have ht := (Option.some.inj h).symm
    obtain ⟨e1, e2, e3, e4⟩ := enc_of h3
    have e5 : t = enc (x :: labs l) := by rw [ht, enc_cons, ← e1]
    have hg : GoodL (x :: labs l) := by
      intro y hy
      rcases List.mem_cons.1 hy with rfl | hy
      · exact ⟨h1, h2⟩
      · exact e2 y hy
    have hlen : t.length = 1 + x.length + l.length := by rw [ht]; simp; omega
    have := name_enc hg (by rw [← e5, hlen]; exact h4)
    rw [← e5] at this
    exact ⟨h3, this.1, this.2.2, hlen, h1, h2, by omega⟩
  · simp at h

theorem child_par {x l t : List UInt8} (h : childR x l = some t) : parR t = some l := by
  obtain ⟨h1, h2, h3, _⟩ := child_some h
  unfold parR
  rw [if_pos ⟨h2, by rw [h3]; simp⟩, h3]
  simp
  exact (enc_of h1).1.symm
theorem child_fl {x l t : List UInt8} (h : childR x l = some t) : fl t = fl l ++ [foldL x] := by
  obtain ⟨_, _, h3, _⟩ := child_some h
  unfold fl
  rw [h3]; simp
theorem child_above {x l t : List UInt8} (h : childR x l = some t) : aboveB l t = true := by
  obtain ⟨h1, h2, _⟩ := child_some h
  rw [above_iff]
  refine ⟨h1, h2, ?_⟩
  rw [child_fl h]
  exact List.prefix_append _ _
theorem child_below {x l t : List UInt8} (h : childR x l = some t) : aboveB t l = false := by
  obtain ⟨h1, h2, h3, _⟩ := child_some h
  exact above_few (by rw [h3]; simp)
theorem child_cmp {x l t : List UInt8} (h : childR x l = some t) : cmpN l t = -1 := by
  unfold cmpN
  rw [child_fl h]
  exact lexG_more ord_ord _ _ (by simp)

end Go.Proofs.YtnjgdfmldjgloaaGreat.Pl

/- What Parent, Last, Same, Above and Compare of package rel give, for every argument. -/
namespace Go.Proofs.YtnjgdfmldjgloaaGreat
open Go.RowKit
open Pl

/-- What Parent, Last and Child hand back. -/
def optV : Option (List UInt8) → Value
  | some l => .tuple #[.string ⟨l.toArray⟩, .int .i64 0]
  | none => .tuple #[.string ⟨#[]⟩, .int .i64 200]

theorem ret_some {r : Option (List UInt8)} {t : ByteArray} (h : r = some t.data.toList) : Ending.returned (.tuple #[.string t, .int .i64 0]) = .returned (optV r) := by rw [h]; rfl
theorem ret_none {r : Option (List UInt8)} (h : r = none) : Ending.returned (.tuple #[.string ⟨#[]⟩, .int .i64 200]) = .returned (optV r) := by rw [h]; rfl

theorem ext_from (s : ByteArray) (i : Nat) : (s.extract i s.size).data.toList = s.data.toList.drop i := by
  rw [ext_list, List.take_of_length_le (by simp)]

theorem root_test {s : ByteArray} {b : Bool} (h : decide (s.data.toList = [0]) = b) : (s.toList == [0]) = b := by
  rw [ByteArray.toList_eq, ← h, Bool.eq_iff_iff]; simp

set_option maxRecDepth 20000 in
theorem parent_any (s : ByteArray) (w : World) (hs : s.size ≤ maxLen) :
    Calls Tryz.prog 64 #[.string s] w fun e w' => e = .returned (optV (parR s.data.toList)) ∧ Below w.heap.size w w' := by
  cases h : isName s.data.toList with
  | false =>
    have HR : Hid (parR s.data.toList = none) := par_none (.inl h)
    go_enter Tryz.func64, Tryz.ntmps64
    go_wp2_with (go_at_call 67; refine (may_as _ false _ hs h).mono ?_; rintro e w' ⟨rfl, hw⟩; obtain rfl := hw.symm)
    go_ret2
    exact ⟨ret_none HR.out, Below.refl _ _⟩
  | true =>
    by_cases h0 : (labs s.data.toList).length = 0
    · have HR : Hid (parR s.data.toList = none) := par_none (.inr h0)
      have hr : (s.toList == [0]) = true := root_test (by simpa using (labs_zero h).1 h0)
      clear h0
      go_enter Tryz.func64, Tryz.ntmps64
      go_wp2_with (go_at_call 67; refine (may_as _ true _ hs h).mono ?_; rintro e w' ⟨rfl, hw⟩; obtain rfl := hw.symm)
      go_ret2
      exact ⟨ret_none HR.out, Below.refl _ _⟩
    · have hr : (s.toList == [0]) = false := root_test (by simpa using fun e => h0 ((labs_zero h).2 e))
      have hl := data_len s
      have h255 := name_size h
      have hsp : 0 < s.size := by rw [← hl]; exact name_pos h
      have hf := first_len h h0
      have hR := par_drop h h0
      have hb0 : s.data.toList[0]'(name_pos h) = s[0] := rfl
      rw [hb0] at hf hR
      have hi := idx s 0 0 rfl hsp
      have hlo : 1 + (s[0].toNat : Int) ≤ (s.size : Int) := by omega
      have HR : Hid (parR s.data.toList = some (s.extract (1 + s[0].toNat) s.size).data.toList) := by unfold Hid; rw [ext_from, hR]
      have hts : (s.extract (1 + s[0].toNat) s.size).size ≤ 1000000 := by simp; omega
      have h63 : s[0].toNat ≤ 63 := hf.2.2.2
      clear hf hR h0 hb0
      go_enter Tryz.func64, Tryz.ntmps64
      go_wp2_with (first
        | (go_at_call 67; refine (may_as _ true _ hs h).mono ?_; rintro e w' ⟨rfl, hw⟩; obtain rfl := hw.symm)
        | (go_at_call 82; go_must (refine (clone_any _ _ hts).mono ?_); rintro e w1 ⟨rfl, hb1⟩))
      go_ret2
      exact ⟨ret_some HR.out, hb1⟩

theorem orRoot_yes (s : ByteArray) (w : World) (hs : s.size ≤ maxLen) (h : isName s.data.toList = true) :
    Calls Tryz.prog 87 #[.string s] w fun e w' => e = .returned (.string s) ∧ w' = w := by
  go_enter Tryz.func87, Tryz.ntmps87
  go_wp2_with (go_at_call 67; refine (may_as _ true _ hs h).mono ?_; rintro e w' ⟨rfl, hw⟩; obtain rfl := hw.symm)
  go_ret
  exact ⟨rfl, rfl⟩
theorem orRoot_no (s : ByteArray) (w : World) (hs : s.size ≤ maxLen) (h : isName s.data.toList = false) :
    Calls Tryz.prog 87 #[.string s] w fun e w' => e = .returned (.string ⟨#[0]⟩) ∧ w' = w := by
  go_enter Tryz.func87, Tryz.ntmps87
  go_wp2_with (go_at_call 67; refine (may_as _ false _ hs h).mono ?_; rintro e w' ⟨rfl, hw⟩; obtain rfl := hw.symm)
  go_ret
  exact ⟨rfl, rfl⟩

theorem same_any (a b : ByteArray) (w : World) (ha : a.size ≤ maxLen) (hb : b.size ≤ maxLen) :
    Calls Tryz.prog 85 #[.string a, .string b] w fun e w' => e = .returned (.bool (sameB a.data.toList b.data.toList)) ∧ Below w.heap.size w w' := by
  cases h1 : isName a.data.toList with
  | false =>
    have HR : Hid (false = sameB a.data.toList b.data.toList) := by unfold Hid sameB; rw [h1]; rfl
    have t1 : True := trivial
    go_enter Tryz.func85, Tryz.ntmps85
    go_wp2_with (go_at_call 67; have _t := t1; refine (may_as _ false _ ha h1).mono ?_; rintro e w' ⟨rfl, hw⟩; obtain rfl := hw.symm; clear t1)
    go_ret
    exact ⟨ret_bool HR.out, Below.refl _ _⟩
  | true =>
    cases h2 : isName b.data.toList with
    | false =>
      have HR : Hid (false = sameB a.data.toList b.data.toList) := by unfold Hid sameB; rw [h1, h2]; rfl
      have t1 : True := trivial
      have t2 : True := trivial
      go_enter Tryz.func85, Tryz.ntmps85
      go_wp2_with (first
        | (go_at_call 67; have _t := t1; refine (may_as _ true _ ha h1).mono ?_; rintro e w' ⟨rfl, hw⟩; obtain rfl := hw.symm; clear t1)
        | (go_at_call 67; have _t := t2; refine (may_as _ false _ hb h2).mono ?_; rintro e w' ⟨rfl, hw⟩; obtain rfl := hw.symm; clear t2))
      go_ret
      exact ⟨ret_bool HR.out, Below.refl _ _⟩
    | true =>
      have HR : Hid ((ord a.data.toList b.data.toList == 0) = sameB a.data.toList b.data.toList) := by
        unfold Hid sameB
        rw [h1, h2, Bool.eq_iff_iff]
        simp [ord_zero]
      have t1 : True := trivial
      have t2 : True := trivial
      go_enter Tryz.func85, Tryz.ntmps85
      go_wp2_with (first
        | (go_at_call 67; have _t := t1; refine (may_as _ true _ ha h1).mono ?_; rintro e w' ⟨rfl, hw⟩; obtain rfl := hw.symm; clear t1)
        | (go_at_call 67; have _t := t2; refine (may_as _ true _ hb h2).mono ?_; rintro e w' ⟨rfl, hw⟩; obtain rfl := hw.symm; clear t2)
        | (go_at_call 89; refine (order_any _ _ _ ha hb).mono ?_; rintro e w1 ⟨rfl, hd⟩))
      go_ret
      exact ⟨ret_bool HR.out, below_drew hd⟩

end Go.Proofs.YtnjgdfmldjgloaaGreat

/- What Last and Above of package rel give, for every argument. -/
namespace Go.Proofs.YtnjgdfmldjgloaaGreat
open Go.RowKit
open Pl

theorem fill_at {w : World} {g : Nat} {C : Array Value} {ls : List (List UInt8)} (h : w.heap[g]? = some (.cells C 127 (0, 0))) (hF : Fill ls ls.length C) : PlAt w g ls :=
  ⟨by rw [cell_of_row w g 128 C 127 (0, 0) h]; exact hF.2.1, fun i hi => by rw [cell_of_row w g i C 127 (0, 0) h]; exact hF.2.2.1 i hi⟩

theorem Fill.all {ls : List (List UInt8)} {c : Nat} {C : Array Value} (h : Fill ls c C) : C.all (·.oneCell') = true := h.2.2.2

theorem few {s : ByteArray} (h : isName s.data.toList = true) : (labs s.data.toList).length ≤ 127 := by
  obtain ⟨e1, e2, _, e4⟩ := enc_of h
  have := labs_few e2
  rw [← e1] at this
  omega

theorem pos_in {s : ByteArray} (h : isName s.data.toList = true) (i : Nat) : pos (labs s.data.toList) i < s.size := by
  obtain ⟨e1, _, _, _⟩ := enc_of h
  have := pos_lt (labs s.data.toList) i
  rw [← e1, data_len] at this
  exact this

theorem last_ext {s : ByteArray} (h : isName s.data.toList = true) (k : Nat) : (s.extract (pos (labs s.data.toList) ((labs s.data.toList).length - k)) s.size).data.toList = lastN s.data.toList k := by
  rw [ext_from, last_drop h]

theorem zero47 : ∃ Z : Array Value, (∀ w, (zeroValue 127).run Tryz.prog w = .ok (.agg Z) w) ∧ Z.size = 129 := ⟨Z47, (zero_of_info info47).1, (fill_start []).1⟩

theorem last_no {l : List UInt8} {k : Int} (h : isName l = false ∨ k < 0 ∨ ((labs l).length : Int) < k) : lastR l k = none := by
  unfold lastR
  rw [if_neg]
  rintro ⟨h1, h2, h3⟩
  rcases h with h | h | h
  · rw [h] at h1; simp at h1
  · omega
  · omega
theorem last_yes {l : List UInt8} {k : Nat} (h : isName l = true) (hk : k ≤ (labs l).length) : lastR l (k : Int) = some (lastN l k) := by
  unfold lastR
  rw [if_pos ⟨h, by omega, by omega⟩]; rfl

end Go.Proofs.YtnjgdfmldjgloaaGreat

/- What Above of package rel gives, for every argument. -/
namespace Go.Proofs.YtnjgdfmldjgloaaGreat
open Go.RowKit
open Pl

theorem two_first (w : World) (Z : Array Value) : ((w.alloc (.cells Z 127)).alloc (.cells Z 127)).heap[w.heap.size]? = some (.cells Z 127 (0, 0)) := by
  rw [Below.heap_alloc (w.alloc (.cells Z 127)) _ w.heap.size (by simp)]
  exact heap_alloc_last w _
theorem two_second (w : World) (Z : Array Value) : ((w.alloc (.cells Z 127)).alloc (.cells Z 127)).heap[w.heap.size + 1]? = some (.cells Z 127 (0, 0)) := by
  have := heap_alloc_last (w.alloc (.cells Z 127)) (.cells Z 127)
  simpa using this

/-- Two new blocks, each written: what lies there, and that nothing else has turned. -/
theorem two_stored {w w2 w3 w4 : World} {Z C : Array Value} (hb : Below w.heap.size w w2)
    (h1 : w3.heap[w2.heap.size]? = some (.cells C 127 (0, 0))) (h2 : ((w2.alloc (.cells Z 127)).alloc (.cells Z 127)).grownBy w3 (some w2.heap.size)) (h3 : w3.heap.size = ((w2.alloc (.cells Z 127)).alloc (.cells Z 127)).heap.size)
    (k2 : w3.grownBy w4 (some (w2.heap.size + 1))) :
    w4.heap[w2.heap.size]? = some (.cells C 127 (0, 0)) ∧ Below w.heap.size w w4 := by
  have hs := hb.size
  have hs3 : w3.heap.size = w2.heap.size + 2 := by rw [h3]; simp
  refine ⟨?_, ?_⟩
  · rw [k2.block w2.heap.size (by omega) (by intro e; have := Option.some.inj e; omega)]; exact h1
  · have b1 : Below w.heap.size w ((w2.alloc (.cells Z 127)).alloc (.cells Z 127)) := lay (lay hb _) _
    have b2 : Below w.heap.size ((w2.alloc (.cells Z 127)).alloc (.cells Z 127)) w3 := ⟨h2.os, h2.tape, h2.output, h2.size, fun i hi => h2.block i (by simp; omega) (by intro e; have := Option.some.inj e; omega)⟩
    have b3 : Below w.heap.size w3 w4 := ⟨k2.os, k2.tape, k2.output, k2.size, fun i hi => k2.block i (by omega) (by intro e; have := Option.some.inj e; omega)⟩
    exact (b1.trans b2).trans b3

theorem two_left {w2 w3 : World} {Z : Array Value} (h2 : ((w2.alloc (.cells Z 127)).alloc (.cells Z 127)).grownBy w3 (some w2.heap.size)) : w3.heap[w2.heap.size + 1]? = some (.cells Z 127 (0, 0)) := by
  rw [h2.block (w2.heap.size + 1) (by simp) (by intro e; have := Option.some.inj e; omega)]
  exact two_second w2 Z

theorem above_ord {a b t : List UInt8} (h1 : isName a = true) (h2 : isName b = true) (h3 : (labs a).length ≤ (labs b).length) (ht : t = lastN b (labs a).length) : (ord a t == 0) = aboveB a b := by
  unfold aboveB
  rw [h1, h2, ht, Bool.eq_iff_iff]
  simp [h3, ord_zero]

set_option maxRecDepth 20000 in
set_option maxHeartbeats 2000000 in
theorem above_any (a b : ByteArray) (w : World) (ha : a.size ≤ maxLen) (hb : b.size ≤ maxLen) :
    Calls Tryz.prog 84 #[.string a, .string b] w fun e w' => e = .returned (.bool (aboveB a.data.toList b.data.toList)) ∧ Below w.heap.size w w' := by
  cases ha1 : isName a.data.toList with
  | false =>
    have HR : Hid (false = aboveB a.data.toList b.data.toList) := by unfold Hid aboveB; rw [ha1]; rfl
    go_enter Tryz.func84, Tryz.ntmps84
    go_wp2_with (go_at_call 67; refine (may_as _ false _ ha ha1).mono ?_; rintro e w' ⟨rfl, hw⟩; obtain rfl := hw.symm)
    go_ret
    exact ⟨ret_bool HR.out, Below.refl _ _⟩
  | true =>
    cases hb1 : isName b.data.toList with
    | false =>
      have HR : Hid (false = aboveB a.data.toList b.data.toList) := by unfold Hid aboveB; rw [ha1, hb1]; rfl
      have t1 : True := trivial
      have t2 : True := trivial
      go_enter Tryz.func84, Tryz.ntmps84
      go_wp2_with (first
        | (go_at_call 67; have _t := t1; refine (may_as _ true _ ha ha1).mono ?_; rintro e w' ⟨rfl, hw⟩; obtain rfl := hw.symm; clear t1)
        | (go_at_call 67; have _t := t2; refine (may_as _ false _ hb hb1).mono ?_; rintro e w' ⟨rfl, hw⟩; obtain rfl := hw.symm; clear t2))
      go_ret
      exact ⟨ret_bool HR.out, Below.refl _ _⟩
    | true =>
      obtain ⟨Z, hz, hZs⟩ := zero47
      obtain ⟨n, hn⟩ : ∃ n, n = (labs a.data.toList).length := ⟨_, rfl⟩
      obtain ⟨m, hm⟩ : ∃ m, m = (labs b.data.toList).length := ⟨_, rfl⟩
      have HN : Hid (n = (labs a.data.toList).length) := hn
      have HM : Hid (m = (labs b.data.toList).length) := hm
      have h127 : n ≤ 127 := by rw [hn]; exact few ha1
      have h127m : m ≤ 127 := by rw [hm]; exact few hb1
      by_cases hnm : m < n
      · have HR : Hid (false = aboveB a.data.toList b.data.toList) := (above_few (by omega)).symm
        have t1 : True := trivial
        have t2 : True := trivial
        have t3 : True := trivial
        have t4 : True := trivial
        clear hn hm
        go_enter Tryz.func84, Tryz.ntmps84
        go_wp2_with (first
          | (go_at_call 67; have _t := t1; refine (may_as _ true _ ha ha1).mono ?_; rintro e w' ⟨rfl, hw⟩; obtain rfl := hw.symm; clear t1)
          | (go_at_call 67; have _t := t2; refine (may_as _ true _ hb hb1).mono ?_; rintro e w' ⟨rfl, hw⟩; obtain rfl := hw.symm; clear t2)
          | (go_at_call 88; have _t := t3; refine (gather_any _ _ ha1).mono ?_; rintro e w1 ⟨C, rfl, hbel1, hF⟩; have HF : Hid (Fill (labs a.data.toList) (labs a.data.toList).length C) := hF; clear hF t3)
          | (go_at_call 88; have _t := t4; refine (gather_any _ _ hb1).mono ?_; rintro e w2 ⟨D, rfl, hbel2, hG⟩; have HG : Hid (Fill (labs b.data.toList) (labs b.data.toList).length D) := hG; clear hG t4)
          | (refine wpList_storePl _ rfl (.tmp 5) (.tmp 16) rfl w2.heap.size Z C rfl rfl (two_first _ _) hZs HF.out.1 HF.out.all ?_; intro w3 h1 h2 h3; go_must (refine wpList_storePl _ rfl (.tmp 6) (.tmp 18) rfl (w2.heap.size + 1) Z D rfl rfl (two_left h2) hZs HG.out.1 HG.out.all ?_); intro w4 k1 k2 k3; have hst := two_stored (next hbel1 hbel2) h1 h2 h3 k2; have hca := (fill_at hst.1 HF.out).1; have hcb := (fill_at k1 HG.out).1; rw [← HN.out] at hca; rw [← HM.out] at hcb; have hbel := hst.2; clear hst))
        go_ret
        exact ⟨ret_bool HR.out, hbel⟩
      · obtain ⟨P, hP⟩ : ∃ P, P = pos (labs b.data.toList) (m - n) := ⟨_, rfl⟩
        have hPs : P ≤ b.size := by have := pos_in hb1 (m - n); omega
        have HP : Hid (P = pos (labs b.data.toList) (m - n)) := hP
        have hnm' : n ≤ m := by omega
        have hnm2 : decide ((m : Int) < (n : Int)) = false := by simp; omega
        have HR : Hid ((ord a.data.toList (b.extract P b.size).data.toList == 0) = aboveB a.data.toList b.data.toList) := by
          unfold Hid
          exact above_ord ha1 hb1 (by omega) (by rw [hP, hm, hn, last_ext hb1])
        have hts : (b.extract P b.size).size ≤ maxLen := by have := name_size hb1; unfold maxLen; simp; omega
        have t1 : True := trivial
        have t2 : True := trivial
        have t3 : True := trivial
        have t4 : True := trivial
        clear hn hm hP hnm
        go_enter Tryz.func84, Tryz.ntmps84
        go_wp2_with (first
          | (go_at_call 67; have _t := t1; refine (may_as _ true _ ha ha1).mono ?_; rintro e w' ⟨rfl, hw⟩; obtain rfl := hw.symm; clear t1)
          | (go_at_call 67; have _t := t2; refine (may_as _ true _ hb hb1).mono ?_; rintro e w' ⟨rfl, hw⟩; obtain rfl := hw.symm; clear t2)
          | (go_at_call 88; have _t := t3; refine (gather_any _ _ ha1).mono ?_; rintro e w1 ⟨C, rfl, hbel1, hF⟩; have HF : Hid (Fill (labs a.data.toList) (labs a.data.toList).length C) := hF; clear hF t3)
          | (go_at_call 88; have _t := t4; refine (gather_any _ _ hb1).mono ?_; rintro e w2 ⟨D, rfl, hbel2, hG⟩; have HG : Hid (Fill (labs b.data.toList) (labs b.data.toList).length D) := hG; clear hG t4)
          | (refine wpList_storePl _ rfl (.tmp 5) (.tmp 16) rfl w2.heap.size Z C rfl rfl (two_first _ _) hZs HF.out.1 HF.out.all ?_; intro w3 h1 h2 h3; go_must (refine wpList_storePl _ rfl (.tmp 6) (.tmp 18) rfl (w2.heap.size + 1) Z D rfl rfl (two_left h2) hZs HG.out.1 HG.out.all ?_); intro w4 k1 k2 k3; have hst := two_stored (next hbel1 hbel2) h1 h2 h3 k2; have hca := (fill_at hst.1 HF.out).1; have hcb := (fill_at k1 HG.out).1; rw [← HN.out] at hca; rw [← HM.out] at hcb; have hbel := hst.2; have HK : Hid (w4.heap[w2.heap.size + 1]? = some (.cells D 127 (0, 0))) := k1; clear hst k1)
          | (go_at_call 99; go_must (refine (plLast_any b (b.extract P b.size) _ (w2.heap.size + 1) m n P hnm' h127m hcb (by rw [HP.out]; exact (fill_at HK.out HG.out).2 _ (by have := HM.out; omega)) hPs rfl).mono ?_); rintro e w5 ⟨rfl, hd5⟩)
          | (go_at_call 89; go_must (refine (order_any _ _ _ ha hts).mono ?_); rintro e w6 ⟨rfl, hd6⟩))
        go_ret
        exact ⟨ret_bool (by rw [← ext_list]; exact HR.out), next (next hbel (below_drew hd5)) (below_drew hd6)⟩

end Go.Proofs.YtnjgdfmldjgloaaGreat

/- What Compare of package rel gives, for every argument. -/
namespace Go.Proofs.YtnjgdfmldjgloaaGreat
open Go.RowKit
open Pl

theorem drew_cell {w u : World} (h : ∃ m, u = w.drewN m) (a : Addr) : u.cell? a = w.cell? a := by obtain ⟨m, rfl⟩ := h; rfl
theorem drew_trans {a b c : World} (h : ∃ m, b = a.drewN m) (k : ∃ m, c = b.drewN m) : ∃ m, c = a.drewN m := by
  obtain ⟨m, rfl⟩ := k
  exact drew_more h

theorem lab_ext {s : ByteArray} (h : isName s.data.toList = true) (i : Nat) (hi : i < (labs s.data.toList).length) : (s.extract (pos (labs s.data.toList) i + 1) (pos (labs s.data.toList) (i + 1))).data.toList = (labs s.data.toList)[i] := by
  obtain ⟨e1, _, _, _⟩ := enc_of h
  have := pos_label (labs s.data.toList) i hi
  rw [← e1] at this
  rw [ext_list]
  exact this

/-- The k-th label from the end, as the places tell it. -/
theorem label_of (s : ByteArray) (w : World) (g n k : Nat) (h : isName s.data.toList = true) (hn : n = (labs s.data.toList).length) (hk1 : 1 ≤ k) (hk : k ≤ n) (hp : PlAt w g (labs s.data.toList)) :
    ∃ t : ByteArray, t.data.toList = (labs s.data.toList)[(labs s.data.toList).length - k]'(by omega) ∧ t.size ≤ maxLen ∧ ∀ u : World, (∃ m, u = w.drewN m) →
      Calls Tryz.prog 90 #[.pointer (some ⟨g, 0, none⟩), .string s, .int .i64 (k : Int)] u fun e w' => e = .returned (.string t) ∧ ∃ m, w' = u.drewN m := by
  subst hn
  have h255 := name_size h
  have hf := few h
  have hi : (labs s.data.toList).length - k < (labs s.data.toList).length := by omega
  have hs := pos_succ (labs s.data.toList) _ hi
  have hq := pos_in h ((labs s.data.toList).length - k + 1)
  refine ⟨_, lab_ext h _ hi, by unfold maxLen; simp; omega, fun u hu => ?_⟩
  refine plLabel_any s _ u g (labs s.data.toList).length k _ _ hk1 hk hf (by rw [drew_cell hu]; exact hp.1) (by rw [drew_cell hu]; exact hp.2 _ (by omega)) (by rw [drew_cell hu]; exact hp.2 _ (by omega)) (by omega) (by omega) (by omega) rfl

set_option maxRecDepth 20000 in
set_option maxHeartbeats 2000000 in
theorem compare_core (a b A B : ByteArray) (w : World) (hA : isName A.data.toList = true) (hB : isName B.data.toList = true)
    (hoa : ∀ u : World, Calls Tryz.prog 87 #[.string a] u fun e w' => e = .returned (.string A) ∧ w' = u) (hob : ∀ u : World, Calls Tryz.prog 87 #[.string b] u fun e w' => e = .returned (.string B) ∧ w' = u) :
    Calls Tryz.prog 74 #[.string a, .string b] w fun e w' => e = .returned (.int .i64 (cmpN A.data.toList B.data.toList)) ∧ Below w.heap.size w w' := by
  have HOA : Hid (∀ u : World, Calls Tryz.prog 87 #[.string a] u fun e w' => e = .returned (.string A) ∧ w' = u) := hoa
  have HOB : Hid (∀ u : World, Calls Tryz.prog 87 #[.string b] u fun e w' => e = .returned (.string B) ∧ w' = u) := hob
  clear hoa hob
  obtain ⟨Z, hz, hZs⟩ := zero47
  obtain ⟨n, hn⟩ : ∃ n, n = (labs A.data.toList).length := ⟨_, rfl⟩
  obtain ⟨m, hm⟩ : ∃ m, m = (labs B.data.toList).length := ⟨_, rfl⟩
  have HN : Hid (n = (labs A.data.toList).length) := hn
  have HM : Hid (m = (labs B.data.toList).length) := hm
  have h127 : n ≤ 127 := by rw [hn]; exact few hA
  have h127m : m ≤ 127 := by rw [hm]; exact few hB
  obtain ⟨M, hmin⟩ : ∃ M : Nat, (if m < n then (m : Int) else (n : Int)) = (M : Int) := by
    by_cases h : m < n
    · exact ⟨m, by rw [if_pos h]⟩
    · exact ⟨n, by rw [if_neg h]⟩
  have HMM : Hid ((M = n ∨ M = m) ∧ M ≤ n ∧ M ≤ m) := by
    unfold Hid
    split at hmin <;> omega
  have hM127 : M ≤ 127 := by have := HMM.out; omega
  have t1 : True := trivial
  have t2 : True := trivial
  have t3 : True := trivial
  have t4 : True := trivial
  clear hn hm
  go_enter Tryz.func74, Tryz.ntmps74
  go_wp2_with (first
    | (go_at_call 87; have _t := t1; go_must (refine (HOA.out _).mono ?_); rintro e w' ⟨rfl, hw⟩; obtain rfl := hw.symm; clear t1)
    | (go_at_call 87; have _t := t2; go_must (refine (HOB.out _).mono ?_); rintro e w' ⟨rfl, hw⟩; obtain rfl := hw.symm; clear t2)
    | (go_at_call 88; have _t := t3; refine (gather_any _ _ hA).mono ?_; rintro e w1 ⟨C, rfl, hbel1, hF⟩; have HF : Hid (Fill (labs A.data.toList) (labs A.data.toList).length C) := hF; clear hF t3)
    | (go_at_call 88; have _t := t4; refine (gather_any _ _ hB).mono ?_; rintro e w2 ⟨D, rfl, hbel2, hG⟩; have HG : Hid (Fill (labs B.data.toList) (labs B.data.toList).length D) := hG; clear hG t4)
    | (refine wpList_storePl _ rfl (.tmp 5) (.tmp 14) rfl w2.heap.size Z C rfl rfl (two_first _ _) hZs HF.out.1 HF.out.all ?_; intro w3 h1 h2 h3; go_must (refine wpList_storePl _ rfl (.tmp 6) (.tmp 16) rfl (w2.heap.size + 1) Z D rfl rfl (two_left h2) hZs HG.out.1 HG.out.all ?_); intro w4 k1 k2 k3; have hst := two_stored (next hbel1 hbel2) h1 h2 h3 k2; have HPA : Hid (PlAt w4 w2.heap.size (labs A.data.toList)) := fill_at hst.1 HF.out; have HPB : Hid (PlAt w4 (w2.heap.size + 1) (labs B.data.toList)) := fill_at k1 HG.out; have HBEL : Hid (Below w.heap.size w w4) := hst.2; clear hst k1 k2 k3 h1 h2 h3))
  clear hbel1 hbel2 hz hZs HF HG
  go_loopw [7] (fun i wr => ∃ (k : Nat), 1 ≤ k ∧ k ≤ M + 1 ∧ i = .int .i64 k ∧ Hid (∃ m, wr = w4.drewN m) ∧ Hid (cmpN A.data.toList B.data.toList = lexG (lexG cB) ((fl A.data.toList).drop (k - 1)) ((fl B.data.toList).drop (k - 1)))) (fun i _ => M + 1 - (intOf i).toNat)
  case atStart => exact ⟨1, Nat.le_refl _, by omega, rfl, ⟨0, rfl⟩, cmp_start _ _⟩
  case round =>
    obtain ⟨k, hk1, hkM, rfl, hdr, hc⟩ := hrel
    have hca : wr.cell? ⟨w2.heap.size, 128, none⟩ = some (.int .i64 (n : Int)) := by rw [drew_cell hdr.out, HN.out]; exact HPA.out.1
    have hcb : wr.cell? ⟨w2.heap.size + 1, 128, none⟩ = some (.int .i64 (m : Int)) := by rw [drew_cell hdr.out, HM.out]; exact HPB.out.1
    by_cases hkl : k ≤ M
    · have hkl2 : (k : Int) ≤ (M : Int) := by omega
      have hkn : k ≤ n := by have := HMM.out; omega
      have hkm : k ≤ m := by have := HMM.out; omega
      obtain ⟨ta, hta, htas, hla⟩ := label_of A w4 w2.heap.size n k hA HN.out hk1 hkn HPA.out
      obtain ⟨tb, htb, htbs, hlb⟩ := label_of B w4 (w2.heap.size + 1) m k hB HM.out hk1 hkm HPB.out
      have HLA : Hid (∀ u : World, (∃ m, u = w4.drewN m) → Calls Tryz.prog 90 #[.pointer (some ⟨w2.heap.size, 0, none⟩), .string A, .int .i64 (k : Int)] u fun e w' => e = .returned (.string ta) ∧ ∃ m, w' = u.drewN m) := hla
      have HLB : Hid (∀ u : World, (∃ m, u = w4.drewN m) → Calls Tryz.prog 90 #[.pointer (some ⟨w2.heap.size + 1, 0, none⟩), .string B, .int .i64 (k : Int)] u fun e w' => e = .returned (.string tb) ∧ ∃ m, w' = u.drewN m) := hlb
      clear hla hlb
      have t1 : True := trivial
      have t2 : True := trivial
      by_cases hz : ord ta.data.toList tb.data.toList = 0
      · have HX : Hid (cmpN A.data.toList B.data.toList = lexG (lexG cB) ((fl A.data.toList).drop (k + 1 - 1)) ((fl B.data.toList).drop (k + 1 - 1))) := cmp_next hc.out hk1 (by have := HN.out; omega) (by have := HM.out; omega) (by rw [← hta, ← htb]; exact hz)
        clear hta htb
        go_wp2_with (first
          | (go_at_call 90; have _t := t1; go_must (refine (HLA.out _ hdr.out).mono ?_); rintro e w5 ⟨rfl, hd5⟩; clear t1; have HD5 := drew_trans hdr.out hd5; clear hd5; have HE5 : Hid (∃ m, w5 = w4.drewN m) := HD5; clear HD5)
          | (go_at_call 90; have _t := t2; go_must (refine (HLB.out _ HE5.out).mono ?_); rintro e w6 ⟨rfl, hd6⟩; clear t2; have HD6 := drew_trans HE5.out hd6; clear hd6; have HE6 : Hid (∃ m, w6 = w4.drewN m) := HD6; clear HD6)
          | (go_at_call 89; go_must (refine (order_any _ _ _ htas htbs).mono ?_); rintro e w7 ⟨rfl, hd7⟩; have HD7 := drew_trans HE6.out hd7; clear hd7; have HE7 : Hid (∃ m, w7 = w4.drewN m) := HD7; clear HD7))
        go_roundw
        case rel => exact ⟨k + 1, by omega, by omega, by go_num, HE7, HX⟩
        case measure => simp [intOf]; omega
      · have HX : Hid (ord ta.data.toList tb.data.toList = cmpN A.data.toList B.data.toList) := by
          have := cmp_here hc.out hk1 (by have := HN.out; omega) (by have := HM.out; omega) (by rw [← hta, ← htb]; exact hz)
          rw [← hta, ← htb] at this
          exact this
        have hz2 : (ord ta.data.toList tb.data.toList != 0) = true := by simpa using hz
        clear hta htb hz
        go_wp2_with (first
          | (go_at_call 90; have _t := t1; go_must (refine (HLA.out _ hdr.out).mono ?_); rintro e w5 ⟨rfl, hd5⟩; clear t1; have HD5 := drew_trans hdr.out hd5; clear hd5; have HE5 : Hid (∃ m, w5 = w4.drewN m) := HD5; clear HD5)
          | (go_at_call 90; have _t := t2; go_must (refine (HLB.out _ HE5.out).mono ?_); rintro e w6 ⟨rfl, hd6⟩; clear t2; have HD6 := drew_trans HE5.out hd6; clear hd6; have HE6 : Hid (∃ m, w6 = w4.drewN m) := HD6; clear HD6)
          | (go_at_call 89; go_must (refine (order_any _ _ _ htas htbs).mono ?_); rintro e w7 ⟨rfl, hd7⟩; have HD7 := drew_trans HE6.out hd7; clear hd7; have HE7 : Hid (∃ m, w7 = w4.drewN m) := HD7; clear HD7))
        go_ret
        exact ⟨ret_int HX.out, next HBEL.out (below_drew HE7.out)⟩
    · have HX : Hid (sgn (n : Int) (m : Int) = cmpN A.data.toList B.data.toList) := by
        unfold Hid
        rw [HN.out, HM.out]
        exact cmp_end hc.out (by have := HMM.out; have := HN.out; have := HM.out; omega) (by have := HMM.out; have := HN.out; omega) (by have := HMM.out; have := HM.out; omega)
      have hkl2 : ¬ (k : Int) ≤ (M : Int) := by omega
      go_wp2_with (go_at_call 91; go_must (refine (cmpI_any _ _ _).mono ?_); rintro e w' ⟨rfl, hw⟩; obtain rfl := hw.symm)
      go_ret
      exact ⟨ret_int HX.out, next HBEL.out (below_drew hdr.out)⟩

theorem compare_any (a b : ByteArray) (w : World) (ha : a.size ≤ maxLen) (hb : b.size ≤ maxLen) :
    Calls Tryz.prog 74 #[.string a, .string b] w fun e w' => e = .returned (.int .i64 (cmpN a.data.toList b.data.toList)) ∧ Below w.heap.size w w' := by
  have key : ∀ s : ByteArray, s.size ≤ maxLen → ∃ S : ByteArray, S.data.toList = orR s.data.toList ∧ ∀ u : World, Calls Tryz.prog 87 #[.string s] u fun e w' => e = .returned (.string S) ∧ w' = u := by
    intro s hs
    cases h : isName s.data.toList with
    | true => exact ⟨s, by unfold orR; rw [if_pos h], fun u => orRoot_yes s u hs h⟩
    | false => exact ⟨⟨#[0]⟩, by unfold orR; rw [if_neg (by rw [h]; simp)], fun u => orRoot_no s u hs h⟩
  obtain ⟨A, eA, hA⟩ := key a ha
  obtain ⟨B, eB, hB⟩ := key b hb
  have := compare_core a b A B w (by rw [eA]; exact orR_name _) (by rw [eB]; exact orR_name _) hA hB
  rw [eA, eB, orR_cmp] at this
  exact this

end Go.Proofs.YtnjgdfmldjgloaaGreat

/- What Child and Fold of package rel give, for every argument. -/
namespace Go.Proofs.YtnjgdfmldjgloaaGreat
open Go.RowKit
open Pl

theorem child_no {x l : List UInt8} (h : x.length < 1 ∨ 63 < x.length ∨ isName l = false ∨ 255 < 1 + x.length + l.length) : childR x l = none := by
  unfold childR
  rw [if_neg]
  rintro ⟨h1, h2, h3, h4⟩
  rcases h with h | h | h | h
  · omega
  · omega
  · rw [h] at h3; simp at h3
  · omega

theorem str_cells (s : ByteArray) : Lib.strCells s = s.data.toList.map bv := rfl

theorem child_cells (x s : ByteArray) (h : x.size ≤ 63) : [] ++ [Value.int .u8 (x.size : Int)] ++ Lib.strCells x ++ Lib.strCells s = (UInt8.ofNat x.size :: (x.data.toList ++ s.data.toList)).map bv := by
  rw [str_cells, str_cells]
  simp [bv]
  omega

end Go.Proofs.YtnjgdfmldjgloaaGreat

/- What Fold of package rel gives, for every argument. -/
namespace Go.Proofs.YtnjgdfmldjgloaaGreat
open Go.RowKit
open Pl

/-- A block that a string's bytes were laid in: these bytes at its head, and nothing of them frozen. -/
def BRow (w : World) (g : Nat) (l : List UInt8) : Prop :=
  ∃ cur : Array Value, w.heap[g]? = some (.cells cur 5 (cur.size, cur.size + 1)) ∧ l.length ≤ cur.size ∧ ∀ j (h : j < l.length), cur[j]? = some (bv l[j])

theorem BRow.cell {w : World} {g : Nat} {l : List UInt8} (h : BRow w g l) (j : Nat) (hj : j < l.length) : w.cell? ⟨g, j, none⟩ = some (.int .u8 (l[j].toNat : Int)) := by
  obtain ⟨cur, h1, h2, h3⟩ := h
  rw [cell_of_row w g j cur 5 _ h1]
  exact h3 j hj
theorem BRow.frozen {w : World} {g : Nat} {l : List UInt8} (h : BRow w g l) (j : Nat) (hj : j < l.length) : w.frozen? ⟨g, j, none⟩ = false := by
  obtain ⟨cur, h1, h2, h3⟩ := h
  simp only [World.frozen?, h1]
  simp
  omega
theorem BRow.stored {w : World} {g : Nat} {l : List UInt8} (h : BRow w g l) (j : Nat) (hj : j < l.length) (b : UInt8) :
    BRow (w.setCell ⟨g, j, none⟩ (.int .u8 (b.toNat : Int))) g (l.set j b) ∧ w.grownBy (w.setCell ⟨g, j, none⟩ (.int .u8 (b.toNat : Int))) (some g) := by
  obtain ⟨cur, h1, h2, h3⟩ := h
  refine ⟨⟨cur.setIfInBounds j (.int .u8 (b.toNat : Int)), ?_, by simpa using h2, fun i hi => ?_⟩, ⟨rfl, rfl, rfl, by simp, fun k _ hk => heap_setCell_other w ⟨g, j, none⟩ k _ (fun e => hk (by simp [e]))⟩⟩
  · rw [setCell_eq_setRow w g j cur 5 _ _ h1, setRow_heap w g cur _ 5 _ h1]
    simp
  · simp only [List.length_set] at hi
    by_cases e : i = j
    · subst e
      rw [Array.getElem?_setIfInBounds_self_of_lt (by omega), List.getElem_set_self]
      rfl
    · rw [Array.getElem?_setIfInBounds_ne (by omega), List.getElem_set_ne (by omega)]
      exact h3 i hi
theorem BRow.kept {w w' : World} {g : Nat} {l : List UInt8} (h : BRow w g l) (e : w'.heap[g]? = w.heap[g]?) : BRow w' g l := by
  obtain ⟨cur, h1, h2, h3⟩ := h
  exact ⟨cur, by rw [e]; exact h1, h2, h3⟩

/-- A string's bytes are laid in a block of their own. -/
theorem wpList_bytesB (w : World) {ops : Array Oper} {rest : List Oper} {o : Oper} {a : Act} {Q : Exit → Act → World → Prop} (hgd : o.guard = none) (x : Operand)
    (ho : o.op = .convert 9 110 x) (s : ByteArray) (hx : a.eval x = .string s)
    (h : ∀ cap w', BRow w' w.heap.size s.data.toList → w.grownBy w' none → w'.heap.size = w.heap.size + 1 →
      wpList Tryz.prog ops Q rest (a.put o.dst (.slice (some ⟨w.heap.size, 0, none⟩) s.size cap)) w') : wpList Tryz.prog ops Q (o :: rest) a w := by
  refine wpList_plain hgd fun K hK => ?_
  have hr := run_bytes_of_string (P := Tryz.prog) w 9 110 5 s Tryz.underlying9 Tryz.underlying110 Tryz.underlying5
  unfold Oper.wp execOp
  simp only [ho, hx, Sem.run_bind, hr, Result.andThen_ok, Sem.run_pure]
  refine hK _ _ (h _ _ ⟨_, heap_alloc_last w.drew _, ?_, fun j hj => ?_⟩ ⟨rfl, rfl, rfl, by simp, fun k hk _ => Below.heap_alloc w.drew _ k hk⟩ (by simp))
  · unfold bytesRow
    simp
  · unfold bytesRow
    rw [Array.getElem?_append_left (by simpa using hj)]
    have hd : j < s.data.size := by simpa using hj
    rw [Array.getElem?_map, Array.getElem?_eq_getElem hd]
    rfl

/-- Such bytes become a string. -/
theorem wpList_stringC (w : World) {ops : Array Oper} {rest : List Oper} {o : Oper} {a : Act} {Q : Exit → Act → World → Prop} (hgd : o.guard = none) (x : Operand)
    (ho : o.op = .convert 110 9 x) (g n cap : Nat) (l : List UInt8) (hx : a.eval x = .slice (some ⟨g, 0, none⟩) n cap) (hn : l.length = n) (hrow : BRow w g l)
    (h : wpList Tryz.prog ops Q rest (a.put o.dst (.string ⟨l.toArray⟩)) w) : wpList Tryz.prog ops Q (o :: rest) a w := by
  refine wpList_plain hgd fun K hK => ?_
  subst hn
  have hr := run_convert_bytes_back w 110 9 5 ⟨g, 0, none⟩ cap l Tryz.underlying110 Tryz.underlying5 Tryz.underlying9 fun j hj => by
    have hadd : (⟨g, 0, none⟩ : Addr).add j = ⟨g, j, none⟩ := by unfold Addr.add; split <;> simp_all
    rw [hadd]
    exact hrow.cell j hj
  unfold Oper.wp execOp
  simp only [ho, hx, Sem.run_bind, hr, Result.andThen_ok, Sem.run_pure]
  exact hK _ _ h

/-- Bytes, the first k of them folded. -/
def foldK (l : List UInt8) (k : Nat) : List UInt8 := foldL (l.take k) ++ l.drop k
theorem foldK_zero (l : List UInt8) : foldK l 0 = l := by simp [foldK, foldL]
theorem foldK_all (l : List UInt8) (k : Nat) (h : l.length ≤ k) : foldK l k = foldL l := by unfold foldK; rw [List.take_of_length_le h, List.drop_of_length_le h, List.append_nil]
theorem foldK_len (l : List UInt8) (k : Nat) : (foldK l k).length = l.length := by simp [foldK, foldL]; omega
theorem foldK_at (l : List UInt8) (k : Nat) (h : k < l.length) : (foldK l k)[k]'(by rw [foldK_len]; exact h) = l[k] := by
  unfold foldK
  rw [List.getElem_append_right (by simp [foldL]; omega), List.getElem_drop]
  congr 1
  simp [foldL]
  omega
theorem foldK_set (l : List UInt8) (k : Nat) (h : k < l.length) : (foldK l k).set k (fb l[k]) = foldK l (k + 1) := by
  unfold foldK
  have hk : (foldL (l.take k)).length = k := by simp [foldL]; omega
  rw [List.set_append_right _ _ (by omega), hk, Nat.sub_self, List.drop_eq_getElem_cons h, List.set_cons_zero, List.take_succ_eq_append_getElem h]
  unfold foldL
  rw [List.map_append, List.append_assoc]
  rfl

theorem foldR_yes {l : List UInt8} (h : isName l = true) : foldR l = foldL l := by unfold foldR; rw [if_pos h]
theorem foldR_no {l : List UInt8} (h : isName l = false) : foldR l = [] := by unfold foldR; rw [if_neg (by rw [h]; simp)]

theorem ret_str {a b : ByteArray} (h : a = b) : Ending.returned (.string a) = .returned (.string b) := by rw [h]

set_option maxRecDepth 20000 in
set_option maxHeartbeats 1000000 in
theorem fold_any (s : ByteArray) (w : World) (hs : s.size ≤ maxLen) :
    Calls Tryz.prog 32 #[.string s] w fun e w' => e = .returned (.string ⟨(foldR s.data.toList).toArray⟩) ∧ Below w.heap.size w w' := by
  cases h : isName s.data.toList with
  | false =>
    rw [foldR_no h]
    go_enter Tryz.func32, Tryz.ntmps32
    go_wp2_with (go_at_call 67; refine (may_as _ false _ hs h).mono ?_; rintro e w' ⟨rfl, hw⟩; obtain rfl := hw.symm)
    go_ret
    exact ⟨rfl, Below.refl _ _⟩
  | true =>
    rw [foldR_yes h]
    have h255 := name_size h
    have hl := data_len s
    go_enter Tryz.func32, Tryz.ntmps32
    go_wp2_with (first
      | (go_at_call 67; refine (may_as _ true _ hs h).mono ?_; rintro e w' ⟨rfl, hw⟩; obtain rfl := hw.symm)
      | (refine wpList_bytesB _ rfl (.tmp 9) rfl s rfl ?_; intro cap w1 hrow hg hsz))
    have hb1 := below_of hg
    go_loopw [13] (fun i wr => ∃ (k : Nat), k ≤ s.size ∧ i = .int .i64 k ∧ Hid (BRow wr w.heap.size (foldK s.data.toList k)) ∧ Below w.heap.size w wr ∧ w.heap.size < wr.heap.size) (fun i _ => s.size - (intOf i).toNat)
    case atStart => exact ⟨0, Nat.zero_le _, rfl, by unfold Hid; rw [foldK_zero]; exact hrow, hb1, by omega⟩
    case round =>
      clear hrow hg hsz hb1
      obtain ⟨k, hk, rfl, HR, hbel, hlt⟩ := hrel
      by_cases hks : k < s.size
      · have hkl : k < s.data.toList.length := by omega
        have hkl2 : k < (foldK s.data.toList k).length := by rw [foldK_len]; exact hkl
        have hcell : wr.cell? ⟨w.heap.size, k, none⟩ = some (.int .u8 (s[k].toNat : Int)) := by
          rw [HR.out.cell k hkl2, foldK_at _ _ hkl]; rfl
        have hfro := HR.out.frozen k hkl2
        have hst := HR.out.stored k hkl2 (fb s[k])
        rw [show s[k] = s.data.toList[k] from rfl, foldK_set _ _ hkl] at hst
        have HS : Hid (BRow (wr.setCell ⟨w.heap.size, k, none⟩ (.int .u8 ((fb s[k]).toNat : Int))) w.heap.size (foldK s.data.toList (k + 1)) ∧ wr.grownBy (wr.setCell ⟨w.heap.size, k, none⟩ (.int .u8 ((fb s[k]).toNat : Int))) (some w.heap.size)) := hst
        clear hst
        have hks2 : (k : Int) < (s.size : Int) := by omega
        go_wp2_with (go_at_call 68; go_must (refine (foldByte_any _ _).mono ?_); rintro e w' ⟨rfl, hw⟩; obtain rfl := hw.symm)
        go_roundw
        case rel => exact ⟨k + 1, by omega, by go_num, HS.out.1, hbel.grown HS.out.2 hbel.size (fun j e => by have := Option.some.inj e; omega), Nat.lt_of_lt_of_le hlt HS.out.2.size⟩
        case measure => simp [intOf]; omega
      · have HA : Hid (BRow wr w.heap.size (foldL s.data.toList)) := by unfold Hid; rw [← foldK_all s.data.toList k (by omega)]; exact HR
        have hn : (foldL s.data.toList).length = s.size := by rw [fold_len]; exact hl
        have HNN : Hid ((foldL s.data.toList).length = s.size) := hn
        clear hn
        go_wp2_with (refine wpList_stringC _ rfl (.tmp 24) rfl w.heap.size s.size cap (foldL s.data.toList) rfl HNN.out HA.out ?_)
        go_ret
        exact ⟨rfl, hbel⟩

end Go.Proofs.YtnjgdfmldjgloaaGreat

/- What places, May, Count and plain of the document's answers give, for every string. -/
namespace Go.Proofs.YtnjgdfmldjgloaaGreat
open Go.RowKit
open Pl

/-- A place as a cell. -/
def iv (n : Nat) : Value := .int .i64 (n : Int)

theorem info3 : (Tryz.prog.info? 3).map (fun i => (i.zero, i.size, i.bytes)) = some (some (.int .i64 0), 1, 8) := by kernel_rfl

/-- Numbers that have just been laid in a block of their own are appended to a row of numbers that the call owns. -/
theorem wpList_appI {w0 : World} {ops : Array Oper} {rest : List Oper} {o : Oper} {a : Act} {Q : Exit → Act → World → Prop} (hgd : o.guard = none) (s x : Operand)
    (ho : o.op = .call { callee := .builtin .append, args := #[s, x], argTypes := #[112, 112] }) (w : World) (L : List Value) (hw : w0 = w.alloc (.cells L.toArray 3)) (base : Nat) (v : Value) (n : Nat) (xs : List Value) (hs : a.eval s = v) (hown : w.ownsRow base 3 1 v n xs)
    (hx : a.eval x = .slice (some ⟨w.heap.size, 0, none⟩) L.length L.length) (hL : ∀ u ∈ L, ∃ z, u = .int .i64 z) (hm : 0 < L.length) (hn : n + L.length ≤ 10000000000000) (hbase : base ≤ w.heap.size)
    (h : ∀ g cap w', w'.ownsRow base 3 1 (.slice (some ⟨g, 0, none⟩) (n + L.length) cap) (n + L.length) (xs ++ L) → w.grownBy w' v.ownBlock → (v.ownBlock = some g ∨ w.heap.size ≤ g) → g < w'.heap.size →
      wpList Tryz.prog ops Q rest (a.put o.dst (.slice (some ⟨g, 0, none⟩) (n + L.length) cap)) w') : wpList Tryz.prog ops Q (o :: rest) a w0 := by
  subst hw
  obtain ⟨i0, hi, hz0, hz1, hz2⟩ := info_parts info3
  refine wpList_append_lies _ hgd s x 112 ho base 3 i0 (.int .i64 0) 1 8 Tryz.underlying112 hi hz0 hz1 hz2 rfl (by decide) v n xs hs (hown.alloc _) ⟨w.heap.size, 0, none⟩ L.length L.length L hx (by omega)
    (by simpa using World.news_of_block (heap_alloc_new w (.cells L.toArray 3))) (fun u hu => by obtain ⟨z, rfl⟩ := hL u hu; rfl) hm (by unfold maxLen; omega) (by omega) (by simp; omega) (w.heap.size + 1) (by simp) ?_
  intro g cap w' h1 h2 h3 h4
  refine h g cap w' h1 ?_ (h3.imp id (fun e => by omega)) h4
  refine ⟨h2.os, h2.tape, h2.output, ?_, fun k hk hne => ?_⟩
  · have := h2.size; simp at this; omega
  · exact (h2.block k (by simp; omega) hne).trans (Below.heap_alloc w _ k hk)

/-- What places leaves. -/
def PlPost (l : List UInt8) (w w' : World) (v : Value) : Prop :=
  isName l = true → ∃ g cap qs, v = .slice (some ⟨g, 0, none⟩) qs.length cap ∧ Places l qs ∧ w'.ownsRow w.heap.size 3 1 (.slice (some ⟨g, 0, none⟩) qs.length cap) qs.length (qs.map iv)

theorem pl_no {l : List UInt8} {w w' : World} {v : Value} (h : nm l = none) (hb : Below w.heap.size w w') : ∃ v', Ending.returned (.tuple #[v, .bool false]) = .returned (.tuple #[v', .bool (isName l)]) ∧ Below w.heap.size w w' ∧ PlPost l w w' v' := by
  have hn : isName l = false := by unfold isName; rw [h]; rfl
  exact ⟨v, by rw [hn], hb, fun e => by rw [hn] at e; simp at e⟩

theorem pl_yes {l : List UInt8} {w w' : World} {g cap n p : Nat} {qs : List Nat} (hn : n = qs.length) (hown : w'.ownsRow w.heap.size 3 1 (.slice (some ⟨g, 0, none⟩) (n + 1) cap) (n + 1) (qs.map iv ++ [.int .i64 (p : Int)])) (h : isName l = true ∧ Places l (qs ++ [p])) (hb : Below w.heap.size w w') :
    ∃ v', Ending.returned (.tuple #[.slice (some ⟨g, 0, none⟩) (n + 1) cap, .bool true]) = .returned (.tuple #[v', .bool (isName l)]) ∧ Below w.heap.size w w' ∧ PlPost l w w' v' := by
  subst hn
  refine ⟨_, by rw [h.1], hb, fun _ => ⟨g, cap, qs ++ [p], by simp, h.2, ?_⟩⟩
  have e : (qs ++ [p]).map iv = qs.map iv ++ [.int .i64 (p : Int)] := by simp [iv]
  rw [e, show (qs ++ [p]).length = qs.length + 1 from by simp]
  exact hown

theorem pl_next {w : World} {B n p : Nat} {v : Value} {qs : List Nat} (h : w.ownsRow B 3 1 v n (qs.map iv ++ [.int .i64 (p : Int)])) : w.ownsRow B 3 1 v n ((qs ++ [p]).map iv) := by
  rw [show (qs ++ [p]).map iv = qs.map iv ++ [.int .i64 (p : Int)] from by simp [iv]]; exact h

set_option maxRecDepth 20000 in
set_option maxHeartbeats 1000000 in
theorem places_any (s : ByteArray) (w : World) (hs : s.size ≤ maxLen) :
    Calls Tryz.prog 70 #[.string s] w fun e w' => ∃ v, e = .returned (.tuple #[v, .bool (isName s.data.toList)]) ∧ Below w.heap.size w w' ∧ PlPost s.data.toList w w' v := by
  unfold maxLen at hs
  have hl := data_len s
  by_cases h : s.size ≤ 255
  · go_enter Tryz.func70, Tryz.ntmps70
    go_wp2
    go_loopw [4, 5] (fun v i wr => ∃ (p n : Nat) (qs : List Nat), n ≤ p ∧ p ≤ 400 ∧ i = .int .i64 p ∧ n = qs.length ∧ wr.ownsRow w.heap.size 3 1 v n (qs.map iv) ∧ Below w.heap.size w wr ∧ Hid (At s.data.toList p n) ∧ Hid (LbSteps s.data.toList (qs ++ [p]))) (fun _ i _ => s.size - (intOf i).toNat)
    case atStart => exact ⟨0, 0, [], Nat.zero_le _, by omega, rfl, rfl, World.ownsRow_nil _ _ _ _, Below.refl _ _, at_start _, steps_start _⟩
    case round =>
      obtain ⟨p, n, qs, hnp, hp4, rfl, hnq, hown, hbel, hat, hst⟩ := hrel
      have HNQ : Hid (n = qs.length) := hnq
      clear hnq
      have hB : w.heap.size ≤ wr.heap.size := hbel.size
      have hn := nm_short (l := s.data.toList) (by omega)
      have HN : Hid (nm s.data.toList = nmS 0 s.data.toList) := hn
      clear hn
      by_cases hlt : p < s.size
      · have hb := UInt8.toNat_lt (s[p])
        have hlt' : p < s.data.toList.length := by omega
        by_cases h0 : ((s[p].toNat : Int) == 0) = true
        · have hz : s[p].toNat = 0 := by simpa using h0
          have HZ : Hid (s[p].toNat = 0) := hz
          clear hz
          by_cases he : (((p : Int) + 1) == (s.size : Int)) = true
          · have HP : Hid (isName s.data.toList = true ∧ Places s.data.toList (qs ++ [p])) := places_end hst.out (by rw [← HNQ.out]; exact hat.out) (by omega) hlt' HZ.out (by simp at he; omega)
            go_wp2_with (at_builtin; refine wpList_appI rfl _ _ rfl _ _ rfl w.heap.size _ _ _ rfl hown rfl (by simp) (by simp) (by simp; omega) hB ?_; intro g cap w2 h1 h2 h3 h4)
            have hbel2 := hbel.grown h2 hB (fun k e => (hown.lt k e).1)
            go_ret2
            exact pl_yes HNQ.out h1 HP.out hbel2
          · have HE : Hid (nm s.data.toList = none) := by
              unfold Hid; rw [HN.out, at_end hat.out hlt' HZ.out, if_neg (by simp at he; omega)]
            go_wp2_with (at_builtin; refine wpList_appI rfl _ _ rfl _ _ rfl w.heap.size _ _ _ rfl hown rfl (by simp) (by simp) (by simp; omega) hB ?_; intro g cap w2 h1 h2 h3 h4)
            have hbel2 := hbel.grown h2 hB (fun k e => (hown.lt k e).1)
            go_ret2
            exact pl_no HE.out hbel2
        · have hz : s[p].toNat ≠ 0 := by simpa using h0
          by_cases h63 : s[p].toNat ≤ 63
          · have HE : Hid (At s.data.toList (p + (1 + s[p].toNat)) (n + 1)) := at_step hat hlt' hz h63
            have HSS : Hid (LbSteps s.data.toList (qs ++ [p] ++ [p + 1 + s[p].toNat])) := steps_next hst hlt' hz
            go_wp2_with (at_builtin; refine wpList_appI rfl _ _ rfl _ _ rfl w.heap.size _ _ _ rfl hown rfl (by simp) (by simp) (by simp; omega) hB ?_; intro g cap w2 h1 h2 h3 h4)
            go_roundw
            case rel => exact ⟨p + 1 + s[p].toNat, n + 1, qs ++ [p], by omega, by omega, by go_num, by simp [HNQ.out], pl_next h1, hbel.grown h2 hB (fun k e => (hown.lt k e).1), by rw [show p + 1 + s[p].toNat = p + (1 + s[p].toNat) from by omega]; exact HE, HSS⟩
            case measure => simp [intOf]; omega
          · have HE : Hid (nm s.data.toList = none) := HN.out.trans (at_great hat hlt' (by show 63 < s[p].toNat; omega))
            go_wp2_with (at_builtin; refine wpList_appI rfl _ _ rfl _ _ rfl w.heap.size _ _ _ rfl hown rfl (by simp) (by simp) (by simp; omega) hB ?_; intro g cap w2 h1 h2 h3 h4)
            have hbel2 := hbel.grown h2 hB (fun k e => (hown.lt k e).1)
            go_ret2
            exact pl_no HE.out hbel2
      · have HE : Hid (nm s.data.toList = none) := HN.out.trans (at_past hat (by omega))
        go_wp2
        go_ret2
        exact pl_no HE.out hbel
  · have HE : Hid (nm s.data.toList = none) := by unfold Hid nm; rw [if_pos (by omega)]
    go_enter Tryz.func70, Tryz.ntmps70
    go_wp2
    refine wp_loop_rounds 1 ?_
    rw [rounds_succ]
    go_wp2
    all_goals go_ret2
    all_goals exact pl_no HE.out (Below.refl _ _)

theorem cnt_none' {l : List UInt8} (h : isName l = false) : cnt l = 0 := by
  unfold isName at h
  unfold cnt
  cases hn : nm l with
  | none => rfl
  | some n => rw [hn] at h; simp at h

theorem refMay_any (s : ByteArray) (w : World) (hs : s.size ≤ maxLen) :
    Calls Tryz.prog 69 #[.string s] w fun e w' => e = .returned (.bool (isName s.data.toList)) ∧ Below w.heap.size w w' := by
  go_enter Tryz.func69, Tryz.ntmps69
  go_wp2_with (go_at_call 70; refine (places_any _ _ hs).mono ?_; rintro e w' ⟨v, rfl, hb, hp⟩)
  go_ret
  exact ⟨rfl, hb⟩

theorem refCount_any (s : ByteArray) (w : World) (hs : s.size ≤ maxLen) :
    Calls Tryz.prog 59 #[.string s] w fun e w' => e = .returned (.int .i64 (cnt s.data.toList)) ∧ Below w.heap.size w w' := by
  cases h : isName s.data.toList with
  | false =>
    rw [cnt_none' h]
    go_enter Tryz.func59, Tryz.ntmps59
    go_wp2_with (go_at_call 70; refine (places_any _ _ hs).mono ?_; rintro e w' ⟨v, rfl, hb, hp⟩)
    go_ret
    exact ⟨rfl, hb⟩
  | true =>
    go_enter Tryz.func59, Tryz.ntmps59
    go_wp2_with (go_at_call 70; refine (places_any _ _ hs).mono ?_; rintro e w' ⟨v, rfl, hb, hp⟩; obtain ⟨g, cap, qs, rfl, hpl, hown⟩ := hp h; obtain ⟨n, hn⟩ : ∃ n, n = qs.length := ⟨_, rfl⟩; rw [← hn]; have hn2 : n = cnt s.data.toList + 1 := hn.trans hpl.2.1; have HN : Hid (n = cnt s.data.toList + 1) := hn2; have hn3 : n ≤ 256 := (by have := cnt_le s.data.toList; omega); have hn4 : 1 ≤ n := (by omega); clear hp hpl hown hn hn2)
    go_ret
    exact ⟨ret_int (by have := HN.out; omega), hb⟩

end Go.Proofs.YtnjgdfmldjgloaaGreat

/- The contracts of package rel with their answers named; what awake gives: true. -/
namespace Go.Proofs.YtnjgdfmldjgloaaGreat
open Go.RowKit
open Pl

theorem parent_ok (s t : ByteArray) (w : World) (hs : s.size ≤ maxLen) (h : parR s.data.toList = some t.data.toList) :
    Calls Tryz.prog 64 #[.string s] w fun e w' => e = .returned (.tuple #[.string t, .int .i64 0]) ∧ Below w.heap.size w w' := by
  have := parent_any s w hs
  rw [h] at this
  exact this
theorem parent_err (s : ByteArray) (w : World) (hs : s.size ≤ maxLen) (h : parR s.data.toList = none) :
    Calls Tryz.prog 64 #[.string s] w fun e w' => e = .returned (.tuple #[.string ⟨#[]⟩, .int .i64 200]) ∧ Below w.heap.size w w' := by
  have := parent_any s w hs
  rw [h] at this
  exact this
theorem fold_as (s t : ByteArray) (w : World) (hs : s.size ≤ maxLen) (h : foldR s.data.toList = t.data.toList) :
    Calls Tryz.prog 32 #[.string s] w fun e w' => e = .returned (.string t) ∧ Below w.heap.size w w' := by
  have := fold_any s w hs
  rw [h] at this
  exact this
theorem same_as (a b : ByteArray) (v : Bool) (w : World) (ha : a.size ≤ maxLen) (hb : b.size ≤ maxLen) (h : sameB a.data.toList b.data.toList = v) :
    Calls Tryz.prog 85 #[.string a, .string b] w fun e w' => e = .returned (.bool v) ∧ Below w.heap.size w w' := by rw [← h]; exact same_any a b w ha hb
theorem above_as (a b : ByteArray) (v : Bool) (w : World) (ha : a.size ≤ maxLen) (hb : b.size ≤ maxLen) (h : aboveB a.data.toList b.data.toList = v) :
    Calls Tryz.prog 84 #[.string a, .string b] w fun e w' => e = .returned (.bool v) ∧ Below w.heap.size w w' := by rw [← h]; exact above_any a b w ha hb
theorem compare_as (a b : ByteArray) (c : Int) (w : World) (ha : a.size ≤ maxLen) (hb : b.size ≤ maxLen) (h : cmpN a.data.toList b.data.toList = c) :
    Calls Tryz.prog 74 #[.string a, .string b] w fun e w' => e = .returned (.int .i64 c) ∧ Below w.heap.size w w' := by rw [← h]; exact compare_any a b w ha hb
theorem refMay_as (s : ByteArray) (b : Bool) (w : World) (hs : s.size ≤ maxLen) (h : isName s.data.toList = b) :
    Calls Tryz.prog 69 #[.string s] w fun e w' => e = .returned (.bool b) ∧ Below w.heap.size w w' := by rw [← h]; exact refMay_any s w hs

abbrev kA : ByteArray := ⟨#[3, 87, 87, 87, 1, 99, 0]⟩
abbrev kB : ByteArray := ⟨#[1, 67, 0]⟩
abbrev kC : ByteArray := ⟨#[1, 99, 0]⟩
abbrev kX : ByteArray := ⟨#[120]⟩
abbrev kY : ByteArray := ⟨#[1, 120, 1, 67, 0]⟩
abbrev kF : ByteArray := ⟨#[3, 119, 119, 119, 1, 99, 0]⟩
abbrev kR : ByteArray := ⟨#[0]⟩

theorem q1 : parR kA.data.toList = some kC.data.toList := by decide +kernel
theorem q2 : lastR kA.data.toList 1 = some kC.data.toList := by decide +kernel
theorem q3 : childR kX.data.toList kB.data.toList = some kY.data.toList := by decide +kernel
theorem q4 : parR kR.data.toList = none := by decide +kernel
theorem q5 : foldR kA.data.toList = kF.data.toList := by decide +kernel
theorem q6 : sameB kB.data.toList kC.data.toList = true := by decide +kernel
theorem q7 : aboveB kB.data.toList kA.data.toList = true := by decide +kernel
theorem q8 : aboveB kA.data.toList kB.data.toList = false := by decide +kernel
theorem q9 : cmpN kA.data.toList kB.data.toList = 1 := by decide +kernel
theorem q10 : cmpN kB.data.toList kB.data.toList = 0 := by decide +kernel
theorem sz {s : ByteArray} (h : s.size ≤ 1000) : s.size ≤ maxLen := by unfold maxLen; omega

end Go.Proofs.YtnjgdfmldjgloaaGreat

/- What Fold, last, Same, Above, Parent, Last and Child of the document's answers give, for every argument. -/
namespace Go.Proofs.YtnjgdfmldjgloaaGreat
open Go.RowKit
open Pl

theorem foldK_still {l : List UInt8} {k : Nat} (h : k < l.length) (hb : fb l[k] = l[k]) : foldK l (k + 1) = foldK l k := by
  rw [← foldK_set l k h, hb]
  apply List.ext_getElem (by simp)
  intro j h1 h2
  rw [List.getElem_set]
  split
  · rename_i e; subst e; rw [foldK_at l _ h]
  · rfl

theorem refFold_no (s : ByteArray) (w : World) (hs : s.size ≤ maxLen) (h : isName s.data.toList = false) :
    Calls Tryz.prog 35 #[.string s] w fun e w' => e = .returned (.string ⟨(foldR s.data.toList).toArray⟩) ∧ Below w.heap.size w w' := by
  rw [foldR_no h]
  go_enter Tryz.func35, Tryz.ntmps35
  go_wp2_with (go_at_call 70; refine (places_any _ _ hs).mono ?_; rintro e w' ⟨v, rfl, hb, hp⟩)
  go_ret
  exact ⟨rfl, hb⟩

/-- The place of a name's label, and the label's length there. -/
theorem name_at {s : ByteArray} (h : isName s.data.toList = true) (i : Nat) (hi : i < (labs s.data.toList).length) :
    ∃ hp : pos (labs s.data.toList) i < s.data.toList.length, (s.data.toList[pos (labs s.data.toList) i]'hp).toNat ≤ 63 := by
  obtain ⟨e1, e2, _, _⟩ := enc_of h
  have hp : pos (labs s.data.toList) i < s.data.toList.length := by have := pos_in h i; rw [data_len]; exact this
  refine ⟨hp, ?_⟩
  have h1 := pos_at (labs s.data.toList) i hi
  have e : ∀ (a b : List UInt8) (k : Nat) (ha : k < a.length) (hb : k < b.length), a = b → a[k] = b[k] := by
    intro a b k ha hb e; subst e; rfl
  rw [e _ _ _ hp (pos_lt _ _) e1, h1, len_byte (e2 _ (List.getElem_mem _)).2]
  exact (e2 _ (List.getElem_mem _)).2

set_option maxRecDepth 20000 in
set_option maxHeartbeats 2000000 in
theorem refFold_yes (s : ByteArray) (w : World) (h : isName s.data.toList = true) :
    Calls Tryz.prog 35 #[.string s] w fun e w' => e = .returned (.string ⟨(foldR s.data.toList).toArray⟩) ∧ Below w.heap.size w w' := by
  rw [foldR_yes h]
  have h255 := name_size h
  have hsl := data_len s
  have hs : s.size ≤ maxLen := by unfold maxLen; omega
  have h127 := few h
  go_enter Tryz.func35, Tryz.ntmps35
  go_wp2_with (first
    | (go_at_call 70; refine (places_any _ _ hs).mono ?_; rintro e w1 ⟨v, rfl, hb1, hp⟩; obtain ⟨gp, cap, qs, rfl, hpl, hown⟩ := hp h; obtain ⟨n, hn⟩ : ∃ n, n = qs.length := ⟨_, rfl⟩; rw [← hn] at hown ⊢; have hq := places_pos h hpl; have HN : Hid (n = (labs s.data.toList).length + 1) := hn.trans hq.1; have HNQ : Hid (n = qs.length) := hn; have HQ : Hid (∀ i, i ≤ (labs s.data.toList).length → qs.getD i 0 = pos (labs s.data.toList) i) := hq.2; have hn3 : n ≤ 128 := (by have := hn.trans hq.1; omega); have hn4 : 1 ≤ n := (by have := hn.trans hq.1; omega); clear hp hpl hn hq)
    | (refine wpList_bytesB _ rfl (.tmp 15) rfl s rfl ?_; intro cap2 w2 hrow hg hsz))
  have hgl1 : gp < w1.heap.size := (hown.lt gp rfl).2
  have hgb : w.heap.size ≤ gp := (hown.lt gp rfl).1
  have hpc : ∀ j, j < n → w2.cell? ⟨gp, j, none⟩ = some (.int .i64 (pos (labs s.data.toList) j : Nat)) := fun j hj => by
    have e : w1.cell? ⟨gp, j, none⟩ = some (.int .i64 (pos (labs s.data.toList) j : Nat)) := by
      rw [hown.cellAt j (by omega)]
      have hj' : j < qs.length := by rw [← HNQ.out]; exact hj
      rw [← HQ.out j (by have := HN.out; omega)]
      simp [hj', iv]
    exact hg.cell e (by simp)
  have hb2 : Below w.heap.size w w2 := next hb1 (below_of hg)
  obtain ⟨go, hgo⟩ : ∃ go, go = w1.heap.size := ⟨_, rfl⟩
  rw [← hgo] at hrow ⊢
  have hne : gp ≠ go := by omega
  have hgo2 : w.heap.size ≤ go := by omega
  have HROW : Hid (BRow w2 go (foldK s.data.toList (pos (labs s.data.toList) 0))) := by unfold Hid; rw [pos_zero, foldK_zero]; exact hrow
  clear hown hrow hg hsz hb1 hgo hgl1
  go_loopw [6] (fun i wr => ∃ (k : Nat), k + 1 ≤ n ∧ i = .int .i64 k ∧ Hid (BRow wr go (foldK s.data.toList (pos (labs s.data.toList) k))) ∧ (∀ j, j < n → wr.cell? ⟨gp, j, none⟩ = some (.int .i64 (pos (labs s.data.toList) j : Nat))) ∧ Below w.heap.size w wr) (fun i _ => n - (intOf i).toNat)
  case atStart => exact ⟨0, by omega, rfl, HROW, hpc, hb2⟩
  case round =>
    clear hpc HROW hb2
    obtain ⟨k, hk, rfl, HR, hpc, hbel⟩ := hrel
    by_cases hkn : k + 1 < n
    · have hkn2 : (k : Int) + 1 < (n : Int) := by omega
      obtain ⟨hPl, h63⟩ := name_at h k (by have := HN.out; omega)
      have hsucc := pos_succ (labs s.data.toList) k (by have := HN.out; omega)
      have hQs := pos_in h (k + 1)
      have hc1 := hpc k (by omega)
      have hc2 := hpc (k + 1) hkn
      have HR2 : Hid (BRow wr go (foldK s.data.toList (pos (labs s.data.toList) k + 1))) := by
        unfold Hid; rw [foldK_still hPl (fb_small h63)]; exact HR
      obtain ⟨P, hP⟩ : ∃ P, P = pos (labs s.data.toList) k := ⟨_, rfl⟩
      obtain ⟨Q, hQ⟩ : ∃ Q, Q = pos (labs s.data.toList) (k + 1) := ⟨_, rfl⟩
      rw [← hP] at hc1 HR2 hsucc
      rw [← hQ] at hc2 hQs hsucc
      have HPC : Hid (∀ j, j < n → wr.cell? ⟨gp, j, none⟩ = some (.int .i64 (pos (labs s.data.toList) j : Nat))) := hpc
      have HQQ : Hid (Q = pos (labs s.data.toList) (k + 1)) := hQ
      have hPQ : P + 1 ≤ Q := by omega
      clear hP hQ hpc hsucc h63 hPl HR
      go_wp2
      go_loopw [7] (fun i wq => ∃ (j : Nat), P + 1 ≤ j ∧ j ≤ Q ∧ i = .int .i64 j ∧ Hid (BRow wq go (foldK s.data.toList j)) ∧ (∀ j, j < n → wq.cell? ⟨gp, j, none⟩ = some (.int .i64 (pos (labs s.data.toList) j : Nat))) ∧ Below w.heap.size w wq) (fun i _ => Q - (intOf i).toNat)
      case atStart => exact ⟨P + 1, Nat.le_refl _, hPQ, by go_num, HR2, HPC.out, hbel⟩
      case round =>
        clear hc1 hc2 HR2 HPC hbel
        obtain ⟨j, hPj, hjQ, rfl, HRj, hpcj, hbelj⟩ := hrel
        have hc2 := hpcj (k + 1) hkn
        rw [← HQQ.out] at hc2
        have HPJ : Hid (∀ j, j < n → wr.cell? ⟨gp, j, none⟩ = some (.int .i64 (pos (labs s.data.toList) j : Nat))) := hpcj
        clear hpcj
        by_cases hjl : j < Q
        · have hjs : j < s.size := by omega
          have hjl2 : j < s.data.toList.length := by omega
          have hjk : j < (foldK s.data.toList j).length := by rw [foldK_len]; exact hjl2
          have hb8 := (s[j]).toNat_lt
          have hcell : wr.cell? ⟨go, j, none⟩ = some (.int .u8 (s[j].toNat : Int)) := by
            rw [HRj.out.cell j hjk, foldK_at _ _ hjl2]; rfl
          by_cases h65 : 65 ≤ s[j].toNat ∧ s[j].toNat ≤ 90
          · have hfro := HRj.out.frozen j hjk
            have hst := HRj.out.stored j hjk (fb s[j])
            have hfn : ((fb s[j]).toNat : Int) = (s[j].toNat : Int) + 32 := by rw [fb_nat, if_pos h65]; omega
            rw [hfn] at hst
            rw [show s[j] = s.data.toList[j] from rfl, foldK_set _ _ hjl2] at hst
            have HST : Hid (BRow (wr.setCell ⟨go, j, none⟩ (.int .u8 ((s[j].toNat : Int) + 32))) go (foldK s.data.toList (j + 1)) ∧ wr.grownBy (wr.setCell ⟨go, j, none⟩ (.int .u8 ((s[j].toNat : Int) + 32))) (some go)) := hst
            have h65a := h65.1
            have h65b := h65.2
            clear hst hfn h65
            go_wp2
            go_roundw
            case rel => exact ⟨j + 1, by omega, by omega, by go_num, HST.out.1, fun i hi => HST.out.2.cell (HPJ.out i hi) (by intro e; exact hne (Option.some.inj e)), hbelj.grown HST.out.2 hbelj.size (fun q e => by have := Option.some.inj e; omega)⟩
            case measure => simp [intOf]; omega
          · have HK : Hid (BRow wr go (foldK s.data.toList (j + 1))) := by
              have h66 : ¬ (65 ≤ s.data.toList[j].toNat ∧ s.data.toList[j].toNat ≤ 90) := h65
              unfold Hid; rw [foldK_still hjl2 (by unfold fb; rw [if_neg h66])]; exact HRj
            by_cases h65a : 65 ≤ s[j].toNat
            · have h65b : decide ((s[j].toNat : Int) ≤ 90) = false := by simp; omega
              clear h65
              go_wp2
              go_roundw
              case rel => exact ⟨j + 1, by omega, by omega, by go_num, HK, HPJ.out, hbelj⟩
              case measure => simp [intOf]; omega
            · have h65b : decide ((65 : Int) ≤ (s[j].toNat : Int)) = false := by simp; omega
              clear h65
              go_wp2
              go_roundw
              case rel => exact ⟨j + 1, by omega, by omega, by go_num, HK, HPJ.out, hbelj⟩
              case measure => simp [intOf]; omega
        · have hjq : j = Q := by omega
          have HJQ : Hid (j = Q) := hjq
          clear hjq
          go_wp2
          go_roundw
          case rel => exact ⟨k + 1, by omega, by go_num, by unfold Hid; rw [← HQQ.out, ← HJQ.out]; exact HRj, HPJ.out, hbelj⟩
          case measure => simp [intOf]; omega
    · have HA : Hid (BRow wr go (foldL s.data.toList)) := by
        have hke : k = (labs s.data.toList).length := by have := HN.out; omega
        obtain ⟨e1, _, _, _⟩ := enc_of h
        have hlast := pos_last (labs s.data.toList)
        rw [← e1] at hlast
        have h1 := pos_end (labs s.data.toList) (labs s.data.toList).length (Nat.le_refl _)
        have hp : pos (labs s.data.toList) (labs s.data.toList).length < s.data.toList.length := by omega
        have e : ∀ (a b : List UInt8) (k : Nat) (ha : k < a.length) (hb : k < b.length), a = b → a[k] = b[k] := by
          intro a b k ha hb e; subst e; rfl
        have h2 : s.data.toList[pos (labs s.data.toList) (labs s.data.toList).length]'hp = 0 := (e _ _ _ hp (pos_lt _ _) e1).trans h1
        have h3 := foldK_still hp (by rw [h2]; decide)
        have h4 := HR.out
        rw [hke, ← h3, foldK_all _ _ (by omega)] at h4
        exact h4
      have hn : (foldL s.data.toList).length = s.size := by rw [fold_len]; exact hsl
      have HNN : Hid ((foldL s.data.toList).length = s.size) := hn
      clear hn hpc
      go_wp2_with (refine wpList_stringC _ rfl (.tmp 58) rfl go s.size cap2 (foldL s.data.toList) rfl HNN.out HA.out ?_)
      go_ret
      exact ⟨rfl, hbel⟩

theorem refFold_any (s : ByteArray) (w : World) (hs : s.size ≤ maxLen) :
    Calls Tryz.prog 35 #[.string s] w fun e w' => e = .returned (.string ⟨(foldR s.data.toList).toArray⟩) ∧ Below w.heap.size w w' := by
  cases h : isName s.data.toList with
  | false => exact refFold_no s w hs h
  | true => exact refFold_yes s w h

end Go.Proofs.YtnjgdfmldjgloaaGreat

/- What last, Same, Above, Parent, Last and Child of the document's answers give, for every argument. -/
namespace Go.Proofs.YtnjgdfmldjgloaaGreat
open Go.RowKit
open Pl

set_option maxRecDepth 20000 in
set_option maxHeartbeats 1000000 in
theorem refL_any (s t : ByteArray) (k : Nat) (w : World) (h : isName s.data.toList = true) (hk : k ≤ (labs s.data.toList).length) (ht : t.data.toList = lastN s.data.toList k) :
    Calls Tryz.prog 81 #[.string s, .int .i64 (k : Int)] w fun e w' => e = .returned (.string t) ∧ Below w.heap.size w w' := by
  have h255 := name_size h
  have hs : s.size ≤ maxLen := by unfold maxLen; omega
  have h127 := few h
  obtain ⟨m, hm⟩ : ∃ m, m = (labs s.data.toList).length := ⟨_, rfl⟩
  have HM : Hid (m = (labs s.data.toList).length) := hm
  have hkm : k ≤ m := by omega
  have hm127 : m ≤ 127 := by omega
  obtain ⟨P, hP⟩ : ∃ P, P = pos (labs s.data.toList) (m - k) := ⟨_, rfl⟩
  have HP : Hid (P = pos (labs s.data.toList) (m - k)) := hP
  have hPs : P ≤ s.size := by have := pos_in h (m - k); omega
  have hTe : s.extract P s.size = t := by
    apply ByteArray.ext
    apply Array.toList_inj.1
    rw [ht, hP, hm, last_ext h]
  have HTE : Hid (s.extract P s.size = t) := hTe
  clear hm hP hTe ht
  go_enter Tryz.func81, Tryz.ntmps81
  go_wp2_with (go_at_call 70; refine (places_any _ _ hs).mono ?_; rintro e w1 ⟨v, rfl, hb1, hp⟩; obtain ⟨gp, cap, qs, rfl, hpl, hown⟩ := hp h; have hq := places_pos h hpl; have hql : qs.length = m + 1 := hq.1.trans (by rw [HM.out]); rw [hql] at hown ⊢; have hc : w1.cell? ⟨gp, m - k, none⟩ = some (.int .i64 (P : Int)) := (by rw [hown.cellAt (m - k) (by omega)]; have hj' : m - k < qs.length := (by omega); rw [HP.out, ← hq.2 (m - k) (by have := HM.out; omega)]; simp [hj', iv]); obtain ⟨j, hj⟩ : ∃ j, j = m - k := ⟨_, rfl⟩; rw [← hj] at hc; have hjk : (m : Int) + 1 - 1 - (k : Int) = (j : Int) := (by omega); have hjk2 : (m : Int) - (k : Int) = (j : Int) := (by omega); have hjm : j ≤ m := (by omega); clear hp hpl hown hq hql hj)
  go_ret
  exact ⟨ret_str HTE.out, hb1⟩

theorem refFold_as (s t : ByteArray) (w : World) (hs : s.size ≤ maxLen) (h : foldR s.data.toList = t.data.toList) :
    Calls Tryz.prog 35 #[.string s] w fun e w' => e = .returned (.string t) ∧ Below w.heap.size w w' := by
  have := refFold_any s w hs
  rw [h] at this
  exact this
theorem refCount_as (s : ByteArray) (n : Nat) (w : World) (hs : s.size ≤ maxLen) (h : cnt s.data.toList = n) :
    Calls Tryz.prog 59 #[.string s] w fun e w' => e = .returned (.int .i64 n) ∧ Below w.heap.size w w' := by rw [← h]; exact refCount_any s w hs
theorem cnt_labs {l : List UInt8} (h : isName l = true) : cnt l = (labs l).length := (enc_of h).2.2.1

theorem list_test (a b : ByteArray) : (a.toList == b.toList) = decide (a.data.toList = b.data.toList) := by
  rw [ByteArray.toList_eq, ByteArray.toList_eq, Bool.eq_iff_iff]; simp

set_option maxRecDepth 20000 in
set_option maxHeartbeats 1000000 in
theorem refSame_any (a b : ByteArray) (w : World) (ha : a.size ≤ maxLen) (hb : b.size ≤ maxLen) :
    Calls Tryz.prog 80 #[.string a, .string b] w fun e w' => e = .returned (.bool (sameB a.data.toList b.data.toList)) ∧ Below w.heap.size w w' := by
  have hbel : Below w.heap.size w w := Below.refl _ _
  cases h1 : isName a.data.toList with
  | false =>
    have HR : Hid (false = sameB a.data.toList b.data.toList) := by unfold Hid sameB; rw [h1]; rfl
    go_enter Tryz.func80, Tryz.ntmps80
    go_wp2_with (go_at_call 69; refine (refMay_as a false _ ha h1).mono ?_; rintro e w1 ⟨rfl, b1⟩; replace hbel := next hbel b1; clear b1)
    go_ret
    exact ⟨ret_bool HR.out, hbel⟩
  | true =>
    cases h2 : isName b.data.toList with
    | false =>
      have HR : Hid (false = sameB a.data.toList b.data.toList) := by unfold Hid sameB; rw [h1, h2]; rfl
      have t1 : True := trivial
      have t2 : True := trivial
      go_enter Tryz.func80, Tryz.ntmps80
      go_wp2_with (first
        | (go_at_call 69; have _t := t1; refine (refMay_as a true _ ha h1).mono ?_; rintro e w1 ⟨rfl, b1⟩; replace hbel := next hbel b1; clear b1 t1)
        | (go_at_call 69; have _t := t2; refine (refMay_as b false _ hb h2).mono ?_; rintro e w1 ⟨rfl, b1⟩; replace hbel := next hbel b1; clear b1 t2))
      go_ret
      exact ⟨ret_bool HR.out, hbel⟩
    | true =>
      obtain ⟨F, hF⟩ : ∃ F : ByteArray, foldR a.data.toList = F.data.toList := ⟨⟨(foldR a.data.toList).toArray⟩, by simp⟩
      obtain ⟨G, hG⟩ : ∃ G : ByteArray, foldR b.data.toList = G.data.toList := ⟨⟨(foldR b.data.toList).toArray⟩, by simp⟩
      have HF : Hid (foldR a.data.toList = F.data.toList) := hF
      have HG : Hid (foldR b.data.toList = G.data.toList) := hG
      have HR : Hid ((F.toList == G.toList) = sameB a.data.toList b.data.toList) := by
        unfold Hid sameB
        rw [list_test, ← hF, ← hG, h1, h2, foldR_yes h1, foldR_yes h2]
        simp
      clear hF hG
      have t1 : True := trivial
      have t2 : True := trivial
      have t3 : True := trivial
      have t4 : True := trivial
      go_enter Tryz.func80, Tryz.ntmps80
      go_wp2_with (first
        | (go_at_call 69; have _t := t1; refine (refMay_as a true _ ha h1).mono ?_; rintro e w1 ⟨rfl, b1⟩; replace hbel := next hbel b1; clear b1 t1)
        | (go_at_call 69; have _t := t2; refine (refMay_as b true _ hb h2).mono ?_; rintro e w1 ⟨rfl, b1⟩; replace hbel := next hbel b1; clear b1 t2)
        | (go_at_call 35; have _t := t3; refine (refFold_as a F _ ha HF.out).mono ?_; rintro e w1 ⟨rfl, b1⟩; replace hbel := next hbel b1; clear b1 t3)
        | (go_at_call 35; have _t := t4; refine (refFold_as b G _ hb HG.out).mono ?_; rintro e w1 ⟨rfl, b1⟩; replace hbel := next hbel b1; clear b1 t4))
      go_ret
      exact ⟨ret_bool HR.out, hbel⟩
theorem refSame_as (a b : ByteArray) (v : Bool) (w : World) (ha : a.size ≤ maxLen) (hb : b.size ≤ maxLen) (h : sameB a.data.toList b.data.toList = v) :
    Calls Tryz.prog 80 #[.string a, .string b] w fun e w' => e = .returned (.bool v) ∧ Below w.heap.size w w' := by rw [← h]; exact refSame_any a b w ha hb

set_option maxRecDepth 20000 in
set_option maxHeartbeats 1000000 in
theorem refAbove_any (a b : ByteArray) (w : World) (ha : a.size ≤ maxLen) (hb : b.size ≤ maxLen) :
    Calls Tryz.prog 58 #[.string a, .string b] w fun e w' => e = .returned (.bool (aboveB a.data.toList b.data.toList)) ∧ Below w.heap.size w w' := by
  have hbel : Below w.heap.size w w := Below.refl _ _
  cases h1 : isName a.data.toList with
  | false =>
    have HR : Hid (false = aboveB a.data.toList b.data.toList) := by unfold Hid aboveB; rw [h1]; rfl
    go_enter Tryz.func58, Tryz.ntmps58
    go_wp2_with (go_at_call 69; refine (refMay_as a false _ ha h1).mono ?_; rintro e w1 ⟨rfl, b1⟩; replace hbel := next hbel b1; clear b1)
    go_ret
    exact ⟨ret_bool HR.out, hbel⟩
  | true =>
    cases h2 : isName b.data.toList with
    | false =>
      have HR : Hid (false = aboveB a.data.toList b.data.toList) := by unfold Hid aboveB; rw [h1, h2]; rfl
      have t1 : True := trivial
      have t2 : True := trivial
      go_enter Tryz.func58, Tryz.ntmps58
      go_wp2_with (first
        | (go_at_call 69; have _t := t1; refine (refMay_as a true _ ha h1).mono ?_; rintro e w1 ⟨rfl, b1⟩; replace hbel := next hbel b1; clear b1 t1)
        | (go_at_call 69; have _t := t2; refine (refMay_as b false _ hb h2).mono ?_; rintro e w1 ⟨rfl, b1⟩; replace hbel := next hbel b1; clear b1 t2))
      go_ret
      exact ⟨ret_bool HR.out, hbel⟩
    | true =>
      obtain ⟨n, hn⟩ : ∃ n, n = (labs a.data.toList).length := ⟨_, rfl⟩
      obtain ⟨m, hm⟩ : ∃ m, m = (labs b.data.toList).length := ⟨_, rfl⟩
      have HCA : Hid (cnt a.data.toList = n) := by unfold Hid; rw [hn]; exact cnt_labs h1
      have HCB : Hid (cnt b.data.toList = m) := by unfold Hid; rw [hm]; exact cnt_labs h2
      have h127 : n ≤ 127 := by rw [hn]; exact few h1
      have h127m : m ≤ 127 := by rw [hm]; exact few h2
      have t1 : True := trivial
      have t2 : True := trivial
      have t3 : True := trivial
      have t4 : True := trivial
      have t5 : True := trivial
      by_cases hnm : n ≤ m
      · obtain ⟨T, hT⟩ : ∃ T : ByteArray, T.data.toList = lastN b.data.toList n := ⟨⟨(lastN b.data.toList n).toArray⟩, by simp⟩
        have HT : Hid (T.data.toList = lastN b.data.toList n) := hT
        have HTS : Hid (T.size ≤ maxLen) := by
          have h5 := name_size h2
          unfold Hid maxLen
          rw [← data_len, hT, last_drop h2, List.length_drop, data_len]
          omega
        have HK : Hid (n ≤ (labs b.data.toList).length) := by unfold Hid; omega
        have HR : Hid (sameB a.data.toList T.data.toList = aboveB a.data.toList b.data.toList) := by
          unfold Hid
          rw [hT]
          unfold sameB aboveB
          rw [h1, h2, (last_name h2 n (by omega)).1, ← hn, ← hm]
          simp [hnm]
        clear hn hm hT
        have hnm2 : (n : Int) ≤ (m : Int) := by omega
        go_enter Tryz.func58, Tryz.ntmps58
        go_wp2_with (first
          | (go_at_call 69; have _t := t1; refine (refMay_as a true _ ha h1).mono ?_; rintro e w1 ⟨rfl, b1⟩; replace hbel := next hbel b1; clear b1 t1)
          | (go_at_call 69; have _t := t2; refine (refMay_as b true _ hb h2).mono ?_; rintro e w1 ⟨rfl, b1⟩; replace hbel := next hbel b1; clear b1 t2)
          | (go_at_call_of 59 (#[Value.string a]); refine (refCount_as a n _ ha HCA.out).mono ?_; rintro e w1 ⟨rfl, b1⟩; replace hbel := next hbel b1; clear b1)
          | (go_at_call_of 59 (#[Value.string b]); refine (refCount_as b m _ hb HCB.out).mono ?_; rintro e w1 ⟨rfl, b1⟩; replace hbel := next hbel b1; clear b1)
          | (go_at_call 81; refine (refL_any b T n _ h2 HK.out HT.out).mono ?_; rintro e w1 ⟨rfl, b1⟩; replace hbel := next hbel b1; clear b1)
          | (go_at_call 80; refine (refSame_as a T _ _ ha HTS.out HR.out).mono ?_; rintro e w1 ⟨rfl, b1⟩; replace hbel := next hbel b1; clear b1))
        go_ret
        exact ⟨rfl, hbel⟩
      · have HR : Hid (false = aboveB a.data.toList b.data.toList) := (above_few (by omega)).symm
        clear hn hm
        have hnm2 : decide (n ≤ m) = false := by simpa using hnm
        go_enter Tryz.func58, Tryz.ntmps58
        go_wp2_with (first
          | (go_at_call 69; have _t := t1; refine (refMay_as a true _ ha h1).mono ?_; rintro e w1 ⟨rfl, b1⟩; replace hbel := next hbel b1; clear b1 t1)
          | (go_at_call 69; have _t := t2; refine (refMay_as b true _ hb h2).mono ?_; rintro e w1 ⟨rfl, b1⟩; replace hbel := next hbel b1; clear b1 t2)
          | (go_at_call_of 59 (#[Value.string a]); refine (refCount_as a n _ ha HCA.out).mono ?_; rintro e w1 ⟨rfl, b1⟩; replace hbel := next hbel b1; clear b1)
          | (go_at_call_of 59 (#[Value.string b]); refine (refCount_as b m _ hb HCB.out).mono ?_; rintro e w1 ⟨rfl, b1⟩; replace hbel := next hbel b1; clear b1))
        go_ret
        exact ⟨ret_bool HR.out, hbel⟩

end Go.Proofs.YtnjgdfmldjgloaaGreat

/- What Parent, Last and Child of the document's answers give, for every argument. -/
namespace Go.Proofs.YtnjgdfmldjgloaaGreat
open Go.RowKit
open Pl

end Go.Proofs.YtnjgdfmldjgloaaGreat
