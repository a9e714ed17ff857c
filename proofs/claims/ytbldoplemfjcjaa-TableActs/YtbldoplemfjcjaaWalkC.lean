/- What places, May, Count and plain of the document's answers give, for every string. -/
import Derived.Test.YtbldoplemfjcjaaWalkB
import Derived.Test.YtbldoplemfjcjaaPlainF
import Derived.LoopN
namespace Go.Proofs.Ytbldoplemfjcjaa
open Go.RowKit
open Pl

/-- A place as a cell. -/
def iv (n : Nat) : Value := .int .i64 (n : Int)

theorem info3 : (Try.prog.info? 3).map (fun i => (i.zero, i.size, i.bytes)) = some (some (.int .i64 0), 1, 8) := by kernel_rfl

/-- Numbers that have just been laid in a block of their own are appended to a row of numbers that the call owns. -/
theorem wpList_appI {w0 : World} {ops : Array Oper} {rest : List Oper} {o : Oper} {a : Act} {Q : Exit → Act → World → Prop} (hgd : o.guard = none) (s x : Operand)
    (ho : o.op = .call { callee := .builtin .append, args := #[s, x], argTypes := #[52, 52] }) (w : World) (L : List Value) (hw : w0 = w.alloc (.cells L.toArray 3)) (base : Nat) (v : Value) (n : Nat) (xs : List Value) (hs : a.eval s = v) (hown : w.ownsRow base 3 1 v n xs)
    (hx : a.eval x = .slice (some ⟨w.heap.size, 0, none⟩) L.length L.length) (hL : ∀ u ∈ L, ∃ z, u = .int .i64 z) (hm : 0 < L.length) (hn : n + L.length ≤ 10000000000000) (hbase : base ≤ w.heap.size)
    (h : ∀ g cap w', w'.ownsRow base 3 1 (.slice (some ⟨g, 0, none⟩) (n + L.length) cap) (n + L.length) (xs ++ L) → w.grownBy w' v.ownBlock → (v.ownBlock = some g ∨ w.heap.size ≤ g) → g < w'.heap.size →
      wpList Try.prog ops Q rest (a.put o.dst (.slice (some ⟨g, 0, none⟩) (n + L.length) cap)) w') : wpList Try.prog ops Q (o :: rest) a w0 := by
  subst hw
  obtain ⟨i0, hi, hz0, hz1, hz2⟩ := info_parts info3
  refine wpList_append_lies _ hgd s x 52 ho base 3 i0 (.int .i64 0) 1 8 Try.underlying52 hi hz0 hz1 hz2 rfl (by decide) v n xs hs (hown.alloc _) ⟨w.heap.size, 0, none⟩ L.length L.length L hx (by omega)
    (by simpa using World.news_of_block (heap_alloc_new w (.cells L.toArray 3))) (fun u hu => by obtain ⟨z, rfl⟩ := hL u hu; rfl) hm (by unfold maxLen; omega) (by omega) (by simp; omega) (w.heap.size + 1) (by simp) ?_
  intro g cap w' h1 h2 h3 h4
  refine h g cap w' h1 ?_ (h3.imp id (fun e => by omega)) h4
  refine ⟨h2.os, h2.tape, h2.output, ?_, fun k hk hne => ?_⟩
  · have := h2.size; simp at this; omega
  · exact (h2.block k (by simp; omega) hne).trans (Below.heap_alloc w _ k hk)

/-- What places leaves. -/
def PlPost (l : List UInt8) (w w' : World) (v : Value) : Prop :=
  isName l = true → ∃ g cap qs, v = .slice (some ⟨g, 0, none⟩) qs.length cap ∧ Places l qs ∧ w'.ownsRow w.heap.size 3 1 (.slice (some ⟨g, 0, none⟩) qs.length cap) qs.length (qs.map iv)

theorem pl_no {l : List UInt8} {w w' : World} {v : Value} (h : nm l = none) (hb : Below w.heap.size w w') : ∃ v', Ending.returned (.tuple #[v, .bool false]) = .returned (.tuple #[v', .bool (isName l)]) ∧ Below w.heap.size w w' ∧ PlPost l w w' v' := by
  have hn : isName l = false := by unfold isName; rw [h]; rfl
  exact ⟨v, by rw [hn], hb, fun e => by rw [hn] at e; simp at e⟩

theorem pl_yes {l : List UInt8} {w w' : World} {g cap n p : Nat} {qs : List Nat} (hn : n = qs.length) (hown : w'.ownsRow w.heap.size 3 1 (.slice (some ⟨g, 0, none⟩) (n + 1) cap) (n + 1) (qs.map iv ++ [.int .i64 (p : Int)])) (h : isName l = true ∧ Places l (qs ++ [p])) (hb : Below w.heap.size w w') :
    ∃ v', Ending.returned (.tuple #[.slice (some ⟨g, 0, none⟩) (n + 1) cap, .bool true]) = .returned (.tuple #[v', .bool (isName l)]) ∧ Below w.heap.size w w' ∧ PlPost l w w' v' := by
  subst hn
  refine ⟨_, by rw [h.1], hb, fun _ => ⟨g, cap, qs ++ [p], by simp, h.2, ?_⟩⟩
  have e : (qs ++ [p]).map iv = qs.map iv ++ [.int .i64 (p : Int)] := by simp [iv]
  rw [e, show (qs ++ [p]).length = qs.length + 1 from by simp]
  exact hown

theorem pl_next {w : World} {B n p : Nat} {v : Value} {qs : List Nat} (h : w.ownsRow B 3 1 v n (qs.map iv ++ [.int .i64 (p : Int)])) : w.ownsRow B 3 1 v n ((qs ++ [p]).map iv) := by
  rw [show (qs ++ [p]).map iv = qs.map iv ++ [.int .i64 (p : Int)] from by simp [iv]]; exact h

set_option maxRecDepth 20000 in
set_option maxHeartbeats 1000000 in
theorem places_any (s : ByteArray) (w : World) (hs : s.size ≤ maxLen) :
    Calls Try.prog 37 #[.string s] w fun e w' => ∃ v, e = .returned (.tuple #[v, .bool (isName s.data.toList)]) ∧ Below w.heap.size w w' ∧ PlPost s.data.toList w w' v := by
  unfold maxLen at hs
  have hl := data_len s
  by_cases h : s.size ≤ 255
  · go_enter Try.func37, Try.ntmps37
    go_wp2
    go_loopw [4, 5] (fun v i wr => ∃ (p n : Nat) (qs : List Nat), n ≤ p ∧ p ≤ 400 ∧ i = .int .i64 p ∧ n = qs.length ∧ wr.ownsRow w.heap.size 3 1 v n (qs.map iv) ∧ Below w.heap.size w wr ∧ Hid (At s.data.toList p n) ∧ Hid (LbSteps s.data.toList (qs ++ [p]))) (fun _ i _ => s.size - (intOf i).toNat)
    case atStart => exact ⟨0, 0, [], Nat.zero_le _, by omega, rfl, rfl, World.ownsRow_nil _ _ _ _, Below.refl _ _, at_start _, steps_start _⟩
    case round =>
      obtain ⟨p, n, qs, hnp, hp4, rfl, hnq, hown, hbel, hat, hst⟩ := hrel
      have HNQ : Hid (n = qs.length) := hnq
      clear hnq
      have hB : w.heap.size ≤ wr.heap.size := hbel.size
      have hn := nm_short (l := s.data.toList) (by omega)
      have HN : Hid (nm s.data.toList = nmS 0 s.data.toList) := hn
      clear hn
      by_cases hlt : p < s.size
      · have hb := UInt8.toNat_lt (s[p])
        have hlt' : p < s.data.toList.length := by omega
        by_cases h0 : ((s[p].toNat : Int) == 0) = true
        · have hz : s[p].toNat = 0 := by simpa using h0
          have HZ : Hid (s[p].toNat = 0) := hz
          clear hz
          by_cases he : (((p : Int) + 1) == (s.size : Int)) = true
          · have HP : Hid (isName s.data.toList = true ∧ Places s.data.toList (qs ++ [p])) := places_end hst.out (by rw [← HNQ.out]; exact hat.out) (by omega) hlt' HZ.out (by simp at he; omega)
            go_wp2_with (at_builtin; refine wpList_appI rfl _ _ rfl _ _ rfl w.heap.size _ _ _ rfl hown rfl (by simp) (by simp) (by simp; omega) hB ?_; intro g cap w2 h1 h2 h3 h4)
            have hbel2 := hbel.grown h2 hB (fun k e => (hown.lt k e).1)
            go_ret2
            exact pl_yes HNQ.out h1 HP.out hbel2
          · have HE : Hid (nm s.data.toList = none) := by
              unfold Hid; rw [HN.out, at_end hat.out hlt' HZ.out, if_neg (by simp at he; omega)]
            go_wp2_with (at_builtin; refine wpList_appI rfl _ _ rfl _ _ rfl w.heap.size _ _ _ rfl hown rfl (by simp) (by simp) (by simp; omega) hB ?_; intro g cap w2 h1 h2 h3 h4)
            have hbel2 := hbel.grown h2 hB (fun k e => (hown.lt k e).1)
            go_ret2
            exact pl_no HE.out hbel2
        · have hz : s[p].toNat ≠ 0 := by simpa using h0
          by_cases h63 : s[p].toNat ≤ 63
          · have HE : Hid (At s.data.toList (p + (1 + s[p].toNat)) (n + 1)) := at_step hat hlt' hz h63
            have HSS : Hid (LbSteps s.data.toList (qs ++ [p] ++ [p + 1 + s[p].toNat])) := steps_next hst hlt' hz
            go_wp2_with (at_builtin; refine wpList_appI rfl _ _ rfl _ _ rfl w.heap.size _ _ _ rfl hown rfl (by simp) (by simp) (by simp; omega) hB ?_; intro g cap w2 h1 h2 h3 h4)
            go_roundw
            case rel => exact ⟨p + 1 + s[p].toNat, n + 1, qs ++ [p], by omega, by omega, by go_num, by simp [HNQ.out], pl_next h1, hbel.grown h2 hB (fun k e => (hown.lt k e).1), by rw [show p + 1 + s[p].toNat = p + (1 + s[p].toNat) from by omega]; exact HE, HSS⟩
            case measure => simp [intOf]; omega
          · have HE : Hid (nm s.data.toList = none) := HN.out.trans (at_great hat hlt' (by show 63 < s[p].toNat; omega))
            go_wp2_with (at_builtin; refine wpList_appI rfl _ _ rfl _ _ rfl w.heap.size _ _ _ rfl hown rfl (by simp) (by simp) (by simp; omega) hB ?_; intro g cap w2 h1 h2 h3 h4)
            have hbel2 := hbel.grown h2 hB (fun k e => (hown.lt k e).1)
            go_ret2
            exact pl_no HE.out hbel2
      · have HE : Hid (nm s.data.toList = none) := HN.out.trans (at_past hat (by omega))
        go_wp2
        go_ret2
        exact pl_no HE.out hbel
  · have HE : Hid (nm s.data.toList = none) := by unfold Hid nm; rw [if_pos (by omega)]
    go_enter Try.func37, Try.ntmps37
    go_wp2
    refine wp_loop_rounds 1 ?_
    rw [rounds_succ]
    go_wp2
    all_goals go_ret2
    all_goals exact pl_no HE.out (Below.refl _ _)

theorem cnt_none' {l : List UInt8} (h : isName l = false) : cnt l = 0 := by
  unfold isName at h
  unfold cnt
  cases hn : nm l with
  | none => rfl
  | some n => rw [hn] at h; simp at h

theorem refMay_any (s : ByteArray) (w : World) (hs : s.size ≤ maxLen) :
    Calls Try.prog 29 #[.string s] w fun e w' => e = .returned (.bool (isName s.data.toList)) ∧ Below w.heap.size w w' := by
  go_enter Try.func29, Try.ntmps29
  go_wp2_with (go_at_call 37; refine (places_any _ _ hs).mono ?_; rintro e w' ⟨v, rfl, hb, hp⟩)
  go_ret
  exact ⟨rfl, hb⟩


end Go.Proofs.Ytbldoplemfjcjaa
