/- What Fold of package rel gives, for every argument. -/
import Derived.Test.YtphhljbeaklikaaXP3
import Derived.Test.YtphhljbeaklikaaXP1
import Derived.LoopN
namespace Go.Proofs.Ytphhljbeaklikaa
open Go.RowKit
open Pl

/-- A block that a string's bytes were laid in: these bytes at its head, and nothing of them frozen. -/
def BRow (w : World) (g : Nat) (l : List UInt8) : Prop :=
  ∃ cur : Array Value, w.heap[g]? = some (.cells cur 5 (cur.size, cur.size + 1)) ∧ l.length ≤ cur.size ∧ ∀ j (h : j < l.length), cur[j]? = some (bv l[j])

theorem BRow.cell {w : World} {g : Nat} {l : List UInt8} (h : BRow w g l) (j : Nat) (hj : j < l.length) : w.cell? ⟨g, j, none⟩ = some (.int .u8 (l[j].toNat : Int)) := by
  obtain ⟨cur, h1, h2, h3⟩ := h
  rw [cell_of_row w g j cur 5 _ h1]
  exact h3 j hj
theorem BRow.frozen {w : World} {g : Nat} {l : List UInt8} (h : BRow w g l) (j : Nat) (hj : j < l.length) : w.frozen? ⟨g, j, none⟩ = false := by
  obtain ⟨cur, h1, h2, h3⟩ := h
  simp only [World.frozen?, h1]
  simp
  omega
theorem BRow.stored {w : World} {g : Nat} {l : List UInt8} (h : BRow w g l) (j : Nat) (hj : j < l.length) (b : UInt8) :
    BRow (w.setCell ⟨g, j, none⟩ (.int .u8 (b.toNat : Int))) g (l.set j b) ∧ w.grownBy (w.setCell ⟨g, j, none⟩ (.int .u8 (b.toNat : Int))) (some g) := by
  obtain ⟨cur, h1, h2, h3⟩ := h
  refine ⟨⟨cur.setIfInBounds j (.int .u8 (b.toNat : Int)), ?_, by simpa using h2, fun i hi => ?_⟩, ⟨rfl, rfl, rfl, by simp, fun k _ hk => heap_setCell_other w ⟨g, j, none⟩ k _ (fun e => hk (by simp [e]))⟩⟩
  · rw [setCell_eq_setRow w g j cur 5 _ _ h1, setRow_heap w g cur _ 5 _ h1]
    simp
  · simp only [List.length_set] at hi
    by_cases e : i = j
    · subst e
      rw [Array.getElem?_setIfInBounds_self_of_lt (by omega), List.getElem_set_self]
      rfl
    · rw [Array.getElem?_setIfInBounds_ne (by omega), List.getElem_set_ne (by omega)]
      exact h3 i hi
theorem BRow.kept {w w' : World} {g : Nat} {l : List UInt8} (h : BRow w g l) (e : w'.heap[g]? = w.heap[g]?) : BRow w' g l := by
  obtain ⟨cur, h1, h2, h3⟩ := h
  exact ⟨cur, by rw [e]; exact h1, h2, h3⟩

/-- A string's bytes are laid in a block of their own. -/
theorem wpList_bytesB (w : World) {ops : Array Oper} {rest : List Oper} {o : Oper} {a : Act} {Q : Exit → Act → World → Prop} (hgd : o.guard = none) (x : Operand)
    (ho : o.op = .convert 9 51 x) (s : ByteArray) (hx : a.eval x = .string s)
    (h : ∀ cap w', BRow w' w.heap.size s.data.toList → w.grownBy w' none → w'.heap.size = w.heap.size + 1 →
      wpList Try.prog ops Q rest (a.put o.dst (.slice (some ⟨w.heap.size, 0, none⟩) s.size cap)) w') : wpList Try.prog ops Q (o :: rest) a w := by
  refine wpList_plain hgd fun K hK => ?_
  have hr := run_bytes_of_string (P := Try.prog) w 9 51 5 s Try.underlying9 Try.underlying51 Try.underlying5
  unfold Oper.wp execOp
  simp only [ho, hx, Sem.run_bind, hr, Result.andThen_ok, Sem.run_pure]
  refine hK _ _ (h _ _ ⟨_, heap_alloc_last w.drew _, ?_, fun j hj => ?_⟩ ⟨rfl, rfl, rfl, by simp, fun k hk _ => Below.heap_alloc w.drew _ k hk⟩ (by simp))
  · unfold bytesRow
    simp
  · unfold bytesRow
    rw [Array.getElem?_append_left (by simpa using hj)]
    have hd : j < s.data.size := by simpa using hj
    rw [Array.getElem?_map, Array.getElem?_eq_getElem hd]
    rfl

/-- Such bytes become a string. -/
theorem wpList_stringC (w : World) {ops : Array Oper} {rest : List Oper} {o : Oper} {a : Act} {Q : Exit → Act → World → Prop} (hgd : o.guard = none) (x : Operand)
    (ho : o.op = .convert 51 9 x) (g n cap : Nat) (l : List UInt8) (hx : a.eval x = .slice (some ⟨g, 0, none⟩) n cap) (hn : l.length = n) (hrow : BRow w g l)
    (h : wpList Try.prog ops Q rest (a.put o.dst (.string ⟨l.toArray⟩)) w) : wpList Try.prog ops Q (o :: rest) a w := by
  refine wpList_plain hgd fun K hK => ?_
  subst hn
  have hr := run_convert_bytes_back w 51 9 5 ⟨g, 0, none⟩ cap l Try.underlying51 Try.underlying5 Try.underlying9 fun j hj => by
    have hadd : (⟨g, 0, none⟩ : Addr).add j = ⟨g, j, none⟩ := by unfold Addr.add; split <;> simp_all
    rw [hadd]
    exact hrow.cell j hj
  unfold Oper.wp execOp
  simp only [ho, hx, Sem.run_bind, hr, Result.andThen_ok, Sem.run_pure]
  exact hK _ _ h

/-- Bytes, the first k of them folded. -/
def foldK (l : List UInt8) (k : Nat) : List UInt8 := foldL (l.take k) ++ l.drop k
theorem foldK_zero (l : List UInt8) : foldK l 0 = l := by simp [foldK, foldL]
theorem foldK_all (l : List UInt8) (k : Nat) (h : l.length ≤ k) : foldK l k = foldL l := by unfold foldK; rw [List.take_of_length_le h, List.drop_of_length_le h, List.append_nil]
theorem foldK_len (l : List UInt8) (k : Nat) : (foldK l k).length = l.length := by simp [foldK, foldL]; omega
theorem foldK_at (l : List UInt8) (k : Nat) (h : k < l.length) : (foldK l k)[k]'(by rw [foldK_len]; exact h) = l[k] := by
  unfold foldK
  rw [List.getElem_append_right (by simp [foldL]; omega), List.getElem_drop]
  congr 1
  simp [foldL]
  omega
theorem foldK_set (l : List UInt8) (k : Nat) (h : k < l.length) : (foldK l k).set k (fb l[k]) = foldK l (k + 1) := by
  unfold foldK
  have hk : (foldL (l.take k)).length = k := by simp [foldL]; omega
  rw [List.set_append_right _ _ (by omega), hk, Nat.sub_self, List.drop_eq_getElem_cons h, List.set_cons_zero, List.take_succ_eq_append_getElem h]
  unfold foldL
  rw [List.map_append, List.append_assoc]
  rfl

theorem foldR_yes {l : List UInt8} (h : isName l = true) : foldR l = foldL l := by unfold foldR; rw [if_pos h]
theorem foldR_no {l : List UInt8} (h : isName l = false) : foldR l = [] := by unfold foldR; rw [if_neg (by rw [h]; simp)]

theorem ret_str {a b : ByteArray} (h : a = b) : Ending.returned (.string a) = .returned (.string b) := by rw [h]

set_option maxRecDepth 20000 in
set_option maxHeartbeats 1000000 in
theorem fold_any (s : ByteArray) (w : World) (hs : s.size ≤ maxLen) :
    Calls Try.prog 39 #[.string s] w fun e w' => e = .returned (.string ⟨(foldR s.data.toList).toArray⟩) ∧ Below w.heap.size w w' := by
  cases h : isName s.data.toList with
  | false =>
    rw [foldR_no h]
    go_enter Try.func39, Try.ntmps39
    go_wp2_with (go_at_call 38; refine (may_as _ false _ hs h).mono ?_; rintro e w' ⟨rfl, hw⟩; obtain rfl := hw.symm)
    go_ret
    exact ⟨rfl, Below.refl _ _⟩
  | true =>
    rw [foldR_yes h]
    have h255 := name_size h
    have hl := data_len s
    go_enter Try.func39, Try.ntmps39
    go_wp2_with (first
      | (go_at_call 38; refine (may_as _ true _ hs h).mono ?_; rintro e w' ⟨rfl, hw⟩; obtain rfl := hw.symm)
      | (refine wpList_bytesB _ rfl (.tmp 9) rfl s rfl ?_; intro cap w1 hrow hg hsz))
    have hb1 := below_of hg
    go_loopw [13] (fun i wr => ∃ (k : Nat), k ≤ s.size ∧ i = .int .i64 k ∧ Hid (BRow wr w.heap.size (foldK s.data.toList k)) ∧ Below w.heap.size w wr ∧ w.heap.size < wr.heap.size) (fun i _ => s.size - (intOf i).toNat)
    case atStart => exact ⟨0, Nat.zero_le _, rfl, by unfold Hid; rw [foldK_zero]; exact hrow, hb1, by omega⟩
    case round =>
      clear hrow hg hsz hb1
      obtain ⟨k, hk, rfl, HR, hbel, hlt⟩ := hrel
      by_cases hks : k < s.size
      · have hkl : k < s.data.toList.length := by omega
        have hkl2 : k < (foldK s.data.toList k).length := by rw [foldK_len]; exact hkl
        have hcell : wr.cell? ⟨w.heap.size, k, none⟩ = some (.int .u8 (s[k].toNat : Int)) := by
          rw [HR.out.cell k hkl2, foldK_at _ _ hkl]; rfl
        have hfro := HR.out.frozen k hkl2
        have hst := HR.out.stored k hkl2 (fb s[k])
        rw [show s[k] = s.data.toList[k] from rfl, foldK_set _ _ hkl] at hst
        have HS : Hid (BRow (wr.setCell ⟨w.heap.size, k, none⟩ (.int .u8 ((fb s[k]).toNat : Int))) w.heap.size (foldK s.data.toList (k + 1)) ∧ wr.grownBy (wr.setCell ⟨w.heap.size, k, none⟩ (.int .u8 ((fb s[k]).toNat : Int))) (some w.heap.size)) := hst
        clear hst
        have hks2 : (k : Int) < (s.size : Int) := by omega
        go_wp2_with (go_at_call 48; go_must (refine (foldByte_any _ _).mono ?_); rintro e w' ⟨rfl, hw⟩; obtain rfl := hw.symm)
        go_roundw
        case rel => exact ⟨k + 1, by omega, by go_num, HS.out.1, hbel.grown HS.out.2 hbel.size (fun j e => by have := Option.some.inj e; omega), Nat.lt_of_lt_of_le hlt HS.out.2.size⟩
        case measure => simp [intOf]; omega
      · have HA : Hid (BRow wr w.heap.size (foldL s.data.toList)) := by unfold Hid; rw [← foldK_all s.data.toList k (by omega)]; exact HR
        have hn : (foldL s.data.toList).length = s.size := by rw [fold_len]; exact hl
        have HNN : Hid ((foldL s.data.toList).length = s.size) := hn
        clear hn
        go_wp2_with (refine wpList_stringC _ rfl (.tmp 24) rfl w.heap.size s.size cap (foldL s.data.toList) rfl HNN.out HA.out ?_)
        go_ret
        exact ⟨rfl, hbel⟩

end Go.Proofs.Ytphhljbeaklikaa

/- What places, May, Count and plain of the document's answers give, for every string. -/
namespace Go.Proofs.Ytphhljbeaklikaa
open Go.RowKit
open Pl

/-- A place as a cell. -/
def iv (n : Nat) : Value := .int .i64 (n : Int)

theorem info3 : (Try.prog.info? 3).map (fun i => (i.zero, i.size, i.bytes)) = some (some (.int .i64 0), 1, 8) := by kernel_rfl

/-- Numbers that have just been laid in a block of their own are appended to a row of numbers that the call owns. -/
theorem wpList_appI {w0 : World} {ops : Array Oper} {rest : List Oper} {o : Oper} {a : Act} {Q : Exit → Act → World → Prop} (hgd : o.guard = none) (s x : Operand)
    (ho : o.op = .call { callee := .builtin .append, args := #[s, x], argTypes := #[50, 50] }) (w : World) (L : List Value) (hw : w0 = w.alloc (.cells L.toArray 3)) (base : Nat) (v : Value) (n : Nat) (xs : List Value) (hs : a.eval s = v) (hown : w.ownsRow base 3 1 v n xs)
    (hx : a.eval x = .slice (some ⟨w.heap.size, 0, none⟩) L.length L.length) (hL : ∀ u ∈ L, ∃ z, u = .int .i64 z) (hm : 0 < L.length) (hn : n + L.length ≤ 10000000000000) (hbase : base ≤ w.heap.size)
    (h : ∀ g cap w', w'.ownsRow base 3 1 (.slice (some ⟨g, 0, none⟩) (n + L.length) cap) (n + L.length) (xs ++ L) → w.grownBy w' v.ownBlock → (v.ownBlock = some g ∨ w.heap.size ≤ g) → g < w'.heap.size →
      wpList Try.prog ops Q rest (a.put o.dst (.slice (some ⟨g, 0, none⟩) (n + L.length) cap)) w') : wpList Try.prog ops Q (o :: rest) a w0 := by
  subst hw
  obtain ⟨i0, hi, hz0, hz1, hz2⟩ := info_parts info3
  refine wpList_append_lies _ hgd s x 50 ho base 3 i0 (.int .i64 0) 1 8 Try.underlying50 hi hz0 hz1 hz2 rfl (by decide) v n xs hs (hown.alloc _) ⟨w.heap.size, 0, none⟩ L.length L.length L hx (by omega)
    (by simpa using World.news_of_block (heap_alloc_new w (.cells L.toArray 3))) (fun u hu => by obtain ⟨z, rfl⟩ := hL u hu; rfl) hm (by unfold maxLen; omega) (by omega) (by simp; omega) (w.heap.size + 1) (by simp) ?_
  intro g cap w' h1 h2 h3 h4
  refine h g cap w' h1 ?_ (h3.imp id (fun e => by omega)) h4
  refine ⟨h2.os, h2.tape, h2.output, ?_, fun k hk hne => ?_⟩
  · have := h2.size; simp at this; omega
  · exact (h2.block k (by simp; omega) hne).trans (Below.heap_alloc w _ k hk)

/-- What places leaves. -/
def PlPost (l : List UInt8) (w w' : World) (v : Value) : Prop :=
  isName l = true → ∃ g cap qs, v = .slice (some ⟨g, 0, none⟩) qs.length cap ∧ Places l qs ∧ w'.ownsRow w.heap.size 3 1 (.slice (some ⟨g, 0, none⟩) qs.length cap) qs.length (qs.map iv)

theorem pl_no {l : List UInt8} {w w' : World} {v : Value} (h : nm l = none) (hb : Below w.heap.size w w') : ∃ v', Ending.returned (.tuple #[v, .bool false]) = .returned (.tuple #[v', .bool (isName l)]) ∧ Below w.heap.size w w' ∧ PlPost l w w' v' := by
  have hn : isName l = false := by unfold isName; rw [h]; rfl
  exact ⟨v, by rw [hn], hb, fun e => by rw [hn] at e; simp at e⟩

theorem pl_yes {l : List UInt8} {w w' : World} {g cap n p : Nat} {qs : List Nat} (hn : n = qs.length) (hown : w'.ownsRow w.heap.size 3 1 (.slice (some ⟨g, 0, none⟩) (n + 1) cap) (n + 1) (qs.map iv ++ [.int .i64 (p : Int)])) (h : isName l = true ∧ Places l (qs ++ [p])) (hb : Below w.heap.size w w') :
    ∃ v', Ending.returned (.tuple #[.slice (some ⟨g, 0, none⟩) (n + 1) cap, .bool true]) = .returned (.tuple #[v', .bool (isName l)]) ∧ Below w.heap.size w w' ∧ PlPost l w w' v' := by
  subst hn
  refine ⟨_, by rw [h.1], hb, fun _ => ⟨g, cap, qs ++ [p], by simp, h.2, ?_⟩⟩
  have e : (qs ++ [p]).map iv = qs.map iv ++ [.int .i64 (p : Int)] := by simp [iv]
  rw [e, show (qs ++ [p]).length = qs.length + 1 from by simp]
  exact hown

theorem pl_next {w : World} {B n p : Nat} {v : Value} {qs : List Nat} (h : w.ownsRow B 3 1 v n (qs.map iv ++ [.int .i64 (p : Int)])) : w.ownsRow B 3 1 v n ((qs ++ [p]).map iv) := by
  rw [show (qs ++ [p]).map iv = qs.map iv ++ [.int .i64 (p : Int)] from by simp [iv]]; exact h

set_option maxRecDepth 20000 in
set_option maxHeartbeats 1000000 in
theorem places_any (s : ByteArray) (w : World) (hs : s.size ≤ maxLen) :
    Calls Try.prog 36 #[.string s] w fun e w' => ∃ v, e = .returned (.tuple #[v, .bool (isName s.data.toList)]) ∧ Below w.heap.size w w' ∧ PlPost s.data.toList w w' v := by
  unfold maxLen at hs
  have hl := data_len s
  by_cases h : s.size ≤ 255
  · go_enter Try.func36, Try.ntmps36
    go_wp2
    go_loopw [4, 5] (fun v i wr => ∃ (p n : Nat) (qs : List Nat), n ≤ p ∧ p ≤ 400 ∧ i = .int .i64 p ∧ n = qs.length ∧ wr.ownsRow w.heap.size 3 1 v n (qs.map iv) ∧ Below w.heap.size w wr ∧ Hid (At s.data.toList p n) ∧ Hid (LbSteps s.data.toList (qs ++ [p]))) (fun _ i _ => s.size - (intOf i).toNat)
    case atStart => exact ⟨0, 0, [], Nat.zero_le _, by omega, rfl, rfl, World.ownsRow_nil _ _ _ _, Below.refl _ _, at_start _, steps_start _⟩
    case round =>
      obtain ⟨p, n, qs, hnp, hp4, rfl, hnq, hown, hbel, hat, hst⟩ := hrel
      have HNQ : Hid (n = qs.length) := hnq
      clear hnq
      have hB : w.heap.size ≤ wr.heap.size := hbel.size
      have hn := nm_short (l := s.data.toList) (by omega)
      have HN : Hid (nm s.data.toList = nmS 0 s.data.toList) := hn
      clear hn
      by_cases hlt : p < s.size
      · have hb := UInt8.toNat_lt (s[p])
        have hlt' : p < s.data.toList.length := by omega
        by_cases h0 : ((s[p].toNat : Int) == 0) = true
        · have hz : s[p].toNat = 0 := by simpa using h0
          have HZ : Hid (s[p].toNat = 0) := hz
          clear hz
          by_cases he : (((p : Int) + 1) == (s.size : Int)) = true
          · have HP : Hid (isName s.data.toList = true ∧ Places s.data.toList (qs ++ [p])) := places_end hst.out (by rw [← HNQ.out]; exact hat.out) (by omega) hlt' HZ.out (by simp at he; omega)
            go_wp2_with (at_builtin; refine wpList_appI rfl _ _ rfl _ _ rfl w.heap.size _ _ _ rfl hown rfl (by simp) (by simp) (by simp; omega) hB ?_; intro g cap w2 h1 h2 h3 h4)
            have hbel2 := hbel.grown h2 hB (fun k e => (hown.lt k e).1)
            go_ret2
            exact pl_yes HNQ.out h1 HP.out hbel2
          · have HE : Hid (nm s.data.toList = none) := by
              unfold Hid; rw [HN.out, at_end hat.out hlt' HZ.out, if_neg (by simp at he; omega)]
            go_wp2_with (at_builtin; refine wpList_appI rfl _ _ rfl _ _ rfl w.heap.size _ _ _ rfl hown rfl (by simp) (by simp) (by simp; omega) hB ?_; intro g cap w2 h1 h2 h3 h4)
            have hbel2 := hbel.grown h2 hB (fun k e => (hown.lt k e).1)
            go_ret2
            exact pl_no HE.out hbel2
        · have hz : s[p].toNat ≠ 0 := by simpa using h0
          by_cases h63 : s[p].toNat ≤ 63
          · have HE : Hid (At s.data.toList (p + (1 + s[p].toNat)) (n + 1)) := at_step hat hlt' hz h63
            have HSS : Hid (LbSteps s.data.toList (qs ++ [p] ++ [p + 1 + s[p].toNat])) := steps_next hst hlt' hz
            go_wp2_with (at_builtin; refine wpList_appI rfl _ _ rfl _ _ rfl w.heap.size _ _ _ rfl hown rfl (by simp) (by simp) (by simp; omega) hB ?_; intro g cap w2 h1 h2 h3 h4)
            go_roundw
            case rel => exact ⟨p + 1 + s[p].toNat, n + 1, qs ++ [p], by omega, by omega, by go_num, by simp [HNQ.out], pl_next h1, hbel.grown h2 hB (fun k e => (hown.lt k e).1), by rw [show p + 1 + s[p].toNat = p + (1 + s[p].toNat) from by omega]; exact HE, HSS⟩
            case measure => simp [intOf]; omega
          · have HE : Hid (nm s.data.toList = none) := HN.out.trans (at_great hat hlt' (by show 63 < s[p].toNat; omega))
            go_wp2_with (at_builtin; refine wpList_appI rfl _ _ rfl _ _ rfl w.heap.size _ _ _ rfl hown rfl (by simp) (by simp) (by simp; omega) hB ?_; intro g cap w2 h1 h2 h3 h4)
            have hbel2 := hbel.grown h2 hB (fun k e => (hown.lt k e).1)
            go_ret2
            exact pl_no HE.out hbel2
      · have HE : Hid (nm s.data.toList = none) := HN.out.trans (at_past hat (by omega))
        go_wp2
        go_ret2
        exact pl_no HE.out hbel
  · have HE : Hid (nm s.data.toList = none) := by unfold Hid nm; rw [if_pos (by omega)]
    go_enter Try.func36, Try.ntmps36
    go_wp2
    refine wp_loop_rounds 1 ?_
    rw [rounds_succ]
    go_wp2
    all_goals go_ret2
    all_goals exact pl_no HE.out (Below.refl _ _)

theorem cnt_none' {l : List UInt8} (h : isName l = false) : cnt l = 0 := by
  unfold isName at h
  unfold cnt
  cases hn : nm l with
  | none => rfl
  | some n => rw [hn] at h; simp at h

theorem refMay_any (s : ByteArray) (w : World) (hs : s.size ≤ maxLen) :
    Calls Try.prog 21 #[.string s] w fun e w' => e = .returned (.bool (isName s.data.toList)) ∧ Below w.heap.size w w' := by
  go_enter Try.func21, Try.ntmps21
  go_wp2_with (go_at_call 36; refine (places_any _ _ hs).mono ?_; rintro e w' ⟨v, rfl, hb, hp⟩)
  go_ret
  exact ⟨rfl, hb⟩


end Go.Proofs.Ytphhljbeaklikaa

/- The contracts of package rel with their answers named; what awake gives: true. -/
namespace Go.Proofs.Ytphhljbeaklikaa
open Go.RowKit
open Pl

theorem fold_as (s t : ByteArray) (w : World) (hs : s.size ≤ maxLen) (h : foldR s.data.toList = t.data.toList) :
    Calls Try.prog 39 #[.string s] w fun e w' => e = .returned (.string t) ∧ Below w.heap.size w w' := by
  have := fold_any s w hs
  rw [h] at this
  exact this
theorem compare_as (a b : ByteArray) (c : Int) (w : World) (ha : a.size ≤ maxLen) (hb : b.size ≤ maxLen) (h : cmpN a.data.toList b.data.toList = c) :
    Calls Try.prog 44 #[.string a, .string b] w fun e w' => e = .returned (.int .i64 c) ∧ Below w.heap.size w w' := by rw [← h]; exact compare_any a b w ha hb
theorem refMay_as (s : ByteArray) (b : Bool) (w : World) (hs : s.size ≤ maxLen) (h : isName s.data.toList = b) :
    Calls Try.prog 21 #[.string s] w fun e w' => e = .returned (.bool b) ∧ Below w.heap.size w w' := by rw [← h]; exact refMay_any s w hs

abbrev kA : ByteArray := ⟨#[3, 87, 87, 87, 1, 99, 0]⟩
abbrev kB : ByteArray := ⟨#[1, 67, 0]⟩
abbrev kC : ByteArray := ⟨#[1, 99, 0]⟩
abbrev kX : ByteArray := ⟨#[120]⟩
abbrev kY : ByteArray := ⟨#[1, 120, 1, 67, 0]⟩
abbrev kF : ByteArray := ⟨#[3, 119, 119, 119, 1, 99, 0]⟩
abbrev kR : ByteArray := ⟨#[0]⟩

theorem q1 : parR kA.data.toList = some kC.data.toList := by decide +kernel
theorem q2 : lastR kA.data.toList 1 = some kC.data.toList := by decide +kernel
theorem q3 : childR kX.data.toList kB.data.toList = some kY.data.toList := by decide +kernel
theorem q4 : parR kR.data.toList = none := by decide +kernel
theorem q5 : foldR kA.data.toList = kF.data.toList := by decide +kernel
theorem q6 : sameB kB.data.toList kC.data.toList = true := by decide +kernel
theorem q7 : aboveB kB.data.toList kA.data.toList = true := by decide +kernel
theorem q8 : aboveB kA.data.toList kB.data.toList = false := by decide +kernel
theorem q9 : cmpN kA.data.toList kB.data.toList = 1 := by decide +kernel
theorem q10 : cmpN kB.data.toList kB.data.toList = 0 := by decide +kernel
theorem sz {s : ByteArray} (h : s.size ≤ 1000) : s.size ≤ maxLen := by unfold maxLen; omega

end Go.Proofs.Ytphhljbeaklikaa
