/- What Parse of the document's answers gives, for every string within the reach. -/
import Derived.Test.YtkfpboippchdbaaWalkJ
import Derived.Laws.AppendOwnNone
import Derived.Deep.QuietTactic
import Derived.BigQuiet
import Derived.Laws.Concat
namespace Go.Proofs.Ytkfpboippchdbaa
open Go.RowKit
open Pl

theorem refText_ok (s t : ByteArray) (w : World) (hs : s.size ≤ maxLen) (h : isName s.data.toList = true) (ht : t.data.toList = tx s.data.toList) :
    Calls Try.prog 10 #[.string s] w fun e w' => e = .returned (.tuple #[.string t, .int .i64 0]) ∧ Below w.heap.size w w' := by
  have := refText_any s w hs
  rw [txV, h, if_pos rfl, mk_of ht] at this
  exact this
theorem refText_err (s : ByteArray) (w : World) (hs : s.size ≤ maxLen) (h : isName s.data.toList = false) :
    Calls Try.prog 10 #[.string s] w fun e w' => e = .returned (.tuple #[.string ⟨#[]⟩, .int .i64 100]) ∧ Below w.heap.size w w' := by
  have := refText_any s w hs
  rw [txV, h, if_neg (by simp)] at this
  exact this

/-- The bytes of one row that the call owns are appended to another one, which is not empty. -/
theorem wpList_appv (w : World) {ops : Array Oper} {rest : List Oper} {o : Oper} {a : Act} {Q : Exit → Act → World → Prop} (hgd : o.guard = none) (s x : Operand)
    (ho : o.op = .call { callee := .builtin .append, args := #[s, x], argTypes := #[32, 32] }) (base : Nat) (g n cap : Nat) (xs : List Value) (hs : a.eval s = .slice (some ⟨g, 0, none⟩) n cap) (hown : w.ownsRow base 5 1 (.slice (some ⟨g, 0, none⟩) n cap) n xs)
    (a2 : Option Addr) (m c2 : Nat) (lb : List UInt8) (hx : a.eval x = .slice a2 m c2) (hlab : w.ownsRow base 5 1 (.slice a2 m c2) m (lb.map bv)) (hnil : m = 0 → a2 = none) (hn : n + m ≤ 140737488355328) (hbase : base ≤ w.heap.size)
    (h : ∀ g' cap' w', w'.ownsRow base 5 1 (.slice (some ⟨g', 0, none⟩) (n + m) cap') (n + m) (xs ++ lb.map bv) → w.grownBy w' (some g) →
      wpList Try.prog ops Q rest (a.put o.dst (.slice (some ⟨g', 0, none⟩) (n + m) cap')) w') : wpList Try.prog ops Q (o :: rest) a w := by
  obtain ⟨i0, hi, hz0, hz1, hz2⟩ := info_parts info5
  have hml : lb.length = m := by simpa using hlab.1
  by_cases hm : m = 0
  · have ha := hnil hm
    subst hm
    subst ha
    have hl : lb = [] := List.eq_nil_of_length_eq_zero hml
    subst hl
    have hc : c2 = 0 := by
      rcases hlab.2 with ⟨e, _⟩ | ⟨g', cap', cur, e, _⟩
      · simp at e; exact e
      · simp at e
    subst hc
    refine wpList_append_own_none hgd s x 32 ho base 5 i0 1 Try.underlying32 hi _ n xs hs hown hx ?_
    exact h g cap w (by simpa using hown) (World.grownBy.refl w _)
  · obtain ⟨g2, cap2, e, _, _⟩ := hlab.form (by omega)
    simp only [Value.slice.injEq, true_and] at e
    obtain ⟨rfl, rfl⟩ := e
    refine wpList_append_lies w hgd s x 32 ho base 5 i0 (.int .u8 0) 1 1 Try.underlying32 hi hz0 hz1 hz2 rfl (by decide) _ n xs hs hown ⟨g2, 0, none⟩ m c2 (lb.map bv) hx (by simpa using hml)
      (fun j u hu => ?_) (fun u hu => ?_) (by omega) (by unfold maxLen; omega) (by omega) hbase _ rfl ?_
    · have hj : j < m := by rw [← hml]; have := (List.getElem?_eq_some_iff.1 hu).1; simpa using this
      have hadd : (⟨g2, 0, none⟩ : Addr).add j = ⟨g2, j, none⟩ := by unfold Addr.add; split <;> simp_all
      rw [hadd, hlab.cellAt j (by omega), hu]
    · simp only [List.mem_map] at hu
      obtain ⟨b, _, rfl⟩ := hu
      rfl
    · intro g' cap' w' h1 h2 _ _
      exact h g' cap' w' h1 h2

/-- Two rows lie apart. -/
def Sep (v u : Value) : Prop := ∀ k, v.ownBlock = some k → u.ownBlock ≠ some k

theorem Sep.left {v u : Value} (h : Sep v u) : v.ownBlock = none ∨ v.ownBlock ≠ u.ownBlock := by
  cases hv : v.ownBlock with
  | none => exact .inl rfl
  | some k => exact .inr (fun e => h k hv e.symm)
theorem Sep.symm {v u : Value} (h : Sep v u) : Sep u v := fun k hk e => h k e hk
theorem sep_nil (v : Value) : Sep v (.slice none 0 0) := fun _ _ e => by simp [Value.ownBlock] at e

/-- A row that was appended to lies apart from one that lay apart from it. -/
theorem sep_grown {w : World} {base n g m cap : Nat} {v u : Value} {xs : List Value} (hs : Sep v u) (h3 : v.ownBlock = some g ∨ w.heap.size ≤ g) (hu : w.ownsRow base 5 1 u n xs) : Sep (.slice (some ⟨g, 0, none⟩) m cap) u := by
  intro k hk
  have e : g = k := by simpa [Value.ownBlock] using hk
  subst e
  rcases h3 with h3 | h3
  · exact hs g h3
  · intro he; have := (hu.lt g he).2; omega

theorem one_byte (lb : List UInt8) (b : UInt8) : lb.map bv ++ [.int .u8 (b.toNat : Int)] = (lb ++ [b]).map bv := by simp [bv]

theorem idx (s : ByteArray) (i : Nat) (c : Int) (hc : c = (i : Int)) (h : i < s.size) (u : World) : (Instr.index 9 (.string s) (.int .i64 c)).run Try.prog u = .ok (.int .u8 (s[i].toNat : Int)) u := by
  subst hc
  rw [run_index_string u 9 s .i64 (i : Int) Try.underlying9, dif_pos ⟨by omega, by omega⟩]
  rfl

theorem join_label (o lb : List UInt8) (m : Nat) (hm : m = lb.length) (h : m ≤ 255) : (o ++ UInt8.ofNat lb.length :: lb).map bv = (o.map bv ++ [.int .u8 (m : Int)]) ++ lb.map bv := by
  subst hm
  simp [bv]
  omega

theorem ret_loose {t o : List UInt8} {S : ByteArray} (hp : prs t = some (o ++ [0])) (hS : S.data.toList = o ++ [0]) : Ending.returned (.tuple #[.string S, .int .i64 0]) = .returned (prV (prs t)) := by
  rw [hp, ← hS]
  rfl

/-- A row of bytes that the call owns becomes a string that has a name. -/
theorem wpList_stringB (w : World) {ops : Array Oper} {rest : List Oper} {o : Oper} {a : Act} {Q : Exit → Act → World → Prop} (hgd : o.guard = none) (x : Operand)
    (ho : o.op = .convert 32 9 x) (base n : Nat) (v : Value) (sb : ByteArray) (hx : a.eval x = v) (hown : w.ownsRow base 5 1 v n (sb.data.toList.map bv))
    (h : wpList Try.prog ops Q rest (a.put o.dst (.string sb)) w) : wpList Try.prog ops Q (o :: rest) a w :=
  wpList_string w hgd x ho base n v sb.data.toList hx hown h

set_option maxRecDepth 20000 in
set_option maxHeartbeats 4000000 in
theorem refParse_any (s : ByteArray) (w : World) (hs : s.size ≤ 140737488351232) :
    Calls Try.prog 12 #[.string s] w fun e w' => e = .returned (prV (prs s.data.toList)) ∧ Below w.heap.size w w' := by
  have hsl := data_len s
  obtain ⟨R, hR1, hR2⟩ : ∃ R, (s.data.toList ≠ [46] → R = prs s.data.toList) ∧ J s.data.toList [] [] 0 R := by
    by_cases h : s.data.toList = [46]
    · exact ⟨none, fun e => absurd h e, .inl rfl⟩
    · exact ⟨_, fun _ => rfl, J_start _ h⟩
  have HR : Hid (s.data.toList ≠ [46] → R = prs s.data.toList) := hR1
  have HJ : Hid (J s.data.toList [] [] 0 R) := hR2
  clear hR1 hR2
  go_enter Try.func12, Try.ntmps12
  go_wp2
  go_loopw [4, 5, 6] (fun v u i wr => ∃ (a n m c1 c2 : Nat) (a1 a2 : Option Addr) (o lb : List UInt8), a ≤ s.size ∧ i = .int .i64 a ∧ v = .slice a1 n c1 ∧ u = .slice a2 m c2 ∧ wr.ownsRow w.heap.size 5 1 (.slice a1 n c1) n (o.map bv) ∧ wr.ownsRow w.heap.size 5 1 (.slice a2 m c2) m (lb.map bv) ∧ Sep (.slice a1 n c1) (.slice a2 m c2) ∧ n ≤ 600 ∧ m ≤ a ∧ (m = 0 → a2 = none) ∧ Below w.heap.size w wr ∧ Hid (J s.data.toList o lb a R)) (fun _ _ i _ => s.size - (intOf i).toNat)
  case atStart => exact ⟨0, 0, 0, 0, 0, none, none, [], [], Nat.zero_le _, rfl, rfl, rfl, World.ownsRow_nil _ _ _ _, World.ownsRow_nil _ _ _ _, sep_nil _, by omega, Nat.le_refl _, fun _ => rfl, Below.refl _ _, HJ⟩
  case round =>
    clear HJ
    obtain ⟨a, n, m, c1, c2, a1, a2, o, lb, has, rfl, rfl, rfl, hown, hlab, hsep, hn, hma, hnil, hbel, hj⟩ := hrel
    have hB : w.heap.size ≤ wr.heap.size := hbel.size
    have HNO : Hid (n = o.length) := own_len hown
    have HML : Hid (m = lb.length) := own_len hlab
    by_cases hend : a < s.size ∧ n ≤ 255
    · obtain ⟨hlt, hn255⟩ := hend
      have hlt' : a < s.data.toList.length := by omega
      have hb8 := (s[a]).toNat_lt
      by_cases h46 : ((s[a].toNat : Int) == 46) = true
      · obtain ⟨hj2, hj3⟩ := J_dot hj.out hlt' (by show s[a].toNat = 46; simp at h46; omega)
        have HJ2 : Hid (J s.data.toList (o ++ UInt8.ofNat lb.length :: lb) [] (a + 1) R) := hj2
        by_cases hm : 255 < m
        · have HP : Hid (prs s.data.toList = none) := by
            unfold Hid
            rw [← HR.out (fun e => by have := congrArg List.length e; simp at this; omega)]
            exact hj3 (by have := HML.out; omega)
          clear hj hj2 hj3
          go_wp2
          go_ret2
          exact ⟨ret_none HP.out, hbel⟩
        · clear hj hj2 hj3
          go_wp2_with (first
            | (at_builtin; refine wpList_app rfl (.tmp 36) (.tmp 40) rfl _ _ rfl w.heap.size _ _ _ rfl hown rfl (by simp) (by simp) (by simp; omega) hB ?_; intro g cap w2 h1 h2 h3 h4; have hlab2 := hlab.kept h2 (hsep.symm.left); have hB2 := Nat.le_trans hB h2.size)
            | (at_builtin; refine wpList_appv _ rfl (.tmp 42) (.tmp 43) rfl w.heap.size _ _ _ _ rfl h1 _ _ _ lb rfl hlab2 hnil (by omega) hB2 ?_; intro g3 cap3 w3 k1 k2))
          have HO : Hid (w3.ownsRow w.heap.size 5 1 (.slice (some ⟨g3, 0, none⟩) (n + 1 + m) cap3) (n + 1 + m) ((o ++ UInt8.ofNat lb.length :: lb).map bv)) := by
            unfold Hid; rw [join_label o lb m HML.out (by omega)]; exact k1
          have hbel2 := hbel.grown h2 hB (fun k e => (hown.lt k e).1)
          have hbel3 := hbel2.grown k2 hB2 (fun k e => (h1.lt k (by simpa [Value.ownBlock] using e)).1)
          go_roundw
          case rel => exact ⟨a + 1, n + 1 + m, 0, cap3, 0, some ⟨g3, 0, none⟩, none, _, [], by omega, by go_num, rfl, rfl, HO, World.ownsRow_nil _ _ _ _, sep_nil _, by omega, by omega, fun _ => rfl, hbel3, HJ2⟩
          case measure => simp [intOf]; omega
      · have hc46 : s[a].toNat ≠ 46 := by simp at h46; omega
        by_cases h92 : ((s[a].toNat : Int) == 92) = true ∧ a + 3 < s.size
        · obtain ⟨h92a, h92b⟩ := h92
          have h92c : s.data.toList[a].toNat = 92 := by show s[a].toNat = 92; simp at h92a; omega
          obtain ⟨x, hx⟩ : ∃ x, x = s[a + 1] := ⟨_, rfl⟩
          obtain ⟨y, hy⟩ : ∃ y, y = s[a + 2] := ⟨_, rfl⟩
          obtain ⟨z, hz⟩ : ∃ z, z = s[a + 3] := ⟨_, rfl⟩
          have ix : ∀ u : World, (Instr.index 9 (.string s) (.int .i64 ((a : Int) + 1))).run Try.prog u = .ok (.int .u8 (x.toNat : Int)) u := fun u => by rw [hx]; exact idx s (a + 1) _ (by omega) (by omega) u
          have iy : ∀ u : World, (Instr.index 9 (.string s) (.int .i64 ((a : Int) + 2))).run Try.prog u = .ok (.int .u8 (y.toNat : Int)) u := fun u => by rw [hy]; exact idx s (a + 2) _ (by omega) (by omega) u
          have iz : ∀ u : World, (Instr.index 9 (.string s) (.int .i64 ((a : Int) + 3))).run Try.prog u = .ok (.int .u8 (z.toNat : Int)) u := fun u => by rw [hz]; exact idx s (a + 3) _ (by omega) (by omega) u
          have hw0 : IntKind.u8.wrap (100 * ((x.toNat : Int) - 48) + 10 * ((y.toNat : Int) - 48) + (z.toNat : Int) - 48) = loose x y z % 256 := by simp [IntKind.wrap, IntKind.signed, IntKind.bits, loose]
          obtain ⟨b, hb⟩ : ∃ b : UInt8, (b.toNat : Int) = loose x y z % 256 := ⟨UInt8.ofNat (loose x y z % 256).toNat, by rw [toNat_of (by omega)]; omega⟩
          have hwr : IntKind.u8.wrap (100 * ((x.toNat : Int) - 48) + 10 * ((y.toNat : Int) - 48) + (z.toNat : Int) - 48) = (b.toNat : Int) := by rw [hw0, hb]
          have HJ2 : Hid (J s.data.toList o (lb ++ [b]) (a + 4) R) := J_told hj.out (by omega) h92c b (by rw [hb, hx, hy, hz]; rfl)
          have bx := x.toNat_lt
          have by' := y.toNat_lt
          have bz := z.toNat_lt
          clear hw0 hb hj hx hy hz h92c
          go_wp2_with fail
          go_quiet (fail)
          have hlabq : (wr.drewN nq).ownsRow w.heap.size 5 1 (.slice a2 m c2) m (lb.map bv) := hlab
          have hownq : (wr.drewN nq).ownsRow w.heap.size 5 1 (.slice a1 n c1) n (o.map bv) := hown
          have hbelq : Below w.heap.size w (wr.drewN nq) := ⟨hbel.os, hbel.tape, hbel.output, hbel.size, hbel.block⟩
          have hBq : w.heap.size ≤ (wr.drewN nq).heap.size := hB
          clear hown hlab hbel hB ix iy iz
          go_wp2_with (at_builtin; refine wpList_app rfl (.tmp 79) (.tmp 82) rfl _ _ rfl w.heap.size _ _ _ rfl hlabq rfl (by simp) (by simp) (by simp; omega) hBq ?_; intro g cap w2 h1 h2 h3 h4)
          have hown2 := hownq.kept h2 hsep.left
          have hsep2 := (sep_grown (m := m + 1) (cap := cap) hsep.symm h3 hownq).symm
          have hbel2 := hbelq.grown h2 hBq (fun k e => (hlabq.lt k e).1)
          go_roundw
          case rel => exact ⟨a + 4, n, m + 1, c1, cap, a1, some ⟨g, 0, none⟩, o, lb ++ [b], by omega, by go_num, rfl, rfl, hown2, by rw [← one_byte]; exact h1, hsep2, hn, by omega, fun e => by omega, hbel2, HJ2⟩
          case measure => simp [intOf]; omega
        · have HJ2 : Hid (J s.data.toList o (lb ++ [s[a]]) (a + 1) R) := J_plain hj.out hlt' hc46 (fun e => by
            have h5 : s[a].toNat = 92 := e
            have : ¬ a + 3 < s.size := fun h6 => h92 ⟨by simp; omega, h6⟩
            omega)
          clear hj
          by_cases h92a : ((s[a].toNat : Int) == 92) = true
          · have h92b : ¬ (a : Int) + 3 < (s.size : Int) := fun h6 => h92 ⟨h92a, by omega⟩
            clear h92
            go_wp2_with (at_builtin; refine wpList_app rfl (.tmp 22) (.tmp 26) rfl _ _ rfl w.heap.size _ _ _ rfl hlab rfl (by simp) (by simp) (by simp; omega) hB ?_; intro g cap w2 h1 h2 h3 h4)
            have hown2 := hown.kept h2 hsep.left
            have hsep2 := (sep_grown (m := m + 1) (cap := cap) hsep.symm h3 hown).symm
            have hbel2 := hbel.grown h2 hB (fun k e => (hlab.lt k e).1)
            go_roundw
            case rel => exact ⟨a + 1, n, m + 1, c1, cap, a1, some ⟨g, 0, none⟩, o, lb ++ [s[a]], by omega, by go_num, rfl, rfl, hown2, by rw [← one_byte]; exact h1, hsep2, hn, by omega, fun e => by omega, hbel2, HJ2⟩
            case measure => simp [intOf]; omega
          · clear h92
            go_wp2_with (at_builtin; refine wpList_app rfl (.tmp 22) (.tmp 26) rfl _ _ rfl w.heap.size _ _ _ rfl hlab rfl (by simp) (by simp) (by simp; omega) hB ?_; intro g cap w2 h1 h2 h3 h4)
            have hown2 := hown.kept h2 hsep.left
            have hsep2 := (sep_grown (m := m + 1) (cap := cap) hsep.symm h3 hown).symm
            have hbel2 := hbel.grown h2 hB (fun k e => (hlab.lt k e).1)
            go_roundw
            case rel => exact ⟨a + 1, n, m + 1, c1, cap, a1, some ⟨g, 0, none⟩, o, lb ++ [s[a]], by omega, by go_num, rfl, rfl, hown2, by rw [← one_byte]; exact h1, hsep2, hn, by omega, fun e => by omega, hbel2, HJ2⟩
            case measure => simp [intOf]; omega
    · have hJE := J_end hj.out (by have := HNO.out; omega)
      obtain ⟨ob, hob⟩ : ∃ ob : ByteArray, ob.data.toList = o := ⟨⟨o.toArray⟩, by simp⟩
      have hobs : ob.size ≤ 600 := by rw [← data_len, hob]; have := HNO.out; omega
      have hS : (ob ++ ({ data := #[0] } : ByteArray)).data.toList = o ++ [0] := by rw [← hob]; simp
      have HSZ : Hid ((ob ++ ({ data := #[0] } : ByteArray)).size ≤ maxLen) := by unfold Hid maxLen; rw [← data_len, hS]; have := HNO.out; simp; omega
      have HOB : Hid (ob.data.toList = o) := hob
      have HJE : Hid (R = none ∨ R = some (o ++ [0])) := hJE
      have HS : Hid ((ob ++ ({ data := #[0] } : ByteArray)).data.toList = o ++ [0]) := hS
      clear hj hJE hob hS
      have hex : ((a : Int) < (s.size : Int) ∧ ¬ (n : Int) ≤ 255) ∨ ¬ (a : Int) < (s.size : Int) := by omega
      clear hend hnil hsep hlab
      by_cases hdot : s.data.toList = [46]
      · have hd' : (s.toList == [46]) = true := by rw [ByteArray.toList_eq, hdot]; rfl
        have HP : Hid (prs s.data.toList = some [0]) := by unfold Hid; rw [hdot]; decide
        have HSD : Hid (s.data.toList = tx ({ data := #[0] } : ByteArray).data.toList) := by unfold Hid; rw [hdot]; decide
        clear hdot
        rcases hex with ⟨hx1, hx2⟩ | hx1
        all_goals
          go_wp2_with (first
            | (refine wpList_stringB _ rfl (.tmp 86) rfl _ _ _ ob rfl (by rw [HOB.out]; exact hown) ?_)
            | (go_at_call 10; refine (refText_ok _ s _ (by decide) (by decide) HSD.out).mono ?_; rintro e w2 ⟨rfl, hb2⟩))
          go_ret2
          exact ⟨ret_some HP.out, next hbel hb2⟩
      · have hd' : (s.toList == [46]) = false := by rw [ByteArray.toList_eq]; exact beq_no hdot
        have HLE : Hid (prs s.data.toList = if isName (o ++ [0]) = true ∧ tx (o ++ [0]) = s.data.toList then some (o ++ [0]) else none) := loose_ends (HR.out hdot) HJE.out
        clear hdot
        cases hnm : isName (o ++ [0]) with
        | false =>
          have HP : Hid (prs s.data.toList = none) := by unfold Hid; rw [HLE.out, if_neg (by rw [hnm]; simp)]
          have HNM : Hid (isName (ob ++ ({ data := #[0] } : ByteArray)).data.toList = false) := by unfold Hid; rw [HS.out]; exact hnm
          clear hnm
          rcases hex with ⟨hx1, hx2⟩ | hx1
          all_goals
            go_wp2_with (first
              | (refine wpList_stringB _ rfl (.tmp 86) rfl _ _ _ ob rfl (by rw [HOB.out]; exact hown) ?_)
              | (go_at_call 10; refine (refText_err _ _ HSZ.out HNM.out).mono ?_; rintro e w2 ⟨rfl, hb2⟩))
            go_ret2
            exact ⟨ret_none HP.out, next hbel hb2⟩
        | true =>
          have HNM : Hid (isName (ob ++ ({ data := #[0] } : ByteArray)).data.toList = true) := by unfold Hid; rw [HS.out]; exact hnm
          obtain ⟨tb, htb, htbs, _⟩ := text_is HNM.out
          have HTB : Hid (tb.data.toList = tx (ob ++ ({ data := #[0] } : ByteArray)).data.toList) := htb
          by_cases hte : tb.data.toList = s.data.toList
          · have HP : Hid (prs s.data.toList = some (o ++ [0])) := by unfold Hid; rw [HLE.out, if_pos ⟨hnm, by rw [← HS.out, ← htb]; exact hte⟩]
            have hte' : (tb.toList == s.toList) = true := by rw [ByteArray.toList_eq, ByteArray.toList_eq, hte]; simp
            clear hnm htb hte
            rcases hex with ⟨hx1, hx2⟩ | hx1
            all_goals
              go_wp2_with (first
                | (refine wpList_stringB _ rfl (.tmp 86) rfl _ _ _ ob rfl (by rw [HOB.out]; exact hown) ?_)
                | (go_at_call 10; refine (refText_ok _ tb _ HSZ.out HNM.out HTB.out).mono ?_; rintro e w2 ⟨rfl, hb2⟩))
              go_ret2
              exact ⟨ret_loose HP.out HS.out, next hbel hb2⟩
          · have HP : Hid (prs s.data.toList = none) := by unfold Hid; rw [HLE.out, if_neg (fun e => hte (by rw [htb, HS.out]; exact e.2))]
            have hte' : (tb.toList == s.toList) = false := by rw [ByteArray.toList_eq, ByteArray.toList_eq]; exact beq_no hte
            clear hnm htb hte
            rcases hex with ⟨hx1, hx2⟩ | hx1
            all_goals
              go_wp2_with (first
                | (refine wpList_stringB _ rfl (.tmp 86) rfl _ _ _ ob rfl (by rw [HOB.out]; exact hown) ?_)
                | (go_at_call 10; refine (refText_ok _ tb _ HSZ.out HNM.out HTB.out).mono ?_; rintro e w2 ⟨rfl, hb2⟩))
              go_ret2
              exact ⟨ret_none HP.out, next hbel hb2⟩

end Go.Proofs.Ytkfpboippchdbaa
