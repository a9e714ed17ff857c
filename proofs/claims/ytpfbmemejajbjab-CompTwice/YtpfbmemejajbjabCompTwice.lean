/- CompTwice holds: for every row of strings, the same name again is two bytes, and the root is one. -/
import Derived.Test.YtpfbmemejajbjabCpN
namespace Go.Proofs.Ytpfbmemejajbjab.compTwice
open Go.ChangeShapes Go.WideShapes Go.ChangeAt Go.RowKit
open Go.ChangeMaps (open_string shut_string)
open Pl

/-- What is held at the loop's head: a Writer, and the names that it has written. -/
def Tw (w wr : World) (g : Nat) (sv : Value) (n : Nat) (ss : List ByteArray) (B : List UInt8) (ms : Marks) (j : Nat) : Prop :=
  wr.ownsRow w.heap.size 9 1 sv n (ss.map Value.string) ∧ (n = 0 → sv = .slice none 0 0) ∧ ss.length = n ∧ Holds w wr g B ms ∧ B.length ≤ 255 * j ∧ ∀ x ∈ ss, x.data.toList ≠ [0] → ∃ q, plc ms x.data.toList = some q

theorem Tw.below {w wr wq : World} {g n j j' : Nat} {sv : Value} {ss : List ByteArray} {B : List UInt8} {ms : Marks} (h : Tw w wr g sv n ss B ms j) (hb : Below wr.heap.size wr wq) (hj : j ≤ j') : Tw w wq g sv n ss B ms j' := by
  obtain ⟨h1, h2, h3, h4, h5, h6⟩ := h
  exact ⟨own_below h1 hb, h2, h3, h4.below hb, by omega, h6⟩
theorem Tw.out {w wr : World} {g n j : Nat} {sv : Value} {ss : List ByteArray} {B : List UInt8} {ms : Marks} (h : Tw w wr g sv n ss B ms j) : Below w.heap.size w wr := h.2.2.2.1.out
theorem Tw.cell {w wr : World} {g n j g2 c : Nat} {ss : List ByteArray} {B : List UInt8} {ms : Marks} (h : Tw w wr g (.slice (some ⟨g2, 0, none⟩) n c) n ss B ms j) (k : Nat) (hk : k < n) : wr.cell? ⟨g2, k, none⟩ = some (.string (ss.getD k ⟨#[]⟩)) := by
  have hl : k < ss.length := by have := h.2.2.1; omega
  rw [h.1.cellAt k (by omega)]
  rw [List.getElem?_map, List.getElem?_eq_getElem hl, List.getD_eq_getElem?_getD, List.getElem?_eq_getElem hl]
  rfl
/-- Was the name written before? -/
def seenB (ss : List ByteArray) (x : ByteArray) : Bool := ss.any fun y => y.toList == x.toList
theorem seen_step {ss : List ByteArray} {x : ByteArray} {p : Nat} (h : p < ss.length) : seenB (ss.take (p + 1)) x = (seenB (ss.take p) x || ((ss.getD p ⟨#[]⟩).toList == x.toList)) := by
  unfold seenB
  rw [List.take_succ_eq_append_getElem h, List.any_append, List.getD_eq_getElem?_getD, List.getElem?_eq_getElem h]
  simp
/-- The three ways. -/
theorem ways {w wr : World} {g n j : Nat} {sv : Value} {ss : List ByteArray} {B : List UInt8} {ms : Marks} (h : Tw w wr g sv n ss B ms j) (x : ByteArray) (hx : isName x.data.toList = true) :
    ((x.toList == [0]) = true ∧ sizW ms x.data.toList = 1) ∨ ((x.toList == [0]) = false ∧ seenB ss x = true ∧ sizW ms x.data.toList = 2) ∨ ((x.toList == [0]) = false ∧ seenB ss x = false) := by
  by_cases h0 : x.data.toList = [0]
  · refine .inl ⟨by rw [ByteArray.toList_eq]; simp [h0], ?_⟩
    rw [h0]
    have hn : isName [0] = true := by decide
    have hs : splN ms [0] = (0, [0]) := (w_zero (w_start hn ms) (by decide) (by decide)).1
    unfold sizW; rw [hs]; rfl
  · have h0' : (x.toList == [0]) = false := by rw [ByteArray.toList_eq]; simpa using h0
    cases hs : seenB ss x with
    | false => exact .inr (.inr ⟨h0', rfl⟩)
    | true =>
      refine .inr (.inl ⟨h0', rfl, ?_⟩)
      unfold seenB at hs
      rw [List.any_eq_true] at hs
      obtain ⟨y, hy, hyx⟩ := hs
      rw [str_beq] at hyx
      have e : y = x := by simpa using hyx
      subst e
      obtain ⟨q, hq⟩ := h.2.2.2.2.2 y hy h0
      unfold sizW
      rw [spl_hit hx h0 hq]; rfl
/-- One name more was written and noted. -/
theorem Tw.next {w wr w1 w2 : World} {g n j : Nat} {sv sv' : Value} {ss : List ByteArray} {B : List UInt8} {ms : Marks} {x : ByteArray} (h : Tw w wr g sv n ss B ms j) (hx : isName x.data.toList = true) (hH : Holds w w1 g (outW B ms x.data.toList) (marW B ms x.data.toList)) (hr : w1.ownsRow w.heap.size 9 1 sv n (ss.map Value.string))
    (own' : w2.ownsRow w.heap.size 9 1 sv' (n + 1) ((ss ++ [x]).map Value.string)) (grow : (w1.alloc (.cells #[.string x] 9)).grownBy w2 sv.ownBlock) : Tw w w2 g sv' (n + 1) (ss ++ [x]) (outW B ms x.data.toList) (marW B ms x.data.toList) (j + 1) := by
  obtain ⟨h1, h2, h3, h4, h5, h6⟩ := h
  have hsz := siz_le (ms := ms) hx
  have h255 := (name_some hx).1
  refine ⟨own', fun e => by omega, by rw [List.length_append, h3]; rfl, (hH.alloc _).grown (hr.alloc _) (Nat.le_refl _) (by decide) (by decide) grow, by rw [outW_len hx]; omega, fun y hy h0 => ?_⟩
  rcases List.mem_append.1 hy with hy | hy
  · obtain ⟨q, hq⟩ := h6 y hy h0
    exact ⟨q, plc_keep hq⟩
  · simp at hy
    subst hy
    exact mar_has hx h0

set_option maxRecDepth 20000 in
set_option maxHeartbeats 4000000 in
theorem walk_some (ad : Addr) (N cap0 M : Nat) (ns : List ByteArray) (w : World) (hN : N ≤ maxLen) (hM : M = min N 14) (hc : ∀ i, i < N → w.cell? (ad.add i) = some (.string (ns.getD i ⟨#[]⟩))) (hsz : ∀ i, i < N → (ns.getD i ⟨#[]⟩).size ≤ maxLen) :
    Calls Try.prog 4 #[.slice (some ad) N cap0] w fun e w' => e = .returned (.bool true) ∧ Below w.heap.size w w' := by
  unfold maxLen at hN
  have HC : Hid (∀ i, i < M → ∀ u, Below w.heap.size w u → u.cell? (ad.add i) = some (.string (ns.getD i ⟨#[]⟩))) := fun i hi u hu => by
    have h1 := hc i (by omega)
    rw [hu.cell (World.block_lt_of_cell? _ _ h1), h1]
  have HSZ : Hid (∀ i, i < M → (ns.getD i ⟨#[]⟩).size ≤ maxLen) := fun i hi => hsz i (by omega)
  have hMN : M ≤ N := by omega
  have hM14 : M ≤ 14 := by omega
  have HE : Hid (∀ j, j ≤ M → ¬ j < M → decide (j < N) = false ∨ (j < N ∧ decide ((j : Int) < 14) = false)) := fun j h1 h2 => by
    by_cases h3 : j < N
    · exact .inr ⟨h3, by simp; omega⟩
    · exact .inl (by simp; omega)
  clear hc hM hsz
  have hb : Below w.heap.size w w := Below.refl _ _
  go_enter Try.func4, Try.ntmps4
  go_wp2_with (first
    | (go_at_call 5; go_must (refine (awake_any _).mono ?_); rintro e w0 ⟨rfl, b0⟩; replace hb := next hb b0; clear b0)
    | (go_at_call 10; go_must (refine (new_h w _ hb).mono ?_); rintro e w1 ⟨g, rfl, h1, _⟩; have H1 : Hid (Holds w w1 g [] []) := h1; clear h1 hb))
  go_loopw [4, 5] (fun sv i wr => ∃ (j n c : Nat) (y : Option Addr) (ss : List ByteArray) (B : List UInt8) (ms : Marks), j ≤ M ∧ n ≤ j ∧ sv = .slice y n c ∧ i = .int .i64 (j : Int) ∧ Hid (Tw w wr g (.slice y n c) n ss B ms j)) (fun _ i _ => M - (intOf i).toNat)
  case atStart => exact ⟨0, 0, 0, none, [], [], [], Nat.zero_le _, Nat.le_refl _, rfl, rfl, World.ownsRow_nil _ _ _ _, fun _ => rfl, rfl, H1.out, by decide, fun x hx => by simp at hx⟩
  case round =>
    clear H1
    obtain ⟨j, n, c, y, ss, B, ms, hj, hnj, rfl, rfl, HT⟩ := hrel
    by_cases hjM : j < M
    · have hjN : j < N := by omega
      have hj14 : (j : Int) < 14 := by omega
      have hn14 : n ≤ 14 := by omega
      have hcell := HC.out j hjM wr HT.out.out
      have hxs := HSZ.out j hjM
      obtain ⟨x, hx⟩ : ∃ x, ns.getD j ⟨#[]⟩ = x := ⟨_, rfl⟩
      rw [hx] at hcell hxs
      have HX : Hid (ns.getD j ⟨#[]⟩ = x) := hx
      have HXS : Hid (x.size ≤ maxLen) := hxs
      clear hx hxs
      cases hnm : isName x.data.toList with
      | false =>
        have HNM : Hid (isName x.data.toList = false) := hnm
        clear hnm
        go_wp2_with (first
          | (go_at_call 6; go_must (refine (refMay_at x false _ HXS.out HNM.out).mono ?_); rintro e w1 ⟨rfl, b1⟩))
        go_roundw
        case rel => exact ⟨j + 1, n, c, y, ss, B, ms, by omega, by omega, rfl, by go_num, HT.out.below b1 (by omega)⟩
        case measure => simp [intOf]; omega
      | true =>
        have HNM : Hid (isName x.data.toList = true) := hnm
        have hB : B.length ≤ 255 * j := HT.out.2.2.2.2.1
        obtain ⟨a1, a2, a3, a4⟩ := nam_fits (B := B) (ms := ms) hnm (by omega)
        have hsz := siz_le (ms := ms) hnm
        have hx255 := (name_some hnm).1
        have hw := ways HT.out x hnm
        obtain ⟨z, hz⟩ : ∃ z, z = sizW ms x.data.toList := ⟨_, rfl⟩
        obtain ⟨LB, hLB⟩ : ∃ LB, LB = B.length := ⟨_, rfl⟩
        obtain ⟨Z1, hZ1⟩ : ∃ Z : ByteArray, Z.data.toList = B := ⟨⟨B.toArray⟩, rfl⟩
        obtain ⟨Z2, hZ2⟩ : ∃ Z : ByteArray, Z.data.toList = outW B ms x.data.toList := ⟨⟨(outW B ms x.data.toList).toArray⟩, rfl⟩
        have s1 : (Z1.size : Int) = (LB : Int) := by rw [← data_len, hZ1, hLB]
        have s2 : (Z2.size : Int) = (LB : Int) + (z : Int) := by rw [← data_len, hZ2, ← a3, a2, hLB, hz]; omega
        have hLB2 : LB ≤ 255 * j := by omega
        rw [← hz] at hw hsz
        have hz2 : z ≤ 255 := by omega
        have hsub : (LB : Int) + (z : Int) - (LB : Int) = (z : Int) := by omega
        have HA : Hid (namE B ms x.data.toList = 0 ∧ namB B ms x.data.toList = outW B ms x.data.toList ∧ namM B ms x.data.toList = marW B ms x.data.toList) := ⟨a1, a3, a4⟩
        have HZ1 : Hid (Z1.data.toList = B) := hZ1
        have HZ2 : Hid (Z2.data.toList = outW B ms x.data.toList) := hZ2
        clear a1 a2 a3 a4 hnm hz hLB hZ1 hZ2 hB hsz hx255
        go_wp2_with (first
          | (go_at_call 6; go_must (refine (refMay_at x true _ HXS.out HNM.out).mono ?_); rintro e w1 ⟨rfl, b1⟩; have HT1 : Hid (Tw w w1 g (.slice y n c) n ss B ms j) := HT.out.below b1 (Nat.le_refl _); have hcell1 := (HC.out j hjM w1 HT1.out.out).trans (by rw [HX.out]); clear b1 HT hcell)
          | (go_at_call 11; have _t := HZ1; go_must (refine (all_k HT1.out.2.2.2.1 HZ1.out).mono ?_); rintro e w' ⟨rfl, hw'⟩; obtain rfl := hw'.symm; clear _t HZ1)
          | (go_at_call 12; go_must (refine (name_k x HXS.out HT1.out.2.2.2.1 HA.out.1 HA.out.2.1 HA.out.2.2).mono ?_); rintro e w2 ⟨rfl, h2, be2⟩; have H2 : Hid (Holds w w2 g (outW B ms x.data.toList) (marW B ms x.data.toList)) := h2; have R2 : Hid (w2.ownsRow w.heap.size 9 1 (.slice y n c) n (ss.map Value.string)) := be2.row HT1.out.1 (by decide) (by decide); clear h2 be2 hcell1)
          | (go_at_call 11; go_must (refine (all_k H2.out HZ2.out).mono ?_); rintro e w' ⟨rfl, hw'⟩; obtain rfl := hw'.symm)
          | (go_at_call 9; refine (num_any _ _).mono ?_; rintro e w' ⟨rfl, hw'⟩; obtain rfl := hw'.symm))
        have HW : Hid (((x.toList == [0]) = true ∧ z = 1) ∨ ((x.toList == [0]) = false ∧ seenB ss x = true ∧ z = 2) ∨ ((x.toList == [0]) = false ∧ seenB ss x = false)) := hw
        have HSL : Hid (ss.length = n) := HT1.out.2.2.1
        clear hw
        go_loopw [9, 10] (fun od k wq => ∃ (p : Nat) (b : Bool), p ≤ n ∧ od = .bool b ∧ k = .int .i64 (p : Int) ∧ Hid (b = seenB (ss.take p) x) ∧ Hid (∃ m, wq = w2.drewN m)) (fun _ k _ => n - (intOf k).toNat)
        case atStart => exact ⟨0, false, Nat.zero_le _, rfl, rfl, rfl, 0, rfl⟩
        case round =>
          obtain ⟨p, b, hp, rfl, rfl, HB, HD⟩ := hrel
          have hbd := below_drew HD.out
          by_cases hpn : p < n
          · obtain ⟨g2, rfl⟩ := row_some R2.out (by omega)
            have hpn' : (p : Int) < (n : Int) := by omega
            have hss : p < ss.length := by have := HSL.out; omega
            obtain ⟨S, hS⟩ : ∃ S, S = ss.getD p ⟨#[]⟩ := ⟨_, rfl⟩
            have c1 : wr.cell? ⟨g2, p, none⟩ = some (.string S) := by
              have h1 := own_below R2.out hbd
              rw [h1.cellAt p (by omega), List.getElem?_map, List.getElem?_eq_getElem hss, hS, List.getD_eq_getElem?_getD, List.getElem?_eq_getElem hss]
              rfl
            have c2 : wr.cell? (ad.add j) = some (.string x) := (HC.out j hjM wr (next H2.out.out hbd)).trans (by rw [HX.out])
            obtain ⟨t, ht⟩ : ∃ t, (S.toList == x.toList) = t := ⟨_, rfl⟩
            have HB2 : Hid ((b || t) = seenB (ss.take (p + 1)) x) := by unfold Hid; rw [seen_step hss, ← HB.out, ← hS, ht]
            clear hS hbd
            cases b with
            | true =>
              go_wp2
              go_quiet (fail)
              go_wp2
              go_roundw
              case rel => exact ⟨p + 1, true, by omega, rfl, by go_num, HB2, drew_next HD.out ⟨_, rfl⟩⟩
              case measure => simp [intOf]; omega
            | false =>
              go_wp2
              go_quiet (fail)
              go_wp2
              go_roundw
              case rel => exact ⟨p + 1, t, by omega, rfl, by go_num, HB2, drew_next HD.out ⟨_, rfl⟩⟩
              case measure => simp [intOf]; omega
          · have hpe : p = n := by omega
            have hpn' : decide (p < n) = false := by simpa using hpn
            have HBE : Hid (b = seenB ss x) := by unfold Hid; rw [HB.out, hpe, List.take_of_length_le (by have := HSL.out; omega)]
            have H3 : Hid (Holds w wr g (outW B ms x.data.toList) (marW B ms x.data.toList)) := H2.out.below hbd
            have R3 : Hid (wr.ownsRow w.heap.size 9 1 (.slice y n c) n (ss.map Value.string)) := own_below R2.out hbd
            have hcell3 : wr.cell? (ad.add j) = some (.string x) := (HC.out j hjM wr H3.out.out).trans (by rw [HX.out])
            have HNIL : Hid (n = 0 → Value.slice y n c = .slice none 0 0) := HT1.out.2.1
            clear hpe hpn hp HB HD hbd H2 R2
            have hway : ((x.toList == [0]) = true ∧ ((z : Int) != 1) = false) ∨ ((x.toList == [0]) = false ∧ b = true ∧ ((z : Int) != 2) = false) ∨ ((x.toList == [0]) = false ∧ b = false) := by
              rcases HW.out with ⟨h1, h2⟩ | ⟨h1, h2, h3⟩ | ⟨h1, h2⟩
              · exact .inl ⟨h1, by rw [h2]; rfl⟩
              · exact .inr (.inl ⟨h1, by rw [HBE.out, h2], by rw [h3]; rfl⟩)
              · exact .inr (.inr ⟨h1, by rw [HBE.out, h2]⟩)
            clear HW HBE
            rcases hway with ⟨h1, h2⟩ | ⟨h1, rfl, h2⟩ | ⟨h1, rfl⟩
            all_goals
              go_wp2_with (at_builtin; (refine wpList_appS _ rfl (.tmp 77) (.tmp 82) rfl w.heap.size (.slice y n c) n ss rfl (R3.out.alloc _) HNIL.out (some ⟨wr.heap.size, 0, none⟩) 1 1 [x] rfl rfl (.inr ⟨_, rfl, one_cell wr x⟩) (by omega) (by have := H3.out.out.size; simp; omega) ?_); intro v5 w5 own5 nil5 grow5 at5; obtain ⟨y5, k5, rfl⟩ := row_shape own5; have HT5 : Hid (Tw w w5 g (.slice y5 (n + 1) k5) (n + 1) (ss ++ [x]) (outW B ms x.data.toList) (marW B ms x.data.toList) (j + 1)) := HT1.out.next HNM.out H3.out R3.out own5 grow5; clear own5 nil5 grow5 at5)
              go_roundw
              case rel => exact ⟨j + 1, n + 1, k5, y5, ss ++ [x], _, _, by omega, by omega, rfl, by go_num, HT5⟩
              case measure => simp [intOf]; omega
    · have he := HE.out j hj hjM
      clear hjM hj hnj
      rcases he with he | ⟨he, he2⟩
      all_goals
        go_wp2
        go_ret
        exact ⟨rfl, HT.out.out⟩

set_option maxRecDepth 20000 in
theorem walk_nil (w : World) : Calls Try.prog 4 #[.slice none 0 0] w fun e w' => e = .returned (.bool true) ∧ Below w.heap.size w w' := by
  have hb : Below w.heap.size w w := Below.refl _ _
  go_enter Try.func4, Try.ntmps4
  go_wp2_with (first
    | (go_at_call 5; go_must (refine (awake_any _).mono ?_); rintro e w0 ⟨rfl, b0⟩; replace hb := next hb b0; clear b0)
    | (go_at_call 10; go_must (refine (new_h w _ hb).mono ?_); rintro e w1 ⟨g, rfl, h1, _⟩; have H1 : Hid (Holds w w1 g [] []) := h1; clear h1 hb))
  go_loopw [4, 5] (fun sv i wr => sv = .slice none 0 0 ∧ i = .int .i64 0 ∧ Below w.heap.size w wr) (fun _ _ _ => 0)
  case atStart => exact ⟨rfl, rfl, H1.out.out⟩
  case round =>
    obtain ⟨rfl, rfl, hb⟩ := hrel
    go_wp2
    go_ret
    exact ⟨rfl, hb⟩

theorem walk (v : Value) (ps : List ByteArray) (w : World) (h : SRow w v ps) : Calls Try.prog 4 #[v] w fun e w' => e = .returned (.bool true) ∧ Below w.heap.size w w' := by
  obtain ⟨⟨rfl, _⟩ | ⟨a, cap, rfl, hc⟩, hm, hz⟩ := h
  · exact walk_nil w
  · exact walk_some a ps.length cap _ ps w hm rfl hc hz

theorem own : ownKnob Try.prog.godebug = none := by kernel_rfl
theorem laidOut : laidOutB Try.prog = true := by kernel_rfl
theorem cells9 : Try.prog.cellsOf 9 = 1 := by kernel_rfl

set_option maxRecDepth 100000 in
theorem lifted (os : Os) (started : os.Started) (H : Type) (enc : TypeId × Value → H) :
    ReturnsInHanded {} Try.checked os 4 .any (Rows.compTwiceSpec.pre6 enc Try.prog Try.f4 Rows.compTwiceRow.domain false) (Rows.compTwiceSpec.post enc Try.prog Try.f4 false true false false) := by
  refine returnsInHanded_of_change (C := Try.checked) own started (by kernel_rfl) Try.func4
    (ChangeSpec.witness6 (enc := enc) (C := Try.checked) false ⟨#[], #[.slice none 0 0], []⟩ 8 (by kernel_rfl) (by kernel_rfl) (by kernel_rfl) (by kernel_rfl)) ?_
  intro W base args ds gs before hval0 hW _ _
  have hval : ∀ (j : Nat) t v, Try.f4.params[j]? = some t → args[j]? = some v → Value.okWide Try.prog W .any base t v := hval0
  have hW' := hW
  obtain ⟨p, q, hA0, hV, rfl, hfz, hnd⟩ := hW
  have hA : DataW.TrodAll enc Try.prog W 0 (fun _ => true) true Try.f4.params.toList args.toList ds p := hA0
  rw [Try.params4] at hA hval
  obtain ⟨v0, vs0, d0, ds0, p0, q0, hargs, rfl, rfl, h0, r0⟩ := trodAll_cons hA
  obtain ⟨rfl, rfl, rfl⟩ := trodAll_nil r0
  obtain rfl : args = #[v0] := by cases args; simp_all
  obtain ⟨rfl, rfl⟩ := trodVars_none hV
  obtain ⟨a0, h0k, d0k, w0⟩ := open_srow (hval 0 31 v0 rfl rfl) h0
  have hlt0 : ∀ x ∈ p0, x.block < W.heap.size := fun x hx => by
    have := hW'.lt x (by simp [hx])
    simpa using this
  clear hA0 hval0
  simp only [List.append_nil] at hW'
  refine (walk v0 a0  W w0).mono fun e W' ⟨he, bel⟩ => ?_
  subst he
  exact ⟨_, rfl, _, _, _, [], _, [], hW', trodAll_mk1 (shut_bool Try.underlying4 _), (trodAll_cons_mk (Below.trod laidOut (by kernel_rfl) (of_decide_eq_true (by kernel_rfl)) h0k bel hlt0) trodAll_mk0), rfl, bel.frame _, fun h => by cases h⟩

/-- The statement. -/
theorem proved : Rows.CompTwiceSaid :=
  OpenClaim.holds_of_wide 4 Try.f4 rfl rfl rfl rfl rfl rfl rfl ⟨rfl, rfl, rfl, rfl, rfl⟩ rfl rfl rfl rfl rfl (by kernel_rfl) Try.func4 (by kernel_rfl)
    (of_decide_eq_true (by kernel_rfl)) (by unfold Func.isWrapper; first | (rw [if_pos (by decide +kernel)]; kernel_rfl) | (rw [if_neg (by decide +kernel)]; exact ⟨rfl, rfl⟩))
    (fun os started H enc _ => lifted os started H enc)
#print axioms proved

end Go.Proofs.Ytpfbmemejajbjab.compTwice
