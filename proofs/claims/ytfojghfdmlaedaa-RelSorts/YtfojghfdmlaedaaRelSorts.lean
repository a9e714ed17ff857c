/- RelSorts holds: for every row of strings, its names stand in one row, and what is beneath a name stands together. -/
import Derived.Test.YtfojghfdmlaedaaWalkV
import Derived.Test.YtfojghfdmlaedaaPlainL
import Derived.Deep.RegionWith
import Derived.Deep.RegionLaw
import Derived.SliceStrings
import Derived.Carry
import Derived.ProofKit
import Derived.OpenShut
import Derived.ShutString
namespace Go.Proofs.Ytfojghfdmlaedaa.relSorts
open Go.ChangeShapes Go.WideShapes Go.ChangeAt Go.RowKit
open Pl

/-- A row of strings that came in. -/
def SArg (w : World) (v : Value) (N : Nat) (ns : List ByteArray) : Prop :=
  ((v = .slice none 0 0 ∧ N = 0) ∨ ∃ (a : Addr) (cap : Nat), v = .slice (some a) N cap ∧ N ≤ maxLen ∧ ∀ i, i < N → w.cell? (a.add i) = some (.string (ns.getD i ByteArray.empty))) ∧ ∀ i, i < N → (ns.getD i ByteArray.empty).size ≤ maxLen

/-- What the row 'all' is: names in order, in memory that the call owns. -/
def AllAt (w0 : World) (w : World) (v : Value) (n : Nat) (ss : List ByteArray) : Prop :=
  ss.length = n ∧ InRow ss ∧ (n = 0 → v = .slice none 0 0) ∧ w.ownsRow w0.heap.size 9 1 v n (ss.map Value.string)

theorem AllAt.below {w0 w w' : World} {v : Value} {n : Nat} {ss : List ByteArray} (h : AllAt w0 w v n ss) (hb : Below w.heap.size w w') : AllAt w0 w' v n ss :=
  ⟨h.1, h.2.1, h.2.2.1, own_below h.2.2.2 hb⟩
theorem AllAt.cell {w0 w : World} {g cap n : Nat} {ss : List ByteArray} (h : AllAt w0 w (.slice (some ⟨g, 0, none⟩) n cap) n ss) (k : Nat) (hk : k < ss.length) : w.cell? ⟨g, k, none⟩ = some (.string ss[k]) := by
  rw [h.2.2.2.cellAt k (by have := h.1; omega)]
  simp [hk]
theorem AllAt.size {w0 w : World} {v : Value} {n : Nat} {ss : List ByteArray} (h : AllAt w0 w v n ss) (k : Nat) (hk : k < ss.length) : (ss[k]).size ≤ maxLen := by
  have := name_size (h.2.1.2 _ (List.getElem_mem hk))
  unfold maxLen
  omega
theorem AllAt.form {w0 w : World} {v : Value} {n : Nat} {ss : List ByteArray} (h : AllAt w0 w v n ss) (hn : 0 < n) : ∃ g cap, v = .slice (some ⟨g, 0, none⟩) n cap ∧ n ≤ cap ∧ w0.heap.size ≤ g ∧ g < w.heap.size := by
  rcases h.2.2.2.2 with ⟨_, rfl⟩ | ⟨g, cap, cur, rfl, hb, hg, hnc, _⟩
  · omega
  · exact ⟨g, cap, rfl, hnc, (h.2.2.2.lt g rfl).1, (h.2.2.2.lt g rfl).2⟩

theorem AllAt.grown {w0 w w' : World} {v : Value} {n : Nat} {ss : List ByteArray} {r : Option Nat} (h : AllAt w0 w v n ss) (hg : w.grownBy w' r) (hne : v.ownBlock = none ∨ v.ownBlock ≠ r) : AllAt w0 w' v n ss :=
  ⟨h.1, h.2.1, h.2.2.1, h.2.2.2.kept hg hne⟩
theorem one_cell (w : World) (x : ByteArray) : ∀ j (hj : j < [x].length), (w.alloc (.cells #[.string x] 9)).cell? ((⟨w.heap.size, 0, none⟩ : Addr).add j) = some (.string [x][j]) := by
  intro j hj
  have := World.news_of_block (heap_alloc_new w (.cells #[.string x] 9)) j (.string [x][j])
  have hj0 : j = 0 := by simpa using hj
  subst hj0
  exact this (by simp)
theorem below_lay {w b c : World} {o : Obj} {v : Value} {base : Nat} (hbase : base = w.heap.size) (hb : Below w.heap.size w b) (hg : (b.alloc o).grownBy c v.ownBlock) (hv : ∀ k, v.ownBlock = some k → base ≤ k) : Below w.heap.size w c := by
  subst hbase
  exact (lay hb o).grown hg (Nat.le_trans hb.size (by simp)) hv
theorem add_at (g k j : Nat) : (⟨g, k, none⟩ : Addr).add j = ⟨g, k + j, none⟩ := by unfold Addr.add; split <;> simp_all
theorem AllAt.takes {w0 w : World} {g cap n : Nat} {ss : List ByteArray} (h : AllAt w0 w (.slice (some ⟨g, 0, none⟩) n cap) n ss) (i : Nat) : ∀ j (hj : j < (ss.take i).length), w.cell? ((⟨g, 0, none⟩ : Addr).add j) = some (.string (ss.take i)[j]) := by
  intro j hj
  rw [add_at, Nat.zero_add, h.cell j (by rw [List.length_take] at hj; omega), List.getElem_take]
theorem AllAt.drops {w0 w : World} {g cap n : Nat} {ss : List ByteArray} (h : AllAt w0 w (.slice (some ⟨g, 0, none⟩) n cap) n ss) (i : Nat) : ∀ j (hj : j < (ss.drop i).length), w.cell? ((⟨g, i, none⟩ : Addr).add j) = some (.string (ss.drop i)[j]) := by
  intro j hj
  rw [add_at, h.cell (i + j) (by rw [List.length_drop] at hj; omega), List.getElem_drop]
theorem sep_step {v v' : Value} {g H : Nat} (h : v'.ownBlock = v.ownBlock ∨ ∃ g', v'.ownBlock = some g' ∧ H ≤ g') (hv : v.ownBlock ≠ some g) (hg : g < H) : v'.ownBlock ≠ some g := by
  rcases h with h | ⟨g', h, hl⟩
  · rw [h]; exact hv
  · rw [h]; intro e; have := Option.some.inj e; omega
/-- The new row. -/
theorem AllAt.made {w0 w : World} {v : Value} {n k m : Nat} {ss : List ByteArray} {x : ByteArray} (hl : ss.length = n) (hr : InRow (ss.take k ++ [x] ++ ss.drop k)) (hm : m = n + 1) (h : w.ownsRow w0.heap.size 9 1 v m ((([] ++ ss.take k) ++ [x] ++ ss.drop k).map Value.string)) : AllAt w0 w v (n + 1) (ss.take k ++ [x] ++ ss.drop k) := by
  subst hm
  refine ⟨?_, hr, fun e => by omega, by simpa using h⟩
  simp only [List.length_append, List.length_take, List.length_drop, List.length_cons, List.length_nil]
  omega

set_option maxRecDepth 20000 in
set_option maxHeartbeats 4000000 in
theorem walk_some (ad : Addr) (N cap0 M : Nat) (ns : List ByteArray) (w : World) (hN : N ≤ maxLen) (hM : M = min N 12) (hc : ∀ i, i < N → w.cell? (ad.add i) = some (.string (ns.getD i ByteArray.empty))) (hsz : ∀ i, i < N → (ns.getD i ByteArray.empty).size ≤ maxLen) :
    Calls Try.prog 3 #[.slice (some ad) N cap0] w fun e w' => e = .returned (.bool true) ∧ Below w.heap.size w w' := by
  unfold maxLen at hN
  have HC : Hid (∀ i, i < M → ∀ u, Below w.heap.size w u → u.cell? (ad.add i) = some (.string (ns.getD i ByteArray.empty))) := fun i hi u hu => by
    have h1 := hc i (by omega)
    have h2 : (ad.add i).block < w.heap.size := World.block_lt_of_cell? _ _ h1
    rw [hu.cell h2, h1]
  have HSZ : Hid (∀ i, i < M → (ns.getD i ByteArray.empty).size ≤ maxLen) := fun i hi => hsz i (by omega)
  have hMN : M ≤ N := by omega
  have hM12 : M ≤ 12 := by omega
  have HE : Hid (∀ j, j ≤ M → ¬ j < M → decide (j < N) = false ∨ (j < N ∧ decide ((j : Int) < 12) = false)) := fun j h1 h2 => by
    by_cases h3 : j < N
    · exact .inr ⟨h3, by simp; omega⟩
    · exact .inl (by simp; omega)
  clear hc hM hsz
  have hb : Below w.heap.size w w := Below.refl _ _
  go_enter Try.func3, Try.ntmps3
  go_wp2_with (first
    | (go_at_call 4; go_must (refine (awake_any _).mono ?_); rintro e w0 ⟨rfl, b0⟩; replace hb := next hb b0; clear b0))
  go_loopw [3, 4] (fun al i wr => ∃ (j n : Nat) (ss : List ByteArray), j ≤ M ∧ n ≤ j ∧ i = .int .i64 (j : Int) ∧ Hid (AllAt w wr al n ss) ∧ Below w.heap.size w wr) (fun _ i _ => M - (intOf i).toNat)
  case atStart => exact ⟨0, 0, [], Nat.zero_le _, Nat.le_refl _, rfl, ⟨rfl, row_nil, fun _ => rfl, World.ownsRow_nil _ _ _ _⟩, hb⟩
  case round =>
    clear hb
    obtain ⟨j, n, ss, hj, hnj, rfl, HA, hb⟩ := hrel
    by_cases hjM : j < M
    · have hjN : j < N := by omega
      have hj12 : (j : Int) < 12 := by omega
      have hcell := HC.out j hjM wr hb
      have hxs := HSZ.out j hjM
      obtain ⟨x, hx⟩ : ∃ x, ns.getD j ByteArray.empty = x := ⟨_, rfl⟩
      rw [hx] at hcell hxs
      have HX : Hid (ns.getD j ByteArray.empty = x) := hx
      have HXS : Hid (x.size ≤ maxLen) := hxs
      clear hx hxs
      cases hnm : isName x.data.toList with
      | false =>
        have HNM : Hid (isName x.data.toList = false) := hnm
        clear hnm
        go_wp2_with (first
          | (go_at_call 5; go_must (refine (refMay_as x false _ HXS.out HNM.out).mono ?_); rintro e w1 ⟨rfl, b1⟩))
        go_roundw
        case rel => exact ⟨j + 1, n, ss, by omega, by omega, by go_num, HA.out.below b1, next hb b1⟩
        case measure => simp [intOf]; omega
      | true =>
        have HNM : Hid (isName x.data.toList = true) := hnm
        clear hnm
        by_cases hn0 : n = 0
        · subst hn0
          obtain rfl := HA.out.2.2.1 rfl
          go_wp2_with (first
            | (go_at_call 5; go_must (refine (refMay_as x true _ HXS.out HNM.out).mono ?_); rintro e w1 ⟨rfl, b1⟩; replace hb := next hb b1; have HA1 : Hid (AllAt w w1 (.slice none 0 0) 0 ss) := HA.out.below b1; clear HA b1 hcell))
          go_loopw [5] (fun k wq => k = .int .i64 0 ∧ Hid (AllAt w wq (.slice none 0 0) 0 ss) ∧ Below w.heap.size w wq) (fun _ _ => 0)
          case atStart => exact ⟨rfl, HA1, hb⟩
          case round =>
            clear hb HA1
            obtain ⟨rfl, HA, hb⟩ := hrel
            go_wp2
            refine wp_region_bel (by kernel_rfl) (by kernel_rfl) (fun _ => ?_)
            repeat (go_big_quiet_step (fail))
            refine wpQuiet_nil ?_
            intro wn hwn
            have hbn := bel_out hwn
            replace HA : Hid (AllAt w wn (.slice none 0 0) 0 ss) := HA.out.below hbn
            replace hb := next hb hbn
            have hcell := HC.out j hjM wn hb
            rw [HX.out] at hcell
            clear hwn hbn
            have hss : ss = [] := List.eq_nil_of_length_eq_zero HA.out.1
            go_wp2_with (first
              | (refine wpList_appS _ rfl (.tmp 46) (.tmp 49) rfl w.heap.size (.slice none 0 0) 0 [] rfl (World.ownsRow_nil _ _ _ _) (fun _ => rfl) none 0 0 [] rfl rfl (.inl rfl) (by omega) hb.size ?_; intro v1 w1 own1 nil1 grow1 at1; obtain rfl := nil1 rfl; replace hb := next hb (below_of grow1); have hcell1 := (HC.out j hjM w1 hb).trans (by rw [HX.out]); clear hcell at1 grow1 own1 HA)
              | (refine wpList_appS _ rfl (.tmp 51) (.tmp 56) rfl w.heap.size (.slice none 0 0) 0 [] rfl (World.ownsRow_nil _ _ _ _) (fun _ => rfl) (some ⟨w1.heap.size, 0, none⟩) 1 1 [x] rfl rfl (.inr ⟨_, rfl, one_cell w1 x⟩) (by omega) (lay hb _).size ?_; intro v2 w2 own2 nil2 grow2 at2; replace hb := below_lay rfl hb grow2 (fun k e => by cases e); clear grow2 at2 hcell1)
              | (refine wpList_appS _ rfl (.tmp 58) (.tmp 61) rfl w.heap.size v2 (0 + 1) _ rfl own2 nil2 none 0 0 [] rfl rfl (.inl rfl) (by omega) hb.size ?_; intro v3 w3 own3 nil3 grow3 at3; replace hb := hb.grown grow3 hb.size (fun k e => (own2.lt k e).1); clear grow3 at3 nil2 own2))
            go_roundw
            case rel =>
              refine ⟨j + 1, 0 + 1, ([] : List ByteArray).take 0 ++ [x] ++ ([] : List ByteArray).drop 0, by omega, by omega, by go_num, AllAt.made (w0 := w) rfl (row_ins row_nil HNM.out (by simp) (by simp)) rfl (by simpa using own3), hb⟩
            case measure => simp [intOf]; omega
        · obtain ⟨g, cap, rfl, hnc, hgw, hgr⟩ := HA.out.form (by omega)
          have hn12 : n ≤ 12 := by omega
          go_wp2_with (first
            | (go_at_call 5; go_must (refine (refMay_as x true _ HXS.out HNM.out).mono ?_); rintro e w1 ⟨rfl, b1⟩; replace hb := next hb b1; have HA1 : Hid (AllAt w w1 (.slice (some ⟨g, 0, none⟩) n cap) n ss) := HA.out.below b1; clear HA b1 hcell hgr))
          go_loopw [5] (fun k wq => ∃ i : Nat, i ≤ n ∧ k = .int .i64 (i : Int) ∧ Hid (∀ y ∈ ss.take i, NotBehind y x) ∧ Hid (AllAt w wq (.slice (some ⟨g, 0, none⟩) n cap) n ss) ∧ Below w.heap.size w wq) (fun k _ => n - (intOf k).toNat)
          case atStart => exact ⟨0, Nat.zero_le _, rfl, by unfold Hid; simp, HA1, hb⟩
          case round =>
            clear hb HA1
            obtain ⟨i, hi, rfl, HT, HA, hb⟩ := hrel
            have hcx : ∀ nb : Bel wr, nb.to.cell? (ad.add j) = some (.string x) := fun nb => by rw [HC.out j hjM nb.to (next hb nb.h), HX.out]
            by_cases hin : i < n
            · have hil : i < ss.length := by have := HA.out.1; omega
              obtain ⟨S, hS⟩ : ∃ S, S = ss[i] := ⟨_, rfl⟩
              have hci : ∀ nb : Bel wr, nb.to.cell? ⟨g, i, none⟩ = some (.string S) := fun nb => by rw [hS]; exact (HA.out.below nb.h).cell i hil
              have HSS : Hid (S.size ≤ maxLen) := by unfold Hid; rw [hS]; exact HA.out.size i hil
              obtain ⟨c, hcc⟩ : ∃ c, cmpN S.data.toList x.data.toList = c := ⟨_, rfl⟩
              have HCC : Hid (cmpN S.data.toList x.data.toList = c) := hcc
              have HSI : Hid (S = ss[i]) := hS
              have e0 : decide (i < n) = true := by simpa using hin
              have hin2 : (i : Int) < (n : Int) := by omega
              clear hcc hS
              by_cases hc : c ≤ 0
              · go_wp2
                refine wp_region_bel (by kernel_rfl) (by kernel_rfl) (fun _ => ?_)
                repeat (go_big_quiet_step ((go_at_call 6; go_must (exact bel_lays (compare_as S x c _ HSS.out HXS.out HCC.out)))))
                refine wpQuiet_nil ?_
                intro wn hwn
                have hbn := bel_out hwn
                replace HA : Hid (AllAt w wn (.slice (some ⟨g, 0, none⟩) n cap) n ss) := HA.out.below hbn
                replace hb := next hb hbn
                clear hwn hbn hcx hci
                go_wp2
                go_roundw
                case rel => exact ⟨i + 1, by omega, by go_num, row_step hil HT.out (by rw [← HSI.out, HCC.out]; exact hc), HA, hb⟩
                case measure => simp [intOf]; omega
              · have HREST : Hid (∀ y ∈ ss.drop i, NotBehind x y) := row_rest HA.out.2.1 hil (by rw [← HSI.out, HCC.out]; omega)
                have HTL : Hid ((ss.take i).length = i) := by unfold Hid; rw [List.length_take]; omega
                have HDL : Hid ((ss.drop i).length = n - i) := by unfold Hid; rw [List.length_drop, HA.out.1]
                have HIR : Hid (InRow ss ∧ ss.length = n) := ⟨HA.out.2.1, HA.out.1⟩
                have hc2 : decide (c ≤ 0) = false := by simpa using hc
                clear hc
                go_wp2
                refine wp_region_bel (by kernel_rfl) (by kernel_rfl) (fun _ => ?_)
                repeat (go_big_quiet_step ((go_at_call 6; go_must (exact bel_lays (compare_as S x c _ HSS.out HXS.out HCC.out)))))
                refine wpQuiet_nil ?_
                intro wn hwn
                have hbn := bel_out hwn
                replace HA : Hid (AllAt w wn (.slice (some ⟨g, 0, none⟩) n cap) n ss) := HA.out.below hbn
                replace hb := next hb hbn
                have hcell := (HC.out j hjM wn hb).trans (by rw [HX.out])
                clear hwn hbn hcx hci
                go_wp2_with (first
                  | (at_builtin; (refine wpList_appS _ rfl (.tmp 46) (.tmp 49) rfl w.heap.size (.slice none 0 0) 0 [] rfl (World.ownsRow_nil _ _ _ _) (fun _ => rfl) _ i _ (ss.take i) rfl HTL.out (.inr ⟨_, rfl, HA.out.takes i⟩) (by omega) hb.size ?_); intro v1 w1 own1 nil1 grow1 at1; replace hb := next hb (below_of grow1); have sep1 : Hid (v1.ownBlock ≠ some g) := sep_step at1 (by simp [Value.ownBlock]) (HA.out.2.2.2.lt g rfl).2; have HA1 : Hid (AllAt w w1 (.slice (some ⟨g, 0, none⟩) n cap) n ss) := HA.out.below (below_of grow1); have OWN1 : Hid (w1.ownsRow w.heap.size 9 1 v1 (0 + i) (([] ++ ss.take i).map Value.string)) := own1; have NIL1 : Hid (0 + i = 0 → v1 = .slice none 0 0) := nil1; have hcell1 := (HC.out j hjM w1 hb).trans (by rw [HX.out]); clear own1 nil1 at1 grow1 hcell HA)
                  | (at_builtin; (refine wpList_appS _ rfl (.tmp 51) (.tmp 56) rfl w.heap.size v1 (0 + i) ([] ++ ss.take i) rfl (OWN1.out.alloc _) NIL1.out (some ⟨w1.heap.size, 0, none⟩) 1 1 [x] rfl rfl (.inr ⟨_, rfl, one_cell w1 x⟩) (by omega) (lay hb _).size ?_); intro v2 w2 own2 nil2 grow2 at2; replace hb := below_lay rfl hb grow2 (fun k e => (OWN1.out.lt k e).1); have sep2 : Hid (v2.ownBlock ≠ some g) := sep_step at2 sep1.out (by have := (HA1.out.2.2.2.lt g rfl).2; simp; omega); have HA2 : Hid (AllAt w w2 (.slice (some ⟨g, 0, none⟩) n cap) n ss) := (HA1.out.below ((Below.refl _ _).alloc (Nat.le_refl _) _)).grown grow2 (.inr sep1.out.symm); have OWN2 : Hid (w2.ownsRow w.heap.size 9 1 v2 (0 + i + 1) (([] ++ ss.take i ++ [x]).map Value.string)) := own2; have NIL2 : Hid (0 + i + 1 = 0 → v2 = .slice none 0 0) := nil2; clear own2 nil2 at2 grow2 hcell1 HA1 OWN1 NIL1 sep1)
                  | (at_builtin; (refine wpList_appS _ rfl (.tmp 58) (.tmp 61) rfl w.heap.size v2 (0 + i + 1) ([] ++ ss.take i ++ [x]) rfl OWN2.out NIL2.out _ (n - i) _ (ss.drop i) rfl HDL.out (.inr ⟨_, rfl, HA2.out.drops i⟩) (by omega) hb.size ?_); intro v3 w3 own3 nil3 grow3 at3; replace hb := hb.grown grow3 hb.size (fun k e => (OWN2.out.lt k e).1); have OWN3 : Hid (w3.ownsRow w.heap.size 9 1 v3 (0 + i + 1 + (n - i)) (([] ++ ss.take i ++ [x] ++ ss.drop i).map Value.string)) := own3; clear own3 nil3 at3 grow3))
                go_roundw
                case rel => exact ⟨j + 1, n + 1, ss.take i ++ [x] ++ ss.drop i, by omega, by omega, by go_num, AllAt.made (w0 := w) HIR.out.2 (row_ins HIR.out.1 HNM.out HT.out HREST.out) (by omega) OWN3.out, hb⟩
                case measure => simp [intOf]; omega
            · have HIN : Hid (i = n) := by unfold Hid; omega
              have e0 : decide (i < n) = false := by simpa using hin
              have HREST : Hid (∀ y ∈ ss.drop i, NotBehind x y) := by unfold Hid; rw [List.drop_of_length_le (by rw [HA.out.1]; omega)]; simp
              have HTL : Hid ((ss.take i).length = i) := by unfold Hid; rw [List.length_take, HA.out.1]; omega
              have HDL : Hid ((ss.drop i).length = n - i) := by unfold Hid; rw [List.length_drop, HA.out.1]
              have HIR : Hid (InRow ss ∧ ss.length = n) := ⟨HA.out.2.1, HA.out.1⟩
              clear hin
              go_wp2
              refine wp_region_bel (by kernel_rfl) (by kernel_rfl) (fun _ => ?_)
              repeat (go_big_quiet_step (fail))
              refine wpQuiet_nil ?_
              intro wn hwn
              have hbn := bel_out hwn
              replace HA : Hid (AllAt w wn (.slice (some ⟨g, 0, none⟩) n cap) n ss) := HA.out.below hbn
              replace hb := next hb hbn
              have hcell := (HC.out j hjM wn hb).trans (by rw [HX.out])
              clear hwn hbn hcx
              go_wp2_with (first
                | (at_builtin; (refine wpList_appS _ rfl (.tmp 46) (.tmp 49) rfl w.heap.size (.slice none 0 0) 0 [] rfl (World.ownsRow_nil _ _ _ _) (fun _ => rfl) _ i _ (ss.take i) rfl HTL.out (.inr ⟨_, rfl, HA.out.takes i⟩) (by omega) hb.size ?_); intro v1 w1 own1 nil1 grow1 at1; replace hb := next hb (below_of grow1); have sep1 : Hid (v1.ownBlock ≠ some g) := sep_step at1 (by simp [Value.ownBlock]) (HA.out.2.2.2.lt g rfl).2; have HA1 : Hid (AllAt w w1 (.slice (some ⟨g, 0, none⟩) n cap) n ss) := HA.out.below (below_of grow1); have OWN1 : Hid (w1.ownsRow w.heap.size 9 1 v1 (0 + i) (([] ++ ss.take i).map Value.string)) := own1; have NIL1 : Hid (0 + i = 0 → v1 = .slice none 0 0) := nil1; have hcell1 := (HC.out j hjM w1 hb).trans (by rw [HX.out]); clear own1 nil1 at1 grow1 hcell HA)
                | (at_builtin; (refine wpList_appS _ rfl (.tmp 51) (.tmp 56) rfl w.heap.size v1 (0 + i) ([] ++ ss.take i) rfl (OWN1.out.alloc _) NIL1.out (some ⟨w1.heap.size, 0, none⟩) 1 1 [x] rfl rfl (.inr ⟨_, rfl, one_cell w1 x⟩) (by omega) (lay hb _).size ?_); intro v2 w2 own2 nil2 grow2 at2; replace hb := below_lay rfl hb grow2 (fun k e => (OWN1.out.lt k e).1); have sep2 : Hid (v2.ownBlock ≠ some g) := sep_step at2 sep1.out (by have := (HA1.out.2.2.2.lt g rfl).2; simp; omega); have HA2 : Hid (AllAt w w2 (.slice (some ⟨g, 0, none⟩) n cap) n ss) := (HA1.out.below ((Below.refl _ _).alloc (Nat.le_refl _) _)).grown grow2 (.inr sep1.out.symm); have OWN2 : Hid (w2.ownsRow w.heap.size 9 1 v2 (0 + i + 1) (([] ++ ss.take i ++ [x]).map Value.string)) := own2; have NIL2 : Hid (0 + i + 1 = 0 → v2 = .slice none 0 0) := nil2; clear own2 nil2 at2 grow2 hcell1 HA1 OWN1 NIL1 sep1)
                | (at_builtin; (refine wpList_appS _ rfl (.tmp 58) (.tmp 61) rfl w.heap.size v2 (0 + i + 1) ([] ++ ss.take i ++ [x]) rfl OWN2.out NIL2.out _ (n - i) _ (ss.drop i) rfl HDL.out (.inl (by have := HIN.out; omega)) (by omega) hb.size ?_); intro v3 w3 own3 nil3 grow3 at3; replace hb := hb.grown grow3 hb.size (fun k e => (OWN2.out.lt k e).1); have OWN3 : Hid (w3.ownsRow w.heap.size 9 1 v3 (0 + i + 1 + (n - i)) (([] ++ ss.take i ++ [x] ++ ss.drop i).map Value.string)) := own3; clear own3 nil3 at3 grow3))
              all_goals
                go_roundw
                case rel => exact ⟨j + 1, n + 1, ss.take i ++ [x] ++ ss.drop i, by omega, by omega, by go_num, AllAt.made (w0 := w) HIR.out.2 (row_ins HIR.out.1 HNM.out HT.out HREST.out) (by omega) OWN3.out, hb⟩
                case measure => simp [intOf]; omega
    · have he := HE.out j hj hjM
      have hn12 : n ≤ 12 := by omega
      clear hjM hj hnj
      by_cases hn0 : n = 0
      · subst hn0
        obtain rfl := HA.out.2.2.1 rfl
        rcases he with he | ⟨he, he2⟩
        all_goals
          go_wp2
          go_loopw [7] (fun i wq => i = .int .i64 0 ∧ Below w.heap.size w wq) (fun _ _ => 0)
          case atStart => exact ⟨rfl, hb⟩
          case round =>
            clear hb
            obtain ⟨rfl, hb⟩ := hrel
            go_wp2_with (go_at_call 8; refine (num_any _ _).mono ?_; rintro e w' ⟨rfl, hw⟩; obtain rfl := hw.symm)
            go_ret
            exact ⟨rfl, hb⟩
      · obtain ⟨g, cap, rfl, _, _, _⟩ := HA.out.form (by omega)
        have HIR : Hid (InRow ss ∧ ss.length = n) := ⟨HA.out.2.1, HA.out.1⟩
        rcases he with he | ⟨he, he2⟩
        all_goals
          go_wp2
          go_loopw [7] (fun i wq => ∃ p : Nat, p ≤ n ∧ i = .int .i64 (p : Int) ∧ Hid (AllAt w wq (.slice (some ⟨g, 0, none⟩) n cap) n ss) ∧ Below w.heap.size w wq) (fun i _ => n - (intOf i).toNat)
          case atStart => exact ⟨0, Nat.zero_le _, rfl, HA, hb⟩
          case round =>
            clear hb HA he
            try clear he2
            obtain ⟨p, hp, rfl, HA, hb⟩ := hrel
            by_cases hpn : p < n
            · have hpn2 : (p : Int) < (n : Int) := by omega
              have hpl : p < ss.length := by have := HIR.out.2; omega
              obtain ⟨A, hA⟩ : ∃ A, A = ss[p] := ⟨_, rfl⟩
              have HAP : Hid (A = ss[p]) := hA
              have HAS : Hid (A.size ≤ maxLen) := by unfold Hid; rw [hA]; exact HA.out.size p hpl
              clear hA
              go_wp2
              go_loopw [8] (fun i wq => ∃ q : Nat, p + 1 ≤ q ∧ q ≤ n ∧ i = .int .i64 (q : Int) ∧ Hid (AllAt w wq (.slice (some ⟨g, 0, none⟩) n cap) n ss) ∧ Below w.heap.size w wq) (fun i _ => n - (intOf i).toNat)
              case atStart => exact ⟨p + 1, Nat.le_refl _, by omega, by go_num, HA, hb⟩
              case round =>
                clear hb HA
                obtain ⟨q, hpq, hq, rfl, HA, hb⟩ := hrel
                by_cases hqn : q < n
                · have hqn2 : (q : Int) < (n : Int) := by omega
                  have hql : q < ss.length := by have := HIR.out.2; omega
                  obtain ⟨B, hB⟩ : ∃ B, B = ss[q] := ⟨_, rfl⟩
                  have HBQ : Hid (B = ss[q]) := hB
                  have HBS : Hid (B.size ≤ maxLen) := by unfold Hid; rw [hB]; exact HA.out.size q hql
                  have ca : ∀ nb : Bel wr, nb.to.cell? ⟨g, p, none⟩ = some (.string A) := fun nb => by rw [HAP.out]; exact (HA.out.below nb.h).cell p hpl
                  have cb : ∀ nb : Bel wr, nb.to.cell? ⟨g, q, none⟩ = some (.string B) := fun nb => by rw [hB]; exact (HA.out.below nb.h).cell q hql
                  obtain ⟨c, hcc⟩ : ∃ c, cmpN A.data.toList B.data.toList = c := ⟨_, rfl⟩
                  have HCC : Hid (cmpN A.data.toList B.data.toList = c) := hcc
                  have hc0 : c ≤ 0 := by rw [← hcc, HAP.out, hB]; exact row_cmp HIR.out.1 (by omega) hql
                  have hc2 : decide ((0 : Int) < c) = false := by simpa using hc0
                  clear hcc hB hc0
                  go_wp2
                  refine wp_region_bel (by kernel_rfl) (by kernel_rfl) (fun _ => ?_)
                  repeat (go_big_quiet_step ((go_at_call 6; go_must (exact bel_lays (compare_as A B c _ HAS.out HBS.out HCC.out)))))
                  refine wpQuiet_nil ?_
                  intro wn hwn
                  have hbn := bel_out hwn
                  replace HA : Hid (AllAt w wn (.slice (some ⟨g, 0, none⟩) n cap) n ss) := HA.out.below hbn
                  replace hb := next hb hbn
                  clear hwn hbn ca cb HCC hc2
                  go_wp2
                  go_loopw [9] (fun i wq => ∃ m : Nat, q + 1 ≤ m ∧ m ≤ n ∧ i = .int .i64 (m : Int) ∧ Hid (AllAt w wq (.slice (some ⟨g, 0, none⟩) n cap) n ss) ∧ Below w.heap.size w wq) (fun i _ => n - (intOf i).toNat)
                  case atStart => exact ⟨q + 1, Nat.le_refl _, by omega, by go_num, HA, hb⟩
                  case round =>
                    clear hb HA
                    obtain ⟨m, hqm, hm, rfl, HA, hb⟩ := hrel
                    by_cases hmn : m < n
                    · have hmn2 : (m : Int) < (n : Int) := by omega
                      have hml : m < ss.length := by have := HIR.out.2; omega
                      obtain ⟨D, hD⟩ : ∃ D, D = ss[m] := ⟨_, rfl⟩
                      have HDS : Hid (D.size ≤ maxLen) := by unfold Hid; rw [hD]; exact HA.out.size m hml
                      have ca : ∀ nb : Bel wr, nb.to.cell? ⟨g, p, none⟩ = some (.string A) := fun nb => by rw [HAP.out]; exact (HA.out.below nb.h).cell p hpl
                      have cb : ∀ nb : Bel wr, nb.to.cell? ⟨g, q, none⟩ = some (.string B) := fun nb => by rw [HBQ.out]; exact (HA.out.below nb.h).cell q hql
                      have cd : ∀ nb : Bel wr, nb.to.cell? ⟨g, m, none⟩ = some (.string D) := fun nb => by rw [hD]; exact (HA.out.below nb.h).cell m hml
                      cases hab : aboveB A.data.toList D.data.toList with
                      | false =>
                        have HAB : Hid (aboveB A.data.toList D.data.toList = false) := hab
                        clear hab hD
                        go_wp2
                        refine wp_region_bel (by kernel_rfl) (by kernel_rfl) (fun _ => ?_)
                        repeat (go_big_quiet_step ((go_at_call 7; go_must (exact bel_lays (above_as A D false _ HAS.out HDS.out HAB.out)))))
                        refine wpQuiet_nil ?_
                        intro wn hwn
                        have hbn := bel_out hwn
                        replace HA : Hid (AllAt w wn (.slice (some ⟨g, 0, none⟩) n cap) n ss) := HA.out.below hbn
                        replace hb := next hb hbn
                        clear hwn hbn ca cb cd
                        go_wp2
                        go_roundw
                        case rel => exact ⟨m + 1, by omega, by omega, by go_num, HA, hb⟩
                        case measure => simp [intOf]; omega
                      | true =>
                        have HAB : Hid (aboveB A.data.toList D.data.toList = true) := hab
                        have HAC : Hid (aboveB A.data.toList B.data.toList = true) := by
                          unfold Hid
                          rw [HAP.out, HBQ.out]
                          exact row_above HIR.out.1 (by omega) (by omega) hml (by rw [← HAP.out, ← hD]; exact hab)
                        clear hab hD
                        go_wp2
                        refine wp_region_bel (by kernel_rfl) (by kernel_rfl) (fun _ => ?_)
                        repeat (go_big_quiet_step (first
                          | (go_at_call_of 7 (#[Value.string A, Value.string D]); go_must (exact bel_lays (above_as A D true _ HAS.out HDS.out HAB.out)))
                          | (go_at_call_of 7 (#[Value.string A, Value.string B]); go_must (exact bel_lays (above_as A B true _ HAS.out HBS.out HAC.out)))))
                        refine wpQuiet_nil ?_
                        intro wn hwn
                        have hbn := bel_out hwn
                        replace HA : Hid (AllAt w wn (.slice (some ⟨g, 0, none⟩) n cap) n ss) := HA.out.below hbn
                        replace hb := next hb hbn
                        clear hwn hbn ca cb cd
                        go_wp2
                        go_roundw
                        case rel => exact ⟨m + 1, by omega, by omega, by go_num, HA, hb⟩
                        case measure => simp [intOf]; omega
                    · have e0 : decide (m < n) = false := by simpa using hmn
                      clear hmn
                      go_wp2
                      go_roundw
                      case rel => exact ⟨q + 1, by omega, by omega, by go_num, HA, hb⟩
                      case measure => simp [intOf]; omega
                · have e0 : decide (q < n) = false := by simpa using hqn
                  clear hqn
                  go_wp2
                  go_roundw
                  case rel => exact ⟨p + 1, by omega, by go_num, HA, hb⟩
                  case measure => simp [intOf]; omega
            · have e0 : decide (p < n) = false := by simpa using hpn
              clear hpn
              go_wp2_with (go_at_call 8; refine (num_any _ _).mono ?_; rintro e w' ⟨rfl, hw⟩; obtain rfl := hw.symm)
              go_ret
              exact ⟨rfl, hb⟩

set_option maxRecDepth 20000 in
theorem walk_nil (w : World) : Calls Try.prog 3 #[.slice none 0 0] w fun e w' => e = .returned (.bool true) ∧ Below w.heap.size w w' := by
  go_enter Try.func3, Try.ntmps3
  go_wp2_with (first
    | (go_at_call 4; go_must (refine (awake_any _).mono ?_); rintro e w0 ⟨rfl, b0⟩))
  go_loopw [3, 4] (fun al i wr => al = .slice none 0 0 ∧ i = .int .i64 0 ∧ Below w.heap.size w wr) (fun _ _ _ => 0)
  case atStart => exact ⟨rfl, rfl, b0⟩
  case round =>
    clear b0
    obtain ⟨rfl, rfl, hb⟩ := hrel
    go_wp2
    go_loopw [7] (fun i wq => i = .int .i64 0 ∧ Below w.heap.size w wq) (fun _ _ => 0)
    case atStart => exact ⟨rfl, hb⟩
    case round =>
      clear hb
      obtain ⟨rfl, hb⟩ := hrel
      go_wp2_with (go_at_call 8; refine (num_any _ _).mono ?_; rintro e w' ⟨rfl, hw⟩; obtain rfl := hw.symm)
      go_ret
      exact ⟨rfl, hb⟩

theorem walk (v : Value) (N : Nat) (ns : List ByteArray) (w : World) (h : SArg w v N ns) :
    Calls Try.prog 3 #[v] w fun e w' => e = .returned (.bool true) ∧ Below w.heap.size w w' := by
  obtain ⟨⟨rfl, _⟩ | ⟨a, cap, rfl, hN, hc⟩, hs⟩ := h
  · exact walk_nil w
  · exact walk_some a N cap (min N 12) ns w hN rfl hc hs

theorem own : ownKnob Try.prog.godebug = none := by kernel_rfl
theorem laidOut : laidOutB Try.prog = true := by kernel_rfl
theorem cells9 : Try.prog.cellsOf 9 = 1 := by kernel_rfl

set_option maxRecDepth 100000 in
theorem lifted (os : Os) (started : os.Started) (H : Type) (enc : TypeId × Value → H) :
    ReturnsInHanded {} Try.checked os 3 .any (Rows.relSortsSpec.pre6 enc Try.prog Try.f3 Rows.relSortsRow.domain false) (Rows.relSortsSpec.post enc Try.prog Try.f3 false true false false) := by
  refine returnsInHanded_of_change (C := Try.checked) own started (by kernel_rfl) Try.func3
    (ChangeSpec.witness6 (enc := enc) (C := Try.checked) false ⟨#[], #[.slice none 0 0], []⟩ 8 (by kernel_rfl) (by kernel_rfl) (by kernel_rfl) (by kernel_rfl)) ?_
  intro W base args ds gs before hval0 hW _ _
  have hval : ∀ (j : Nat) t v, Try.f3.params[j]? = some t → args[j]? = some v → Value.okWide Try.prog W .any base t v := hval0
  have hW' := hW
  obtain ⟨p, q, hA0, hV, rfl, hfz, hnd⟩ := hW
  have hA : DataW.TrodAll enc Try.prog W 0 (fun _ => true) true Try.f3.params.toList args.toList ds p := hA0
  rw [Try.params3] at hA hval
  obtain ⟨v0, vs0, d0, ds0, p0, q0, hargs, rfl, rfl, h0, r0⟩ := trodAll_cons hA
  obtain ⟨rfl, rfl, rfl⟩ := trodAll_nil r0
  obtain rfl : args = #[v0] := by cases args; simp_all
  obtain ⟨rfl, rfl⟩ := trodVars_none hV
  obtain ⟨x0, len, cap, rfl⟩ := okWide_slice Try.underlying22 (hval 0 22 v0 rfl rfl)
  have h0k := h0
  obtain ⟨fuel, hf⟩ := h0
  have hf' : DataW.trod enc Try.prog W 0 (fun _ => true) true fuel 22 [.slice x0 len cap] = some (d0, p0) := by simpa [Value.cells] using hf
  have sarg : ∃ ns, SArg W (.slice x0 len cap) len ns := by
    rcases open_strings Try.underlying22 Try.underlying9 cells9 hf' with ⟨hcs, _⟩ | ⟨a, len', cap', ss, hcs, _, hl, hm, hz, hx, hcell, hws⟩
    · simp at hcs
      obtain ⟨rfl, rfl, rfl⟩ := hcs
      exact ⟨[], .inl ⟨rfl, rfl⟩, fun i hi => by omega⟩
    · simp at hcs
      obtain ⟨rfl, rfl, rfl⟩ := hcs
      rw [if_pos rfl] at hz
      refine ⟨ss, .inr ⟨a, cap, rfl, by omega, fun i hi => hcell i (by omega)⟩, fun i hi => ?_⟩
      have hi' : i < ss.length := by omega
      rw [List.getD_eq_getElem?_getD, List.getElem?_eq_getElem hi']
      exact hws _ (List.getElem_mem _)
  obtain ⟨ns, sarg⟩ := sarg
  have hlt : ∀ x ∈ p0, x.block < W.heap.size := fun x hx => by
    have := hW'.lt x (by simpa using hx)
    simpa using this
  clear hA0 hval0
  simp only [List.append_nil] at hW'
  refine (walk _ len ns W sarg).mono fun e W' ⟨he, bel⟩ => ?_
  subst he
  exact ⟨_, rfl, _, _, _, [], p0, [], hW', trodAll_mk1 (shut_bool Try.underlying4 _), trodAll_mk1 (Below.trod laidOut (by kernel_rfl) (of_decide_eq_true (by kernel_rfl)) h0k bel hlt), rfl, bel.frame _, fun h => by cases h⟩

/-- The statement. -/
theorem proved : Rows.RelSortsSaid :=
  OpenClaim.holds_of_wide 3 Try.f3 rfl rfl rfl rfl rfl rfl rfl ⟨rfl, rfl, rfl, rfl, rfl⟩ rfl rfl rfl rfl rfl (by kernel_rfl) Try.func3 (by kernel_rfl)
    (of_decide_eq_true (by kernel_rfl)) (by unfold Func.isWrapper; first | (rw [if_pos (by decide +kernel)]; kernel_rfl) | (rw [if_neg (by decide +kernel)]; exact ⟨rfl, rfl⟩))
    (fun os started H enc _ => lifted os started H enc)
#print axioms proved

end Go.Proofs.Ytfojghfdmlaedaa.relSorts
