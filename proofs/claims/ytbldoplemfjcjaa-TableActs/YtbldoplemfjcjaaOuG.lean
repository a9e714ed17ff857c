/- slices.SortFunc over turns, by their places. -/
import Derived.Test.YtbldoplemfjcjaaOuF
import Derived.Shelf.SlSortCmp.WholeK
import Derived.Shelf.SlSortCmp.NoneTotal
namespace Go.Proofs.Ytbldoplemfjcjaa
open Go.RowKit Go.Shelf Go.Sort
open Pl
namespace Ou
attribute [local go_sem] Oper.semAt_some

/-- The numbers of slices.SortFunc and what it calls, at the map's keys. -/
def renK : Ren := ⟨fun | 6 => 40 | 15 => 47 | 14 => 46 | 28 => 58 | 29 => 59 | 20 => 50 | 21 => 51 | 22 => 52 | 23 => 53 | 24 => 54 | 25 => 55 | 26 => 56 | 27 => 57 | 46 => 60 | 47 => 61 | 48 => 62 | 49 => 63 | 50 => 64 | 57 => 65 | n => n, fun | 22 => 70 | 24 => 73 | 25 => 87 | 3 => 3 | 39 => 56 | 0 => 0 | 53 => 103 | 55 => 105 | 4 => 4 | 46 => 97 | 45 => 96 | 50 => 88 | 5 => 5 | 9 => 9 | 66 => 106 | 70 => 110 | 76 => 112 | 77 => 113 | n => n, fun n => n⟩
theorem laysK : SlLaysF0.n6 Try.prog renK :=
  { mixed := by kernel_rfl
    f6 := ⟨Try.f40.name, by decide, Try.func40.trans (congrArg some (by kernel_rfl))⟩
    f14 := ⟨Try.f46.name, by decide, Try.func46.trans (congrArg some (by kernel_rfl))⟩
    f15 := Try.func47.trans (congrArg some (by kernel_rfl))
    f20 := ⟨Try.f50.name, by decide, Try.func50.trans (congrArg some (by kernel_rfl))⟩
    f21 := ⟨Try.f51.name, by decide, Try.func51.trans (congrArg some (by kernel_rfl))⟩
    f22 := ⟨Try.f52.name, by decide, Try.func52.trans (congrArg some (by kernel_rfl))⟩
    f23 := ⟨Try.f53.name, by decide, Try.func53.trans (congrArg some (by kernel_rfl))⟩
    f24 := ⟨Try.f54.name, by decide, Try.func54.trans (congrArg some (by kernel_rfl))⟩
    f25 := ⟨Try.f55.name, by decide, Try.func55.trans (congrArg some (by kernel_rfl))⟩
    f26 := ⟨Try.f56.name, by decide, Try.func56.trans (congrArg some (by kernel_rfl))⟩
    f27 := ⟨Try.f57.name, by decide, Try.func57.trans (congrArg some (by kernel_rfl))⟩
    f28 := Try.func58.trans (congrArg some (by kernel_rfl))
    f29 := Try.func59.trans (congrArg some (by kernel_rfl))
    f46 := ⟨Try.f60.name, by decide, Try.func60.trans (congrArg some (by kernel_rfl))⟩
    f47 := Try.func61.trans (congrArg some (by kernel_rfl))
    f48 := Try.func62.trans (congrArg some (by kernel_rfl))
    f49 := ⟨Try.f63.name, by decide, Try.func63.trans (congrArg some (by kernel_rfl))⟩
    f50 := ⟨Try.f64.name, by decide, Try.func64.trans (congrArg some (by kernel_rfl))⟩
    f57 := ⟨Try.f65.name, by decide, Try.func65.trans (congrArg some (by kernel_rfl))⟩
    t0 := Try.underlying0
    a0 := Try.isAgg0
    z0 := Try.sizeOf0
    v0 := Try.zeroValue0
    t3 := Try.underlying3
    a3 := Try.isAgg3
    z3 := Try.sizeOf3
    v3 := Try.zeroValue3
    t4 := Try.underlying4
    a4 := Try.isAgg4
    z4 := Try.sizeOf4
    v4 := Try.zeroValue4
    t5 := Try.underlying5
    a5 := Try.isAgg5
    z5 := Try.sizeOf5
    v5 := Try.zeroValue5
    t9 := Try.underlying9
    a9 := Try.isAgg9
    z9 := Try.sizeOf9
    v9 := Try.zeroValue9
    t22 := Try.underlying70
    a22 := Try.isAgg70
    z22 := Try.sizeOf70
    v22 := Try.zeroValue70
    t25 := Try.underlying87
    a25 := Try.isAgg87
    z25 := Try.sizeOf87
    v25 := Try.zeroValue87
    t39 := Try.underlying56
    a39 := Try.isAgg56
    z39 := Try.sizeOf56
    v39 := Try.zeroValue56
    t45 := Try.underlying96
    a45 := Try.isAgg96
    z45 := Try.sizeOf96
    v45 := Try.zeroValue96
    t46 := Try.underlying97
    a46 := Try.isAgg97
    z46 := Try.sizeOf97
    v46 := Try.zeroValue97
    t50 := Try.underlying88
    a50 := Try.isAgg88
    z50 := Try.sizeOf88
    v50 := Try.zeroValue88
    t53 := Try.underlying103
    a53 := Try.isAgg103
    z53 := Try.sizeOf103
    v53 := Try.zeroValue103
    t55 := Try.underlying105
    a55 := Try.isAgg105
    z55 := Try.sizeOf105
    v55 := Try.zeroValue105
    t66 := Try.underlying106
    a66 := Try.isAgg106
    z66 := Try.sizeOf106
    v66 := Try.zeroValue106
    t70 := Try.underlying110
    a70 := Try.isAgg110
    z70 := Try.sizeOf110
    v70 := Try.zeroValue110
    t76 := Try.underlying112
    a76 := Try.isAgg112
    z76 := Try.sizeOf112
    v76 := Try.zeroValue112
    t77 := Try.underlying113
    a77 := Try.isAgg113
    z77 := Try.sizeOf113
    v77 := Try.zeroValue113 }

theorem nanO_any (x : Int) (w : World) :
    Calls Try.prog 48 #[.int .i64 x] w fun e w' => e = .returned (.bool false) ∧ w' = w := by
  go_enter Try.func48, Try.ntmps48
  go_wp2
  go_ret
  exact ⟨ret_bool (by simp), rfl⟩
theorem cmpO_any (x y : Int) (w : World) :
    Calls Try.prog 42 #[.int .i64 x, .int .i64 y] w fun e w' => e = .returned (.int .i64 (sgn x y)) ∧ w' = w := by
  go_enter Try.func42, Try.ntmps42
  go_wp2_with (go_at_call 48; refine (nanO_any _ _).mono ?_; rintro e w' ⟨rfl, hw⟩; obtain rfl := hw.symm)
  all_goals go_ret
  all_goals refine ⟨ret_i ?_, rfl⟩
  all_goals unfold sgn
  all_goals simp_all
  all_goals omega
theorem sgnO_neg (s t : Int) : sgn s t < 0 ↔ s < t := by unfold sgn; repeat' split <;> omega
theorem told1_any (s t : Tn) (w : World) :
    Calls Try.prog 41 #[.agg (tnC s).toArray, .agg (tnC t).toArray] w fun e w' => e = .returned (.int .i64 (sgn (s.p : Int) (t.p : Int))) ∧ Below w.heap.size w w' ∧ w.drawn ≤ w'.drawn := by
  have hb : Below w.heap.size w ((w.alloc (.cells (tnC s).toArray 73)).alloc (.cells (tnC t).toArray 73)) := lay (lay (Below.refl _ _) _) _
  have k1 := (Blk.new w (tnC s).toArray 73).alloc (.cells (tnC t).toArray 73)
  have k2 := Blk.new (w.alloc (.cells (tnC s).toArray 73)) (tnC t).toArray 73
  have e2 : (w.alloc (.cells (tnC s).toArray 73)).heap.size = w.heap.size + 1 := by simp
  rw [e2] at k2
  have c1 : _ = some (Value.int .i64 (s.p : Int)) := k1.cell 0
  have c2 : _ = some (Value.int .i64 (t.p : Int)) := k2.cell 0
  generalize tnC s = S at *
  generalize tnC t = U at *
  go_enter Try.func41, Try.ntmps41
  go_wp2_with (go_at_call 42; go_must (refine (cmpO_any _ _ _).mono ?_); rintro e w' ⟨rfl, hw⟩; obtain rfl := hw.symm)
  go_ret
  exact ⟨rfl, hb, Nat.le_refl _⟩

theorem agg_key (w : World) : (isAgg 73).run Try.prog w = .ok true w := by kernel_rfl
theorem size_key (w : World) : (Go.sizeOf 73).run Try.prog w = .ok 9 w := by kernel_rfl
/-- The turns that are sorted. -/
abbrev Kt (T : List Tn) := {t : Tn // t ∈ T}
def ktC {T : List Tn} (x : Kt T) : List Value := tnC x.1
def ktF {T : List Tn} (ss : List (Kt T)) : List Value := tF (ss.map Subtype.val)
theorem ktF_len {T : List Tn} (ss : List (Kt T)) : (ktF ss).length = ss.length * 9 := by unfold ktF; rw [tF_len, List.length_map]
def cfT {T : List Tn} (x y : Kt T) : Int := sgn (x.1.p : Int) (y.1.p : Int)
theorem lt_cf {T : List Tn} (x y : Kt T) : ltOf cfT x y = decide (x.1.p < y.1.p) := by
  show decide (cfT x y < 0) = _
  unfold cfT
  rw [Bool.eq_iff_iff]
  simp [sgnO_neg]
theorem swoT {T : List Tn} : SWO (ltOf (cfT (T := T))) where
  irrefl x := by rw [lt_cf]; simp
  trans x y z h1 h2 := by rw [lt_cf] at *; simp only [decide_eq_true_eq] at *; omega
  ntrans x y z h1 h2 := by rw [lt_cf] at *; simp only [decide_eq_false_iff_not] at *; omega
theorem rise_one {T : List Tn} (h : Rise T) {s t : Tn} (hs : s ∈ T) (ht : t ∈ T) (e : s.p = t.p) : s = t := by
  obtain ⟨i, hi, rfl⟩ := List.getElem_of_mem hs
  obtain ⟨j, hj, rfl⟩ := List.getElem_of_mem ht
  rcases Nat.lt_trichotomy i j with h1 | h1 | h1
  · have := List.pairwise_iff_getElem.1 h i j hi hj h1; omega
  · subst h1; rfl
  · have := List.pairwise_iff_getElem.1 h j i hj hi h1; omega
theorem totT {T : List Tn} (h : Rise T) (x y : Kt T) (h1 : ltOf cfT x y = false) (h2 : ltOf cfT y x = false) : x = y := by
  rw [lt_cf] at *
  simp only [decide_eq_false_iff_not] at *
  exact Subtype.ext (rise_one h x.2 y.2 (by omega))

/-- What lays new blocks alone is a growth. -/
theorem below_grow {w w' : World} (h : Below w.heap.size w w') (hd : w.drawn ≤ w'.drawn) : ∃ q os, w' = grow (w.drewN q) os := by
  refine ⟨w'.drawn - w.drawn, w'.heap.extract w.heap.size w'.heap.size, ?_⟩
  have e1 : w.heap ++ w'.heap.extract w.heap.size w'.heap.size = w'.heap := by
    apply Array.ext_getElem?
    intro i
    by_cases hi : i < w.heap.size
    · rw [Array.getElem?_append_left hi]
      exact (h.block i hi).symm
    · rw [Array.getElem?_append_right (by omega), Array.getElem?_extract]
      have := h.size
      by_cases hj : i < w'.heap.size
      · rw [if_pos (by omega)]
        congr 1; omega
      · rw [if_neg (by omega), Array.getElem?_eq_none (by omega)]
  have e2 : w.drawn + (w'.drawn - w.drawn) = w'.drawn := by omega
  unfold grow World.drewN
  simp only [e1, e2]
  cases w'
  have h1 := h.os
  have h2 := h.tape
  have h3 := h.output
  simp only at h1 h2 h3
  rw [h1, h2, h3]
theorem cmpT {T : List Tn} [Inhabited (Kt T)] (blk off size : Nat) (w : World) : CmpLays Try.prog 41 #[] (ktC (T := T)) 9 cfT blk off size w := fun m os dk _ x y => by
  refine (told1_any x.1 y.1 (sortWorldK ktC 9 w blk off m dk os)).mono ?_
  rintro e w' ⟨he, hb, hd⟩
  exact ⟨he, below_grow hb hd⟩
theorem flat_list {T : List Tn} [Inhabited (Kt T)] (ss : List (Kt T)) : (flatK ktC 9 ss.toArray).toList = ktF ss := by
  apply List.ext_getElem?
  intro j
  by_cases hj : j < ss.length * 9
  · have h1 : j < (flatK ktC 9 ss.toArray).size := by simpa using hj
    rw [Array.getElem?_toList, Array.getElem?_eq_getElem h1]
    have h2 := get_flatK ktC 9 ss.toArray j (by simpa using hj)
    rw [getElem!_pos (flatK ktC 9 ss.toArray) j h1] at h2
    rw [h2]
    have h3 := flat_get (f := tnC) (z := 9) (fun _ => rfl) (ss.map Subtype.val) (j / 9) (by rw [List.length_map]; omega) (j % 9) (Nat.mod_lt _ (by decide))
    rw [show j / 9 * 9 + j % 9 = j from by omega] at h3
    unfold ktF tF
    rw [h3]
    have h4 : ss.toArray[j / 9]! = ss[j / 9]'(by omega) := by rw [getElem!_pos ss.toArray (j / 9) (by simp; omega)]; simp
    rw [h4, List.getElem_map]
    have h5 : j % 9 < 9 := Nat.mod_lt _ (by decide)
    generalize j % 9 = i at h5 ⊢
    unfold ktC
    have h6 : i < (tnC (ss[j / 9]'(by omega)).1).length := h5
    rw [List.getElem?_eq_getElem h6, getElem!_pos _ i h6]
  · rw [List.getElem?_eq_none (by rw [Array.length_toList]; simp; omega), List.getElem?_eq_none (by rw [ktF_len]; omega)]
theorem holds_key {T : List Tn} {w : World} {g : Nat} {cur : Array Value} {e : TypeId} {ss : List (Kt T)} [Inhabited (Kt T)] (hb : w.heap[g]? = some (.cells cur e (0, 0))) (ht : cur.toList.take (ss.length * 9) = ktF ss) : HoldsK ktC 9 w g 0 ss.toArray := by
  intro j hj
  have hj' : j < ss.length * 9 := by simpa using hj
  refine ⟨?_, by simp [World.frozen?, hb]⟩
  have h1 : (cur.toList.take (ss.length * 9))[j]? = (ktF ss)[j]? := by rw [ht]
  rw [List.getElem?_take_of_lt hj', ← flat_list ss, Array.getElem?_toList, Array.getElem?_toList] at h1
  simp only [World.cell?, hb, Nat.zero_add]
  rw [Array.getElem?_eq_getElem hj] at h1
  simp only [Option.isSome_none, Bool.false_eq_true, if_false]
  rw [h1, getElem!_pos (flatK ktC 9 ss.toArray) j hj]
  rfl
theorem heap_key {w : World} {g n : Nat} {os : Array Obj} {cur : Array Value} {e : TypeId} {fr : Nat × Nat} (d : Array Value) (hb : w.heap[g]? = some (.cells cur e fr)) :
    (grow (putRow id (Sort.ahead w n) g 0 d) os).heap[g]? = some (.cells (putCells id 0 d cur) e fr) := by
  have hg : g < w.heap.size := (Array.getElem?_eq_some_iff.1 hb).1
  rw [heap_grow_old _ _ (by simpa using hg)]
  simp [putRow, mapBlock, Sort.ahead, Array.getElem?_modify, hb, onCells]
theorem grown_key {w : World} {g n : Nat} {os : Array Obj} (d : Array Value) : w.grownBy (grow (putRow id (Sort.ahead w n) g 0 d) os) (some g) := by
  refine ⟨rfl, rfl, rfl, by simp, fun k hk hne => ?_⟩
  rw [heap_grow_old _ _ (by simpa using hk)]
  have : g ≠ k := fun e => hne (by rw [e])
  simp [putRow, mapBlock, Sort.ahead, Array.getElem?_modify, this]
theorem take_key (cur : Array Value) (ts : List Value) (h : ts.length ≤ cur.size) : (putCells id 0 ts.toArray cur).toList.take ts.length = ts := by
  apply List.ext_getElem?
  intro j
  by_cases hj : j < ts.length
  · rw [List.getElem?_take_of_lt hj, Array.getElem?_toList]
    simp [putCells, hj, show j < cur.size by omega]
  · rw [List.getElem?_take_eq_none (by omega), List.getElem?_eq_none (by omega)]
theorem own_sorted {T : List Tn} {w : World} {base g cap n : Nat} {e : TypeId} {os : Array Obj} {cur : Array Value} {ss ts : List (Kt T)} [Inhabited (Kt T)] (hl : ts.length = ss.length) (hbase : base ≤ g) (hb : w.heap[g]? = some (.cells cur e (0, 0))) (h1 : ss.length ≤ cap) (h2 : cap ≤ maxLen) (h3 : cur.size = cap * 9) :
    (sortWorldK ktC 9 w g 0 n ts.toArray os).ownsRow base e 9 (.slice (some ⟨g, 0, none⟩) ss.length cap) ss.length (ktF ts) := by
  unfold sortWorldK putRowK
  have e1 : flatK ktC 9 ts.toArray = (ktF ts).toArray := by rw [← flat_list ts]
  rw [e1]
  refine ⟨by rw [ktF_len, hl], .inr ⟨g, cap, _, rfl, hbase, heap_key _ hb, h1, h2, by simp [putCells, h3], ?_⟩⟩
  have := take_key cur (ktF ts) (by rw [ktF_len, h3, hl]; omega)
  rw [ktF_len, hl] at this
  exact this
def srtT {T : List Tn} (ss : List (Kt T)) : List (Kt T) := ss.mergeSort fun x y => !ltOf cfT y x
theorem srt_perm {T : List Tn} (ss : List (Kt T)) : (srtT ss).Perm ss := List.mergeSort_perm _ _
theorem srt_rise {T : List Tn} (hT : Rise T) {ss : List (Kt T)} (hn : ss.Nodup) : (srtT ss).Pairwise (fun x y => x.1.p < y.1.p) := by
  have tr : ∀ a b c : Kt T, (!ltOf cfT b a) = true → (!ltOf cfT c b) = true → (!ltOf cfT c a) = true := fun a b c h1 h2 => by
    simp only [Bool.not_eq_true'] at *
    exact swoT.ntrans _ _ _ h2 h1
  have tot : ∀ a b : Kt T, ((!ltOf cfT b a) || (!ltOf cfT a b)) = true := fun a b => by
    cases h1 : ltOf cfT b a with
    | false => rfl
    | true =>
      cases h2 : ltOf cfT a b with
      | false => rfl
      | true => have := swoT.trans _ _ _ h1 h2; rw [swoT.irrefl] at this; cases this
  have h1 := List.pairwise_mergeSort (le := fun x y => !ltOf cfT y x) tr tot ss
  have h2 : (srtT ss).Nodup := (srt_perm ss).nodup_iff.2 hn
  refine (List.Pairwise.and h1 h2).imp (fun {a b} h => ?_)
  obtain ⟨h3, h4⟩ := h
  simp only [Bool.not_eq_true'] at h3
  cases h5 : ltOf cfT a b with
  | true => rw [lt_cf] at h5; simpa using h5
  | false => exact absurd (totT hT a b h5 h3) h4

set_option maxRecDepth 100000 in
set_option maxHeartbeats 2000000 in
/-- slices.SortFunc of a row of turns: by their places. -/
theorem sort_any {T xs : List Tn} (hT : Rise T) (hp : xs.Perm T) (hfew : T.length ≤ 1000) (B : Nat) (v : Value) (n : Nat) (hN : n = T.length) (w : World) (hown : w.ownsRow B 73 9 v n (tF xs)) :
    Calls Try.prog 40 #[v, .func (.func 41) #[] #[]] w fun e w' => e = .returned (.tuple #[]) ∧ w'.ownsRow B 73 9 v n (tF T) ∧ Turn (fun k => v.ownBlock = some k) w w' := by
  subst hN
  have eg2 : ∀ args w, (callFunc 41 args).run Try.prog w = .ok (.enter 41 args) w := enters_of Try.func41 (by kernel_rfl) rfl
  rcases hown.2 with ⟨rfl, hz⟩ | ⟨gb, cap, cur, rfl, hbase, hgb, r1, r2, r3, r4⟩
  · have hT0 : T = [] := List.eq_nil_of_length_eq_zero hz
    have cS := fun fv => AnyF.slices_SortFunc_none { laysK with } none 0 fv w
    change ∀ fv, Calls Try.prog 40 _ _ _ at cS
    rw [hz]
    refine (cS _).mono ?_
    rintro e w' ⟨rfl, rfl⟩
    rw [hT0]
    exact ⟨rfl, World.ownsRow_nil _ _ _ _, Turn.refl _ _⟩
  · obtain ⟨U, hU, hsub, hne⟩ : ∃ U : List Tn, Rise U ∧ (∀ t ∈ T, t ∈ U) ∧ U ≠ [] := by
      cases T with
      | nil => exact ⟨[⟨0, akZ⟩], List.pairwise_singleton _ _, by simp, by simp⟩
      | cons t T => exact ⟨t :: T, hT, fun _ h => h, by simp⟩
    obtain ⟨hI⟩ : Nonempty (Inhabited (Kt U)) := by
      obtain ⟨t, ht⟩ := List.exists_mem_of_ne_nil _ hne
      exact ⟨⟨⟨t, ht⟩⟩⟩
    obtain ⟨ss, hss⟩ : ∃ ss : List (Kt U), ss.map Subtype.val = xs := by
      have hx : ∀ t ∈ xs, t ∈ U := fun t ht => hsub t (hp.mem_iff.1 ht)
      exact ⟨xs.pmap Subtype.mk hx, by rw [List.map_pmap]; simp⟩
    have hlen : ss.length = T.length := by rw [← hp.length_eq, ← hss, List.length_map]
    have hnd : ss.Nodup := by
      have : (ss.map Subtype.val).Nodup := by rw [hss]; exact hp.nodup_iff.2 hT.nodup
      exact List.Pairwise.imp (fun {a b} h e => h (by rw [e])) (List.pairwise_map.1 this)
    have hsrt : (srtT ss).map Subtype.val = T := by
      refine rise_eq (List.pairwise_map.2 (srt_rise hU hnd)) hT ?_
      exact (((srt_perm ss).map _).trans (List.Perm.of_eq hss)).trans hp
    have hFs : ktF ss = tF xs := by unfold ktF; rw [hss]
    have hFt : ktF (srtT ss) = tF T := by unfold ktF; rw [hsrt]
    have hH : HoldsK ktC 9 w gb 0 ss.toArray := holds_key hgb (by rw [hlen, hFs]; exact r4)
    have hgl : gb < w.heap.size := (Array.getElem?_eq_some_iff.1 hgb).1
    have hsz : ss.toArray.size < 4611686018427387904 := by simp; omega
    have cS := AnyQ.slices_SortFunc_total laysK 9 agg_key size_key ktC (fun _ => rfl) (fun x v hv => by unfold ktC tnC akC at hv; simp at hv; rcases hv with rfl | rfl | rfl | rfl | rfl | rfl | rfl | rfl | rfl <;> rfl) cfT swoT 41 #[] gb 0 cap ss.toArray w eg2 (cmpT gb 0 ss.toArray.size w) hH hgl hsz (totT hU)
    change Calls Try.prog 40 _ _ _ at cS
    rw [List.size_toArray, hlen] at cS
    refine cS.mono ?_
    rintro e w' ⟨rfl, nn, os, rfl⟩
    have := own_sorted (T := U) (w := w) (os := os) (n := nn) (base := B) (cap := cap) (ts := srtT ss) (srt_perm ss).length_eq hbase hgb (by rw [hlen]; exact r1) r2 r3
    rw [hlen, hFt] at this
    exact ⟨rfl, this, Turn.of_grown (grown_key _) (fun _ e => by cases e; rfl)⟩

end Ou
end Go.Proofs.Ytbldoplemfjcjaa
