/- What slices.BinarySearch and slices.Insert give of texts that rise. -/
import Derived.Test.YtdaegnmokaibpaaSeA
import Derived.Laws.EntriesVeiled
import Derived.Shelf.Spec.SlicesInsertGrow
import Derived.Shelf.Spec.SearchS
namespace Go.Proofs.Ytdaegnmokaibpaa
open Go.RowKit
open Go.Shelf

/-- The numbers of slices.Insert and what it calls. -/
def renI : Ren := ⟨fun | 22 => 44 | 29 => 53 | 30 => 54 | 36 => 58 | 17 => 59 | n => n, fun | 24 => 23 | 9 => 9 | 3 => 3 | 4 => 4 | 0 => 0 | n => n, fun n => n⟩
theorem laysI : Lays2.n22 Try.prog renI :=
  { mixed := by kernel_rfl
    f17 := Try.func59.trans (congrArg some (by kernel_rfl))
    f22 := Try.func44.trans (congrArg some (by kernel_rfl))
    f29 := Try.func53.trans (congrArg some (by kernel_rfl))
    f30 := Try.func54.trans (congrArg some (by kernel_rfl))
    f36 := Try.func58.trans (congrArg some (by kernel_rfl))
    t0 := Try.underlying0
    a0 := Try.isAgg0
    z0 := Try.sizeOf0
    v0 := Try.zeroValue0
    t3 := Try.underlying3
    a3 := Try.isAgg3
    z3 := Try.sizeOf3
    v3 := Try.zeroValue3
    t4 := Try.underlying4
    a4 := Try.isAgg4
    z4 := Try.sizeOf4
    v4 := Try.zeroValue4
    t9 := Try.underlying9
    a9 := Try.isAgg9
    z9 := Try.sizeOf9
    v9 := Try.zeroValue9
    t24 := Try.underlying23
    a24 := Try.isAgg23
    z24 := Try.sizeOf23
    v24 := Try.zeroValue23
    i9 := by kernel_rfl }
/-- The numbers of slices.BinarySearch and what it calls. -/
def renS : Ren := ⟨fun | 26 => 43 | 33 => 51 | 34 => 52 | 38 => 57 | n => n, fun | 24 => 23 | 9 => 9 | 3 => 3 | 4 => 4 | 40 => 47 | 0 => 0 | n => n, fun n => n⟩
theorem laysS : Lays2.n26 Try.prog renS :=
  { mixed := by kernel_rfl
    f26 := Try.func43.trans (congrArg some (by kernel_rfl))
    f33 := Try.func51.trans (congrArg some (by kernel_rfl))
    f34 := Try.func52.trans (congrArg some (by kernel_rfl))
    f38 := Try.func57.trans (congrArg some (by kernel_rfl))
    t0 := Try.underlying0
    a0 := Try.isAgg0
    z0 := Try.sizeOf0
    v0 := Try.zeroValue0
    t3 := Try.underlying3
    a3 := Try.isAgg3
    z3 := Try.sizeOf3
    v3 := Try.zeroValue3
    t4 := Try.underlying4
    a4 := Try.isAgg4
    z4 := Try.sizeOf4
    v4 := Try.zeroValue4
    t9 := Try.underlying9
    a9 := Try.isAgg9
    z9 := Try.sizeOf9
    v9 := Try.zeroValue9
    t24 := Try.underlying23
    a24 := Try.isAgg23
    z24 := Try.sizeOf23
    v24 := Try.zeroValue23
    t40 := Try.underlying47
    a40 := Try.isAgg47
    z40 := Try.sizeOf47
    v40 := Try.zeroValue47 }

/-- Texts as cells. -/
def tC (ds : List ByteArray) : List Value := ds.map Value.string
theorem tC_len (ds : List ByteArray) : (tC ds).length = ds.length := by simp [tC]
theorem tC_app (a b : List ByteArray) : tC (a ++ b) = tC a ++ tC b := by simp [tC]
theorem tC_one (a : List ByteArray) : ∀ u ∈ tC a, u.oneCell' = true := by
  intro u hu
  simp only [tC, List.mem_map] at hu
  obtain ⟨m, _, rfl⟩ := hu
  rfl
theorem tC_at {ds : List ByteArray} {k : Nat} (hk : k < ds.length) : (tC ds)[k]? = some (.string ds[k]) := by
  unfold tC; rw [List.getElem?_map, List.getElem?_eq_getElem hk]; rfl

/-- Where a text stands, or would. -/
theorem search_any (v : Value) (ds : List ByteArray) (x : ByteArray) (w : World) (h : Row w v ds.length (tC ds)) (hr : Rises ds) (hm : ds.length ≤ 1000) :
    Calls Try.prog 43 #[v, .string x] w fun e w' => e = .returned (.tuple #[.int .i64 (posB x ds : Nat), .bool (decide (ds[posB x ds]? = some x))]) ∧ ∃ q, w' = w.drewN q := by
  by_cases h0 : ds.length = 0
  · have : ds = [] := List.eq_nil_of_length_eq_zero h0
    subst this
    obtain ⟨y, c, rfl⟩ := row_none h
    exact (Any2.slices_BinarySearch_string_empty laysS y c x w).mono fun e w' ⟨he, hw⟩ => ⟨by rw [he]; rfl, 0, hw⟩
  · obtain ⟨g, o, c, rfl, hc⟩ := row_at h (by omega)
    have hb : Lib.bsGo (fun t => Op.bytesLess (ds.getD t x).toList x.toList) ds.length 0 ds.length = posB x ds :=
      Lib.bsGo_spec _ (posB x ds) (posB_less x ds) (posB_not x ds hr) _ _ _ (by omega) (Nat.zero_le _) (posB_le x ds)
    have := Any2.slices_BinarySearch_string laysS g o ds.length c (fun t => ds.getD t x) x w (by omega) (fun j hj => by
      have := hc j _ (tC_at hj)
      rw [this, List.getD_eq_getElem?_getD, List.getElem?_eq_getElem hj, Option.getD_some])
    rw [hb] at this
    refine this.mono fun e w' ⟨he, hw⟩ => ⟨?_, hw⟩
    have hd : decide (posB x ds < ds.length ∧ ds.getD (posB x ds) x = x) = decide (ds[posB x ds]? = some x) := by
      rw [Bool.eq_iff_iff, decide_eq_true_eq, decide_eq_true_eq]
      constructor
      · rintro ⟨h1, h2⟩
        rw [List.getD_eq_getElem?_getD, List.getElem?_eq_getElem h1, Option.getD_some] at h2
        rw [List.getElem?_eq_getElem h1, h2]
      · intro h1
        exact ⟨(List.getElem?_eq_some_iff.1 h1).1, by rw [List.getD_eq_getElem?_getD, h1, Option.getD_some]⟩
    rw [he, hd]

/-- Cells that are set in a block. -/
theorem setCells_blk {g : Nat} {t : TypeId} : ∀ (vs : List Value) (o : Nat) (w : World) (C : Array Value), w.heap[g]? = some (.cells C t (0, 0)) → o + vs.length ≤ C.size →
    ∃ C' : Array Value, (w.setCells g o vs).heap[g]? = some (.cells C' t (0, 0)) ∧ C'.size = C.size ∧ C'.toList = C.toList.take o ++ vs ++ C.toList.drop (o + vs.length) := by
  intro vs
  induction vs with
  | nil => intro o w C h _; exact ⟨C, h, rfl, by simp⟩
  | cons v vs ih =>
    intro o w C h hs
    rw [List.length_cons] at hs
    obtain ⟨C', h1, h2, h3⟩ := ih (o + 1) (w.setCell ⟨g, o, none⟩ v) (C.setIfInBounds o v) (heap_setCell_same w g o C t v h) (by simp; omega)
    refine ⟨C', h1, by rw [h2]; simp, ?_⟩
    rw [h3, Array.toList_setIfInBounds, List.length_cons]
    have ho : o < C.toList.length := by rw [Array.length_toList]; omega
    rw [List.take_succ_eq_append_getElem (by rw [List.length_set]; exact ho), List.take_set_of_le (Nat.le_refl _), List.getElem_set_self, List.drop_set_of_lt (by omega)]
    simp only [List.append_assoc, List.cons_append, List.nil_append]
    rw [show o + 1 + vs.length = o + (vs.length + 1) from by omega]
theorem setCells_turn {g : Nat} : ∀ (vs : List Value) (o : Nat) (w : World), Turn (fun k => k = g) w (w.setCells g o vs) := by
  intro vs
  induction vs with
  | nil => intro o w; exact Turn.refl _ _
  | cons v vs ih => intro o w; exact (Turn.of_set (S := fun k => k = g) w (p := ⟨g, o, none⟩) rfl v).same (ih _ _)

/-- A text is set into a row of the call's own. -/
theorem insert_any {B : Nat} (v : Value) (ds : List ByteArray) (x : ByteArray) (i gl : Nat) (w : World) (h : w.ownsRow B 9 1 v ds.length (tC ds)) (hi : i ≤ ds.length) (hm : ds.length ≤ 1000) (hl : Blk w gl #[.string x] 9) (hne : v.ownBlock ≠ some gl) (hB : B ≤ w.heap.size) :
    Calls Try.prog 44 #[v, .int .i64 (i : Int), .slice (some ⟨gl, 0, none⟩) 1 1] w fun e w' => ∃ v', e = .returned v' ∧ w'.ownsRow B 9 1 v' (ds.length + 1) (tC (ds.take i ++ x :: ds.drop i)) ∧ Turn (fun k => v.ownBlock = some k) w w' ∧ ∀ k, v'.ownBlock = some k → v.ownBlock = some k ∨ w.heap.size ≤ k := by
  have hlen : (tC (ds.take i ++ x :: ds.drop i)).length = (ds.length + 1) * 1 := by rw [tC_len]; simp; omega
  have hvs : ∀ j u, [Value.string x][j]? = some u → w.cell? ⟨gl, 0 + j, none⟩ = some u := fun j u hj => by rw [Nat.zero_add, hl.cell j]; simpa using hj
  have h1v : ∀ u ∈ [Value.string x], u.oneCell' = true := by intro u hu; simp at hu; subst hu; rfl
  have hgc : ∀ c, ds.length + 1 ≤ grownCap w (ds.length + 1) c 9 ∧ grownCap w (ds.length + 1) c 9 ≤ maxLen := fun c => ⟨grownCap_ge _ _ _ _, grownCap_le_maxLen _ _ _ _ (small100 (by omega))⟩
  rcases h.2 with ⟨rfl, h0⟩ | ⟨g, cap, C, rfl, hg, hC, hnc, hcm, hCs, hCt⟩
  · have hd : ds = [] := List.eq_nil_of_length_eq_zero h0
    subst hd
    obtain rfl : i = 0 := by simpa using hi
    refine (Any2.slices_Insert_string_end_grow laysI none 0 0 gl 0 1 1 [] [.string x] w (by decide) (Nat.le_refl _) (by decide) (by decide) rfl rfl (fun _ => rfl) (fun _ e => by cases e) hvs h1v).mono ?_
    rintro e w' ⟨rfl, rfl⟩
    obtain ⟨h1, h2⟩ := hgc 0
    refine ⟨_, rfl, ⟨hlen, .inr ⟨_, _, _, rfl, hB, heap_alloc_new w.drew _, h1, h2, ?_, ?_⟩⟩, Turn.of_below (lay (below_drew ⟨1, rfl⟩) _), fun k hk => .inr ?_⟩
    · show (_ : Array Value).size = _
      rw [Array.size_append, size_zeroCells, show (Value.string ⟨#[]⟩).cells.size = 1 from rfl]
      show 1 + _ = _
      show 1 + (grownCap w 1 0 9 - 1) * 1 = grownCap w 1 0 9 * 1
      have : 0 + 1 ≤ grownCap w (0 + 1) 0 9 := h1
      rw [Nat.zero_add] at this
      omega
    · rw [Array.toList_append, List.take_left' (by rfl)]; rfl
    · simp [Value.ownBlock] at hk; omega
  · have hcs : ∀ j u, (tC ds)[j]? = some u → w.cell? ⟨g, 0 + j, none⟩ = some u := fun j u hu => by
      have hj : j < ds.length * 1 := by have := (List.getElem?_eq_some_iff.1 hu).1; rw [← h.1]; exact this
      rw [Nat.zero_add, h.cellAt j hj, hu]
    have hCl : C.toList.length = cap := by rw [Array.length_toList, hCs]; omega
    have hng : gl ≠ g := fun e => hne (by rw [e]; rfl)
    unfold maxLen at hcm
    rw [Nat.mul_one] at hCs hCt
    by_cases hi2 : i = ds.length
    · subst hi2
      have hz : tC (ds.take ds.length ++ x :: ds.drop ds.length) = tC ds ++ [.string x] := by simp [tC]
      rw [hz] at hlen ⊢
      by_cases hroom : ds.length + 1 ≤ cap
      · refine (Any2.slices_Insert_string_end_room laysI g 0 ds.length cap gl 0 1 1 [.string x] w (by decide) hroom hcm rfl (fun j hj => ?_) (fun j _ => h.frozenAt _) hvs h1v).mono ?_
        · rw [cell_of_row w g _ C 9 _ hC, Array.getElem?_eq_getElem (by omega)]; rfl
        rintro e w' ⟨rfl, rfl⟩
        obtain ⟨C', h1, h2, h3⟩ := setCells_blk [.string x] (0 + ds.length) w C hC (by simp; omega)
        refine ⟨_, rfl, ⟨hlen, .inr ⟨_, _, C', rfl, hg, h1, hroom, by unfold maxLen; omega, by omega, ?_⟩⟩, (setCells_turn _ _ _).more (fun k hk => by rw [hk]; rfl), fun k hk => .inl hk⟩
        rw [h3, Nat.mul_one, Nat.zero_add, hCt]
        rw [List.take_left' (by simp [tC])]
      · refine (Any2.slices_Insert_string_end_grow laysI (some ⟨g, 0, none⟩) ds.length cap gl 0 1 1 (tC ds) [.string x] w (by decide) hnc (by omega) (by omega) (tC_len _) rfl (fun e => by cases e) (fun a ha j u hu => ?_) hvs h1v).mono ?_
        · cases ha
          have := hcs j u hu
          rw [Nat.zero_add] at this
          rw [show (⟨g, 0, none⟩ : Addr).add j = ⟨g, j, none⟩ from by unfold Addr.add; split <;> simp_all]
          exact this
        rintro e w' ⟨rfl, rfl⟩
        obtain ⟨h1, h2⟩ := hgc cap
        refine ⟨_, rfl, ⟨hlen, .inr ⟨_, _, _, rfl, hB, heap_alloc_new w.drew _, h1, h2, ?_, ?_⟩⟩, Turn.of_below (lay (below_drew ⟨1, rfl⟩) _), fun k hk => .inr ?_⟩
        · rw [Array.size_append, size_zeroCells, show (Value.string ⟨#[]⟩).cells.size = 1 from rfl]
          simp only [List.size_toArray, List.length_append, tC_len, List.length_cons, List.length_nil]
          show ds.length + (0 + 1) + (grownCap w (ds.length + 1) cap 9 - (ds.length + 1)) * 1 = grownCap w (ds.length + 1) cap 9 * 1
          omega
        · rw [Array.toList_append, List.take_left' (by simp [tC])]
        · simp [Value.ownBlock] at hk; omega
    · have hil : i < ds.length := by omega
      have hz : tC (ds.take i ++ x :: ds.drop i) = (tC ds).take i ++ (.string x) :: (tC ds).drop i := by simp [tC]
      rw [hz] at hlen ⊢
      by_cases hroom : ds.length + 1 ≤ cap
      · refine (Any2.slices_Insert_string_shift laysI g 0 ds.length cap i gl 0 1 1 (tC ds) [.string x] w hil (by decide) hroom hcm hng (tC_len _) rfl hcs (fun j hj => ?_) (fun j _ => h.frozenAt _) hvs (tC_one _) h1v 9 9 1 C.size (by unfold World.shape?; rw [hl]; rfl) (by unfold World.shape?; rw [hC]) (by omega) (hl.frozen _) (hl.frozen _)).mono ?_
        · rw [cell_of_row w g _ C 9 _ hC, Array.getElem?_eq_getElem (by omega)]; rfl
        rintro e w' ⟨rfl, rfl⟩
        obtain ⟨C1, h1, h2, h3⟩ := setCells_blk ((tC ds).drop i) (0 + (i + 1)) w.drew C hC (by simp [tC]; omega)
        obtain ⟨C2, k1, k2, k3⟩ := setCells_blk [.string x] (0 + i) _ C1 h1 (by simp; omega)
        refine ⟨_, rfl, ⟨hlen, .inr ⟨_, _, C2, rfl, hg, k1, hroom, by unfold maxLen; omega, by omega, ?_⟩⟩, ?_, fun k hk => .inl hk⟩
        · rw [k3, h3, Nat.mul_one, Nat.zero_add, Nat.zero_add]
          have e1 : ∀ j, j ≤ ds.length → C.toList.take j = (tC ds).take j := fun j hj => by
            rw [← hCt, List.take_take, Nat.min_eq_left hj]
          have ht : (C.toList.take (i + 1)).length = i + 1 := by rw [List.length_take]; omega
          have hd : ((tC ds).drop i).length = ds.length - i := by rw [List.length_drop, tC_len]
          have a1 : (C.toList.take (i + 1) ++ (tC ds).drop i ++ C.toList.drop (i + 1 + ((tC ds).drop i).length)).take i = (tC ds).take i := by
            rw [List.append_assoc, List.take_append_of_le_length (by omega), List.take_take, Nat.min_eq_left (by omega), e1 i (by omega)]
          have a2 : (C.toList.take (i + 1) ++ (tC ds).drop i ++ C.toList.drop (i + 1 + ((tC ds).drop i).length)).drop (i + [Value.string x].length) = (tC ds).drop i ++ C.toList.drop (i + 1 + ((tC ds).drop i).length) := by
            rw [List.append_assoc, List.drop_left' (by rw [ht]; rfl)]
          rw [a1, a2]
          have a3 : ((tC ds).take i ++ [Value.string x] ++ ((tC ds).drop i ++ C.toList.drop (i + 1 + ((tC ds).drop i).length))) = ((tC ds).take i ++ (Value.string x) :: (tC ds).drop i) ++ C.toList.drop (i + 1 + ((tC ds).drop i).length) := by simp
          rw [a3, List.take_left' (by rw [hlen, Nat.mul_one])]
        · exact ((Turn.of_below (S := fun k => k = g) (below_drew (w := w) ⟨1, rfl⟩)).same ((setCells_turn _ _ _).same (setCells_turn _ _ _))).more (fun k hk => by rw [hk]; rfl)
      · refine (Any2.slices_Insert_string_grow laysI g 0 ds.length cap i gl 0 1 1 (tC ds) [.string x] w hil (by decide) hnc (by omega) (by omega) (tC_len _) rfl hcs hvs (tC_one _) h1v).mono ?_
        rintro e w' ⟨rfl, rfl⟩
        obtain ⟨h1, h2⟩ := hgc cap
        show ∃ v', Ending.returned (.slice (some ⟨w.heap.size, 0, none⟩) (ds.length + 1) (grownCap w (ds.length + 1) cap 9)) = _ ∧ _
        obtain ⟨K, hK⟩ : ∃ K, grownCap w (ds.length + 1) cap (renI.t 9) = K := ⟨_, rfl⟩
        have hK' : grownCap w (ds.length + 1) cap 9 = K := hK
        rw [hK'] at h1 h2
        rw [hK, hK']
        obtain ⟨Z, hZ⟩ : ∃ Z, ((tC ds).take i).toArray ++ Builtin.zeroCells (Value.string ⟨#[]⟩).cells (ds.length + 1 - i) ++ Builtin.zeroCells (Value.string ⟨#[]⟩).cells (K - (ds.length + 1)) = Z := ⟨_, rfl⟩
        have hZs : Z.size = K := by
          rw [← hZ, Array.size_append, Array.size_append, size_zeroCells, size_zeroCells, show (Value.string ⟨#[]⟩).cells.size = 1 from rfl]
          simp only [List.size_toArray, List.length_take, tC_len]
          omega
        have hZt : Z.toList.take i = (tC ds).take i := by
          rw [← hZ, Array.toList_append, Array.toList_append, List.append_assoc, List.take_append_of_le_length (by simp [tC]; omega)]
          simp [tC, List.take_take]
        rw [hZ]
        have hZl : Z.toList.length = K := by rw [Array.length_toList, hZs]
        have hblk : ((w.alloc (.cells Z (renI.t 9))).drew).heap[w.heap.size]? = some (.cells Z 9 (0, 0)) := heap_alloc_new w _
        obtain ⟨C1, p1, p2, p3⟩ := setCells_blk [.string x] i _ Z hblk (by simp; omega)
        obtain ⟨C2, k1, k2, k3⟩ := setCells_blk ((tC ds).drop i) (i + 1) _ C1 (show (((w.alloc (.cells Z (renI.t 9))).drew.setCells w.heap.size i [.string x]).drew).heap[w.heap.size]? = _ from p1) (by simp [tC]; omega)
        refine ⟨_, rfl, ⟨hlen, .inr ⟨_, _, C2, rfl, hB, k1, h1, h2, by omega, ?_⟩⟩, ?_, fun k hk => .inr ?_⟩
        · rw [k3, p3, Nat.mul_one, hZt]
          have a1 : ((tC ds).take i ++ [Value.string x] ++ Z.toList.drop (i + [Value.string x].length)).take (i + 1) = (tC ds).take i ++ [Value.string x] := by
            rw [List.take_left' (by simp [tC]; omega)]
          rw [a1]
          rw [show (tC ds).take i ++ [Value.string x] ++ (tC ds).drop i = (tC ds).take i ++ (Value.string x) :: (tC ds).drop i from by simp]
          rw [List.take_left' (by rw [hlen, Nat.mul_one])]
        · have b1 : Below w.heap.size w (w.alloc (.cells Z (renI.t 9))).drew := next (lay (Below.refl _ _) _) (below_drew ⟨1, rfl⟩)
          have T1 : Turn (fun k => k = w.heap.size) w ((((w.alloc (.cells Z (renI.t 9))).drew.setCells w.heap.size i [.string x]).drew).setCells w.heap.size (i + 1) ((tC ds).drop i)) :=
            ((Turn.of_below b1).same (setCells_turn _ _ _)).same ((Turn.of_below (S := fun k => k = w.heap.size) (below_drew ⟨1, rfl⟩)).same (setCells_turn _ _ _))
          exact ⟨T1.os, T1.tape, T1.output, T1.size, fun k hk _ => T1.block k hk (by omega)⟩
        · simp [Value.ownBlock] at hk; omega

end Go.Proofs.Ytdaegnmokaibpaa
