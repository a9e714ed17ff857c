/- Add of a Table, where there is room. -/
import Derived.Test.YtbldoplemfjcjaaOuK
namespace Go.Proofs.Ytbldoplemfjcjaa
open Go.RowKit
open Pl
namespace Ou

/-- A row of one type and a block of another lie apart. -/
theorem own_apartT {w : World} {B e z n : Nat} {v : Value} {ys : List Value} (hr : w.ownsRow B e z v n ys) {g : Nat} {C : Array Value} {t : TypeId} (hb : Blk w g C t) (he : e ≠ t) : ¬ v.ownBlock = some g := by
  intro hi
  rcases hr.2 with ⟨hv, _⟩ | ⟨g', cap, cur, hv, _, hh, _⟩
  · rw [hv] at hi; simp [Value.ownBlock] at hi
  · rw [hv] at hi
    simp [Value.ownBlock] at hi
    subst hi
    have h' : w.heap[g']? = some (.cells C t (0, 0)) := hb
    rw [hh] at h'
    simp only [Option.some.injEq, Obj.cells.injEq] at h'
    exact he h'.2.1
theorem foot_key {w : World} {gs most added b : Nat} {L : List Gr} {T : List Tn} (h : St w gs most added b L T) {k : Ke} : ∀ i, (i = b ∨ (vL L k).ownBlock = some i) → i < w.heap.size ∧ i ≠ gs := by
  intro i hi
  rcases hi with rfl | hi
  · refine ⟨h.hold.blt, fun e => ?_⟩
    obtain ⟨es, clock, hbm⟩ := h.hold.bmap
    have h' : w.heap[gs]? = some (.cells _ _ (0, 0)) := h.blk
    rw [e, h'] at hbm; cases hbm
  · have hrow := h.hold.rowAt k
    refine ⟨(hrow.lt i hi).2, fun e => ?_⟩
    subst e
    exact own_apartT hrow h.blk (by decide) hi
/-- What an Add does to the map, from the world on in which its key and what is asked lie. -/
theorem add_map {w : World} {gs most added b : Nat} {L : List Gr} {T : List Tn} (h : St w gs most added b L T) {x : Ak} (hx : OkA x) (hroom : T.length < most) {k : Ke} (hk : k = keyA x) :
    ∃ (m : Nat) (y0 : Option Addr) (c0 : Nat), vL L k = .slice y0 m c0 ∧ m ≤ 16 ∧ ∀ W2, Below w.heap.size w W2 → ∃ (st : Nat) (w7 : World), (Instr.mapEntry 59 (.map (some b)) (kyV k)).run Try.prog W2 = .ok (.tuple #[.slice y0 m c0, .int .i64 (st : Int)]) w7 ∧ Turn (fun i => i = b ∨ (vL L k).ownBlock = some i) W2 w7 ∧
      w7.ownsRow 0 73 9 (.slice y0 m c0) m (tF (T.filter (mt k))) ∧
      ∀ (v' : Value) (w8 : World), w8.ownsRow 0 73 9 v' (m + 1) (tF (T.filter (mt k)) ++ tnC ⟨added, x⟩) → w7.grownBy w8 (Value.slice y0 m c0).ownBlock → (∀ i, v'.ownBlock = some i → (Value.slice y0 m c0).ownBlock = some i ∨ w7.heap.size ≤ i) →
        Turn (fun i => i = b ∨ (vL L k).ownBlock = some i) W2 w8 ∧ ∃ w9, (Instr.entryStore 59 (.map (some b)) (.int .i64 (st : Int)) v').run Try.prog w8 = .ok () w9 ∧ Turn (fun i => i = b ∨ (vL L k).ownBlock = some i) W2 w9 ∧
          ∃ L', St (w9.setCell ⟨gs, 1, none⟩ (.int .i64 ((added : Int) + 1))) gs most (added + 1) b L' (T ++ [⟨added, x⟩]) ∧ Turn (foot gs b L) w (w9.setCell ⟨gs, 1, none⟩ (.int .i64 ((added : Int) + 1))) ∧ (∀ i, foot gs b L' i → foot gs b L i ∨ w.heap.size ≤ i) := by
  subst hk
  have hrow := h.hold.rowAt (keyA x)
  have hm2 := h.m2
  have hfew := good_few h.hold.good
  have hfl : (T.filter (mt (keyA x))).length ≤ T.length := List.length_filter_le _ _
  obtain ⟨y0, c0, hv⟩ := row_shape hrow
  refine ⟨_, y0, c0, hv, by omega, fun W2 hb => ?_⟩
  have hs := h.below hb
  obtain ⟨st, w7, hrun, ht, hown, hst⟩ := add_run hs.hold (by omega) hx added
  rw [hv] at hrun hown hst
  have hfoot : ∀ i, (i = b ∨ (vL L (keyA x)).ownBlock = some i) → foot gs b L i ∧ i ≠ gs := by
    intro i hi
    rcases hi with rfl | hi
    · refine ⟨.inr (.inl rfl), fun e => ?_⟩
      obtain ⟨es, clock, hbm⟩ := h.hold.bmap
      have h' : w.heap[gs]? = some (.cells _ _ (0, 0)) := h.blk
      rw [e, h'] at hbm; cases hbm
    · unfold vL at hi
      cases ha : atL L (keyA x) with
      | none => rw [ha] at hi; simp [Value.ownBlock] at hi
      | some g =>
        rw [ha] at hi
        refine ⟨.inr (.inr ⟨g, (atL_some ha).1, hi⟩), fun e => ?_⟩
        subst e
        exact (own_apartT (h.hold.row g (atL_some ha).1) h.blk (by decide)) hi
  refine ⟨st, w7, hrun, ht.more (fun _ e => .inl e), hown, fun v' w8 ho hg hk' => ?_⟩
  have hg8 : Turn (fun i => (Value.slice y0 (T.filter (mt (keyA x))).length c0).ownBlock = some i) w7 w8 := Turn.of_grown hg (fun _ e => e)
  obtain ⟨w9, hrun9, hh9, ht9⟩ := hst v' w8 ho hg hk'
  have ht8 : Turn (fun i => i = b ∨ (vL L (keyA x)).ownBlock = some i) W2 w8 := (ht.more (fun _ e => .inl e)).trans hg8 (fun i e => .inl (.inr (by rw [hv]; exact e)))
  rw [hv]
  rw [hv] at ht8 hfoot
  refine ⟨ht8, w9, hrun9, ht9, ?_⟩
  have hT9 : Turn (foot gs b L) w w9 := (Turn.of_below hb).trans ht9 (fun i e => .inl (hfoot i e).1)
  have hTs : Turn (foot gs b L) w (w9.setCell ⟨gs, 1, none⟩ (.int .i64 ((added : Int) + 1))) := hT9.trans (Turn.of_set (S := fun i => i = gs) w9 rfl _) (fun i e => .inl (.inl e))
  have hblk9 : Blk w9 gs #[.int .i64 most, .int .i64 added, .map (some b)] 61 := ht9.blk hs.blk (fun e => (hfoot gs e).2 rfl)
  refine ⟨_, ⟨hblk9.set 1 _, h.m1, h.m2, by rw [List.length_append]; simp; omega, hh9.turn (Turn.of_set (S := fun i => i = gs) w9 rfl _) (fun e => (hfoot b (.inl rfl)).2 e) (fun q hq i hi e => ?_), h.rise.snoc h.lt, fun t ht' => ?_⟩, hTs, fun i hi => ?_⟩
  · subst e
    exact (own_apartT (hh9.row q hq) hblk9 (by decide)) hi
  · rcases List.mem_append.1 ht' with h1 | h1
    · have := h.lt t h1; omega
    · simp at h1; subst h1; exact Nat.lt_succ_self _
  · rcases foot_set hi with hi | hi
    · exact .inl hi
    · rcases hk' i hi with h1 | h1
      · exact .inl (hfoot i (.inr h1)).1
      · have h2 := ht.size
        have h3 := hb.size
        exact .inr (by omega)

set_option maxRecDepth 20000 in
set_option maxHeartbeats 4000000 in
theorem add_yes {w : World} {gs most added b : Nat} {L : List Gr} {T : List Tn} (h : St w gs most added b L T) (j i a : Int) (c g n : ByteArray) (t u : Int) (hn : n.size ≤ maxLen) (hb : wrongA ⟨j, i, a, c, g, n, t, u⟩ = false) (hroom : T.length < most) (hfar : Far ⟨j, i, a, c, g, n, t, u⟩) (hadd : added ≤ 1000000) :
    Calls Try.prog 12 #[.pointer (some ⟨gs, 0, none⟩), .agg #[.int .i64 j, .int .i64 i, .int .i64 a, .string c, .string g, .string n, .int .i64 t, .int .i64 u]] w fun e w' => e = .returned (.int .i64 0) ∧ ∃ L', St w' gs most (added + 1) b L' (T ++ [⟨added, (⟨j, i, a, c, g, n, t, u⟩ : Ak)⟩]) ∧ Turn (foot gs b L) w w' ∧ (∀ k, foot gs b L' k → foot gs b L k ∨ w.heap.size ≤ k) := by
  obtain ⟨i0, hi, hz0, hz1, hz2⟩ := info_parts infoT
  have b0 : Below w.heap.size w (w.alloc (.cells #[.int .i64 j, .int .i64 i, .int .i64 a, .string c, .string g, .string n, .int .i64 t, .int .i64 u] 35)) := lay (Below.refl _ _) _
  have k0 := Blk.new w #[.int .i64 j, .int .i64 i, .int .i64 a, .string c, .string g, .string n, .int .i64 t, .int .i64 u] 35
  have hge : decide ((most : Int) ≤ (T.length : Int)) = false := by simp; omega
  have HST : Hid (St w gs most added b L T) := h
  have HMAP0 := add_map h (x := (⟨j, i, a, c, g, n, t, u⟩ : Ak)) (wrong_iff.1 hb) hroom rfl
  have hgl : gs < w.heap.size := h.blk.lt
  have HFT0 := foot_key h (k := keyA (⟨j, i, a, c, g, n, t, u⟩ : Ak))
  clear h
  go_enter Try.func12, Try.ntmps12
  go_wp2_with (first
    | (go_at_call 23; go_must (refine (isWrong_any j i a c g n t u _ hn false hb).mono ?_); rintro e w1 ⟨rfl, b1⟩; replace b0 := next b0 b1; replace k0 := k0.below b1; clear b1)
    | (refine wpList_loadS _ rfl (.tmp 3) 35 rfl w.heap.size _ 35 rfl k0 ⟨_, Try.underlying35⟩ (by kernel_rfl) ?_))
  have hs1 := (HST.out.below b0).below (Below.refl _ _).drew
  have c0 : w1.drew.cell? ⟨gs, 0, none⟩ = some (.int .i64 (most : Int)) := hs1.blk.cell 0
  have hcnt := count_any hs1
  have HC0 : Hid (∀ w2, Below w1.drew.heap.size w1.drew w2 → w2.cell? ⟨gs, 0, none⟩ = some (.int .i64 (most : Int)) ∧ Below w.heap.size w w2 ∧ Blk w2 w.heap.size #[.int .i64 j, .int .i64 i, .int .i64 a, .string c, .string g, .string n, .int .i64 t, .int .i64 u] 35) := fun w2 h2 => ⟨(hs1.below h2).blk.cell 0, next b0.drew h2, (k0.below (Below.refl _ _).drew).below h2⟩
  clear hs1 b0 k0
  go_region_held_law (fun u => u.cell? ⟨gs, 0, none⟩ = some (.int .i64 (most : Int))) (first | exact c0 | exact c9) ((go_at_call 24; go_must (refine hcnt.mono ?_); rintro e w2 ⟨rfl, b2⟩; obtain ⟨c9, B2, K2⟩ := HC0.out w2 b2; clear b2))
  clear hcnt c0 c9 HC0
  go_wp2
  have HP : Hid (∀ w3, Below w2.heap.size w2 w3 → (w3.cell? ⟨w.heap.size, 1, none⟩ = some (.int .i64 i) ∧ w3.cell? ⟨w.heap.size, 2, none⟩ = some (.int .i64 a) ∧ w3.cell? ⟨w.heap.size, 5, none⟩ = some (.string n) ∧ w3.cell? ⟨w.heap.size, 6, none⟩ = some (.int .i64 t)) ∧ Below w2.heap.size w2 w3) := fun w3 h3 => by
    have k3 := K2.below h3
    exact ⟨⟨k3.cell 1, k3.cell 2, k3.cell 5, k3.cell 6⟩, h3⟩
  obtain ⟨c2, D2⟩ := HP.out w2.drew (Below.refl _ _).drew
  obtain ⟨k, hk⟩ : ∃ k, k = keyQ a i n t 1 := ⟨_, rfl⟩
  have hky : ∀ q : World, Calls Try.prog 25 #[.int .i64 a, .int .i64 i, .agg #[.string n, .int .i64 t, .int .i64 1]] q fun e w' => e = .returned (.agg #[.int .i64 k.1, .int .i64 k.2.1, .string k.2.2.1, .int .i64 k.2.2.2.1, .int .i64 k.2.2.2.2]) ∧ Below q.heap.size q w' := fun q => by have := keyOf_any a i n t 1 q hn; rw [← hk] at this; exact this
  have HKY : Hid (k = keyA (⟨j, i, a, c, g, n, t, u⟩ : Ak)) := hk
  have hk2 : keyA (⟨j, i, a, c, g, n, t, u⟩ : Ak) = k := hk.symm
  rw [hk2] at HMAP0 HFT0
  have HMAP : Hid _ := HMAP0
  have HFT : Hid _ := HFT0
  clear hk hk2 HMAP0 HFT0
  go_region_held_law (fun q => q.cell? ⟨w.heap.size, 1, none⟩ = some (.int .i64 i) ∧ q.cell? ⟨w.heap.size, 2, none⟩ = some (.int .i64 a) ∧ q.cell? ⟨w.heap.size, 5, none⟩ = some (.string n) ∧ q.cell? ⟨w.heap.size, 6, none⟩ = some (.int .i64 t)) (first | with_reducible exact c2 | with_reducible exact c3 | with_reducible exact c4 | (refine (HP.out _ ?_).1; repeat (first | with_reducible exact Below.refl _ _ | with_reducible refine Below.drew ?_ | with_reducible exact D4 | with_reducible exact D3 | with_reducible exact D2 | with_reducible refine lay ?_ _ | with_reducible refine Below.setCell ?_ (by first | exact Nat.le_refl _ | exact D3.size | exact D4.size) _))) (first
    | (go_at_call 26; go_must (refine (questionOf_any n t _).mono ?_); rintro e w3 ⟨rfl, b3⟩; obtain ⟨c3, D3⟩ := HP.out w3 (by first | (exact next D2 b3) | (exact next (lay (Below.refl _ w2) _).drew b3)); try (have kq := ((Blk.new w2 #[.int .i64 0, .int .i64 0, .string ⟨#[]⟩, .int .i64 0, .int .i64 0] 67).below (Below.refl _ _).drew).below b3))
    | (go_at_call 25; go_must (refine (hky _).mono ?_); rintro e w4 ⟨rfl, b4⟩; obtain ⟨c4, D4⟩ := HP.out w4 (by first | (exact next D3 b4) | (exact next (lay D3 _) b4)); (first | (have kk := kq.below b4) | (have kk := (Blk.new w3 #[.int .i64 0, .int .i64 0, .string ⟨#[]⟩, .int .i64 0, .int .i64 0] 67).below b4) | skip); try (have x0 := kk.cell 0; have x1 := kk.cell 1; have x2 := kk.cell 2; have x3 := kk.cell 3; have x4 := kk.cell 4; have y0 := kk.frozen 0; have y1 := kk.frozen 1; have y2 := kk.frozen 2; have y3 := kk.frozen 3; have y4 := kk.frozen 4; simp only [List.getElem?_toArray, List.getElem?_cons_succ, List.getElem?_cons_zero] at x0 x1 x2 x3 x4)))
  generalize hW : (w4.alloc (.cells #[.int .i64 k.1, .int .i64 k.2.1, .string k.2.2.1, .int .i64 k.2.2.2.1, .int .i64 k.2.2.2.2] 67)) = W
  have KW : Blk W w4.heap.size #[.int .i64 k.1, .int .i64 k.2.1, .string k.2.2.1, .int .i64 k.2.2.2.1, .int .i64 k.2.2.2.2] 67 := by (rw [← hW]; exact Blk.new _ _ _)
  have DW : Below w2.heap.size w2 W := by (rw [← hW]; exact lay D4 _)
  have GE : w2.heap.size ≤ w4.heap.size := D4.size
  clear hW b4 D4
  generalize w4.heap.size = kb at KW GE ⊢
  rotate_left
  generalize hW : (((((w4.setCell ⟨w3.heap.size, 0, none⟩ (.int .i64 k.1)).setCell ⟨w3.heap.size, 1, none⟩ (.int .i64 k.2.1)).setCell ⟨w3.heap.size, 2, none⟩ (.string k.2.2.1)).setCell ⟨w3.heap.size, 3, none⟩ (.int .i64 k.2.2.2.1)).setCell ⟨w3.heap.size, 4, none⟩ (.int .i64 k.2.2.2.2)) = W
  have KW : Blk W w3.heap.size #[.int .i64 k.1, .int .i64 k.2.1, .string k.2.2.1, .int .i64 k.2.2.2.1, .int .i64 k.2.2.2.2] 67 := by (rw [← hW]; exact (((((kk.set 0 (.int .i64 k.1)).set 1 (.int .i64 k.2.1)).set 2 (.string k.2.2.1)).set 3 (.int .i64 k.2.2.2.1)).set 4 (.int .i64 k.2.2.2.2)))
  have DW : Below w2.heap.size w2 W := by (rw [← hW]; exact (Below.setCell (p := ⟨w3.heap.size, 4, none⟩) (Below.setCell (p := ⟨w3.heap.size, 3, none⟩) (Below.setCell (p := ⟨w3.heap.size, 2, none⟩) (Below.setCell (p := ⟨w3.heap.size, 1, none⟩) (Below.setCell (p := ⟨w3.heap.size, 0, none⟩) D4 D3.size _) D3.size _) D3.size _) D3.size _) D3.size _))
  have GE : w2.heap.size ≤ w3.heap.size := D3.size
  clear hW kk x0 x1 x2 x3 x4 y0 y1 y2 y3 y4 b4 D4
  generalize w3.heap.size = kb at KW GE ⊢
  rotate_left
  generalize hW : (((((w4.setCell ⟨w2.heap.size, 0, none⟩ (.int .i64 k.1)).setCell ⟨w2.heap.size, 1, none⟩ (.int .i64 k.2.1)).setCell ⟨w2.heap.size, 2, none⟩ (.string k.2.2.1)).setCell ⟨w2.heap.size, 3, none⟩ (.int .i64 k.2.2.2.1)).setCell ⟨w2.heap.size, 4, none⟩ (.int .i64 k.2.2.2.2)) = W
  have KW : Blk W w2.heap.size #[.int .i64 k.1, .int .i64 k.2.1, .string k.2.2.1, .int .i64 k.2.2.2.1, .int .i64 k.2.2.2.2] 67 := by (rw [← hW]; exact (((((kk.set 0 (.int .i64 k.1)).set 1 (.int .i64 k.2.1)).set 2 (.string k.2.2.1)).set 3 (.int .i64 k.2.2.2.1)).set 4 (.int .i64 k.2.2.2.2)))
  have DW : Below w2.heap.size w2 W := by (rw [← hW]; exact (Below.setCell (p := ⟨w2.heap.size, 4, none⟩) (Below.setCell (p := ⟨w2.heap.size, 3, none⟩) (Below.setCell (p := ⟨w2.heap.size, 2, none⟩) (Below.setCell (p := ⟨w2.heap.size, 1, none⟩) (Below.setCell (p := ⟨w2.heap.size, 0, none⟩) D4 (Nat.le_refl _) _) (Nat.le_refl _) _) (Nat.le_refl _) _) (Nat.le_refl _) _) (Nat.le_refl _) _))
  obtain ⟨kb, hkb⟩ : ∃ kb, kb = w2.heap.size := ⟨_, rfl⟩
  have GE : w2.heap.size ≤ kb := Nat.le_of_eq hkb.symm
  rw [← hkb] at KW
  simp only [← hkb]
  clear hW kk x0 x1 x2 x3 x4 y0 y1 y2 y3 y4 b4 D4 hkb
  rotate_left
  all_goals (
    obtain ⟨m, y0, c0, hvL, hm16, hmap⟩ := HMAP.out
    have HX : Hid (∀ u', Turn (fun q => q = b ∨ (vL L k).ownBlock = some q) W u' → u'.cell? ⟨gs, 2, none⟩ = some (.map (some b)) ∧ u'.cell? ⟨gs, 1, none⟩ = some (.int .i64 (added : Int)) ∧ u'.cell? ⟨kb, 0, none⟩ = some (.int .i64 k.1) ∧ u'.cell? ⟨kb, 1, none⟩ = some (.int .i64 k.2.1) ∧ u'.cell? ⟨kb, 2, none⟩ = some (.string k.2.2.1) ∧ u'.cell? ⟨kb, 3, none⟩ = some (.int .i64 k.2.2.2.1) ∧ u'.cell? ⟨kb, 4, none⟩ = some (.int .i64 k.2.2.2.2) ∧ u'.cell? ⟨w.heap.size, 0, none⟩ = some (.int .i64 j) ∧ u'.cell? ⟨w.heap.size, 1, none⟩ = some (.int .i64 i) ∧ u'.cell? ⟨w.heap.size, 2, none⟩ = some (.int .i64 a) ∧ u'.cell? ⟨w.heap.size, 3, none⟩ = some (.string c) ∧ u'.cell? ⟨w.heap.size, 4, none⟩ = some (.string g) ∧ u'.cell? ⟨w.heap.size, 5, none⟩ = some (.string n) ∧ u'.cell? ⟨w.heap.size, 6, none⟩ = some (.int .i64 t) ∧ u'.cell? ⟨w.heap.size, 7, none⟩ = some (.int .i64 u)) := by
      intro u' ht
      have hsW := HST.out.below (next B2 DW)
      have hF : ∀ q, (q = b ∨ (vL L k).ownBlock = some q) → q < w.heap.size ∧ q ≠ gs := fun q e => HFT.out q e
      have q1 : Blk u' gs #[.int .i64 most, .int .i64 added, .map (some b)] 61 := ht.blk hsW.blk (fun e => (hF gs e).2 rfl)
      have hB := B2.size
      have q2 := ht.blk KW (fun e => by have := (hF kb e).1; omega)
      have q3 := ht.blk (K2.below DW) (fun e => by have := (hF _ e).1; omega)
      exact ⟨q1.cell 2, q1.cell 1, q2.cell 0, q2.cell 1, q2.cell 2, q2.cell 3, q2.cell 4, q3.cell 0, q3.cell 1, q3.cell 2, q3.cell 3, q3.cell 4, q3.cell 5, q3.cell 6, q3.cell 7⟩)
  all_goals (
    have hcp := fun q => copyOf_any j i a c g n t u q (by have := hfar.1; simp only at this; omega) (by have := hfar.2.1; simp only at this; omega) (by have := hfar.2.2; simp only at this; omega)
    have HMP : Hid (∀ w6, Below W.drew.heap.size W.drew w6 → (w6.cell? ⟨gs, 2, none⟩ = some (.map (some b)) ∧ w6.cell? ⟨gs, 1, none⟩ = some (.int .i64 (added : Int)) ∧ w6.cell? ⟨kb, 0, none⟩ = some (.int .i64 k.1) ∧ w6.cell? ⟨kb, 1, none⟩ = some (.int .i64 k.2.1) ∧ w6.cell? ⟨kb, 2, none⟩ = some (.string k.2.2.1) ∧ w6.cell? ⟨kb, 3, none⟩ = some (.int .i64 k.2.2.2.1) ∧ w6.cell? ⟨kb, 4, none⟩ = some (.int .i64 k.2.2.2.2) ∧ w6.cell? ⟨w.heap.size, 0, none⟩ = some (.int .i64 j) ∧ w6.cell? ⟨w.heap.size, 1, none⟩ = some (.int .i64 i) ∧ w6.cell? ⟨w.heap.size, 2, none⟩ = some (.int .i64 a) ∧ w6.cell? ⟨w.heap.size, 3, none⟩ = some (.string c) ∧ w6.cell? ⟨w.heap.size, 4, none⟩ = some (.string g) ∧ w6.cell? ⟨w.heap.size, 5, none⟩ = some (.string n) ∧ w6.cell? ⟨w.heap.size, 6, none⟩ = some (.int .i64 t) ∧ w6.cell? ⟨w.heap.size, 7, none⟩ = some (.int .i64 u)) ∧ ((w6.alloc (.cells #[.int .i64 (added : Int), .int .i64 j, .int .i64 i, .int .i64 a, .string c, .string g, .string n, .int .i64 t, .int .i64 u] 73)).cell? ⟨gs, 2, none⟩ = some (.map (some b)) ∧ (w6.alloc (.cells #[.int .i64 (added : Int), .int .i64 j, .int .i64 i, .int .i64 a, .string c, .string g, .string n, .int .i64 t, .int .i64 u] 73)).cell? ⟨gs, 1, none⟩ = some (.int .i64 (added : Int)) ∧ (w6.alloc (.cells #[.int .i64 (added : Int), .int .i64 j, .int .i64 i, .int .i64 a, .string c, .string g, .string n, .int .i64 t, .int .i64 u] 73)).cell? ⟨kb, 0, none⟩ = some (.int .i64 k.1) ∧ (w6.alloc (.cells #[.int .i64 (added : Int), .int .i64 j, .int .i64 i, .int .i64 a, .string c, .string g, .string n, .int .i64 t, .int .i64 u] 73)).cell? ⟨kb, 1, none⟩ = some (.int .i64 k.2.1) ∧ (w6.alloc (.cells #[.int .i64 (added : Int), .int .i64 j, .int .i64 i, .int .i64 a, .string c, .string g, .string n, .int .i64 t, .int .i64 u] 73)).cell? ⟨kb, 2, none⟩ = some (.string k.2.2.1) ∧ (w6.alloc (.cells #[.int .i64 (added : Int), .int .i64 j, .int .i64 i, .int .i64 a, .string c, .string g, .string n, .int .i64 t, .int .i64 u] 73)).cell? ⟨kb, 3, none⟩ = some (.int .i64 k.2.2.2.1) ∧ (w6.alloc (.cells #[.int .i64 (added : Int), .int .i64 j, .int .i64 i, .int .i64 a, .string c, .string g, .string n, .int .i64 t, .int .i64 u] 73)).cell? ⟨kb, 4, none⟩ = some (.int .i64 k.2.2.2.2) ∧ (w6.alloc (.cells #[.int .i64 (added : Int), .int .i64 j, .int .i64 i, .int .i64 a, .string c, .string g, .string n, .int .i64 t, .int .i64 u] 73)).cell? ⟨w.heap.size, 0, none⟩ = some (.int .i64 j) ∧ (w6.alloc (.cells #[.int .i64 (added : Int), .int .i64 j, .int .i64 i, .int .i64 a, .string c, .string g, .string n, .int .i64 t, .int .i64 u] 73)).cell? ⟨w.heap.size, 1, none⟩ = some (.int .i64 i) ∧ (w6.alloc (.cells #[.int .i64 (added : Int), .int .i64 j, .int .i64 i, .int .i64 a, .string c, .string g, .string n, .int .i64 t, .int .i64 u] 73)).cell? ⟨w.heap.size, 2, none⟩ = some (.int .i64 a) ∧ (w6.alloc (.cells #[.int .i64 (added : Int), .int .i64 j, .int .i64 i, .int .i64 a, .string c, .string g, .string n, .int .i64 t, .int .i64 u] 73)).cell? ⟨w.heap.size, 3, none⟩ = some (.string c) ∧ (w6.alloc (.cells #[.int .i64 (added : Int), .int .i64 j, .int .i64 i, .int .i64 a, .string c, .string g, .string n, .int .i64 t, .int .i64 u] 73)).cell? ⟨w.heap.size, 4, none⟩ = some (.string g) ∧ (w6.alloc (.cells #[.int .i64 (added : Int), .int .i64 j, .int .i64 i, .int .i64 a, .string c, .string g, .string n, .int .i64 t, .int .i64 u] 73)).cell? ⟨w.heap.size, 5, none⟩ = some (.string n) ∧ (w6.alloc (.cells #[.int .i64 (added : Int), .int .i64 j, .int .i64 i, .int .i64 a, .string c, .string g, .string n, .int .i64 t, .int .i64 u] 73)).cell? ⟨w.heap.size, 6, none⟩ = some (.int .i64 t) ∧ (w6.alloc (.cells #[.int .i64 (added : Int), .int .i64 j, .int .i64 i, .int .i64 a, .string c, .string g, .string n, .int .i64 t, .int .i64 u] 73)).cell? ⟨w.heap.size, 7, none⟩ = some (.int .i64 u)) ∧ ∃ (st : Nat) (w7 : World), (Instr.mapEntry 59 (.map (some b)) (.agg #[.int .i64 k.1, .int .i64 k.2.1, .string k.2.2.1, .int .i64 k.2.2.2.1, .int .i64 k.2.2.2.2])).run Try.prog (w6.alloc (.cells #[.int .i64 (added : Int), .int .i64 j, .int .i64 i, .int .i64 a, .string c, .string g, .string n, .int .i64 t, .int .i64 u] 73)) = .ok (.tuple #[.slice y0 m c0, .int .i64 (st : Int)]) w7 ∧ (w7.cell? ⟨gs, 2, none⟩ = some (.map (some b)) ∧ w7.cell? ⟨gs, 1, none⟩ = some (.int .i64 (added : Int)) ∧ w7.cell? ⟨kb, 0, none⟩ = some (.int .i64 k.1) ∧ w7.cell? ⟨kb, 1, none⟩ = some (.int .i64 k.2.1) ∧ w7.cell? ⟨kb, 2, none⟩ = some (.string k.2.2.1) ∧ w7.cell? ⟨kb, 3, none⟩ = some (.int .i64 k.2.2.2.1) ∧ w7.cell? ⟨kb, 4, none⟩ = some (.int .i64 k.2.2.2.2) ∧ w7.cell? ⟨w.heap.size, 0, none⟩ = some (.int .i64 j) ∧ w7.cell? ⟨w.heap.size, 1, none⟩ = some (.int .i64 i) ∧ w7.cell? ⟨w.heap.size, 2, none⟩ = some (.int .i64 a) ∧ w7.cell? ⟨w.heap.size, 3, none⟩ = some (.string c) ∧ w7.cell? ⟨w.heap.size, 4, none⟩ = some (.string g) ∧ w7.cell? ⟨w.heap.size, 5, none⟩ = some (.string n) ∧ w7.cell? ⟨w.heap.size, 6, none⟩ = some (.int .i64 t) ∧ w7.cell? ⟨w.heap.size, 7, none⟩ = some (.int .i64 u)) ∧
        w7.ownsRow 0 73 9 (.slice y0 m c0) m (tF (T.filter (mt k))) ∧ Row w7 (.slice (some ⟨w6.heap.size, 0, none⟩) 1 1) 1 (tnC ⟨added, (⟨j, i, a, c, g, n, t, u⟩ : Ak)⟩) ∧
        ∀ (v' : Value) (w8 : World), w8.ownsRow 0 73 9 v' (m + 1) (tF (T.filter (mt k)) ++ tnC ⟨added, (⟨j, i, a, c, g, n, t, u⟩ : Ak)⟩) → w7.grownBy w8 (Value.slice y0 m c0).ownBlock → (∀ i, v'.ownBlock = some i → (Value.slice y0 m c0).ownBlock = some i ∨ w7.heap.size ≤ i) →
          (w8.cell? ⟨gs, 2, none⟩ = some (.map (some b)) ∧ w8.cell? ⟨gs, 1, none⟩ = some (.int .i64 (added : Int)) ∧ w8.cell? ⟨kb, 0, none⟩ = some (.int .i64 k.1) ∧ w8.cell? ⟨kb, 1, none⟩ = some (.int .i64 k.2.1) ∧ w8.cell? ⟨kb, 2, none⟩ = some (.string k.2.2.1) ∧ w8.cell? ⟨kb, 3, none⟩ = some (.int .i64 k.2.2.2.1) ∧ w8.cell? ⟨kb, 4, none⟩ = some (.int .i64 k.2.2.2.2) ∧ w8.cell? ⟨w.heap.size, 0, none⟩ = some (.int .i64 j) ∧ w8.cell? ⟨w.heap.size, 1, none⟩ = some (.int .i64 i) ∧ w8.cell? ⟨w.heap.size, 2, none⟩ = some (.int .i64 a) ∧ w8.cell? ⟨w.heap.size, 3, none⟩ = some (.string c) ∧ w8.cell? ⟨w.heap.size, 4, none⟩ = some (.string g) ∧ w8.cell? ⟨w.heap.size, 5, none⟩ = some (.string n) ∧ w8.cell? ⟨w.heap.size, 6, none⟩ = some (.int .i64 t) ∧ w8.cell? ⟨w.heap.size, 7, none⟩ = some (.int .i64 u)) ∧ ∃ w9, (Instr.entryStore 59 (.map (some b)) (.int .i64 (st : Int)) v').run Try.prog w8 = .ok () w9 ∧ (w9.cell? ⟨gs, 2, none⟩ = some (.map (some b)) ∧ w9.cell? ⟨gs, 1, none⟩ = some (.int .i64 (added : Int)) ∧ w9.cell? ⟨kb, 0, none⟩ = some (.int .i64 k.1) ∧ w9.cell? ⟨kb, 1, none⟩ = some (.int .i64 k.2.1) ∧ w9.cell? ⟨kb, 2, none⟩ = some (.string k.2.2.1) ∧ w9.cell? ⟨kb, 3, none⟩ = some (.int .i64 k.2.2.2.1) ∧ w9.cell? ⟨kb, 4, none⟩ = some (.int .i64 k.2.2.2.2) ∧ w9.cell? ⟨w.heap.size, 0, none⟩ = some (.int .i64 j) ∧ w9.cell? ⟨w.heap.size, 1, none⟩ = some (.int .i64 i) ∧ w9.cell? ⟨w.heap.size, 2, none⟩ = some (.int .i64 a) ∧ w9.cell? ⟨w.heap.size, 3, none⟩ = some (.string c) ∧ w9.cell? ⟨w.heap.size, 4, none⟩ = some (.string g) ∧ w9.cell? ⟨w.heap.size, 5, none⟩ = some (.string n) ∧ w9.cell? ⟨w.heap.size, 6, none⟩ = some (.int .i64 t) ∧ w9.cell? ⟨w.heap.size, 7, none⟩ = some (.int .i64 u)) ∧ w9.frozen? ⟨gs, 1, none⟩ = false ∧
            ∃ L', St (w9.setCell ⟨gs, 1, none⟩ (.int .i64 ((added : Int) + 1))) gs most (added + 1) b L' (T ++ [⟨added, (⟨j, i, a, c, g, n, t, u⟩ : Ak)⟩]) ∧ Turn (foot gs b L) w (w9.setCell ⟨gs, 1, none⟩ (.int .i64 ((added : Int) + 1))) ∧ (∀ i, foot gs b L' i → foot gs b L i ∨ w.heap.size ≤ i)) := by
      intro w6 b6
      have bW : Below W.heap.size W w6 := next (Below.refl _ _).drew b6
      have bW2 : Below W.heap.size W (w6.alloc (.cells #[.int .i64 (added : Int), .int .i64 j, .int .i64 i, .int .i64 a, .string c, .string g, .string n, .int .i64 t, .int .i64 u] 73)) := lay bW _
      have bw2 : Below w.heap.size w (w6.alloc (.cells #[.int .i64 (added : Int), .int .i64 j, .int .i64 i, .int .i64 a, .string c, .string g, .string n, .int .i64 t, .int .i64 u] 73)) := next (next B2 DW) bW2
      obtain ⟨st, w7, hrun, ht7, hown7, hst⟩ := hmap _ bw2
      have hwl : w.heap.size ≤ w6.heap.size := Nat.le_trans (next B2 DW).size bW.size
      refine ⟨HX.out w6 (Turn.of_below bW), HX.out _ (Turn.of_below bW2), st, w7, hrun, HX.out w7 ((Turn.of_below bW2).trans ht7 (fun _ e => .inl e)), hown7, ?_, fun v' w8 ho hg hk' => ?_⟩
      · exact Row.of_blk (ht7.blk (Blk.new w6 #[.int .i64 (added : Int), .int .i64 j, .int .i64 i, .int .i64 a, .string c, .string g, .string n, .int .i64 t, .int .i64 u] 73) (fun e => by have := (HFT.out _ e).1; omega)) rfl 1 1
      · obtain ⟨ht8, w9, hrun9, ht9, hend⟩ := hst v' w8 ho hg hk'
        refine ⟨HX.out w8 ((Turn.of_below bW2).trans ht8 (fun _ e => .inl e)), w9, hrun9, HX.out w9 ((Turn.of_below bW2).trans ht9 (fun _ e => .inl e)), ?_, hend⟩
        have hsW := HST.out.below bw2
        exact (ht9.blk hsW.blk (fun e => (HFT.out gs e).2 rfl)).frozen 1
    have s5 := HX.out W.drew (Turn.of_below (Below.refl _ _).drew)
    clear hmap HX KW GE DW K2 B2 HP D2 D3 c2 c3 c4)
  all_goals go_wp2
  all_goals (go_region_held_law (fun q => q.cell? ⟨gs, 2, none⟩ = some (.map (some b)) ∧ q.cell? ⟨gs, 1, none⟩ = some (.int .i64 (added : Int)) ∧ q.cell? ⟨kb, 0, none⟩ = some (.int .i64 k.1) ∧ q.cell? ⟨kb, 1, none⟩ = some (.int .i64 k.2.1) ∧ q.cell? ⟨kb, 2, none⟩ = some (.string k.2.2.1) ∧ q.cell? ⟨kb, 3, none⟩ = some (.int .i64 k.2.2.2.1) ∧ q.cell? ⟨kb, 4, none⟩ = some (.int .i64 k.2.2.2.2) ∧ q.cell? ⟨w.heap.size, 0, none⟩ = some (.int .i64 j) ∧ q.cell? ⟨w.heap.size, 1, none⟩ = some (.int .i64 i) ∧ q.cell? ⟨w.heap.size, 2, none⟩ = some (.int .i64 a) ∧ q.cell? ⟨w.heap.size, 3, none⟩ = some (.string c) ∧ q.cell? ⟨w.heap.size, 4, none⟩ = some (.string g) ∧ q.cell? ⟨w.heap.size, 5, none⟩ = some (.string n) ∧ q.cell? ⟨w.heap.size, 6, none⟩ = some (.int .i64 t) ∧ q.cell? ⟨w.heap.size, 7, none⟩ = some (.int .i64 u)) (first | with_reducible exact s5 | with_reducible exact s6 | with_reducible exact s6' | with_reducible exact s7 | with_reducible exact s8 | with_reducible exact s9) (first
    | (go_at_call 27; go_must (refine (hcp _).mono ?_); rintro e w6 ⟨rfl, b6⟩; obtain ⟨s6, s6', st, w7, hrun7, s7, hown7, hrow7, hst⟩ := HMP.out w6 b6; clear b6)
    | (refine step_appG _ (by rfl) (.tmp 30) (.tmp 38) 70 73 i0 _ 9 96 Try.underlying70 hi hz0 hz1 hz2 rfl (by decide) (by rfl) 0 (.slice y0 m c0) m (tF (T.filter (mt k))) (by rfl) hown7 _ 1 (tnC ⟨added, (⟨j, i, a, c, g, n, t, u⟩ : Ak)⟩) (by rfl) hrow7 rfl (by rw [← tF_single]; exact tF_one _) (by omega) (by unfold maxLen; omega) (Nat.zero_le _) ?_; intro v8 w8 h1 h3 h4; obtain ⟨y8, c8, rfl⟩ := row_shape h1; obtain ⟨s8, w9, hrun9, s9, hfz9, hend⟩ := hst _ w8 h1 h3 h4; clear h1 h3 h4 hst hown7 hrow7)))
  all_goals (obtain ⟨-, e1, -⟩ := s9)
  all_goals go_wp2
  all_goals go_ret
  all_goals exact ⟨rfl, hend⟩

end Ou
end Go.Proofs.Ytbldoplemfjcjaa
