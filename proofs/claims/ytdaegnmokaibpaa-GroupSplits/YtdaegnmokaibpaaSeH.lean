/- What Rrs gives: a set's records, in the row of its texts. -/
import Derived.Test.YtdaegnmokaibpaaSeD
namespace Go.Proofs.Ytdaegnmokaibpaa
open Go.RowKit
open Pl

theorem rC_set (rs : List Rc) (k : Nat) (q : Rc) (_hk : k < rs.length) : (((((rC rs).set (k * 5) (.string q.n)).set (k * 5 + 1) (.int .i64 q.t)).set (k * 5 + 2) (.int .i64 q.c)).set (k * 5 + 3) (.int .i64 q.l)).set (k * 5 + 4) (.string q.d) = rC (rs.set k q) := by
  apply List.ext_getElem?
  intro j
  have hlen : (rC rs).length = rs.length * 5 := rC_len rs
  by_cases hj : j < rs.length * 5
  · have hd : j / 5 < rs.length := by omega
    have hd' : j / 5 < (rs.set k q).length := by rw [List.length_set]; exact hd
    have e : j / 5 * 5 + j % 5 = j := by omega
    have a1 := rC_at hd' (j % 5) (Nat.mod_lt _ (by decide))
    have a2 := rC_at hd (j % 5) (Nat.mod_lt _ (by decide))
    rw [e] at a1 a2
    rw [a1, List.getElem_set]
    by_cases h4 : j = k * 5 + 4
    · subst h4
      rw [List.getElem?_set_self (by simp only [List.length_set]; rw [hlen]; exact hj), if_pos (by omega), show (k * 5 + 4) % 5 = 4 from by omega]
      rfl
    · rw [List.getElem?_set_ne (fun e => h4 e.symm)]
      by_cases h3 : j = k * 5 + 3
      · subst h3
        rw [List.getElem?_set_self (by simp only [List.length_set]; rw [hlen]; exact hj), if_pos (by omega), show (k * 5 + 3) % 5 = 3 from by omega]
        rfl
      · rw [List.getElem?_set_ne (fun e => h3 e.symm)]
        by_cases h2 : j = k * 5 + 2
        · subst h2
          rw [List.getElem?_set_self (by simp only [List.length_set]; rw [hlen]; exact hj), if_pos (by omega), show (k * 5 + 2) % 5 = 2 from by omega]
          rfl
        · rw [List.getElem?_set_ne (fun e => h2 e.symm)]
          by_cases h1 : j = k * 5 + 1
          · subst h1
            rw [List.getElem?_set_self (by simp only [List.length_set]; rw [hlen]; exact hj), if_pos (by omega), show (k * 5 + 1) % 5 = 1 from by omega]
            rfl
          · rw [List.getElem?_set_ne (fun e => h1 e.symm)]
            by_cases h0 : j = k * 5
            · subst h0
              rw [List.getElem?_set_self (by rw [hlen]; exact hj), if_pos (by omega), show (k * 5) % 5 = 0 from by omega]
              rfl
            · rw [List.getElem?_set_ne (fun e => h0 e.symm), a2, if_neg (by omega)]
  · rw [List.getElem?_eq_none (by simp only [List.length_set]; rw [hlen]; omega), List.getElem?_eq_none (by rw [rC_len, List.length_set]; omega)]
/-- Five cells of a row are set. -/
def put5at (w : World) (g k : Nat) (a b c d e : Value) : World := ((((w.setCell ⟨g, k * 5, none⟩ a).setCell ⟨g, k * 5 + 1, none⟩ b).setCell ⟨g, k * 5 + 2, none⟩ c).setCell ⟨g, k * 5 + 3, none⟩ d).setCell ⟨g, k * 5 + 4, none⟩ e
theorem put5at_turn (w : World) (g k : Nat) (a b c d e : Value) : Turn (fun i => i = g) w (put5at w g k a b c d e) := by
  have T : ∀ (u : World) (i : Nat) (v : Value), Turn (fun k => k = g) u (u.setCell ⟨g, i, none⟩ v) := fun u i v => Turn.of_set (S := fun k => k = g) u (p := ⟨g, i, none⟩) rfl v
  exact ((((T _ _ _).same (T _ _ _)).same (T _ _ _)).same (T _ _ _)).same (T _ _ _)
/-- A set's records. -/
def rrsOf (n : ByteArray) (t l : Int) (ds : List ByteArray) : List Rc := ds.map (fun d => ⟨n, t, 1, l, d⟩)
theorem rrsOf_len (n : ByteArray) (t l : Int) (ds : List ByteArray) : (rrsOf n t l ds).length = ds.length := by simp [rrsOf]
/-- The first k of them, and none. -/
def rrsTo (n : ByteArray) (t l : Int) (ds : List ByteArray) (k : Nat) : List Rc := (rrsOf n t l ds).take k ++ List.replicate (ds.length - k) ⟨⟨#[]⟩, 0, 0, 0, ⟨#[]⟩⟩
theorem rrsTo_len {n : ByteArray} {t l : Int} {ds : List ByteArray} {k : Nat} (h : k ≤ ds.length) : (rrsTo n t l ds k).length = ds.length := by
  unfold rrsTo; rw [List.length_append, List.length_take, rrsOf_len, List.length_replicate]; omega
theorem rrsTo_set {n : ByteArray} {t l : Int} {ds : List ByteArray} {k : Nat} (h : k < ds.length) : (rrsTo n t l ds k).set k ⟨n, t, 1, l, ds[k]⟩ = rrsTo n t l ds (k + 1) := by
  have hk : k < (rrsOf n t l ds).length := by rw [rrsOf_len]; exact h
  have hl : ((rrsOf n t l ds).take k).length = k := by rw [List.length_take]; omega
  unfold rrsTo
  rw [List.set_append_right _ _ (by omega), hl, Nat.sub_self, show ds.length - k = (ds.length - (k + 1)) + 1 from by omega, List.replicate_succ, List.set_cons_zero, List.take_succ_eq_append_getElem hk, List.append_assoc]
  simp [rrsOf]
theorem rrsTo_all (n : ByteArray) (t l : Int) (ds : List ByteArray) : rrsTo n t l ds ds.length = rrsOf n t l ds := by
  unfold rrsTo; rw [Nat.sub_self, List.take_of_length_le (by rw [rrsOf_len]; exact Nat.le_refl _)]; simp
theorem made5 (n : Nat) : (madeCells (Value.agg #[.string ⟨#[]⟩, .int .i64 0, .int .i64 0, .int .i64 0, .string ⟨#[]⟩]).cells (n * 5)).toList = rC (List.replicate n ⟨⟨#[]⟩, 0, 0, 0, ⟨#[]⟩⟩) := by
  apply List.ext_getElem?
  intro j
  by_cases hj : j < n * 5
  · have hd : j / 5 < (List.replicate n (⟨⟨#[]⟩, 0, 0, 0, ⟨#[]⟩⟩ : Rc)).length := by rw [List.length_replicate]; omega
    have a1 := rC_at hd (j % 5) (Nat.mod_lt _ (by decide))
    rw [show j / 5 * 5 + j % 5 = j from by omega] at a1
    rw [a1, List.getElem_replicate]
    unfold madeCells
    rw [Array.getElem?_toList, Array.getElem?_map, Array.getElem?_range]
    rw [if_pos hj]
    simp only [Option.map_some, Value.cells]
    have h5 : j % 5 = 0 ∨ j % 5 = 1 ∨ j % 5 = 2 ∨ j % 5 = 3 ∨ j % 5 = 4 := by omega
    show some ((#[Value.string ⟨#[]⟩, .int .i64 0, .int .i64 0, .int .i64 0, .string ⟨#[]⟩] : Array Value)[j % 5]!) = _
    rcases h5 with e | e | e | e | e <;> rw [e] <;> rfl
  · rw [List.getElem?_eq_none (by rw [Array.length_toList, size_madeCells]; omega), List.getElem?_eq_none (by rw [rC_len, List.length_replicate]; omega)]

/-- How far Rrs is. -/
structure RL (w0 w : World) (C : Array Value) (gr n k : Nat) (xs : List Rc) : Prop where
  own : w.ownsRow w0.heap.size 43 5 (.slice (some ⟨gr, 0, none⟩) n n) n (rC xs)
  len : xs.length = n
  box : Blk w w0.heap.size C 25
  below : Below w0.heap.size w0 w
theorem RL.past {w0 w w' : World} {C : Array Value} {gr n k : Nat} {xs : List Rc} (h : RL w0 w C gr n k xs) (hb : Below w.heap.size w w') : RL w0 w' C gr n k xs := ⟨own_past h.own hb, h.len, h.box.below hb, next h.below hb⟩
theorem RL.put {w0 w : World} {C : Array Value} {gr n k : Nat} {xs : List Rc} (h : RL w0 w C gr n k xs) (q : Rc) (hk : k < n) : RL w0 (put5at w gr k (.string q.n) (.int .i64 q.t) (.int .i64 q.c) (.int .i64 q.l) (.string q.d)) C gr n (k + 1) (xs.set k q) := by
  have o2 := (((((h.own.stored (k * 5) (.string q.n)).1.stored (k * 5 + 1) (.int .i64 q.t)).1.stored (k * 5 + 2) (.int .i64 q.c)).1.stored (k * 5 + 3) (.int .i64 q.l)).1.stored (k * 5 + 4) (.string q.d)).1
  rw [rC_set xs k q (by rw [h.len]; exact hk)] at o2
  have hg := h.own.lt gr rfl
  have hne := own_sep4 h.own h.box (by decide)
  exact ⟨o2, by rw [List.length_set]; exact h.len, (put5at_turn _ _ _ _ _ _ _ _).blk h.box (fun e => hne (by rw [e]; rfl)), Turn.below h.below (put5at_turn _ _ _ _ _ _ _ _) h.below.size (fun i e => by rw [e]; exact hg.1)⟩
theorem RL.five {w0 w : World} {C : Array Value} {gr n k : Nat} {xs : List Rc} (h : RL w0 w C gr n k xs) (hk : k < n) :
    (∃ a, w.cell? ⟨gr, k * 5, none⟩ = some a) ∧ (∃ a, w.cell? ⟨gr, k * 5 + 1, none⟩ = some a) ∧ (∃ a, w.cell? ⟨gr, k * 5 + 2, none⟩ = some a) ∧ (∃ a, w.cell? ⟨gr, k * 5 + 3, none⟩ = some a) ∧ (∃ a, w.cell? ⟨gr, k * 5 + 4, none⟩ = some a) ∧
    w.frozen? ⟨gr, k * 5, none⟩ = false ∧ w.frozen? ⟨gr, k * 5 + 1, none⟩ = false ∧ w.frozen? ⟨gr, k * 5 + 2, none⟩ = false ∧ w.frozen? ⟨gr, k * 5 + 3, none⟩ = false ∧ w.frozen? ⟨gr, k * 5 + 4, none⟩ = false := by
  have hl := h.len
  refine ⟨?_, ?_, ?_, ?_, ?_, h.own.frozenAt _, h.own.frozenAt _, h.own.frozenAt _, h.own.frozenAt _, h.own.frozenAt _⟩
  · rw [h.own.cellAt _ (by omega)]; exact ⟨_, List.getElem?_eq_getElem (by rw [rC_len]; omega)⟩
  · rw [h.own.cellAt _ (by omega)]; exact ⟨_, List.getElem?_eq_getElem (by rw [rC_len]; omega)⟩
  · rw [h.own.cellAt _ (by omega)]; exact ⟨_, List.getElem?_eq_getElem (by rw [rC_len]; omega)⟩
  · rw [h.own.cellAt _ (by omega)]; exact ⟨_, List.getElem?_eq_getElem (by rw [rC_len]; omega)⟩
  · rw [h.own.cellAt _ (by omega)]; exact ⟨_, List.getElem?_eq_getElem (by rw [rC_len]; omega)⟩

set_option maxRecDepth 20000 in
set_option maxHeartbeats 1000000 in
theorem rrs_any (n : ByteArray) (t l : Int) (v : Value) (ds : List ByteArray) (w : World) (h : Row w v ds.length (tC ds)) (hn : n.size ≤ 140737488355328) (hd : ∀ d ∈ ds, d.size ≤ 140737488355328) (hl : ds.length ≤ 2000000) :
    Calls Try.prog 13 #[.agg #[.string n, .int .i64 t, .int .i64 l, v]] w fun e w' => ∃ (y : Option Addr) (c : Nat), e = .returned (.slice y ds.length c) ∧ w'.ownsRow w.heap.size 43 5 (.slice y ds.length c) ds.length (rC (rrsOf n t l ds)) ∧ Below w.heap.size w w' := by
  obtain ⟨i0, hi, hz0, hz1, hz2⟩ := info_parts infoR'
  obtain ⟨N, hN⟩ : ∃ N, N = ds.length := ⟨_, rfl⟩
  obtain ⟨x, c, hv⟩ := row_slice h
  rw [← hN] at hv hl
  subst hv
  have HN : Hid (N = ds.length) := hN
  have HD : Hid (∀ d ∈ ds, d.size ≤ 140737488355328) := hd
  have HR : Hid (Row w (.slice x N c) ds.length (tC ds)) := h
  have hclone := fun u => clone_far n u hn
  have hmk : ∀ u : World, (Instr.makeSlice 22 (.int .i64 (N : Int)) (.int .i64 (N : Int))).run Try.prog u = .ok (.slice (some ⟨u.heap.size, 0, none⟩) N N) (u.alloc (.cells (madeCells (Value.agg #[.string ⟨#[]⟩, .int .i64 0, .int .i64 0, .int .i64 0, .string ⟨#[]⟩]).cells (N * 5)) 43)) := fun u => by
    have := run_make (P := Try.prog) u 22 43 i0 _ Try.underlying22 hi hz0 .i64 .i64 (N : Int) (N : Int) (by omega) (by omega) (by rw [hz2]; omega) (by omega)
    rw [hz1, Int.toNat_natCast] at this
    exact this
  have HM : Hid ((madeCells (Value.agg #[.string ⟨#[]⟩, .int .i64 0, .int .i64 0, .int .i64 0, .string ⟨#[]⟩]).cells (N * 5)).toList = rC (List.replicate N ⟨⟨#[]⟩, 0, 0, 0, ⟨#[]⟩⟩)) := made5 N
  obtain ⟨M, hM⟩ : ∃ M, M = madeCells (Value.agg #[.string ⟨#[]⟩, .int .i64 0, .int .i64 0, .int .i64 0, .string ⟨#[]⟩]).cells (N * 5) := ⟨_, rfl⟩
  rw [← hM] at HM
  simp only [← hM] at hmk
  rw [← hN]
  clear hM hN h hd
  go_enter Try.func13, Try.ntmps13
  go_wp2_with (go_at_call 35; go_must (refine (hclone _).mono ?_); rintro e w1 ⟨rfl, b1⟩; have HK1 : Hid (Blk w1 w.heap.size #[.string n, .int .i64 t, .int .i64 l, .slice x N c] 25) := (Blk.new w _ _).below b1; have HB1 : Hid (Below w.heap.size w w1) := next (lay (Below.refl _ _) _) b1; have q3 : w1.cell? ⟨w.heap.size, 3, none⟩ = some (.slice x N c) := HK1.out.cell 3; have q4 : (w1.alloc (.cells M 43)).cell? ⟨w.heap.size, 3, none⟩ = some (.slice x N c) := (HK1.out.alloc _).cell 3; clear b1)
  have HS : Hid (RL w (w1.alloc (.cells M 43)) #[.string n, .int .i64 t, .int .i64 l, .slice x N c] w1.heap.size N 0 (rrsTo n t l ds 0)) := by
    have hz : rrsTo n t l ds 0 = List.replicate N ⟨⟨#[]⟩, 0, 0, 0, ⟨#[]⟩⟩ := by unfold rrsTo; rw [HN.out]; simp
    refine ⟨?_, by rw [hz, List.length_replicate], HK1.out.alloc _, lay HB1.out _⟩
    rw [hz]
    exact own_blk (Blk.new w1 M 43) HB1.out.size HM.out (by rw [rC_len, List.length_replicate]) (by unfold maxLen; omega)
  obtain ⟨gr, hgr⟩ : ∃ gr, gr = w1.heap.size := ⟨_, rfl⟩
  rw [← hgr] at HS ⊢
  clear HK1 HB1 q3 q4 hgr hmk HM
  go_loopw [17] (fun i wr => ∃ j : Nat, j ≤ N ∧ i = .int .i64 (j : Int) ∧ Hid (RL w wr #[.string n, .int .i64 t, .int .i64 l, .slice x N c] gr N j (rrsTo n t l ds j))) (fun i _ => N - (intOf i).toNat)
  case atStart => exact ⟨0, Nat.zero_le _, rfl, HS⟩
  case round =>
    clear HS
    obtain ⟨j, hj, rfl, HS⟩ := hrel
    by_cases hjn : j < N
    · have hjm : j < ds.length := by have := HN.out; omega
      have hjn' : (j : Int) < (N : Int) := by omega
      obtain ⟨g', o, cap, hx, hcc⟩ := row_at (HN.out ▸ HR.out.below HS.out.below) (by omega)
      simp only [Value.slice.injEq] at hx
      obtain ⟨rfl, -, rfl⟩ := hx
      have d0 := hcc j _ (tC_at hjm)
      have hcl := fun u => clone_far ds[j] u (HD.out _ (List.getElem_mem hjm))
      have ST : Hid (∀ {u : World}, RL w u #[.string n, .int .i64 t, .int .i64 l, .slice (some ⟨g', o, none⟩) N c] gr N j (rrsTo n t l ds j) → RL w (put5at u gr j (.string n) (.int .i64 t) (.int .i64 1) (.int .i64 l) (.string ds[j])) #[.string n, .int .i64 t, .int .i64 l, .slice (some ⟨g', o, none⟩) N c] gr N (j + 1) (rrsTo n t l ds (j + 1))) := fun h => by
        have := h.put ⟨n, t, 1, l, ds[j]⟩ hjn
        rw [rrsTo_set hjm] at this
        exact this
      obtain ⟨d, hd⟩ : ∃ d, d = ds[j] := ⟨_, rfl⟩
      simp only [← hd] at d0 hcl ST
      have b1 : wr.cell? ⟨w.heap.size, 1, none⟩ = some (.int .i64 t) := HS.out.box.cell 1
      have b2 : wr.cell? ⟨w.heap.size, 2, none⟩ = some (.int .i64 l) := HS.out.box.cell 2
      clear hcc hd
      go_wp2
      go_region_held3 (fun u => u.cell? ⟨w.heap.size, 1, none⟩ = some (.int .i64 t) ∧ u.cell? ⟨w.heap.size, 2, none⟩ = some (.int .i64 l)) (first | (simp only [World.cell?_drew, b1, b2, and_self]; done) | (simp only [e1, e2, and_self]; done) | (exact ⟨p1, p2⟩))
        (first
          | (go_at_call 35; go_must (refine (hcl _).mono ?_); rintro e w2 ⟨rfl, b3⟩; have B3 : Below wr.heap.size wr w2 := next (below_drew ⟨1, rfl⟩) b3; replace HS : Hid (RL w w2 #[.string n, .int .i64 t, .int .i64 l, .slice (some ⟨g', o, none⟩) N c] gr N j (rrsTo n t l ds j)) := HS.out.past B3; have e1 : w2.cell? ⟨w.heap.size, 1, none⟩ = some (.int .i64 t) := HS.out.box.cell 1; have e2 : w2.cell? ⟨w.heap.size, 2, none⟩ = some (.int .i64 l) := HS.out.box.cell 2; obtain ⟨⟨z0, r0⟩, ⟨z1, r1⟩, ⟨z2, r2⟩, ⟨z3, r3⟩, ⟨z4, r4⟩, f0, f1, f2, f3, f4⟩ := HS.out.five hjn; replace HS : Hid (RL w (put5at w2 gr j (.string n) (.int .i64 t) (.int .i64 1) (.int .i64 l) (.string d)) #[.string n, .int .i64 t, .int .i64 l, .slice (some ⟨g', o, none⟩) N c] gr N (j + 1) (rrsTo n t l ds (j + 1))) := ST.out HS.out; have p1 : (put5at w2 gr j (.string n) (.int .i64 t) (.int .i64 1) (.int .i64 l) (.string d)).cell? ⟨w.heap.size, 1, none⟩ = some (.int .i64 t) := HS.out.box.cell 1; have p2 : (put5at w2 gr j (.string n) (.int .i64 t) (.int .i64 1) (.int .i64 l) (.string d)).cell? ⟨w.heap.size, 2, none⟩ = some (.int .i64 l) := HS.out.box.cell 2; clear b3 B3 b1 b2))
      all_goals
        (go_wp2
         go_roundw
         case rel => exact ⟨j + 1, by omega, by go_num, HS⟩
         case measure => simp [intOf]; omega)
    · have hjn' : decide (j < N) = false := by simpa using hjn
      have HE : Hid (rrsTo n t l ds j = rrsOf n t l ds) := by unfold Hid; rw [show j = ds.length from by have := HN.out; omega]; exact rrsTo_all _ _ _ _
      go_wp2
      go_ret
      exact ⟨_, _, rfl, by rw [← HE.out]; exact HS.out.own, HS.out.below⟩

end Go.Proofs.Ytdaegnmokaibpaa
