/- The document's Cuts: what New makes. -/
import Derived.Test.YtnjgdfmldjgloaaGreatXCxC
namespace Go.Proofs.YtnjgdfmldjgloaaGreat
open Go.RowKit
open Pl
namespace Cu

/-- The blocks of a cut of the document's. -/
def rkf (q : RQ) (k : Nat) : Prop := k = q.p ∨ q.hv.ownBlock = some k ∨ q.bv.ownBlock = some k
theorem RkAt.lt {w : World} {q : RQ} {x : Rk} (h : RkAt w q x) : ∀ k, rkf q k → k < w.heap.size := by
  rintro k (rfl | e | e)
  · exact h.blk.lt
  · exact (h.hosts.lt k e).2
  · exact (h.bs.lt k e).2
theorem RkAt.host_app {w w1 w2 : World} {q : RQ} {x : Rk} (h : RkAt w q x) (hb1 : Below w.heap.size w w1) {v' : Value} {f : ByteArray}
    (ow : w2.ownsRow 0 9 1 v' (x.hs.length + 1) (tC x.hs ++ [.string f])) (hg : w1.grownBy w2 q.hv.ownBlock) (hv' : ∀ k, v'.ownBlock = some k → q.hv.ownBlock = some k ∨ w.heap.size ≤ k) (hlen : x.hs.length + 1 ≤ 8) (hf : f.size ≤ 255) :
    RkAt (w2.setCell ⟨q.p, 2, none⟩ v') { q with hv := v' } { x with hs := x.hs ++ [f] } ∧ Turn (rkf q) w (w2.setCell ⟨q.p, 2, none⟩ v') ∧ ∀ k, rkf { q with hv := v' } k → rkf q k ∨ w.heap.size ≤ k := by
  have h1 := h.below hb1
  have t1 : q.hv.ownBlock ≠ some q.p := fun e => absurd (own_tag h1.hosts e h1.blk) (by decide)
  have t2 : q.bv.ownBlock ≠ some q.p := fun e => absurd (own_tag h1.bs e h1.blk) (by decide)
  have T2 : Turn (fun k => q.hv.ownBlock = some k) w1 w2 := Turn.of_grown hg (fun k e => e)
  have T3 : Turn (fun k => k = q.p) w2 (w2.setCell ⟨q.p, 2, none⟩ v') := Turn.of_set (S := fun k => k = q.p) w2 (p := ⟨q.p, 2, none⟩) rfl v'
  have hv'g : ∀ k, v'.ownBlock = some k → k ≠ q.p := fun k hk e => by
    subst e
    exact absurd (own_tag ow hk (T2.blk h1.blk t1)) (by decide)
  refine ⟨⟨?_, ?_, ?_, ?_⟩, ?_, ?_⟩
  · exact (T2.blk h1.blk t1).set 2 v'
  · show (w2.setCell _ _).ownsRow 0 9 1 v' (x.hs ++ [f]).length (tC (x.hs ++ [f]))
    rw [List.length_append, tC_app]
    exact T3.row ow (fun k hk e => hv'g k hk e)
  · exact T3.row (T2.row h1.bs (fun k hk => own_far h1.bs h1.hosts (by decide) k hk)) (fun k hk e => t2 (by rw [hk, e]))
  · refine ⟨h.ok.n, h.ok.f, by rw [List.length_append]; exact hlen, fun y hy => ?_, h.ok.bl, h.ok.bs⟩
    rcases List.mem_append.1 hy with hy | hy
    · exact h.ok.hs y hy
    · simp at hy; subst hy; exact hf
  · exact ((Turn.of_below hb1).trans T2 (fun i e => .inl (.inr (.inl e)))).trans T3 (fun i e => .inl (.inl e))
  · rintro k (e | e | e)
    · exact .inl (.inl e)
    · rcases hv' k e with e | e
      · exact .inl (.inr (.inl e))
      · exact .inr e
    · exact .inl (.inr (.inr e))
theorem RkAt.bind_app {w w1 w2 : World} {q : RQ} {x : Rk} (h : RkAt w q x) (hb1 : Below w.heap.size w w1) {v' : Value} {b : Bn}
    (ow : w2.ownsRow 0 65 5 v' (x.bs.length + 1) (bC x.bs ++ bV b)) (hg : w1.grownBy w2 q.bv.ownBlock) (hv' : ∀ k, v'.ownBlock = some k → q.bv.ownBlock = some k ∨ w.heap.size ≤ k) (hlen : x.bs.length + 1 ≤ 256) (hf : OkB b) :
    RkAt (w2.setCell ⟨q.p, 5, none⟩ v') { q with bv := v' } { x with bs := x.bs ++ [b] } ∧ Turn (fun k => k = q.p ∨ q.bv.ownBlock = some k) w (w2.setCell ⟨q.p, 5, none⟩ v') ∧ ∀ k, v'.ownBlock = some k → q.bv.ownBlock = some k ∨ w.heap.size ≤ k := by
  have h1 := h.below hb1
  have t1 : q.hv.ownBlock ≠ some q.p := fun e => absurd (own_tag h1.hosts e h1.blk) (by decide)
  have t2 : q.bv.ownBlock ≠ some q.p := fun e => absurd (own_tag h1.bs e h1.blk) (by decide)
  have T2 : Turn (fun k => q.bv.ownBlock = some k) w1 w2 := Turn.of_grown hg (fun k e => e)
  have T3 : Turn (fun k => k = q.p) w2 (w2.setCell ⟨q.p, 5, none⟩ v') := Turn.of_set (S := fun k => k = q.p) w2 (p := ⟨q.p, 5, none⟩) rfl v'
  have hv'g : ∀ k, v'.ownBlock = some k → k ≠ q.p := fun k hk e => by
    subst e
    exact absurd (own_tag ow hk (T2.blk h1.blk t2)) (by decide)
  refine ⟨⟨?_, ?_, ?_, ?_⟩, ?_, hv'⟩
  · exact (T2.blk h1.blk t2).set 5 v'
  · exact T3.row (T2.row h1.hosts (fun k hk => own_far h1.hosts h1.bs (by decide) k hk)) (fun k hk e => t1 (by rw [hk, e]))
  · show (w2.setCell _ _).ownsRow 0 65 5 v' (x.bs ++ [b]).length (bC (x.bs ++ [b]))
    rw [List.length_append, bC_app, show bC [b] = bV b by simp [bC]]
    exact T3.row ow (fun k hk e => hv'g k hk e)
  · refine ⟨h.ok.n, h.ok.f, h.ok.hl, h.ok.hs, by rw [List.length_append]; exact hlen, fun y hy => ?_⟩
    rcases List.mem_append.1 hy with hy | hy
    · exact h.ok.bs y hy
    · simp at hy; subst hy; exact hf
  · exact ((Turn.of_below hb1).trans T2 (fun i e => .inl (.inr e))).trans T3 (fun i e => .inl (.inl e))

/-- The document's Cuts. -/
def pC (L : List (Rk × RQ)) : List Value := L.map fun p => .pointer (some ⟨p.2.p, 0, none⟩)
theorem pC_len (L : List (Rk × RQ)) : (pC L).length = L.length := by simp [pC]
theorem pC_app (L M : List (Rk × RQ)) : pC (L ++ M) = pC L ++ pC M := by simp [pC]
theorem pC_at {L : List (Rk × RQ)} {k : Nat} (hk : k < L.length) : (pC L)[k]? = some (.pointer (some ⟨L[k].2.p, 0, none⟩)) := by
  unfold pC; rw [List.getElem?_map, List.getElem?_eq_getElem hk]; rfl
theorem pC_one (L : List (Rk × RQ)) : ∀ u ∈ pC L, u.oneCell' = true := by
  intro u hu
  unfold pC at hu
  obtain ⟨m, _, rfl⟩ := List.mem_map.1 hu
  rfl
def sepR (a b : Rk × RQ) : Prop := a.2.p ≠ b.2.p ∧ ∀ k, a.2.bv.ownBlock = some k → b.2.bv.ownBlock ≠ some k
structure RS (w : World) (gr : Nat) (V : Value) (L : List (Rk × RQ)) : Prop where
  blk : Blk w gr #[V] 72
  all : w.ownsRow 0 67 1 V L.length (pC L)
  cuts : ∀ p ∈ L, RkAt w p.2 p.1
  sep : L.Pairwise sepR
  len : L.length ≤ 129
def rsf (gr : Nat) (V : Value) (L : List (Rk × RQ)) (k : Nat) : Prop := k = gr ∨ V.ownBlock = some k ∨ ∃ p ∈ L, rkf p.2 k
theorem RS.turn {S : Nat → Prop} {w w' : World} {gr : Nat} {V : Value} {L : List (Rk × RQ)} (h : RS w gr V L) (ht : Turn S w w') (hs : ∀ k, rsf gr V L k → ¬ S k) : RS w' gr V L :=
  ⟨ht.blk h.blk (hs _ (.inl rfl)), ht.row h.all (fun k hk => hs k (.inr (.inl hk))), fun p hp => (h.cuts p hp).turn ht (fun k hk => hs k (.inr (.inr ⟨p, hp, hk⟩))), h.sep, h.len⟩
theorem RS.below {w w' : World} {gr : Nat} {V : Value} {L : List (Rk × RQ)} (h : RS w gr V L) (hb : Below w.heap.size w w') : RS w' gr V L := h.turn (Turn.of_below (S := fun _ => False) hb) (fun _ _ => id)
theorem RS.lt {w : World} {gr : Nat} {V : Value} {L : List (Rk × RQ)} (h : RS w gr V L) : ∀ k, rsf gr V L k → k < w.heap.size := by
  rintro k (rfl | e | ⟨p, hp, e⟩)
  · exact h.blk.lt
  · exact (h.all.lt k e).2
  · exact (h.cuts p hp).lt k e
def fstR (L : List (Rk × RQ)) : List Rk := L.map Prod.fst
theorem infoP : (Tryz.prog.info? 67).map (fun i => (i.zero, i.size, i.bytes)) = some (some (.pointer none), 1, 8) := by kernel_rfl

set_option maxRecDepth 20000 in
theorem hintsMay_any (v : Value) (hs : List Hn) (w : World) (hr : Row w v hs.length (hnC hs)) (hl : hs.length ≤ maxLen) (hss : ∀ x ∈ hs, x.h.size ≤ maxLen) (b : Bool) (hb : hintsOk hs = b) :
    Calls Tryz.prog 34 #[v] w fun e w' => e = .returned (.bool b) ∧ Below w.heap.size w w' := by
  obtain ⟨n, hn⟩ : ∃ n, n = hs.length := ⟨_, rfl⟩
  rw [← hn] at hr hl
  unfold maxLen at hl
  have HN : Hid (n = hs.length) := hn
  have HR : Hid (Row w v n (hnC hs)) := hr
  have HSS : Hid (∀ x ∈ hs, x.h.size ≤ maxLen) := hss
  have HP : Hid ((decide (1 ≤ n) && decide (n ≤ 8) && hs.all hnOk) = b) := by unfold Hid; rw [← hb, hn]; rfl
  obtain ⟨x0, c0, rfl⟩ := row_slice hr
  clear hr hn hb hss
  go_enter Tryz.func34, Tryz.ntmps34
  go_wp2
  go_loopw [3] (fun k wr => ∃ j : Nat, j ≤ n ∧ k = .int .i64 (j : Int) ∧ Hid (∀ i (hi : i < hs.length), i < j → hnOk hs[i] = true) ∧ Hid (Below w.heap.size w wr)) (fun k _ => n - (intOf k).toNat)
  case atStart => exact ⟨0, Nat.zero_le _, rfl, fun i _ h => by omega, Below.refl _ _⟩
  case round =>
    obtain ⟨j, hj, rfl, HB, HW⟩ := hrel
    by_cases hjn : j < n
    · have hjn' : (j : Int) < (n : Int) := by omega
      have hju : j < hs.length := by have := HN.out; omega
      obtain ⟨g, o, cap, hx, hc⟩ := row_at (HR.out.below HW.out) (by omega)
      simp only [Value.slice.injEq] at hx
      obtain ⟨rfl, -, rfl⟩ := hx
      obtain ⟨⟨ph, pa⟩, hp⟩ : ∃ p, p = hs[j] := ⟨_, rfl⟩
      have hfl := fun i hi => atHn hju i hi
      rw [← hp] at hfl
      have d0 := hc (j * 2 + 0) _ (hfl 0 (by omega))
      have d1 := hc (j * 2 + 1) _ (hfl 1 (by omega))
      simp only [Nat.add_zero, ← Nat.add_assoc] at d0 d1
      have HD1 : Hid (∀ U, Below wr.heap.size wr U → U.cell? ⟨g, o + j * 2 + 1, none⟩ = some (.int .i64 pa)) := fun U hU => by
        rw [hU.cell (World.block_lt_of_cell? _ _ d1)]; exact d1
      have hpl : ph.size ≤ maxLen := by have := HSS.out _ (List.getElem_mem hju); rw [← hp] at this; exact this
      have HQ : Hid (hnOk hs[j] = (isName ph.data.toList && wideB pa)) := by unfold Hid; rw [← hp]; rfl
      have hmay := fun u => refMay_any ph u hpl
      have hwd := fun u => wideR_any pa u
      have HBAD : Hid (hnOk hs[j] = false → false = b) := fun e => by
        rw [← HP.out, show hs.all hnOk = false from List.all_eq_false.2 ⟨_, List.getElem_mem hju, by rw [e]; simp⟩]
        simp
      clear hc hp hfl d1
      cases h1 : isName ph.data.toList with
      | false =>
        have HF : Hid (false = b) := HBAD.out (by rw [HQ.out, h1]; rfl)
        rw [h1] at hmay
        clear h1 HQ HBAD hwd
        go_wp2_with (go_at_call 69; go_must (refine (hmay _).mono ?_); rintro e w1 ⟨rfl, b1⟩)
        go_ret
        exact ⟨ret_bool HF.out, next HW.out b1⟩
      | true =>
        rw [h1] at hmay
        cases h2 : wideB pa with
        | false =>
          have HF : Hid (false = b) := HBAD.out (by rw [HQ.out, h1, h2]; rfl)
          rw [h2] at hwd
          clear h1 h2 HQ HBAD
          go_wp2_with (first
            | (go_at_call 69; go_must (refine (hmay _).mono ?_); rintro e w1 ⟨rfl, b1⟩; have x1 := HD1.out _ b1)
            | (go_at_call 56; go_must (refine (hwd _).mono ?_); rintro e w' ⟨rfl, hw⟩; obtain rfl := hw.symm))
          go_ret
          exact ⟨ret_bool HF.out, next HW.out b1⟩
        | true =>
          have HB2 : Hid (∀ i (hi : i < hs.length), i < j + 1 → hnOk hs[i] = true) := fun i hi hij => by
            by_cases he : i = j
            · subst he; rw [HQ.out, h1, h2]; rfl
            · exact HB.out i hi (by omega)
          rw [h2] at hwd
          clear h1 h2 HQ HBAD
          go_wp2_with (first
            | (go_at_call 69; go_must (refine (hmay _).mono ?_); rintro e w1 ⟨rfl, b1⟩; have x1 := HD1.out _ b1)
            | (go_at_call 56; go_must (refine (hwd _).mono ?_); rintro e w' ⟨rfl, hw⟩; obtain rfl := hw.symm))
          go_roundw
          case rel => exact ⟨j + 1, by omega, by go_num, HB2, next HW.out b1⟩
          case measure => simp [intOf]; omega
    · have hjn' : decide (j < n) = false := by simpa using hjn
      have HALL : Hid (hs.all hnOk = true) := by
        unfold Hid
        rw [List.all_eq_true]
        intro x hx
        obtain ⟨i, hi, rfl⟩ := List.getElem_of_mem hx
        exact HB.out i hi (by have := HN.out; omega)
      by_cases h1 : 1 ≤ n
      · have h1' : decide (1 ≤ n) = true := by simpa using h1
        by_cases h8 : n ≤ 8
        · have HF : Hid (true = b) := by unfold Hid; rw [← HP.out, HALL.out]; simp [h1, h8]
          have h1i : (1 : Int) ≤ (n : Int) := by omega
          have h8i : (n : Int) ≤ 8 := by omega
          clear h1 h8
          go_wp2
          go_ret
          exact ⟨ret_bool HF.out, HW.out⟩
        · have HF : Hid (false = b) := by unfold Hid; rw [← HP.out, HALL.out]; simp [h8]
          have h1i : (1 : Int) ≤ (n : Int) := by omega
          have h8i : decide ((n : Int) ≤ 8) = false := by simp; omega
          clear h1 h8
          go_wp2
          go_ret
          exact ⟨ret_bool HF.out, HW.out⟩
      · have HF : Hid (false = b) := by unfold Hid; rw [← HP.out]; simp [h1]
        have h1i : decide ((1 : Int) ≤ (n : Int)) = false := by simp; omega
        clear h1
        go_wp2
        go_ret
        exact ⟨ret_bool HF.out, HW.out⟩

theorem newR_no (v : Value) (hs : List Hn) (w : World) (hr : Row w v hs.length (hnC hs)) (hl : hs.length ≤ maxLen) (hss : ∀ x ∈ hs, x.h.size ≤ maxLen) (hb : hintsOk hs = false) :
    Calls Tryz.prog 6 #[v] w fun e w' => e = .returned (.tuple #[.pointer none, .int .i64 1500]) ∧ Below w.heap.size w w' := by
  have hm := hintsMay_any v hs w hr hl hss false hb
  obtain ⟨x0, c0, rfl⟩ := row_slice hr
  clear hr hl hss hb
  go_enter Tryz.func6, Tryz.ntmps6
  go_wp2_with (go_at_call 34; go_must (refine hm.mono ?_); rintro e w1 ⟨rfl, b1⟩)
  go_ret2
  exact ⟨rfl, b1⟩
/-- How far New is. -/
structure NR (w wr : World) (p : Nat) (hv bv : Value) (H : List ByteArray) (B : List Bn) : Prop where
  ct : RkAt wr ⟨p, hv, bv⟩ (rkRt H B)
  bel : Below w.heap.size w wr
  new : ∀ k, rkf ⟨p, hv, bv⟩ k → w.heap.size ≤ k
theorem NR.below {w wr wn : World} {p : Nat} {hv bv : Value} {H : List ByteArray} {B : List Bn} (h : NR w wr p hv bv H B) (hb : Below wr.heap.size wr wn) : NR w wn p hv bv H B := ⟨h.ct.below hb, next h.bel hb, h.new⟩
theorem NR.host {w wr w1 w2 : World} {p : Nat} {hv bv : Value} {H : List ByteArray} {B : List Bn} (h : NR w wr p hv bv H B) (hb1 : Below wr.heap.size wr w1) {v' : Value} {f : ByteArray}
    (ow : w2.ownsRow 0 9 1 v' (H.length + 1) (tC H ++ [.string f])) (hg : w1.grownBy w2 hv.ownBlock) (hv' : ∀ k, v'.ownBlock = some k → hv.ownBlock = some k ∨ wr.heap.size ≤ k) (hlen : H.length + 1 ≤ 8) (hf : f.size ≤ 255) : NR w (w2.setCell ⟨p, 2, none⟩ v') p v' bv (H ++ [f]) B := by
  obtain ⟨r1, r2, r3⟩ := h.ct.host_app hb1 ow hg hv' hlen hf
  refine ⟨r1, Turn.below h.bel r2 h.bel.size h.new, fun k hk => ?_⟩
  rcases r3 k hk with e | e
  · exact h.new k e
  · exact Nat.le_trans h.bel.size e
theorem NR.bind {w wr w1 w2 : World} {p : Nat} {hv bv : Value} {H : List ByteArray} {B : List Bn} (h : NR w wr p hv bv H B) (hb1 : Below wr.heap.size wr w1) {v' : Value} {x : Bn}
    (ow : w2.ownsRow 0 65 5 v' (B.length + 1) (bC B ++ bV x)) (hg : w1.grownBy w2 bv.ownBlock) (hv' : ∀ k, v'.ownBlock = some k → bv.ownBlock = some k ∨ wr.heap.size ≤ k) (hlen : B.length + 1 ≤ 256) (hf : OkB x) : NR w (w2.setCell ⟨p, 5, none⟩ v') p hv v' H (B ++ [x]) := by
  obtain ⟨r1, r2, r3⟩ := h.ct.bind_app hb1 ow hg hv' hlen hf
  refine ⟨r1, Turn.below h.bel r2 h.bel.size (fun i hi => h.new i (hi.imp id .inr)), fun k hk => ?_⟩
  rcases hk with e | e | e
  · exact h.new k (.inl e)
  · exact h.new k (.inr (.inl e))
  · rcases r3 k e with e | e
    · exact h.new k (.inr (.inr e))
    · exact Nat.le_trans h.bel.size e

set_option maxRecDepth 100000 in
set_option maxHeartbeats 4000000 in
theorem newR_yes (v : Value) (hs : List Hn) (w : World) (hr : Row w v hs.length (hnC hs)) (hss : ∀ x ∈ hs, x.h.size ≤ maxLen) (hok : hintsOk hs = true) :
    Calls Tryz.prog 6 #[v] w fun e w' => ∃ gr V q, e = .returned (.tuple #[.pointer (some ⟨gr, 0, none⟩), .int .i64 0]) ∧ RS w' gr V [(rkRt (hostsN hs) (bindsN hs), q)] ∧ (∀ k, rsf gr V [(rkRt (hostsN hs) (bindsN hs), q)] k → w.heap.size ≤ k) ∧ Below w.heap.size w w' := by
  obtain ⟨iB, hiB, hzB0, hzB1, hzB2⟩ := info_parts infoBg
  obtain ⟨i9, hi9, hz90, hz91, hz92⟩ := info_parts info9'
  have hok2 := hok
  unfold hintsOk at hok
  simp only [Bool.and_eq_true, decide_eq_true_eq] at hok
  obtain ⟨⟨hN1, hN8⟩, hall⟩ := hok
  have hm := hintsMay_any v hs w hr (by unfold maxLen; omega) hss true hok2
  have HALL : Hid (∀ x ∈ hs, hnOk x = true) := fun x hx => List.all_eq_true.1 hall x hx
  have HR : Hid (Row w v hs.length (hnC hs)) := hr
  have HSS : Hid (∀ x ∈ hs, x.h.size ≤ maxLen) := hss
  obtain ⟨x0, c0, rfl⟩ := row_slice hr
  obtain ⟨N, hN⟩ : ∃ N, N = hs.length := ⟨_, rfl⟩
  have HN : Hid (N = hs.length) := hN
  rw [← hN] at hm HR hN1 hN8 ⊢
  clear hr hss hN hall hok2
  have HW0 : Hid (∀ w1, Below w.heap.size w w1 → NR w (w1.alloc (.cells #[.string rootB, .string rootB, .slice none 0 0, .int .i64 0, .bool true, .slice none 0 0] 69)) w1.heap.size (.slice none 0 0) (.slice none 0 0) (hostsN (hs.take 0)) (bindsN (hs.take 0))) := fun w1 hb => by
    refine ⟨⟨Blk.new w1 _ _, World.ownsRow_nil _ _ _ _, World.ownsRow_nil _ _ _ _, ⟨(show rootB.size ≤ 255 by decide), (show rootB.size ≤ 255 by decide), by simp [rkRt, hostsN], fun x hx => by simp [rkRt, hostsN] at hx, by simp [rkRt, bindsN], fun x hx => by simp [rkRt, bindsN] at hx⟩⟩, lay hb _, ?_⟩
    rintro k (e | e | e)
    · have e2 : k = w1.heap.size := e
      have := hb.size
      omega
    · simp [Value.ownBlock] at e
    · simp [Value.ownBlock] at e
  go_enter Tryz.func6, Tryz.ntmps6
  go_wp2_with (go_at_call 34; go_must (refine hm.mono ?_); rintro e w1 ⟨rfl, b1⟩; have HX1 := HW0.out w1 b1; clear HW0 b1)
  obtain ⟨p, hp0⟩ : ∃ p, p = w1.heap.size := ⟨_, rfl⟩
  obtain ⟨W0, hW0⟩ : ∃ W, W = w1.alloc (.cells #[.string rootB, .string rootB, .slice none 0 0, .int .i64 0, .bool true, .slice none 0 0] 69) := ⟨_, rfl⟩
  rw [← hW0, ← hp0] at HX1
  unfold rootB at hW0
  rw [← hW0, ← hp0]
  have HS : Hid (NR w W0 p (.slice none 0 0) (.slice none 0 0) (hostsN (hs.take 0)) (bindsN (hs.take 0))) := HX1
  clear hW0 hp0 HX1 hm
  go_loopw [5] (fun k wr => ∃ (j : Nat) (hv bv : Value), j ≤ N ∧ k = .int .i64 (j : Int) ∧ Hid (NR w wr p hv bv (hostsN (hs.take j)) (bindsN (hs.take j)))) (fun k _ => N - (intOf k).toNat)
  case atStart => exact ⟨0, _, _, Nat.zero_le _, rfl, HS⟩
  case round =>
    clear HS
    obtain ⟨j, hv, bv, hj, rfl, HX⟩ := hrel
    by_cases hjn : j < N
    · have hjn' : (j : Int) < (N : Int) := by omega
      have hju : j < hs.length := by have := HN.out; omega
      obtain ⟨g, o, cap, hx, hc⟩ := row_at HR.out (by omega)
      simp only [Value.slice.injEq] at hx
      obtain ⟨rfl, -, rfl⟩ := hx
      obtain ⟨⟨pn, pa⟩, hp⟩ : ∃ p, p = hs[j] := ⟨_, rfl⟩
      have hfl := fun i hi => atHn hju i hi
      rw [← hp] at hfl
      have d0 := hc (j * 2 + 0) _ (hfl 0 (by omega))
      have d1 := hc (j * 2 + 1) _ (hfl 1 (by omega))
      simp only [Nat.add_zero, ← Nat.add_assoc] at d0 d1
      have e0 : wr.cell? ⟨g, o + j * 2, none⟩ = some (.string pn) := by rw [HX.out.bel.cell (World.block_lt_of_cell? _ _ d0)]; exact d0
      have HCELL : Hid (∀ U, Below w.heap.size w U → U.cell? ⟨g, o + j * 2 + 1, none⟩ = some (.int .i64 pa)) := fun U hU => by
        rw [hU.cell (World.block_lt_of_cell? _ _ d1)]; exact d1
      have HQ : Hid ((⟨pn, pa⟩ : Hn) = hs[j]) := hp
      have hpl : pn.size ≤ maxLen := by have := HSS.out _ (List.getElem_mem hju); rw [← hp] at this; exact this
      have hpn : isName pn.data.toList = true := by
        have := HALL.out _ (List.getElem_mem hju)
        rw [← hp] at this
        unfold hnOk at this
        simp only [Bool.and_eq_true] at this
        exact this.1
      obtain ⟨f, hf⟩ : ∃ f, f = fdB pn := ⟨_, rfl⟩
      have HF : Hid (f = fdB pn) := hf
      have HF5 : Hid (f.size ≤ 255) := by unfold Hid; rw [hf]; exact fd_255 hpn
      have hfo := fun u => refFold_any pn u hpl
      rw [show (⟨(foldR pn.data.toList).toArray⟩ : ByteArray) = f from hf.symm] at hfo
      obtain ⟨H, hH⟩ : ∃ H, H = hostsN (hs.take j) := ⟨_, rfl⟩
      have HHL : Hid (H.length ≤ j) := by unfold Hid; rw [hH]; exact hostsN_len hs j
      have HH1 : Hid (hostsN (hs.take (j + 1)) = if 0 ≤ posL H f then H else H ++ [f]) := by
        unfold Hid
        rw [hostsN_take hju, ← hp, ← hH, hf]
        rfl
      rw [← hH] at HX
      obtain ⟨M, hM⟩ : ∃ M, M = H.length := ⟨_, rfl⟩
      have HM : Hid (M = H.length) := hM
      obtain ⟨yh, ch, hvv⟩ := row_shape HX.out.ct.hosts
      have hvv2 : hv = .slice yh M ch := by rw [hM]; exact hvv
      subst hvv2
      have HXX : Hid (NR w wr p (.slice yh M ch) bv H (bindsN (hs.take j))) := HX.out
      have hM8 : M ≤ 8 := by have := HHL.out; omega
      have hM7 : M < 8 := by have := HHL.out; omega
      have HY : Hid (∀ w2, Below wr.heap.size wr w2 → NR w w2 p (.slice yh M ch) bv H (bindsN (hs.take j)) ∧ w2.cell? ⟨p, 2, none⟩ = some (.slice yh M ch)) := fun w2 b2 => by
        have h2 := HXX.out.below b2
        exact ⟨h2, h2.ct.blk.cell 2⟩
      clear hc hfl hp hf hpn hH hM hvv HX d0 d1
      cases hbf : decide (0 ≤ posL H f) with
      | true =>
        have HH2 : Hid (hostsN (hs.take (j + 1)) = H) := by unfold Hid; rw [HH1.out, if_pos (by simpa using hbf)]
        have HBF : Hid (decide (0 ≤ posL H f) = true) := hbf
        clear HH1 hbf
        go_wp2_with (first
          | (go_at_call 35; go_must (refine (hfo _).mono ?_); rintro e w2 ⟨rfl, b2⟩; obtain ⟨hx2, x2⟩ := HY.out w2 b2)
          | (go_at_call 36; have hcon := hasR_any (.slice yh M ch) H f w2 (Row.of_own hx2.ct.hosts) (by rw [← HM.out]; unfold maxLen; omega) true HBF.out; go_must (refine hcon.mono ?_); rintro e w' ⟨rfl, hw⟩; obtain rfl := hw.symm))
        obtain ⟨w5, hw5⟩ : ∃ w5, w5 = w2 := ⟨_, rfl⟩
        rw [← hw5] at hx2 ⊢
        obtain ⟨hv5, hv5e⟩ : ∃ hv5 : Value, hv5 = .slice yh M ch := ⟨_, rfl⟩
        have HX5 : Hid (NR w w5 p hv5 bv (hostsN (hs.take (j + 1))) (bindsN (hs.take j))) := by unfold Hid; rw [HH2.out, hv5e]; exact hx2
        clear hw5 hx2 x2 hv5e HY HXX hfo e0 HBF
        go_wp2
        have c1 : w5.drew.cell? ⟨p, 5, none⟩ = some bv := HX5.out.ct.blk.cell 5
        obtain ⟨yb, cb, rfl⟩ := row_shape HX5.out.ct.bs
        have HLB : Hid ((bindsN (hs.take j)).length = j) := by unfold Hid bindsN; rw [List.length_map, List.length_take]; have := HN.out; omega
        have HX6 : Hid (NR w w5 p hv5 (.slice yb j cb) (hostsN (hs.take (j + 1))) (bindsN (hs.take j))) := by have := HX5.out; unfold rkRt at this; simp only [HLB.out] at this; exact this
        have hlb2 : (rkRt (hostsN (hs.take (j + 1))) (bindsN (hs.take j))).bs.length = j := HLB.out
        rw [hlb2] at c1
        have hto := HX6.out.ct.bs
        rw [hlb2] at hto
        have hXd : Blk (w5.alloc (.cells #[.string rootB, .string f, .int .i64 pa, .string rootB, .int .i64 0] 65)).drew w5.heap.size #[.string rootB, .string f, .int .i64 pa, .string rootB, .int .i64 0] 65 := Blk.new w5 #[.string rootB, .string f, .int .i64 pa, .string rootB, .int .i64 0] 65
        have hbd : Below w5.heap.size w5 (w5.alloc (.cells #[.string rootB, .string f, .int .i64 pa, .string rootB, .int .i64 0] 65)).drew := (lay (Below.refl _ _) _).drew
        have c2 : (w5.alloc (.cells #[.string rootB, .string f, .int .i64 pa, .string rootB, .int .i64 0] 65)).cell? ⟨p, 5, none⟩ = some (.slice yb j cb) := (HX6.out.ct.blk.below hbd).cell 5
        have hto6 := own_past hto hbd
        have HBD : Hid (Below w5.heap.size w5 (w5.alloc (.cells #[.string rootB, .string f, .int .i64 pa, .string rootB, .int .i64 0] 65)).drew) := hbd
        unfold rootB at hXd c2 hto6
        clear hto hbd HX5 hlb2
        refine wp_region_held_drew (S := fun u => Below w.heap.size w u) (by kernel_rfl) (HX6.out.bel.drew) (fun hHeld => ?_)
        refine wpAnyH_take (i := 0) (v := .pointer (some ⟨p, 0, none⟩)) rfl (by kernel_rfl) (by kernel_rfl) (by kernel_rfl) (fun _ _ _ h => h) (Or.inl ⟨by rfl, ?_⟩) hHeld ?_
        · intro u hu
          go_simp
        simp only [Act.put, List.getElem_toArray, List.getElem_cons_zero, List.setIfInBounds_toArray, List.set_cons_zero, List.set_cons_succ]
        refine wpAnyH_take (i := 1) (v := .pointer (some ⟨p, 0, none⟩)) rfl (by kernel_rfl) (by kernel_rfl) (by kernel_rfl) (fun _ _ _ h => h) (Or.inl ⟨by rfl, ?_⟩) hHeld ?_
        · intro u hu
          go_simp
        simp only [Act.put, List.getElem_toArray, List.getElem_cons_succ, List.getElem_cons_zero, List.setIfInBounds_toArray, List.set_cons_zero, List.set_cons_succ]
        refine wpAnyH_take (i := 2) (v := .pointer (some ⟨p, 0, none⟩)) rfl (by kernel_rfl) (by kernel_rfl) (by kernel_rfl) (fun _ _ _ h => h) (Or.inl ⟨by rfl, ?_⟩) hHeld ?_
        · intro u hu
          go_simp
        simp only [Act.put, List.getElem_toArray, List.getElem_cons_succ, List.getElem_cons_zero, List.setIfInBounds_toArray, List.set_cons_zero, List.set_cons_succ]
        refine wpAnyH_take (i := 3) (v := .pointer (some ⟨p, 5, none⟩)) rfl (by kernel_rfl) (by kernel_rfl) (by kernel_rfl) (fun _ _ _ h => h) (Or.inl ⟨by rfl, ?_⟩) hHeld ?_
        · intro u hu
          go_simp
        simp only [Act.put, List.getElem_toArray, List.getElem_cons_succ, List.getElem_cons_zero, List.setIfInBounds_toArray, List.set_cons_zero, List.set_cons_succ]
        refine wpAnyH_take (i := 5) (v := .string f) rfl (by kernel_rfl) (by kernel_rfl) (by kernel_rfl) (fun _ _ _ h => h) (Or.inl ⟨by rfl, ?_⟩) hHeld ?_
        · intro u hu
          go_simp
        simp only [Act.put, List.getElem_toArray, List.getElem_cons_succ, List.getElem_cons_zero, List.setIfInBounds_toArray, List.set_cons_zero, List.set_cons_succ]
        refine wpAnyH_take (i := 6) (v := .slice (some ⟨g, o, none⟩) N c0) rfl (by kernel_rfl) (by kernel_rfl) (by kernel_rfl) (fun _ _ _ h => h) (Or.inl ⟨by rfl, ?_⟩) hHeld ?_
        · intro u hu
          go_simp
        simp only [Act.put, List.getElem_toArray, List.getElem_cons_succ, List.getElem_cons_zero, List.setIfInBounds_toArray, List.set_cons_zero, List.set_cons_succ]
        refine wpAnyH_take (i := 7) (v := .int .i64 (j : Int)) rfl (by kernel_rfl) (by kernel_rfl) (by kernel_rfl) (fun _ _ _ h => h) (Or.inl ⟨by rfl, ?_⟩) hHeld ?_
        · intro u hu
          go_simp
        simp only [Act.put, List.getElem_toArray, List.getElem_cons_succ, List.getElem_cons_zero, List.setIfInBounds_toArray, List.set_cons_zero, List.set_cons_succ]
        refine wpAnyH_take (i := 8) (v := .pointer (some ⟨g, o + j * 2, none⟩)) rfl (by kernel_rfl) (by kernel_rfl) (by kernel_rfl) (fun _ _ _ h => h) (Or.inl ⟨by rfl, ?_⟩) hHeld ?_
        · intro u hu
          go_simp
        simp only [Act.put, List.getElem_toArray, List.getElem_cons_succ, List.getElem_cons_zero, List.setIfInBounds_toArray, List.set_cons_zero, List.set_cons_succ]
        refine wpAnyH_take (i := 9) (v := .pointer (some ⟨g, o + j * 2 + 1, none⟩)) rfl (by kernel_rfl) (by kernel_rfl) (by kernel_rfl) (fun _ _ _ h => h) (Or.inl ⟨by rfl, ?_⟩) hHeld ?_
        · intro u hu
          go_simp
        simp only [Act.put, List.getElem_toArray, List.getElem_cons_succ, List.getElem_cons_zero, List.setIfInBounds_toArray, List.set_cons_zero, List.set_cons_succ]
        refine wpAnyH_take (i := 10) (v := .int .i64 pa) rfl (by kernel_rfl) (by kernel_rfl) (by kernel_rfl) (fun _ _ _ h => h) (Or.inl ⟨by rfl, ?_⟩) hHeld ?_
        · intro u hu
          have a0 := HCELL.out _ hu; clear hu
          go_simp
        simp only [Act.put, List.getElem_toArray, List.getElem_cons_succ, List.getElem_cons_zero, List.setIfInBounds_toArray, List.set_cons_zero, List.set_cons_succ]
        refine wpAnyH_take (i := 11) (v := .agg #[.string ⟨#[0]⟩, .string f, .int .i64 pa, .string ⟨#[0]⟩, .int .i64 0]) rfl (by kernel_rfl) (by kernel_rfl) (by kernel_rfl) (fun _ _ _ h => h) (Or.inl ⟨by rfl, ?_⟩) hHeld ?_
        · intro u hu
          go_simp
        simp only [Act.put, List.getElem_toArray, List.getElem_cons_succ, List.getElem_cons_zero, List.setIfInBounds_toArray, List.set_cons_zero, List.set_cons_succ]
        refine wpAnyH_ready (rs := [4, 12]) (by kernel_rfl) (by simp) ?_
        refine AllReadyH.cons rfl (fun K hK => ?_) (AllReadyH.cons rfl (fun K hK => ?_) AllReadyH.nil)
        · skip
          go_simp
          refine hK.out _ _ hHeld (fun hHeld => ?_)
          clear hK K
          refine wpAnyH_ready (rs := [12]) (by kernel_rfl) (by simp) ?_
          refine AllReadyH.cons rfl (fun K hK => ?_) AllReadyH.nil
          go_simp
          refine hK.out _ _ (lay hHeld _) (fun hHeld => ?_)
          clear hK K
          refine wpAnyH_ready (rs := [13]) (by kernel_rfl) (by simp) ?_
          refine AllReadyH.cons rfl (fun K hK => ?_) AllReadyH.nil
          refine step_appG _ rfl (.tmp 45) (.tmp 53) 37 65 iB _ 5 64 Tryz.underlying37 hiB hzB0 hzB1 hzB2 rfl (by decide) rfl 0 _ j _ rfl hto6 (.slice (some ⟨w5.heap.size, 0, none⟩) 1 1) 1 [.string ⟨#[0]⟩, .string f, .int .i64 pa, .string ⟨#[0]⟩, .int .i64 0] rfl (Row.of_blk hXd rfl 1 1) rfl (by simp [Value.oneCell']) (by omega) (by unfold maxLen; omega) (Nat.zero_le _) ?_
          intro v7 w7 h1 h3 h4
          have hblk7 := (HX6.out.ct.blk.below HBD.out).grown h3 (fun e => absurd (own_tag hto6 e.symm (HX6.out.ct.blk.below HBD.out)) (by decide))
          have q6 : w7.cell? ⟨p, 5, none⟩ = some (.slice yb j cb) := hblk7.cell 5
          have q7 : w7.frozen? ⟨p, 5, none⟩ = false := hblk7.frozen 5
          have hH7 : Below w.heap.size w w7 := (next HX6.out.bel HBD.out).grown h3 (next HX6.out.bel HBD.out).size (fun i e => HX6.out.new i (.inr (.inr e)))
          obtain ⟨y7, c7, rfl⟩ := row_shape h1
          have HA9 : Hid (NR w (w7.setCell ⟨p, 5, none⟩ (.slice y7 (j + 1) c7)) p hv5 (.slice y7 (j + 1) c7) (hostsN (hs.take (j + 1))) (bindsN (hs.take (j + 1)))) := by
            have hst := HX6.out.bind HBD.out (x := hintB ⟨pn, pa⟩) (v' := .slice y7 (j + 1) c7) (w2 := w7) (by rw [HLB.out]; unfold bV hintB; rw [← HF.out]; exact h1) h3 (fun k hk => (h4 k hk).imp id (fun e => Nat.le_trans HBD.out.size e)) (by rw [HLB.out]; omega) (⟨show rootB.size ≤ 255 by decide, by show (fdB pn).size ≤ 255; rw [← HF.out]; exact HF5.out, show rootB.size ≤ 255 by decide⟩)
            unfold Hid
            rw [bindsN_take (by have := HN.out; omega), ← HQ.out]
            exact hst
          have HH9 : Hid (Below w.heap.size w (w7.setCell ⟨p, 5, none⟩ (.slice y7 (j + 1) c7))) := HA9.out.bel
          clear h1 h3 h4 hblk7 hto6
          refine hK.out _ _ hH7 (fun hHeld => ?_)
          clear hK K
          simp only [Act.put, List.getElem_toArray, List.getElem_cons_succ, List.getElem_cons_zero, List.setIfInBounds_toArray, List.set_cons_zero, List.set_cons_succ]
          refine wpAnyH_take (i := 14) (v := .pointer (some ⟨p, 0, none⟩)) rfl (by kernel_rfl) (by kernel_rfl) (by kernel_rfl) (fun _ _ _ h => h) (Or.inl ⟨by rfl, ?_⟩) hHeld ?_
          · intro u hu
            go_simp
          simp only [Act.put, List.getElem_toArray, List.getElem_cons_succ, List.getElem_cons_zero, List.setIfInBounds_toArray, List.set_cons_zero, List.set_cons_succ]
          refine wpAnyH_take (i := 15) (v := .pointer (some ⟨p, 5, none⟩)) rfl (by kernel_rfl) (by kernel_rfl) (by kernel_rfl) (fun _ _ _ h => h) (Or.inl ⟨by rfl, ?_⟩) hHeld ?_
          · intro u hu
            go_simp
          simp only [Act.put, List.getElem_toArray, List.getElem_cons_succ, List.getElem_cons_zero, List.setIfInBounds_toArray, List.set_cons_zero, List.set_cons_succ]
          refine wpAnyH_ready (rs := [16]) (by kernel_rfl) (by simp) ?_
          refine AllReadyH.cons rfl (fun K hK => ?_) AllReadyH.nil
          go_simp
          refine hK.out _ _ HH9.out (fun hHeld => ?_)
          clear hK K
          refine wpAnyH_done (by kernel_rfl) ?_ _
          go_wp2
          go_roundw
          case rel => exact ⟨j + 1, _, _, by omega, by go_num, HA9⟩
          case measure => simp [intOf]; omega
        · skip
          go_simp
          refine hK.out _ _ (lay hHeld _) (fun hHeld => ?_)
          clear hK K
          refine wpAnyH_ready (rs := [4]) (by kernel_rfl) (by simp) ?_
          refine AllReadyH.cons rfl (fun K hK => ?_) AllReadyH.nil
          go_simp
          refine hK.out _ _ hHeld (fun hHeld => ?_)
          clear hK K
          refine wpAnyH_ready (rs := [13]) (by kernel_rfl) (by simp) ?_
          refine AllReadyH.cons rfl (fun K hK => ?_) AllReadyH.nil
          refine step_appG _ rfl (.tmp 45) (.tmp 53) 37 65 iB _ 5 64 Tryz.underlying37 hiB hzB0 hzB1 hzB2 rfl (by decide) rfl 0 _ j _ rfl hto6 (.slice (some ⟨w5.heap.size, 0, none⟩) 1 1) 1 [.string ⟨#[0]⟩, .string f, .int .i64 pa, .string ⟨#[0]⟩, .int .i64 0] rfl (Row.of_blk hXd rfl 1 1) rfl (by simp [Value.oneCell']) (by omega) (by unfold maxLen; omega) (Nat.zero_le _) ?_
          intro v7 w7 h1 h3 h4
          have hblk7 := (HX6.out.ct.blk.below HBD.out).grown h3 (fun e => absurd (own_tag hto6 e.symm (HX6.out.ct.blk.below HBD.out)) (by decide))
          have q6 : w7.cell? ⟨p, 5, none⟩ = some (.slice yb j cb) := hblk7.cell 5
          have q7 : w7.frozen? ⟨p, 5, none⟩ = false := hblk7.frozen 5
          have hH7 : Below w.heap.size w w7 := (next HX6.out.bel HBD.out).grown h3 (next HX6.out.bel HBD.out).size (fun i e => HX6.out.new i (.inr (.inr e)))
          obtain ⟨y7, c7, rfl⟩ := row_shape h1
          have HA9 : Hid (NR w (w7.setCell ⟨p, 5, none⟩ (.slice y7 (j + 1) c7)) p hv5 (.slice y7 (j + 1) c7) (hostsN (hs.take (j + 1))) (bindsN (hs.take (j + 1)))) := by
            have hst := HX6.out.bind HBD.out (x := hintB ⟨pn, pa⟩) (v' := .slice y7 (j + 1) c7) (w2 := w7) (by rw [HLB.out]; unfold bV hintB; rw [← HF.out]; exact h1) h3 (fun k hk => (h4 k hk).imp id (fun e => Nat.le_trans HBD.out.size e)) (by rw [HLB.out]; omega) (⟨show rootB.size ≤ 255 by decide, by show (fdB pn).size ≤ 255; rw [← HF.out]; exact HF5.out, show rootB.size ≤ 255 by decide⟩)
            unfold Hid
            rw [bindsN_take (by have := HN.out; omega), ← HQ.out]
            exact hst
          have HH9 : Hid (Below w.heap.size w (w7.setCell ⟨p, 5, none⟩ (.slice y7 (j + 1) c7))) := HA9.out.bel
          clear h1 h3 h4 hblk7 hto6
          refine hK.out _ _ hH7 (fun hHeld => ?_)
          clear hK K
          simp only [Act.put, List.getElem_toArray, List.getElem_cons_succ, List.getElem_cons_zero, List.setIfInBounds_toArray, List.set_cons_zero, List.set_cons_succ]
          refine wpAnyH_take (i := 14) (v := .pointer (some ⟨p, 0, none⟩)) rfl (by kernel_rfl) (by kernel_rfl) (by kernel_rfl) (fun _ _ _ h => h) (Or.inl ⟨by rfl, ?_⟩) hHeld ?_
          · intro u hu
            go_simp
          simp only [Act.put, List.getElem_toArray, List.getElem_cons_succ, List.getElem_cons_zero, List.setIfInBounds_toArray, List.set_cons_zero, List.set_cons_succ]
          refine wpAnyH_take (i := 15) (v := .pointer (some ⟨p, 5, none⟩)) rfl (by kernel_rfl) (by kernel_rfl) (by kernel_rfl) (fun _ _ _ h => h) (Or.inl ⟨by rfl, ?_⟩) hHeld ?_
          · intro u hu
            go_simp
          simp only [Act.put, List.getElem_toArray, List.getElem_cons_succ, List.getElem_cons_zero, List.setIfInBounds_toArray, List.set_cons_zero, List.set_cons_succ]
          refine wpAnyH_ready (rs := [16]) (by kernel_rfl) (by simp) ?_
          refine AllReadyH.cons rfl (fun K hK => ?_) AllReadyH.nil
          go_simp
          refine hK.out _ _ HH9.out (fun hHeld => ?_)
          clear hK K
          refine wpAnyH_done (by kernel_rfl) ?_ _
          go_wp2
          go_roundw
          case rel => exact ⟨j + 1, _, _, by omega, by go_num, HA9⟩
          case measure => simp [intOf]; omega
      | false =>
        have HH2 : Hid (hostsN (hs.take (j + 1)) = H ++ [f]) := by unfold Hid; rw [HH1.out, if_neg (by simpa using hbf)]
        have HBF : Hid (decide (0 ≤ posL H f) = false) := hbf
        clear HH1 hbf
        go_wp2_with (first
          | (go_at_call 35; go_must (refine (hfo _).mono ?_); rintro e w2 ⟨rfl, b2⟩; obtain ⟨hx2, x2⟩ := HY.out w2 b2; have HX2 : Hid (NR w w2 p (.slice yh M ch) bv H (bindsN (hs.take j))) := hx2)
          | (go_at_call 36; have hcon := hasR_any (.slice yh M ch) H f w2 (Row.of_own hx2.ct.hosts) (by rw [← HM.out]; unfold maxLen; omega) false HBF.out; go_must (refine hcon.mono ?_); rintro e w' ⟨rfl, hw⟩; obtain rfl := hw.symm)
          | (at_builtin; have hto := HX2.out.ct.hosts; rw [show (rkRt H (bindsN (hs.take j))).hs.length = M from HM.out.symm] at hto; have hb9 : Below w2.heap.size w2 (w2.alloc (.cells #[.string f] 9)) := lay (Below.refl _ _) _; refine wpList_appG _ rfl (.tmp 35) (.tmp 37) 36 9 i9 _ 1 16 Tryz.underlying36 hi9 hz90 hz91 hz92 rfl (by decide) rfl 0 _ M (tC H) rfl (own_past hto hb9) (.slice (some ⟨w2.heap.size, 0, none⟩) 1 1) 1 [.string f] rfl (Row.of_blk (Blk.new w2 #[.string f] 9) rfl 1 1) rfl (by simp [Value.oneCell']) (by omega) (by unfold maxLen; omega) (Nat.zero_le _) ?_; intro v7 w7 h1 h3 h4; obtain ⟨y7, c7, rfl⟩ := row_shape h1; have HX9 : Hid (NR w (w7.setCell ⟨p, 2, none⟩ (.slice y7 (M + 1) c7)) p (.slice y7 (M + 1) c7) bv (H ++ [f]) (bindsN (hs.take j))) := HX2.out.host hb9 (by rw [← HM.out]; exact h1) h3 (fun k hk => (h4 k hk).imp id (fun e => Nat.le_trans hb9.size e)) (by rw [← HM.out]; omega) HF5.out; have q2 : w7.cell? ⟨p, 2, none⟩ = some (.slice yh M ch) := ((HX2.out.ct.blk.below hb9).grown h3 (fun e => absurd (own_tag (own_past hto hb9) e.symm (HX2.out.ct.blk.below hb9)) (by decide))).cell 2; have q2f : w7.frozen? ⟨p, 2, none⟩ = false := ((HX2.out.ct.blk.below hb9).grown h3 (fun e => absurd (own_tag (own_past hto hb9) e.symm (HX2.out.ct.blk.below hb9)) (by decide))).frozen 2; clear h1 h3 h4 hto hb9))
        obtain ⟨w5, hw5⟩ : ∃ w5, w5 = w7.setCell ⟨p, 2, none⟩ (.slice y7 (M + 1) c7) := ⟨_, rfl⟩
        obtain ⟨hv5, hv5e⟩ : ∃ hv5 : Value, hv5 = .slice y7 (M + 1) c7 := ⟨_, rfl⟩
        have HX5 : Hid (NR w w5 p hv5 bv (hostsN (hs.take (j + 1))) (bindsN (hs.take j))) := by unfold Hid; rw [HH2.out, hv5e, hw5]; exact HX9.out
        rw [← hw5]
        clear hw5 hx2 x2 hv5e HY HXX hfo e0 HBF q2 q2f HX9 HX2
        go_wp2
        have c1 : w5.drew.cell? ⟨p, 5, none⟩ = some bv := HX5.out.ct.blk.cell 5
        obtain ⟨yb, cb, rfl⟩ := row_shape HX5.out.ct.bs
        have HLB : Hid ((bindsN (hs.take j)).length = j) := by unfold Hid bindsN; rw [List.length_map, List.length_take]; have := HN.out; omega
        have HX6 : Hid (NR w w5 p hv5 (.slice yb j cb) (hostsN (hs.take (j + 1))) (bindsN (hs.take j))) := by have := HX5.out; unfold rkRt at this; simp only [HLB.out] at this; exact this
        have hlb2 : (rkRt (hostsN (hs.take (j + 1))) (bindsN (hs.take j))).bs.length = j := HLB.out
        rw [hlb2] at c1
        have hto := HX6.out.ct.bs
        rw [hlb2] at hto
        have hXd : Blk (w5.alloc (.cells #[.string rootB, .string f, .int .i64 pa, .string rootB, .int .i64 0] 65)).drew w5.heap.size #[.string rootB, .string f, .int .i64 pa, .string rootB, .int .i64 0] 65 := Blk.new w5 #[.string rootB, .string f, .int .i64 pa, .string rootB, .int .i64 0] 65
        have hbd : Below w5.heap.size w5 (w5.alloc (.cells #[.string rootB, .string f, .int .i64 pa, .string rootB, .int .i64 0] 65)).drew := (lay (Below.refl _ _) _).drew
        have c2 : (w5.alloc (.cells #[.string rootB, .string f, .int .i64 pa, .string rootB, .int .i64 0] 65)).cell? ⟨p, 5, none⟩ = some (.slice yb j cb) := (HX6.out.ct.blk.below hbd).cell 5
        have hto6 := own_past hto hbd
        have HBD : Hid (Below w5.heap.size w5 (w5.alloc (.cells #[.string rootB, .string f, .int .i64 pa, .string rootB, .int .i64 0] 65)).drew) := hbd
        unfold rootB at hXd c2 hto6
        clear hto hbd HX5 hlb2
        refine wp_region_held_drew (S := fun u => Below w.heap.size w u) (by kernel_rfl) (HX6.out.bel.drew) (fun hHeld => ?_)
        refine wpAnyH_take (i := 0) (v := .pointer (some ⟨p, 0, none⟩)) rfl (by kernel_rfl) (by kernel_rfl) (by kernel_rfl) (fun _ _ _ h => h) (Or.inl ⟨by rfl, ?_⟩) hHeld ?_
        · intro u hu
          go_simp
        simp only [Act.put, List.getElem_toArray, List.getElem_cons_zero, List.setIfInBounds_toArray, List.set_cons_zero, List.set_cons_succ]
        refine wpAnyH_take (i := 1) (v := .pointer (some ⟨p, 0, none⟩)) rfl (by kernel_rfl) (by kernel_rfl) (by kernel_rfl) (fun _ _ _ h => h) (Or.inl ⟨by rfl, ?_⟩) hHeld ?_
        · intro u hu
          go_simp
        simp only [Act.put, List.getElem_toArray, List.getElem_cons_succ, List.getElem_cons_zero, List.setIfInBounds_toArray, List.set_cons_zero, List.set_cons_succ]
        refine wpAnyH_take (i := 2) (v := .pointer (some ⟨p, 0, none⟩)) rfl (by kernel_rfl) (by kernel_rfl) (by kernel_rfl) (fun _ _ _ h => h) (Or.inl ⟨by rfl, ?_⟩) hHeld ?_
        · intro u hu
          go_simp
        simp only [Act.put, List.getElem_toArray, List.getElem_cons_succ, List.getElem_cons_zero, List.setIfInBounds_toArray, List.set_cons_zero, List.set_cons_succ]
        refine wpAnyH_take (i := 3) (v := .pointer (some ⟨p, 5, none⟩)) rfl (by kernel_rfl) (by kernel_rfl) (by kernel_rfl) (fun _ _ _ h => h) (Or.inl ⟨by rfl, ?_⟩) hHeld ?_
        · intro u hu
          go_simp
        simp only [Act.put, List.getElem_toArray, List.getElem_cons_succ, List.getElem_cons_zero, List.setIfInBounds_toArray, List.set_cons_zero, List.set_cons_succ]
        refine wpAnyH_take (i := 5) (v := .string f) rfl (by kernel_rfl) (by kernel_rfl) (by kernel_rfl) (fun _ _ _ h => h) (Or.inl ⟨by rfl, ?_⟩) hHeld ?_
        · intro u hu
          go_simp
        simp only [Act.put, List.getElem_toArray, List.getElem_cons_succ, List.getElem_cons_zero, List.setIfInBounds_toArray, List.set_cons_zero, List.set_cons_succ]
        refine wpAnyH_take (i := 6) (v := .slice (some ⟨g, o, none⟩) N c0) rfl (by kernel_rfl) (by kernel_rfl) (by kernel_rfl) (fun _ _ _ h => h) (Or.inl ⟨by rfl, ?_⟩) hHeld ?_
        · intro u hu
          go_simp
        simp only [Act.put, List.getElem_toArray, List.getElem_cons_succ, List.getElem_cons_zero, List.setIfInBounds_toArray, List.set_cons_zero, List.set_cons_succ]
        refine wpAnyH_take (i := 7) (v := .int .i64 (j : Int)) rfl (by kernel_rfl) (by kernel_rfl) (by kernel_rfl) (fun _ _ _ h => h) (Or.inl ⟨by rfl, ?_⟩) hHeld ?_
        · intro u hu
          go_simp
        simp only [Act.put, List.getElem_toArray, List.getElem_cons_succ, List.getElem_cons_zero, List.setIfInBounds_toArray, List.set_cons_zero, List.set_cons_succ]
        refine wpAnyH_take (i := 8) (v := .pointer (some ⟨g, o + j * 2, none⟩)) rfl (by kernel_rfl) (by kernel_rfl) (by kernel_rfl) (fun _ _ _ h => h) (Or.inl ⟨by rfl, ?_⟩) hHeld ?_
        · intro u hu
          go_simp
        simp only [Act.put, List.getElem_toArray, List.getElem_cons_succ, List.getElem_cons_zero, List.setIfInBounds_toArray, List.set_cons_zero, List.set_cons_succ]
        refine wpAnyH_take (i := 9) (v := .pointer (some ⟨g, o + j * 2 + 1, none⟩)) rfl (by kernel_rfl) (by kernel_rfl) (by kernel_rfl) (fun _ _ _ h => h) (Or.inl ⟨by rfl, ?_⟩) hHeld ?_
        · intro u hu
          go_simp
        simp only [Act.put, List.getElem_toArray, List.getElem_cons_succ, List.getElem_cons_zero, List.setIfInBounds_toArray, List.set_cons_zero, List.set_cons_succ]
        refine wpAnyH_take (i := 10) (v := .int .i64 pa) rfl (by kernel_rfl) (by kernel_rfl) (by kernel_rfl) (fun _ _ _ h => h) (Or.inl ⟨by rfl, ?_⟩) hHeld ?_
        · intro u hu
          have a0 := HCELL.out _ hu; clear hu
          go_simp
        simp only [Act.put, List.getElem_toArray, List.getElem_cons_succ, List.getElem_cons_zero, List.setIfInBounds_toArray, List.set_cons_zero, List.set_cons_succ]
        refine wpAnyH_take (i := 11) (v := .agg #[.string ⟨#[0]⟩, .string f, .int .i64 pa, .string ⟨#[0]⟩, .int .i64 0]) rfl (by kernel_rfl) (by kernel_rfl) (by kernel_rfl) (fun _ _ _ h => h) (Or.inl ⟨by rfl, ?_⟩) hHeld ?_
        · intro u hu
          go_simp
        simp only [Act.put, List.getElem_toArray, List.getElem_cons_succ, List.getElem_cons_zero, List.setIfInBounds_toArray, List.set_cons_zero, List.set_cons_succ]
        refine wpAnyH_ready (rs := [4, 12]) (by kernel_rfl) (by simp) ?_
        refine AllReadyH.cons rfl (fun K hK => ?_) (AllReadyH.cons rfl (fun K hK => ?_) AllReadyH.nil)
        · skip
          go_simp
          refine hK.out _ _ hHeld (fun hHeld => ?_)
          clear hK K
          refine wpAnyH_ready (rs := [12]) (by kernel_rfl) (by simp) ?_
          refine AllReadyH.cons rfl (fun K hK => ?_) AllReadyH.nil
          go_simp
          refine hK.out _ _ (lay hHeld _) (fun hHeld => ?_)
          clear hK K
          refine wpAnyH_ready (rs := [13]) (by kernel_rfl) (by simp) ?_
          refine AllReadyH.cons rfl (fun K hK => ?_) AllReadyH.nil
          refine step_appG _ rfl (.tmp 45) (.tmp 53) 37 65 iB _ 5 64 Tryz.underlying37 hiB hzB0 hzB1 hzB2 rfl (by decide) rfl 0 _ j _ rfl hto6 (.slice (some ⟨w5.heap.size, 0, none⟩) 1 1) 1 [.string ⟨#[0]⟩, .string f, .int .i64 pa, .string ⟨#[0]⟩, .int .i64 0] rfl (Row.of_blk hXd rfl 1 1) rfl (by simp [Value.oneCell']) (by omega) (by unfold maxLen; omega) (Nat.zero_le _) ?_
          intro v7 w7 h1 h3 h4
          have hblk7 := (HX6.out.ct.blk.below HBD.out).grown h3 (fun e => absurd (own_tag hto6 e.symm (HX6.out.ct.blk.below HBD.out)) (by decide))
          have q6 : w7.cell? ⟨p, 5, none⟩ = some (.slice yb j cb) := hblk7.cell 5
          have q7 : w7.frozen? ⟨p, 5, none⟩ = false := hblk7.frozen 5
          have hH7 : Below w.heap.size w w7 := (next HX6.out.bel HBD.out).grown h3 (next HX6.out.bel HBD.out).size (fun i e => HX6.out.new i (.inr (.inr e)))
          obtain ⟨y7, c7, rfl⟩ := row_shape h1
          have HA9 : Hid (NR w (w7.setCell ⟨p, 5, none⟩ (.slice y7 (j + 1) c7)) p hv5 (.slice y7 (j + 1) c7) (hostsN (hs.take (j + 1))) (bindsN (hs.take (j + 1)))) := by
            have hst := HX6.out.bind HBD.out (x := hintB ⟨pn, pa⟩) (v' := .slice y7 (j + 1) c7) (w2 := w7) (by rw [HLB.out]; unfold bV hintB; rw [← HF.out]; exact h1) h3 (fun k hk => (h4 k hk).imp id (fun e => Nat.le_trans HBD.out.size e)) (by rw [HLB.out]; omega) (⟨show rootB.size ≤ 255 by decide, by show (fdB pn).size ≤ 255; rw [← HF.out]; exact HF5.out, show rootB.size ≤ 255 by decide⟩)
            unfold Hid
            rw [bindsN_take (by have := HN.out; omega), ← HQ.out]
            exact hst
          have HH9 : Hid (Below w.heap.size w (w7.setCell ⟨p, 5, none⟩ (.slice y7 (j + 1) c7))) := HA9.out.bel
          clear h1 h3 h4 hblk7 hto6
          refine hK.out _ _ hH7 (fun hHeld => ?_)
          clear hK K
          simp only [Act.put, List.getElem_toArray, List.getElem_cons_succ, List.getElem_cons_zero, List.setIfInBounds_toArray, List.set_cons_zero, List.set_cons_succ]
          refine wpAnyH_take (i := 14) (v := .pointer (some ⟨p, 0, none⟩)) rfl (by kernel_rfl) (by kernel_rfl) (by kernel_rfl) (fun _ _ _ h => h) (Or.inl ⟨by rfl, ?_⟩) hHeld ?_
          · intro u hu
            go_simp
          simp only [Act.put, List.getElem_toArray, List.getElem_cons_succ, List.getElem_cons_zero, List.setIfInBounds_toArray, List.set_cons_zero, List.set_cons_succ]
          refine wpAnyH_take (i := 15) (v := .pointer (some ⟨p, 5, none⟩)) rfl (by kernel_rfl) (by kernel_rfl) (by kernel_rfl) (fun _ _ _ h => h) (Or.inl ⟨by rfl, ?_⟩) hHeld ?_
          · intro u hu
            go_simp
          simp only [Act.put, List.getElem_toArray, List.getElem_cons_succ, List.getElem_cons_zero, List.setIfInBounds_toArray, List.set_cons_zero, List.set_cons_succ]
          refine wpAnyH_ready (rs := [16]) (by kernel_rfl) (by simp) ?_
          refine AllReadyH.cons rfl (fun K hK => ?_) AllReadyH.nil
          go_simp
          refine hK.out _ _ HH9.out (fun hHeld => ?_)
          clear hK K
          refine wpAnyH_done (by kernel_rfl) ?_ _
          go_wp2
          go_roundw
          case rel => exact ⟨j + 1, _, _, by omega, by go_num, HA9⟩
          case measure => simp [intOf]; omega
        · skip
          go_simp
          refine hK.out _ _ (lay hHeld _) (fun hHeld => ?_)
          clear hK K
          refine wpAnyH_ready (rs := [4]) (by kernel_rfl) (by simp) ?_
          refine AllReadyH.cons rfl (fun K hK => ?_) AllReadyH.nil
          go_simp
          refine hK.out _ _ hHeld (fun hHeld => ?_)
          clear hK K
          refine wpAnyH_ready (rs := [13]) (by kernel_rfl) (by simp) ?_
          refine AllReadyH.cons rfl (fun K hK => ?_) AllReadyH.nil
          refine step_appG _ rfl (.tmp 45) (.tmp 53) 37 65 iB _ 5 64 Tryz.underlying37 hiB hzB0 hzB1 hzB2 rfl (by decide) rfl 0 _ j _ rfl hto6 (.slice (some ⟨w5.heap.size, 0, none⟩) 1 1) 1 [.string ⟨#[0]⟩, .string f, .int .i64 pa, .string ⟨#[0]⟩, .int .i64 0] rfl (Row.of_blk hXd rfl 1 1) rfl (by simp [Value.oneCell']) (by omega) (by unfold maxLen; omega) (Nat.zero_le _) ?_
          intro v7 w7 h1 h3 h4
          have hblk7 := (HX6.out.ct.blk.below HBD.out).grown h3 (fun e => absurd (own_tag hto6 e.symm (HX6.out.ct.blk.below HBD.out)) (by decide))
          have q6 : w7.cell? ⟨p, 5, none⟩ = some (.slice yb j cb) := hblk7.cell 5
          have q7 : w7.frozen? ⟨p, 5, none⟩ = false := hblk7.frozen 5
          have hH7 : Below w.heap.size w w7 := (next HX6.out.bel HBD.out).grown h3 (next HX6.out.bel HBD.out).size (fun i e => HX6.out.new i (.inr (.inr e)))
          obtain ⟨y7, c7, rfl⟩ := row_shape h1
          have HA9 : Hid (NR w (w7.setCell ⟨p, 5, none⟩ (.slice y7 (j + 1) c7)) p hv5 (.slice y7 (j + 1) c7) (hostsN (hs.take (j + 1))) (bindsN (hs.take (j + 1)))) := by
            have hst := HX6.out.bind HBD.out (x := hintB ⟨pn, pa⟩) (v' := .slice y7 (j + 1) c7) (w2 := w7) (by rw [HLB.out]; unfold bV hintB; rw [← HF.out]; exact h1) h3 (fun k hk => (h4 k hk).imp id (fun e => Nat.le_trans HBD.out.size e)) (by rw [HLB.out]; omega) (⟨show rootB.size ≤ 255 by decide, by show (fdB pn).size ≤ 255; rw [← HF.out]; exact HF5.out, show rootB.size ≤ 255 by decide⟩)
            unfold Hid
            rw [bindsN_take (by have := HN.out; omega), ← HQ.out]
            exact hst
          have HH9 : Hid (Below w.heap.size w (w7.setCell ⟨p, 5, none⟩ (.slice y7 (j + 1) c7))) := HA9.out.bel
          clear h1 h3 h4 hblk7 hto6
          refine hK.out _ _ hH7 (fun hHeld => ?_)
          clear hK K
          simp only [Act.put, List.getElem_toArray, List.getElem_cons_succ, List.getElem_cons_zero, List.setIfInBounds_toArray, List.set_cons_zero, List.set_cons_succ]
          refine wpAnyH_take (i := 14) (v := .pointer (some ⟨p, 0, none⟩)) rfl (by kernel_rfl) (by kernel_rfl) (by kernel_rfl) (fun _ _ _ h => h) (Or.inl ⟨by rfl, ?_⟩) hHeld ?_
          · intro u hu
            go_simp
          simp only [Act.put, List.getElem_toArray, List.getElem_cons_succ, List.getElem_cons_zero, List.setIfInBounds_toArray, List.set_cons_zero, List.set_cons_succ]
          refine wpAnyH_take (i := 15) (v := .pointer (some ⟨p, 5, none⟩)) rfl (by kernel_rfl) (by kernel_rfl) (by kernel_rfl) (fun _ _ _ h => h) (Or.inl ⟨by rfl, ?_⟩) hHeld ?_
          · intro u hu
            go_simp
          simp only [Act.put, List.getElem_toArray, List.getElem_cons_succ, List.getElem_cons_zero, List.setIfInBounds_toArray, List.set_cons_zero, List.set_cons_succ]
          refine wpAnyH_ready (rs := [16]) (by kernel_rfl) (by simp) ?_
          refine AllReadyH.cons rfl (fun K hK => ?_) AllReadyH.nil
          go_simp
          refine hK.out _ _ HH9.out (fun hHeld => ?_)
          clear hK K
          refine wpAnyH_done (by kernel_rfl) ?_ _
          go_wp2
          go_roundw
          case rel => exact ⟨j + 1, _, _, by omega, by go_num, HA9⟩
          case measure => simp [intOf]; omega
    · have hjn' : decide (j < N) = false := by simpa using hjn
      have hjN : j = N := by omega
      have HFIN : Hid (∀ (W : World), W = (wr.alloc (.cells #[.pointer (some ⟨p, 0, none⟩)] 67)).alloc (.cells #[.slice (some ⟨wr.heap.size, 0, none⟩) 1 1] 72) → RS W (wr.heap.size + 1) (.slice (some ⟨wr.heap.size, 0, none⟩) 1 1) [(rkRt (hostsN hs) (bindsN hs), ⟨p, hv, bv⟩)] ∧ (∀ k, rsf (wr.heap.size + 1) (.slice (some ⟨wr.heap.size, 0, none⟩) 1 1) [(rkRt (hostsN hs) (bindsN hs), ⟨p, hv, bv⟩)] k → w.heap.size ≤ k) ∧ Below w.heap.size w W) := by
        rintro W rfl
        have ht : hs.take j = hs := List.take_of_length_le (by have := HN.out; omega)
        have hx := HX.out
        rw [ht] at hx
        have hz : (wr.alloc (.cells #[.pointer (some ⟨p, 0, none⟩)] 67)).heap.size = wr.heap.size + 1 := by simp
        have b1 : Below wr.heap.size wr (wr.alloc (.cells #[.pointer (some ⟨p, 0, none⟩)] 67)) := lay (Below.refl _ _) _
        have b2 : Below wr.heap.size wr ((wr.alloc (.cells #[.pointer (some ⟨p, 0, none⟩)] 67)).alloc (.cells #[.slice (some ⟨wr.heap.size, 0, none⟩) 1 1] 72)) := lay b1 _
        have k1 := (Blk.new wr #[.pointer (some ⟨p, 0, none⟩)] 67).alloc (.cells #[.slice (some ⟨wr.heap.size, 0, none⟩) 1 1] 72)
        have k2 := Blk.new (wr.alloc (.cells #[.pointer (some ⟨p, 0, none⟩)] 67)) #[.slice (some ⟨wr.heap.size, 0, none⟩) 1 1] 72
        rw [hz] at k2
        refine ⟨⟨k2, own_blk (B := 0) (z := 1) (n := 1) k1 (Nat.zero_le _) rfl rfl (by decide), fun q hq => ?_, List.pairwise_singleton _ _, by simp⟩, ?_, next hx.bel b2⟩
        · simp at hq
          subst hq
          exact hx.ct.below b2
        · have hsz := hx.bel.size
          rintro k (e | e | ⟨q, hq, e⟩)
          · omega
          · simp [Value.ownBlock] at e
            omega
          · simp at hq
            subst hq
            exact hx.new k e
      clear hjn hj HX
      go_wp2
      go_ret2
      exact ⟨_, _, ⟨p, hv, bv⟩, rfl, HFIN.out _ rfl⟩

end Cu
end Go.Proofs.YtnjgdfmldjgloaaGreat
