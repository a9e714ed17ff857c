/- What Put of package opt gives. -/
import Derived.Test.YtcapankhobnfeaaXP7
import Derived.Lib.AppendZeros
import Derived.Laws.EntriesVeiled
import Derived.Test.YtcapankhobnfeaaXP1
import Derived.Test.YtcapankhobnfeaaXP6
namespace Go.Proofs.Ytcapankhobnfeaa
open Go.RowKit

theorem Blk.past {w W w' : World} {g : Nat} {C : Array Value} {t : TypeId} (h : Blk w g C t) (hb : Below W.heap.size W w') (e : W.heap = w.heap) : Blk w' g C t := by
  have h' : Blk W g C t := by unfold Blk at h ⊢; rw [e]; exact h
  exact h'.below hb
theorem next_drew {w b W c : World} (h : Below w.heap.size w b) (k : Below W.heap.size W c) (e : W = b.drewN 1) : Below w.heap.size w c := by
  subst e; exact next (next h (below_drew ⟨1, rfl⟩)) k
theorem cell_far {w : World} {g b : Nat} (h : g ≠ b) (i j : Nat) (v : Value) : (w.setCell ⟨b, i, none⟩ v).cell? ⟨g, j, none⟩ = w.cell? ⟨g, j, none⟩ :=
  World.cell?_setCell_other _ _ _ _ (fun e => h (congrArg Addr.block e).symm)

/-- What Put gives, as a value. -/
def putOV (o : Ot) : Value := .tuple #[.agg (rrC (putO o)), .int .i64 (putE o)]
theorem putOV_no {o : Ot} (h : mayOt o = false) : putOV o = .tuple #[.agg (rrC rcZ), .int .i64 800] := by unfold putOV putO putE; rw [h]; rfl
theorem putOV_yes {o : Ot} (h : mayOt o = true) : putOV o = .tuple #[.agg (rrC ⟨rootB, 41, o.s, ttlO o, ⟨(osB o.os).toArray⟩⟩), .int .i64 0] := by unfold putOV putO putE; rw [h]; rfl
/-- The blocks of Put: the argument, the answer. -/
theorem put_blks (w : World) (o : Ot) (v : Value) : Blk ((w.alloc (.cells (optC o v) 50)).alloc (.cells (rrC rcZ) 54)) w.heap.size (optC o v) 50 ∧ Blk ((w.alloc (.cells (optC o v) 50)).alloc (.cells (rrC rcZ) 54)) (w.heap.size + 1) (rrC rcZ) 54 ∧ Below w.heap.size w ((w.alloc (.cells (optC o v) 50)).alloc (.cells (rrC rcZ) 54)) := by
  have h2 := Blk.new (w.alloc (.cells (optC o v) 50)) (rrC rcZ) 54
  rw [show (w.alloc (.cells (optC o v) 50)).heap.size = w.heap.size + 1 from by simp] at h2
  exact ⟨(Blk.new w (optC o v) 50).alloc _, h2, lay (lay (Below.refl _ _) _) _⟩

set_option maxRecDepth 20000 in
set_option maxHeartbeats 1000000 in
theorem optPut_any (o : Ot) (v : Value) (w : World) (hr : ORow w v o.os) :
    Calls Try.prog 68 #[.agg (optC o v)] w fun e w' => e = .returned (putOV o) ∧ Below w.heap.size w w' := by
  obtain ⟨KA, KB, hb⟩ := put_blks w o v
  obtain ⟨x, c, hv⟩ := row_slice hr.1
  obtain ⟨n, hn⟩ : ∃ n, n = o.os.length := ⟨_, rfl⟩
  rw [← hn] at hv
  subst hv
  have K1 := fun u => mayFields_any o (.slice x n c) u
  have K2 : ∀ u, Hid (Below w.heap.size w u) → Calls Try.prog 86 #[.slice x n c] u fun e w' => e = .returned (.bool (mayOs o.os)) ∧ Below u.heap.size u w' := fun u hu => mayOptions_any _ o.os u (hr.below hu.out)
  have K3 : ∀ u, Hid (Below w.heap.size w u) → Hid (mayOs o.os = true) → Calls Try.prog 88 #[.slice x n c] u fun e w' => e = .returned (.string ⟨(osB o.os).toArray⟩) ∧ Below u.heap.size u w' := fun u hu hm => putOptions_any _ o.os u (hr.below hu.out) (mayOs_iff.1 hm.out).2
  have K4 : Hid (mayFl o = true) → ∀ u, Calls Try.prog 87 #[.agg (optC o (.slice x n c))] u fun e w' => e = .returned (.int .u32 (ttlO o)) ∧ Below u.heap.size u w' := fun h u => joinO_any o _ u h.out
  clear hr hn
  cases h1 : mayFl o with
  | false =>
    have HR : Hid (putOV o = .tuple #[.agg (rrC rcZ), .int .i64 800]) := putOV_no (by unfold mayOt; rw [h1]; rfl)
    obtain ⟨s, e, vv, bb, z, os⟩ := o
    rw [h1] at K1
    clear K2 K3 K4 h1
    unfold optC at *
    simp only at *
    go_enter Try.func68, Try.ntmps68
    go_wp2_with (go_at_call 85; go_must (refine (K1 _).mono ?_); rintro e w1 ⟨rfl, b1⟩; replace KB := KB.below b1; replace hb := next hb b1; obtain ⟨f0, f1, f2, f3, f4⟩ := KB.five; obtain ⟨e0, e1, e2, e3, e4⟩ := KB.open5; clear b1)
    have q := set5_blk (r := rcZ) KB
    have qb := set5_below hb (Nat.le_succ _) hb.size rcZ
    change bodyPost Try.prog Try.f68 _ _ _ (set5 w1 (w.heap.size + 1) rcZ)
    revert q qb
    generalize set5 w1 (w.heap.size + 1) rcZ = W
    intro q qb
    obtain ⟨q0, q1, q2, q3, q4⟩ := q.five
    refine bodyPost_ret (v := .tuple #[.agg (rrC rcZ), .int .i64 800]) (by simp [results, Try.results68, go_sem, q0, q1, q2, q3, q4, rrC]) rfl ⟨by rw [HR.out], qb⟩
  | true =>
    have H1 : Hid (mayFl o = true) := h1
    replace K4 := K4 H1
    rw [h1] at K1
    clear h1
    cases h2 : mayOs o.os with
    | false =>
      have HR : Hid (putOV o = .tuple #[.agg (rrC rcZ), .int .i64 800]) := putOV_no (by unfold mayOt; rw [h2, Bool.and_false])
      obtain ⟨s, e, vv, bb, z, os⟩ := o
      simp only at h2
      rw [h2] at K2
      clear K3 K4 h2 H1
      unfold optC at *
      simp only at *
      go_enter Try.func68, Try.ntmps68
      go_wp2_with (first
        | (go_at_call 85; go_must (refine (K1 _).mono ?_); rintro e w1 ⟨rfl, b1⟩; replace KA := KA.below b1; replace KB := KB.below b1; replace hb := next hb b1; have d5 : w1.cell? ⟨w.heap.size, 5, none⟩ = some (.slice x n c) := KA.cell 5; clear b1)
        | (go_at_call 86; go_must (refine (K2 _ hb).mono ?_); rintro e w2 ⟨rfl, b1⟩; replace KB := KB.below b1; replace hb := next hb b1; obtain ⟨f0, f1, f2, f3, f4⟩ := KB.five; obtain ⟨e0, e1, e2, e3, e4⟩ := KB.open5; clear b1))
      have q := set5_blk (r := rcZ) KB
      have qb := set5_below hb (Nat.le_succ _) hb.size rcZ
      change bodyPost Try.prog Try.f68 _ _ _ (set5 w2 (w.heap.size + 1) rcZ)
      revert q qb
      generalize set5 w2 (w.heap.size + 1) rcZ = W
      intro q qb
      obtain ⟨q0, q1, q2, q3, q4⟩ := q.five
      refine bodyPost_ret (v := .tuple #[.agg (rrC rcZ), .int .i64 800]) (by simp [results, Try.results68, go_sem, q0, q1, q2, q3, q4, rrC]) rfl ⟨by rw [HR.out], qb⟩
    | true =>
      have HR : Hid (putOV o = .tuple #[.agg (rrC ⟨rootB, 41, o.s, ttlO o, ⟨(osB o.os).toArray⟩⟩), .int .i64 0]) := putOV_yes (by unfold mayOt; rw [H1.out, h2]; rfl)
      have H2 : Hid (mayOs o.os = true) := h2
      have ht := ttl_lt H1.out
      obtain ⟨s, e, vv, bb, z, os⟩ := o
      simp only at h2
      rw [h2] at K2
      obtain ⟨T, hT⟩ : ∃ T, T = ttlO ⟨s, e, vv, bb, z, os⟩ := ⟨_, rfl⟩
      rw [← hT] at K4 HR ht
      obtain ⟨D, hD⟩ : ∃ D : ByteArray, D = ⟨(osB os).toArray⟩ := ⟨_, rfl⟩
      simp only [← hD] at K3 HR
      replace K3 := fun u hu => K3 u hu H2
      clear h2 H1 hT hD H2
      unfold optC at *
      simp only at *
      go_enter Try.func68, Try.ntmps68
      go_wp2_with (first
        | (go_at_call 85; go_must (refine (K1 _).mono ?_); rintro e w1 ⟨rfl, b1⟩; replace KA := KA.below b1; replace KB := KB.below b1; replace hb := next hb b1; have d5 : w1.cell? ⟨w.heap.size, 5, none⟩ = some (.slice x n c) := KA.cell 5; clear b1)
        | (go_at_call 86; go_must (refine (K2 _ hb).mono ?_); rintro e w2 ⟨rfl, b1⟩; replace KA := KA.below b1; replace KB := KB.below b1; replace hb := next hb b1; clear b1 d5))
      obtain ⟨c0, c1, c2, c3, c4, c5⟩ := Blk.six (o := ⟨s, e, vv, bb, z, os⟩) KA
      simp only at c0 c1 c2 c3 c4 c5
      go_region_held3 (fun w' => w'.cell? ⟨w.heap.size, 0, none⟩ = some (.int .i64 s) ∧ w'.cell? ⟨w.heap.size, 1, none⟩ = some (.int .i64 e) ∧ w'.cell? ⟨w.heap.size, 2, none⟩ = some (.int .i64 vv) ∧ w'.cell? ⟨w.heap.size, 3, none⟩ = some (.bool bb) ∧ w'.cell? ⟨w.heap.size, 4, none⟩ = some (.int .i64 z) ∧ w'.cell? ⟨w.heap.size, 5, none⟩ = some (.slice x n c))
        (first | (simp only [World.cell?_drew, c0, c1, c2, c3, c4, c5, and_self]; done) | (simp only [a0, a1, a2, a3, a4, a5, and_self]; done) | (simp only [cell_far hne, b0, b1, b2, b3, b4, b5, and_self]; done) | (simp only [b0, b1, b2, b3, b4, b5, and_self]; done))
        (first
          | (go_at_call 87; refine (K4 _).mono ?_; rintro e w3 ⟨rfl, bb3⟩; have KA3 := KA.past bb3 rfl; have KB3 := KB.past bb3 rfl; have hb3 := next_drew hb bb3 rfl; obtain ⟨a0, a1, a2, a3, a4, a5⟩ := Blk.six (o := ⟨s, e, vv, bb, z, os⟩) KA3; clear bb3)
          | (go_at_call 88; refine (K3 _ hb3).mono ?_; rintro e w4 ⟨rfl, bb4⟩; have KA4 := KA3.below bb4; have KB4 := KB3.below bb4; have hb4 := next hb3 bb4; obtain ⟨b0, b1, b2, b3, b4, b5⟩ := Blk.six (o := ⟨s, e, vv, bb, z, os⟩) KA4; obtain ⟨f0, f1, f2, f3, f4⟩ := KB4.five; obtain ⟨e0, e1, e2, e3, e4⟩ := KB4.open5; have hne : w.heap.size ≠ w.heap.size + 1 := Nat.ne_of_lt (Nat.lt_succ_self _); clear bb4))
      have wT : IntKind.i64.wrap T = T := by rw [IntKind.wrap_i64]; omega
      simp only [wT]
      have q := set5_blk (r := ⟨rootB, 41, s, T, D⟩) KB4
      have qb := set5_below hb4 (Nat.le_succ _) hb4.size ⟨rootB, 41, s, T, D⟩
      change Exit.then _ _ _ _ (set5 w4 (w.heap.size + 1) ⟨rootB, 41, s, T, D⟩)
      revert q qb
      generalize set5 w4 (w.heap.size + 1) ⟨rootB, 41, s, T, D⟩ = W
      intro q qb
      obtain ⟨q0, q1, q2, q3, q4⟩ := q.five
      go_wp2
      refine bodyPost_ret (v := .tuple #[.agg (rrC ⟨rootB, 41, s, T, D⟩), .int .i64 0]) (by simp [results, Try.results68, go_sem, q0, q1, q2, q3, q4, rrC]) rfl ⟨by rw [HR.out], qb⟩

end Go.Proofs.Ytcapankhobnfeaa

/- What slices.Grow and slices.Concat give of rows of records. -/
namespace Go.Proofs.Ytcapankhobnfeaa
open Go.RowKit
open Pl

set_option maxRecDepth 20000 in
theorem grow_any (n : Nat) (w : World) (h0 : 0 < n) (hn : n ≤ 1000) :
    Calls Try.prog 89 #[.slice none 0 0, .int .i64 (n : Int)] w fun e w' => ∃ c, e = .returned (.slice (some ⟨w.heap.size, 0, none⟩) 0 c) ∧ w'.ownsRow w.heap.size 54 5 (.slice (some ⟨w.heap.size, 0, none⟩) 0 c) 0 [] ∧ Below w.heap.size w w' := by
  obtain ⟨i0, hi, hz0, hz1, hz2⟩ := info_parts infoR'
  have hr := fun ty => Lib.run_append_nil_zeros (P := Try.prog) w 27 3 ty 54 i0 _ .i64 .i64 Try.underlying27 Try.underlying3 hi hz0 n h0 (by omega) (by omega) (by rw [hz2]; omega)
  obtain ⟨c, hc⟩ : ∃ c, c = grownCap w n 0 54 := ⟨_, rfl⟩
  have hcm : c ≤ maxLen := by rw [hc]; exact grownCap_le_maxLen _ _ _ _ (small100 (by omega))
  have hcn : n ≤ c := by rw [hc]; exact grownCap_ge _ _ _ _
  rw [← hc] at hr
  obtain ⟨C, hC⟩ : ∃ C, C = Builtin.zeroCells (Value.agg #[.string ⟨#[]⟩, .int .i64 0, .int .i64 0, .int .i64 0, .string ⟨#[]⟩]).cells n ++ Builtin.zeroCells (Value.agg #[.string ⟨#[]⟩, .int .i64 0, .int .i64 0, .int .i64 0, .string ⟨#[]⟩]).cells (c - n) := ⟨_, rfl⟩
  have hCs : C.size = c * 5 := by
    rw [hC, Array.size_append, size_zeroCells, size_zeroCells, show (Value.agg #[.string ⟨#[]⟩, .int .i64 0, .int .i64 0, .int .i64 0, .string ⟨#[]⟩]).cells.size = 5 from rfl]
    omega
  rw [← hC] at hr
  have own := World.ownsRow_made (base := w.heap.size) (e := 54) (size := 5) w.drew C c (Nat.le_refl _) hcm hCs
  have hb : Below w.heap.size w (w.drew.alloc (.cells C 54)) := lay (below_drew ⟨1, rfl⟩) _
  clear hC hCs hcm hc
  go_enter Try.func89, Try.ntmps89
  go_wp2_with (at_builtin; refine Lib.wpList_append_run _ rfl _ _ _ _ rfl _ _ rfl rfl _ _ (hr _) ?_)
  go_ret
  exact ⟨c, rfl, own, hb⟩

set_option maxRecDepth 20000 in
set_option maxHeartbeats 1000000 in
theorem concat_any (g : Nat) (v u : Value) (a b : List Rc) (w : World) (hg : Blk w g #[v, u] 27) (ha : Row w v a.length (rC a)) (hu : Row w u b.length (rC b)) (h0 : 0 < a.length + b.length) (hn : a.length + b.length ≤ 1000) :
    Calls Try.prog 69 #[.slice (some ⟨g, 0, none⟩) 2 2] w fun e w' => ∃ y c, e = .returned (.slice y (a.length + b.length) c) ∧ w'.ownsRow w.heap.size 54 5 (.slice y (a.length + b.length) c) (a.length + b.length) (rC (a ++ b)) ∧ Below w.heap.size w w' := by
  obtain ⟨i0, hi, hz0, hz1, hz2⟩ := info_parts infoR'
  obtain ⟨n, hna⟩ : ∃ n, n = a.length := ⟨_, rfl⟩
  obtain ⟨m, hmb⟩ : ∃ m, m = b.length := ⟨_, rfl⟩
  obtain ⟨x, c, hv⟩ := row_slice ha
  obtain ⟨x2, c2, hu2⟩ := row_slice hu
  rw [← hna] at hv ha h0 hn ⊢
  rw [← hmb] at hu2 hu h0 hn ⊢
  subst hv hu2
  have HA : Hid (Row w (.slice x n c) n (rC a)) := ha
  have HB : Hid (Row w (.slice x2 m c2) m (rC b)) := hu
  have HG : Hid (Blk w g #[.slice x n c, .slice x2 m c2] 27) := hg
  have HLA : Hid ((rC a).length = n * 5) := by unfold Hid; rw [rC_len, hna]
  have HLB : Hid ((rC b).length = m * 5) := by unfold Hid; rw [rC_len, hmb]
  clear ha hu hg hna hmb
  go_enter Try.func69, Try.ntmps69
  go_wp2
  go_loopw [3, 11] (fun sz i wr => ((i = .int .i64 0 ∧ sz = .int .i64 0) ∨ (i = .int .i64 1 ∧ sz = .int .i64 (n : Int)) ∨ (i = .int .i64 2 ∧ sz = .int .i64 ((n : Int) + (m : Int)))) ∧ Below w.heap.size w wr) (fun _ i _ => 2 - (intOf i).toNat)
  case atStart => exact ⟨.inl ⟨rfl, rfl⟩, Below.refl _ _⟩
  case round =>
    obtain ⟨hk, hb⟩ := hrel
    have KG := HG.out.below hb
    rcases hk with ⟨rfl, rfl⟩ | ⟨rfl, rfl⟩ | ⟨rfl, rfl⟩
    · have d0 : wr.cell? ⟨g, 0, none⟩ = some (.slice x n c) := KG.cell 0
      go_wp2
      go_roundw
      case rel => exact ⟨.inr (.inl ⟨by go_num, by go_num⟩), hb⟩
      case measure => simp [intOf]
    · have d0 : wr.cell? ⟨g, 1, none⟩ = some (.slice x2 m c2) := KG.cell 1
      go_wp2
      go_roundw
      case rel => exact ⟨.inr (.inr ⟨by go_num, by go_num⟩), hb⟩
      case measure => simp [intOf]
    · clear KG
      have hsum : (n : Int) + (m : Int) = ((n + m : Nat) : Int) := by omega
      rw [hsum]
      have KGrow := fun u => grow_any (n + m) u h0 hn
      obtain ⟨N, hN⟩ : ∃ N, N = n + m := ⟨_, rfl⟩
      rw [← hN] at KGrow ⊢
      have HN : Hid (N = n + m) := hN
      clear hN hsum
      go_wp2_with (go_at_call 89; go_must (refine (KGrow _).mono ?_); rintro e w1 ⟨c1, rfl, own1, b1⟩; have OWN1 : Hid (w1.ownsRow w.heap.size 54 5 (.slice (some ⟨wr.heap.size, 0, none⟩) 0 c1) 0 []) := own_base own1 hb.size; replace hb := next hb b1; clear b1 own1)
      go_loopw [6, 27] (fun ov i wq => ∃ (y : Option Addr) (l k : Nat) (xs : List Value), ov = .slice y l k ∧ ((i = .int .i64 0 ∧ 0 = l ∧ [] = xs) ∨ (i = .int .i64 1 ∧ n = l ∧ rC a = xs) ∨ (i = .int .i64 2 ∧ n + m = l ∧ rC (a ++ b) = xs)) ∧ Hid (wq.ownsRow w.heap.size 54 5 (.slice y l k) l xs) ∧ Below w.heap.size w wq) (fun _ i _ => 2 - (intOf i).toNat)
      case atStart => exact ⟨_, _, _, _, rfl, .inl ⟨rfl, rfl, rfl⟩, OWN1, hb⟩
      case round =>
        clear OWN1 hb
        obtain ⟨y, l, k, xs, rfl, hk, OWN, hb⟩ := hrel
        have KG := HG.out.below hb
        rcases hk with ⟨rfl, rfl, rfl⟩ | ⟨rfl, rfl, rfl⟩ | ⟨rfl, rfl, rfl⟩
        · have d0 : wr.cell? ⟨g, 0, none⟩ = some (.slice x n c) := KG.cell 0
          have RA := HA.out.below hb
          go_wp2_with (at_builtin; refine wpList_appG _ rfl (.tmp 31) (.tmp 32) 27 54 i0 _ 5 56 Try.underlying27 hi hz0 hz1 hz2 rfl (by decide) rfl w.heap.size _ 0 [] rfl OWN.out _ n (rC a) rfl RA HLA.out (rC_one a) (by omega) (by unfold maxLen; omega) hb.size ?_; intro v2 w2 h1 h3 _; obtain ⟨y2, k2, rfl⟩ := row_shape h1; have HB2 : Below w.heap.size w w2 := hb.grown h3 hb.size (fun j e => (OWN.out.lt j e).1); rw [Nat.zero_add, List.nil_append] at h1; have OWN2 : Hid (w2.ownsRow w.heap.size 54 5 (.slice y2 n k2) n (rC a)) := h1; clear h1 h3; rw [Nat.zero_add])
          go_roundw
          case rel => exact ⟨_, _, _, _, rfl, .inr (.inl ⟨by go_num, rfl, rfl⟩), OWN2, HB2⟩
          case measure => simp [intOf]
        · have d0 : wr.cell? ⟨g, 1, none⟩ = some (.slice x2 m c2) := KG.cell 1
          have RB := HB.out.below hb
          go_wp2_with (at_builtin; refine wpList_appG _ rfl (.tmp 31) (.tmp 32) 27 54 i0 _ 5 56 Try.underlying27 hi hz0 hz1 hz2 rfl (by decide) rfl w.heap.size _ n (rC a) rfl OWN.out _ m (rC b) rfl RB HLB.out (rC_one b) (by omega) (by unfold maxLen; omega) hb.size ?_; intro v2 w2 h1 h3 _; obtain ⟨y2, k2, rfl⟩ := row_shape h1; have HB2 : Below w.heap.size w w2 := hb.grown h3 hb.size (fun j e => (OWN.out.lt j e).1); rw [← rC_app] at h1; have OWN2 : Hid (w2.ownsRow w.heap.size 54 5 (.slice y2 (n + m) k2) (n + m) (rC (a ++ b))) := h1; clear h1 h3)
          go_roundw
          case rel => exact ⟨_, _, _, _, rfl, .inr (.inr ⟨by go_num, rfl, rfl⟩), OWN2, HB2⟩
          case measure => simp [intOf]
        · go_wp2
          go_ret
          exact ⟨_, _, rfl, OWN.out, hb⟩

end Go.Proofs.Ytcapankhobnfeaa

/- What putOpt, putBare and the closure of padTo give: a message's bytes with an OPT behind it. -/
namespace Go.Proofs.Ytcapankhobnfeaa
open Go.RowKit
open Pl

theorem putO_sizes (o : Ot) : (putO o).n.size ≤ maxLen ∧ (putO o).d.size ≤ maxLen := by
  unfold putO
  by_cases h : mayOt o = true
  · rw [if_pos h]
    unfold mayOt at h
    rw [Bool.and_eq_true] at h
    have := (mayOs_iff.1 h.2).2
    simp only
    exact ⟨small100 (by decide), small100 (by rw [bytes_size]; omega)⟩
  · rw [if_neg h]
    exact ⟨small100 (by decide), small100 (by decide)⟩
theorem setCell_below {w u : World} {g : Nat} (h : Below w.heap.size w u) (hg : w.heap.size ≤ g) (i : Nat) (v : Value) : Below w.heap.size w (u.setCell ⟨g, i, none⟩ v) :=
  h.grown (row := some g) ⟨rfl, rfl, rfl, by simp, fun k _ hk => heap_setCell_other u ⟨g, i, none⟩ k _ (fun e => hk (by simp [e]))⟩ h.size (fun j e => by have := Option.some.inj e; omega)

/-- The blocks that lie ahead of the call of Concat, and what it gives. -/
theorem pre_concat {w w1 : World} {C : Array Value} {x3 : Option Addr} {n3 c3 : Nat} {ar : List Rc} {rn rdd : ByteArray} {rt rcl rl : Int} (hb : Below w.heap.size w w1) (KB : Blk w1 w.heap.size C 29) (h3 : RRow w (.slice x3 n3 c3) ar) (hn : n3 = ar.length) (h64 : ar.length ≤ 64) :
    (Calls Try.prog 69 #[.slice (some ⟨w1.heap.size + 1 + 1, 0, none⟩) 2 2] (((w1.alloc (.cells #[.string rn, .int .i64 rt, .int .i64 rcl, .int .i64 rl, .string rdd] 54)).alloc (.cells #[.string rn, .int .i64 rt, .int .i64 rcl, .int .i64 rl, .string rdd] 54)).alloc (.cells #[.slice x3 n3 c3, .slice (some ⟨w1.heap.size + 1, 0, none⟩) 1 1] 27)) fun e w' => ∃ y c, e = .returned (.slice y (n3 + 1) c) ∧ w'.ownsRow (w.heap.size + 1) 54 5 (.slice y (n3 + 1) c) (n3 + 1) (rC (ar ++ [⟨rn, rt, rcl, rl, rdd⟩])) ∧ Below w.heap.size w w' ∧ Blk w' w.heap.size C 29) := by
  have e1 : (w1.alloc (.cells #[.string rn, .int .i64 rt, .int .i64 rcl, .int .i64 rl, .string rdd] 54)).heap.size = w1.heap.size + 1 := World.size_alloc _ _
  have k1 := Blk.new (w1.alloc (.cells #[.string rn, .int .i64 rt, .int .i64 rcl, .int .i64 rl, .string rdd] 54)) #[.string rn, .int .i64 rt, .int .i64 rcl, .int .i64 rl, .string rdd] 54
  rw [e1] at k1
  have k2 := Blk.new ((w1.alloc (.cells #[.string rn, .int .i64 rt, .int .i64 rcl, .int .i64 rl, .string rdd] 54)).alloc (.cells #[.string rn, .int .i64 rt, .int .i64 rcl, .int .i64 rl, .string rdd] 54)) #[.slice x3 n3 c3, .slice (some ⟨w1.heap.size + 1, 0, none⟩) 1 1] 27
  rw [World.size_alloc, e1] at k2
  have hb2 := lay (lay (lay hb (.cells #[.string rn, .int .i64 rt, .int .i64 rcl, .int .i64 rl, .string rdd] 54)) (.cells #[.string rn, .int .i64 rt, .int .i64 rcl, .int .i64 rl, .string rdd] 54)) (.cells #[.slice x3 n3 c3, .slice (some ⟨w1.heap.size + 1, 0, none⟩) 1 1] 27)
  have h := concat_any (w1.heap.size + 1 + 1) (.slice x3 n3 c3) (.slice (some ⟨w1.heap.size + 1, 0, none⟩) 1 1) ar [⟨rn, rt, rcl, rl, rdd⟩] (((w1.alloc (.cells #[.string rn, .int .i64 rt, .int .i64 rcl, .int .i64 rl, .string rdd] 54)).alloc (.cells #[.string rn, .int .i64 rt, .int .i64 rcl, .int .i64 rl, .string rdd] 54)).alloc (.cells #[.slice x3 n3 c3, .slice (some ⟨w1.heap.size + 1, 0, none⟩) 1 1] 27)) k2 (h3.below hb2).1 (Row.of_blk (k1.alloc _) (by simp [rC, rV]) 1 1) (by simp) (by simp; omega)
  have KB2 : Blk (((w1.alloc (.cells #[.string rn, .int .i64 rt, .int .i64 rcl, .int .i64 rl, .string rdd] 54)).alloc (.cells #[.string rn, .int .i64 rt, .int .i64 rcl, .int .i64 rl, .string rdd] 54)).alloc (.cells #[.slice x3 n3 c3, .slice (some ⟨w1.heap.size + 1, 0, none⟩) 1 1] 27)) w.heap.size C 29 := ((KB.alloc _).alloc _).alloc _
  refine h.mono ?_
  rintro e w' ⟨y, c, rfl, o, b⟩
  rw [show ar.length + ([⟨rn, rt, rcl, rl, rdd⟩] : List Rc).length = n3 + 1 from by rw [hn]; rfl] at o ⊢
  exact ⟨y, c, rfl, own_base o (by have := KB.lt; simp; omega), next hb2 b, KB2.below b⟩
/-- What lies ahead of the call of Put: the message with its new row. -/
theorem pre_put {w w3 : World} {hd : Hd} {v0 v1 v2 v3 : Value} {qs : List Qn} {an ns ar' : List Rc} {y : Option Addr} {n c : Nat} (hb : Below w.heap.size w w3) (KB : Blk w3 w.heap.size (msgC hd v0 v1 v2 v3) 29) (h0 : QRow w v0 qs) (h1 : RRow w v1 an) (h2 : RRow w v2 ns)
    (own : w3.ownsRow (w.heap.size + 1) 54 5 (.slice y n c) n (rC ar')) (hn : n = ar'.length) (hm : ar'.length ≤ 65) (hz : ∀ r ∈ ar', r.n.size ≤ maxLen ∧ r.d.size ≤ maxLen) :
    Blk (w3.setCell ⟨w.heap.size, 12, none⟩ (.slice y n c)) w.heap.size (msgC hd v0 v1 v2 (.slice y n c)) 29 ∧ QRow (w3.setCell ⟨w.heap.size, 12, none⟩ (.slice y n c)) v0 qs ∧ RRow (w3.setCell ⟨w.heap.size, 12, none⟩ (.slice y n c)) v1 an ∧ RRow (w3.setCell ⟨w.heap.size, 12, none⟩ (.slice y n c)) v2 ns ∧ RRow (w3.setCell ⟨w.heap.size, 12, none⟩ (.slice y n c)) (.slice y n c) ar' ∧ Below w.heap.size w (w3.setCell ⟨w.heap.size, 12, none⟩ (.slice y n c)) := by
  have hb2 := setCell_below hb (Nat.le_refl _) 12 (.slice y n c)
  refine ⟨KB.set 12 _, h0.below hb2, h1.below hb2, h2.below hb2, ⟨?_, small100 (by omega), hz⟩, hb2⟩
  have := Row.of_own (row_put (gm := w.heap.size) own (Nat.lt_succ_self _) 12 (.slice y n c))
  rw [hn] at this ⊢
  exact this

set_option maxRecDepth 20000 in
set_option maxHeartbeats 2000000 in
theorem putOpt_any (m : Ms) (os : List On) (v0 v1 v2 v3 v : Value) (T : ByteArray) (E : Int) (w : World) (h0 : QRow w v0 m.qs) (h1 : RRow w v1 m.an) (h2 : RRow w v2 m.ns) (h3 : RRow w v3 m.ar) (ho : ORow w v os) (hn : m.ar.length ≤ 64) (h : putV (withO m os) = .tuple #[.string T, .int .i64 E]) :
    Calls Try.prog 46 #[.agg (msgC m.h v0 v1 v2 v3), v] w fun e w' => e = .returned (.tuple #[.string T, .int .i64 E]) ∧ Below w.heap.size w w' := by
  obtain ⟨x0, c0, rfl⟩ := row_slice h0.1
  obtain ⟨x1, c1, rfl⟩ := row_slice h1.1
  obtain ⟨x2, c2, rfl⟩ := row_slice h2.1
  obtain ⟨x3, c3, rfl⟩ := row_slice h3.1
  obtain ⟨xo, co, rfl⟩ := row_slice ho.1
  have hz := putO_sizes (ot os)
  have K1 : ∀ u, Hid (Below w.heap.size w u) → Calls Try.prog 68 #[.agg (optC (ot os) (.slice xo os.length co))] u fun e w' => e = .returned (putOV (ot os)) ∧ Below u.heap.size u w' := fun u hu => optPut_any (ot os) _ u (ho.below hu.out)
  unfold putOV at K1
  unfold withO at h
  obtain ⟨r, hr⟩ : ∃ r, r = putO (ot os) := ⟨_, rfl⟩
  obtain ⟨E0, hE0⟩ : ∃ E0, E0 = putE (ot os) := ⟨_, rfl⟩
  rw [← hr] at h hz
  rw [← hr, ← hE0] at K1
  clear hr hE0
  unfold ot optC rrC at K1
  simp only at K1
  obtain ⟨n0, hn0⟩ : ∃ n, n = m.qs.length := ⟨_, rfl⟩
  obtain ⟨n1, hn1⟩ : ∃ n, n = m.an.length := ⟨_, rfl⟩
  obtain ⟨n2, hn2⟩ : ∃ n, n = m.ns.length := ⟨_, rfl⟩
  obtain ⟨n3, hn3⟩ : ∃ n, n = m.ar.length := ⟨_, rfl⟩
  obtain ⟨no, hno⟩ : ∃ n, n = os.length := ⟨_, rfl⟩
  simp only [← hn0, ← hn1, ← hn2, ← hn3, ← hno] at h0 h1 h2 h3 K1 ⊢
  have HZ : Hid (r.n.size ≤ maxLen ∧ r.d.size ≤ maxLen) := hz
  have H0 : Hid (QRow w (.slice x0 n0 c0) m.qs) := h0
  have H1 : Hid (RRow w (.slice x1 n1 c1) m.an) := h1
  have H2 : Hid (RRow w (.slice x2 n2 c2) m.ns) := h2
  have H3 : Hid (RRow w (.slice x3 n3 c3) m.ar) := h3
  have HN3 : Hid (n3 = m.ar.length) := hn3
  have HN : Hid (m.ar.length ≤ 64) := hn
  obtain ⟨hd, qs, an, ns, ar⟩ := m
  obtain ⟨id, qr, op, aa, tc, rd, ra, z, rc⟩ := hd
  obtain ⟨rn, rt, rcl, rl, rdd⟩ := r
  have HP : Hid (putV ⟨⟨id, qr, op, aa, tc, rd, ra, z, rc⟩, qs, an, ns, ar ++ [⟨rn, rt, rcl, rl, rdd⟩]⟩ = .tuple #[.string T, .int .i64 E]) := h
  have KB := Blk.new w (msgC ⟨id, qr, op, aa, tc, rd, ra, z, rc⟩ (.slice x0 n0 c0) (.slice x1 n1 c1) (.slice x2 n2 c2) (.slice x3 n3 c3)) 29
  have hb := lay (Below.refl w.heap.size w) (.cells (msgC ⟨id, qr, op, aa, tc, rd, ra, z, rc⟩ (.slice x0 n0 c0) (.slice x1 n1 c1) (.slice x2 n2 c2) (.slice x3 n3 c3)) 29)
  clear h0 h1 h2 h3 ho hn h hn0 hn1 hn2 hn3 hno hz
  simp only at H0 H1 H2 H3 HN HN3 HZ
  have PP : ∀ (w3 : World) (y : Option Addr) (c : Nat), Below w.heap.size w w3 → Blk w3 w.heap.size (msgC ⟨id, qr, op, aa, tc, rd, ra, z, rc⟩ (.slice x0 n0 c0) (.slice x1 n1 c1) (.slice x2 n2 c2) (.slice x3 n3 c3)) 29 → w3.ownsRow (w.heap.size + 1) 54 5 (.slice y (n3 + 1) c) (n3 + 1) (rC (ar ++ [⟨rn, rt, rcl, rl, rdd⟩])) → _ := fun w3 y c b k o => pre_put b k H0.out H1.out H2.out o (by have := HN3.out; simp; exact this) (by have := HN.out; simp; exact this) (fun r hr => by
    rcases List.mem_append.1 hr with hr | hr
    · exact H3.out.2.2 r hr
    · simp at hr; subst hr; exact HZ.out)
  unfold msgC at KB hb PP ⊢
  simp only at KB hb K1 PP ⊢
  go_enter Try.func46, Try.ntmps46
  go_wp2_with (first
    | (go_at_call 68; go_must (refine (K1 _ hb).mono ?_); rintro e w1 ⟨rfl, b1⟩; replace KB := KB.below b1; replace hb := next hb b1; have f12 : (w1.alloc (.cells #[.string rn, .int .i64 rt, .int .i64 rcl, .int .i64 rl, .string rdd] 54)).cell? ⟨w.heap.size, 12, none⟩ = some (.slice x3 n3 c3) := (KB.alloc _).cell 12; clear b1)
    | (go_at_call 69; go_must (refine (pre_concat hb KB H3.out HN3.out HN.out).mono ?_; rintro e w3 ⟨y, c, rfl, own3, b3, KB3⟩; clear f12 KB hb; have o12 : w3.cell? ⟨w.heap.size, 12, none⟩ = some (.slice x3 n3 c3) := KB3.cell 12; have f12 := KB3.frozen 12; obtain ⟨q, r0, r1, r2, r3, hb4⟩ := PP _ _ _ b3 KB3 own3; have R0 : Hid (QRow (w3.setCell ⟨w.heap.size, 12, none⟩ (.slice y (n3 + 1) c)) (.slice x0 n0 c0) qs) := r0; have R1 : Hid (RRow (w3.setCell ⟨w.heap.size, 12, none⟩ (.slice y (n3 + 1) c)) (.slice x1 n1 c1) an) := r1; have R2 : Hid (RRow (w3.setCell ⟨w.heap.size, 12, none⟩ (.slice y (n3 + 1) c)) (.slice x2 n2 c2) ns) := r2; have R3 : Hid (RRow (w3.setCell ⟨w.heap.size, 12, none⟩ (.slice y (n3 + 1) c)) (.slice y (n3 + 1) c) (ar ++ [⟨rn, rt, rcl, rl, rdd⟩])) := r3; obtain ⟨d0, d1, d2, d3, d4, d5, d6, d7, d8, d9, d10, d11, d12⟩ := blk13 (h := ⟨id, qr, op, aa, tc, rd, ra, z, rc⟩) q; simp only at d0 d1 d2 d3 d4 d5 d6 d7 d8; clear r0 r1 r2 r3 own3 b3 KB3 q))
    | (go_at_call 31; go_must (refine (put_h id qr op aa tc rd ra z rc qs an ns (ar ++ [⟨rn, rt, rcl, rl, rdd⟩]) T E _ _ _ _ _ HP.out R0.out R1.out R2.out R3.out).mono ?_); rintro e w5 ⟨rfl, b5⟩; replace hb4 := next hb4 b5))
  go_ret2
  exact ⟨rfl, hb4⟩

end Go.Proofs.Ytcapankhobnfeaa

/- What putBare, padTo and its closure give. -/
namespace Go.Proofs.Ytcapankhobnfeaa
open Go.RowKit
open Pl

/-- What Put gives: the bytes, the error. -/
def pT (m : Ms) : ByteArray := if mayM m = true then (match putSt m with | some st => ⟨st.1.toArray⟩ | none => ⟨#[]⟩) else ⟨#[]⟩
def pE (m : Ms) : Int := if mayM m = true then (match putSt m with | some _ => 0 | none => 701) else 700
theorem putV_as (m : Ms) : putV m = .tuple #[.string (pT m), .int .i64 (pE m)] := by
  unfold putV pT pE stV
  by_cases h : mayM m = true
  · rw [if_pos h, if_pos h, if_pos h]
    cases putSt m <;> rfl
  · rw [if_neg h, if_neg h, if_neg h]
theorem p_yes {m : Ms} (h : pE m = 0) : mayM m = true ∧ (∃ st, putSt m = some st ∧ pT m = ⟨st.1.toArray⟩ ∧ (pT m).size = st.1.length) ∧ getM (pT m) = some m ∧ (pT m).size ≤ 4096 ∧ 12 ≤ (pT m).size := by
  unfold pE at h
  by_cases hm : mayM m = true
  · rw [if_pos hm] at h
    cases hp : putSt m with
    | none => rw [hp] at h; simp at h
    | some st =>
      have e : pT m = ⟨st.1.toArray⟩ := by unfold pT; rw [if_pos hm, hp]
      obtain ⟨h1, h2, h3⟩ := there_back hm hp
      have e2 : (pT m).size = st.1.length := by rw [e, bytes_size]
      exact ⟨hm, ⟨st, rfl, e, e2⟩, by rw [e]; exact h1, by omega, by omega⟩
  · rw [if_neg hm] at h; simp at h
theorem p_no {m : Ms} (h : pE m ≠ 0) : pT m = ⟨#[]⟩ ∧ (pE m = 700 ∧ mayM m = false ∨ pE m = 701 ∧ mayM m = true) := by
  unfold pE at h ⊢
  unfold pT
  by_cases hm : mayM m = true
  · rw [if_pos hm] at h ⊢
    rw [if_pos hm]
    cases hp : putSt m with
    | none => exact ⟨rfl, .inr ⟨rfl, hm⟩⟩
    | some st => rw [hp] at h; simp at h
  · rw [if_neg hm] at h ⊢
    rw [if_neg hm]
    exact ⟨rfl, .inl ⟨rfl, by simpa using hm⟩⟩
theorem p_of {m : Ms} {st : St} (hm : mayM m = true) (hp : putSt m = some st) : pE m = 0 ∧ (pT m).size = st.1.length := by
  unfold pE pT
  rw [if_pos hm, if_pos hm, hp]
  exact ⟨rfl, bytes_size _⟩
theorem p_long {m : Ms} (hm : mayM m = true) (hp : putSt m = none) : pE m = 701 := by
  unfold pE
  rw [if_pos hm, hp]

theorem p_size (m : Ms) : (pT m).size ≤ 4096 := by
  by_cases h : pE m = 0
  · exact (p_yes h).2.2.2.1
  · rw [(p_no h).1]; decide
/-- A message with its padding. -/
def padK (b : Int) (m : Ms) : Nat := (roomI ((pT (withO m [])).size : Int) b).toNat
def qT (b : Int) (m : Ms) : ByteArray := if pE (withO m []) = 0 then pT (withO m (pdO (padK b m))) else ⟨#[]⟩
def qE (b : Int) (m : Ms) : Int := if pE (withO m []) = 0 then pE (withO m (pdO (padK b m))) else pE (withO m [])

theorem q_size (b : Int) (m : Ms) : (qT b m).size ≤ 4096 := by
  unfold qT
  split
  · exact p_size _
  · decide

set_option maxRecDepth 20000 in
theorem putBare_any (m : Ms) (v0 v1 v2 v3 : Value) (T : ByteArray) (E : Int) (w : World) (h0 : QRow w v0 m.qs) (h1 : RRow w v1 m.an) (h2 : RRow w v2 m.ns) (h3 : RRow w v3 m.ar) (hn : m.ar.length ≤ 64) (hT : pT (withO m []) = T) (hE : pE (withO m []) = E) :
    Calls Try.prog 32 #[.agg (msgC m.h v0 v1 v2 v3)] w fun e w' => e = .returned (.tuple #[.string T, .int .i64 E]) ∧ Below w.heap.size w w' := by
  have hp := putV_as (withO m [])
  rw [hT, hE] at hp
  have K : ∀ u, Hid (Below w.heap.size w u) → Calls Try.prog 46 #[.agg (msgC m.h v0 v1 v2 v3), .slice none 0 0] u fun e w' => e = .returned (.tuple #[.string T, .int .i64 E]) ∧ Below u.heap.size u w' := fun u hu =>
    putOpt_any m [] v0 v1 v2 v3 _ T E u (h0.below hu.out) (h1.below hu.out) (h2.below hu.out) (h3.below hu.out) (ORow.nil u) hn hp
  obtain ⟨x0, c0, rfl⟩ := row_slice h0.1
  obtain ⟨x1, c1, rfl⟩ := row_slice h1.1
  obtain ⟨x2, c2, rfl⟩ := row_slice h2.1
  obtain ⟨x3, c3, rfl⟩ := row_slice h3.1
  obtain ⟨hd, qs, an, ns, ar⟩ := m
  obtain ⟨id, qr, op, aa, tc, rd, ra, z, rc⟩ := hd
  have hb := lay (Below.refl w.heap.size w) (.cells (msgC ⟨id, qr, op, aa, tc, rd, ra, z, rc⟩ (.slice x0 qs.length c0) (.slice x1 an.length c1) (.slice x2 ns.length c2) (.slice x3 ar.length c3)) 29)
  clear h0 h1 h2 h3 hn hp hT hE
  unfold msgC at K hb ⊢
  simp only at K hb ⊢
  go_enter Try.func32, Try.ntmps32
  go_wp2_with (go_at_call 46; go_must (refine (K _ hb).mono ?_); rintro e w1 ⟨rfl, b1⟩; replace hb := next hb b1; clear b1)
  go_ret2
  exact ⟨rfl, hb⟩

/-- The function value that padTo gives. -/
def padF (g : Nat) : Value := .func (.func 45) #[] #[.pointer (some ⟨g, 0, none⟩)]
theorem padTo_any (b : Int) (w : World) : Calls Try.prog 25 #[.int .i64 b] w fun e w' => e = .returned (padF w.heap.size) ∧ Blk w' w.heap.size #[.int .i64 b] 3 ∧ Below w.heap.size w w' := by
  have hmf : ∀ (fn : Fn) (first cap : Array Value) (w : World), (Instr.makeFunc fn first cap).run Try.prog w = .ok (.func fn first cap) w := fun _ _ _ _ => rfl
  go_enter Try.func25, Try.ntmps25
  go_wp2
  go_ret
  exact ⟨rfl, Blk.new w _ _, lay (Below.refl _ _) _⟩

/-- What lies ahead of the second call of putOpt. -/
theorem pre_pad {w w1 : World} {hd : Hd} {v0 v1 v2 v3 : Value} {qs : List Qn} {an ns ar : List Rc} {Zc : Array Value} {k : Nat} (hb : Below w.heap.size w w1) (h0 : QRow w v0 qs) (h1 : RRow w v1 an) (h2 : RRow w v2 ns) (h3 : RRow w v3 ar) (hk : k ≤ 100000)
    (hn : ar.length ≤ 64) (T : ByteArray) (E : Int) (hT : pT (withO ⟨hd, qs, an, ns, ar⟩ (pdO k)) = T) (hE : pE (withO ⟨hd, qs, an, ns, ar⟩ (pdO k)) = E) :
    Calls Try.prog 46 #[.agg (msgC hd v0 v1 v2 v3), .slice (some ⟨w1.heap.size + 1, 0, none⟩) 1 1] ((w1.alloc (.cells Zc 5)).alloc (.cells #[.int .i64 12, .string (zerosB k)] 56)) fun e w' => e = .returned (.tuple #[.string T, .int .i64 E]) ∧ Below w.heap.size w w' := by
  have hp := putV_as (withO ⟨hd, qs, an, ns, ar⟩ (pdO k))
  rw [hT, hE] at hp
  have hb2 := lay (lay hb (.cells Zc 5)) (.cells #[.int .i64 12, .string (zerosB k)] 56)
  have kb := Blk.new (w1.alloc (.cells Zc 5)) #[.int .i64 12, .string (zerosB k)] 56
  rw [World.size_alloc] at kb
  have ho : ORow ((w1.alloc (.cells Zc 5)).alloc (.cells #[.int .i64 12, .string (zerosB k)] 56)) (.slice (some ⟨w1.heap.size + 1, 0, none⟩) 1 1) (pdO k) := orow_lit (o := ⟨12, zerosB k⟩) kb (by rw [zerosB_size]; unfold far; omega)
  refine (putOpt_any ⟨hd, qs, an, ns, ar⟩ (pdO k) v0 v1 v2 v3 _ T E _ (h0.below hb2) (h1.below hb2) (h2.below hb2) (h3.below hb2) ho hn hp).mono ?_
  rintro e w' ⟨rfl, b⟩
  exact ⟨rfl, next hb2 b⟩

set_option maxRecDepth 20000 in
set_option maxHeartbeats 1000000 in
theorem pad1_any (m : Ms) (b : Int) (g : Nat) (v0 v1 v2 v3 : Value) (T : ByteArray) (E : Int) (w : World) (h0 : QRow w v0 m.qs) (h1 : RRow w v1 m.an) (h2 : RRow w v2 m.ns) (h3 : RRow w v3 m.ar) (hn : m.ar.length ≤ 64) (hg : Blk w g #[.int .i64 b] 3) (hb1 : 1 ≤ b) (hb2 : b ≤ 1000) (hT : qT b m = T) (hE : qE b m = E) :
    Calls Try.prog 45 #[.agg (msgC m.h v0 v1 v2 v3), .pointer (some ⟨g, 0, none⟩)] w fun e w' => e = .returned (.tuple #[.string T, .int .i64 E]) ∧ Below w.heap.size w w' := by
  obtain ⟨T0, hT0⟩ : ∃ T0, pT (withO m []) = T0 := ⟨_, rfl⟩
  obtain ⟨E0, hE0⟩ : ∃ E0, pE (withO m []) = E0 := ⟨_, rfl⟩
  have K : ∀ u, Hid (Below w.heap.size w u) → Calls Try.prog 32 #[.agg (msgC m.h v0 v1 v2 v3)] u fun e w' => e = .returned (.tuple #[.string T0, .int .i64 E0]) ∧ Below u.heap.size u w' := fun u hu =>
    putBare_any m v0 v1 v2 v3 T0 E0 u (h0.below hu.out) (h1.below hu.out) (h2.below hu.out) (h3.below hu.out) hn hT0 hE0
  have hsz : E0 = 0 → T0.size ≤ 4096 := fun e => by rw [← hT0]; exact (p_yes (hE0.trans e)).2.2.2.1
  unfold qT padK at hT
  unfold qE padK at hE
  rw [hT0, hE0] at hT
  rw [hT0, hE0] at hE
  obtain ⟨x0, c0, rfl⟩ := row_slice h0.1
  obtain ⟨x1, c1, rfl⟩ := row_slice h1.1
  obtain ⟨x2, c2, rfl⟩ := row_slice h2.1
  obtain ⟨x3, c3, rfl⟩ := row_slice h3.1
  have HG : Hid (Blk w g #[.int .i64 b] 3) := hg
  by_cases hz : E0 = 0
  · rw [if_pos hz] at hT hE
    have h4096 := hsz hz
    subst hz
    have hrl := room_lt (s := (T0.size : Int)) hb1
    obtain ⟨k, hk⟩ : ∃ k, k = (roomI (T0.size : Int) b).toNat := ⟨_, rfl⟩
    have hrk : roomI (T0.size : Int) b = (k : Int) := by omega
    rw [← hk] at hT hE
    have hk1 : k ≤ 1000 := by omega
    obtain ⟨Zc, hmk, hcz⟩ := madeN k (by omega)
    have KR := fun u => pdRoom_any (T0.size : Int) b u (by omega) (by omega)
    rw [hrk] at KR
    obtain ⟨hd, qs, an, ns, ar⟩ := m
    have KP : ∀ w1, Hid (Below w.heap.size w w1) → Calls Try.prog 46 #[.agg (msgC hd (.slice x0 qs.length c0) (.slice x1 an.length c1) (.slice x2 ns.length c2) (.slice x3 ar.length c3)), .slice (some ⟨w1.heap.size + 1, 0, none⟩) 1 1] ((w1.alloc (.cells Zc 5)).alloc (.cells #[.int .i64 12, .string (zerosB k)] 56)) fun e w' => e = .returned (.tuple #[.string T, .int .i64 E]) ∧ Below w.heap.size w w' := fun w1 hu => pre_pad hu.out h0 h1 h2 h3 (by omega) hn T E hT hE
    obtain ⟨id, qr, op, aa, tc, rd, ra, z, rc⟩ := hd
    have KB := Blk.new w (msgC ⟨id, qr, op, aa, tc, rd, ra, z, rc⟩ (.slice x0 qs.length c0) (.slice x1 an.length c1) (.slice x2 ns.length c2) (.slice x3 ar.length c3)) 29
    have hb := lay (Below.refl w.heap.size w) (.cells (msgC ⟨id, qr, op, aa, tc, rd, ra, z, rc⟩ (.slice x0 qs.length c0) (.slice x1 an.length c1) (.slice x2 ns.length c2) (.slice x3 ar.length c3)) 29)
    obtain ⟨ZZ, hZZ⟩ : ∃ ZZ, ZZ = zerosB k := ⟨_, rfl⟩
    rw [← hZZ] at hcz KP
    clear h0 h1 h2 h3 hn hT hE hT0 hE0 hsz hg hk hrk hrl hZZ
    unfold msgC at K KP KB hb ⊢
    simp only at K KP KB hb ⊢
    go_enter Try.func45, Try.ntmps45
    go_wp2_with (first
      | (go_at_call 32; go_must (refine (K _ hb).mono ?_); rintro e w1 ⟨rfl, b1⟩; replace KB := KB.below b1; replace hb := next hb b1; have g0 : w1.cell? ⟨g, 0, none⟩ = some (.int .i64 b) := (HG.out.below hb).cell 0; obtain ⟨d0, d1, d2, d3, d4, d5, d6, d7, d8, d9, d10, d11, d12⟩ := blk13 (h := ⟨id, qr, op, aa, tc, rd, ra, z, rc⟩) (KB.alloc (.cells Zc 5)); simp only at d0 d1 d2 d3 d4 d5 d6 d7 d8; clear b1)
      | (go_at_call 16; go_must (refine (KR _).mono ?_); rintro e w' ⟨rfl, hw⟩; obtain rfl := hw.symm)
      | (go_at_call 46; go_must (refine (KP _ hb).mono ?_); rintro e w2 ⟨rfl, b2⟩))
    go_ret2
    exact ⟨rfl, b2⟩
  · rw [if_neg hz] at hT hE
    subst hT hE
    obtain ⟨hd, qs, an, ns, ar⟩ := m
    obtain ⟨id, qr, op, aa, tc, rd, ra, z, rc⟩ := hd
    have hb := lay (Below.refl w.heap.size w) (.cells (msgC ⟨id, qr, op, aa, tc, rd, ra, z, rc⟩ (.slice x0 qs.length c0) (.slice x1 an.length c1) (.slice x2 ns.length c2) (.slice x3 ar.length c3)) 29)
    clear h0 h1 h2 h3 hn hT0 hE0 hsz hg
    unfold msgC at K hb ⊢
    simp only at K hb ⊢
    go_enter Try.func45, Try.ntmps45
    go_wp2_with (first
      | (go_at_call 32; go_must (refine (K _ hb).mono ?_); rintro e w1 ⟨rfl, b1⟩; replace hb := next hb b1; clear b1))
    go_ret2
    exact ⟨rfl, hb⟩

end Go.Proofs.Ytcapankhobnfeaa

/- Orders: rows compared place by place, a beginning ahead; plain facts, with no word of the program. -/
namespace Go.Proofs.Ytcapankhobnfeaa.Pl

/-- What an order is: minus one, nought or one; turned round it changes its sign; it does not turn back; nought tells equals alone. -/
structure IsOrd {α : Type} (c : α → α → Int) : Prop where
  three : ∀ x y, c x y = -1 ∨ c x y = 0 ∨ c x y = 1
  anti : ∀ x y, c y x = - c x y
  trans : ∀ x y z, c x y ≤ 0 → c y z ≤ 0 → c x z ≤ 0
  zero : ∀ x y, c x y = 0 ↔ x = y

/-- Rows compared place by place, a beginning ahead. -/
def lexG {α : Type} (c : α → α → Int) : List α → List α → Int
  | [], [] => 0
  | [], _ :: _ => -1
  | _ :: _, [] => 1
  | x :: a, y :: b => if c x y = 0 then lexG c a b else c x y

/-- Numbers compared. -/
def sgn (x y : Int) : Int := if x < y then -1 else if y < x then 1 else 0
/-- Bytes compared. -/
def cB (x y : UInt8) : Int := sgn x.toNat y.toNat

theorem cB_ord : IsOrd cB where
  three x y := by
    unfold cB sgn
    split
    · simp
    · split <;> simp
  anti x y := by unfold cB sgn; split <;> split <;> (try split) <;> omega
  trans x y z := by unfold cB sgn; split <;> split <;> (try split) <;> (try split) <;> omega
  zero x y := by
    constructor
    · intro h
      unfold cB sgn at h
      have : x.toNat = y.toNat := by
        split at h
        · omega
        · split at h <;> omega
      exact UInt8.toNat_inj.1 this
    · rintro rfl; simp [cB, sgn]

theorem lexG_self {α : Type} {c : α → α → Int} (h : IsOrd c) (a : List α) : lexG c a a = 0 := by
  induction a with
  | nil => rfl
  | cons x a ih => rw [lexG, if_pos ((h.zero x x).2 rfl)]; exact ih

theorem lexG_ord {α : Type} {c : α → α → Int} (h : IsOrd c) : IsOrd (lexG c) where
  three a b := by
    induction a generalizing b with
    | nil => cases b <;> simp [lexG]
    | cons x a ih =>
      cases b with
      | nil => simp [lexG]
      | cons y b =>
        rw [lexG]
        split
        · exact ih b
        · exact h.three x y
  anti a b := by
    induction a generalizing b with
    | nil => cases b <;> simp [lexG]
    | cons x a ih =>
      cases b with
      | nil => simp [lexG]
      | cons y b =>
        rw [lexG, lexG, h.anti x y]
        by_cases e : c x y = 0
        · rw [if_pos e, if_pos (by omega)]; exact ih b
        · rw [if_neg e, if_neg (by omega)]
  trans a b d := by
    induction a generalizing b d with
    | nil => cases b <;> cases d <;> simp [lexG]
    | cons x a ih =>
      cases b with
      | nil => simp [lexG]
      | cons y b =>
        cases d with
        | nil =>
          intro _ h2; simp [lexG] at h2
        | cons z d =>
          rw [lexG, lexG, lexG]
          have a1 := h.anti x y
          have a2 := h.anti y z
          have a3 := h.anti x z
          have t1 := h.trans x y z
          by_cases e1 : c x y = 0
          · have := (h.zero x y).1 e1
            subst this
            rw [if_pos e1]
            by_cases e2 : c x z = 0
            · rw [if_pos e2, if_pos e2]; exact ih b d
            · rw [if_neg e2, if_neg e2]; intros; assumption
          · rw [if_neg e1]
            by_cases e2 : c y z = 0
            · have := (h.zero y z).1 e2
              subst this
              rw [if_neg e1]; intros; assumption
            · rw [if_neg e2]
              intro u v
              have e3 : c x z ≠ 0 := by
                intro e3
                have := (h.zero x z).1 e3
                subst this
                omega
              rw [if_neg e3]
              exact t1 u v
  zero a b := by
    induction a generalizing b with
    | nil => cases b <;> simp [lexG]
    | cons x a ih =>
      cases b with
      | nil => simp [lexG]
      | cons y b =>
        rw [lexG]
        by_cases e : c x y = 0
        · have := (h.zero x y).1 e
          subst this
          rw [if_pos e, ih b]; simp
        · rw [if_neg e]
          constructor
          · intro k; exact absurd k e
          · intro k
            simp at k
            exact absurd ((h.zero x y).2 k.1) e

/-- A longer row comes behind its beginning. -/
theorem lexG_more {α : Type} {c : α → α → Int} (h : IsOrd c) (a b : List α) (hb : b ≠ []) : lexG c a (a ++ b) = -1 := by
  induction a with
  | nil => cases b with
    | nil => exact absurd rfl hb
    | cons y b => rfl
  | cons x a ih => rw [List.cons_append, lexG, if_pos ((h.zero x x).2 rfl)]; exact ih

/-- What lies between a beginning and a row that begins with it begins with it too. -/
theorem lexG_between {α : Type} {c : α → α → Int} (h : IsOrd c) : ∀ (a m j : List α), a <+: m → lexG c a j ≤ 0 → lexG c j m ≤ 0 → a <+: j := by
  intro a
  induction a with
  | nil => intro m j _ _ _; exact List.nil_prefix
  | cons x a ih =>
    intro m j hp h1 h2
    obtain ⟨t, rfl⟩ := hp
    cases j with
    | nil => simp [lexG] at h1
    | cons y j =>
      rw [List.cons_append] at h2
      rw [lexG] at h1 h2
      have a1 := h.anti x y
      by_cases e : c x y = 0
      · have := (h.zero x y).1 e
        subst this
        rw [if_pos e] at h1 h2
        have := ih (a ++ t) j (List.prefix_append _ _) h1 h2
        exact List.prefix_cons_inj x |>.2 this
      · rw [if_neg e] at h1
        rw [if_neg (by omega)] at h2
        omega

/-- One place further: at the place k both rows are alike so far. -/
theorem lexG_drop {α : Type} {c : α → α → Int} (_ : IsOrd c) (a b : List α) (k : Nat) (ha : k < a.length) (hb : k < b.length) :
    lexG c (a.drop k) (b.drop k) = if c a[k] b[k] = 0 then lexG c (a.drop (k + 1)) (b.drop (k + 1)) else c a[k] b[k] := by
  rw [List.drop_eq_getElem_cons ha, List.drop_eq_getElem_cons hb, lexG]

/-- One row is at its end: the lengths decide. -/
theorem lexG_end {α : Type} {c : α → α → Int} (a b : List α) (k : Nat) (h : k = a.length ∨ k = b.length) (ha : k ≤ a.length) (hb : k ≤ b.length) :
    lexG c (a.drop k) (b.drop k) = sgn a.length b.length := by
  unfold sgn
  rcases Nat.lt_trichotomy a.length b.length with g | g | g
  · rw [if_pos (by omega)]
    have : k = a.length := by omega
    subst this
    rw [List.drop_of_length_le (Nat.le_refl _), List.drop_eq_getElem_cons g]; rfl
  · rw [if_neg (by omega), if_neg (by omega)]
    have : k = a.length := by omega
    subst this
    rw [List.drop_of_length_le (Nat.le_refl _), List.drop_of_length_le (by omega)]; rfl
  · rw [if_neg (by omega), if_pos (by omega)]
    have : k = b.length := by omega
    subst this
    rw [List.drop_of_length_le (Nat.le_refl b.length), List.drop_eq_getElem_cons g]; rfl

end Go.Proofs.Ytcapankhobnfeaa.Pl

/- The labels of a name, names without their first labels, names folded: plain facts on bytes, with no word of the program. -/
namespace Go.Proofs.Ytcapankhobnfeaa.Pl

/-- Labels, each behind its length. -/
def pre (ls : List (List UInt8)) : List UInt8 := ls.flatMap (fun x => UInt8.ofNat x.length :: x)
/-- The name of labels. -/
def enc (ls : List (List UInt8)) : List UInt8 := pre ls ++ [0]
def GoodL (ls : List (List UInt8)) : Prop := ∀ x ∈ ls, 1 ≤ x.length ∧ x.length ≤ 63
/-- Where the label i begins. -/
def pos (ls : List (List UInt8)) (i : Nat) : Nat := (pre (ls.take i)).length

theorem pre_nil : pre [] = [] := rfl
theorem pre_cons (x : List UInt8) (ls : List (List UInt8)) : pre (x :: ls) = UInt8.ofNat x.length :: (x ++ pre ls) := by simp [pre]
theorem pre_append (a b : List (List UInt8)) : pre (a ++ b) = pre a ++ pre b := by simp [pre]
theorem enc_cons (x : List UInt8) (ls : List (List UInt8)) : enc (x :: ls) = UInt8.ofNat x.length :: (x ++ enc ls) := by simp [enc, pre_cons]
theorem enc_nil : enc [] = [0] := rfl
theorem GoodL.tail {x : List UInt8} {ls : List (List UInt8)} (h : GoodL (x :: ls)) : GoodL ls := fun y hy => h y (List.mem_cons_of_mem _ hy)
theorem GoodL.head {x : List UInt8} {ls : List (List UInt8)} (h : GoodL (x :: ls)) : 1 ≤ x.length ∧ x.length ≤ 63 := h x List.mem_cons_self
theorem GoodL.drop {ls : List (List UInt8)} (h : GoodL ls) (i : Nat) : GoodL (ls.drop i) := fun y hy => h y (List.mem_of_mem_drop hy)
theorem len_byte {n : Nat} (h : n ≤ 63) : (UInt8.ofNat n).toNat = n := toNat_of (by omega)

theorem enc_nm {ls : List (List UInt8)} (h : GoodL ls) : nmS 0 (enc ls) = some ls.length := by
  induction ls with
  | nil => simp [enc, pre, nmS]
  | cons x ls ih =>
    have hx := h.head
    rw [enc_cons, nmS, len_byte hx.2, if_neg (by omega), if_neg (by omega), nmS_drop, List.drop_left, ih h.tail]
    simp

theorem nm_enc : ∀ (n : Nat) (l : List UInt8) (k : Nat), l.length ≤ n → nmS 0 l = some k → ∃ ls, l = enc ls ∧ GoodL ls ∧ ls.length = k := by
  intro n
  induction n with
  | zero =>
    intro l k hl h
    have : l = [] := List.eq_nil_of_length_eq_zero (by omega)
    subst this
    simp [nmS] at h
  | succ n ih =>
    intro l k hl h
    match l with
    | [] => simp [nmS] at h
    | c :: r =>
      by_cases h0 : c.toNat = 0
      · rw [nmS, if_pos h0] at h
        split at h
        · rename_i hr
          have hr' := List.eq_nil_of_length_eq_zero hr
          subst hr'
          have hc : c = 0 := UInt8.toNat_inj.1 h0
          subst hc
          simp only [Option.some.injEq] at h
          exact ⟨[], rfl, fun x hx => by simp at hx, by simpa using h⟩
        · simp at h
      · obtain ⟨h63, hlen, _⟩ := nmS_label (c := c) (r := r) (by rw [h]; rfl) h0
        rw [nmS, if_neg h0, if_neg (by omega), nmS_drop] at h
        obtain ⟨j, hj, hk⟩ := Option.map_eq_some_iff.1 h
        obtain ⟨ls, e1, e2, e3⟩ := ih (r.drop c.toNat) j (by simp at hl ⊢; omega) hj
        have hx : (r.take c.toNat).length = c.toNat := by simp; omega
        refine ⟨r.take c.toNat :: ls, ?_, ?_, by simp; omega⟩
        · rw [enc_cons, ← e1, List.take_append_drop, hx]
          congr 1
          exact UInt8.toNat_inj.1 (by rw [len_byte h63])
        · intro y hy
          rcases List.mem_cons.1 hy with rfl | hy
          · rw [hx]; omega
          · exact e2 y hy

/-- The labels that a row of bytes begins with. -/
def labsF : Nat → List UInt8 → List (List UInt8)
  | 0, _ => []
  | _ + 1, [] => []
  | f + 1, c :: r => if c.toNat = 0 then [] else r.take c.toNat :: labsF f (r.drop c.toNat)
/-- The labels of a name; of what is no name none. -/
def labs (l : List UInt8) : List (List UInt8) := if isName l then labsF l.length l else []

theorem labsF_enc {ls : List (List UInt8)} (h : GoodL ls) : ∀ f, (enc ls).length ≤ f → labsF f (enc ls) = ls := by
  induction ls with
  | nil =>
    intro f hf
    match f with
    | 0 => simp [enc] at hf
    | f + 1 => simp [enc, pre, labsF]
  | cons x ls ih =>
    intro f hf
    match f with
    | 0 => simp [enc] at hf
    | f + 1 =>
      have hx := h.head
      rw [enc_cons] at hf ⊢
      rw [labsF, len_byte hx.2, if_neg (by omega), List.take_left, List.drop_left, ih h.tail f (by simp at hf ⊢; omega)]

theorem name_enc {ls : List (List UInt8)} (h : GoodL ls) (hl : (enc ls).length ≤ 255) : isName (enc ls) = true ∧ cnt (enc ls) = ls.length ∧ labs (enc ls) = ls := by
  have hn : nm (enc ls) = some ls.length := by rw [nm_short hl, enc_nm h]
  have h1 : isName (enc ls) = true := by unfold isName; rw [hn]; rfl
  refine ⟨h1, by unfold cnt; rw [hn]; rfl, ?_⟩
  unfold labs
  rw [if_pos h1]
  exact labsF_enc h _ (Nat.le_refl _)

theorem enc_of {l : List UInt8} (h : isName l = true) : l = enc (labs l) ∧ GoodL (labs l) ∧ cnt l = (labs l).length ∧ l.length ≤ 255 := by
  obtain ⟨h1, h2⟩ := name_some h
  obtain ⟨k, hk⟩ := Option.isSome_iff_exists.1 h2
  obtain ⟨ls, rfl, e2, e3⟩ := nm_enc _ _ _ (Nat.le_refl _) hk
  obtain ⟨g1, g2, g3⟩ := name_enc e2 h1
  rw [g3]
  exact ⟨rfl, e2, g2, h1⟩

theorem labs_none {l : List UInt8} (h : isName l = false) : labs l = [] := by unfold labs; rw [h]; rfl

theorem pos_zero (ls : List (List UInt8)) : pos ls 0 = 0 := by simp [pos, pre]
theorem pos_succ (ls : List (List UInt8)) (i : Nat) (h : i < ls.length) : pos ls (i + 1) = pos ls i + 1 + ls[i].length := by
  unfold pos
  rw [List.take_succ_eq_append_getElem h, pre_append]
  simp [pre]
  omega
theorem enc_split (ls : List (List UInt8)) (i : Nat) : enc ls = pre (ls.take i) ++ enc (ls.drop i) := by
  unfold enc
  rw [← List.append_assoc, ← pre_append, List.take_append_drop]
/-- A name without its first labels. -/
theorem enc_drop (ls : List (List UInt8)) (i : Nat) : (enc ls).drop (pos ls i) = enc (ls.drop i) := by
  rw [enc_split ls i]; unfold pos; rw [List.drop_left]
theorem pos_lt (ls : List (List UInt8)) (i : Nat) : pos ls i < (enc ls).length := by
  rw [enc_split ls i]; unfold pos; simp [enc]
theorem pos_at (ls : List (List UInt8)) (i : Nat) (h : i < ls.length) : (enc ls)[pos ls i]'(pos_lt ls i) = UInt8.ofNat ls[i].length := by
  have h1 := enc_drop ls i
  rw [List.drop_eq_getElem_cons (pos_lt ls i), List.drop_eq_getElem_cons h, enc_cons] at h1
  exact (List.cons.inj h1).1
theorem pos_end (ls : List (List UInt8)) (i : Nat) (h : ls.length ≤ i) : (enc ls)[pos ls i]'(pos_lt ls i) = 0 := by
  have h1 := enc_drop ls i
  rw [List.drop_eq_getElem_cons (pos_lt ls i), List.drop_of_length_le h, enc_nil] at h1
  exact (List.cons.inj h1).1
theorem pos_last (ls : List (List UInt8)) : pos ls ls.length + 1 = (enc ls).length := by simp [pos, enc]
/-- The bytes between two places. -/
theorem pos_label (ls : List (List UInt8)) (i : Nat) (h : i < ls.length) : ((enc ls).drop (pos ls i + 1)).take (pos ls (i + 1) - (pos ls i + 1)) = ls[i] := by
  have h1 := enc_drop ls i
  rw [List.drop_eq_getElem_cons h, enc_cons] at h1
  rw [← List.drop_drop, h1, pos_succ ls i h, List.drop_succ_cons, List.drop_zero, show pos ls i + 1 + ls[i].length - (pos ls i + 1) = ls[i].length from by omega, List.take_left]

/-- The places that a walk over the labels finds. -/
theorem places_pos {l : List UInt8} {qs : List Nat} (hn : isName l = true) (h : Places l qs) : qs.length = (labs l).length + 1 ∧ ∀ i, i ≤ (labs l).length → qs.getD i 0 = pos (labs l) i := by
  obtain ⟨e1, e2, e3, e4⟩ := enc_of hn
  refine ⟨by rw [h.2.1, e3], fun i => ?_⟩
  induction i with
  | zero =>
    intro _
    have h0 := h.1.1
    rw [pos_zero]
    have hq : 0 < qs.length := by rw [h.2.1]; omega
    match qs, hq with
    | q :: r, _ => simpa using h0
  | succ i ih =>
    intro hi
    have hp := ih (by omega)
    obtain ⟨h1, h2, h3⟩ := h.1.2 i (by rw [h.2.1, e3]; omega)
    rw [h3, hp, pos_succ _ i (by omega)]
    congr 1
    have hl : pos (labs l) i < l.length := by rw [← hp]; exact h1
    have hg : l.getD (pos (labs l) i) 0 = UInt8.ofNat (labs l)[i].length := by
      rw [← pos_at (labs l) i (by omega)]
      rw [List.getD_eq_getElem?_getD, List.getElem?_eq_getElem hl]
      simp only [Option.getD_some]
      congr 1
    rw [hg, len_byte (e2 _ (List.getElem_mem _)).2]

/- Folding. -/

/-- A great letter made small. -/
def fb (b : UInt8) : UInt8 := if 65 ≤ b.toNat ∧ b.toNat ≤ 90 then UInt8.ofNat (b.toNat + 32) else b
def foldL (l : List UInt8) : List UInt8 := l.map fb

theorem fb_nat (b : UInt8) : (fb b).toNat = if 65 ≤ b.toNat ∧ b.toNat ≤ 90 then b.toNat + 32 else b.toNat := by
  unfold fb; split
  · rw [toNat_of (by omega)]
  · rfl
theorem fb_small {b : UInt8} (h : b.toNat ≤ 63) : fb b = b := by unfold fb; rw [if_neg (by omega)]
theorem fb_twice (b : UInt8) : fb (fb b) = fb b := by
  have h := fb_nat b
  apply UInt8.toNat_inj.1
  rw [fb_nat (fb b)]
  split at h <;> split <;> omega
theorem fold_twice (l : List UInt8) : foldL (foldL l) = foldL l := by unfold foldL; simp [fb_twice]
theorem fold_len (l : List UInt8) : (foldL l).length = l.length := by simp [foldL]

theorem nmS_fold (l : List UInt8) : ∀ k, nmS k (foldL l) = nmS k l := by
  induction l with
  | nil => intro k; rfl
  | cons c r ih =>
    intro k
    have hc := fb_nat c
    show nmS k (fb c :: foldL r) = nmS k (c :: r)
    match k with
    | k + 1 => rw [nmS, nmS]; exact ih k
    | 0 =>
      rw [nmS, nmS, fold_len]
      by_cases h0 : c.toNat = 0
      · rw [if_pos (by split at hc <;> omega), if_pos h0]
      · rw [if_neg (by split at hc <;> omega), if_neg h0]
        by_cases h6 : 63 < c.toNat
        · rw [if_pos (by split at hc <;> omega), if_pos h6]
        · rw [if_neg (by split at hc <;> omega), if_neg h6, fb_small (by omega), ih]

theorem name_fold (l : List UInt8) : isName (foldL l) = isName l := by unfold isName nm; rw [nmS_fold, fold_len]
theorem fold_pre {ls : List (List UInt8)} (h : GoodL ls) : foldL (pre ls) = pre (ls.map foldL) := by
  induction ls with
  | nil => rfl
  | cons x ls ih =>
    have hx := h.head
    have := ih h.tail
    rw [List.map_cons, pre_cons, pre_cons, fold_len, ← this]
    unfold foldL
    rw [List.map_cons, List.map_append, fb_small (by rw [len_byte hx.2]; omega)]
theorem fold_enc {ls : List (List UInt8)} (h : GoodL ls) : foldL (enc ls) = enc (ls.map foldL) := by
  unfold enc
  rw [← fold_pre h]
  unfold foldL
  rw [List.map_append]
  rfl
theorem good_fold {ls : List (List UInt8)} (h : GoodL ls) : GoodL (ls.map foldL) := by
  intro x hx
  obtain ⟨y, hy, rfl⟩ := List.mem_map.1 hx
  rw [fold_len]; exact h y hy

/-- The labels of a name folded, the last one first. -/
def fl (l : List UInt8) : List (List UInt8) := ((labs l).map foldL).reverse

theorem labs_fold (l : List UInt8) : labs (foldL l) = (labs l).map foldL := by
  cases h : isName l with
  | false => rw [labs_none h, labs_none (by rw [name_fold]; exact h)]; rfl
  | true =>
    obtain ⟨e1, e2, e3, e4⟩ := enc_of h
    have e5 : foldL l = enc ((labs l).map foldL) := by rw [← fold_enc e2, ← e1]
    have := name_enc (good_fold e2) (by rw [← e5, fold_len]; exact e4)
    rw [e5, this.2.2]
theorem fl_fold (l : List UInt8) : fl (foldL l) = fl l := by
  unfold fl; rw [labs_fold]; simp [fold_twice]
theorem fl_len (l : List UInt8) : (fl l).length = (labs l).length := by simp [fl]

theorem enc_inj {a b : List (List UInt8)} (ha : GoodL a) (hb : GoodL b) (h : enc a = enc b) : a = b := by
  rw [← labsF_enc ha _ (Nat.le_refl _), h]; exact labsF_enc hb _ (Nat.le_refl _)

theorem fold_inj {a b : List UInt8} (ha : isName a = true) (hb : isName b = true) : foldL a = foldL b ↔ fl a = fl b := by
  obtain ⟨a1, a2, _, _⟩ := enc_of ha
  obtain ⟨b1, b2, _, _⟩ := enc_of hb
  have ea : foldL a = enc ((labs a).map foldL) := by rw [← fold_enc a2, ← a1]
  have eb : foldL b = enc ((labs b).map foldL) := by rw [← fold_enc b2, ← b1]
  rw [ea, eb]
  unfold fl
  rw [List.reverse_inj]
  exact ⟨enc_inj (good_fold a2) (good_fold b2), fun h => by rw [h]⟩

/-- The order of bytes folded. -/
def ord (a b : List UInt8) : Int := lexG cB (foldL a) (foldL b)
/-- The order of names. -/
def cmpN (a b : List UInt8) : Int := lexG (lexG cB) (fl a) (fl b)
/-- Is a the same as b? -/
def sameB (a b : List UInt8) : Bool := isName a && isName b && decide (foldL a = foldL b)
/-- A name's last k labels. -/
def lastN (l : List UInt8) (k : Nat) : List UInt8 := enc ((labs l).drop ((labs l).length - k))
/-- Is a above b? -/
def aboveB (a b : List UInt8) : Bool := isName a && isName b && decide ((labs a).length ≤ (labs b).length) && decide (foldL a = foldL (lastN b (labs a).length))

theorem ord_ord : IsOrd (lexG cB) := lexG_ord cB_ord
theorem cmp_ord : IsOrd (lexG (lexG cB)) := lexG_ord ord_ord
theorem ord_zero (a b : List UInt8) : ord a b = 0 ↔ foldL a = foldL b := ord_ord.zero _ _
theorem cmp_zero (a b : List UInt8) : cmpN a b = 0 ↔ fl a = fl b := cmp_ord.zero _ _
theorem same_iff {a b : List UInt8} : sameB a b = true ↔ isName a = true ∧ isName b = true ∧ fl a = fl b := by
  unfold sameB
  constructor
  · intro h
    simp at h
    exact ⟨h.1.1, h.1.2, (fold_inj h.1.1 h.1.2).1 h.2⟩
  · intro ⟨h1, h2, h3⟩
    simp [h1, h2]
    exact (fold_inj h1 h2).2 h3

theorem pos_le (ls : List (List UInt8)) (i : Nat) : (enc (ls.drop i)).length ≤ (enc ls).length := by
  rw [← enc_drop]; simp

theorem last_name {l : List UInt8} (h : isName l = true) (k : Nat) (hk : k ≤ (labs l).length) : isName (lastN l k) = true ∧ labs (lastN l k) = (labs l).drop ((labs l).length - k) ∧ cnt (lastN l k) = k := by
  obtain ⟨e1, e2, e3, e4⟩ := enc_of h
  have := name_enc (e2.drop ((labs l).length - k)) (by
    have := pos_le (labs l) ((labs l).length - k)
    rw [← e1] at this
    omega)
  refine ⟨this.1, this.2.2, ?_⟩
  unfold lastN
  rw [this.2.1]
  simp
  omega

theorem fl_last {l : List UInt8} (h : isName l = true) (k : Nat) (hk : k ≤ (labs l).length) : fl (lastN l k) = (fl l).take k := by
  unfold fl
  rw [(last_name h k hk).2.1, List.map_drop, List.reverse_drop]
  simp
  congr 1
  omega

theorem above_iff {a b : List UInt8} : aboveB a b = true ↔ isName a = true ∧ isName b = true ∧ fl a <+: fl b := by
  unfold aboveB
  constructor
  · intro h
    simp at h
    obtain ⟨⟨⟨h1, h2⟩, h3⟩, h4⟩ := h
    refine ⟨h1, h2, ?_⟩
    have h5 := (fold_inj h1 (last_name h2 _ h3).1).1 h4
    rw [fl_last h2 _ h3] at h5
    rw [h5]
    exact List.take_prefix _ _
  · intro ⟨h1, h2, h3⟩
    have h4 : (labs a).length ≤ (labs b).length := by rw [← fl_len, ← fl_len]; exact h3.length_le
    simp [h1, h2, h4]
    refine (fold_inj h1 (last_name h2 _ h4).1).2 ?_
    rw [fl_last h2 _ h4]
    obtain ⟨t, ht⟩ := h3
    rw [← ht, ← fl_len, List.take_left]

end Go.Proofs.Ytcapankhobnfeaa.Pl

/- What Parent, Last and Child answer: plain functions on bytes, with no word of the program. -/
namespace Go.Proofs.Ytcapankhobnfeaa.Pl

/-- A name without its first label. -/
def parR (l : List UInt8) : Option (List UInt8) := if isName l = true ∧ (labs l).length ≠ 0 then some (enc ((labs l).drop 1)) else none
/-- A name's last k labels. -/
def lastR (l : List UInt8) (k : Int) : Option (List UInt8) := if isName l = true ∧ 0 ≤ k ∧ k ≤ (labs l).length then some (lastN l k.toNat) else none
/-- A label ahead of a name. -/
def childR (x l : List UInt8) : Option (List UInt8) := if 1 ≤ x.length ∧ x.length ≤ 63 ∧ isName l = true ∧ 1 + x.length + l.length ≤ 255 then some (UInt8.ofNat x.length :: (x ++ l)) else none
/-- A name folded. -/
def foldR (l : List UInt8) : List UInt8 := if isName l = true then foldL l else []

theorem last_drop {l : List UInt8} (h : isName l = true) (k : Nat) : lastN l k = l.drop (pos (labs l) ((labs l).length - k)) := by
  obtain ⟨e1, _, _, _⟩ := enc_of h
  unfold lastN
  rw [← enc_drop, ← e1]

theorem name_pos {l : List UInt8} (h : isName l = true) : 0 < l.length := by
  obtain ⟨e1, _, _, _⟩ := enc_of h
  have := pos_lt (labs l) 0
  rw [← e1] at this
  omega

theorem labs_zero {l : List UInt8} (h : isName l = true) : (labs l).length = 0 ↔ l = [0] := by
  obtain ⟨e1, _, _, _⟩ := enc_of h
  constructor
  · intro hz
    rw [e1, List.eq_nil_of_length_eq_zero hz]; rfl
  · intro hz; rw [hz]; decide

/-- The first byte tells where the second label begins. -/
theorem first_len {l : List UInt8} (h : isName l = true) (h0 : (labs l).length ≠ 0) : 1 + (l[0]'(name_pos h)).toNat = pos (labs l) 1 ∧ 1 + (l[0]'(name_pos h)).toNat < l.length ∧ 1 ≤ (l[0]'(name_pos h)).toNat ∧ (l[0]'(name_pos h)).toNat ≤ 63 := by
  obtain ⟨e1, e2, _, _⟩ := enc_of h
  have h1 := pos_at (labs l) 0 (by omega)
  have h2 := e2 (labs l)[0] (List.getElem_mem _)
  have h3 : l[0]'(name_pos h) = UInt8.ofNat (labs l)[0].length := by
    rw [← h1]
    have e : ∀ (a b : List UInt8) (i j : Nat) (ha : i < a.length) (hb : j < b.length), a = b → i = j → a[i] = b[j] := by
      intro a b i j ha hb e f; subst e; subst f; rfl
    exact e _ _ _ _ _ _ e1 (pos_zero _).symm
  have h4 : (l[0]'(name_pos h)).toNat = (labs l)[0].length := by rw [h3, len_byte h2.2]
  have h5 := pos_succ (labs l) 0 (by omega)
  rw [pos_zero, show 0 + 1 = 1 from rfl] at h5
  have h6 := pos_lt (labs l) 1
  rw [← e1] at h6
  omega

theorem par_drop {l : List UInt8} (h : isName l = true) (h0 : (labs l).length ≠ 0) : parR l = some (l.drop (1 + (l[0]'(name_pos h)).toNat)) := by
  obtain ⟨e1, _, _, _⟩ := enc_of h
  unfold parR
  rw [if_pos ⟨h, h0⟩, (first_len h h0).1]
  congr 1
  rw [← enc_drop, ← e1]

theorem par_none {l : List UInt8} (h : isName l = false ∨ (labs l).length = 0) : parR l = none := by
  unfold parR
  rw [if_neg]
  rintro ⟨h1, h2⟩
  rcases h with h | h
  · rw [h] at h1; simp at h1
  · exact h2 h

end Go.Proofs.Ytcapankhobnfeaa.Pl

/- What Fold of package rel gives, where the seat has no more of rel. -/
namespace Go.Proofs.Ytcapankhobnfeaa
open Go.RowKit
open Pl

theorem foldByte_any (b : UInt8) (w : World) :
    Calls Try.prog 48 #[.int .u8 (b.toNat : Int)] w fun e w' => e = .returned (.int .u8 ((fb b).toNat : Int)) ∧ w' = w := by
  have hb := b.toNat_lt
  have hf := fb_nat b
  by_cases h1 : 65 ≤ b.toNat
  · by_cases h2 : b.toNat ≤ 90
    · rw [if_pos ⟨h1, h2⟩] at hf
      rw [hf]
      clear hf
      go_enter Try.func48, Try.ntmps48
      go_wp2
      go_ret
      exact ⟨ret_int (by omega), rfl⟩
    · rw [if_neg (by omega)] at hf
      rw [hf]
      clear hf
      go_enter Try.func48, Try.ntmps48
      go_wp2
      go_ret
      exact ⟨rfl, rfl⟩
  · rw [if_neg (by omega)] at hf
    rw [hf]
    clear hf
    go_enter Try.func48, Try.ntmps48
    go_wp2
    go_ret
    exact ⟨rfl, rfl⟩
/-- Bytes, the first k of them folded. -/
def foldK (l : List UInt8) (k : Nat) : List UInt8 := foldL (l.take k) ++ l.drop k
theorem foldK_zero (l : List UInt8) : foldK l 0 = l := by simp [foldK, foldL]
theorem foldK_all (l : List UInt8) (k : Nat) (h : l.length ≤ k) : foldK l k = foldL l := by unfold foldK; rw [List.take_of_length_le h, List.drop_of_length_le h, List.append_nil]
theorem foldK_len (l : List UInt8) (k : Nat) : (foldK l k).length = l.length := by simp [foldK, foldL]; omega
theorem foldK_at (l : List UInt8) (k : Nat) (h : k < l.length) : (foldK l k)[k]'(by rw [foldK_len]; exact h) = l[k] := by
  unfold foldK
  rw [List.getElem_append_right (by simp [foldL]; omega), List.getElem_drop]
  congr 1
  simp [foldL]
  omega
theorem foldK_set (l : List UInt8) (k : Nat) (h : k < l.length) : (foldK l k).set k (fb l[k]) = foldK l (k + 1) := by
  unfold foldK
  have hk : (foldL (l.take k)).length = k := by simp [foldL]; omega
  rw [List.set_append_right _ _ (by omega), hk, Nat.sub_self, List.drop_eq_getElem_cons h, List.set_cons_zero, List.take_succ_eq_append_getElem h]
  unfold foldL
  rw [List.map_append, List.append_assoc]
  rfl
theorem foldR_yes {l : List UInt8} (h : isName l = true) : foldR l = foldL l := by unfold foldR; rw [if_pos h]
theorem foldR_no {l : List UInt8} (h : isName l = false) : foldR l = [] := by unfold foldR; rw [if_neg (by rw [h]; simp)]
theorem ret_str {a b : ByteArray} (h : a = b) : Ending.returned (.string a) = .returned (.string b) := by rw [h]
set_option maxRecDepth 20000 in
set_option maxHeartbeats 1000000 in
theorem fold_any (s : ByteArray) (w : World) (hs : s.size ≤ maxLen) :
    Calls Try.prog 26 #[.string s] w fun e w' => e = .returned (.string ⟨(foldR s.data.toList).toArray⟩) ∧ Below w.heap.size w w' := by
  cases h : isName s.data.toList with
  | false =>
    rw [foldR_no h]
    go_enter Try.func26, Try.ntmps26
    go_wp2_with (go_at_call 47; refine (may_as _ false _ hs h).mono ?_; rintro e w' ⟨rfl, hw⟩; obtain rfl := hw.symm)
    go_ret
    exact ⟨rfl, Below.refl _ _⟩
  | true =>
    rw [foldR_yes h]
    have h255 := name_size h
    have hl := data_len s
    go_enter Try.func26, Try.ntmps26
    go_wp2_with (first
      | (go_at_call 47; refine (may_as _ true _ hs h).mono ?_; rintro e w' ⟨rfl, hw⟩; obtain rfl := hw.symm)
      | (refine wpList_bytesB _ rfl (.tmp 9) rfl s rfl ?_; intro cap w1 hrow hg hsz))
    have hb1 := below_of hg
    go_loopw [13] (fun i wr => ∃ (k : Nat), k ≤ s.size ∧ i = .int .i64 k ∧ Hid (BRow wr w.heap.size (foldK s.data.toList k)) ∧ Below w.heap.size w wr ∧ w.heap.size < wr.heap.size) (fun i _ => s.size - (intOf i).toNat)
    case atStart => exact ⟨0, Nat.zero_le _, rfl, by unfold Hid; rw [foldK_zero]; exact hrow, hb1, by omega⟩
    case round =>
      clear hrow hg hsz hb1
      obtain ⟨k, hk, rfl, HR, hbel, hlt⟩ := hrel
      by_cases hks : k < s.size
      · have hkl : k < s.data.toList.length := by omega
        have hkl2 : k < (foldK s.data.toList k).length := by rw [foldK_len]; exact hkl
        have hcell : wr.cell? ⟨w.heap.size, k, none⟩ = some (.int .u8 (s[k].toNat : Int)) := by
          rw [HR.out.cell k hkl2, foldK_at _ _ hkl]; rfl
        have hfro := HR.out.frozen k hkl2
        have hst := HR.out.stored k hkl2 (fb s[k])
        rw [show s[k] = s.data.toList[k] from rfl, foldK_set _ _ hkl] at hst
        have HS : Hid (BRow (wr.setCell ⟨w.heap.size, k, none⟩ (.int .u8 ((fb s[k]).toNat : Int))) w.heap.size (foldK s.data.toList (k + 1)) ∧ wr.grownBy (wr.setCell ⟨w.heap.size, k, none⟩ (.int .u8 ((fb s[k]).toNat : Int))) (some w.heap.size)) := hst
        clear hst
        have hks2 : (k : Int) < (s.size : Int) := by omega
        go_wp2_with (go_at_call 48; go_must (refine (foldByte_any _ _).mono ?_); rintro e w' ⟨rfl, hw⟩; obtain rfl := hw.symm)
        go_roundw
        case rel => exact ⟨k + 1, by omega, by go_num, HS.out.1, hbel.grown HS.out.2 hbel.size (fun j e => by have := Option.some.inj e; omega), Nat.lt_of_lt_of_le hlt HS.out.2.size⟩
        case measure => simp [intOf]; omega
      · have HA : Hid (BRow wr w.heap.size (foldL s.data.toList)) := by unfold Hid; rw [← foldK_all s.data.toList k (by omega)]; exact HR
        have hn : (foldL s.data.toList).length = s.size := by rw [fold_len]; exact hl
        have HNN : Hid ((foldL s.data.toList).length = s.size) := hn
        clear hn
        go_wp2_with (refine wpList_stringC _ rfl (.tmp 24) rfl w.heap.size s.size cap (foldL s.data.toList) rfl HNN.out HA.out ?_)
        go_ret
        exact ⟨rfl, hbel⟩

end Go.Proofs.Ytcapankhobnfeaa
