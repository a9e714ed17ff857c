/- Take of a Table. -/
import Derived.Test.YtbldoplemfjcjaaOuJ
namespace Go.Proofs.Ytbldoplemfjcjaa
open Go.RowKit
open Pl
namespace Ou

theorem find_len {T : List Tn} {k : Ke} (h : T.find? (mt k) = none) : (T.filter (mt k)).length = 0 := by
  rw [find_head] at h
  cases e : T.filter (mt k) with
  | nil => rfl
  | cons x l => rw [e] at h; simp at h

set_option maxRecDepth 20000 in
set_option maxHeartbeats 2000000 in
theorem take_none {w : World} {gs most added b : Nat} {L : List Gr} {T : List Tn} (h : St w gs most added b L T) (a i : Int) (n : ByteArray) (t c : Int) (hn : n.size ≤ maxLen) (hkk : OkK (keyQ a i n t c)) (hfind : T.find? (mt (keyQ a i n t c)) = none) :
    Calls Try.prog 14 #[.pointer (some ⟨gs, 0, none⟩), .int .i64 a, .int .i64 i, .agg #[.string n, .int .i64 t, .int .i64 c]] w fun e w' => e = .returned (.tuple #[.agg #[.int .i64 0, .int .i64 0, .int .i64 0, .string ⟨#[]⟩, .string ⟨#[]⟩, .string ⟨#[]⟩, .int .i64 0, .int .i64 0], .int .i64 1902]) ∧ Below w.heap.size w w' := by
  obtain ⟨k, hk⟩ : ∃ k, k = keyQ a i n t c := ⟨_, rfl⟩
  rw [← hk] at hfind hkk
  have hky : ∀ q : World, Calls Try.prog 25 #[.int .i64 a, .int .i64 i, .agg #[.string n, .int .i64 t, .int .i64 c]] q fun e w' => e = .returned (.agg #[.int .i64 k.1, .int .i64 k.2.1, .string k.2.2.1, .int .i64 k.2.2.2.1, .int .i64 k.2.2.2.2]) ∧ Below q.heap.size q w' := fun q => by have := keyOf_any a i n t c q hn; rw [← hk] at this; exact this
  clear hk
  have hrow := h.hold.rowAt k
  have hlen := find_len hfind
  rw [hlen] at hrow
  obtain ⟨y0, c0, hv⟩ := row_shape hrow
  have b0 : Below w.heap.size w ((w.alloc (.cells #[.string n, .int .i64 t, .int .i64 c] 37)).alloc (.cells #[.int .i64 0, .int .i64 0, .int .i64 0, .string ⟨#[]⟩, .string ⟨#[]⟩, .string ⟨#[]⟩, .int .i64 0, .int .i64 0] 35)) := lay (lay (Below.refl _ _) _) _
  have k0 := (Blk.new w #[.string n, .int .i64 t, .int .i64 c] 37).alloc (.cells #[.int .i64 0, .int .i64 0, .int .i64 0, .string ⟨#[]⟩, .string ⟨#[]⟩, .string ⟨#[]⟩, .int .i64 0, .int .i64 0] 35)
  have k1 := Blk.new (w.alloc (.cells #[.string n, .int .i64 t, .int .i64 c] 37)) #[.int .i64 0, .int .i64 0, .int .i64 0, .string ⟨#[]⟩, .string ⟨#[]⟩, .string ⟨#[]⟩, .int .i64 0, .int .i64 0] 35
  have e2 : (w.alloc (.cells #[.string n, .int .i64 t, .int .i64 c] 37)).heap.size = w.heap.size + 1 := by simp
  rw [e2] at k1
  have HST : Hid (St w gs most added b L T) := h
  have HKK : Hid (OkK k) := hkk
  have HV : Hid (vL L k = .slice y0 0 c0) := hv
  clear h hkk hv hrow hlen hfind
  go_enter Try.func14, Try.ntmps14
  go_wp2_with (first
    | (refine wpList_loadS _ rfl (.tmp 7) 37 rfl w.heap.size _ 37 rfl k0 ⟨_, Try.underlying37⟩ (by kernel_rfl) ?_)
    | (go_at_call 25; go_must (refine (hky _).mono ?_); rintro e w1 ⟨rfl, b1⟩; replace b0 := next b0 b1; replace k1 := k1.below b1; have k2 := Blk.new w1 #[.int .i64 k.1, .int .i64 k.2.1, .string k.2.2.1, .int .i64 k.2.2.2.1, .int .i64 k.2.2.2.2] 67; replace b0 := lay b0 (.cells #[.int .i64 k.1, .int .i64 k.2.1, .string k.2.2.1, .int .i64 k.2.2.2.1, .int .i64 k.2.2.2.2] 67); replace k1 := k1.alloc (.cells #[.int .i64 k.1, .int .i64 k.2.1, .string k.2.2.1, .int .i64 k.2.2.2.1, .int .i64 k.2.2.2.2] 67); have HS1 : Hid (St ((w1.alloc (.cells #[.int .i64 k.1, .int .i64 k.2.1, .string k.2.2.1, .int .i64 k.2.2.2.1, .int .i64 k.2.2.2.2] 67)).drew) gs most added b L T) := (HST.out.below b0).below (Below.refl _ _).drew; have hlk := HS1.out.hold.look HKK.out; rw [HV.out] at hlk; unfold kyV kyC at hlk; have c2 := HS1.out.blk.cell 2; have d0 := (k2.below (Below.refl _ _).drew).cell 0; have d1 := (k2.below (Below.refl _ _).drew).cell 1; have d2 := (k2.below (Below.refl _ _).drew).cell 2; have d3 := (k2.below (Below.refl _ _).drew).cell 3; have d4 := (k2.below (Below.refl _ _).drew).cell 4; simp only [List.getElem?_toArray, List.getElem?_cons_succ, List.getElem?_cons_zero] at c2 d0 d1 d2 d3 d4))
  go_region_held_law (fun q => q.cell? ⟨gs, 2, none⟩ = some (.map (some b)) ∧ q.cell? ⟨w1.heap.size, 0, none⟩ = some (.int .i64 k.1) ∧ q.cell? ⟨w1.heap.size, 1, none⟩ = some (.int .i64 k.2.1) ∧ q.cell? ⟨w1.heap.size, 2, none⟩ = some (.string k.2.2.1) ∧ q.cell? ⟨w1.heap.size, 3, none⟩ = some (.int .i64 k.2.2.2.1) ∧ q.cell? ⟨w1.heap.size, 4, none⟩ = some (.int .i64 k.2.2.2.2)) (exact ⟨c2, d0, d1, d2, d3, d4⟩) (fail)
  go_wp2_with (refine wpList_storeS _ rfl (.tmp 8) (.tmp 28) 35 rfl (w.heap.size + 1) _ _ 35 rfl rfl (k1.below (Below.refl _ _).drew) (by kernel_rfl) rfl (by simp [Value.oneCell']) ?_; intro w4 k4 t4 _ _)
  exact bodyPost_ret (v := .tuple #[.agg #[.int .i64 0, .int .i64 0, .int .i64 0, .string ⟨#[]⟩, .string ⟨#[]⟩, .string ⟨#[]⟩, .int .i64 0, .int .i64 0], .int .i64 1902]) (ret_s1 rfl rfl rfl k4 ⟨_, Try.underlying35⟩ (by kernel_rfl)) rfl ⟨rfl, t4.one_below b0.drew (by omega)⟩

/-- What is left of a key's row, when its first is taken. -/
theorem take_facts {w : World} {gs most added b : Nat} {L : List Gr} {T : List Tn} (h : St w gs most added b L T) {k : Ke} {s : Tn} (hfind : T.find? (mt k) = some s) :
    ∃ (r : List Tn), T.filter (mt k) = s :: r ∧ r = (T.eraseP (mt k)).filter (mt k) ∧ (T.eraseP (mt k)).Sublist T ∧ (∀ l, l ≠ k → (T.eraseP (mt k)).filter (mt l) = T.filter (mt l)) ∧ (∃ g ∈ L, g.k = k) := by
  rw [find_head] at hfind
  cases e : T.filter (mt k) with
  | nil => rw [e] at hfind; simp at hfind
  | cons x r =>
    rw [e] at hfind
    simp at hfind
    subst hfind
    refine ⟨r, rfl, by rw [erase_tail, e]; rfl, List.eraseP_sublist, fun l hl => erase_other _ _ (fun y hy => ?_) T, ?_⟩
    · have h1 := mt_iff.1 hy
      unfold mt
      rw [h1]
      simpa using fun e => hl e.symm
    · have h1 : x ∈ T.filter (mt k) := by rw [e]; exact List.mem_cons_self
      obtain ⟨h2, h3⟩ := List.mem_filter.1 h1
      obtain ⟨g, hg, hk⟩ := h.hold.good.cov x h2
      exact ⟨g, hg, hk.trans (mt_iff.1 h3)⟩
theorem slice_one (g m c : Nat) : ∃ v, (∀ u, (Instr.sliceAt 70 (.slice (some ⟨g, 0, none⟩) (m + 1) c) (some (.int .i64 1)) none none).run Try.prog u = .ok v u) ∧ ∀ (u : World) (xs : List Value), u.ownsRow 0 73 9 (.slice (some ⟨g, 0, none⟩) (m + 1) c) (m + 1) xs → Row u v m (xs.drop 9) := by
  have hrun : ∀ u, (Instr.sliceAt 70 (.slice (some ⟨g, 0, none⟩) (m + 1) c) (some (.int .i64 ((1 : Nat) : Int))) none none).run Try.prog u = .ok (.slice (if c = 1 then some ⟨g, 0, none⟩ else some ⟨g, 1 * 9, none⟩) (m + 1 - 1) (c - 1)) u := fun u => by
    have hu := Try.underlying70
    have hz : (sizeOf 73).run Try.prog u = .ok 9 u := by kernel_rfl
    rw [run_sliceAt_slice u 70 _ _ _ _ (elem_of hu), run_slice_l u 70 _ (m + 1) c (elem_of hu) .i64 _ (by omega) (by omega), elem_is hu, hz]
    simp [Result.andThen, sliced, Addr.add]
  refine ⟨_, hrun, fun u xs ho => ?_⟩
  obtain ⟨v', hr, hrow⟩ := run_sliceFrom (k := 1) Try.underlying70 (by kernel_rfl) ho (by omega)
  rw [hrun u] at hr
  simp only [Result.ok.injEq, and_true] at hr
  rw [← hr] at hrow
  simpa using hrow

set_option maxRecDepth 20000 in
set_option maxHeartbeats 4000000 in
theorem take_some {w : World} {gs most added b : Nat} {L : List Gr} {T : List Tn} (h : St w gs most added b L T) (a i : Int) (n : ByteArray) (t c : Int) (hn : n.size ≤ maxLen) (hkk : OkK (keyQ a i n t c)) (sp : Nat) (sj si sa : Int) (sc sg sn : ByteArray) (st su : Int) (hfind : T.find? (mt (keyQ a i n t c)) = some ⟨sp, (⟨sj, si, sa, sc, sg, sn, st, su⟩ : Ak)⟩) :
    Calls Try.prog 14 #[.pointer (some ⟨gs, 0, none⟩), .int .i64 a, .int .i64 i, .agg #[.string n, .int .i64 t, .int .i64 c]] w fun e w' => e = .returned (.tuple #[.agg #[.int .i64 sj, .int .i64 si, .int .i64 sa, .string sc, .string sg, .string sn, .int .i64 st, .int .i64 su], .int .i64 0]) ∧ ∃ L', St w' gs most added b L' (T.eraseP (mt (keyQ a i n t c))) ∧ Turn (foot gs b L) w w' ∧ (∀ k, foot gs b L' k → foot gs b L k ∨ w.heap.size ≤ k) := by
  obtain ⟨k, hk⟩ : ∃ k, k = keyQ a i n t c := ⟨_, rfl⟩
  rw [← hk] at hfind hkk ⊢
  have hky : ∀ q : World, Calls Try.prog 25 #[.int .i64 a, .int .i64 i, .agg #[.string n, .int .i64 t, .int .i64 c]] q fun e w' => e = .returned (.agg #[.int .i64 k.1, .int .i64 k.2.1, .string k.2.2.1, .int .i64 k.2.2.2.1, .int .i64 k.2.2.2.2]) ∧ Below q.heap.size q w' := fun q => by have := keyOf_any a i n t c q hn; rw [← hk] at this; exact this
  clear hk
  obtain ⟨r, hr1, hr2, hsub, hoth, hthere⟩ := take_facts h hfind
  have hrow := h.hold.rowAt k
  rw [hr1, List.length_cons] at hrow
  have hm16 : r.length + 1 ≤ 16 := by
    have h1 := List.length_filter_le (mt k) T
    rw [hr1, List.length_cons] at h1
    have := h.m2
    have := h.len
    omega
  obtain ⟨m, hm⟩ : ∃ m, m = r.length := ⟨_, rfl⟩
  rw [← hm] at hrow hm16
  obtain ⟨g, cap, hv, hcap⟩ : ∃ g cap, vL L k = .slice (some ⟨g, 0, none⟩) (m + 1) cap ∧ m + 1 ≤ cap := by
    rcases hrow.2 with ⟨_, h0⟩ | ⟨g, cap, cur, hv, _, _, h1, _⟩
    · omega
    · exact ⟨g, cap, hv, h1⟩
  rw [hv] at hrow
  obtain ⟨v1, hsl, hsrow⟩ := slice_one g m cap
  have hcells : ∀ (u : World), Turn (fun q => q = b) w u → u.cell? ⟨g, 1, none⟩ = some (.int .i64 sj) ∧ u.cell? ⟨g, 2, none⟩ = some (.int .i64 si) ∧ u.cell? ⟨g, 3, none⟩ = some (.int .i64 sa) ∧ u.cell? ⟨g, 4, none⟩ = some (.string sc) ∧ u.cell? ⟨g, 5, none⟩ = some (.string sg) ∧ u.cell? ⟨g, 6, none⟩ = some (.string sn) ∧ u.cell? ⟨g, 7, none⟩ = some (.int .i64 st) ∧ u.cell? ⟨g, 8, none⟩ = some (.int .i64 su) := by
    intro u ht
    obtain ⟨es, clock, hbm⟩ := h.hold.bmap
    have ho := ht.row hrow (fun q hq e => row_kind hrow hbm q hq e)
    have hc := (hrow.2)
    have hat := fun q (hq : q < 9) => ho.cellAt q (by omega)
    refine ⟨hat 1 (by decide), hat 2 (by decide), hat 3 (by decide), hat 4 (by decide), hat 5 (by decide), hat 6 (by decide), hat 7 (by decide), hat 8 (by decide)⟩
  have b0 : Below w.heap.size w ((w.alloc (.cells #[.string n, .int .i64 t, .int .i64 c] 37)).alloc (.cells #[.int .i64 0, .int .i64 0, .int .i64 0, .string ⟨#[]⟩, .string ⟨#[]⟩, .string ⟨#[]⟩, .int .i64 0, .int .i64 0] 35)) := lay (lay (Below.refl _ _) _) _
  have k0 := (Blk.new w #[.string n, .int .i64 t, .int .i64 c] 37).alloc (.cells #[.int .i64 0, .int .i64 0, .int .i64 0, .string ⟨#[]⟩, .string ⟨#[]⟩, .string ⟨#[]⟩, .int .i64 0, .int .i64 0] 35)
  have k1 := Blk.new (w.alloc (.cells #[.string n, .int .i64 t, .int .i64 c] 37)) #[.int .i64 0, .int .i64 0, .int .i64 0, .string ⟨#[]⟩, .string ⟨#[]⟩, .string ⟨#[]⟩, .int .i64 0, .int .i64 0] 35
  have e2 : (w.alloc (.cells #[.string n, .int .i64 t, .int .i64 c] 37)).heap.size = w.heap.size + 1 := by simp
  rw [e2] at k1
  have HST : Hid (St w gs most added b L T) := h
  have HKK : Hid (OkK k) := hkk
  have HV : Hid (vL L k = .slice (some ⟨g, 0, none⟩) (m + 1) cap) := hv
  have HCELL : Hid _ := hcells
  have HM : Hid (m = r.length) := hm
  have HR : Hid (r = (T.eraseP (mt k)).filter (mt k) ∧ (T.eraseP (mt k)).Sublist T ∧ (∀ l, l ≠ k → (T.eraseP (mt k)).filter (mt l) = T.filter (mt l)) ∧ (∃ g ∈ L, g.k = k)) := ⟨hr2, hsub, hoth, hthere⟩
  have HROW : Hid (∀ u, Below w.heap.size w u → Row u v1 m (tF r)) := fun u hb => by
    have := hsrow u _ (own_past hrow hb)
    rw [show tF (⟨sp, (⟨sj, si, sa, sc, sg, sn, st, su⟩ : Ak)⟩ :: r) = tnC ⟨sp, (⟨sj, si, sa, sc, sg, sn, st, su⟩ : Ak)⟩ ++ tF r from rfl] at this
    simpa [tnC, akC] using this
  clear h hkk hv hr1 hr2 hsub hoth hthere hrow hfind hcells hm hsrow
  go_enter Try.func14, Try.ntmps14
  go_wp2_with (first
    | (refine wpList_loadS _ rfl (.tmp 7) 37 rfl w.heap.size _ 37 rfl k0 ⟨_, Try.underlying37⟩ (by kernel_rfl) ?_)
    | (go_at_call 25; go_must (refine (hky _).mono ?_); rintro e w1 ⟨rfl, b1⟩; replace b0 := next b0 b1; replace k1 := k1.below b1; have k2 := Blk.new w1 #[.int .i64 k.1, .int .i64 k.2.1, .string k.2.2.1, .int .i64 k.2.2.2.1, .int .i64 k.2.2.2.2] 67; replace b0 := lay b0 (.cells #[.int .i64 k.1, .int .i64 k.2.1, .string k.2.2.1, .int .i64 k.2.2.2.1, .int .i64 k.2.2.2.2] 67); replace k1 := k1.alloc (.cells #[.int .i64 k.1, .int .i64 k.2.1, .string k.2.2.1, .int .i64 k.2.2.2.1, .int .i64 k.2.2.2.2] 67); have HS1 : Hid (St ((w1.alloc (.cells #[.int .i64 k.1, .int .i64 k.2.1, .string k.2.2.1, .int .i64 k.2.2.2.1, .int .i64 k.2.2.2.2] 67)).drew) gs most added b L T) := (HST.out.below b0).below (Below.refl _ _).drew; have hlk := HS1.out.hold.look HKK.out; rw [HV.out] at hlk; unfold kyV kyC at hlk; have c2 := HS1.out.blk.cell 2; have d0 := (k2.below (Below.refl _ _).drew).cell 0; have d1 := (k2.below (Below.refl _ _).drew).cell 1; have d2 := (k2.below (Below.refl _ _).drew).cell 2; have d3 := (k2.below (Below.refl _ _).drew).cell 3; have d4 := (k2.below (Below.refl _ _).drew).cell 4; simp only [List.getElem?_toArray, List.getElem?_cons_succ, List.getElem?_cons_zero] at c2 d0 d1 d2 d3 d4))
  go_region_held_law (fun q => q.cell? ⟨gs, 2, none⟩ = some (.map (some b)) ∧ q.cell? ⟨w1.heap.size, 0, none⟩ = some (.int .i64 k.1) ∧ q.cell? ⟨w1.heap.size, 1, none⟩ = some (.int .i64 k.2.1) ∧ q.cell? ⟨w1.heap.size, 2, none⟩ = some (.string k.2.2.1) ∧ q.cell? ⟨w1.heap.size, 3, none⟩ = some (.int .i64 k.2.2.2.1) ∧ q.cell? ⟨w1.heap.size, 4, none⟩ = some (.int .i64 k.2.2.2.2)) (exact ⟨c2, d0, d1, d2, d3, d4⟩) (fail)
  have hmz : (((m : Int) + 1) == 0) = false := by rw [beq_eq_false_iff_ne]; omega
  go_wp2
  have HS2 := HS1.out.below (Below.refl _ _).drew
  have B2 : Below w.heap.size w ((w1.alloc (.cells #[.int .i64 k.1, .int .i64 k.2.1, .string k.2.2.1, .int .i64 k.2.2.2.1, .int .i64 k.2.2.2.2] 67)).drew.drew) := b0.drew.drew
  have hkeep := keep_any HS2 HKK.out HM.out (HROW.out _ B2) HR.out.1 HR.out.2.1 HR.out.2.2.1 HR.out.2.2.2
  unfold kyV kyC at hkeep
  have K1 := (k1.below (Below.refl _ _).drew).below (Below.refl _ _).drew
  have K2 := (k2.below (Below.refl _ _).drew).below (Below.refl _ _).drew
  have x0 := K2.cell 0
  have x1 := K2.cell 1
  have x2 := K2.cell 2
  have x3 := K2.cell 3
  have x4 := K2.cell 4
  simp only [List.getElem?_toArray, List.getElem?_cons_succ, List.getElem?_cons_zero] at x0 x1 x2 x3 x4
  have HK2 : Hid (∀ u, Turn (fun q => q = b) (w1.alloc (.cells #[.int .i64 k.1, .int .i64 k.2.1, .string k.2.2.1, .int .i64 k.2.2.2.1, .int .i64 k.2.2.2.2] 67)).drew.drew u → (u.cell? ⟨w1.heap.size, 0, none⟩ = some (.int .i64 k.1) ∧ u.cell? ⟨w1.heap.size, 1, none⟩ = some (.int .i64 k.2.1) ∧ u.cell? ⟨w1.heap.size, 2, none⟩ = some (.string k.2.2.1) ∧ u.cell? ⟨w1.heap.size, 3, none⟩ = some (.int .i64 k.2.2.2.1) ∧ u.cell? ⟨w1.heap.size, 4, none⟩ = some (.int .i64 k.2.2.2.2)) ∧ Blk u (w.heap.size + 1) _ 35) := fun u ht => by
    have hbl := HST.out.hold.blt
    have hk2l := b1.size
    have hw := b0.size
    have q2 := ht.blk K2 (fun e => by have h9 := hw; have := (next (lay (lay (Below.refl w.heap.size w) _) _) b1).size; omega)
    exact ⟨⟨q2.cell 0, q2.cell 1, q2.cell 2, q2.cell 3, q2.cell 4⟩, ht.blk K1 (fun e => by omega)⟩
  have HLT : Hid (w.heap.size + 1 < (w1.alloc (.cells #[.int .i64 k.1, .int .i64 k.2.1, .string k.2.2.1, .int .i64 k.2.2.2.1, .int .i64 k.2.2.2.2] 67)).drew.drew.heap.size) := K1.lt
  clear HS2 hlk c2 d0 d1 d2 d3 d4 HROW HR HM HV HKK hky k0 k1 k2 K1 K2 HS1 b1
  go_region_with ((go_at_call 30; go_must (refine hkeep.mono ?_); rintro e w9 ⟨L', rfl, st9, t9, f9, -⟩; obtain ⟨s9, k9⟩ := HK2.out w9 t9))
  all_goals (
    have hTw := (Turn.of_below (S := fun q => q = b) B2).trans t9 (fun _ e => .inl e)
    obtain ⟨y1, y2, y3, y4, y5, y6, y7, y8⟩ := HCELL.out w9 hTw)
  all_goals (go_wp2_with (refine wpList_storeS _ rfl (.tmp 8) (.tmp 37) 35 rfl (w.heap.size + 1) _ _ 35 rfl rfl k9 (by kernel_rfl) rfl (by simp [Value.oneCell']) ?_; intro w10 k10 t10 _ _))
  all_goals (refine bodyPost_ret (v := .tuple #[.agg #[.int .i64 sj, .int .i64 si, .int .i64 sa, .string sc, .string sg, .string sn, .int .i64 st, .int .i64 su], .int .i64 0]) (ret_s1 rfl rfl rfl k10 ⟨_, Try.underlying35⟩ (by kernel_rfl)) rfl ⟨rfl, L', ?_, ?_, ?_⟩)
  all_goals (
    have hft : ∀ i, foot gs b L' i → i ≠ w.heap.size + 1 := fun i hi e => by
      rcases f9 i hi with h1 | h1
      · have := HST.out.footlt i h1; omega
      · have := HLT.out; omega
    first
    | exact st9.turn t10 (fun i hi e => hft i hi e)
    | exact ((Turn.of_below B2).trans t9 (fun i e => .inl (.inr (.inl e)))).trans t10 (fun i e => .inr (by omega))
    | (intro i hi; rcases f9 i hi with h1 | h1; exact .inl h1; exact .inr (by have := HLT.out; omega)))

end Ou
end Go.Proofs.Ytbldoplemfjcjaa
