/- GroupBack holds: of whatever records, a set's records grouped are that set. -/
import Derived.Test.YtdaegnmokaibpaaSeJ
import Derived.Test.YtdaegnmokaibpaaSeL
import Derived.Test.YtdaegnmokaibpaaInA
import Derived.ProofKit
import Derived.OpenShut
import Derived.ShutString
namespace Go.Proofs.Ytdaegnmokaibpaa.groupBack
open Go.ChangeShapes Go.WideShapes Go.ChangeAt Go.RowKit
open Go.ChangeMaps (open_string shut_string)
open Pl

/-- A set's records, and what Group gives of them. -/
theorem gb_rrs {B : Nat} {rs : List Rc} (hok : ∀ r ∈ rs, okR r = true) {s : Sn} (hs : s ∈ grpS rs) (hn : rs.length ≤ 64) (vd : Value) (u : World) (h : u.ownsRow B 9 1 vd s.ds.length (tC s.ds)) :
    Calls Try.prog 13 #[.agg #[.string s.n, .int .i64 s.t, .int .i64 s.l, vd]] u fun e w' => ∃ (y : Option Addr) (c : Nat), e = .returned (.slice y s.ds.length c) ∧ RRow w' (.slice y s.ds.length c) (rrsOf' s) ∧ Below u.heap.size u w' := by
  obtain ⟨_, _, _, hnm, _, hm⟩ := grp_facts hok hs
  have hd : ∀ d ∈ s.ds, d.size ≤ 65535 := fun d hd => by
    have h1 := hm d hd
    rw [← data_len]
    by_cases e : 65535 < d.data.toList.length
    · rw [may_long s.t e] at h1; simp at h1
    · omega
  have h255 := name_size hnm
  have hl := ((grpS_good rs).2 s hs).2
  refine (rrs_any s.n s.t s.l vd s.ds u (Row.of_own h) (by omega) (fun d h => by have := hd d h; omega) (by omega)).mono fun e w' ⟨y, c, h1, h2, h3⟩ => ?_
  refine ⟨y, c, h1, ⟨?_, small100 (by rw [rrsOf'_len]; omega), fun r hr => ?_⟩, h3⟩
  · rw [rrsOf'_len]; exact Row.of_own h2
  · obtain ⟨d, h4, rfl⟩ := List.mem_map.1 hr
    exact ⟨small100 (by show s.n.size ≤ 100000; omega), small100 (by show d.size ≤ 100000; have := hd d h4; omega)⟩
theorem gb_group {rs : List Rc} (hok : ∀ r ∈ rs, okR r = true) {s : Sn} (hs : s ∈ grpS rs) (hn : rs.length ≤ 64) (v : Value) (u : World) (h : RRow u v (rrsOf' s)) :
    Calls Try.prog 10 #[v] u fun e w' => ∃ (g c : Nat) (v2 : Value), e = .returned (.tuple #[.slice (some ⟨g, 0, none⟩) 1 c, .int .i64 0]) ∧ GS u.heap.size w' (.slice (some ⟨g, 0, none⟩) 1 c) [(s, v2)] ∧ Below u.heap.size u w' := by
  obtain ⟨h1, h2⟩ := grp_back hok hn hs
  refine (group_ok v (rrsOf' s) u h h1).mono fun e w' ⟨y, c, qs, k1, k2, k3, k4⟩ => ?_
  rw [h2] at k2
  obtain ⟨v2, rfl⟩ := ps_one k2
  obtain ⟨g, cap, hv, _, _⟩ := k3.own.form (by simp)
  simp only [Value.slice.injEq] at hv
  obtain ⟨rfl, -, rfl⟩ := hv
  exact ⟨g, c, v2, k1, k3, k4⟩
theorem one_cells {B : Nat} {w : World} {g c : Nat} {s : Sn} {v : Value} (h : GS B w (.slice (some ⟨g, 0, none⟩) 1 c) [(s, v)]) : w.cell? ⟨g, 0, none⟩ = some (.string s.n) ∧ w.cell? ⟨g, 1, none⟩ = some (.int .i64 s.t) ∧ w.cell? ⟨g, 2, none⟩ = some (.int .i64 s.l) ∧ w.cell? ⟨g, 3, none⟩ = some v :=
  (own_four h.own (k := 0) (by simp)).1
theorem bad_ok {rs : List Rc} (h : badG rs = false) : (∀ r ∈ rs, okR r = true) ∧ rs.length ≤ 64 := by
  unfold badG at h
  rw [Bool.or_eq_false_iff, decide_eq_false_iff_not, List.any_eq_false] at h
  exact ⟨fun r hr => by simpa using h.2 r hr, by omega⟩

set_option maxRecDepth 20000 in
set_option maxHeartbeats 2000000 in
theorem walk (v : Value) (rs : List Rc) (w : World) (hrow : RRow w v rs) :
    Calls Try.prog 5 #[v] w fun e w' => e = .returned (.bool true) ∧ Below w.heap.size w w' := by
  have hb : Below w.heap.size w w := Below.refl _ _
  have HR : Hid (RRow w v rs) := hrow
  obtain ⟨x, c, hv⟩ := row_slice hrow.1
  subst hv
  clear hrow
  cases hbad : badG rs with
  | true =>
    have G : Hid (∀ u : World, Below w.heap.size w u → Calls Try.prog 10 #[.slice x rs.length c] u fun e w' => e = .returned (.tuple #[.slice none 0 0, .int .i64 1100]) ∧ Below u.heap.size u w') := fun u hu => group_bad _ rs u (HR.out.below hu) hbad
    clear hbad
    go_enter Try.func5, Try.ntmps5
    go_wp2_with (first
      | (go_at_call 21; go_must (refine (awake_any _).mono ?_); rintro e w0 ⟨rfl, b0⟩; replace hb := next hb b0; clear b0)
      | (go_at_call 10; go_must (refine (G.out _ hb).mono ?_); rintro e w1 ⟨rfl, b1⟩; replace hb := next hb b1; clear b1)
      | (go_at_call 16; refine (num_any _ _).mono ?_; rintro e w' ⟨rfl, hw⟩; obtain rfl := hw.symm))
    go_ret
    exact ⟨rfl, hb⟩
  | false =>
    obtain ⟨hok, hn64⟩ := bad_ok hbad
    have HOK : Hid (∀ r ∈ rs, okR r = true) := hok
    have HN64 : Hid (rs.length ≤ 64) := hn64
    have G : Hid (∀ u : World, Below w.heap.size w u → Calls Try.prog 10 #[.slice x rs.length c] u fun e w' => ∃ (y : Option Addr) (N c : Nat) (ps : List (Sn × Value)), e = .returned (.tuple #[.slice y N c, .int .i64 0]) ∧ N ≤ 64 ∧ (N = ps.length ∧ ps.map Prod.fst = grpS rs) ∧ GS w.heap.size w' (.slice y N c) ps ∧ Below u.heap.size u w') := fun u hu => (group_ok _ rs u (HR.out.below hu) hbad).mono fun e w' ⟨y, c, ps, h1, h2, h3, h4⟩ => by
      have hl := (grpS_good rs).1
      rw [← h2, List.length_map] at hl
      exact ⟨y, ps.length, c, ps, h1, by omega, ⟨rfl, h2⟩, h3.base hu.size, h4⟩
    have t1 : True := trivial
    clear hbad hok hn64
    go_enter Try.func5, Try.ntmps5
    go_wp2_with (first
      | (go_at_call 21; go_must (refine (awake_any _).mono ?_); rintro e w0 ⟨rfl, b0⟩; replace hb := next hb b0; clear b0)
      | (go_at_call 10; go_must (refine (G.out _ hb).mono ?_); rintro e w1 ⟨y, N, cc, ps, rfl, hN, hps, hgs, b1⟩; have HPS : Hid (N = ps.length ∧ ps.map Prod.fst = grpS rs) := hps; have HG : Hid (GS w.heap.size w1 (.slice y N cc) ps) := hgs; replace hb := next hb b1; clear b1 hgs hps)
      | (go_at_call 16; refine (num_any _ _).mono ?_; rintro e w' ⟨rfl, hw⟩; obtain rfl := hw.symm))
    go_loopw [5] (fun i wr => ∃ k : Nat, k ≤ N ∧ i = .int .i64 (k : Int) ∧ Hid (GS w.heap.size wr (.slice y N cc) ps) ∧ Below w.heap.size w wr) (fun i _ => N - (intOf i).toNat)
    case atStart => exact ⟨0, Nat.zero_le _, rfl, HG, hb⟩
    case round =>
      clear HG hb
      obtain ⟨k, hk, rfl, HG, hb⟩ := hrel
      by_cases hkn : k < N
      · have hkn' : (k : Int) < (N : Int) := by omega
        have hkp : k < ps.length := by have := HPS.out.1; omega
        obtain ⟨g, cap2, hv, _, _⟩ := HG.out.own.form (by omega)
        simp only [Value.slice.injEq] at hv
        obtain ⟨rfl, -, rfl⟩ := hv
        obtain ⟨⟨a0, a1, a2, a3⟩, _⟩ := own_four HG.out.own hkp
        have hmem : ps[k].1 ∈ grpS rs := by rw [← HPS.out.2]; exact List.mem_map_of_mem (List.getElem_mem hkp)
        obtain ⟨M, hM⟩ : ∃ M, M = ps[k].1.ds.length := ⟨_, rfl⟩
        have R1 : Hid (∀ u : World, GS w.heap.size u (.slice (some ⟨g, 0, none⟩) N cc) ps → Calls Try.prog 13 #[.agg #[.string ps[k].1.n, .int .i64 ps[k].1.t, .int .i64 ps[k].1.l, ps[k].2]] u fun e w' => ∃ (y : Option Addr) (c : Nat), e = .returned (.slice y M c) ∧ RRow w' (.slice y M c) (rrsOf' ps[k].1) ∧ Below u.heap.size u w') := fun u hu => by
          rw [hM]
          exact gb_rrs HOK.out hmem HN64.out ps[k].2 u (hu.dat _ (List.getElem_mem hkp))
        have G2 : Hid (∀ (v : Value) (u : World), RRow u v (rrsOf' ps[k].1) → Calls Try.prog 10 #[v] u fun e w' => ∃ (g c : Nat) (v2 : Value), e = .returned (.tuple #[.slice (some ⟨g, 0, none⟩) 1 c, .int .i64 0]) ∧ GS u.heap.size w' (.slice (some ⟨g, 0, none⟩) 1 c) [(ps[k].1, v2)] ∧ Below u.heap.size u w') := fun v u hu => gb_group HOK.out hmem HN64.out v u hu
        have SM : Hid (∀ {u : World} {B : Nat} {v v2 : Value}, GS w.heap.size u (.slice (some ⟨g, 0, none⟩) N cc) ps → GS B u v [(ps[k].1, v2)] → Calls Try.prog 22 #[.agg #[.string ps[k].1.n, .int .i64 ps[k].1.t, .int .i64 ps[k].1.l, v2], .agg #[.string ps[k].1.n, .int .i64 ps[k].1.t, .int .i64 ps[k].1.l, ps[k].2]] u fun e w' => e = .returned (.bool true) ∧ Below u.heap.size u w') := fun {u B v v2} h1 h2 => by
          have hl := ((grpS_good rs).2 _ hmem).2
          have := HN64.out
          exact sameS_any _ _ _ v2 ps[k].1.ds _ _ _ ps[k].2 ps[k].1.ds u (h2.row (k := 0) (by simp)) (h1.row hkp) (small100 (by omega)) (small100 (by omega)) true (by simp)
        have C4 : Hid (∀ {u : World}, GS w.heap.size u (.slice (some ⟨g, 0, none⟩) N cc) ps → u.cell? ⟨g, k * 4, none⟩ = some (.string ps[k].1.n) ∧ u.cell? ⟨g, k * 4 + 1, none⟩ = some (.int .i64 ps[k].1.t) ∧ u.cell? ⟨g, k * 4 + 2, none⟩ = some (.int .i64 ps[k].1.l) ∧ u.cell? ⟨g, k * 4 + 3, none⟩ = some ps[k].2) := fun h => (own_four h.own hkp).1
        have C1 : Hid (∀ {u : World} {B g2 c : Nat} {v2 : Value}, GS B u (.slice (some ⟨g2, 0, none⟩) 1 c) [(ps[k].1, v2)] → u.cell? ⟨g2, 0, none⟩ = some (.string ps[k].1.n) ∧ u.cell? ⟨g2, 1, none⟩ = some (.int .i64 ps[k].1.t) ∧ u.cell? ⟨g2, 2, none⟩ = some (.int .i64 ps[k].1.l) ∧ u.cell? ⟨g2, 3, none⟩ = some v2) := fun h => one_cells h
        have hsh := row_shape (HG.out.dat _ (List.getElem_mem hkp))
        have hshape : ∀ {B g2 c : Nat} {u : World} {v2 : Value}, GS B u (.slice (some ⟨g2, 0, none⟩) 1 c) [(ps[k].1, v2)] → ∃ y c', v2 = .slice y M c' := fun {B g2 c u v2} h => by
          have := row_shape (h.dat (ps[k].1, v2) (by simp))
          rw [hM]
          exact this
        have HSH : Hid (∀ {B g2 c : Nat} {u : World} {v2 : Value}, GS B u (.slice (some ⟨g2, 0, none⟩) 1 c) [(ps[k].1, v2)] → ∃ y c', v2 = .slice y M c') := hshape
        obtain ⟨s, hs⟩ : ∃ z, z = ps[k].1 := ⟨_, rfl⟩
        obtain ⟨sv, hsv⟩ : ∃ z, z = ps[k].2 := ⟨_, rfl⟩
        simp only [← hs, ← hsv] at a0 a1 a2 a3 R1 G2 SM C4 C1 HSH hsh
        obtain ⟨ys, cs, hsv2⟩ := hsh
        subst hsv2
        obtain ⟨sn, hsn⟩ : ∃ z, z = s.n := ⟨_, rfl⟩
        obtain ⟨st, hst⟩ : ∃ z, z = s.t := ⟨_, rfl⟩
        obtain ⟨sl, hsl⟩ : ∃ z, z = s.l := ⟨_, rfl⟩
        simp only [← hsn, ← hst, ← hsl] at a0 a1 a2 a3 R1 SM C4 C1
        clear hmem hs hsv hsn hst hsl hM hshape
        go_wp2_with (first
          | (go_at_call 13; go_must (refine (R1.out _ HG.out).mono ?_); rintro e w2 ⟨y2, c2, rfl, hr2, b2⟩; have HR2 : Hid (RRow w2 (.slice y2 M c2) (rrsOf' s)) := hr2; replace HG : Hid (GS w.heap.size w2 (.slice (some ⟨g, 0, none⟩) N cc) ps) := HG.out.below b2; replace hb := next hb b2; clear b2 hr2)
          | (go_at_call 10; go_must (refine (G2.out _ _ HR2.out).mono ?_); rintro e w3 ⟨g3, c3, v3, rfl, gs3, b3⟩; have HG3 : Hid (GS w2.heap.size w3 (.slice (some ⟨g3, 0, none⟩) 1 c3) [(s, v3)]) := gs3; replace HG : Hid (GS w.heap.size w3 (.slice (some ⟨g, 0, none⟩) N cc) ps) := HG.out.below b3; replace hb := next hb b3; obtain ⟨y3, c4, hv3⟩ := HSH.out HG3.out; subst hv3; clear b3 gs3 a0 a1 a2 a3))
        have a0 : ∀ nb : Bel w3, nb.to.cell? ⟨g, k * 4, none⟩ = some (.string sn) := fun nb => (C4.out (HG.out.below nb.h)).1
        have a1 : ∀ nb : Bel w3, nb.to.cell? ⟨g, k * 4 + 1, none⟩ = some (.int .i64 st) := fun nb => (C4.out (HG.out.below nb.h)).2.1
        have a2 : ∀ nb : Bel w3, nb.to.cell? ⟨g, k * 4 + 2, none⟩ = some (.int .i64 sl) := fun nb => (C4.out (HG.out.below nb.h)).2.2.1
        have a3 : ∀ nb : Bel w3, nb.to.cell? ⟨g, k * 4 + 3, none⟩ = some (.slice ys _ cs) := fun nb => (C4.out (HG.out.below nb.h)).2.2.2
        have e0 : ∀ nb : Bel w3, nb.to.cell? ⟨g3, 0, none⟩ = some (.string sn) := fun nb => (C1.out (HG3.out.below nb.h)).1
        have e1 : ∀ nb : Bel w3, nb.to.cell? ⟨g3, 1, none⟩ = some (.int .i64 st) := fun nb => (C1.out (HG3.out.below nb.h)).2.1
        have e2 : ∀ nb : Bel w3, nb.to.cell? ⟨g3, 2, none⟩ = some (.int .i64 sl) := fun nb => (C1.out (HG3.out.below nb.h)).2.2.1
        have e3 : ∀ nb : Bel w3, nb.to.cell? ⟨g3, 3, none⟩ = some (.slice y3 M c4) := fun nb => (C1.out (HG3.out.below nb.h)).2.2.2
        have S1 := fun nb : Bel w3 => SM.out (HG.out.below nb.h) (HG3.out.below nb.h)
        refine wp_region_bel (by kernel_rfl) (by kernel_rfl) (fun _ => ?_)
        repeat (go_big_quiet_step (first
          | (go_at_call 16; go_must (exact bel_same (num_any _ _)))
          | (go_at_call 22; go_must (exact bel_lays (S1 _)))))
        refine wpQuiet_nil ?_
        intro wn hwn
        have hbn := bel_out hwn
        have HGN : Hid (GS w.heap.size wn (.slice (some ⟨g, 0, none⟩) N cc) ps) := HG.out.below hbn
        replace hb := next hb hbn
        clear hwn hbn a0 a1 a2 a3 e0 e1 e2 e3 S1 HG HG3
        go_wp2
        go_roundw
        case rel => exact ⟨k + 1, by omega, by go_num, HGN, hb⟩
        case measure => simp [intOf]; omega
      · have hkn' : decide (k < N) = false := by simpa using hkn
        go_wp2
        go_ret
        exact ⟨rfl, hb⟩

theorem own : ownKnob Try.prog.godebug = none := by kernel_rfl
theorem laidOut : laidOutB Try.prog = true := by kernel_rfl

set_option maxRecDepth 100000 in
theorem lifted (os : Os) (started : os.Started) (H : Type) (enc : TypeId × Value → H) :
    ReturnsInHanded {} Try.checked os 5 .any (Rows.groupBackSpec.pre6 enc Try.prog Try.f5 Rows.groupBackRow.domain false) (Rows.groupBackSpec.post enc Try.prog Try.f5 false true false false) := by
  refine returnsInHanded_of_change (C := Try.checked) own started (by kernel_rfl) Try.func5
    (ChangeSpec.witness6 (enc := enc) (C := Try.checked) false ⟨#[], #[.slice none 0 0], []⟩ 8 (by kernel_rfl) (by kernel_rfl) (by kernel_rfl) (by kernel_rfl)) ?_
  intro W base args ds gs before hval0 hW _ _
  have hval : ∀ (j : Nat) t v, Try.f5.params[j]? = some t → args[j]? = some v → Value.okWide Try.prog W .any base t v := hval0
  have hW' := hW
  obtain ⟨p, q, hA0, hV, rfl, hfz, hnd⟩ := hW
  have hA : DataW.TrodAll enc Try.prog W 0 (fun _ => true) true Try.f5.params.toList args.toList ds p := hA0
  rw [Try.params5] at hA hval
  obtain ⟨v0, vs0, d0, ds0, p0, q0, hargs, rfl, rfl, h0, r0⟩ := trodAll_cons hA
  obtain ⟨rfl, rfl, rfl⟩ := trodAll_nil r0
  obtain rfl : args = #[v0] := by cases args; simp_all
  obtain ⟨rfl, rfl⟩ := trodVars_none hV
  obtain ⟨a0, w0⟩ := open_rrs (hval 0 22 v0 rfl rfl) h0
  have hlt0 : ∀ x ∈ p0, x.block < W.heap.size := fun x hx => by
    have := hW'.lt x (by simp [hx])
    simpa using this
  clear hA0 hval0
  simp only [List.append_nil] at hW'
  refine (walk v0 a0  W w0).mono fun e W' ⟨he, bel⟩ => ?_
  subst he
  exact ⟨_, rfl, _, _, _, [], _, [], hW', trodAll_mk1 (shut_bool Try.underlying4 _), (trodAll_cons_mk (Below.trod laidOut (by kernel_rfl) (of_decide_eq_true (by kernel_rfl)) h0 bel hlt0) trodAll_mk0), rfl, bel.frame _, fun h => by cases h⟩

/-- The statement. -/
theorem proved : Rows.GroupBackSaid :=
  OpenClaim.holds_of_wide 5 Try.f5 rfl rfl rfl rfl rfl rfl rfl ⟨rfl, rfl, rfl, rfl, rfl⟩ rfl rfl rfl rfl rfl (by kernel_rfl) Try.func5 (by kernel_rfl)
    (of_decide_eq_true (by kernel_rfl)) (by unfold Func.isWrapper; first | (rw [if_pos (by decide +kernel)]; kernel_rfl) | (rw [if_neg (by decide +kernel)]; exact ⟨rfl, rfl⟩))
    (fun os started H enc _ => lifted os started H enc)
#print axioms proved

end Go.Proofs.Ytdaegnmokaibpaa.groupBack
