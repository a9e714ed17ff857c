/- GroupTtls holds: a set of records of any Ttls lasts as long as the least of them, at most MaxTtl, and loses none. -/
import Derived.Test.YtdaegnmokaibpaaSeJ
import Derived.Test.YtdaegnmokaibpaaSeL
import Derived.Test.YtdaegnmokaibpaaInA
import Derived.ProofKit
import Derived.OpenShut
import Derived.ShutString
namespace Go.Proofs.Ytdaegnmokaibpaa.groupTtls
open Go.ChangeShapes Go.WideShapes Go.ChangeAt Go.RowKit
open Go.ChangeMaps (open_string shut_string)
open Pl

/-- The record of a number, by its place. -/
def rT (ps : List Int) (i : Nat) : Rc := ⟨⟨#[1, 97, 0]⟩, 1, 1, (ps.getD i 0) % 4294967296, ⟨#[97, 98, 99]⟩ ++ ⟨#[UInt8.ofNat i]⟩⟩
def rsT (ps : List Int) (j : Nat) : List Rc := (List.range j).map (rT ps)
theorem rsT_len (ps : List Int) (j : Nat) : (rsT ps j).length = j := by simp [rsT]
theorem rsT_succ (ps : List Int) (j : Nat) : rsT ps (j + 1) = rsT ps j ++ [rT ps j] := by simp [rsT, List.range_succ]
theorem data_list (i : Nat) : ((⟨#[97, 98, 99]⟩ : ByteArray) ++ ⟨#[UInt8.ofNat i]⟩).data.toList = [97, 98, 99, UInt8.ofNat i] := by simp
theorem data_size (i : Nat) : ((⟨#[97, 98, 99]⟩ : ByteArray) ++ ⟨#[UInt8.ofNat i]⟩).size = 4 := by
  rw [← data_len, data_list]; rfl
theorem name_a : isName [1, 97, 0] = true := by decide +kernel
theorem fold_a : foldB ⟨#[1, 97, 0]⟩ = ⟨#[1, 97, 0]⟩ := by kernel_rfl
theorem rT_ok (ps : List Int) (i : Nat) : okR (rT ps i) = true := by
  unfold okR rT
  simp only
  rw [data_list, show mayD 1 [97, 98, 99, UInt8.ofNat i] = true from by rw [may_1]; rfl]
  rw [show isName (⟨#[1, 97, 0]⟩ : ByteArray).data.toList = true from name_a]
  unfold inB
  simp
  omega
theorem rsT_good {ps : List Int} {j : Nat} (hj : j ≤ 64) : badG (rsT ps j) = false := by
  unfold badG
  rw [Bool.or_eq_false_iff, decide_eq_false_iff_not, List.any_eq_false]
  refine ⟨by rw [rsT_len]; omega, fun r hr => ?_⟩
  obtain ⟨i, _, rfl⟩ := List.mem_map.1 hr
  rw [rT_ok]; simp
theorem rsT_grp (ps : List Int) {j : Nat} (hj : 0 < j) : grpS (rsT ps j) = [⟨⟨#[1, 97, 0]⟩, 1, minL 86400 (rsT ps j), insAll [] (rsT ps j)⟩] :=
  grp_one _ (fun e => by have := congrArg List.length e; rw [rsT_len] at this; simp at this; omega) (fun r hr => by
    obtain ⟨i, _, rfl⟩ := List.mem_map.1 hr
    exact ⟨rfl, fold_a, rfl⟩)
theorem rises_nodup {ds : List ByteArray} (h : Rises ds) : ds.Nodup := List.Pairwise.imp (fun {a b} hab e => by rw [e, ltB_irr] at hab; cases hab) h
theorem ins_len : ∀ (ps : List Int) (j : Nat), j ≤ 64 → (insAll [] (rsT ps j)).length = j := by
  intro ps j
  induction j with
  | zero => intro _; rfl
  | succ j ih =>
    intro hj
    have h1 := ih (by omega)
    rw [rsT_succ, insAll_snoc, insB_at]
    rw [if_neg]
    · have := posB_le (rT ps j).d (insAll [] (rsT ps j))
      rw [List.length_append, List.length_cons, List.length_take, List.length_drop]
      omega
    · intro e
      have hm : (rT ps j).d ∈ insAll [] (rsT ps j) := List.mem_of_getElem? e
      rcases (insAll_mem _).1 hm with h | ⟨r, h2, h3⟩
      · simp at h
      · obtain ⟨i, h4, rfl⟩ := List.mem_map.1 h2
        have h5 := congrArg (fun x : ByteArray => x.data.toList) h3
        unfold rT at h5
        simp only [data_list] at h5
        simp only [List.cons.injEq, and_true, true_and] at h5
        have hi : i < j := List.mem_range.1 h4
        have h6 := congrArg UInt8.toNat h5
        rw [UInt8.toNat_ofNat', UInt8.toNat_ofNat'] at h6
        omega
theorem one_str' (j : Nat) (u : World) (hj : j < 256) : (convert 55 9 (.slice (some ⟨u.heap.size, 0, none⟩) 1 1)).run Try.prog (u.alloc (.cells #[.int .u8 (j : Int)] 5)) = .ok (.string ⟨#[UInt8.ofNat j]⟩) (u.alloc (.cells #[.int .u8 (j : Int)] 5)) := by
  refine run_convert_bytes_back _ 55 9 5 ⟨u.heap.size, 0, none⟩ 1 [UInt8.ofNat j] Try.underlying55 Try.underlying5 Try.underlying9 fun i hi => ?_
  obtain rfl : i = 0 := by simp at hi; omega
  have e : (⟨u.heap.size, 0, none⟩ : Addr).add 0 = ⟨u.heap.size, 0, none⟩ := by unfold Addr.add; split <;> simp_all
  rw [e, (Blk.new u _ 5).cell 0]
  have : (UInt8.ofNat j).toNat = j := by rw [UInt8.toNat_ofNat']; omega
  simp [this]
/-- What Group gives of them. -/
theorem gt_group {B : Nat} (ps : List Int) (j : Nat) (hj : j ≤ 64) (v : Value) (u : World) (h : u.ownsRow B 43 5 v j (rC (rsT ps j))) (h0 : 0 < j) : Calls Try.prog 10 #[v] u fun e w' => ∃ (g c : Nat) (y : Option Addr) (c' : Nat), e = .returned (.tuple #[.slice (some ⟨g, 0, none⟩) 1 c, .int .i64 0]) ∧ (w'.cell? ⟨g, 2, none⟩ = some (.int .i64 (minL 86400 (rsT ps j))) ∧ w'.cell? ⟨g, 3, none⟩ = some (.slice y j c')) ∧ Below u.heap.size u w' := by
  have hr : RRow u v (rsT ps j) := by
    have h1 := Row.of_own h
    refine ⟨by rw [rsT_len]; exact h1, small100 (by rw [rsT_len]; omega), fun r hr => ?_⟩
    obtain ⟨i, _, rfl⟩ := List.mem_map.1 hr
    exact ⟨small100 (by show 3 ≤ 100000; decide), small100 (by show (rT ps i).d.size ≤ 100000; unfold rT; simp only; rw [data_size]; decide)⟩
  refine (group_ok v (rsT ps j) u hr (rsT_good hj)).mono fun e w' ⟨y, c, qs, h1, h2, h3, h4⟩ => ?_
  rw [rsT_grp ps h0] at h2
  obtain ⟨v1, rfl⟩ := ps_one h2
  obtain ⟨g, cap, hv, _, _⟩ := h3.own.form (by simp)
  simp only [Value.slice.injEq] at hv
  obtain ⟨rfl, -, rfl⟩ := hv
  have hd := h3.dat (⟨⟨#[1, 97, 0]⟩, 1, minL 86400 (rsT ps j), insAll [] (rsT ps j)⟩, v1) (by simp)
  obtain ⟨y, c', hv⟩ := row_shape hd
  simp only [ins_len ps j hj] at hv
  subst hv
  exact ⟨g, c, y, c', h1, ⟨(own_four h3.own (k := 0) (by simp)).1.2.2.1, (own_four h3.own (k := 0) (by simp)).1.2.2.2⟩, h4⟩
theorem gt_none (v : Value) (u : World) (h : Row u v 0 (rC [])) : Calls Try.prog 10 #[v] u fun e w' => ∃ (y : Option Addr) (c : Nat), e = .returned (.tuple #[.slice y 0 c, .int .i64 0]) ∧ Below u.heap.size u w' :=
  (group_ok v [] u ⟨h, by decide, fun r hr => by simp at hr⟩ rfl).mono fun e w' ⟨y, c, qs, h1, h2, _, h4⟩ => by
    have : qs = [] := by simpa [grpS] using h2
    subst this
    exact ⟨y, c, h1, h4⟩

set_option maxRecDepth 20000 in
set_option maxHeartbeats 2000000 in
theorem walk (v : Value) (ps : List Int) (w : World) (hrow : Row w v ps.length (iC ps) ∧ ps.length ≤ maxLen) :
    Calls Try.prog 8 #[v] w fun e w' => e = .returned (.bool true) ∧ Below w.heap.size w w' := by
  obtain ⟨i0, hi, hz0, hz1, hz2⟩ := info_parts infoR'
  obtain ⟨hrow, hmx⟩ := hrow
  obtain ⟨n, hn⟩ : ∃ n, n = ps.length := ⟨_, rfl⟩
  obtain ⟨x, c, hv⟩ := row_slice hrow
  rw [← hn] at hv
  subst hv
  have HN : Hid (n = ps.length) := hn
  have HR : Hid (Row w (.slice x n c) ps.length (iC ps)) := hrow
  have hnm : n ≤ maxLen := by rw [hn]; exact hmx
  unfold maxLen at hnm
  have hb : Below w.heap.size w w := Below.refl _ _
  clear hrow hn hmx
  go_enter Try.func8, Try.ntmps8
  go_wp2_with (go_at_call 21; go_must (refine (awake_any _).mono ?_); rintro e w0 ⟨rfl, b0⟩; replace hb := next hb b0; clear b0)
  go_loopw [3, 4, 5] (fun av lv iv wr => ∃ (j N c1 : Nat) (y : Option Addr) (L : Int), av = .slice y N c1 ∧ lv = .int .i64 L ∧ iv = .int .i64 (j : Int) ∧ j ≤ n ∧ j ≤ 64 ∧ Hid (N = j ∧ L = minL 86400 (rsT ps j)) ∧ Hid (wr.ownsRow w.heap.size 43 5 (.slice y N c1) j (rC (rsT ps j))) ∧ Below w.heap.size w wr) (fun _ _ i _ => 64 - (intOf i).toNat)
  case atStart => exact ⟨0, 0, 0, none, 86400, rfl, rfl, rfl, Nat.zero_le _, Nat.zero_le _, ⟨rfl, rfl⟩, World.ownsRow_nil _ _ _ _, hb⟩
  case round =>
    clear hb
    obtain ⟨j, N, c1, y, L, rfl, rfl, rfl, hjn, hj4, HJ, HO, hb⟩ := hrel
    by_cases hlt : j < n ∧ j < 64
    · obtain ⟨hj, h4⟩ := hlt
      have hj' : (j : Int) < (n : Int) := by omega
      have h4' : (j : Int) < 64 := by omega
      have hjm : j < ps.length := by have := HN.out; omega
      obtain ⟨gp, op, cp, hx, hc⟩ := row_at (HR.out.below hb) (by omega)
      simp only [Value.slice.injEq] at hx
      obtain ⟨rfl, -, rfl⟩ := hx
      have e0 := hc j _ (iC_at hjm)
      obtain ⟨p, hp⟩ : ∃ p, p = ps[j] := ⟨_, rfl⟩
      have HP : Hid (p = ps[j]) := hp
      rw [← hp] at e0
      have hmk := mask32 p
      obtain ⟨t, ht⟩ : ∃ t, p % 4294967296 = t := ⟨_, rfl⟩
      rw [ht] at hmk
      obtain ⟨X, hX⟩ : ∃ X : ByteArray, ⟨#[UInt8.ofNat j]⟩ = X := ⟨_, rfl⟩
      obtain ⟨D, hD⟩ : ∃ D : ByteArray, (⟨#[97, 98, 99]⟩ : ByteArray) ++ X = D := ⟨_, rfl⟩
      have hXs : X.size = 1 := by rw [← hX]; rfl
      have cv := one_str' j wr (by omega)
      rw [hX] at cv
      have zz : ∀ u : World, (Op.stringOp .add ⟨#[97, 98, 99]⟩ X).run Try.prog u = .ok (.string D) u := fun u => by rw [← hD]; exact run_string_add_sum u _ X (by rw [hXs]; decide)
      have HREC : Hid (rsT ps (j + 1) = rsT ps j ++ [⟨⟨#[1, 97, 0]⟩, 1, 1, t, D⟩]) := by
        unfold Hid
        rw [rsT_succ]
        unfold rT
        rw [show ps.getD j 0 = p from by rw [HP.out, List.getD_eq_getElem?_getD, List.getElem?_eq_getElem hjm]; rfl, ht, hX, hD]
      have HL : Hid (min L t = minL 86400 (rsT ps (j + 1))) := by unfold Hid; rw [HREC.out, minL_snoc, HJ.out.2]
      have hrow1 : ∀ u : World, Row (u.alloc (.cells #[.string ⟨#[1, 97, 0]⟩, .int .i64 1, .int .i64 1, .int .i64 t, .string D] 43)) (.slice (some ⟨u.heap.size, 0, none⟩) 1 1) 1 (rV ⟨⟨#[1, 97, 0]⟩, 1, 1, t, D⟩) := fun u => Row.of_blk (Blk.new u #[.string ⟨#[1, 97, 0]⟩, .int .i64 1, .int .i64 1, .int .i64 t, .string D] 43) rfl 1 1
      have hrow2 := hrow1 (wr.alloc (.cells #[.int .u8 (j : Int)] 5))
      rw [World.size_alloc] at hrow2
      have HO2 : Hid (((wr.alloc (.cells #[.int .u8 (j : Int)] 5)).alloc (.cells #[.string ⟨#[1, 97, 0]⟩, .int .i64 1, .int .i64 1, .int .i64 t, .string D] 43)).ownsRow w.heap.size 43 5 (.slice y N c1) j (rC (rsT ps j))) := (HO.out.alloc _).alloc _
      have hsz : w.heap.size ≤ ((wr.alloc (.cells #[.int .u8 (j : Int)] 5)).alloc (.cells #[.string ⟨#[1, 97, 0]⟩, .int .i64 1, .int .i64 1, .int .i64 t, .string D] 43)).heap.size := (lay (lay hb _) _).size
      have HB2 : Hid (Below w.heap.size w ((wr.alloc (.cells #[.int .u8 (j : Int)] 5)).alloc (.cells #[.string ⟨#[1, 97, 0]⟩, .int .i64 1, .int .i64 1, .int .i64 t, .string D] 43))) := lay (lay hb _) _
      have hone : ∀ u ∈ rV ⟨⟨#[1, 97, 0]⟩, 1, 1, t, D⟩, u.oneCell' = true := fun u hu => rC_one [⟨⟨#[1, 97, 0]⟩, 1, 1, t, D⟩] u (by simpa [rC] using hu)
      clear hc hp ht hX hD HO HP
      go_wp2_with (at_builtin; refine wpList_appG _ rfl (.tmp 29) (.tmp 37) 22 43 i0 _ 5 56 Try.underlying22 hi hz0 hz1 hz2 rfl (by decide) rfl w.heap.size _ j (rC (rsT ps j)) rfl HO2.out _ 1 (rV ⟨⟨#[1, 97, 0]⟩, 1, 1, t, D⟩) rfl hrow2 rfl hone (by omega) (by unfold maxLen; omega) hsz ?_; intro v3 w3 h1 h3 _; obtain ⟨y3, c3, hv3⟩ := row_shape h1; subst hv3; have O3 : Hid (w3.ownsRow w.heap.size 43 5 (.slice y3 (j + 1) c3) (j + 1) (rC (rsT ps j) ++ rV ⟨⟨#[1, 97, 0]⟩, 1, 1, t, D⟩)) := h1; have B3 : Hid (Below w.heap.size w w3) := HB2.out.grown h3 HB2.out.size (fun k e => (HO2.out.lt k e).1); clear h1 h3)
      go_roundw
      case rel => exact ⟨j + 1, j + 1, c3, y3, _, rfl, rfl, by go_num, by omega, by omega, ⟨rfl, HL.out⟩, by unfold Hid; rw [HREC.out, rC_app]; simpa [rC] using O3.out, B3.out⟩
      case measure => simp [intOf]; omega
    · obtain ⟨rfl, HLL⟩ : N = j ∧ Hid (L = minL 86400 (rsT ps j)) := HJ.out
      by_cases h0 : N = 0
      · subst h0
        have G := gt_none (.slice y 0 c1) wr (Row.of_own HO.out)
        by_cases hj : 0 < n
        · exact absurd ⟨hj, by decide⟩ hlt
        · obtain rfl : n = 0 := by omega
          clear hlt hj
          go_wp2_with (first
            | (go_at_call 10; go_must (refine G.mono ?_); rintro e w3 ⟨y3, c3, rfl, b3⟩; replace hb := next hb b3; clear b3)
            | (go_at_call 16; refine (num_any _ _).mono ?_; rintro e w' ⟨rfl, hw⟩; obtain rfl := hw.symm))
          go_ret
          exact ⟨ret_bool (by simp), hb⟩
      · have G := gt_group ps N hj4 (.slice y N c1) wr HO.out (by omega)
        rw [← HLL.out] at G
        have h0' : ((N : Int) == 0) = false := by rw [beq_eq_false_iff_ne]; omega
        by_cases hj : N < n
        · have hj' : (N : Int) < (n : Int) := by omega
          have h4 : decide ((N : Int) < 64) = false := by simp; omega
          clear hlt
          go_wp2_with (first
            | (go_at_call 10; go_must (refine G.mono ?_); rintro e w3 ⟨g, c3, y3, c4, rfl, ⟨q2, q3⟩, b3⟩; replace hb := next hb b3; clear b3)
            | (go_at_call 16; refine (num_any _ _).mono ?_; rintro e w' ⟨rfl, hw⟩; obtain rfl := hw.symm))
          go_ret
          exact ⟨ret_bool (by simp), hb⟩
        · have hj' : decide ((N : Int) < (n : Int)) = false := by simp; omega
          clear hlt
          go_wp2_with (first
            | (go_at_call 10; go_must (refine G.mono ?_); rintro e w3 ⟨g, c3, y3, c4, rfl, ⟨q2, q3⟩, b3⟩; replace hb := next hb b3; clear b3)
            | (go_at_call 16; refine (num_any _ _).mono ?_; rintro e w' ⟨rfl, hw⟩; obtain rfl := hw.symm))
          go_ret
          exact ⟨ret_bool (by simp), hb⟩

theorem own : ownKnob Try.prog.godebug = none := by kernel_rfl
theorem laidOut : laidOutB Try.prog = true := by kernel_rfl

set_option maxRecDepth 100000 in
theorem lifted (os : Os) (started : os.Started) (H : Type) (enc : TypeId × Value → H) :
    ReturnsInHanded {} Try.checked os 8 .any (Rows.groupTtlsSpec.pre6 enc Try.prog Try.f8 Rows.groupTtlsRow.domain false) (Rows.groupTtlsSpec.post enc Try.prog Try.f8 false true false false) := by
  refine returnsInHanded_of_change (C := Try.checked) own started (by kernel_rfl) Try.func8
    (ChangeSpec.witness6 (enc := enc) (C := Try.checked) false ⟨#[], #[.slice none 0 0], []⟩ 8 (by kernel_rfl) (by kernel_rfl) (by kernel_rfl) (by kernel_rfl)) ?_
  intro W base args ds gs before hval0 hW _ _
  have hval : ∀ (j : Nat) t v, Try.f8.params[j]? = some t → args[j]? = some v → Value.okWide Try.prog W .any base t v := hval0
  have hW' := hW
  obtain ⟨p, q, hA0, hV, rfl, hfz, hnd⟩ := hW
  have hA : DataW.TrodAll enc Try.prog W 0 (fun _ => true) true Try.f8.params.toList args.toList ds p := hA0
  rw [Try.params8] at hA hval
  obtain ⟨v0, vs0, d0, ds0, p0, q0, hargs, rfl, rfl, h0, r0⟩ := trodAll_cons hA
  obtain ⟨rfl, rfl, rfl⟩ := trodAll_nil r0
  obtain rfl : args = #[v0] := by cases args; simp_all
  obtain ⟨rfl, rfl⟩ := trodVars_none hV
  obtain ⟨a0, w0⟩ := open_irow (hval 0 49 v0 rfl rfl) h0
  have hlt0 : ∀ x ∈ p0, x.block < W.heap.size := fun x hx => by
    have := hW'.lt x (by simp [hx])
    simpa using this
  clear hA0 hval0
  simp only [List.append_nil] at hW'
  refine (walk v0 a0  W w0).mono fun e W' ⟨he, bel⟩ => ?_
  subst he
  exact ⟨_, rfl, _, _, _, [], _, [], hW', trodAll_mk1 (shut_bool Try.underlying4 _), (trodAll_cons_mk (Below.trod laidOut (by kernel_rfl) (of_decide_eq_true (by kernel_rfl)) h0 bel hlt0) trodAll_mk0), rfl, bel.frame _, fun h => by cases h⟩

/-- The statement. -/
theorem proved : Rows.GroupTtlsSaid :=
  OpenClaim.holds_of_wide 8 Try.f8 rfl rfl rfl rfl rfl rfl rfl ⟨rfl, rfl, rfl, rfl, rfl⟩ rfl rfl rfl rfl rfl (by kernel_rfl) Try.func8 (by kernel_rfl)
    (of_decide_eq_true (by kernel_rfl)) (by unfold Func.isWrapper; first | (rw [if_pos (by decide +kernel)]; kernel_rfl) | (rw [if_neg (by decide +kernel)]; exact ⟨rfl, rfl⟩))
    (fun os started H enc _ => lifted os started H enc)
#print axioms proved

end Go.Proofs.Ytdaegnmokaibpaa.groupTtls
