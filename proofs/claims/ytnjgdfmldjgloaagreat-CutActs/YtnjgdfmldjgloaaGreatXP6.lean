/- The live bindings of a row, one by one: row.live, walk. -/
import Derived.Test.YtnjgdfmldjgloaaGreatXP5
namespace Go.Proofs.YtnjgdfmldjgloaaGreat
open Go.RowKit Go.Shelf
open Pl
namespace Cu
attribute [local go_sem] Oper.semAt_some

theorem RawAt.same {w w' : World} {b : CB} {c : Ct} {xs : List (List Int)} (h : RawAt w b c xs) (hblk : ∀ k, foot b k → w'.heap[k]? = w.heap[k]?) : RawAt w' b c xs := by
  have hrow : ∀ {e z m : Nat} {v : Value} {ys : List Value}, w.ownsRow 0 e z v m ys → (∀ k, v.ownBlock = some k → foot b k) → w'.ownsRow 0 e z v m ys := by
    intro e z m v ys ho hs
    refine ⟨ho.1, ?_⟩
    rcases ho.2 with h0 | ⟨g, cap, cur, rfl, hb, hg, rest⟩
    · exact .inl h0
    · exact .inr ⟨g, cap, cur, rfl, hb, by rw [hblk g (hs g rfl)]; exact hg, rest⟩
  refine ⟨?_, hrow h.hosts (fun k hk => .inr hk), hrow h.held (fun k hk => .inl (.inr (.inl hk))), hrow h.til (fun k hk => .inl (.inr (.inr (.inl hk)))), h.lv.1, fun i v us h1 h2 => hrow (h.lv.2.1 i v us h1 h2) (fun k hk => .inl (.inr (.inr (.inr ⟨v, List.mem_of_getElem? h1, hk⟩)))), h.lv.2.2⟩
  have := h.blk
  unfold Blk at this ⊢
  rw [hblk _ (.inl (.inl rfl))]
  exact this
theorem CutAt.same {w w' : World} {b : CB} {c : Ct} (h : CutAt w b c) (hblk : ∀ k, foot b k → w'.heap[k]? = w.heap[k]?) : CutAt w' b c := ⟨h.raw.same hblk, h.ok⟩
/-- A binding whose host is one of so many. -/
abbrev BdH (H : Nat) := { x : Bd // x.h < H }
def encB {H : Nat} (z : BdH H) : Array Value := #[.agg #[.int .i64 (z.1.h : Int), .int .i64 z.1.a, .int .i64 z.1.u]]
def liveZ {H : Nat} (now : Int) (zs : List (BdH H)) : List (BdH H) := zs.filter fun z => decide (now < z.1.u)
theorem liveZ_map {H : Nat} (now : Int) (zs : List (BdH H)) : (liveZ now zs).map Subtype.val = liveB now (zs.map Subtype.val) := by
  unfold liveZ liveB
  rw [List.filter_map]; rfl
def zsOf {H : Nat} (bs : List Bd) (h : ∀ x ∈ bs, x.h < H) : List (BdH H) := bs.attach.map fun x => ⟨x.1, h x.1 x.2⟩
theorem zsOf_map {H : Nat} (bs : List Bd) (h : ∀ x ∈ bs, x.h < H) : (zsOf bs h).map Subtype.val = bs := by
  unfold zsOf
  rw [List.map_map]
  exact List.attach_map_subtype_val bs
theorem sC_at {bs : List Bd} {j : Nat} (hj : j < bs.length) : (sC bs)[j * 2]? = some (.int .i64 (bs[j].h : Int)) ∧ (sC bs)[j * 2 + 1]? = some (.int .i64 bs[j].a) :=
  ⟨flat_get (f := fun b : Bd => [Value.int .i64 (b.h : Int), Value.int .i64 b.a]) (z := 2) (fun _ => rfl) bs j hj 0 (by omega), flat_get (f := fun b : Bd => [Value.int .i64 (b.h : Int), Value.int .i64 b.a]) (z := 2) (fun _ => rfl) bs j hj 1 (by omega)⟩
/-- From a place to the end of its group. -/
theorem live_snoc {H : Nat} {now : Int} {zs : List (BdH H)} {k : Nat} (hk : k < zs.length) : liveZ now (zs.take (k + 1)) = liveZ now (zs.take k) ++ (if now < zs[k].1.u then [zs[k]] else []) := by
  rw [List.take_succ_eq_append_getElem hk]
  unfold liveZ
  rw [List.filter_append]
  congr 1
  by_cases h : now < zs[k].1.u
  · simp [h]
  · simp [h]
theorem live_le {H : Nat} (now : Int) (zs : List (BdH H)) (k : Nat) : liveZ now (zs.take k) <+: liveZ now zs := by
  conv => rhs; rw [← List.take_append_drop k zs]
  unfold liveZ
  rw [List.filter_append]
  exact List.prefix_append _ _

theorem min_int (a b c : Int) (h : c = min a b) (ty : TypeId) (u : World) : (Builtin.min_ #[3, 3] ty #[.int .i64 a, .int .i64 b]).run Tryz.prog u = .ok (.int .i64 c) u := by
  subst h
  by_cases hc : b < a
  · rw [Int.min_eq_right (by omega)]
    go_simp
  · rw [Int.min_eq_left (by omega)]
    go_simp
theorem wdepth (k : Nat) : Fence.wide.depth.isSome = true → 1 ≤ k := fun h => by simp [Fence.wide] at h
/-- What a round of the caller's keeps, and what it says. -/
def YieldsB (H l NN Bo n₁ : Nat) (J Jx : List (BdH H) → World → Prop) : Prop :=
  ∀ m pre (x : BdH H) W, J pre W → pre.length < NN → YieldAt Fence.wide m Tryz.prog l (encB x) W fun e W' => (e = .returned (.bool true) ∧ J (pre ++ [x]) W' ∧ KpX Bo n₁ W W') ∨ (e = .returned (.bool false) ∧ Jx (pre ++ [x]) W')
set_option maxRecDepth 100000 in
set_option maxHeartbeats 2000000 in
theorem walk0_in {H l NN Bo n₁ : Nat} {J Jx : List (BdH H) → World → Prop} (hY : YieldsB H l NN Bo n₁ J Jx) (hD : ∀ pre W, J pre W → J pre W.drew) {b : CB} {c : Ct} (zs : List (BdH H)) (hzs : zs.map Subtype.val = c.bs) (hf : ∀ k, foot b k → k < n₁ ∧ k ≠ Bo) (hne : c.bs.length ≠ 0) (now : Int) (i : Nat) (hi : 16 * i < c.bs.length)
    (n : Nat) (pre : List (BdH H)) (W : World) (hc : CutAt W b c) (hJ : J pre W) (hN : pre.length + (liveZ now (seg zs i)).length ≤ NN) :
    CallsIn Fence.wide n Tryz.prog 94 #[.pointer (some ⟨b.g, 3, none⟩), .int .i64 0, .int .i64 ((16 * i : Nat) : Int), .int .i64 now, .func (.yield l) #[] #[]] W fun e W' =>
      (e = .returned (.bool true) ∧ J (pre ++ liveZ now (seg zs i)) W' ∧ KpX Bo n₁ W W') ∨ (e = .returned (.bool false) ∧ ∃ q, q <+: liveZ now (seg zs i) ∧ Jx (pre ++ q) W') := by
  obtain ⟨N, hNN⟩ : ∃ N, N = c.bs.length := ⟨_, rfl⟩
  have hN256 : N ≤ 256 := by rw [hNN]; exact hc.ok.len
  have hl0 : (lvls (c.bs.map Bd.u))[0]? = some (c.bs.map Bd.u) := by
    unfold lvls
    rw [if_neg (by rw [List.length_map]; exact hne)]
    split <;> rfl
  obtain ⟨v, hv1, hv2⟩ := hc.raw.lv.at hl0
  rw [List.length_map, ← hNN] at hv2
  obtain ⟨g0, cap0, rfl, _, _⟩ := hv2.form (by omega)
  have hto := hc.raw.til
  have hlpos : 0 < b.ls.length := (List.getElem?_eq_some_iff.1 hv1).1
  obtain ⟨gu, cu, huv, _, _⟩ := hto.form hlpos
  rw [huv] at hto
  have hho := hc.raw.held
  rw [← hNN] at hho
  obtain ⟨gh, ch, hsv, _, _⟩ := hho.form (by omega)
  rw [hsv] at hho
  obtain ⟨m, hm⟩ : ∃ m, m = b.ls.length := ⟨_, rfl⟩
  rw [← hm] at hto huv hlpos
  have HCUT : Hid (CutAt W b c) := hc
  -- what is read, in whatever world that keeps the cut
  have HRD : Hid (∀ U, KpX Bo n₁ W U → U.cell? ⟨b.g, 4, none⟩ = some (.slice (some ⟨gu, 0, none⟩) m cu) ∧ U.cell? ⟨gu, 0, none⟩ = some (.slice (some ⟨g0, 0, none⟩) N cap0) ∧ U.cell? ⟨b.g, 3, none⟩ = some (.slice (some ⟨gh, 0, none⟩) N ch) ∧ ∀ j (hj : j < zs.length), U.cell? ⟨g0, j, none⟩ = some (.int .i64 zs[j].1.u) ∧ U.cell? ⟨gh, j * 2, none⟩ = some (.int .i64 (zs[j].1.h : Int)) ∧ U.cell? ⟨gh, j * 2 + 1, none⟩ = some (.int .i64 zs[j].1.a)) := fun U hU => by
    have hcell : ∀ k a, foot b k → U.cell? ⟨k, a, none⟩ = W.cell? ⟨k, a, none⟩ := fun k a hk => hU.cell (hf k hk).1 (hf k hk).2 a
    have e1 := hcell b.g 4 (.inl (.inl rfl))
    have e2 := hcell gu 0 (.inl (.inr (.inr (.inl (by rw [huv]; rfl)))))
    have e3 := hcell b.g 3 (.inl (.inl rfl))
    refine ⟨?_, ?_, ?_, fun j hj => ?_⟩
    · rw [e1, hc.raw.blk.cell 4, ← huv]; rfl
    · have := (lies_own hto).1 0 _ hv1
      rw [e2]; simpa using this
    · rw [e3, hc.raw.blk.cell 3, ← hsv]; rfl
    · have hjb : j < c.bs.length := by rw [← hzs, List.length_map]; exact hj
      have hzj : c.bs[j] = zs[j].1 := by simp [← hzs]
      have e4 := hcell g0 j (.inl (.inr (.inr (.inr ⟨_, List.mem_of_getElem? hv1, rfl⟩))))
      have e5 := hcell gh (j * 2) (.inl (.inr (.inl (by rw [hsv]; rfl))))
      have e6 := hcell gh (j * 2 + 1) (.inl (.inr (.inl (by rw [hsv]; rfl))))
      have q1 := (lies_own hv2).1 j (.int .i64 zs[j].1.u) (by unfold iC; rw [List.map_map, List.getElem?_map, List.getElem?_eq_getElem hjb, hzj]; rfl)
      obtain ⟨q2, q3⟩ := sC_at hjb
      rw [hzj] at q2 q3
      have q4 := (lies_own hho).1 _ _ q2
      have q5 := (lies_own hho).1 _ _ q3
      exact ⟨by rw [e4]; simpa using q1, by rw [e5]; simpa using q4, by rw [e6]; simpa using q5⟩
  have hzl : zs.length = N := by rw [hNN, ← hzs, List.length_map]
  obtain ⟨c4, cu0, c3, _⟩ := HRD.out W (KpX.refl W)
  obtain ⟨E, hE⟩ : ∃ E, E = min (16 * i + 16) N := ⟨_, rfl⟩
  -- how far the walk is
  have HS0 : Hid (∀ k, liveZ now ((seg zs i).take k) <+: liveZ now (seg zs i)) := fun k => live_le now _ k
  have HSEG : Hid (∀ k (hk : 16 * i + k < zs.length) (hk2 : k < 16), (seg zs i).length = E - 16 * i ∧ liveZ now ((seg zs i).take (k + 1)) = liveZ now ((seg zs i).take k) ++ (if now < zs[16 * i + k].1.u then [zs[16 * i + k]] else [])) := fun k hk hk2 => by
    have hsl : (seg zs i).length = E - 16 * i := by rw [seg_len, hzl, hE]; omega
    have hks : k < (seg zs i).length := by rw [seg_len, hzl]; omega
    refine ⟨hsl, ?_⟩
    have := live_snoc (now := now) hks
    have e : (seg zs i)[k] = zs[16 * i + k] := by
      have e : (seg zs i)[k]? = zs[16 * i + k]? := by
        unfold seg
        rw [List.getElem?_take_of_lt hk2, List.getElem?_drop]
      rw [List.getElem?_eq_getElem hks, List.getElem?_eq_getElem (by omega)] at e
      exact Option.some.inj e
    rw [e] at this
    exact this
  have HE : Hid (E = min (16 * i + 16) N) := hE
  have HZL : Hid (zs.length = N) := hzl
  have HIN : Hid (16 * i < N) := by rw [hNN]; exact hi
  have hEN : E ≤ N := by omega
  have hE16 : E ≤ 16 * i + 16 := by omega
  have hiE : 16 * i ≤ E := by have := HIN.out; omega
  have HFIN : Hid (∀ k, 16 * i + k = E → liveZ now ((seg zs i).take k) = liveZ now (seg zs i)) := fun k hk => by
    rw [List.take_of_length_le]
    rw [seg_len, hzl]; omega
  have HD : Hid (∀ pre W, J pre W → J pre W.drew) := hD
  clear hD hE hzl hNN hm hi hne hl0 hv1 hv2 hto hho hzs hc HCUT
  clear huv hsv
  obtain ⟨g, hg⟩ : ∃ g, g = b.g := ⟨_, rfl⟩
  rw [← hg] at c4 c3 HRD ⊢
  clear hg
  obtain ⟨f, hfe⟩ : ∃ f, f = 16 * i := ⟨_, rfl⟩
  rw [← hfe] at HE HIN hE16 hiE HFIN HSEG ⊢
  clear hfe
  refine callsIn_of_wp Tryz.func94 rfl trivial ?_ rfl
  simp only [Tryz.ntmps94, List.size_toArray, List.length_cons, List.length_nil, Nat.reduceAdd, Nat.reduceSub, Array.replicate_succ, Array.replicate_zero, List.push_toArray, List.append_toArray, List.nil_append, List.cons_append]
  gi_wp2
  gi_loopw [12] (fun p wr => ∃ k P : Nat, P ≤ E ∧ Hid (f + k = P) ∧ p = .int .i64 (P : Int) ∧ Hid (J (pre ++ liveZ now ((seg zs i).take k)) wr ∧ KpX Bo n₁ W wr)) (fun p _ => E - (intOf p).toNat)
  case atStart => exact ⟨0, f, hiE, rfl, rfl, by simpa [liveZ] using hJ, KpX.refl W⟩
  case round =>
    obtain ⟨k, P, hPE, HPK, rfl, HJK⟩ := hrel
    obtain ⟨d4, du0, d3, dz⟩ := HRD.out wr HJK.out.2
    clear d4 du0 c4 cu0 c3
    have hmn := fun ty u => min_int ((f : Int) + 16) (N : Int) (E : Int) (by have := HE.out; omega) ty u
    by_cases hkE : P < E
    · have hkN : P < N := by omega
      have hk16 : k < 16 := by have := HPK.out; omega
      have hkz : f + k < zs.length := by rw [HZL.out, HPK.out]; exact hkN
      obtain ⟨z0, z1, z2⟩ := dz (f + k) hkz
      obtain ⟨hsl, hstep⟩ := HSEG.out k hkz hk16
      obtain ⟨z, hz⟩ : ∃ z, z = zs[f + k] := ⟨_, rfl⟩
      rw [← hz] at z0 z1 z2 hstep
      rw [HPK.out] at z0 z1 z2
      have HSL : Hid ((seg zs i).length = E - f) := hsl
      have HP : Hid (liveZ now ((seg zs i).take (k + 1)) <+: liveZ now (seg zs i)) := HS0.out (k + 1)
      have hkE' : (P : Int) < (E : Int) := by omega
      have hp1 : (P : Int) < (f : Int) + 16 := by omega
      have hp2 : (P : Int) < (N : Int) := by omega
      have HSTEP : Hid (liveZ now ((seg zs i).take (k + 1)) = liveZ now ((seg zs i).take k) ++ (if now < z.1.u then [z] else [])) := hstep
      clear hz hsl hstep dz hkz
      obtain ⟨⟨zh, za, zu⟩, zlt⟩ := z
      simp only at z0 z1 z2 HSTEP
      cases hlv : decide (now < zu) with
      | false =>
        have HLV : Hid (¬ now < zu) := of_decide_eq_false hlv
        gi_wp2_with (refine ⟨trivial, wdepth _, ?_⟩; gi_at_call 53; go_must (refine (callsIn_wide.2 (isLive_any zu now _)).mono ?_); rintro e w' ⟨rfl, hw⟩; obtain rfl := hw.symm)
        go_roundw
        case rel => exact ⟨k + 1, P + 1, by omega, by have := HPK.out; unfold Hid; omega, by go_num, by have h1 := HSTEP.out; rw [if_neg (by have := HLV.out; omega), List.append_nil] at h1; rw [h1]; exact HJK.out⟩
        case measure => simp [intOf]; omega
      | true =>
        gi_wp2_with (refine ⟨trivial, wdepth _, ?_⟩; gi_at_call 53; go_must (refine (callsIn_wide.2 (isLive_any zu now _)).mono ?_); rintro e w' ⟨rfl, hw⟩; obtain rfl := hw.symm)
        have HLV : Hid (now < zu) := by have := of_decide_eq_true hlv; exact this
        have HST2 : Hid (liveZ now ((seg zs i).take (k + 1)) = liveZ now ((seg zs i).take k) ++ [⟨⟨zh, za, zu⟩, zlt⟩]) := by have h1 := HSTEP.out; rw [if_pos HLV.out] at h1; exact h1
        have HLEN : Hid ((pre ++ liveZ now ((seg zs i).take k)).length < NN) := by
          have h1 := HP.out.length_le
          rw [HST2.out] at h1
          unfold Hid
          simp at h1 ⊢
          omega
        have w3 : wr.drew.cell? ⟨g, 3, none⟩ = some (.slice (some ⟨gh, 0, none⟩) N ch) := d3
        have w0 : wr.drew.cell? ⟨g0, P, none⟩ = some (.int .i64 zu) := z0
        have w1 : wr.drew.cell? ⟨gh, P * 2, none⟩ = some (.int .i64 (zh : Int)) := z1
        have w2 : wr.drew.cell? ⟨gh, P * 2 + 1, none⟩ = some (.int .i64 za) := z2
        obtain ⟨fn, tmps, assign, body, hy, hR⟩ := hY (n - 1) (pre ++ liveZ now ((seg zs i).take k)) ⟨⟨zh, za, zu⟩, zlt⟩ wr.drew (HD.out _ _ HJK.out.1) HLEN.out
        unfold encB at hy
        simp only at hy
        have hR2 := hR.mono (R' := fun e W' => ∃ r : Bool, e = .returned (.bool r) ∧ Hid ((r = true ∧ J (pre ++ liveZ now ((seg zs i).take (k + 1))) W' ∧ KpX Bo n₁ W W') ∨ (r = false ∧ Jx (pre ++ liveZ now ((seg zs i).take (k + 1))) W'))) (fun e W' h => by
          rw [HST2.out, ← List.append_assoc]
          rcases h with ⟨rfl, h1, h2⟩ | ⟨rfl, h1⟩
          · exact ⟨true, rfl, .inl ⟨rfl, h1, HJK.out.2.trans h2⟩⟩
          · exact ⟨false, rfl, .inr ⟨rfl, h1⟩⟩)
        clear hR
        gi_region_with (refine ⟨wdepth _, ?_⟩; refine hR2.mono ?_; rintro e W3 ⟨r, rfl, HPO⟩)
        all_goals (cases r)
        all_goals gi_wp2
        all_goals first
          | (go_ret; exact .inr ⟨rfl, _, HP.out, (HPO.out.resolve_left (fun h => by cases h.1)).2⟩)
          | (refine ⟨⟨k + 1, P + 1, by omega, by have := HPK.out; unfold Hid; omega, by go_num, (HPO.out.resolve_right (fun h => by cases h.1)).2⟩, by simp [intOf]; omega⟩)
    · have hkE' : decide ((P : Int) < (E : Int)) = false := by simp; omega
      have HF := HFIN.out k (by have := HPK.out; omega)
      have HJ9 := HJK.out
      rw [HF] at HJ9
      have HJ8 : Hid _ := HJ9
      clear HF HJ9
      gi_wp2
      go_ret
      exact .inl ⟨rfl, HJ8.out⟩

theorem take16 {H : Nat} (zs : List (BdH H)) (k : Nat) : zs.take (16 * (k + 1)) = zs.take (16 * k) ++ seg zs k := by
  unfold seg
  rw [show 16 * (k + 1) = 16 * k + 16 by omega, List.take_add]
theorem liveZ_app {H : Nat} (now : Int) (a b : List (BdH H)) : liveZ now (a ++ b) = liveZ now a ++ liveZ now b := by unfold liveZ; rw [List.filter_append]
theorem liveZ_none {H : Nat} {now : Int} {zs : List (BdH H)} {i : Nat} (h : maxL (seg (zs.map fun z => z.1.u) i) ≤ now) : liveZ now (seg zs i) = [] := by
  unfold liveZ
  refine List.filter_eq_nil_iff.2 (fun b hb => ?_)
  have h1 : b.1.u ∈ seg (zs.map fun z => z.1.u) i := by rw [seg_map]; exact List.mem_map.2 ⟨b, hb, rfl⟩
  have := maxL_le h1
  simp; omega
set_option maxRecDepth 100000 in
set_option maxHeartbeats 2000000 in
theorem walk1_in {H l NN Bo n₁ : Nat} {J Jx : List (BdH H) → World → Prop} (hY : YieldsB H l NN Bo n₁ J Jx) (hD : ∀ pre W, J pre W → J pre W.drew) {b : CB} {c : Ct} (zs : List (BdH H)) (hzs : zs.map Subtype.val = c.bs) (hf : ∀ k, foot b k → k < n₁ ∧ k ≠ Bo) (h17 : 16 < c.bs.length) (now : Int)
    (n : Nat) (W : World) (hc : CutAt W b c) (hJ : J [] W) (hN : (liveZ now zs).length ≤ NN) :
    CallsIn Fence.wide n Tryz.prog 94 #[.pointer (some ⟨b.g, 3, none⟩), .int .i64 1, .int .i64 0, .int .i64 now, .func (.yield l) #[] #[]] W fun e W' =>
      (e = .returned (.bool true) ∧ J (liveZ now zs) W') ∨ (e = .returned (.bool false) ∧ ∃ q, q <+: liveZ now zs ∧ Jx q W') := by
  obtain ⟨N, hNN⟩ : ∃ N, N = c.bs.length := ⟨_, rfl⟩
  have hN256 : N ≤ 256 := by rw [hNN]; exact hc.ok.len
  obtain ⟨us, hus⟩ : ∃ us, us = c.bs.map Bd.u := ⟨_, rfl⟩
  have husz : us = zs.map fun z => z.1.u := by rw [hus, ← hzs, List.map_map]; rfl
  have hul : us.length = N := by rw [hus, List.length_map, hNN]
  have hl1 : (lvls us)[1]? = some (lvl1 us) := by
    unfold lvls
    rw [if_neg (by omega), if_neg (by omega)]; rfl
  have hraw := hc.raw
  rw [← hus] at hraw
  obtain ⟨v, hv1, hv2⟩ := hraw.lv.at hl1
  obtain ⟨G, hG⟩ : ∃ G, G = grp N := ⟨_, rfl⟩
  rw [lvl1_len, hul, ← hG] at hv2
  have hG1 : 1 ≤ G := by rw [hG]; unfold grp; omega
  have hG16 : G ≤ 16 := by rw [hG]; unfold grp; omega
  obtain ⟨g1, cap1, rfl, _, _⟩ := hv2.form (by omega)
  have hto := hraw.til
  have hlpos : 1 < b.ls.length := (List.getElem?_eq_some_iff.1 hv1).1
  obtain ⟨gu, cu, huv, _, _⟩ := hto.form (by omega)
  rw [huv] at hto
  obtain ⟨m, hm⟩ : ∃ m, m = b.ls.length := ⟨_, rfl⟩
  rw [← hm] at hto huv hlpos
  have HRD : Hid (∀ U, KpX Bo n₁ W U → U.cell? ⟨b.g, 4, none⟩ = some (.slice (some ⟨gu, 0, none⟩) m cu) ∧ U.cell? ⟨gu, 1, none⟩ = some (.slice (some ⟨g1, 0, none⟩) G cap1) ∧ CutAt U b c ∧ ∀ j, j < G → U.cell? ⟨g1, j, none⟩ = some (.int .i64 (maxL (seg us j)))) := fun U hU => by
    have hblk : ∀ k, foot b k → U.heap[k]? = W.heap[k]? := fun k hk => hU k (hf k hk).1 (hf k hk).2
    have hcell : ∀ k a, foot b k → U.cell? ⟨k, a, none⟩ = W.cell? ⟨k, a, none⟩ := fun k a hk => hU.cell (hf k hk).1 (hf k hk).2 a
    have e1 := hcell b.g 4 (.inl (.inl rfl))
    have e2 := hcell gu 1 (.inl (.inr (.inr (.inl (by rw [huv]; rfl)))))
    refine ⟨?_, ?_, hc.same hblk, fun j hj => ?_⟩
    · rw [e1, hc.raw.blk.cell 4, ← huv]; rfl
    · have := (lies_own hto).1 1 _ hv1
      rw [e2]; simpa using this
    · have e4 := hcell g1 j (.inl (.inr (.inr (.inr ⟨_, List.mem_of_getElem? hv1, rfl⟩))))
      have hjl : j < (lvl1 us).length := by rw [lvl1_len, hul, ← hG]; exact hj
      have q1 := (lies_own hv2).1 j (.int .i64 (maxL (seg us j))) (by unfold iC; rw [List.getElem?_map, List.getElem?_eq_getElem hjl, lvl1_at]; rfl)
      rw [e4]; simpa using q1
  obtain ⟨c4, cu0, _, _⟩ := HRD.out W (KpX.refl W)
  have hzl : zs.length = N := by rw [hNN, ← hzs, List.length_map]
  have HZL : Hid (zs.length = N) := hzl
  have HW0 : Hid (∀ (i : Nat) (fI : Int) (U : World), i < G → fI = ((16 * i : Nat) : Int) → KpX Bo n₁ W U → J (liveZ now (zs.take (16 * i))) U → CallsIn Fence.wide (n - 1) Tryz.prog 94 #[.pointer (some ⟨b.g, 3, none⟩), .int .i64 0, .int .i64 fI, .int .i64 now, .func (.yield l) #[] #[]] U fun e W' =>
      ∃ r : Bool, e = .returned (.bool r) ∧ Hid ((r = true ∧ J (liveZ now (zs.take (16 * (i + 1)))) W' ∧ KpX Bo n₁ W W') ∨ (r = false ∧ ∃ q, q <+: liveZ now zs ∧ Jx q W'))) := fun i fI U hi hfI hU hJU => by
    subst hfI
    have hpre : liveZ now (zs.take (16 * (i + 1))) <+: liveZ now zs := live_le now zs _
    have hap : liveZ now (zs.take (16 * (i + 1))) = liveZ now (zs.take (16 * i)) ++ liveZ now (seg zs i) := by rw [take16, liveZ_app]
    refine (walk0_in hY hD zs hzs hf (by omega) now i (by rw [← hNN]; rw [hG] at hi; unfold grp at hi; omega) (n - 1) (liveZ now (zs.take (16 * i))) U (HRD.out U hU).2.2.1 hJU ?_).mono (fun e W' h => ?_)
    · have := hpre.length_le
      rw [hap, List.length_append] at this
      omega
    · rcases h with ⟨rfl, h1, h2⟩ | ⟨rfl, q, h1, h2⟩
      · exact ⟨true, rfl, .inl ⟨rfl, by rw [hap]; exact h1, hU.trans h2⟩⟩
      · refine ⟨false, rfl, .inr ⟨rfl, _, ?_, h2⟩⟩
        refine List.IsPrefix.trans ?_ hpre
        rw [hap]
        exact (List.prefix_append_right_inj _).2 h1
  have HSK : Hid (∀ i, maxL (seg us i) ≤ now → liveZ now (zs.take (16 * (i + 1))) = liveZ now (zs.take (16 * i))) := fun i hi => by
    rw [take16, liveZ_app, liveZ_none (by rw [← husz]; exact hi), List.append_nil]
  have HFIN : Hid (liveZ now (zs.take (16 * G)) = liveZ now zs) := by
    unfold Hid
    rw [List.take_of_length_le]
    rw [hzl, hG]; unfold grp; omega
  clear hD hzl hNN hG hm hv1 hv2 hto hzs hc hraw huv hus husz hul hl1 h17
  obtain ⟨g, hg⟩ : ∃ g, g = b.g := ⟨_, rfl⟩
  rw [← hg] at c4 HRD HW0 ⊢
  clear hg
  refine callsIn_of_wp Tryz.func94 rfl trivial ?_ rfl
  simp only [Tryz.ntmps94, List.size_toArray, List.length_cons, List.length_nil, Nat.reduceAdd, Nat.reduceSub, Array.replicate_succ, Array.replicate_zero, List.push_toArray, List.append_toArray, List.nil_append, List.cons_append]
  gi_wp2
  gi_loopw [12] (fun p wr => ∃ k : Nat, k ≤ G ∧ p = .int .i64 (k : Int) ∧ Hid (J (liveZ now (zs.take (16 * k))) wr ∧ KpX Bo n₁ W wr)) (fun p _ => G - (intOf p).toNat)
  case atStart => exact ⟨0, Nat.zero_le _, rfl, by simpa [liveZ] using hJ, KpX.refl W⟩
  case round =>
    obtain ⟨k, hkG, rfl, HJK⟩ := hrel
    obtain ⟨d4, du0, _, dz⟩ := HRD.out wr HJK.out.2
    clear c4 cu0
    have hmn := fun ty u => min_int 16 (G : Int) (G : Int) (by omega) ty u
    by_cases hk : k < G
    · have hk' : (k : Int) < (G : Int) := by omega
      have z0 := dz k hk
      have HSKk := HSK.out k
      obtain ⟨M, hM⟩ : ∃ M, M = maxL (seg us k) := ⟨_, rfl⟩
      rw [← hM] at z0 HSKk
      have HSK2 : Hid _ := HSKk
      clear hM dz HSKk
      have hwk := HW0.out k ((k : Int) * 16) wr hk (by push_cast; omega) HJK.out.2 HJK.out.1
      cases hlv : decide (now < M) with
      | false =>
        have HLV : Hid (M ≤ now) := by have := of_decide_eq_false hlv; unfold Hid; omega
        gi_wp2_with (refine ⟨trivial, wdepth _, ?_⟩; gi_at_call 53; go_must (refine (callsIn_wide.2 (isLive_any M now _)).mono ?_); rintro e w' ⟨rfl, hw⟩; obtain rfl := hw.symm)
        go_roundw
        case rel => exact ⟨k + 1, by omega, by go_num, by rw [HSK2.out HLV.out]; exact HJK.out⟩
        case measure => simp [intOf]; omega
      | true =>
        gi_wp2_with (first
          | (refine ⟨trivial, wdepth _, ?_⟩; gi_at_call 53; go_must (refine (callsIn_wide.2 (isLive_any M now _)).mono ?_); rintro e w' ⟨rfl, hw⟩; obtain rfl := hw.symm)
          | (refine ⟨trivial, wdepth _, ?_⟩; gi_at_call 94; go_must (refine hwk.mono ?_); rintro e W3 ⟨r, rfl, HPO⟩; cases r))
        all_goals first
          | (go_ret; exact .inr ⟨rfl, (HPO.out.resolve_left (fun h => by cases h.1)).2⟩)
          | (refine ⟨⟨k + 1, by omega, by go_num, (HPO.out.resolve_right (fun h => by cases h.1)).2⟩, by simp [intOf]; omega⟩)
    · have hk' : decide ((k : Int) < (G : Int)) = false := by simp; omega
      have HJ9 := HJK.out
      rw [show k = G by omega, HFIN.out] at HJ9
      have HJ8 : Hid _ := HJ9
      clear HJ9
      gi_wp2
      go_ret
      exact .inl ⟨rfl, HJ8.out.1⟩

end Cu
end Go.Proofs.YtnjgdfmldjgloaaGreat

/- What row.live gives: the live bindings, in their row. -/
namespace Go.Proofs.YtnjgdfmldjgloaaGreat
open Go.RowKit Go.Shelf
open Pl
namespace Cu
attribute [local go_sem] Oper.semAt_some

set_option maxHeartbeats 1000000 in
/-- row.live(now): both are boxed. -/
theorem live_in (n g : Nat) (now : Int) (w : World) :
    CallsIn Fence.wide n Tryz.prog 78 #[.pointer (some ⟨g, 3, none⟩), .int .i64 now] w fun e w' => e = .returned (.func (.func 93) #[] #[.pointer (some ⟨w.heap.size, 0, none⟩), .pointer (some ⟨w.heap.size + 1, 0, none⟩)]) ∧ w' = (w.alloc (.cells #[.pointer (some ⟨g, 3, none⟩)] 131)).alloc (.cells #[.int .i64 now] 3) := by
  refine callsIn_of_wp Tryz.func78 rfl trivial ?_ rfl
  simp only [Tryz.ntmps78, List.size_toArray, List.length_cons, List.length_nil, Nat.reduceAdd, Nat.reduceSub, Array.replicate_succ, Array.replicate_zero, List.push_toArray, List.append_toArray, List.nil_append, List.cons_append]
  gi_wp2
  go_ret
  exact ⟨rfl, rfl⟩

theorem seg_all {α : Type} {zs : List α} (h : zs.length ≤ 16) : seg zs 0 = zs := by
  unfold seg
  rw [Nat.mul_zero, List.drop_zero, List.take_of_length_le h]
set_option maxRecDepth 100000 in
set_option maxHeartbeats 1000000 in
theorem live1_in {H l Bo n₁ : Nat} {J Jx : List (BdH H) → World → Prop} {b : CB} {c : Ct} (zs : List (BdH H)) (now : Int) (hY : YieldsB H l (liveZ now zs).length Bo n₁ J Jx) (hD : ∀ pre W, J pre W → J pre W.drew) (hzs : zs.map Subtype.val = c.bs) (hf : ∀ k, foot b k → k < n₁ ∧ k ≠ Bo)
    (n : Nat) (W : World) (Br Bn : Nat) (hr : W.cell? ⟨Br, 0, none⟩ = some (.pointer (some ⟨b.g, 3, none⟩))) (hn : W.cell? ⟨Bn, 0, none⟩ = some (.int .i64 now)) (hc : CutAt W b c) (hJ : J [] W) :
    CallsIn Fence.wide n Tryz.prog 93 #[.func (.yield l) #[] #[], .pointer (some ⟨Br, 0, none⟩), .pointer (some ⟨Bn, 0, none⟩)] W fun e W' => (∃ v, e = .returned v) ∧ ((∃ ys, ys = liveZ now zs ∧ J ys W') ∨ (∃ q, q <+: liveZ now zs ∧ Jx q W')) := by
  have hzl : zs.length = c.bs.length := by rw [← hzs, List.length_map]
  have hll : b.ls.length = (lvls (c.bs.map Bd.u)).length := hc.raw.lv.1
  have hto := hc.raw.til
  obtain ⟨yu, cu, huv⟩ := row_shape hto
  have c4 : W.cell? ⟨b.g, 4, none⟩ = some (.slice yu b.ls.length cu) := by rw [hc.raw.blk.cell 4, ← huv]; rfl
  have hlm : (c.bs.map Bd.u).length = c.bs.length := List.length_map ..
  by_cases h0 : c.bs.length = 0
  · have hl0 : b.ls.length = 0 := by rw [hll]; unfold lvls; rw [if_pos (by omega)]; rfl
    have hz0 : zs = [] := List.eq_nil_of_length_eq_zero (by omega)
    rw [hl0] at c4
    have HF : Hid (liveZ now zs = []) := by unfold Hid; rw [hz0]; rfl
    have HJ : Hid (J [] W) := hJ
    clear hJ hz0 hl0 hll hto huv
    refine callsIn_of_wp Tryz.func93 rfl trivial ?_ rfl
    simp only [Tryz.ntmps93, List.size_toArray, List.length_cons, List.length_nil, Nat.reduceAdd, Nat.reduceSub, Array.replicate_succ, Array.replicate_zero, List.push_toArray, List.append_toArray, List.nil_append, List.cons_append]
    gi_wp2
    go_end0
    exact ⟨⟨_, rfl⟩, .inl ⟨_, rfl, by rw [HF.out]; exact HJ.out⟩⟩
  · by_cases h1 : c.bs.length ≤ 16
    · have hl0 : b.ls.length = 1 := by rw [hll]; unfold lvls; rw [if_neg (by omega), if_pos (by omega)]; rfl
      rw [hl0] at c4
      have hsg : seg zs 0 = zs := seg_all (by omega)
      have hw := walk0_in hY hD zs hzs hf h0 now 0 (by omega) (n - 1) [] W hc hJ (by rw [hsg]; simp)
      rw [hsg] at hw
      clear hll hto huv hl0 hsg
      refine callsIn_of_wp Tryz.func93 rfl trivial ?_ rfl
      simp only [Tryz.ntmps93, List.size_toArray, List.length_cons, List.length_nil, Nat.reduceAdd, Nat.reduceSub, Array.replicate_succ, Array.replicate_zero, List.push_toArray, List.append_toArray, List.nil_append, List.cons_append]
      gi_wp2_with (refine ⟨trivial, wdepth _, ?_⟩; gi_at_call 94; go_must (refine hw.mono ?_); rintro e W1 (⟨rfl, hJ1, _⟩ | ⟨rfl, q, hq, hx⟩))
      · go_end0
        exact ⟨⟨_, rfl⟩, .inl ⟨_, rfl, by simpa using hJ1⟩⟩
      · go_end0
        exact ⟨⟨_, rfl⟩, .inr ⟨q, hq, by simpa using hx⟩⟩
    · have hl0 : b.ls.length = 2 := by rw [hll]; unfold lvls; rw [if_neg (by omega), if_neg (by omega)]; rfl
      rw [hl0] at c4
      have hw := walk1_in hY hD zs hzs hf (by omega) now (n - 1) W hc hJ (Nat.le_refl _)
      clear hll hto huv hl0
      refine callsIn_of_wp Tryz.func93 rfl trivial ?_ rfl
      simp only [Tryz.ntmps93, List.size_toArray, List.length_cons, List.length_nil, Nat.reduceAdd, Nat.reduceSub, Array.replicate_succ, Array.replicate_zero, List.push_toArray, List.append_toArray, List.nil_append, List.cons_append]
      gi_wp2_with (refine ⟨trivial, wdepth _, ?_⟩; gi_at_call 94; go_must (refine hw.mono ?_); rintro e W1 (⟨rfl, hJ1⟩ | ⟨rfl, q, hq, hx⟩))
      · go_end0
        exact ⟨⟨_, rfl⟩, .inl ⟨_, rfl, hJ1⟩⟩
      · go_end0
        exact ⟨⟨_, rfl⟩, .inr ⟨q, hq, hx⟩⟩
theorem room_none {F : Fence} (hd : F.depth = none) (k : Nat) : F.room k := fun d h => by rw [hd] at h; cases h
theorem round_any {F : Fence} (hd : F.depth = none) {m m' : Nat} {P : Program} {l : Nat} {f : FuncId} {tmps : Array Value} {assign body : Code} {w : World} {R : Ending → World → Prop}
    (h : RoundIn F m P l f tmps assign body w R) : RoundIn F m' P l f tmps assign body w R := ⟨h.1, fun c cs _ => h.2 c cs (room_none hd _)⟩
theorem yield_any {F : Fence} (hd : F.depth = none) {m : Nat} (m' : Nat) {P : Program} {l : Nat} {args : Array Value} {W : World} {R : Ending → World → Prop} (h : YieldAt F m P l args W R) : YieldAt F m' P l args W R := by
  obtain ⟨fn, tmps, assign, body, hy, hR⟩ := h
  exact ⟨fn, tmps, assign, body, hy, round_any hd hR⟩
/-- The live bindings come, in their row, or a part of them. -/
theorem live_stops (n : Nat) {H Bo n₁ : Nat} {b : CB} {c : Ct} (zs : List (BdH H)) (now : Int) (hzs : zs.map Subtype.val = c.bs) (hf : ∀ k, foot b k → k < n₁ ∧ k ≠ Bo) (Br Bn : Nat) (w : World) (h1 : Br < w.heap.size) (h2 : Bn < w.heap.size) (hr : w.cell? ⟨Br, 0, none⟩ = some (.pointer (some ⟨b.g, 3, none⟩))) (hn : w.cell? ⟨Bn, 0, none⟩ = some (.int .i64 now)) (hc : CutAt w b c) :
    SeqStopsK Fence.wide n Tryz.prog 93 #[.pointer (some ⟨Br, 0, none⟩), .pointer (some ⟨Bn, 0, none⟩)] (encB (H := H)) (KpX Bo n₁) (fun ys => ys = liveZ now zs) (fun q => q <+: liveZ now zs) (liveZ now zs).length w := fun l J Jx W hW hJ _ hY h0 =>
  live1_in zs now (fun m pre x W hj hl => yield_any rfl m (hY pre x W hj hl)) (fun pre W hj => hJ pre W W.drew none hj ⟨rfl, rfl, rfl, Nat.le_refl _, fun _ _ _ => rfl⟩ (fun r e => by cases e)) hzs hf n W Br Bn ((hW.cell (p := ⟨Br, 0, none⟩) h1).trans hr) ((hW.cell (p := ⟨Bn, 0, none⟩) h2).trans hn) (hc.below hW) h0

end Cu
end Go.Proofs.YtnjgdfmldjgloaaGreat

/- What add does to a row, in parts. -/
namespace Go.Proofs.YtnjgdfmldjgloaaGreat
open Go.RowKit Go.Shelf
open Pl
namespace Cu

theorem RawAt.tags {w : World} {b : CB} {c : Ct} {xs : List (List Int)} (h : RawAt w b c xs) : b.hv.ownBlock ≠ some b.g ∧ b.sv.ownBlock ≠ some b.g ∧ b.uv.ownBlock ≠ some b.g ∧ ∀ v ∈ b.ls, v.ownBlock ≠ some b.g := by
  refine ⟨fun e => ?_, fun e => ?_, fun e => ?_, fun v hv e => ?_⟩
  · exact absurd (own_tag h.hosts e h.blk) (by decide)
  · exact absurd (own_tag h.held e h.blk) (by decide)
  · exact absurd (own_tag h.til e h.blk) (by decide)
  · obtain ⟨us, ho⟩ := h.lv.mem hv
    exact absurd (own_tag ho e h.blk) (by decide)
theorem RawAt.lv_far {w : World} {b : CB} {c : Ct} {xs : List (List Int)} (h : RawAt w b c xs) {v : Value} (hv : v ∈ b.ls) {B e z n : Nat} {u : Value} {ys : List Value} (ho : w.ownsRow B e z u n ys) (he : e ≠ 3) (k : Nat) (hk : v.ownBlock = some k) : u.ownBlock ≠ some k := by
  obtain ⟨us, hv'⟩ := h.lv.mem hv
  exact own_far hv' ho (fun e' => he e'.symm) k hk
/-- A level more. -/
theorem RawAt.til_app {w w1 w2 : World} {b : CB} {c : Ct} {xs : List (List Int)} (h : RawAt w b c xs) (hb1 : Below w.heap.size w w1) {y v' : Value} {us' : List Int} (hy : w1.ownsRow 0 3 1 y us'.length (iC us')) (hyn : ∀ k, y.ownBlock = some k → w.heap.size ≤ k)
    (ow : w2.ownsRow 0 112 1 v' (b.ls.length + 1) (b.ls ++ [y])) (hg : w1.grownBy w2 b.uv.ownBlock) (hv' : ∀ k, v'.ownBlock = some k → b.uv.ownBlock = some k ∨ w.heap.size ≤ k) :
    RawAt (w2.setCell ⟨b.g, 4, none⟩ v') { b with uv := v', ls := b.ls ++ [y] } c (xs ++ [us']) ∧ Turn (wfoot b) w (w2.setCell ⟨b.g, 4, none⟩ v') ∧ ∀ k, wfoot { b with uv := v', ls := b.ls ++ [y] } k → wfoot b k ∨ w.heap.size ≤ k := by
  obtain ⟨t1, t2, t3, t4⟩ := h.tags
  have h1 := h.below hb1
  have T2 : Turn (fun k => b.uv.ownBlock = some k) w1 w2 := Turn.of_grown hg (fun k e => e)
  have T3 : Turn (fun k => k = b.g) w2 (w2.setCell ⟨b.g, 4, none⟩ v') := Turn.of_set (S := fun k => k = b.g) w2 (p := ⟨b.g, 4, none⟩) rfl v'
  have hyu : ∀ k, y.ownBlock = some k → b.uv.ownBlock ≠ some k := fun k hk => own_far hy h1.til (by decide) k hk
  have hyg : ∀ k, y.ownBlock = some k → k ≠ b.g := fun k hk e => by
    subst e
    exact absurd (own_tag hy hk h1.blk) (by decide)
  have hv'g : ∀ k, v'.ownBlock = some k → k ≠ b.g := fun k hk e => by
    subst e
    exact absurd (own_tag ow hk (T2.blk h1.blk t3)) (by decide)
  refine ⟨⟨?_, ?_, ?_, ?_, ?_, ?_, ?_⟩, ?_, ?_⟩
  · exact (T2.blk h1.blk t3).set 4 v'
  · exact T3.row (T2.row h1.hosts (fun k hk => own_far h1.hosts h1.til (by decide) k hk)) (fun k hk e => t1 (by rw [hk, e]))
  · exact T3.row (T2.row h1.held (fun k hk => own_far h1.held h1.til (by decide) k hk)) (fun k hk e => t2 (by rw [hk, e]))
  · rw [List.length_append]
    exact T3.row ow (fun k hk e => hv'g k hk e)
  · rw [List.length_append, List.length_append, h1.lv.1]; rfl
  · intro i v us hi hu
    by_cases hil : i < b.ls.length
    · rw [List.getElem?_append_left hil] at hi
      rw [List.getElem?_append_left (by rw [← h1.lv.1]; exact hil)] at hu
      have hm := List.mem_of_getElem? hi
      exact T3.row (T2.row (h1.lv.2.1 i v us hi hu) (fun k hk => h1.lv_far hm h1.til (by decide) k hk)) (fun k hk e => t4 v hm (by rw [hk, e]))
    · have hi2 : i = b.ls.length := by
        have := (List.getElem?_eq_some_iff.1 hi).1
        rw [List.length_append] at this
        simp at this
        omega
      subst hi2
      rw [List.getElem?_append_right (Nat.le_refl _), Nat.sub_self] at hi
      rw [List.getElem?_append_right (by rw [h1.lv.1]; exact Nat.le_refl _), h1.lv.1, Nat.sub_self] at hu
      simp at hi hu
      subst hi hu
      exact T3.row (T2.row hy (fun k hk => hyu k hk)) (fun k hk e => hyg k hk e)
  · intro i j v v2 k hi hj hk hk2
    have hlt : ∀ (i : Nat) (v : Value), (b.ls ++ [y])[i]? = some v → i < b.ls.length ∧ b.ls[i]? = some v ∨ i = b.ls.length ∧ v = y := by
      intro i v hi
      by_cases hil : i < b.ls.length
      · rw [List.getElem?_append_left hil] at hi
        exact .inl ⟨hil, hi⟩
      · have hi2 : i = b.ls.length := by
          have := (List.getElem?_eq_some_iff.1 hi).1
          rw [List.length_append] at this
          simp at this
          omega
        subst hi2
        rw [List.getElem?_append_right (Nat.le_refl _), Nat.sub_self] at hi
        simp at hi
        exact .inr ⟨rfl, hi.symm⟩
    have old : ∀ (i : Nat) (v : Value), b.ls[i]? = some v → v.ownBlock = some k → k < w.heap.size := fun i v hi hk => h.lt k (.inl (.inr (.inr (.inr ⟨v, List.mem_of_getElem? hi, hk⟩))))
    rcases hlt i v hi with ⟨hi1, hi2⟩ | ⟨hi1, rfl⟩
    · rcases hlt j v2 hj with ⟨hj1, hj2⟩ | ⟨hj1, rfl⟩
      · exact h.lv.2.2 i j v v2 k hi2 hj2 hk hk2
      · have := old i v hi2 hk; have := hyn k hk2; omega
    · rcases hlt j v2 hj with ⟨hj1, hj2⟩ | ⟨hj1, rfl⟩
      · have := old j v2 hj2 hk2; have := hyn k hk; omega
      · omega
  · exact ((Turn.of_below hb1).trans T2 (fun i e => .inl (.inr (.inr (.inl e))))).trans T3 (fun i e => .inl (.inl e))
  · rintro k (e | e | e | ⟨v, hv, e⟩)
    · exact .inl (.inl e)
    · exact .inl (.inr (.inl e))
    · rcases hv' k e with e | e
      · exact .inl (.inr (.inr (.inl e)))
      · exact .inr e
    · rcases List.mem_append.1 hv with hv | hv
      · exact .inl (.inr (.inr (.inr ⟨v, hv, e⟩)))
      · simp at hv
        subst hv
        exact .inr (hyn k e)
/-- A server more. -/
theorem RawAt.held_app {w w1 w2 : World} {b : CB} {c : Ct} {xs : List (List Int)} (h : RawAt w b c xs) (hb1 : Below w.heap.size w w1) {v' : Value} {x : Bd}
    (ow : w2.ownsRow 0 98 2 v' (c.bs.length + 1) (sC c.bs ++ [.int .i64 (x.h : Int), .int .i64 x.a])) (hg : w1.grownBy w2 b.sv.ownBlock) (hv' : ∀ k, v'.ownBlock = some k → b.sv.ownBlock = some k ∨ w.heap.size ≤ k) :
    RawAt (w2.setCell ⟨b.g, 3, none⟩ v') { b with sv := v' } { c with bs := c.bs ++ [x] } xs ∧ Turn (wfoot b) w (w2.setCell ⟨b.g, 3, none⟩ v') ∧ ∀ k, wfoot { b with sv := v' } k → wfoot b k ∨ w.heap.size ≤ k := by
  obtain ⟨t1, t2, t3, t4⟩ := h.tags
  have h1 := h.below hb1
  have T2 : Turn (fun k => b.sv.ownBlock = some k) w1 w2 := Turn.of_grown hg (fun k e => e)
  have T3 : Turn (fun k => k = b.g) w2 (w2.setCell ⟨b.g, 3, none⟩ v') := Turn.of_set (S := fun k => k = b.g) w2 (p := ⟨b.g, 3, none⟩) rfl v'
  have hv'g : ∀ k, v'.ownBlock = some k → k ≠ b.g := fun k hk e => by
    subst e
    exact absurd (own_tag ow hk (T2.blk h1.blk t2)) (by decide)
  refine ⟨⟨?_, ?_, ?_, ?_, ?_⟩, ?_, ?_⟩
  · exact (T2.blk h1.blk t2).set 3 v'
  · exact T3.row (T2.row h1.hosts (fun k hk => own_far h1.hosts h1.held (by decide) k hk)) (fun k hk e => t1 (by rw [hk, e]))
  · show (w2.setCell _ _).ownsRow 0 98 2 v' (c.bs ++ [x]).length (sC (c.bs ++ [x]))
    rw [List.length_append, sC_app]
    exact T3.row ow (fun k hk e => hv'g k hk e)
  · exact T3.row (T2.row h1.til (fun k hk => own_far h1.til h1.held (by decide) k hk)) (fun k hk e => t3 (by rw [hk, e]))
  · exact (h1.lv.turn T2 (fun v hv k hk => h1.lv_far hv h1.held (by decide) k hk)).turn T3 (fun v hv k hk e => t4 v hv (by rw [hk, e]))
  · exact ((Turn.of_below hb1).trans T2 (fun i e => .inl (.inr (.inl e)))).trans T3 (fun i e => .inl (.inl e))
  · rintro k (e | e | e | ⟨v, hv, e⟩)
    · exact .inl (.inl e)
    · rcases hv' k e with e | e
      · exact .inl (.inr (.inl e))
      · exact .inr e
    · exact .inl (.inr (.inr (.inl e)))
    · exact .inl (.inr (.inr (.inr ⟨v, hv, e⟩)))
/-- A level is another row. -/
theorem RawAt.lv_set {w w1 : World} {b : CB} {c : Ct} {xs : List (List Int)} (h : RawAt w b c xs) {i : Nat} {v v' : Value} {us' : List Int} (hi : b.ls[i]? = some v) (hT : Turn (fun k => v.ownBlock = some k) w w1) (ho : w1.ownsRow 0 3 1 v' us'.length (iC us')) (hn : ∀ k, v'.ownBlock = some k → v.ownBlock = some k ∨ w.heap.size ≤ k)
    {gu cap : Nat} (hu : b.uv = .slice (some ⟨gu, 0, none⟩) b.ls.length cap) :
    RawAt (w1.setCell ⟨gu, i, none⟩ v') { b with ls := b.ls.set i v' } c (xs.set i us') ∧ Turn (wfoot b) w (w1.setCell ⟨gu, i, none⟩ v') ∧ ∀ k, wfoot { b with ls := b.ls.set i v' } k → wfoot b k ∨ w.heap.size ≤ k := by
  obtain ⟨t1, t2, t3, t4⟩ := h.tags
  have hm := List.mem_of_getElem? hi
  have hub : b.uv.ownBlock = some gu := by rw [hu]; rfl
  have T3 : Turn (fun k => k = gu) w1 (w1.setCell ⟨gu, i, none⟩ v') := Turn.of_set (S := fun k => k = gu) w1 (p := ⟨gu, i, none⟩) rfl v'
  have til1 : w1.ownsRow 0 112 1 b.uv b.ls.length b.ls := hT.row h.til (fun k hk e => h.lv_far hm h.til (by decide) k e hk)
  have hv'u : ∀ k, v'.ownBlock = some k → k ≠ gu := fun k hk e => by
    subst e
    exact own_far ho til1 (by decide) k hk hub
  refine ⟨⟨?_, ?_, ?_, ?_, ?_, ?_, ?_⟩, ?_, ?_⟩
  · exact T3.blk (hT.blk h.blk (t4 v hm)) (fun e => t3 (by rw [hub, e]))
  · exact T3.row (hT.row h.hosts (fun k hk e => h.lv_far hm h.hosts (by decide) k e hk)) (fun k hk e => own_far h.hosts h.til (by decide) k hk (by rw [e]; exact hub))
  · exact T3.row (hT.row h.held (fun k hk e => h.lv_far hm h.held (by decide) k e hk)) (fun k hk e => own_far h.held h.til (by decide) k hk (by rw [e]; exact hub))
  · show (w1.setCell _ _).ownsRow 0 112 1 b.uv (b.ls.set i v').length (b.ls.set i v')
    rw [List.length_set]
    rw [hu] at til1 ⊢
    exact (til1.stored i v').1
  · rw [List.length_set, List.length_set, h.lv.1]
  · intro j u us hj hx
    rw [List.getElem?_set] at hj hx
    by_cases hij : i = j
    · subst hij
      have hil := (List.getElem?_eq_some_iff.1 hi).1
      rw [if_pos rfl, if_pos hil] at hj
      rw [if_pos rfl, if_pos (by rw [← h.lv.1]; exact hil)] at hx
      simp at hj hx
      subst hj hx
      exact T3.row ho hv'u
    · rw [if_neg hij] at hj hx
      have hmj := List.mem_of_getElem? hj
      exact T3.row (hT.row (h.lv.2.1 j u us hj hx) (fun k hk e => hij (h.lv.2.2 i j v u k hi hj e hk))) (fun k hk e => h.lv_far hmj h.til (by decide) k hk (by rw [e]; exact hub))
  · have key : ∀ (j : Nat) (u : Value), (b.ls.set i v')[j]? = some u → j = i ∧ u = v' ∨ j ≠ i ∧ b.ls[j]? = some u := by
      intro j u hj
      rw [List.getElem?_set] at hj
      by_cases hij : i = j
      · subst hij
        rw [if_pos rfl, if_pos (List.getElem?_eq_some_iff.1 hi).1] at hj
        simp at hj
        exact .inl ⟨rfl, hj.symm⟩
      · rw [if_neg hij] at hj
        exact .inr ⟨fun e => hij e.symm, hj⟩
    have far : ∀ (j : Nat) (u : Value) (k : Nat), j ≠ i → b.ls[j]? = some u → u.ownBlock = some k → v'.ownBlock = some k → False := by
      intro j u k hji hj hk hk'
      rcases hn k hk' with e | e
      · exact hji (h.lv.2.2 j i u v k hj hi hk e)
      · have := h.lt k (.inl (.inr (.inr (.inr ⟨u, List.mem_of_getElem? hj, hk⟩))))
        omega
    intro p q u u2 k hp hq hk hk2
    rcases key p u hp with ⟨rfl, rfl⟩ | ⟨hp1, hp2⟩
    · rcases key q u2 hq with ⟨rfl, rfl⟩ | ⟨hq1, hq2⟩
      · rfl
      · exact (far q u2 k hq1 hq2 hk2 hk).elim
    · rcases key q u2 hq with ⟨rfl, rfl⟩ | ⟨hq1, hq2⟩
      · exact (far p u k hp1 hp2 hk hk2).elim
      · exact h.lv.2.2 p q u u2 k hp2 hq2 hk hk2
  · exact (hT.more (S' := wfoot b) (fun k e => .inr (.inr (.inr ⟨v, hm, e⟩)))).trans T3 (fun k e => .inl (.inr (.inr (.inl (by rw [e]; exact hub)))))
  · rintro k (e | e | e | ⟨u, hu', e⟩)
    · exact .inl (.inl e)
    · exact .inl (.inr (.inl e))
    · exact .inl (.inr (.inr (.inl e)))
    · rcases List.mem_or_eq_of_mem_set hu' with hu' | rfl
      · exact .inl (.inr (.inr (.inr ⟨u, hu', e⟩)))
      · rcases hn k e with e | e
        · exact .inl (.inr (.inr (.inr ⟨v, hm, e⟩)))
        · exact .inr e

theorem pre_len (us : List Int) (hn : us.length < 256) : ∀ y ∈ preL (lvls us), y.length ≤ 256 := by
  intro y hy
  unfold lvls preL at hy
  by_cases h0 : us.length = 0
  · rw [if_pos h0] at hy
    simp at hy
    subst hy; simp
  · rw [if_neg h0] at hy
    by_cases h1 : us.length ≤ 16
    · rw [if_pos h1] at hy
      simp at hy
      subst hy; omega
    · rw [if_neg h1] at hy
      simp at hy
      rcases hy with rfl | rfl
      · omega
      · rw [lvl1_len]; unfold grp; omega
theorem pre_two (us : List Int) : (preL (lvls us)).length ≤ 2 := by
  unfold lvls preL
  by_cases h0 : us.length = 0
  · simp [h0]
  · rw [if_neg h0]
    by_cases h1 : us.length ≤ 16
    · simp [h1]
    · simp [h1]
theorem top17 (us : List Int) (u : Int) (hn : us.length < 256) : ∀ t, (raiseA (preL (lvls us)) us.length u).getLast? = some t → 16 < t.length → t.length = 17 := by
  intro t ht hl
  unfold lvls preL at ht
  by_cases h0 : us.length = 0
  · rw [if_pos h0] at ht
    simp [raiseA, raiseL, h0] at ht
    subst ht; simp at hl
  · rw [if_neg h0] at ht
    by_cases h1 : us.length ≤ 16
    · rw [if_pos h1] at ht
      simp [raiseA, raise_end] at ht
      subst ht
      simp at hl ⊢
      omega
    · rw [if_neg h1] at ht
      simp [raiseA] at ht
      rw [← lvl1_snoc] at ht
      subst ht
      rw [lvl1_len] at hl
      unfold grp at hl
      simp at hl
      omega
theorem post_no {xs : List (List Int)} {t : List Int} (h : xs.getLast? = some t) (hl : ¬ 16 < t.length) : postL xs = xs := by unfold postL; rw [h]; simp only; rw [if_neg hl]
theorem post_yes {xs : List (List Int)} {t : List Int} (h : xs.getLast? = some t) (hl : 16 < t.length) : postL xs = xs ++ [lvl1 t] := by unfold postL; rw [h]; simp only; rw [if_pos hl]
/-- How far add is; F holds the blocks that the cut had. -/
structure AD (w0 w : World) (F : Nat → Prop) (b : CB) (c : Ct) (xs : List (List Int)) (x : Bd) : Prop where
  raw : RawAt w b c xs
  box : Blk w w0.heap.size #[.int .i64 (x.h : Int), .int .i64 x.a, .int .i64 x.u] 100
  turn : Turn F w0 w
  new : ∀ k, wfoot b k → F k ∨ w0.heap.size ≤ k
theorem AD.below {w0 w w' : World} {F : Nat → Prop} {b : CB} {c : Ct} {xs : List (List Int)} {x : Bd} (h : AD w0 w F b c xs x) (hb : Below w.heap.size w w') : AD w0 w' F b c xs x :=
  ⟨h.raw.below hb, h.box.below hb, h.turn.past hb, h.new⟩
theorem AD.step {w0 w w' : World} {F : Nat → Prop} {b b' : CB} {c c' : Ct} {xs xs' : List (List Int)} {x : Bd} (h : AD w0 w F b c xs x) (hr : RawAt w' b' c' xs') (ht : Turn (wfoot b) w w') (hn : ∀ k, wfoot b' k → wfoot b k ∨ w.heap.size ≤ k) : AD w0 w' F b' c' xs' x := by
  have hz := h.turn.size
  refine ⟨hr, ht.blk h.box (h.raw.apart h.box (by decide) (by decide) (by decide) (by decide)), h.turn.trans ht (fun i e => h.new i e), fun k hk => ?_⟩
  rcases hn k hk with e | e
  · exact h.new k e
  · exact .inr (by omega)
theorem AD.c3 {w0 w : World} {F : Nat → Prop} {b : CB} {c : Ct} {xs : List (List Int)} {x : Bd} (h : AD w0 w F b c xs x) : w.cell? ⟨b.g, 3, none⟩ = some b.sv ∧ w.frozen? ⟨b.g, 3, none⟩ = false := ⟨h.raw.blk.cell 3, h.raw.blk.frozen 3⟩
theorem AD.c4 {w0 w : World} {F : Nat → Prop} {b : CB} {c : Ct} {xs : List (List Int)} {x : Bd} (h : AD w0 w F b c xs x) : w.cell? ⟨b.g, 4, none⟩ = some b.uv ∧ w.frozen? ⟨b.g, 4, none⟩ = false := ⟨h.raw.blk.cell 4, h.raw.blk.frozen 4⟩
theorem AD.bx {w0 w : World} {F : Nat → Prop} {b : CB} {c : Ct} {xs : List (List Int)} {x : Bd} (h : AD w0 w F b c xs x) : w.cell? ⟨w0.heap.size, 0, none⟩ = some (.int .i64 (x.h : Int)) ∧ w.cell? ⟨w0.heap.size, 1, none⟩ = some (.int .i64 x.a) ∧ w.cell? ⟨w0.heap.size, 2, none⟩ = some (.int .i64 x.u) := ⟨h.box.cell 0, h.box.cell 1, h.box.cell 2⟩
theorem ad_start {w : World} {b : CB} {c : Ct} {xs : List (List Int)} (h : RawAt w b c xs) (x : Bd) : AD w (w.alloc (.cells #[.int .i64 (x.h : Int), .int .i64 x.a, .int .i64 x.u] 100)) (wfoot b) b c xs x :=
  ⟨h.below (lay (Below.refl _ _) _), Blk.new w _ _, Turn.of_below (lay (Below.refl _ _) _), fun _ hk => .inl hk⟩

/-- How far the levels are raised. -/
def RA (XS : List (List Int)) (N : Nat) (u : Int) (j A : Nat) (XS' : List (List Int)) : Prop :=
  ∃ P, P.length = j ∧ XS' = P ++ XS.drop j ∧ inL (XS.drop j) A ∧ raiseA XS N u = P ++ raiseA (XS.drop j) A u
theorem ra_start {XS : List (List Int)} {N : Nat} {u : Int} (h : inL XS N) : RA XS N u 0 N XS := ⟨[], rfl, rfl, h, rfl⟩
theorem ra_end {XS XS' : List (List Int)} {N A : Nat} {u : Int} {j : Nat} (h : RA XS N u j A XS') (hj : XS.length ≤ j) : XS' = raiseA XS N u := by
  obtain ⟨P, _, h2, _, h4⟩ := h
  rw [List.drop_eq_nil_of_le hj] at h2 h4
  rw [h2, h4]; rfl
theorem ra_len {XS XS' : List (List Int)} {N A : Nat} {u : Int} {j : Nat} (h : RA XS N u j A XS') (hj : j ≤ XS.length) : XS'.length = XS.length := by
  obtain ⟨P, h1, h2, _⟩ := h
  rw [h2, List.length_append, List.length_drop]; omega
theorem ra_step {XS XS' : List (List Int)} {N A : Nat} {u : Int} {j : Nat} (h : RA XS N u j A XS') (hj : j < XS.length) : ∃ y, XS'[j]? = some y ∧ y = XS[j] ∧ A ≤ y.length ∧ RA XS N u (j + 1) (A / 16) (XS'.set j (raiseL y A u)) := by
  obtain ⟨P, h1, h2, h3, h4⟩ := h
  have hd : XS.drop j = XS[j] :: XS.drop (j + 1) := List.drop_eq_getElem_cons hj
  rw [hd] at h2 h3 h4
  refine ⟨XS[j], ?_, rfl, h3.1, P ++ [raiseL XS[j] A u], by simp [h1], ?_, h3.2, ?_⟩
  · rw [h2, List.getElem?_append_right (by omega), h1, Nat.sub_self]; rfl
  · rw [h2, List.set_append_right _ _ (by omega), h1, Nat.sub_self, List.set_cons_zero, List.append_assoc]; rfl
  · rw [h4, List.append_assoc]; rfl
end Cu
end Go.Proofs.YtnjgdfmldjgloaaGreat
