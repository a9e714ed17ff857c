/- The live bindings of a row, one by one: row.live, walk. -/
import Derived.Test.YtnjgdfmldjgloaaXP7
namespace Go.Proofs.Ytnjgdfmldjgloaa
open Go.RowKit Go.Shelf
open Pl
namespace Cu
attribute [local go_sem] Oper.semAt_some

theorem RawAt.same {w w' : World} {b : CB} {c : Ct} {xs : List (List Int)} (h : RawAt w b c xs) (hblk : ∀ k, foot b k → w'.heap[k]? = w.heap[k]?) : RawAt w' b c xs := by
  have hrow : ∀ {e z m : Nat} {v : Value} {ys : List Value}, w.ownsRow 0 e z v m ys → (∀ k, v.ownBlock = some k → foot b k) → w'.ownsRow 0 e z v m ys := by
    intro e z m v ys ho hs
    refine ⟨ho.1, ?_⟩
    rcases ho.2 with h0 | ⟨g, cap, cur, rfl, hb, hg, rest⟩
    · exact .inl h0
    · exact .inr ⟨g, cap, cur, rfl, hb, by rw [hblk g (hs g rfl)]; exact hg, rest⟩
  refine ⟨?_, hrow h.hosts (fun k hk => .inr hk), hrow h.held (fun k hk => .inl (.inr (.inl hk))), hrow h.til (fun k hk => .inl (.inr (.inr (.inl hk)))), h.lv.1, fun i v us h1 h2 => hrow (h.lv.2.1 i v us h1 h2) (fun k hk => .inl (.inr (.inr (.inr ⟨v, List.mem_of_getElem? h1, hk⟩)))), h.lv.2.2⟩
  have := h.blk
  unfold Blk at this ⊢
  rw [hblk _ (.inl (.inl rfl))]
  exact this
theorem CutAt.same {w w' : World} {b : CB} {c : Ct} (h : CutAt w b c) (hblk : ∀ k, foot b k → w'.heap[k]? = w.heap[k]?) : CutAt w' b c := ⟨h.raw.same hblk, h.ok⟩
/-- A binding whose host is one of so many. -/
abbrev BdH (H : Nat) := { x : Bd // x.h < H }
def encB {H : Nat} (z : BdH H) : Array Value := #[.agg #[.int .i64 (z.1.h : Int), .int .i64 z.1.a, .int .i64 z.1.u]]
def liveZ {H : Nat} (now : Int) (zs : List (BdH H)) : List (BdH H) := zs.filter fun z => decide (now < z.1.u)
theorem liveZ_map {H : Nat} (now : Int) (zs : List (BdH H)) : (liveZ now zs).map Subtype.val = liveB now (zs.map Subtype.val) := by
  unfold liveZ liveB
  rw [List.filter_map]; rfl
def zsOf {H : Nat} (bs : List Bd) (h : ∀ x ∈ bs, x.h < H) : List (BdH H) := bs.attach.map fun x => ⟨x.1, h x.1 x.2⟩
theorem zsOf_map {H : Nat} (bs : List Bd) (h : ∀ x ∈ bs, x.h < H) : (zsOf bs h).map Subtype.val = bs := by
  unfold zsOf
  rw [List.map_map]
  exact List.attach_map_subtype_val bs
theorem sC_at {bs : List Bd} {j : Nat} (hj : j < bs.length) : (sC bs)[j * 2]? = some (.int .i64 (bs[j].h : Int)) ∧ (sC bs)[j * 2 + 1]? = some (.int .i64 bs[j].a) :=
  ⟨flat_get (f := fun b : Bd => [Value.int .i64 (b.h : Int), Value.int .i64 b.a]) (z := 2) (fun _ => rfl) bs j hj 0 (by omega), flat_get (f := fun b : Bd => [Value.int .i64 (b.h : Int), Value.int .i64 b.a]) (z := 2) (fun _ => rfl) bs j hj 1 (by omega)⟩
/-- From a place to the end of its group. -/
theorem live_snoc {H : Nat} {now : Int} {zs : List (BdH H)} {k : Nat} (hk : k < zs.length) : liveZ now (zs.take (k + 1)) = liveZ now (zs.take k) ++ (if now < zs[k].1.u then [zs[k]] else []) := by
  rw [List.take_succ_eq_append_getElem hk]
  unfold liveZ
  rw [List.filter_append]
  congr 1
  by_cases h : now < zs[k].1.u
  · simp [h]
  · simp [h]
theorem live_le {H : Nat} (now : Int) (zs : List (BdH H)) (k : Nat) : liveZ now (zs.take k) <+: liveZ now zs := by
  conv => rhs; rw [← List.take_append_drop k zs]
  unfold liveZ
  rw [List.filter_append]
  exact List.prefix_append _ _

theorem min_int (a b c : Int) (h : c = min a b) (ty : TypeId) (u : World) : (Builtin.min_ #[3, 3] ty #[.int .i64 a, .int .i64 b]).run Try.prog u = .ok (.int .i64 c) u := by
  subst h
  by_cases hc : b < a
  · rw [Int.min_eq_right (by omega)]
    go_simp
  · rw [Int.min_eq_left (by omega)]
    go_simp
theorem wdepth (k : Nat) : Fence.wide.depth.isSome = true → 1 ≤ k := fun h => by simp [Fence.wide] at h
/-- What a round of the caller's keeps, and what it says. -/
def YieldsB (H l NN Bo n₁ : Nat) (J Jx : List (BdH H) → World → Prop) : Prop :=
  ∀ m pre (x : BdH H) W, J pre W → pre.length < NN → YieldAt Fence.wide m Try.prog l (encB x) W fun e W' => (e = .returned (.bool true) ∧ J (pre ++ [x]) W' ∧ KpX Bo n₁ W W') ∨ (e = .returned (.bool false) ∧ Jx (pre ++ [x]) W')
set_option maxRecDepth 100000 in
set_option maxHeartbeats 2000000 in
theorem walk0_in {H l NN Bo n₁ : Nat} {J Jx : List (BdH H) → World → Prop} (hY : YieldsB H l NN Bo n₁ J Jx) (hD : ∀ pre W, J pre W → J pre W.drew) {b : CB} {c : Ct} (zs : List (BdH H)) (hzs : zs.map Subtype.val = c.bs) (hf : ∀ k, foot b k → k < n₁ ∧ k ≠ Bo) (hne : c.bs.length ≠ 0) (now : Int) (i : Nat) (hi : 16 * i < c.bs.length)
    (n : Nat) (pre : List (BdH H)) (W : World) (hc : CutAt W b c) (hJ : J pre W) (hN : pre.length + (liveZ now (seg zs i)).length ≤ NN) :
    CallsIn Fence.wide n Try.prog 68 #[.pointer (some ⟨b.g, 3, none⟩), .int .i64 0, .int .i64 ((16 * i : Nat) : Int), .int .i64 now, .func (.yield l) #[] #[]] W fun e W' =>
      (e = .returned (.bool true) ∧ J (pre ++ liveZ now (seg zs i)) W' ∧ KpX Bo n₁ W W') ∨ (e = .returned (.bool false) ∧ ∃ q, q <+: liveZ now (seg zs i) ∧ Jx (pre ++ q) W') := by
  obtain ⟨N, hNN⟩ : ∃ N, N = c.bs.length := ⟨_, rfl⟩
  have hN256 : N ≤ 256 := by rw [hNN]; exact hc.ok.len
  have hl0 : (lvls (c.bs.map Bd.u))[0]? = some (c.bs.map Bd.u) := by
    unfold lvls
    rw [if_neg (by rw [List.length_map]; exact hne)]
    split <;> rfl
  obtain ⟨v, hv1, hv2⟩ := hc.raw.lv.at hl0
  rw [List.length_map, ← hNN] at hv2
  obtain ⟨g0, cap0, rfl, _, _⟩ := hv2.form (by omega)
  have hto := hc.raw.til
  have hlpos : 0 < b.ls.length := (List.getElem?_eq_some_iff.1 hv1).1
  obtain ⟨gu, cu, huv, _, _⟩ := hto.form hlpos
  rw [huv] at hto
  have hho := hc.raw.held
  rw [← hNN] at hho
  obtain ⟨gh, ch, hsv, _, _⟩ := hho.form (by omega)
  rw [hsv] at hho
  obtain ⟨m, hm⟩ : ∃ m, m = b.ls.length := ⟨_, rfl⟩
  rw [← hm] at hto huv hlpos
  have HCUT : Hid (CutAt W b c) := hc
  -- what is read, in whatever world that keeps the cut
  have HRD : Hid (∀ U, KpX Bo n₁ W U → U.cell? ⟨b.g, 4, none⟩ = some (.slice (some ⟨gu, 0, none⟩) m cu) ∧ U.cell? ⟨gu, 0, none⟩ = some (.slice (some ⟨g0, 0, none⟩) N cap0) ∧ U.cell? ⟨b.g, 3, none⟩ = some (.slice (some ⟨gh, 0, none⟩) N ch) ∧ ∀ j (hj : j < zs.length), U.cell? ⟨g0, j, none⟩ = some (.int .i64 zs[j].1.u) ∧ U.cell? ⟨gh, j * 2, none⟩ = some (.int .i64 (zs[j].1.h : Int)) ∧ U.cell? ⟨gh, j * 2 + 1, none⟩ = some (.int .i64 zs[j].1.a)) := fun U hU => by
    have hcell : ∀ k a, foot b k → U.cell? ⟨k, a, none⟩ = W.cell? ⟨k, a, none⟩ := fun k a hk => hU.cell (hf k hk).1 (hf k hk).2 a
    have e1 := hcell b.g 4 (.inl (.inl rfl))
    have e2 := hcell gu 0 (.inl (.inr (.inr (.inl (by rw [huv]; rfl)))))
    have e3 := hcell b.g 3 (.inl (.inl rfl))
    refine ⟨?_, ?_, ?_, fun j hj => ?_⟩
    · rw [e1, hc.raw.blk.cell 4, ← huv]; rfl
    · have := (lies_own hto).1 0 _ hv1
      rw [e2]; simpa using this
    · rw [e3, hc.raw.blk.cell 3, ← hsv]; rfl
    · have hjb : j < c.bs.length := by rw [← hzs, List.length_map]; exact hj
      have hzj : c.bs[j] = zs[j].1 := by simp [← hzs]
      have e4 := hcell g0 j (.inl (.inr (.inr (.inr ⟨_, List.mem_of_getElem? hv1, rfl⟩))))
      have e5 := hcell gh (j * 2) (.inl (.inr (.inl (by rw [hsv]; rfl))))
      have e6 := hcell gh (j * 2 + 1) (.inl (.inr (.inl (by rw [hsv]; rfl))))
      have q1 := (lies_own hv2).1 j (.int .i64 zs[j].1.u) (by unfold iC; rw [List.map_map, List.getElem?_map, List.getElem?_eq_getElem hjb, hzj]; rfl)
      obtain ⟨q2, q3⟩ := sC_at hjb
      rw [hzj] at q2 q3
      have q4 := (lies_own hho).1 _ _ q2
      have q5 := (lies_own hho).1 _ _ q3
      exact ⟨by rw [e4]; simpa using q1, by rw [e5]; simpa using q4, by rw [e6]; simpa using q5⟩
  have hzl : zs.length = N := by rw [hNN, ← hzs, List.length_map]
  obtain ⟨c4, cu0, c3, _⟩ := HRD.out W (KpX.refl W)
  obtain ⟨E, hE⟩ : ∃ E, E = min (16 * i + 16) N := ⟨_, rfl⟩
  -- how far the walk is
  have HS0 : Hid (∀ k, liveZ now ((seg zs i).take k) <+: liveZ now (seg zs i)) := fun k => live_le now _ k
  have HSEG : Hid (∀ k (hk : 16 * i + k < zs.length) (hk2 : k < 16), (seg zs i).length = E - 16 * i ∧ liveZ now ((seg zs i).take (k + 1)) = liveZ now ((seg zs i).take k) ++ (if now < zs[16 * i + k].1.u then [zs[16 * i + k]] else [])) := fun k hk hk2 => by
    have hsl : (seg zs i).length = E - 16 * i := by rw [seg_len, hzl, hE]; omega
    have hks : k < (seg zs i).length := by rw [seg_len, hzl]; omega
    refine ⟨hsl, ?_⟩
    have := live_snoc (now := now) hks
    have e : (seg zs i)[k] = zs[16 * i + k] := by
      have e : (seg zs i)[k]? = zs[16 * i + k]? := by
        unfold seg
        rw [List.getElem?_take_of_lt hk2, List.getElem?_drop]
      rw [List.getElem?_eq_getElem hks, List.getElem?_eq_getElem (by omega)] at e
      exact Option.some.inj e
    rw [e] at this
    exact this
  have HE : Hid (E = min (16 * i + 16) N) := hE
  have HZL : Hid (zs.length = N) := hzl
  have HIN : Hid (16 * i < N) := by rw [hNN]; exact hi
  have hEN : E ≤ N := by omega
  have hE16 : E ≤ 16 * i + 16 := by omega
  have hiE : 16 * i ≤ E := by have := HIN.out; omega
  have HFIN : Hid (∀ k, 16 * i + k = E → liveZ now ((seg zs i).take k) = liveZ now (seg zs i)) := fun k hk => by
    rw [List.take_of_length_le]
    rw [seg_len, hzl]; omega
  have HD : Hid (∀ pre W, J pre W → J pre W.drew) := hD
  clear hD hE hzl hNN hm hi hne hl0 hv1 hv2 hto hho hzs hc HCUT
  clear huv hsv
  obtain ⟨g, hg⟩ : ∃ g, g = b.g := ⟨_, rfl⟩
  rw [← hg] at c4 c3 HRD ⊢
  clear hg
  obtain ⟨f, hfe⟩ : ∃ f, f = 16 * i := ⟨_, rfl⟩
  rw [← hfe] at HE HIN hE16 hiE HFIN HSEG ⊢
  clear hfe
  refine callsIn_of_wp Try.func68 rfl trivial ?_ rfl
  simp only [Try.ntmps68, List.size_toArray, List.length_cons, List.length_nil, Nat.reduceAdd, Nat.reduceSub, Array.replicate_succ, Array.replicate_zero, List.push_toArray, List.append_toArray, List.nil_append, List.cons_append]
  gi_wp2
  gi_loopw [12] (fun p wr => ∃ k P : Nat, P ≤ E ∧ Hid (f + k = P) ∧ p = .int .i64 (P : Int) ∧ Hid (J (pre ++ liveZ now ((seg zs i).take k)) wr ∧ KpX Bo n₁ W wr)) (fun p _ => E - (intOf p).toNat)
  case atStart => exact ⟨0, f, hiE, rfl, rfl, by simpa [liveZ] using hJ, KpX.refl W⟩
  case round =>
    obtain ⟨k, P, hPE, HPK, rfl, HJK⟩ := hrel
    obtain ⟨d4, du0, d3, dz⟩ := HRD.out wr HJK.out.2
    clear d4 du0 c4 cu0 c3
    have hmn := fun ty u => min_int ((f : Int) + 16) (N : Int) (E : Int) (by have := HE.out; omega) ty u
    by_cases hkE : P < E
    · have hkN : P < N := by omega
      have hk16 : k < 16 := by have := HPK.out; omega
      have hkz : f + k < zs.length := by rw [HZL.out, HPK.out]; exact hkN
      obtain ⟨z0, z1, z2⟩ := dz (f + k) hkz
      obtain ⟨hsl, hstep⟩ := HSEG.out k hkz hk16
      obtain ⟨z, hz⟩ : ∃ z, z = zs[f + k] := ⟨_, rfl⟩
      rw [← hz] at z0 z1 z2 hstep
      rw [HPK.out] at z0 z1 z2
      have HSL : Hid ((seg zs i).length = E - f) := hsl
      have HP : Hid (liveZ now ((seg zs i).take (k + 1)) <+: liveZ now (seg zs i)) := HS0.out (k + 1)
      have hkE' : (P : Int) < (E : Int) := by omega
      have hp1 : (P : Int) < (f : Int) + 16 := by omega
      have hp2 : (P : Int) < (N : Int) := by omega
      have HSTEP : Hid (liveZ now ((seg zs i).take (k + 1)) = liveZ now ((seg zs i).take k) ++ (if now < z.1.u then [z] else [])) := hstep
      clear hz hsl hstep dz hkz
      obtain ⟨⟨zh, za, zu⟩, zlt⟩ := z
      simp only at z0 z1 z2 HSTEP
      cases hlv : decide (now < zu) with
      | false =>
        have HLV : Hid (¬ now < zu) := of_decide_eq_false hlv
        gi_wp2_with (refine ⟨trivial, wdepth _, ?_⟩; gi_at_call 35; go_must (refine (callsIn_wide.2 (isLive_any zu now _)).mono ?_); rintro e w' ⟨rfl, hw⟩; obtain rfl := hw.symm)
        go_roundw
        case rel => exact ⟨k + 1, P + 1, by omega, by have := HPK.out; unfold Hid; omega, by go_num, by have h1 := HSTEP.out; rw [if_neg (by have := HLV.out; omega), List.append_nil] at h1; rw [h1]; exact HJK.out⟩
        case measure => simp [intOf]; omega
      | true =>
        gi_wp2_with (refine ⟨trivial, wdepth _, ?_⟩; gi_at_call 35; go_must (refine (callsIn_wide.2 (isLive_any zu now _)).mono ?_); rintro e w' ⟨rfl, hw⟩; obtain rfl := hw.symm)
        have HLV : Hid (now < zu) := by have := of_decide_eq_true hlv; exact this
        have HST2 : Hid (liveZ now ((seg zs i).take (k + 1)) = liveZ now ((seg zs i).take k) ++ [⟨⟨zh, za, zu⟩, zlt⟩]) := by have h1 := HSTEP.out; rw [if_pos HLV.out] at h1; exact h1
        have HLEN : Hid ((pre ++ liveZ now ((seg zs i).take k)).length < NN) := by
          have h1 := HP.out.length_le
          rw [HST2.out] at h1
          unfold Hid
          simp at h1 ⊢
          omega
        have w3 : wr.drew.cell? ⟨g, 3, none⟩ = some (.slice (some ⟨gh, 0, none⟩) N ch) := d3
        have w0 : wr.drew.cell? ⟨g0, P, none⟩ = some (.int .i64 zu) := z0
        have w1 : wr.drew.cell? ⟨gh, P * 2, none⟩ = some (.int .i64 (zh : Int)) := z1
        have w2 : wr.drew.cell? ⟨gh, P * 2 + 1, none⟩ = some (.int .i64 za) := z2
        obtain ⟨fn, tmps, assign, body, hy, hR⟩ := hY (n - 1) (pre ++ liveZ now ((seg zs i).take k)) ⟨⟨zh, za, zu⟩, zlt⟩ wr.drew (HD.out _ _ HJK.out.1) HLEN.out
        unfold encB at hy
        simp only at hy
        have hR2 := hR.mono (R' := fun e W' => ∃ r : Bool, e = .returned (.bool r) ∧ Hid ((r = true ∧ J (pre ++ liveZ now ((seg zs i).take (k + 1))) W' ∧ KpX Bo n₁ W W') ∨ (r = false ∧ Jx (pre ++ liveZ now ((seg zs i).take (k + 1))) W'))) (fun e W' h => by
          rw [HST2.out, ← List.append_assoc]
          rcases h with ⟨rfl, h1, h2⟩ | ⟨rfl, h1⟩
          · exact ⟨true, rfl, .inl ⟨rfl, h1, HJK.out.2.trans h2⟩⟩
          · exact ⟨false, rfl, .inr ⟨rfl, h1⟩⟩)
        clear hR
        gi_region_with (refine ⟨wdepth _, ?_⟩; refine hR2.mono ?_; rintro e W3 ⟨r, rfl, HPO⟩)
        all_goals (cases r)
        all_goals gi_wp2
        all_goals first
          | (go_ret; exact .inr ⟨rfl, _, HP.out, (HPO.out.resolve_left (fun h => by cases h.1)).2⟩)
          | (refine ⟨⟨k + 1, P + 1, by omega, by have := HPK.out; unfold Hid; omega, by go_num, (HPO.out.resolve_right (fun h => by cases h.1)).2⟩, by simp [intOf]; omega⟩)
    · have hkE' : decide ((P : Int) < (E : Int)) = false := by simp; omega
      have HF := HFIN.out k (by have := HPK.out; omega)
      have HJ9 := HJK.out
      rw [HF] at HJ9
      have HJ8 : Hid _ := HJ9
      clear HF HJ9
      gi_wp2
      go_ret
      exact .inl ⟨rfl, HJ8.out⟩

theorem take16 {H : Nat} (zs : List (BdH H)) (k : Nat) : zs.take (16 * (k + 1)) = zs.take (16 * k) ++ seg zs k := by
  unfold seg
  rw [show 16 * (k + 1) = 16 * k + 16 by omega, List.take_add]
theorem liveZ_app {H : Nat} (now : Int) (a b : List (BdH H)) : liveZ now (a ++ b) = liveZ now a ++ liveZ now b := by unfold liveZ; rw [List.filter_append]
theorem liveZ_none {H : Nat} {now : Int} {zs : List (BdH H)} {i : Nat} (h : maxL (seg (zs.map fun z => z.1.u) i) ≤ now) : liveZ now (seg zs i) = [] := by
  unfold liveZ
  refine List.filter_eq_nil_iff.2 (fun b hb => ?_)
  have h1 : b.1.u ∈ seg (zs.map fun z => z.1.u) i := by rw [seg_map]; exact List.mem_map.2 ⟨b, hb, rfl⟩
  have := maxL_le h1
  simp; omega
set_option maxRecDepth 100000 in
set_option maxHeartbeats 2000000 in
theorem walk1_in {H l NN Bo n₁ : Nat} {J Jx : List (BdH H) → World → Prop} (hY : YieldsB H l NN Bo n₁ J Jx) (hD : ∀ pre W, J pre W → J pre W.drew) {b : CB} {c : Ct} (zs : List (BdH H)) (hzs : zs.map Subtype.val = c.bs) (hf : ∀ k, foot b k → k < n₁ ∧ k ≠ Bo) (h17 : 16 < c.bs.length) (now : Int)
    (n : Nat) (W : World) (hc : CutAt W b c) (hJ : J [] W) (hN : (liveZ now zs).length ≤ NN) :
    CallsIn Fence.wide n Try.prog 68 #[.pointer (some ⟨b.g, 3, none⟩), .int .i64 1, .int .i64 0, .int .i64 now, .func (.yield l) #[] #[]] W fun e W' =>
      (e = .returned (.bool true) ∧ J (liveZ now zs) W') ∨ (e = .returned (.bool false) ∧ ∃ q, q <+: liveZ now zs ∧ Jx q W') := by
  obtain ⟨N, hNN⟩ : ∃ N, N = c.bs.length := ⟨_, rfl⟩
  have hN256 : N ≤ 256 := by rw [hNN]; exact hc.ok.len
  obtain ⟨us, hus⟩ : ∃ us, us = c.bs.map Bd.u := ⟨_, rfl⟩
  have husz : us = zs.map fun z => z.1.u := by rw [hus, ← hzs, List.map_map]; rfl
  have hul : us.length = N := by rw [hus, List.length_map, hNN]
  have hl1 : (lvls us)[1]? = some (lvl1 us) := by
    unfold lvls
    rw [if_neg (by omega), if_neg (by omega)]; rfl
  have hraw := hc.raw
  rw [← hus] at hraw
  obtain ⟨v, hv1, hv2⟩ := hraw.lv.at hl1
  obtain ⟨G, hG⟩ : ∃ G, G = grp N := ⟨_, rfl⟩
  rw [lvl1_len, hul, ← hG] at hv2
  have hG1 : 1 ≤ G := by rw [hG]; unfold grp; omega
  have hG16 : G ≤ 16 := by rw [hG]; unfold grp; omega
  obtain ⟨g1, cap1, rfl, _, _⟩ := hv2.form (by omega)
  have hto := hraw.til
  have hlpos : 1 < b.ls.length := (List.getElem?_eq_some_iff.1 hv1).1
  obtain ⟨gu, cu, huv, _, _⟩ := hto.form (by omega)
  rw [huv] at hto
  obtain ⟨m, hm⟩ : ∃ m, m = b.ls.length := ⟨_, rfl⟩
  rw [← hm] at hto huv hlpos
  have HRD : Hid (∀ U, KpX Bo n₁ W U → U.cell? ⟨b.g, 4, none⟩ = some (.slice (some ⟨gu, 0, none⟩) m cu) ∧ U.cell? ⟨gu, 1, none⟩ = some (.slice (some ⟨g1, 0, none⟩) G cap1) ∧ CutAt U b c ∧ ∀ j, j < G → U.cell? ⟨g1, j, none⟩ = some (.int .i64 (maxL (seg us j)))) := fun U hU => by
    have hblk : ∀ k, foot b k → U.heap[k]? = W.heap[k]? := fun k hk => hU k (hf k hk).1 (hf k hk).2
    have hcell : ∀ k a, foot b k → U.cell? ⟨k, a, none⟩ = W.cell? ⟨k, a, none⟩ := fun k a hk => hU.cell (hf k hk).1 (hf k hk).2 a
    have e1 := hcell b.g 4 (.inl (.inl rfl))
    have e2 := hcell gu 1 (.inl (.inr (.inr (.inl (by rw [huv]; rfl)))))
    refine ⟨?_, ?_, hc.same hblk, fun j hj => ?_⟩
    · rw [e1, hc.raw.blk.cell 4, ← huv]; rfl
    · have := (lies_own hto).1 1 _ hv1
      rw [e2]; simpa using this
    · have e4 := hcell g1 j (.inl (.inr (.inr (.inr ⟨_, List.mem_of_getElem? hv1, rfl⟩))))
      have hjl : j < (lvl1 us).length := by rw [lvl1_len, hul, ← hG]; exact hj
      have q1 := (lies_own hv2).1 j (.int .i64 (maxL (seg us j))) (by unfold iC; rw [List.getElem?_map, List.getElem?_eq_getElem hjl, lvl1_at]; rfl)
      rw [e4]; simpa using q1
  obtain ⟨c4, cu0, _, _⟩ := HRD.out W (KpX.refl W)
  have hzl : zs.length = N := by rw [hNN, ← hzs, List.length_map]
  have HZL : Hid (zs.length = N) := hzl
  have HW0 : Hid (∀ (i : Nat) (fI : Int) (U : World), i < G → fI = ((16 * i : Nat) : Int) → KpX Bo n₁ W U → J (liveZ now (zs.take (16 * i))) U → CallsIn Fence.wide (n - 1) Try.prog 68 #[.pointer (some ⟨b.g, 3, none⟩), .int .i64 0, .int .i64 fI, .int .i64 now, .func (.yield l) #[] #[]] U fun e W' =>
      ∃ r : Bool, e = .returned (.bool r) ∧ Hid ((r = true ∧ J (liveZ now (zs.take (16 * (i + 1)))) W' ∧ KpX Bo n₁ W W') ∨ (r = false ∧ ∃ q, q <+: liveZ now zs ∧ Jx q W'))) := fun i fI U hi hfI hU hJU => by
    subst hfI
    have hpre : liveZ now (zs.take (16 * (i + 1))) <+: liveZ now zs := live_le now zs _
    have hap : liveZ now (zs.take (16 * (i + 1))) = liveZ now (zs.take (16 * i)) ++ liveZ now (seg zs i) := by rw [take16, liveZ_app]
    refine (walk0_in hY hD zs hzs hf (by omega) now i (by rw [← hNN]; rw [hG] at hi; unfold grp at hi; omega) (n - 1) (liveZ now (zs.take (16 * i))) U (HRD.out U hU).2.2.1 hJU ?_).mono (fun e W' h => ?_)
    · have := hpre.length_le
      rw [hap, List.length_append] at this
      omega
    · rcases h with ⟨rfl, h1, h2⟩ | ⟨rfl, q, h1, h2⟩
      · exact ⟨true, rfl, .inl ⟨rfl, by rw [hap]; exact h1, hU.trans h2⟩⟩
      · refine ⟨false, rfl, .inr ⟨rfl, _, ?_, h2⟩⟩
        refine List.IsPrefix.trans ?_ hpre
        rw [hap]
        exact (List.prefix_append_right_inj _).2 h1
  have HSK : Hid (∀ i, maxL (seg us i) ≤ now → liveZ now (zs.take (16 * (i + 1))) = liveZ now (zs.take (16 * i))) := fun i hi => by
    rw [take16, liveZ_app, liveZ_none (by rw [← husz]; exact hi), List.append_nil]
  have HFIN : Hid (liveZ now (zs.take (16 * G)) = liveZ now zs) := by
    unfold Hid
    rw [List.take_of_length_le]
    rw [hzl, hG]; unfold grp; omega
  clear hD hzl hNN hG hm hv1 hv2 hto hzs hc hraw huv hus husz hul hl1 h17
  obtain ⟨g, hg⟩ : ∃ g, g = b.g := ⟨_, rfl⟩
  rw [← hg] at c4 HRD HW0 ⊢
  clear hg
  refine callsIn_of_wp Try.func68 rfl trivial ?_ rfl
  simp only [Try.ntmps68, List.size_toArray, List.length_cons, List.length_nil, Nat.reduceAdd, Nat.reduceSub, Array.replicate_succ, Array.replicate_zero, List.push_toArray, List.append_toArray, List.nil_append, List.cons_append]
  gi_wp2
  gi_loopw [12] (fun p wr => ∃ k : Nat, k ≤ G ∧ p = .int .i64 (k : Int) ∧ Hid (J (liveZ now (zs.take (16 * k))) wr ∧ KpX Bo n₁ W wr)) (fun p _ => G - (intOf p).toNat)
  case atStart => exact ⟨0, Nat.zero_le _, rfl, by simpa [liveZ] using hJ, KpX.refl W⟩
  case round =>
    obtain ⟨k, hkG, rfl, HJK⟩ := hrel
    obtain ⟨d4, du0, _, dz⟩ := HRD.out wr HJK.out.2
    clear c4 cu0
    have hmn := fun ty u => min_int 16 (G : Int) (G : Int) (by omega) ty u
    by_cases hk : k < G
    · have hk' : (k : Int) < (G : Int) := by omega
      have z0 := dz k hk
      have HSKk := HSK.out k
      obtain ⟨M, hM⟩ : ∃ M, M = maxL (seg us k) := ⟨_, rfl⟩
      rw [← hM] at z0 HSKk
      have HSK2 : Hid _ := HSKk
      clear hM dz HSKk
      have hwk := HW0.out k ((k : Int) * 16) wr hk (by push_cast; omega) HJK.out.2 HJK.out.1
      cases hlv : decide (now < M) with
      | false =>
        have HLV : Hid (M ≤ now) := by have := of_decide_eq_false hlv; unfold Hid; omega
        gi_wp2_with (refine ⟨trivial, wdepth _, ?_⟩; gi_at_call 35; go_must (refine (callsIn_wide.2 (isLive_any M now _)).mono ?_); rintro e w' ⟨rfl, hw⟩; obtain rfl := hw.symm)
        go_roundw
        case rel => exact ⟨k + 1, by omega, by go_num, by rw [HSK2.out HLV.out]; exact HJK.out⟩
        case measure => simp [intOf]; omega
      | true =>
        gi_wp2_with (first
          | (refine ⟨trivial, wdepth _, ?_⟩; gi_at_call 35; go_must (refine (callsIn_wide.2 (isLive_any M now _)).mono ?_); rintro e w' ⟨rfl, hw⟩; obtain rfl := hw.symm)
          | (refine ⟨trivial, wdepth _, ?_⟩; gi_at_call 68; go_must (refine hwk.mono ?_); rintro e W3 ⟨r, rfl, HPO⟩; cases r))
        all_goals first
          | (go_ret; exact .inr ⟨rfl, (HPO.out.resolve_left (fun h => by cases h.1)).2⟩)
          | (refine ⟨⟨k + 1, by omega, by go_num, (HPO.out.resolve_right (fun h => by cases h.1)).2⟩, by simp [intOf]; omega⟩)
    · have hk' : decide ((k : Int) < (G : Int)) = false := by simp; omega
      have HJ9 := HJK.out
      rw [show k = G by omega, HFIN.out] at HJ9
      have HJ8 : Hid _ := HJ9
      clear HJ9
      gi_wp2
      go_ret
      exact .inl ⟨rfl, HJ8.out.1⟩

end Cu
end Go.Proofs.Ytnjgdfmldjgloaa
