/- Rows of numbers: compared, written over; rows of texts and of bindings as they come in, with how far they reach. -/
import Derived.Test.YtpaebheklhlipaaSvA
import Derived.Test.YtpaebheklhlipaaInA
namespace Go.Proofs.Ytpaebheklhlipaa
open Go.ChangeShapes Go.WideShapes Go.ChangeAt Go.RowKit
open Pl
namespace Sv

theorem iC_len (xs : List Int) : (iC xs).length = xs.length := by rw [iC, flat_len (f := iV) (z := 1) (fun _ => rfl) xs, Nat.mul_one]
theorem iC_app (a b : List Int) : iC (a ++ b) = iC a ++ iC b := by simp [iC]
theorem iC_one (xs : List Int) : ∀ u ∈ iC xs, u.oneCell' = true := by
  intro u hu
  unfold iC at hu
  obtain ⟨p, _, hu⟩ := List.mem_flatMap.1 hu
  unfold iV at hu
  simp at hu
  subst hu
  rfl
theorem info3' : (Try.prog.info? 3).map (fun i => (i.zero, i.size, i.bytes)) = some (some (.int .i64 0), 1, 8) := by kernel_rfl

set_option maxRecDepth 20000 in
theorem sameI_any (v u : Value) (a b : List Int) (w : World) (h1 : Row w v a.length (iC a)) (h2 : Row w u b.length (iC b)) (hm1 : a.length ≤ maxLen) (hm2 : b.length ≤ maxLen) (r : Bool) (hr : decide (a = b) = r) :
    Calls Try.prog 10 #[v, u] w fun e w' => e = .returned (.bool r) ∧ Below w.heap.size w w' := by
  obtain ⟨N, hN⟩ : ∃ N, N = a.length := ⟨_, rfl⟩
  obtain ⟨M, hM⟩ : ∃ M, M = b.length := ⟨_, rfl⟩
  obtain ⟨x, c, rfl⟩ := row_slice h1
  obtain ⟨x', c', rfl⟩ := row_slice h2
  have HN : Hid (N = a.length) := hN
  have HM : Hid (M = b.length) := hM
  rw [← hN] at h1 hm1 ⊢
  rw [← hM] at h2 hm2 ⊢
  unfold maxLen at hm1 hm2
  have HR1 : Hid (Row w (.slice x N c) N (iC a)) := h1
  have HR2 : Hid (Row w (.slice x' M c') M (iC b)) := h2
  have HR : Hid (decide (a = b) = r) := hr
  have hb : Below w.heap.size w w := Below.refl _ _
  by_cases hl : N = M
  · have HL : Hid (N = M) := hl
    have hne : ((N : Int) != (M : Int)) = false := by rw [hl]; simp
    clear h1 h2 hr hN hM hl
    go_enter Try.func10, Try.ntmps10
    go_wp2
    go_loopw [5] (fun i wr => ∃ k : Nat, k ≤ N ∧ i = .int .i64 (k : Int) ∧ Hid (a.take k = b.take k) ∧ Below w.heap.size w wr) (fun i _ => N - (intOf i).toNat)
    case atStart => exact ⟨0, Nat.zero_le _, rfl, by unfold Hid; simp, hb⟩
    case round =>
      clear hb
      obtain ⟨k, hk, rfl, HT, hb⟩ := hrel
      by_cases hkn : k < N
      · have hkn' : (k : Int) < (N : Int) := by omega
        have hka : k < a.length := by have := HN.out; omega
        have hkb : k < b.length := by have := HM.out; have := HL.out; omega
        have hkm' : (k : Int) < (M : Int) := by have := HL.out; omega
        obtain ⟨g, o, cap, hx, hc⟩ := row_at (HR1.out.below hb) (by omega)
        obtain ⟨g', o', cap', hx', hc'⟩ := row_at (HR2.out.below hb) (by omega)
        simp only [Value.slice.injEq] at hx hx'
        obtain ⟨rfl, -, rfl⟩ := hx
        obtain ⟨rfl, -, rfl⟩ := hx'
        have d0 := hc k _ (iC_at hka)
        have e0 := hc' k _ (iC_at hkb)
        obtain ⟨p, hp⟩ : ∃ p, p = a[k] := ⟨_, rfl⟩
        obtain ⟨q, hq⟩ : ∃ q, q = b[k] := ⟨_, rfl⟩
        have HP : Hid (p = a[k]) := hp
        have HQ : Hid (q = b[k]) := hq
        rw [← hp] at d0
        rw [← hq] at e0
        clear hc hc' hp hq
        by_cases e : p = q
        · have HT2 : Hid (a.take (k + 1) = b.take (k + 1)) := by
            unfold Hid
            rw [List.take_succ_eq_append_getElem hka, List.take_succ_eq_append_getElem hkb, HT.out, ← HP.out, ← HQ.out, e]
          subst e
          go_wp2
          go_region
          go_wp2
          go_roundw
          case rel => exact ⟨k + 1, by omega, by go_num, HT2, next hb (below_drew ⟨1, rfl⟩)⟩
          case measure => simp [intOf]; omega
        · have hpq : (p != q) = true := by simpa using e
          have HF : Hid (r = false) := by
            unfold Hid
            rw [← HR.out, decide_eq_false_iff_not]
            rintro rfl
            exact e (HP.out.trans HQ.out.symm)
          clear e
          go_wp2
          go_region
          go_wp2
          go_ret
          exact ⟨ret_bool HF.out.symm, next hb (below_drew ⟨1, rfl⟩)⟩
      · have hkn' : decide (k < N) = false := by simpa using hkn
        have HF : Hid (r = true) := by
          unfold Hid
          rw [← HR.out, decide_eq_true_eq]
          have h1 := HT.out
          have h2 := HN.out
          have h3 := HM.out
          have h4 := HL.out
          rw [List.take_of_length_le (by omega), List.take_of_length_le (by omega)] at h1
          exact h1
        go_wp2
        go_ret
        exact ⟨ret_bool HF.out.symm, hb⟩
  · have hne : ((N : Int) != (M : Int)) = true := by simp; omega
    have HF : Hid (r = false) := by
      unfold Hid
      rw [← hr, decide_eq_false_iff_not]
      rintro rfl
      omega
    clear h1 h2 hr hl HR hN hM
    go_enter Try.func10, Try.ntmps10
    go_wp2
    go_ret
    exact ⟨ret_bool HF.out.symm, hb⟩

/-- From the place j on there are n numbers. -/
def NumsI (xs : List Value) (j n : Nat) : Prop := ∀ i, j ≤ i → i < n → ∃ q : Int, xs[i]? = some (.int .i64 q)
theorem NumsI.set {xs : List Value} {j n : Nat} (h : NumsI xs j n) (v : Value) : NumsI (xs.set j v) (j + 1) n := by
  intro i hi hn
  obtain ⟨q, h1⟩ := h i (by omega) hn
  exact ⟨q, by rw [List.getElem?_set_ne (by omega)]; exact h1⟩
theorem numsI (xs : List Int) : NumsI (iC xs) 0 xs.length := fun i _ hi => ⟨xs[i], iC_at hi⟩
set_option maxRecDepth 20000 in
theorem spoilI_any {B n cap : Nat} {y : Option Addr} {xs : List Value} {w : World} (hown : w.ownsRow B 3 1 (.slice y n cap) n xs) (hi : NumsI xs 0 n) (hn : n ≤ maxLen) :
    Calls Try.prog 14 #[.slice y n cap] w fun e w' => e = .returned (.tuple #[]) ∧ Turn (fun k => (Value.slice y n cap).ownBlock = some k) w w' := by
  have HT : Hid (Turn (fun k => (Value.slice y n cap).ownBlock = some k) w w) := Turn.refl _ _
  unfold maxLen at hn
  by_cases h0 : n = 0
  · subst h0
    clear hown hi
    go_enter Try.func14, Try.ntmps14
    go_wp2
    go_loopw [2] (fun i wr => i = .int .i64 0 ∧ wr = w) (fun _ _ => 0)
    case atStart => exact ⟨rfl, rfl⟩
    case round =>
      obtain ⟨rfl, rfl⟩ := hrel
      go_wp2
      go_end0
      exact ⟨rfl, HT.out⟩
  · obtain ⟨g, cap', e1, _, _⟩ := hown.form (by omega)
    simp only [Value.slice.injEq, true_and] at e1
    obtain ⟨rfl, rfl⟩ := e1
    have HS : Hid (w.ownsRow B 3 1 (.slice (some ⟨g, 0, none⟩) n cap) n xs ∧ NumsI xs 0 n ∧ Turn (fun k => (Value.slice (some ⟨g, 0, none⟩) n cap).ownBlock = some k) w w) := ⟨hown, hi, HT.out⟩
    clear hown hi HT
    go_enter Try.func14, Try.ntmps14
    go_wp2
    go_loopw [2] (fun i wr => ∃ (j : Nat) (xs' : List Value), j ≤ n ∧ i = .int .i64 (j : Int) ∧ Hid (wr.ownsRow B 3 1 (.slice (some ⟨g, 0, none⟩) n cap) n xs' ∧ NumsI xs' j n ∧ Turn (fun k => (Value.slice (some ⟨g, 0, none⟩) n cap).ownBlock = some k) w wr)) (fun i _ => n - (intOf i).toNat)
    case atStart => exact ⟨0, xs, Nat.zero_le _, rfl, HS⟩
    case round =>
      clear HS
      obtain ⟨j, xs', hj, rfl, HS⟩ := hrel
      by_cases hjn : j < n
      · have hjn' : (j : Int) < (n : Int) := by omega
        obtain ⟨q, ht⟩ := HS.out.2.1 j (Nat.le_refl _) hjn
        have c1 : wr.cell? ⟨g, j, none⟩ = some (.int .i64 q) := by rw [HS.out.1.cellAt j (by omega)]; exact ht
        have f1 := HS.out.1.frozenAt j
        have HST : ∀ Z : Value, Hid ((wr.setCell ⟨g, j, none⟩ Z).ownsRow B 3 1 (.slice (some ⟨g, 0, none⟩) n cap) n (xs'.set j Z) ∧ NumsI (xs'.set j Z) (j + 1) n ∧ Turn (fun k => (Value.slice (some ⟨g, 0, none⟩) n cap).ownBlock = some k) w (wr.setCell ⟨g, j, none⟩ Z)) :=
          fun Z => ⟨(HS.out.1.stored _ _).1, HS.out.2.1.set _, HS.out.2.2.same (Turn.of_set (S := fun k => (Value.slice (some ⟨g, 0, none⟩) n cap).ownBlock = some k) wr (p := ⟨g, j, none⟩) rfl _)⟩
        clear ht
        go_wp2
        go_roundw
        case rel => exact ⟨j + 1, _, by omega, by go_num, (HST _).out⟩
        case measure => simp [intOf]; omega
      · have hjn' : decide (j < n) = false := by simpa using hjn
        go_wp2
        go_end0
        exact ⟨rfl, HS.out.2.2⟩

theorem tC_rows (ps : List ByteArray) : tC ps = ps.flatMap (fun s => [Value.string s]) := by
  unfold tC
  induction ps with
  | nil => rfl
  | cons a ps ih => rw [List.map_cons, ih, List.flatMap_cons]; rfl
theorem b_cells : Try.prog.cellsOf 37 = 5 := by kernel_rfl
theorem b_cells9 : Try.prog.cellsOf 9 = 1 := by kernel_rfl
theorem b_cells3 : Try.prog.cellsOf 3 = 1 := by kernel_rfl
theorem b_bytes9 : Try.prog.bytesOf 9 = 16 := by kernel_rfl
theorem b_bytes : Try.prog.bytesOf 37 = 64 := by kernel_rfl
theorem weights_inS {H : Type} {P : Program} {e : TypeId} {d : DataW H} {n : Nat} : ∀ {l : List (DataW H)}, d ∈ l → n ∈ d.weights P e → n ∈ DataW.weightsAll P e l := by
  intro l
  induction l with
  | nil => intro h; simp at h
  | cons a l ih =>
    intro h hn
    simp only [DataW.weightsAll, List.mem_append]
    rcases List.mem_cons.1 h with rfl | h
    · exact .inl hn
    · exact .inr (ih h hn)
/-- Texts as they come in. -/
structure TxIn (W : World) (v : Value) (ds : List ByteArray) : Prop where
  row : Row W v ds.length (tC ds)
  len : ds.length ≤ 8796093022000
  size : ∀ d ∈ ds, d.size ≤ 140737488351232
/-- What a binding may be. -/
structure BnOk (b : Bn) : Prop where
  c : b.c.size ≤ maxLen
  h : b.h.size ≤ maxLen
  a : (Lit.int .i64 b.a).wf = true
/-- Bindings as they come in. -/
structure BnIn (W : World) (v : Value) (bs : List Bn) : Prop where
  row : Row W v bs.length (bC bs)
  len : bs.length ≤ 2199023255490
  ok : ∀ b ∈ bs, BnOk b
theorem TxIn.below {w w' : World} {v : Value} {ds : List ByteArray} (h : TxIn w v ds) (hb : Below w.heap.size w w') : TxIn w' v ds := ⟨h.row.below hb, h.len, h.size⟩
theorem BnIn.below {w w' : World} {v : Value} {bs : List Bn} (h : BnIn w v bs) (hb : Below w.heap.size w w') : BnIn w' v bs := ⟨h.row.below hb, h.len, h.ok⟩

section
variable {H : Type} {enc : TypeId × Value → H} {W : World}
set_option maxRecDepth 20000 in
theorem open_texts {r : Reach} {b0 : Nat} {c : Value} {d : DataW H} {p : List MemPlace} (hval : Value.okWide Try.prog W r b0 22 c) (h0 : DataW.Trod enc Try.prog W 0 (fun _ => true) true 22 c d p) (hw : (d.weights Try.prog 22).all (· ≤ reachBytes) = true) :
    ∃ ds : List ByteArray, TxIn W c ds := by
  obtain ⟨x0, len0, cap0, rfl⟩ := okWide_slice Try.underlying22 hval
  obtain ⟨fuel, hf⟩ := h0
  have h : DataW.trod enc Try.prog W 0 (fun _ => true) true fuel 22 [.slice x0 len0 cap0] = some (d, p) := by simpa [Value.cells] using hf
  rcases open_strings Try.underlying22 Try.underlying9 (by kernel_rfl) h with ⟨hcs, _⟩ | ⟨a, len', cap', ss, hcs, _, hl, hm, hz, hx, hcell, hws⟩
  · simp at hcs
    obtain ⟨rfl, rfl, rfl⟩ := hcs
    exact ⟨[], Row.nil W _, by simp, fun d hd => by simp at hd⟩
  · simp at hcs
    obtain ⟨rfl, rfl, rfl⟩ := hcs
    rw [if_pos rfl] at hz
    have hlen : (ss.take len0).length = len0 := by rw [List.length_take]; omega
    simp at hx
    rw [hx.1] at hw
    refine ⟨ss.take len0, ?_, ?_, fun d hd => ?_⟩
    · rw [tC_rows, hlen]
      refine row_of (f := fun s => [Value.string s]) (z := 1) (fun _ => rfl) (by decide) hlen (fun i hi j hj => ?_)
      obtain rfl : j = 0 := by omega
      rw [hlen] at hi
      have h1 := hcell i (by omega)
      have h2 : ((a.add (i * 1)).add 0) = a.add i := by rw [Nat.mul_one]; unfold Addr.add; split <;> simp_all
      rw [h2, h1]
      simp [List.getElem?_eq_getElem (show i < ss.length by omega)]
    · have := List.all_eq_true.1 hw (((strs (H := H) (ss.take len0)).length + (strs (H := H) (ss.drop len0)).length) * Try.prog.bytesOf 9) (by simp [DataW.weights, Try.underlying22])
      simp only [decide_eq_true_eq] at this
      rw [b_bytes9] at this
      unfold strs at this
      rw [List.length_map] at this
      unfold reachBytes at this
      omega
    · have hm : (DataW.lit (Lit.string d.data.toList) : DataW H) ∈ strs (H := H) (ss.take len0) := List.mem_map.2 ⟨d, hd, rfl⟩
      have := List.all_eq_true.1 hw d.data.toList.length (by
        simp only [DataW.weights, Try.underlying22, List.mem_cons, List.mem_append]
        exact .inr (.inl (weights_inS hm (by simp [DataW.weights]))))
      simp only [decide_eq_true_eq] at this
      rw [data_len] at this
      unfold reachBytes at this
      omega
set_option maxRecDepth 20000 in
theorem open_binds {r : Reach} {b0 : Nat} {c : Value} {d : DataW H} {p : List MemPlace} (hval : Value.okWide Try.prog W r b0 23 c) (h0 : DataW.Trod enc Try.prog W 0 (fun _ => true) true 23 c d p) (hw : (d.weights Try.prog 23).all (· ≤ reachBytes) = true) :
    ∃ bs : List Bn, BnIn W c bs := by
  obtain ⟨x0, len0, cap0, rfl⟩ := okWide_slice Try.underlying23 hval
  obtain ⟨fuel, hf⟩ := h0
  have h : DataW.trod enc Try.prog W 0 (fun _ => true) true fuel 23 [.slice x0 len0 cap0] = some (d, p) := by simpa [Value.cells] using hf
  rcases DataW.trod_slice Try.underlying23 h with ⟨h0, _⟩ | ⟨a, len, cap, elems, rest, n, _, hcs, hx, _, hlc, hcm, hlen, hel, _, _⟩
  · simp at h0
    obtain ⟨rfl, rfl, rfl⟩ := h0
    exact ⟨[], Row.nil W _, by simp, fun r h => by simp at h⟩
  · simp at hcs
    obtain ⟨rfl, rfl, rfl⟩ := hcs
    have hd0 : d = .slice (elems.map (·.1)) (rest.map (·.1)) := by have := congrArg Prod.fst hx; simpa using this
    rw [hd0] at hw
    have hwl : len0 * 64 ≤ 140737488351232 := by
      have := List.all_eq_true.1 hw ((elems.length + rest.length) * Try.prog.bytesOf 37) (by simp [DataW.weights, Try.underlying23])
      simp only [decide_eq_true_eq] at this
      rw [b_bytes] at this
      unfold reachBytes at this
      omega
    have each : ∀ i, i < len0 → ∃ r : Bn, (∀ j, j < 5 → W.cell? ((a.add (i * 5)).add j) = (bV r)[j]?) ∧ BnOk r := by
      intro i hi
      have hb := hel i hi
      rw [b_cells] at hb
      have hs : elems[i]? = some elems[i] := List.getElem?_eq_getElem (by omega)
      rw [hs, Option.bind_eq_some_iff] at hb
      obtain ⟨cs, hcs, hy⟩ := hb
      obtain ⟨_, hcl, hcell⟩ := World.cells?_some hcs
      obtain ⟨xs, k, _, hxx, _, hxl, hf⟩ := DataW.trod_struct Try.underlying37 hy
      match xs, hxl, cs, hcl, hcell, hf, hxx with
      | [y0, y1, y2, y3, y4], _, [c0, c1, c2, c3, c4], _, hcell, hf, hxx =>
        have t0 := hf 0 _ rfl
        have t1 := hf 1 _ rfl
        have t2 := hf 2 _ rfl
        have t3 := hf 3 _ rfl
        have t4 := hf 4 _ rfl
        simp [b_cells9, b_cells3] at t0 t1 t2 t3 t4
        obtain ⟨s0, e0, _, z0⟩ := DataW.trod_string Try.underlying9 t0
        obtain ⟨s1, e1, _, z1⟩ := DataW.trod_string Try.underlying9 t1
        obtain ⟨s2, e2, _, z2⟩ := DataW.trod_int Try.underlying3 t2
        obtain ⟨s3, e3, _, _⟩ := DataW.trod_string Try.underlying9 t3
        obtain ⟨s4, e4, _, _⟩ := DataW.trod_int Try.underlying3 t4
        simp at e0 e1 e2 e3 e4
        refine ⟨⟨s0, s1, s2, s3, s4⟩, fun j hj => ?_, ⟨z0, z1, z2⟩⟩
        have := hcell j (by simpa using hj)
        rw [this]
        subst e0 e1 e2 e3 e4
        rfl
    obtain ⟨rs, hl, hq⟩ := list_of len0 each
    refine ⟨rs, ?_, by omega, fun r hr => ?_⟩
    · rw [hl]
      exact row_of (f := bV) (z := 5) (fun _ => rfl) (by decide) hl (fun i hi j hj => (hq i hi).1 j hj)
    · obtain ⟨i, hi, rfl⟩ := List.getElem_of_mem hr
      exact (hq i (by omega)).2
end

end Sv
end Go.Proofs.Ytpaebheklhlipaa
