/- Addrs of package serve: each address once, in the row of its first binding. -/
import Derived.Test.YtpaebheklhlipaaSvB
import Derived.Maps.OwnOps
import Derived.Maps.OwnSet
namespace Go.Proofs.Ytpaebheklhlipaa
open Go.RowKit
open Pl
namespace Sv

/-- Each number once, in the row of its first place. -/
def stepF (acc : List Int) (a : Int) : List Int := if acc.contains a then acc else acc ++ [a]
def adF (xs : List Int) : List Int := xs.foldl stepF []
theorem adF_nil : adF [] = [] := rfl
theorem adF_snoc (xs : List Int) (a : Int) : adF (xs ++ [a]) = stepF (adF xs) a := by unfold adF; rw [List.foldl_append]; rfl
theorem adF_take {xs : List Int} {k : Nat} (hk : k < xs.length) : adF (xs.take (k + 1)) = stepF (adF (xs.take k)) xs[k] := by rw [List.take_succ_eq_append_getElem hk, adF_snoc]
theorem stepF_mem (acc : List Int) (a x : Int) : x ∈ stepF acc a ↔ x ∈ acc ∨ x = a := by
  unfold stepF
  split
  · rename_i h
    rw [List.contains_iff_mem] at h
    constructor
    · intro h1; exact .inl h1
    · rintro (h1 | rfl)
      · exact h1
      · exact h
  · simp
theorem addF_mem (xs : List Int) : ∀ (acc : List Int) (x : Int), x ∈ xs.foldl stepF acc ↔ x ∈ acc ∨ x ∈ xs := by
  induction xs with
  | nil => intro acc x; simp
  | cons y xs ih =>
    intro acc x
    rw [List.foldl_cons, ih, stepF_mem]
    simp [or_assoc]
theorem adF_mem (xs : List Int) (x : Int) : x ∈ adF xs ↔ x ∈ xs := by unfold adF; rw [addF_mem]; simp
theorem stepF_len (acc : List Int) (a : Int) : (stepF acc a).length ≤ acc.length + 1 := by unfold stepF; split <;> simp
theorem addF_len (xs : List Int) : ∀ acc : List Int, (xs.foldl stepF acc).length ≤ acc.length + xs.length := by
  induction xs with
  | nil => intro acc; simp
  | cons y xs ih =>
    intro acc
    rw [List.foldl_cons, List.length_cons]
    have := ih (stepF acc y)
    have := stepF_len acc y
    omega
theorem adF_len (xs : List Int) : (adF xs).length ≤ xs.length := by have := addF_len xs []; unfold adF; simpa using this
/-- The bindings' addresses. -/
def asL (bs : List Bn) : List Int := bs.map (·.a)
theorem asL_len (bs : List Bn) : (asL bs).length = bs.length := by simp [asL]
theorem asL_at {bs : List Bn} {k : Nat} (hk : k < bs.length) : (asL bs)[k]'(by rw [asL_len]; exact hk) = bs[k].a := by simp [asL]

theorem keyI : Go.Maps.Keyed Try.prog 3 := Go.Maps.int_keyed Try.underlying3
theorem zeroI (w : World) : (zeroValue 3).run Try.prog w = .ok (.int .i64 0) w := by kernel_rfl
theorem own_turnM {H : Type} {k : TypeId} {R : Value → Option (DataW H × List MemPlace)} {S : Nat → Prop} {w w' : World} {b n : Nat} {D : DataW H} (h : w.ownsMap Try.prog k R b n D) (ht : Turn S w w') (hs : ¬ S b) : w'.ownsMap Try.prog k R b n D := by
  have hlt := h.lt
  obtain ⟨es, clock, hb, F, hn, rfl⟩ := h
  exact ⟨es, clock, (ht.block b hlt hs).trans hb, F, hn, rfl⟩
/-- What a map of numbers holds: how often each has come. -/
def Cnt (D : DataW Unit) (xs : List Int) : Prop := ∀ a : Int, D.atKey (.int .i64 a) (.lit (.int .i64 0)) = .lit (.int .i64 ((xs.count a : Nat) : Int))
theorem cnt_nil : Cnt (.map []) [] := fun _ => rfl
theorem cnt_put {D : DataW Unit} {xs : List Int} {a z : Int} (h : Cnt D xs) (hm : Maps.IsMap D) (hz : z = ((xs.count a + 1 : Nat) : Int)) : Cnt (D.put (.int .i64 a) (.lit (.int .i64 z))) (xs ++ [a]) := by
  intro x
  by_cases e : x = a
  · subst e
    rw [Maps.atKey_put_same hm (by simp [WideAt.IsKeyLit]), hz]
    simp
  · rw [Maps.atKey_put_other (by simp; exact e), h x]
    have : ¬ a = x := fun h => e h.symm
    simp [List.count_append, this]

/-- How far Addrs is. -/
structure AdAt (w wr : World) (mb : Nat) (v : Value) (bs : List Bn) (j n : Nat) : Prop where
  map : ∃ D : DataW Unit, wr.ownsMap Try.prog 3 (plainElem Try.prog 3) mb j D ∧ Cnt D ((asL bs).take j)
  len : n = (adF ((asL bs).take j)).length
  out : wr.ownsRow w.heap.size 3 1 v n (iC (adF ((asL bs).take j)))
  sep : ∀ k, v.ownBlock = some k → k ≠ mb
  bel : Below w.heap.size w wr
  new : w.heap.size ≤ mb
  lt : mb < wr.heap.size
theorem AdAt.seen {w wr wa w3 : World} {mb j n : Nat} {v : Value} {bs : List Bn} {D : DataW Unit} {xa z : Int} (h : AdAt w wr mb v bs j n) (hD : Cnt D ((asL bs).take j)) (hm : Maps.IsMap D) (hj : j < bs.length) (hx : bs[j].a = xa)
    (hin : ((asL bs).take j).count xa ≠ 0) (hw : Below wr.heap.size wr wa) (own3 : w3.ownsMap Try.prog 3 (plainElem Try.prog 3) mb (j + 1) (D.put (.int .i64 xa) (.lit (.int .i64 z)))) (hz : z = ((((asL bs).take j).count xa + 1 : Nat) : Int))
    (grow3 : wa.grownBy w3 (some mb)) : AdAt w w3 mb v bs (j + 1) n := by
  have hja : j < (asL bs).length := by rw [asL_len]; exact hj
  have hx' : (asL bs)[j] = xa := by rw [asL_at hj]; exact hx
  have e : adF ((asL bs).take (j + 1)) = adF ((asL bs).take j) := by
    rw [adF_take hja, hx']
    unfold stepF
    rw [if_pos]
    rw [List.contains_iff_mem, adF_mem]
    exact List.count_pos_iff.1 (by omega)
  have ht : Turn (fun k => k = mb) wr w3 := (Turn.of_below hw).same (Turn.of_grown grow3 (fun k hk => (Option.some.inj hk).symm))
  refine ⟨⟨_, own3, ?_⟩, by rw [e]; exact h.len, by rw [e]; exact ht.row h.out (fun k hk => h.sep k hk), h.sep, ?_, h.new, own3.lt⟩
  · rw [List.take_succ_eq_append_getElem hja, hx']
    exact cnt_put hD hm hz
  · exact Turn.below (S := fun k => k = mb) h.bel ht h.bel.size (fun i hi => by rw [hi]; exact h.new)
theorem AdAt.fresh {w wr wa w2 w3 : World} {mb j n : Nat} {v v' : Value} {bs : List Bn} {D : DataW Unit} {xa z : Int} (h : AdAt w wr mb v bs j n) (hD : Cnt D ((asL bs).take j)) (hm : Maps.IsMap D) (hj : j < bs.length) (hx : bs[j].a = xa)
    (hin : ((asL bs).take j).count xa = 0) (hw : Below wr.heap.size wr wa) (own2 : w2.ownsRow w.heap.size 3 1 v' (n + 1) (iC (adF ((asL bs).take j)) ++ iC [xa])) (grow2 : wa.grownBy w2 v.ownBlock) (hO : ∀ k, v'.ownBlock = some k → v.ownBlock = some k ∨ wa.heap.size ≤ k)
    (own3 : w3.ownsMap Try.prog 3 (plainElem Try.prog 3) mb (j + 1) (D.put (.int .i64 xa) (.lit (.int .i64 z)))) (hz : z = ((((asL bs).take j).count xa + 1 : Nat) : Int))
    (grow3 : w2.grownBy w3 (some mb)) : AdAt w w3 mb v' bs (j + 1) (n + 1) := by
  have hja : j < (asL bs).length := by rw [asL_len]; exact hj
  have hx' : (asL bs)[j] = xa := by rw [asL_at hj]; exact hx
  have e : adF ((asL bs).take (j + 1)) = adF ((asL bs).take j) ++ [xa] := by
    rw [adF_take hja, hx']
    unfold stepF
    rw [if_neg]
    rw [List.contains_iff_mem, adF_mem]
    exact List.count_eq_zero.1 hin
  have hlt := h.lt
  have hsep : ∀ k, v'.ownBlock = some k → k ≠ mb := fun k hk e => by
    subst e
    rcases hO k hk with h1 | h1
    · exact h.sep k h1 rfl
    · have := hw.size; omega
  have ht3 : Turn (fun k => k = mb) w2 w3 := Turn.of_grown grow3 (fun k hk => (Option.some.inj hk).symm)
  have hbw : Below w.heap.size w wa := next h.bel hw
  have hb2 : Below w.heap.size w w2 := Turn.below (S := fun k => v.ownBlock = some k) hbw (Turn.of_grown grow2 (fun k hk => hk)) hbw.size (fun i hi => (h.out.lt i hi).1)
  refine ⟨⟨_, own3, ?_⟩, by rw [e, List.length_append, ← h.len]; rfl, by rw [e, iC_app]; exact ht3.row own2 (fun k hk => hsep k hk), hsep, ?_, h.new, own3.lt⟩
  · rw [List.take_succ_eq_append_getElem hja, hx']
    exact cnt_put hD hm hz
  · exact Turn.below (S := fun k => k = mb) hb2 ht3 hb2.size (fun i hi => by rw [hi]; exact h.new)

set_option maxRecDepth 20000 in
set_option maxHeartbeats 1000000 in
theorem addrs_any (v : Value) (bs : List Bn) (w : World) (hi : BnIn w v bs) :
    Calls Try.prog 8 #[v] w fun e w' => ∃ v', e = .returned v' ∧ w'.ownsRow w.heap.size 3 1 v' (adF (asL bs)).length (iC (adF (asL bs))) ∧ Below w.heap.size w w' := by
  obtain ⟨i0, hi0, hz0, hz1, hz2⟩ := info_parts info3'
  have hmm := @run_makeMap Try.prog
  have hr := hi.row
  have hl := hi.len
  have HOK : Hid (∀ b ∈ bs, BnOk b) := hi.ok
  obtain ⟨N, hN⟩ : ∃ N, N = bs.length := ⟨_, rfl⟩
  have HN : Hid (N = bs.length) := hN
  rw [← hN] at hr hl
  have HR : Hid (Row w v N (bC bs)) := hr
  obtain ⟨x0, c0, rfl, _⟩ := hr.src
  have HA0 : Hid (AdAt w (w.alloc (.map #[] 0)) w.heap.size (.slice none 0 0) bs 0 0) :=
    ⟨⟨_, World.ownsMap_made _ _ _ _, cnt_nil⟩, rfl, ⟨rfl, .inl ⟨rfl, rfl⟩⟩, fun k hk => by simp [Value.ownBlock] at hk, lay (Below.refl _ _) _, Nat.le_refl _, by simp⟩
  clear hr hN hi
  go_enter Try.func8, Try.ntmps8
  go_wp2
  go_loopw [3, 10] (fun s i wr => ∃ (j n : Nat), j ≤ N ∧ n ≤ j ∧ i = .int .i64 (j : Int) ∧ Hid (AdAt w wr w.heap.size s bs j n)) (fun _ i _ => N - (intOf i).toNat)
  case atStart => exact ⟨0, 0, Nat.zero_le _, Nat.le_refl _, rfl, HA0⟩
  case round =>
    clear HA0
    obtain ⟨j, n, hj, hnj, rfl, HA⟩ := hrel
    by_cases hjn : j < N
    · have hjn' : (j : Int) < (N : Int) := by omega
      have hju : j < bs.length := by have := HN.out; omega
      obtain ⟨g, o, cap, hx, hc⟩ := row_at (HR.out.below HA.out.bel) (by omega)
      simp only [Value.slice.injEq, true_and] at hx
      obtain ⟨rfl, rfl⟩ := hx
      obtain ⟨⟨xc, xh, xa, xf, xu⟩, hp⟩ : ∃ p, p = bs[j] := ⟨_, rfl⟩
      have hfl := fun i hi => atBg hju i hi
      rw [← hp] at hfl
      have d0 := hc (j * 5 + 0) _ (hfl 0 (by omega))
      have d1 := hc (j * 5 + 1) _ (hfl 1 (by omega))
      have d2 := hc (j * 5 + 2) _ (hfl 2 (by omega))
      have d3 := hc (j * 5 + 3) _ (hfl 3 (by omega))
      have d4 := hc (j * 5 + 4) _ (hfl 4 (by omega))
      simp only [Nat.add_zero, ← Nat.add_assoc] at d0 d1 d2 d3 d4
      have HXA : Hid (bs[j].a = xa) := by unfold Hid; rw [← hp]
      have HJU : Hid (j < bs.length) := hju
      have hkey : keyOf Try.prog 3 (.int .i64 xa) = some (.int .i64 xa) := Go.Maps.keyOf_int_mk Try.underlying3 (by have := (HOK.out _ (List.getElem_mem hju)).a; rw [← hp] at this; exact this)
      obtain ⟨D, hown, hD⟩ := HA.out.map
      have HD : Hid (Cnt D ((asL bs).take j)) := hD
      have HIM : Hid (Maps.IsMap D) := hown.isMap
      obtain ⟨cn, hcn⟩ : ∃ cn, cn = ((asL bs).take j).count xa := ⟨_, rfl⟩
      have HCN : Hid (cn = ((asL bs).take j).count xa) := hcn
      have hcj : cn ≤ j := by rw [hcn]; exact Nat.le_trans List.count_le_length (by rw [List.length_take]; omega)
      have hat0 := hD xa
      rw [← hcn] at hat0
      have HAT : Hid (D.atKey (.int .i64 xa) (.lit (.int .i64 0)) = .lit (.int .i64 (cn : Int))) := hat0
      have hbY : Below wr.heap.size wr (wr.alloc (.cells #[.string xc, .string xh, .int .i64 xa, .string xf, .int .i64 xu] 37)) := lay (Below.refl _ _) _
      have hwf : (Lit.int .i64 ((cn : Int) + 1)).wf = true := WalkArith.wf_i64 (by omega)
      have hownA := own_turnM (S := fun _ => False) hown (Turn.of_below hbY) (fun h => h)
      clear hp hfl hc hcn hat0 hD hown
      by_cases h0 : cn = 0
      · have hT : ((cn : Int) == 0) = true := by simp [h0]
        have hbZ : Below wr.heap.size wr ((wr.alloc (.cells #[.string xc, .string xh, .int .i64 xa, .string xf, .int .i64 xu] 37)).alloc (.cells #[.int .i64 xa] 3)) := lay hbY _
        have HBZ : Hid (Below wr.heap.size wr ((wr.alloc (.cells #[.string xc, .string xh, .int .i64 xa, .string xf, .int .i64 xu] 37)).alloc (.cells #[.int .i64 xa] 3))) := hbZ
        have hoR := own_past HA.out.out hbZ
        have hoM := own_turnM (S := fun _ => False) hownA (Turn.of_below (lay (Below.refl _ _) (.cells #[.int .i64 xa] 3))) (fun h => h)
        have hrow1 := Row.of_blk (Blk.new (wr.alloc (.cells #[.string xc, .string xh, .int .i64 xa, .string xf, .int .i64 xu] 37)) #[.int .i64 xa] 3) (xs := iC [xa]) rfl 1 1
        rw [show (wr.alloc (.cells #[.string xc, .string xh, .int .i64 xa, .string xf, .int .i64 xu] 37)).heap.size = wr.heap.size + 1 from by simp] at hrow1
        have HBK : Hid (Blk ((wr.alloc (.cells #[.string xc, .string xh, .int .i64 xa, .string xf, .int .i64 xu] 37)).alloc (.cells #[.int .i64 xa] 3)) wr.heap.size #[.string xc, .string xh, .int .i64 xa, .string xf, .int .i64 xu] 37 ∧ some wr.heap.size ≠ u3.ownBlock) := ⟨(Blk.new _ _ _).alloc _, fun e => by have := (HA.out.out.lt _ e.symm).2; omega⟩
        have hbs : w.heap.size ≤ ((wr.alloc (.cells #[.string xc, .string xh, .int .i64 xa, .string xf, .int .i64 xu] 37)).alloc (.cells #[.int .i64 xa] 3)).heap.size := (next HA.out.bel hbZ).size
        have HC0 : Hid (((asL bs).take j).count xa = 0) := by unfold Hid; rw [← HCN.out]; exact h0
        clear h0 hbY hbZ
        go_wp2_with (first
          | (at_lookup; refine wpList_lookup_own_int _ rfl _ _ 43 rfl 3 3 .i64 keyI Try.underlying43 Try.underlying3 (zeroI _) w.heap.size j D rfl hownA _ _ rfl hkey ?_; intro c hat hwc; have hce := HAT.out.symm.trans hat; simp only [DataW.lit.injEq, Lit.int.injEq, true_and] at hce; subst hce; clear hat hwc)
          | (at_builtin; go_must (refine wpList_appG _ rfl (.tmp 19) (.tmp 22) 26 3 i0 _ 1 8 Try.underlying26 hi0 hz0 hz1 hz2 rfl (by decide) rfl w.heap.size _ n _ rfl hoR _ 1 (iC [xa]) rfl hrow1 rfl (iC_one _) (by omega) (by unfold maxLen; omega) hbs ?_); intro v2 w2 own2 grow2 hO2; have dB := (HBK.out.1.grown grow2 HBK.out.2).cell 2; simp only [List.getElem?_toArray, List.getElem?_cons_zero, List.getElem?_cons_succ] at dB; have hownB := own_turnM (S := fun k => u3.ownBlock = some k) hoM (Turn.of_grown grow2 (fun k hk => hk)) (fun h => HA.out.sep _ h rfl); have HO2 : Hid _ := And.intro own2 (And.intro grow2 hO2); clear own2 grow2 hO2)
          | (at_lookup; refine wpList_lookup_own_int _ rfl _ _ 43 rfl 3 3 .i64 keyI Try.underlying43 Try.underlying3 (zeroI _) w.heap.size j D rfl hownB _ _ rfl hkey ?_; intro c hat hwc; have hce := HAT.out.symm.trans hat; simp only [DataW.lit.injEq, Lit.int.injEq, true_and] at hce; subst hce; clear hat hwc)
          | (at_mapUpdate; refine wpList_mapUpdate_own _ rfl _ _ _ 43 rfl 3 3 keyI Try.underlying43 _ w.heap.size j D rfl hownB (by unfold maxLen; omega) _ _ _ rfl rfl hkey _ [] (plainElem_int Try.underlying3 hwf) ?_; intro w3 own3 grow3; have HS3 := fun hz => (HA.out).fresh HD.out HIM.out HJU.out HXA.out HC0.out HBZ.out HO2.out.1 HO2.out.2.1 HO2.out.2.2 own3 hz grow3; clear own3 grow3))
        go_roundw
        case rel => exact ⟨j + 1, n + 1, by omega, by omega, by go_num, HS3 (by rw [← HCN.out]; rfl)⟩
        case measure => simp [intOf]; omega
      · have hT : ((cn : Int) == 0) = false := by rw [beq_eq_false_iff_ne]; omega
        have HC0 : Hid (((asL bs).take j).count xa ≠ 0) := by unfold Hid; rw [← HCN.out]; exact h0
        have HBY : Hid (Below wr.heap.size wr (wr.alloc (.cells #[.string xc, .string xh, .int .i64 xa, .string xf, .int .i64 xu] 37))) := hbY
        clear h0 hbY
        go_wp2_with (first
          | (at_lookup; refine wpList_lookup_own_int _ rfl _ _ 43 rfl 3 3 .i64 keyI Try.underlying43 Try.underlying3 (zeroI _) w.heap.size j D rfl hownA _ _ rfl hkey ?_; intro c hat hwc; have hce := HAT.out.symm.trans hat; simp only [DataW.lit.injEq, Lit.int.injEq, true_and] at hce; subst hce; clear hat hwc)
          | (at_mapUpdate; refine wpList_mapUpdate_own _ rfl _ _ _ 43 rfl 3 3 keyI Try.underlying43 _ w.heap.size j D rfl hownA (by unfold maxLen; omega) _ _ _ rfl rfl hkey _ [] (plainElem_int Try.underlying3 hwf) ?_; intro w3 own3 grow3; have HS3 := fun hz => (HA.out).seen HD.out HIM.out HJU.out HXA.out HC0.out HBY.out own3 hz grow3; clear own3 grow3))
        go_roundw
        case rel => exact ⟨j + 1, n, by omega, by omega, by go_num, HS3 (by rw [← HCN.out]; rfl)⟩
        case measure => simp [intOf]; omega
    · have hjn' : decide (j < N) = false := by simpa using hjn
      have HE : Hid (wr.ownsRow w.heap.size 3 1 u3 (adF (asL bs)).length (iC (adF (asL bs))) ∧ Below w.heap.size w wr) := by
        have h1 := HA.out.out
        have h2 := HA.out.len
        rw [List.take_of_length_le (by rw [asL_len, ← HN.out]; omega)] at h1 h2
        rw [h2] at h1
        exact ⟨h1, HA.out.bel⟩
      clear HA
      go_wp2
      go_ret
      exact ⟨_, rfl, HE.out.1, HE.out.2⟩

end Sv
end Go.Proofs.Ytpaebheklhlipaa
