/- Wanting of package serve: the hosts of which there is no binding, but those that the cut is above. -/
import Derived.Test.YtpaebheklhlipaaSvC
namespace Go.Proofs.Ytpaebheklhlipaa
open Go.RowKit
open Pl
namespace Sv

/-- A name folded; of what is no name: nothing. -/
def fB (s : ByteArray) : ByteArray := ⟨(foldR s.data.toList).toArray⟩
theorem fB_list (s : ByteArray) : (fB s).data.toList = foldR s.data.toList := by unfold fB; simp
theorem fB_nil {s : ByteArray} (h : isName s.data.toList = false) : (fB s).data.toList = [] := by rw [fB_list]; unfold foldR; rw [h]; rfl
theorem fB_name {s : ByteArray} (h : isName s.data.toList = true) : (fB s).data.toList = foldL s.data.toList := by rw [fB_list]; unfold foldR; rw [h]; rfl
theorem nil_no : isName [] = false := by decide +kernel
theorem fB_ne {s : ByteArray} (h : isName s.data.toList = true) : (fB s).data.toList ≠ [] := by
  rw [fB_name h]
  intro e
  have h1 : s.data.toList = [] := by
    have := congrArg List.length e
    rw [fold_len, List.length_nil] at this
    exact List.eq_nil_of_length_eq_zero this
  rw [h1, nil_no] at h
  cases h
theorem fB_size (s : ByteArray) : (fB s).size ≤ 255 := by
  rw [← data_len]
  cases h : isName s.data.toList with
  | false => rw [fB_nil h]; simp
  | true => rw [fB_name h, fold_len, data_len]; exact name_size h

/-- How many bindings there are of a folded name. -/
def hostN (bs : List Bn) (s : List UInt8) : Nat := if s = [] then 0 else bs.countP (fun b => decide ((fB b.h).data.toList = s))
theorem hostN_nil (s : List UInt8) : hostN [] s = 0 := by unfold hostN; split <;> rfl
theorem hostN_snoc (bs : List Bn) (b : Bn) (s : List UInt8) : hostN (bs ++ [b]) s = hostN bs s + (if (fB b.h).data.toList = s ∧ s ≠ [] then 1 else 0) := by
  unfold hostN
  by_cases h : s = []
  · rw [if_pos h, if_pos h, if_neg (fun e => e.2 h)]
  · rw [if_neg h, if_neg h, List.countP_append]
    by_cases e : (fB b.h).data.toList = s
    · simp [e, h]
    · simp [e]
theorem hostN_len (bs : List Bn) (s : List UInt8) : hostN bs s ≤ bs.length := by
  unfold hostN
  split
  · exact Nat.zero_le _
  · exact List.countP_le_length
/-- Is there a binding of the host? -/
def hasH (bs : List Bn) (h : ByteArray) : Bool := bs.any fun b => sameB b.h.data.toList h.data.toList
theorem hostN_zero (bs : List Bn) (h : ByteArray) : hostN bs (fB h).data.toList = 0 ↔ hasH bs h = false := by
  unfold hasH hostN
  rw [List.any_eq_false]
  cases hn : isName h.data.toList with
  | false =>
    rw [if_pos (fB_nil hn)]
    constructor
    · intro _ b _ e
      unfold sameB at e
      rw [hn] at e
      simp at e
    · intro _; rfl
  | true =>
    rw [if_neg (fB_ne hn), List.countP_eq_zero]
    have key : ∀ b : Bn, decide ((fB b.h).data.toList = (fB h).data.toList) = sameB b.h.data.toList h.data.toList := by
      intro b
      unfold sameB
      rw [hn, fB_name hn, Bool.and_true]
      cases hb : isName b.h.data.toList with
      | false =>
        rw [fB_nil hb, Bool.false_and, decide_eq_false_iff_not]
        intro e
        have := fB_ne hn
        rw [fB_name hn] at this
        exact this e.symm
      | true => rw [fB_name hb, Bool.true_and]
    constructor
    · intro H b hb
      rw [← key]
      exact H b hb
    · intro H b hb
      rw [key]
      exact H b hb
/-- The cut that bindings serve. -/
def cutL (bs : List Bn) : ByteArray := match bs with | [] => ⟨#[]⟩ | b :: _ => b.c
def wantB (bs : List Bn) (h : ByteArray) : Bool := !hasH bs h && !aboveB (cutL bs).data.toList h.data.toList
def wantL (hosts : List ByteArray) (bs : List Bn) : List ByteArray := hosts.filter (wantB bs)
theorem cutL_size {bs : List Bn} (h : ∀ b ∈ bs, BnOk b) : (cutL bs).size ≤ maxLen := by
  cases bs with
  | nil => exact Nat.zero_le _
  | cons b bs => exact (h b (List.mem_cons_self ..)).c
theorem want_take {hosts : List ByteArray} {bs : List Bn} {k : Nat} (hk : k < hosts.length) : wantL (hosts.take (k + 1)) bs = wantL (hosts.take k) bs ++ (if wantB bs hosts[k] = true then [hosts[k]] else []) := by
  rw [List.take_succ_eq_append_getElem hk]
  unfold wantL
  rw [List.filter_append]
  congr 1
  by_cases h : wantB bs hosts[k] = true
  · simp [h]
  · simp [h]
theorem want_len (hosts : List ByteArray) (bs : List Bn) : (wantL hosts bs).length ≤ hosts.length := List.length_filter_le ..

theorem foldB_any (s : ByteArray) (w : World) (hs : s.size ≤ maxLen) :
    Calls Try.prog 28 #[.string s] w fun e w' => e = .returned (.string (fB s)) ∧ Below w.heap.size w w' := fold_any s w hs

set_option maxRecDepth 20000 in
theorem cutOf_any (v : Value) (bs : List Bn) (w : World) (hi : BnIn w v bs) :
    Calls Try.prog 26 #[v] w fun e w' => e = .returned (.string (cutL bs)) ∧ w' = w := by
  obtain ⟨x0, c0, rfl, _⟩ := hi.row.src
  cases bs with
  | nil =>
    clear hi
    go_enter Try.func26, Try.ntmps26
    go_wp2
    go_ret
    exact ⟨rfl, rfl⟩
  | cons b bs =>
    obtain ⟨g, o, cap, hx, hc⟩ := row_at hi.row (by simp)
    simp only [Value.slice.injEq, true_and] at hx
    obtain ⟨rfl, rfl⟩ := hx
    obtain ⟨xc, xh, xa, xf, xu⟩ := b
    have d0 := hc 0 (.string xc) rfl
    rw [Nat.add_zero] at d0
    have hl := hi.len
    rw [List.length_cons] at hl
    obtain ⟨N, hN⟩ : ∃ N, N = bs.length := ⟨_, rfl⟩
    rw [List.length_cons]
    rw [← hN] at hl ⊢
    have h0 : ((((N + 1 : Nat) : Int)) == 0) = false := by rw [beq_eq_false_iff_ne]; omega
    have h1 : (0 : Int) < ((N + 1 : Nat) : Int) := by omega
    have h2 : 0 < N + 1 := by omega
    clear hc hi hN
    go_enter Try.func26, Try.ntmps26
    go_wp2
    go_ret
    exact ⟨rfl, rfl⟩

theorem keyS : Go.Maps.Keyed Try.prog 9 := Go.Maps.string_keyed Try.underlying9
/-- What a map of texts holds: how many bindings there are of each. -/
def CntS (D : DataW Unit) (bs : List Bn) : Prop := ∀ s : List UInt8, D.atKey (.string s) (.lit (.int .i64 0)) = .lit (.int .i64 ((hostN bs s : Nat) : Int))
theorem cntS_nil : CntS (.map []) [] := fun s => by rw [hostN_nil]; rfl
theorem cntS_skip {D : DataW Unit} {bs : List Bn} {b : Bn} (h : CntS D bs) (he : (fB b.h).data.toList = []) : CntS D (bs ++ [b]) := fun s => by
  rw [h s, hostN_snoc, if_neg (fun e => e.2 (by rw [← e.1, he])), Nat.add_zero]
theorem cntS_put {D : DataW Unit} {bs : List Bn} {b : Bn} {z : Int} (h : CntS D bs) (hm : Maps.IsMap D) (he : (fB b.h).data.toList ≠ []) (hz : z = ((hostN bs (fB b.h).data.toList + 1 : Nat) : Int)) : CntS (D.put (.string (fB b.h).data.toList) (.lit (.int .i64 z))) (bs ++ [b]) := by
  intro s
  rw [hostN_snoc]
  by_cases e : (fB b.h).data.toList = s
  · subst e
    rw [Maps.atKey_put_same hm (by simp [WideAt.IsKeyLit]), hz, if_pos ⟨rfl, he⟩]
  · rw [Maps.atKey_put_other (by simp; exact fun h => e h.symm), h s, if_neg (fun h => e h.1), Nat.add_zero]

/-- How far countsOf is. -/
structure CoAt (w wr : World) (mb : Nat) (bs : List Bn) (j : Nat) : Prop where
  map : ∃ D : DataW Unit, wr.ownsMap Try.prog 9 (plainElem Try.prog 3) mb j D ∧ CntS D (bs.take j)
  bel : Below w.heap.size w wr
  new : w.heap.size ≤ mb
theorem CoAt.skip {w wr w3 : World} {mb j : Nat} {bs : List Bn} (h : CoAt w wr mb bs j) (hj : j < bs.length) (he : (fB bs[j].h).data.toList = []) (hb : Below wr.heap.size wr w3) : CoAt w w3 mb bs (j + 1) := by
  obtain ⟨D, ho, hD⟩ := h.map
  refine ⟨⟨D, (own_turnM (S := fun _ => False) ho (Turn.of_below hb) id).mono (Nat.le_succ _), ?_⟩, next h.bel hb, h.new⟩
  rw [List.take_succ_eq_append_getElem hj]
  exact cntS_skip hD he
theorem CoAt.put {w wr wa w3 : World} {mb j : Nat} {bs : List Bn} {D : DataW Unit} {F : ByteArray} {z : Int} (h : CoAt w wr mb bs j) (hD : CntS D (bs.take j)) (hm : Maps.IsMap D) (hj : j < bs.length) (hF : fB bs[j].h = F) (he : F.data.toList ≠ []) (hw : Below wr.heap.size wr wa)
    (own3 : w3.ownsMap Try.prog 9 (plainElem Try.prog 3) mb (j + 1) (D.put (.string F.data.toList) (.lit (.int .i64 z)))) (grow3 : wa.grownBy w3 (some mb)) (hz : z = ((hostN (bs.take j) F.data.toList + 1 : Nat) : Int)) : CoAt w w3 mb bs (j + 1) := by
  subst hF
  refine ⟨⟨_, own3, ?_⟩, ?_, h.new⟩
  · rw [List.take_succ_eq_append_getElem hj]
    exact cntS_put hD hm he hz
  · exact Turn.below (S := fun k => k = mb) h.bel ((Turn.of_below hw).same (Turn.of_grown grow3 (fun k hk => (Option.some.inj hk).symm))) h.bel.size (fun i hi => by rw [hi]; exact h.new)

set_option maxRecDepth 20000 in
set_option maxHeartbeats 1000000 in
theorem countsOf_any (v : Value) (bs : List Bn) (w : World) (hi : BnIn w v bs) :
    Calls Try.prog 27 #[v] w fun e w' => ∃ mb, e = .returned (.map (some mb)) ∧ CoAt w w' mb bs bs.length := by
  have hmm := @run_makeMap Try.prog
  have hr := hi.row
  have hl := hi.len
  have HOK : Hid (∀ b ∈ bs, BnOk b) := hi.ok
  obtain ⟨N, hN⟩ : ∃ N, N = bs.length := ⟨_, rfl⟩
  have HN : Hid (N = bs.length) := hN
  rw [← hN] at hr hl ⊢
  have HR : Hid (Row w v N (bC bs)) := hr
  obtain ⟨x0, c0, rfl, _⟩ := hr.src
  have HA0 : Hid (CoAt w (w.alloc (.map #[] 0)) w.heap.size bs 0) :=
    ⟨⟨_, World.ownsMap_made _ _ _ _, cntS_nil⟩, lay (Below.refl _ _) _, Nat.le_refl _⟩
  clear hr hN hi
  go_enter Try.func27, Try.ntmps27
  go_wp2
  go_loopw [10] (fun i wr => ∃ (j : Nat), j ≤ N ∧ i = .int .i64 (j : Int) ∧ Hid (CoAt w wr w.heap.size bs j)) (fun i _ => N - (intOf i).toNat)
  case atStart => exact ⟨0, Nat.zero_le _, rfl, HA0⟩
  case round =>
    clear HA0
    obtain ⟨j, hj, rfl, HA⟩ := hrel
    by_cases hjn : j < N
    · have hjn' : (j : Int) < (N : Int) := by omega
      have hju : j < bs.length := by have := HN.out; omega
      obtain ⟨g, o, cap, hx, hc⟩ := row_at (HR.out.below HA.out.bel) (by omega)
      simp only [Value.slice.injEq, true_and] at hx
      obtain ⟨rfl, rfl⟩ := hx
      obtain ⟨⟨xc, xh, xa, xf, xu⟩, hp⟩ : ∃ p, p = bs[j] := ⟨_, rfl⟩
      have hfl := fun i hi => atBg hju i hi
      rw [← hp] at hfl
      have d0 := hc (j * 5 + 0) _ (hfl 0 (by omega))
      have d1 := hc (j * 5 + 1) _ (hfl 1 (by omega))
      have d2 := hc (j * 5 + 2) _ (hfl 2 (by omega))
      have d3 := hc (j * 5 + 3) _ (hfl 3 (by omega))
      have d4 := hc (j * 5 + 4) _ (hfl 4 (by omega))
      simp only [Nat.add_zero, ← Nat.add_assoc] at d0 d1 d2 d3 d4
      have hxs : xh.size ≤ maxLen := by have := (HOK.out _ (List.getElem_mem hju)).h; rw [← hp] at this; exact this
      have hfo := fun u => foldB_any xh u hxs
      obtain ⟨F, hF⟩ : ∃ F, F = fB xh := ⟨_, rfl⟩
      have HFF : Hid (fB bs[j].h = F) := by unfold Hid; rw [← hp, hF]
      have hFs : F.size ≤ maxLen := by rw [hF]; exact Nat.le_trans (fB_size _) (by decide)
      simp only [← hF] at hfo
      obtain ⟨D, hown, hD⟩ := HA.out.map
      have HD : Hid (CntS D (bs.take j)) := hD
      have HIM : Hid (Maps.IsMap D) := hown.isMap
      obtain ⟨cn, hcn⟩ : ∃ cn, cn = hostN (bs.take j) F.data.toList := ⟨_, rfl⟩
      have HCN : Hid (cn = hostN (bs.take j) F.data.toList) := hcn
      have hcj : cn ≤ j := by rw [hcn]; exact Nat.le_trans (hostN_len _ _) (by rw [List.length_take]; omega)
      have hat0 := hD F.data.toList
      rw [← hcn] at hat0
      have HAT : Hid (D.atKey (.string F.data.toList) (.lit (.int .i64 0)) = .lit (.int .i64 (cn : Int))) := hat0
      have hkey := Go.WideMaps.keyOf_string_mk (P := Try.prog) Try.underlying9 hFs
      have hwf : (Lit.int .i64 ((cn : Int) + 1)).wf = true := WalkArith.wf_i64 (by omega)
      have HBY : Hid (Below wr.heap.size wr (wr.alloc (.cells #[.string xc, .string xh, .int .i64 xa, .string xf, .int .i64 xu] 37))) := lay (Below.refl _ _) _
      clear hp hfl hc hcn hat0 hD hF
      by_cases h0 : F.data.toList = []
      · have hT : (F.toList == []) = true := by rw [ByteArray.toList_eq, h0]; rfl
        have HF0 : Hid ((fB bs[j].h).data.toList = []) := by unfold Hid; rw [HFF.out]; exact h0
        clear h0 hown
        go_wp2_with (go_at_call 28; go_must (refine (hfo _).mono ?_); rintro e w1 ⟨rfl, b1⟩; have HB1 : Hid (Below wr.heap.size wr w1) := next HBY.out b1; clear b1)
        go_roundw
        case rel => exact ⟨j + 1, by omega, by go_num, HA.out.skip hju HF0.out HB1.out⟩
        case measure => simp [intOf]; omega
      · have hT : (F.toList == []) = false := by rw [ByteArray.toList_eq]; simpa using h0
        have HF0 : Hid (F.data.toList ≠ []) := h0
        clear h0
        go_wp2_with (first
          | (go_at_call 28; go_must (refine (hfo _).mono ?_); rintro e w1 ⟨rfl, b1⟩; have HB1 : Hid (Below wr.heap.size wr w1) := next HBY.out b1; have hownA := own_turnM (S := fun _ => False) hown (Turn.of_below HB1.out) id; clear b1)
          | (at_lookup; refine wpList_lookup_own_int _ rfl _ _ 45 rfl 9 3 .i64 keyS Try.underlying45 Try.underlying3 (zeroI _) w.heap.size j D rfl hownA _ _ rfl hkey ?_; intro c hat hwc; have hce := HAT.out.symm.trans hat; simp only [DataW.lit.injEq, Lit.int.injEq, true_and] at hce; subst hce; clear hat hwc)
          | (at_mapUpdate; refine wpList_mapUpdate_own _ rfl _ _ _ 45 rfl 9 3 keyS Try.underlying45 _ w.heap.size j D rfl hownA (by unfold maxLen; omega) _ _ _ rfl rfl hkey _ [] (plainElem_int Try.underlying3 hwf) ?_; intro w3 own3 grow3; have HS3 : Hid (CoAt w w3 w.heap.size bs (j + 1)) := HA.out.put HD.out HIM.out hju HFF.out HF0.out HB1.out own3 grow3 (by rw [← HCN.out]; rfl); clear own3 grow3))
        go_roundw
        case rel => exact ⟨j + 1, by omega, by go_num, HS3⟩
        case measure => simp [intOf]; omega
    · have hjn' : decide (j < N) = false := by simpa using hjn
      obtain rfl : j = N := by omega
      go_wp2
      go_ret
      exact ⟨_, rfl, HA.out⟩

end Sv
end Go.Proofs.Ytpaebheklhlipaa
