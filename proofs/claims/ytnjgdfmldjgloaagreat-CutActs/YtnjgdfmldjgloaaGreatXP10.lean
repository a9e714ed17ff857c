/- What may be told to a Cuts: has, mayTell, mayHosts, mayGlue, isWrong. -/
import Derived.Test.YtnjgdfmldjgloaaGreatXP9
import Derived.Laws.EntriesVeiled
namespace Go.Proofs.YtnjgdfmldjgloaaGreat
open Go.RowKit
open Pl
namespace Cu

def hasB (hs : List ByteArray) (h : ByteArray) : Bool := hs.any fun x => sameB x.data.toList h.data.toList
def hasF (B : Nat) : Value := .func (.func 101) #[] #[.pointer (some ⟨B, 0, none⟩)]
theorem has1_any (x h : ByteArray) (B : Nat) (w : World) (hb : w.cell? ⟨B, 0, none⟩ = some (.string h)) (hx : x.size ≤ maxLen) (hh : h.size ≤ maxLen) (r : Bool) (hr : sameB x.data.toList h.data.toList = r) :
    Calls Tryz.prog 101 #[.string x, .pointer (some ⟨B, 0, none⟩)] w fun e w' => e = .returned (.bool r) ∧ Below w.heap.size w w' := by
  go_enter Tryz.func101, Tryz.ntmps101
  go_wp2_with (go_at_call 85; go_must (refine (same_as x h r _ hx hh hr).mono ?_); rintro e w1 ⟨rfl, b1⟩)
  go_ret
  exact ⟨rfl, b1⟩
set_option maxRecDepth 20000 in
theorem hasIdx_any (v : Value) (hs : List ByteArray) (h : ByteArray) (B : Nat) (w : World) (hr : Row w v hs.length (tC hs)) (hl : hs.length ≤ maxLen) (hss : ∀ x ∈ hs, x.size ≤ maxLen) (hb : w.cell? ⟨B, 0, none⟩ = some (.string h)) (hh : h.size ≤ maxLen) :
    Calls Tryz.prog 106 #[v, hasF B] w fun e w' => ∃ k : Int, e = .returned (.int .i64 k) ∧ Hid (decide (0 ≤ k) = hasB hs h) ∧ Below w.heap.size w w' := by
  unfold hasF
  obtain ⟨n, hn⟩ : ∃ n, n = hs.length := ⟨_, rfl⟩
  rw [← hn] at hr hl
  unfold maxLen at hl
  have HN : Hid (n = hs.length) := hn
  have HR : Hid (Row w v n (tC hs)) := hr
  have HSS : Hid (∀ x ∈ hs, x.size ≤ maxLen) := hss
  have HBL : Hid (B < w.heap.size) := World.block_lt_of_cell? _ _ hb
  have HBC : Hid (w.cell? ⟨B, 0, none⟩ = some (.string h)) := hb
  obtain ⟨x0, c0, rfl, _⟩ := hr.src
  clear hr hn hss hb
  go_enter Tryz.func106, Tryz.ntmps106
  go_wp2
  go_loopw [8] (fun k wr => ∃ j : Nat, j ≤ n ∧ k = .int .i64 (j : Int) ∧ Hid (∀ i (hi : i < hs.length), i < j → sameB hs[i].data.toList h.data.toList = false) ∧ Hid (Below w.heap.size w wr)) (fun k _ => n - (intOf k).toNat)
  case atStart => exact ⟨0, Nat.zero_le _, rfl, fun i _ h => by omega, Below.refl _ _⟩
  case round =>
    obtain ⟨j, hj, rfl, HB, HW⟩ := hrel
    by_cases hjn : j < n
    · have hjn' : (j : Int) < (n : Int) := by omega
      have hju : j < hs.length := by have := HN.out; omega
      obtain ⟨g, o, cap, hx, hc⟩ := row_at (HR.out.below HW.out) (by omega)
      simp only [Value.slice.injEq] at hx
      obtain ⟨rfl, -, rfl⟩ := hx
      have d0 := hc j _ (tC_at' hju)
      obtain ⟨p, hp⟩ : ∃ p, p = hs[j] := ⟨_, rfl⟩
      have HQ : Hid (p = hs[j]) := hp
      have hpl : p.size ≤ maxLen := by rw [hp]; exact HSS.out _ (List.getElem_mem _)
      rw [← hp] at d0
      clear hc hp
      have cb : wr.cell? ⟨B, 0, none⟩ = some (.string h) := (HW.out.cell (p := ⟨B, 0, none⟩) HBL.out).trans HBC.out
      cases hs2 : sameB p.data.toList h.data.toList with
      | true =>
        have HF : Hid (decide (0 ≤ (j : Int)) = hasB hs h) := by
          unfold Hid hasB
          rw [decide_eq_true (by omega), List.any_eq_true.2 ⟨hs[j], List.getElem_mem _, by rw [← HQ.out]; exact hs2⟩]
        go_wp2_with (go_at_call 101; go_must (refine (has1_any p h B _ cb hpl hh true hs2).mono ?_); rintro e w1 ⟨rfl, b1⟩)
        go_ret
        exact ⟨_, rfl, HF, next HW.out b1⟩
      | false =>
        have HB2 : Hid (∀ i (hi : i < hs.length), i < j + 1 → sameB hs[i].data.toList h.data.toList = false) := fun i hi hij => by
          by_cases he : i = j
          · subst he; rw [← HQ.out]; exact hs2
          · exact HB.out i hi (by omega)
        go_wp2_with (go_at_call 101; go_must (refine (has1_any p h B _ cb hpl hh false hs2).mono ?_); rintro e w1 ⟨rfl, b1⟩)
        go_roundw
        case rel => exact ⟨j + 1, by omega, by go_num, HB2, next HW.out b1⟩
        case measure => simp [intOf]; omega
    · have hjn' : decide (j < n) = false := by simpa using hjn
      have HF : Hid (decide (0 ≤ (-1 : Int)) = hasB hs h) := by
        unfold Hid hasB
        rw [decide_eq_false (by omega), eq_comm, List.any_eq_false]
        intro x hx
        obtain ⟨i, hi, rfl⟩ := List.getElem_of_mem hx
        rw [HB.out i hi (by have := HN.out; omega)]; simp
      go_wp2
      go_ret
      exact ⟨_, rfl, HF, HW.out⟩
theorem hasCon_any (v : Value) (hs : List ByteArray) (h : ByteArray) (B : Nat) (w : World) (hr : Row w v hs.length (tC hs)) (hl : hs.length ≤ maxLen) (hss : ∀ x ∈ hs, x.size ≤ maxLen) (hb : w.cell? ⟨B, 0, none⟩ = some (.string h)) (hh : h.size ≤ maxLen) :
    Calls Tryz.prog 100 #[v, hasF B] w fun e w' => e = .returned (.bool (hasB hs h)) ∧ Below w.heap.size w w' := by
  have hc := hasIdx_any v hs h B w hr hl hss hb hh
  obtain ⟨x0, c0, rfl, _⟩ := hr.src
  unfold hasF at hc ⊢
  go_enter Tryz.func100, Tryz.ntmps100
  go_wp2_with (go_at_call 106; go_must (refine hc.mono ?_); rintro e w1 ⟨k, rfl, HK, b1⟩)
  go_ret
  exact ⟨ret_bool HK.out, b1⟩
theorem has_any (v : Value) (hs : List ByteArray) (h : ByteArray) (w : World) (hr : Row w v hs.length (tC hs)) (hl : hs.length ≤ maxLen) (hss : ∀ x ∈ hs, x.size ≤ maxLen) (hh : h.size ≤ maxLen) :
    Calls Tryz.prog 86 #[v, .string h] w fun e w' => e = .returned (.bool (hasB hs h)) ∧ Below w.heap.size w w' := by
  have hb : Below w.heap.size w (w.alloc (.cells #[.string h] 9)) := lay (Below.refl _ _) _
  have hc := hasCon_any v hs h w.heap.size (w.alloc (.cells #[.string h] 9)) (hr.below hb) hl hss ((Blk.new w #[.string h] 9).cell 0) hh
  obtain ⟨x0, c0, rfl, _⟩ := hr.src
  unfold hasF at hc
  go_enter Tryz.func86, Tryz.ntmps86
  go_wp2_with (go_at_call 100; go_must (refine hc.mono ?_); rintro e w1 ⟨rfl, b1⟩)
  go_ret
  exact ⟨rfl, next hb b1⟩

def tellOk (fr cn : ByteArray) : Bool := aboveB fr.data.toList cn.data.toList && !sameB fr.data.toList cn.data.toList
theorem mayTell_any (fr cn : ByteArray) (w : World) (hf : fr.size ≤ maxLen) (hc : cn.size ≤ maxLen) :
    Calls Tryz.prog 71 #[.string fr, .string cn] w fun e w' => e = .returned (.bool (tellOk fr cn)) ∧ Below w.heap.size w w' := by
  unfold tellOk
  cases h1 : aboveB fr.data.toList cn.data.toList with
  | false =>
    go_enter Tryz.func71, Tryz.ntmps71
    go_wp2_with (go_at_call 84; go_must (refine (above_as fr cn false _ hf hc h1).mono ?_); rintro e w1 ⟨rfl, b1⟩)
    go_ret
    exact ⟨rfl, b1⟩
  | true =>
    obtain ⟨r, hr⟩ : ∃ r, sameB fr.data.toList cn.data.toList = r := ⟨_, rfl⟩
    rw [hr]
    go_enter Tryz.func71, Tryz.ntmps71
    go_wp2_with (first
      | (go_at_call 84; go_must (refine (above_as fr cn true _ hf hc h1).mono ?_); rintro e w1 ⟨rfl, b1⟩)
      | (go_at_call 85; go_must (refine (same_as fr cn r _ hf hc hr).mono ?_); rintro e w2 ⟨rfl, b2⟩))
    go_ret
    exact ⟨rfl, next b1 b2⟩

/-- Are the first so many hosts names, no two the same? -/
def hOk (hs : List ByteArray) (i : Nat) : Bool := isName (hs.getD i ⟨#[]⟩).data.toList && !hasB (hs.take i) (hs.getD i ⟨#[]⟩)
def hostsOk (hs : List ByteArray) : Bool := decide (1 ≤ hs.length) && decide (hs.length ≤ 8) && (List.range hs.length).all (hOk hs)
set_option maxRecDepth 20000 in
theorem mayHosts_any (x0 : Option Addr) (N c0 : Nat) (hs : List ByteArray) (w : World) (hN : hs.length = N) (hr : Row w (.slice x0 N c0) N (tC hs)) (hcap : N ≤ c0) (hl : N ≤ maxLen) (hss : ∀ x ∈ hs, x.size ≤ maxLen) :
    Calls Tryz.prog 72 #[.slice x0 N c0] w fun e w' => e = .returned (.bool (hostsOk hs)) ∧ Below w.heap.size w w' := by
  by_cases h1 : N < 1
  · have e0 : hostsOk hs = false := by unfold hostsOk; rw [decide_eq_false (by omega)]; rfl
    rw [e0]
    have h1' : (N : Int) < 1 := by omega
    clear e0
    go_enter Tryz.func72, Tryz.ntmps72
    go_wp2
    go_ret
    exact ⟨rfl, Below.refl _ _⟩
  · have h1' : decide ((N : Int) < 1) = false := by simp; omega
    by_cases h2 : 8 < N
    · have e0 : hostsOk hs = false := by unfold hostsOk; rw [decide_eq_false (p := hs.length ≤ 8) (by omega), Bool.and_false]; rfl
      rw [e0]
      have h2' : (8 : Int) < (N : Int) := by omega
      clear e0
      go_enter Tryz.func72, Tryz.ntmps72
      go_wp2
      go_ret
      exact ⟨rfl, Below.refl _ _⟩
    · have h2' : decide ((8 : Int) < (N : Int)) = false := by simp; omega
      have HO : Hid (hostsOk hs = (List.range N).all (hOk hs)) := by unfold Hid hostsOk; rw [hN, decide_eq_true (by omega), decide_eq_true (by omega)]; rfl
      have HN : Hid (hs.length = N) := hN
      have HR : Hid (Row w (.slice x0 N c0) N (tC hs)) := hr
      have HSS : Hid (∀ x ∈ hs, x.size ≤ maxLen) := hss
      obtain ⟨b, hb⟩ : ∃ b, hostsOk hs = b := ⟨_, rfl⟩
      rw [hb]
      have HBB : Hid (b = (List.range N).all (hOk hs)) := by unfold Hid; rw [← hb]; exact HO.out
      clear hr hN hss HO hb
      go_enter Tryz.func72, Tryz.ntmps72
      go_wp2
      go_loopw [15] (fun k wr => ∃ j : Nat, j ≤ N ∧ k = .int .i64 (j : Int) ∧ Hid (∀ i, i < j → hOk hs i = true) ∧ Hid (Below w.heap.size w wr)) (fun k _ => N - (intOf k).toNat)
      case atStart => exact ⟨0, Nat.zero_le _, rfl, fun i h => by omega, Below.refl _ _⟩
      case round =>
        obtain ⟨j, hj, rfl, HB, HW⟩ := hrel
        by_cases hjn : j < N
        · have hjn' : (j : Int) < (N : Int) := by omega
          have hju : j < hs.length := by have := HN.out; omega
          obtain ⟨g, o, cap, hx, hc⟩ := row_at (HR.out.below HW.out) (by omega)
          simp only [Value.slice.injEq] at hx
          obtain ⟨rfl, -, rfl⟩ := hx
          have d0 := hc j _ (tC_at' hju)
          obtain ⟨p, hp⟩ : ∃ p, p = hs[j] := ⟨_, rfl⟩
          have hpl : p.size ≤ maxLen := by rw [hp]; exact HSS.out _ (List.getElem_mem _)
          have hpg : hs.getD j ⟨#[]⟩ = p := by rw [List.getD_eq_getElem?_getD, List.getElem?_eq_getElem hju, hp]; rfl
          rw [← hp] at d0
          have HOK : Hid (hOk hs j = (isName p.data.toList && !hasB (hs.take j) p)) := by unfold Hid hOk; rw [hpg]
          have HRJ : Hid (Row wr (.slice (some ⟨g, o, none⟩) j c0) (hs.take j).length (tC (hs.take j))) := by
            unfold Hid
            rw [List.length_take, Nat.min_eq_left (by omega)]
            refine .inr ⟨g, o, none, c0, rfl, fun _ => rfl, fun i u hi => hc i u ?_⟩
            have h1 := (List.getElem?_eq_some_iff.1 hi).1
            rw [tC_len, List.length_take] at h1
            have e : tC (hs.take j) = (tC hs).take j := by unfold tC; rw [List.map_take]
            rw [e, List.getElem?_take_of_lt (by omega)] at hi
            exact hi
          have HTK : Hid ((hs.take j).length ≤ maxLen ∧ ∀ x ∈ hs.take j, x.size ≤ maxLen) := ⟨by rw [List.length_take]; have := HN.out; omega, fun x hx => HSS.out x (List.mem_of_mem_take hx)⟩
          clear hc hp hpg
          cases hnm : isName p.data.toList with
          | false =>
            have HF : Hid (false = b) := by
              unfold Hid
              rw [HBB.out, eq_comm, List.all_eq_false]
              exact ⟨j, List.mem_range.2 hjn, by rw [HOK.out, hnm]; simp⟩
            go_wp2_with (go_at_call 67; go_must (refine (may_as p false _ hpl hnm).mono ?_); rintro e w' ⟨rfl, hw⟩; obtain rfl := hw.symm)
            go_ret
            exact ⟨ret_bool HF.out, HW.out⟩
          | true =>
            have hhs := has_any (.slice (some ⟨g, o, none⟩) j c0) (hs.take j) p wr HRJ.out HTK.out.1 HTK.out.2 hpl
            have hjc : (j : Int) ≤ (c0 : Int) := by omega
            cases hhb : hasB (hs.take j) p with
            | true =>
              rw [hhb] at hhs
              have HF : Hid (false = b) := by
                unfold Hid
                rw [HBB.out, eq_comm, List.all_eq_false]
                exact ⟨j, List.mem_range.2 hjn, by rw [HOK.out, hnm, hhb]; simp⟩
              go_wp2_with (first
                | (go_at_call 67; go_must (refine (may_as p true _ hpl hnm).mono ?_); rintro e w' ⟨rfl, hw⟩; obtain rfl := hw.symm)
                | (go_at_call 86; go_must (refine hhs.mono ?_); rintro e w1 ⟨rfl, b1⟩))
              go_ret
              exact ⟨ret_bool HF.out, next HW.out b1⟩
            | false =>
              rw [hhb] at hhs
              have HB2 : Hid (∀ i, i < j + 1 → hOk hs i = true) := fun i hij => by
                by_cases he : i = j
                · subst he; rw [HOK.out, hnm, hhb]; rfl
                · exact HB.out i (by omega)
              go_wp2_with (first
                | (go_at_call 67; go_must (refine (may_as p true _ hpl hnm).mono ?_); rintro e w' ⟨rfl, hw⟩; obtain rfl := hw.symm)
                | (go_at_call 86; go_must (refine hhs.mono ?_); rintro e w1 ⟨rfl, b1⟩))
              go_roundw
              case rel => exact ⟨j + 1, by omega, by go_num, HB2, next HW.out b1⟩
              case measure => simp [intOf]; omega
        · have hjn' : decide (j < N) = false := by simpa using hjn
          have HF : Hid (true = b) := by
            unfold Hid
            rw [HBB.out, eq_comm, List.all_eq_true]
            intro i hi
            exact HB.out i (by have := List.mem_range.1 hi; omega)
          go_wp2
          go_ret
          exact ⟨ret_bool HF.out, HW.out⟩

/-- Are the glue's hosts among the hosts? -/
def gOk (hs : List ByteArray) (g : Bn) : Bool := wideB g.a && hasB hs g.h
def glueOk (gl : List Bn) (hs : List ByteArray) : Bool := decide (gl.length ≤ 8) && gl.all (gOk hs)
set_option maxRecDepth 20000 in
theorem mayGlue_any (x0 : Option Addr) (N c0 : Nat) (gl : List Bn) (hv : Value) (hs : List ByteArray) (w : World) (hN : gl.length = N) (hr : Row w (.slice x0 N c0) N (bC gl)) (_hl : N ≤ maxLen) (hg : ∀ x ∈ gl, x.h.size ≤ maxLen) (hrh : Row w hv hs.length (tC hs)) (hlh : hs.length ≤ maxLen) (hss : ∀ x ∈ hs, x.size ≤ maxLen) :
    Calls Tryz.prog 73 #[.slice x0 N c0, hv] w fun e w' => e = .returned (.bool (glueOk gl hs)) ∧ Below w.heap.size w w' := by
  have HRH : Hid (Row w hv hs.length (tC hs)) := hrh
  obtain ⟨xh, ch, rfl, _⟩ := hrh.src
  by_cases h2 : 8 < N
  · have e0 : glueOk gl hs = false := by unfold glueOk; rw [decide_eq_false (by omega)]; rfl
    rw [e0]
    have h2' : (8 : Int) < (N : Int) := by omega
    clear e0
    go_enter Tryz.func73, Tryz.ntmps73
    go_wp2
    go_ret
    exact ⟨rfl, Below.refl _ _⟩
  · have h2' : decide ((8 : Int) < (N : Int)) = false := by simp; omega
    obtain ⟨b, hb⟩ : ∃ b, glueOk gl hs = b := ⟨_, rfl⟩
    rw [hb]
    have HBB : Hid (b = gl.all (gOk hs)) := by unfold Hid; rw [← hb]; unfold glueOk; rw [decide_eq_true (by omega)]; rfl
    have HN : Hid (gl.length = N) := hN
    have HR : Hid (Row w (.slice x0 N c0) N (bC gl)) := hr
    have HGL : Hid (∀ x ∈ gl, x.h.size ≤ maxLen) := hg
    have HSS : Hid (hs.length ≤ maxLen ∧ ∀ x ∈ hs, x.size ≤ maxLen) := ⟨hlh, hss⟩
    clear hr hN hss hb hg hrh hlh
    go_enter Tryz.func73, Tryz.ntmps73
    go_wp2
    go_loopw [12] (fun k wr => ∃ j : Nat, j ≤ N ∧ k = .int .i64 (j : Int) ∧ Hid (∀ i (hi : i < gl.length), i < j → gOk hs gl[i] = true) ∧ Hid (Below w.heap.size w wr)) (fun k _ => N - (intOf k).toNat)
    case atStart => exact ⟨0, Nat.zero_le _, rfl, fun i _ h => by omega, Below.refl _ _⟩
    case round =>
      obtain ⟨j, hj, rfl, HB, HW⟩ := hrel
      by_cases hjn : j < N
      · have hjn' : (j : Int) < (N : Int) := by omega
        have hju : j < gl.length := by have := HN.out; omega
        obtain ⟨g, o, cap, hx, hc⟩ := row_at (HR.out.below HW.out) (by omega)
        simp only [Value.slice.injEq] at hx
        obtain ⟨rfl, -, rfl⟩ := hx
        obtain ⟨⟨xc, xh, xa, xf, xu⟩, hp⟩ : ∃ p, p = gl[j] := ⟨_, rfl⟩
        have hfl := fun i hi => flat_get (f := bV) (z := 5) (fun _ => rfl) gl j hju i hi
        rw [← hp] at hfl
        have d0 := hc (j * 5 + 0) _ (hfl 0 (by omega))
        have d1 := hc (j * 5 + 1) _ (hfl 1 (by omega))
        have d2 := hc (j * 5 + 2) _ (hfl 2 (by omega))
        have d3 := hc (j * 5 + 3) _ (hfl 3 (by omega))
        have d4 := hc (j * 5 + 4) _ (hfl 4 (by omega))
        simp only [Nat.add_zero, ← Nat.add_assoc] at d0 d1 d2 d3 d4
        have hpl : xh.size ≤ maxLen := by have := HGL.out _ (List.getElem_mem hju); rw [← hp] at this; exact this
        have HOK : Hid (gOk hs gl[j] = (wideB xa && hasB hs xh)) := by unfold Hid; rw [← hp]; rfl
        have HMM : Hid (gl[j] ∈ gl) := List.getElem_mem _
        have hbY : Below wr.heap.size wr (wr.alloc (.cells #[.string xc, .string xh, .int .i64 xa, .string xf, .int .i64 xu] 65)) := lay (Below.refl _ _) _
        have HB9 : Hid (Below w.heap.size w (wr.alloc (.cells #[.string xc, .string xh, .int .i64 xa, .string xf, .int .i64 xu] 65))) := next HW.out hbY
        have hma := fun u => mayAddr_any xa u
        clear hc hfl
        cases hwd : wideB xa with
        | false =>
          rw [hwd] at hma
          have HF : Hid (false = b) := by
            unfold Hid
            rw [HBB.out, eq_comm, List.all_eq_false]
            exact ⟨_, HMM.out, by rw [HOK.out, hwd]; simp⟩
          clear hp
          go_wp2_with (go_at_call 52; go_must (refine (hma _).mono ?_); rintro e w' ⟨rfl, hw⟩; obtain rfl := hw.symm)
          go_ret
          exact ⟨ret_bool HF.out, HB9.out⟩
        | true =>
          rw [hwd] at hma
          have hhs := has_any _ hs xh _ (HRH.out.below HB9.out) HSS.out.1 HSS.out.2 hpl
          cases hhb : hasB hs xh with
          | false =>
            rw [hhb] at hhs
            have HF : Hid (false = b) := by
              unfold Hid
              rw [HBB.out, eq_comm, List.all_eq_false]
              exact ⟨_, HMM.out, by rw [HOK.out, hwd, hhb]; simp⟩
            clear hp
            go_wp2_with (first
              | (go_at_call 52; go_must (refine (hma _).mono ?_); rintro e w' ⟨rfl, hw⟩; obtain rfl := hw.symm)
              | (go_at_call 86; go_must (refine hhs.mono ?_); rintro e w1 ⟨rfl, b1⟩))
            go_ret
            exact ⟨ret_bool HF.out, next HB9.out b1⟩
          | true =>
            rw [hhb] at hhs
            have HB2 : Hid (∀ i (hi : i < gl.length), i < j + 1 → gOk hs gl[i] = true) := fun i hi hij => by
              by_cases he : i = j
              · subst he; rw [HOK.out, hwd, hhb]; rfl
              · exact HB.out i hi (by omega)
            clear hp
            go_wp2_with (first
              | (go_at_call 52; go_must (refine (hma _).mono ?_); rintro e w' ⟨rfl, hw⟩; obtain rfl := hw.symm)
              | (go_at_call 86; go_must (refine hhs.mono ?_); rintro e w1 ⟨rfl, b1⟩))
            go_roundw
            case rel => exact ⟨j + 1, by omega, by go_num, HB2, next HB9.out b1⟩
            case measure => simp [intOf]; omega
      · have hjn' : decide (j < N) = false := by simpa using hjn
        have HF : Hid (true = b) := by
          unfold Hid
          rw [HBB.out, eq_comm, List.all_eq_true]
          intro x hx
          obtain ⟨i, hi, rfl⟩ := List.getElem_of_mem hx
          exact HB.out i hi (by have := HN.out; omega)
        go_wp2
        go_ret
        exact ⟨ret_bool HF.out, HW.out⟩

end Cu
end Go.Proofs.YtnjgdfmldjgloaaGreat

/- Which delegations may be put: isWrong. -/
namespace Go.Proofs.YtnjgdfmldjgloaaGreat
open Go.RowKit
open Pl
namespace Cu

/-- A delegation. -/
structure Dg where
  c : ByteArray
  hs : List ByteArray
  gl : List Bn
  ttl : Int
/-- It lies in memory. -/
structure DIn (w : World) (d : Dg) (hv gv : Value) : Prop where
  hr : Row w hv d.hs.length (tC d.hs)
  hc : ∃ x c, hv = .slice x d.hs.length c ∧ d.hs.length ≤ c
  gr : Row w gv d.gl.length (bC d.gl)
  hl : d.hs.length ≤ maxLen
  ll : d.gl.length ≤ maxLen
  cs : d.c.size ≤ maxLen
  hss : ∀ x ∈ d.hs, x.size ≤ maxLen
  gss : ∀ x ∈ d.gl, x.h.size ≤ maxLen
theorem DIn.below {w w' : World} {d : Dg} {hv gv : Value} (h : DIn w d hv gv) (hb : Below w.heap.size w w') : DIn w' d hv gv := ⟨h.hr.below hb, h.hc, h.gr.below hb, h.hl, h.ll, h.cs, h.hss, h.gss⟩
def mayD (d : Dg) (fr : ByteArray) (now : Int) : Bool := tellOk fr d.c && hostsOk d.hs && glueOk d.gl d.hs && decide (0 ≤ now) && decide (now ≤ 1099511627776)
def dV (d : Dg) (hv gv : Value) : Array Value := #[.string d.c, hv, gv, .int .i64 d.ttl]
set_option maxRecDepth 20000 in
set_option maxHeartbeats 1000000 in
theorem isWrong_any {w : World} {d : Dg} {hv gv : Value} (h : DIn w d hv gv) (fr : ByteArray) (now : Int) (hf : fr.size ≤ maxLen) (b : Bool) (hb : mayD d fr now = b) :
    Calls Tryz.prog 41 #[.agg (dV d hv gv), .string fr, .int .i64 now] w fun e w' => e = .returned (.bool (!b)) ∧ Below w.heap.size w w' := by
  obtain ⟨cn, hs, gl, ttl⟩ := d
  unfold dV mayD at *
  simp only at hb ⊢
  have HIN : Hid (DIn w ⟨cn, hs, gl, ttl⟩ hv gv) := h
  have hb0 : Below w.heap.size w (w.alloc (.cells #[.string cn, hv, gv, .int .i64 ttl] 39)) := lay (Below.refl _ _) _
  have HK : Hid (Blk (w.alloc (.cells #[.string cn, hv, gv, .int .i64 ttl] 39)) w.heap.size #[.string cn, hv, gv, .int .i64 ttl] 39) := Blk.new w _ _
  obtain ⟨xh, ch, hhv, hcap⟩ := h.hc
  obtain ⟨xg, cg, hgv, _⟩ := h.gr.src
  simp only at hhv hgv hcap
  subst hhv hgv
  have HTL := fun u => mayTell_any fr cn u hf h.cs
  have HHS : Hid (∀ U, Below w.heap.size w U → Calls Tryz.prog 72 #[.slice xh hs.length ch] U fun e w' => e = .returned (.bool (hostsOk hs)) ∧ Below U.heap.size U w') := fun U hU => mayHosts_any xh hs.length ch hs U rfl (h.hr.below hU) hcap h.hl h.hss
  have HGL : Hid (∀ U, Below w.heap.size w U → Calls Tryz.prog 73 #[.slice xg gl.length cg, .slice xh hs.length ch] U fun e w' => e = .returned (.bool (glueOk gl hs)) ∧ Below U.heap.size U w') := fun U hU => mayGlue_any xg gl.length cg gl _ hs U rfl (h.gr.below hU) h.ll h.gss (h.hr.below hU) h.hl h.hss
  clear h
  obtain ⟨NH, hNH⟩ : ∃ NH, NH = hs.length := ⟨_, rfl⟩
  obtain ⟨NG, hNG⟩ : ∃ NG, NG = gl.length := ⟨_, rfl⟩
  rw [← hNH, ← hNG] at HK hb0 HGL ⊢
  rw [← hNH] at HHS
  clear hNH hNG HIN hcap
  have HB0 : Hid (Below w.heap.size w (w.alloc (.cells #[.string cn, .slice xh NH ch, .slice xg NG cg, .int .i64 ttl] 39))) := hb0
  clear hb0
  have c0 := HK.out.cell 0
  simp only [List.getElem?_toArray, List.getElem?_cons_zero] at c0
  cases h1 : tellOk fr cn with
  | false =>
    rw [h1] at hb HTL
    simp only [Bool.false_and] at hb
    subst hb
    go_enter Tryz.func41, Tryz.ntmps41
    go_wp2_with (go_at_call 71; go_must (refine (HTL _).mono ?_); rintro e w1 ⟨rfl, b1⟩)
    go_ret
    exact ⟨rfl, next HB0.out b1⟩
  | true =>
    rw [h1] at hb HTL
    cases h2 : hostsOk hs with
    | false =>
      rw [h2] at hb HHS
      simp only [Bool.true_and, Bool.false_and] at hb
      subst hb
      go_enter Tryz.func41, Tryz.ntmps41
      go_wp2_with (first
        | (go_at_call 71; go_must (refine (HTL _).mono ?_); rintro e w1 ⟨rfl, b1⟩; have HB1 : Hid (Below w.heap.size w w1) := next HB0.out b1; have k1 := (HK.out.below b1).cell 1; simp only [List.getElem?_toArray, List.getElem?_cons_succ, List.getElem?_cons_zero] at k1; have hh1 := HHS.out w1 HB1.out)
        | (go_at_call 72; go_must (refine hh1.mono ?_); rintro e w2 ⟨rfl, b2⟩))
      go_ret
      exact ⟨rfl, next HB1.out b2⟩
    | true =>
      rw [h2] at hb HHS
      cases h3 : glueOk gl hs with
      | false =>
        rw [h3] at hb HGL
        simp only [Bool.true_and, Bool.false_and] at hb
        subst hb
        go_enter Tryz.func41, Tryz.ntmps41
        go_wp2_with (first
          | (go_at_call 71; go_must (refine (HTL _).mono ?_); rintro e w1 ⟨rfl, b1⟩; have HB1 : Hid (Below w.heap.size w w1) := next HB0.out b1; have HK1 := HK.out.below b1; have k1 := HK1.cell 1; simp only [List.getElem?_toArray, List.getElem?_cons_succ, List.getElem?_cons_zero] at k1; have hh1 := HHS.out w1 HB1.out)
          | (go_at_call 72; go_must (refine hh1.mono ?_); rintro e w2 ⟨rfl, b2⟩; have HB2 : Hid (Below w.heap.size w w2) := next HB1.out b2; have HK2 := HK1.below b2; have m1 := HK2.cell 1; have m2 := HK2.cell 2; simp only [List.getElem?_toArray, List.getElem?_cons_succ, List.getElem?_cons_zero] at m1 m2; have hh2 := HGL.out w2 HB2.out)
          | (go_at_call 73; go_must (refine hh2.mono ?_); rintro e w3 ⟨rfl, b3⟩))
        go_ret
        exact ⟨rfl, next HB2.out b3⟩
      | true =>
        rw [h3] at hb HGL
        by_cases h4 : now < 0
        · rw [decide_eq_false (by omega)] at hb
          simp only [Bool.true_and, Bool.false_and] at hb
          subst hb
          go_enter Tryz.func41, Tryz.ntmps41
          go_wp2_with (first
            | (go_at_call 71; go_must (refine (HTL _).mono ?_); rintro e w1 ⟨rfl, b1⟩; have HB1 : Hid (Below w.heap.size w w1) := next HB0.out b1; have HK1 := HK.out.below b1; have k1 := HK1.cell 1; simp only [List.getElem?_toArray, List.getElem?_cons_succ, List.getElem?_cons_zero] at k1; have hh1 := HHS.out w1 HB1.out)
            | (go_at_call 72; go_must (refine hh1.mono ?_); rintro e w2 ⟨rfl, b2⟩; have HB2 : Hid (Below w.heap.size w w2) := next HB1.out b2; have HK2 := HK1.below b2; have m1 := HK2.cell 1; have m2 := HK2.cell 2; simp only [List.getElem?_toArray, List.getElem?_cons_succ, List.getElem?_cons_zero] at m1 m2; have hh2 := HGL.out w2 HB2.out)
            | (go_at_call 73; go_must (refine hh2.mono ?_); rintro e w3 ⟨rfl, b3⟩))
          go_ret
          exact ⟨rfl, next HB2.out b3⟩
        · have h4' : decide (now < 0) = false := by simpa using h4
          rw [decide_eq_true (show (0 : Int) ≤ now by omega)] at hb
          simp only [Bool.true_and] at hb
          have h5 : decide ((1099511627776 : Int) < now) = !b := by
            rw [← hb]
            by_cases h6 : now ≤ 1099511627776
            · rw [decide_eq_true h6, decide_eq_false (by omega)]; rfl
            · rw [decide_eq_false h6, decide_eq_true (by omega)]; rfl
          have H5 : Hid (decide ((1099511627776 : Int) < now) = !b) := h5
          clear hb h5
          go_enter Tryz.func41, Tryz.ntmps41
          go_wp2_with (first
            | (go_at_call 71; go_must (refine (HTL _).mono ?_); rintro e w1 ⟨rfl, b1⟩; have HB1 : Hid (Below w.heap.size w w1) := next HB0.out b1; have HK1 := HK.out.below b1; have k1 := HK1.cell 1; simp only [List.getElem?_toArray, List.getElem?_cons_succ, List.getElem?_cons_zero] at k1; have hh1 := HHS.out w1 HB1.out)
            | (go_at_call 72; go_must (refine hh1.mono ?_); rintro e w2 ⟨rfl, b2⟩; have HB2 : Hid (Below w.heap.size w w2) := next HB1.out b2; have HK2 := HK1.below b2; have m1 := HK2.cell 1; have m2 := HK2.cell 2; simp only [List.getElem?_toArray, List.getElem?_cons_succ, List.getElem?_cons_zero] at m1 m2; have hh2 := HGL.out w2 HB2.out)
            | (go_at_call 73; go_must (refine hh2.mono ?_); rintro e w3 ⟨rfl, b3⟩))
          go_ret
          exact ⟨ret_bool H5.out, next HB2.out b3⟩

end Cu
end Go.Proofs.YtnjgdfmldjgloaaGreat
