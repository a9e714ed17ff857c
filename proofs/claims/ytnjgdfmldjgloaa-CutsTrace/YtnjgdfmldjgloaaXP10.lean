/- What Deepest tells. -/
import Derived.Test.YtnjgdfmldjgloaaXP9
import Derived.Laws.EntriesVeiled
namespace Go.Proofs.Ytnjgdfmldjgloaa
open Go.RowKit
open Pl
namespace Cu

def lastB (a : ByteArray) (k : Nat) : ByteArray := ⟨(lastN a.data.toList k).toArray⟩
theorem lastB_list (a : ByteArray) (k : Nat) : (lastB a k).data.toList = lastN a.data.toList k := by simp [lastB]
def deepK (lv : Nat → Bool) : Nat → Nat
  | 0 => 0
  | k + 1 => if lv (k + 1) then k + 1 else deepK lv k
def lvOf (L : List Pr) (f : ByteArray) (now : Int) (k : Nat) : Bool := (liveAt L (lastB f k) now).isSome
/-- The deepest live cut above a name. -/
def deepP (L : List Pr) (n : ByteArray) (now : Int) : ByteArray := if isName n.data.toList then lastB (fdB n) (deepK (lvOf L (fdB n) now) (labs (fdB n).data.toList).length) else rootB
theorem fd_name {n : ByteArray} (h : isName n.data.toList = true) : isName (fdB n).data.toList = true ∧ foldL (fdB n).data.toList = (fdB n).data.toList := by
  have e1 : foldR n.data.toList = foldL n.data.toList := by unfold foldR; rw [if_pos h]
  refine ⟨?_, ?_⟩
  · rw [fdB_list, e1, name_fold]; exact h
  · rw [fdB_list, e1, fold_twice]
theorem fd_none {n : ByteArray} (h : isName n.data.toList = false) : fdB n = ⟨#[]⟩ := by
  refine bytes_ext ?_
  rw [fdB_list]
  unfold foldR
  rw [if_neg (by simp [h])]
theorem last_zero (f : ByteArray) : lastB f 0 = rootB := by
  refine bytes_ext ?_
  rw [lastB_list]
  unfold lastN
  rw [Nat.sub_zero, List.drop_length]; rfl
theorem last_all {f : ByteArray} (h : isName f.data.toList = true) : lastB f (labs f.data.toList).length = f := by
  refine bytes_ext ?_
  rw [lastB_list]
  unfold lastN
  rw [Nat.sub_self, List.drop_zero]
  exact (enc_of h).1.symm
theorem last_par {f : ByteArray} (h : isName f.data.toList = true) {k : Nat} (hk : k + 1 ≤ (labs f.data.toList).length) : parR (lastB f (k + 1)).data.toList = some (lastB f k).data.toList := by
  obtain ⟨h1, h2, _⟩ := last_name h (k + 1) hk
  rw [lastB_list, lastB_list]
  unfold parR
  rw [h2, if_pos ⟨h1, by rw [List.length_drop]; omega⟩, List.drop_drop]
  unfold lastN
  rw [show (labs f.data.toList).length - (k + 1) + 1 = (labs f.data.toList).length - k by omega]
theorem last_root {f : ByteArray} (h : isName f.data.toList = true) {k : Nat} (hk : k + 1 ≤ (labs f.data.toList).length) : lastB f (k + 1) ≠ rootB := by
  intro e
  obtain ⟨h1, h2, h3⟩ := last_name h (k + 1) hk
  have := congrArg (fun x : ByteArray => (labs x.data.toList).length) e
  simp only [lastB_list] at this
  rw [h2, List.length_drop] at this
  have e2 : (labs rootB.data.toList).length = 0 := by decide
  omega
theorem last_size {f : ByteArray} (h : isName f.data.toList = true) {k : Nat} (hk : k ≤ (labs f.data.toList).length) : (lastB f k).size ≤ 255 := by
  obtain ⟨h1, _, _⟩ := last_name h k hk
  have := (name_some h1).1
  have e := data_len (lastB f k)
  rw [lastB_list] at e
  omega
set_option maxRecDepth 20000 in
set_option maxHeartbeats 1000000 in
theorem deepest_any {w : World} {o : OB} {Hs : List ByteArray} {Hb : List Bn} {L : List Pr} (h : St w o Hs Hb L) (cn : ByteArray) (now : Int) (hn : cn.size ≤ maxLen) :
    Calls Try.prog 13 #[.pointer (some ⟨o.gs, 0, none⟩), .string cn, .int .i64 now] w fun e w' => e = .returned (.string (deepP L cn now)) ∧ Below w.heap.size w w' := by
  have hob := obj_some o.gs
  cases hnm : isName cn.data.toList with
  | false =>
    have e0 : deepP L cn now = rootB := by unfold deepP; rw [hnm]; rfl
    rw [e0]
    unfold rootB
    have hf := fd_none hnm
    unfold fdB at hf
    have hfo := fun u => fold_any cn u hn
    rw [hf] at hfo
    clear e0 hf hnm h
    go_enter Try.func13, Try.ntmps13
    go_wp2_with (go_at_call 26; go_must (refine (hfo _).mono ?_); rintro e w1 ⟨rfl, b1⟩)
    go_ret
    exact ⟨rfl, b1⟩
  | true =>
    have e0 : deepP L cn now = lastB (fdB cn) (deepK (lvOf L (fdB cn) now) (labs (fdB cn).data.toList).length) := by unfold deepP; rw [hnm]; rfl
    rw [e0]
    obtain ⟨hf1, hf2⟩ := fd_name hnm
    have hfo := fun u => fold_any cn u hn
    have efd : (⟨(foldR cn.data.toList).toArray⟩ : ByteArray) = fdB cn := rfl
    rw [efd] at hfo
    obtain ⟨f, hf⟩ : ∃ f, f = fdB cn := ⟨_, rfl⟩
    rw [← hf] at hf1 hfo ⊢
    obtain ⟨n, hnn⟩ : ∃ n, n = (labs f.data.toList).length := ⟨_, rfl⟩
    rw [← hnn]
    have HLV : Hid (∀ k, k ≤ n → ∀ U, Below w.heap.size w U → Calls Try.prog 38 #[.pointer (some ⟨o.gs, 0, none⟩), .agg #[.string (lastB f k)], .int .i64 now] U fun e w' => e = .returned (ptrOf (liveAt L (lastB f k) now)) ∧ Below U.heap.size U w') := fun k hk U hU => live_any (h.below hU) (lastB f k) now (by have := last_size hf1 (k := k) (by omega); unfold maxLen; omega)
    have HPA : Hid (∀ k, k + 1 ≤ n → ∀ U, Calls Try.prog 39 #[.string (lastB f (k + 1))] U fun e w' => e = .returned (.tuple #[.string (lastB f k), .int .i64 0]) ∧ Below U.heap.size U w') := fun k hk U => parent_ok (lastB f (k + 1)) (lastB f k) U (by have := last_size hf1 (k := k + 1) (by omega); unfold maxLen; omega) (last_par hf1 (by omega))
    have HRT : Hid (∀ k, k + 1 ≤ n → ((lastB f (k + 1)).toList == [0]) = false) := fun k hk => by rw [root_as, decide_eq_false (last_root hf1 (by omega))]
    have HLB : Hid (∀ k, k ≤ n → (labs (lastB f k).data.toList).length = k) := fun k hk => by rw [lastB_list, (last_name hf1 k (by omega)).2.1, List.length_drop]; omega
    have HR0 : Hid (((lastB f 0).toList == [0]) = true) := by unfold Hid; rw [root_as, last_zero]; simp
    have HFN : Hid (f = lastB f n) := by unfold Hid; rw [hnn, last_all hf1]
    have hfe : (f.toList == []) = false := by
      have h1 := str_eqd f ⟨#[]⟩
      rw [show (⟨#[]⟩ : ByteArray).toList = [] from by rw [ByteArray.toList_eq]] at h1
      rw [h1, decide_eq_false]
      intro e
      rw [e] at hf1
      exact absurd hf1 (by decide)
    obtain ⟨A, hA⟩ : ∃ A, A = f := ⟨_, rfl⟩
    have HA : Hid (A = lastB f n) := by unfold Hid; rw [hA]; exact HFN.out
    rw [← hA] at hfo hfe
    clear e0 hf1 hf2 hf hnn efd hnm h HFN hA
    go_enter Try.func13, Try.ntmps13
    go_wp2_with (go_at_call 26; go_must (refine (hfo _).mono ?_); rintro e w1 ⟨rfl, b1⟩; have HB1 : Hid (Below w.heap.size w w1) := b1; clear b1)
    go_loopw [7] (fun p wr => ∃ (k : Nat) (B : ByteArray), k ≤ n ∧ p = .string B ∧ Hid (B = lastB f k) ∧ Hid (Below w.heap.size w wr) ∧ Hid (deepK (lvOf L f now) n = deepK (lvOf L f now) k)) (fun p _ => match p with | .string b => (labs b.data.toList).length | _ => 0)
    case atStart => exact ⟨n, A, Nat.le_refl _, rfl, HA, HB1, rfl⟩
    case round =>
      clear HB1 HA hfo hfe
      obtain ⟨k, B, hk, rfl, HB, HBE, HDK⟩ := hrel
      cases k with
      | zero =>
        have hr0 : (B.toList == [0]) = true := by rw [HB.out]; exact HR0.out
        have HF : Hid (B = lastB f (deepK (lvOf L f now) n)) := by unfold Hid; rw [HDK.out]; exact HB.out
        go_wp2
        go_ret
        exact ⟨ret_str HF.out, HBE.out⟩
      | succ k =>
        have hr0 : (B.toList == [0]) = false := by rw [HB.out]; exact HRT.out k hk
        have hl := HLV.out (k + 1) hk wr HBE.out
        have hpa := HPA.out k hk
        rw [← HB.out] at hl hpa
        have hm1 := HLB.out (k + 1) hk
        rw [← HB.out] at hm1
        have HM1 : Hid ((labs B.data.toList).length = k + 1) := hm1
        have HM2 : Hid ((labs (lastB f k).data.toList).length = k) := HLB.out k (by omega)
        have HDS : Hid (deepK (lvOf L f now) (k + 1) = if lvOf L f now (k + 1) then k + 1 else deepK (lvOf L f now) k) := rfl
        have HLO : Hid (lvOf L f now (k + 1) = (liveAt L B now).isSome) := by unfold Hid lvOf; rw [HB.out]
        obtain ⟨C, hC⟩ : ∃ C, C = lastB f k := ⟨_, rfl⟩
        have HC : Hid (C = lastB f k) := hC
        rw [← hC] at hpa HM2
        clear hm1 hC
        cases hla : liveAt L B now with
        | none =>
          rw [hla] at hl
          unfold ptrOf at hl
          simp only at hl
          have hpn := ptr_none'
          have HDN : Hid (deepK (lvOf L f now) n = deepK (lvOf L f now) k) := by unfold Hid; rw [HDK.out, HDS.out, HLO.out, hla]; rfl
          clear hla
          go_wp2_with (first
            | (go_at_call 38; go_must (refine hl.mono ?_); rintro e w2 ⟨rfl, b2⟩)
            | (go_at_call 39; go_must (refine (hpa _).mono ?_); rintro e w3 ⟨rfl, b3⟩))
          go_roundw
          case rel => exact ⟨k, C, by omega, rfl, HC, next (next HBE.out b2) b3, HDN⟩
          case measure =>
            have h1 := HM1.out
            have h2 := HM2.out
            show (labs C.data.toList).length < (labs B.data.toList).length
            omega
        | some p =>
          rw [hla] at hl
          unfold ptrOf at hl
          simp only at hl
          have hpn := ptr_some' p.2.g
          have HF : Hid (B = lastB f (deepK (lvOf L f now) n)) := by unfold Hid; rw [HDK.out, HDS.out, HLO.out, hla]; exact HB.out
          clear hla
          go_wp2_with (go_at_call 38; go_must (refine hl.mono ?_); rintro e w2 ⟨rfl, b2⟩)
          go_ret
          exact ⟨ret_str HF.out, next HBE.out b2⟩

end Cu
end Go.Proofs.Ytnjgdfmldjgloaa

/- What may be told to a Cuts: has, mayTell, mayHosts, mayGlue, isWrong. -/
namespace Go.Proofs.Ytnjgdfmldjgloaa
open Go.RowKit
open Pl
namespace Cu

def hasB (hs : List ByteArray) (h : ByteArray) : Bool := hs.any fun x => sameB x.data.toList h.data.toList
def hasF (B : Nat) : Value := .func (.func 75) #[] #[.pointer (some ⟨B, 0, none⟩)]
theorem has1_any (x h : ByteArray) (B : Nat) (w : World) (hb : w.cell? ⟨B, 0, none⟩ = some (.string h)) (hx : x.size ≤ maxLen) (hh : h.size ≤ maxLen) (r : Bool) (hr : sameB x.data.toList h.data.toList = r) :
    Calls Try.prog 75 #[.string x, .pointer (some ⟨B, 0, none⟩)] w fun e w' => e = .returned (.bool r) ∧ Below w.heap.size w w' := by
  go_enter Try.func75, Try.ntmps75
  go_wp2_with (go_at_call 60; go_must (refine (same_as x h r _ hx hh hr).mono ?_); rintro e w1 ⟨rfl, b1⟩)
  go_ret
  exact ⟨rfl, b1⟩
set_option maxRecDepth 20000 in
theorem hasIdx_any (v : Value) (hs : List ByteArray) (h : ByteArray) (B : Nat) (w : World) (hr : Row w v hs.length (tC hs)) (hl : hs.length ≤ maxLen) (hss : ∀ x ∈ hs, x.size ≤ maxLen) (hb : w.cell? ⟨B, 0, none⟩ = some (.string h)) (hh : h.size ≤ maxLen) :
    Calls Try.prog 80 #[v, hasF B] w fun e w' => ∃ k : Int, e = .returned (.int .i64 k) ∧ Hid (decide (0 ≤ k) = hasB hs h) ∧ Below w.heap.size w w' := by
  unfold hasF
  obtain ⟨n, hn⟩ : ∃ n, n = hs.length := ⟨_, rfl⟩
  rw [← hn] at hr hl
  unfold maxLen at hl
  have HN : Hid (n = hs.length) := hn
  have HR : Hid (Row w v n (tC hs)) := hr
  have HSS : Hid (∀ x ∈ hs, x.size ≤ maxLen) := hss
  have HBL : Hid (B < w.heap.size) := World.block_lt_of_cell? _ _ hb
  have HBC : Hid (w.cell? ⟨B, 0, none⟩ = some (.string h)) := hb
  obtain ⟨x0, c0, rfl, _⟩ := hr.src
  clear hr hn hss hb
  go_enter Try.func80, Try.ntmps80
  go_wp2
  go_loopw [8] (fun k wr => ∃ j : Nat, j ≤ n ∧ k = .int .i64 (j : Int) ∧ Hid (∀ i (hi : i < hs.length), i < j → sameB hs[i].data.toList h.data.toList = false) ∧ Hid (Below w.heap.size w wr)) (fun k _ => n - (intOf k).toNat)
  case atStart => exact ⟨0, Nat.zero_le _, rfl, fun i _ h => by omega, Below.refl _ _⟩
  case round =>
    obtain ⟨j, hj, rfl, HB, HW⟩ := hrel
    by_cases hjn : j < n
    · have hjn' : (j : Int) < (n : Int) := by omega
      have hju : j < hs.length := by have := HN.out; omega
      obtain ⟨g, o, cap, hx, hc⟩ := row_at (HR.out.below HW.out) (by omega)
      simp only [Value.slice.injEq] at hx
      obtain ⟨rfl, -, rfl⟩ := hx
      have d0 := hc j _ (tC_at' hju)
      obtain ⟨p, hp⟩ : ∃ p, p = hs[j] := ⟨_, rfl⟩
      have HQ : Hid (p = hs[j]) := hp
      have hpl : p.size ≤ maxLen := by rw [hp]; exact HSS.out _ (List.getElem_mem _)
      rw [← hp] at d0
      clear hc hp
      have cb : wr.cell? ⟨B, 0, none⟩ = some (.string h) := (HW.out.cell (p := ⟨B, 0, none⟩) HBL.out).trans HBC.out
      cases hs2 : sameB p.data.toList h.data.toList with
      | true =>
        have HF : Hid (decide (0 ≤ (j : Int)) = hasB hs h) := by
          unfold Hid hasB
          rw [decide_eq_true (by omega), List.any_eq_true.2 ⟨hs[j], List.getElem_mem _, by rw [← HQ.out]; exact hs2⟩]
        go_wp2_with (go_at_call 75; go_must (refine (has1_any p h B _ cb hpl hh true hs2).mono ?_); rintro e w1 ⟨rfl, b1⟩)
        go_ret
        exact ⟨_, rfl, HF, next HW.out b1⟩
      | false =>
        have HB2 : Hid (∀ i (hi : i < hs.length), i < j + 1 → sameB hs[i].data.toList h.data.toList = false) := fun i hi hij => by
          by_cases he : i = j
          · subst he; rw [← HQ.out]; exact hs2
          · exact HB.out i hi (by omega)
        go_wp2_with (go_at_call 75; go_must (refine (has1_any p h B _ cb hpl hh false hs2).mono ?_); rintro e w1 ⟨rfl, b1⟩)
        go_roundw
        case rel => exact ⟨j + 1, by omega, by go_num, HB2, next HW.out b1⟩
        case measure => simp [intOf]; omega
    · have hjn' : decide (j < n) = false := by simpa using hjn
      have HF : Hid (decide (0 ≤ (-1 : Int)) = hasB hs h) := by
        unfold Hid hasB
        rw [decide_eq_false (by omega), eq_comm, List.any_eq_false]
        intro x hx
        obtain ⟨i, hi, rfl⟩ := List.getElem_of_mem hx
        rw [HB.out i hi (by have := HN.out; omega)]; simp
      go_wp2
      go_ret
      exact ⟨_, rfl, HF, HW.out⟩
theorem hasCon_any (v : Value) (hs : List ByteArray) (h : ByteArray) (B : Nat) (w : World) (hr : Row w v hs.length (tC hs)) (hl : hs.length ≤ maxLen) (hss : ∀ x ∈ hs, x.size ≤ maxLen) (hb : w.cell? ⟨B, 0, none⟩ = some (.string h)) (hh : h.size ≤ maxLen) :
    Calls Try.prog 74 #[v, hasF B] w fun e w' => e = .returned (.bool (hasB hs h)) ∧ Below w.heap.size w w' := by
  have hc := hasIdx_any v hs h B w hr hl hss hb hh
  obtain ⟨x0, c0, rfl, _⟩ := hr.src
  unfold hasF at hc ⊢
  go_enter Try.func74, Try.ntmps74
  go_wp2_with (go_at_call 80; go_must (refine hc.mono ?_); rintro e w1 ⟨k, rfl, HK, b1⟩)
  go_ret
  exact ⟨ret_bool HK.out, b1⟩
theorem has_any (v : Value) (hs : List ByteArray) (h : ByteArray) (w : World) (hr : Row w v hs.length (tC hs)) (hl : hs.length ≤ maxLen) (hss : ∀ x ∈ hs, x.size ≤ maxLen) (hh : h.size ≤ maxLen) :
    Calls Try.prog 61 #[v, .string h] w fun e w' => e = .returned (.bool (hasB hs h)) ∧ Below w.heap.size w w' := by
  have hb : Below w.heap.size w (w.alloc (.cells #[.string h] 9)) := lay (Below.refl _ _) _
  have hc := hasCon_any v hs h w.heap.size (w.alloc (.cells #[.string h] 9)) (hr.below hb) hl hss ((Blk.new w #[.string h] 9).cell 0) hh
  obtain ⟨x0, c0, rfl, _⟩ := hr.src
  unfold hasF at hc
  go_enter Try.func61, Try.ntmps61
  go_wp2_with (go_at_call 74; go_must (refine hc.mono ?_); rintro e w1 ⟨rfl, b1⟩)
  go_ret
  exact ⟨rfl, next hb b1⟩

def tellOk (fr cn : ByteArray) : Bool := aboveB fr.data.toList cn.data.toList && !sameB fr.data.toList cn.data.toList
theorem mayTell_any (fr cn : ByteArray) (w : World) (hf : fr.size ≤ maxLen) (hc : cn.size ≤ maxLen) :
    Calls Try.prog 50 #[.string fr, .string cn] w fun e w' => e = .returned (.bool (tellOk fr cn)) ∧ Below w.heap.size w w' := by
  unfold tellOk
  cases h1 : aboveB fr.data.toList cn.data.toList with
  | false =>
    go_enter Try.func50, Try.ntmps50
    go_wp2_with (go_at_call 59; go_must (refine (above_as fr cn false _ hf hc h1).mono ?_); rintro e w1 ⟨rfl, b1⟩)
    go_ret
    exact ⟨rfl, b1⟩
  | true =>
    obtain ⟨r, hr⟩ : ∃ r, sameB fr.data.toList cn.data.toList = r := ⟨_, rfl⟩
    rw [hr]
    go_enter Try.func50, Try.ntmps50
    go_wp2_with (first
      | (go_at_call 59; go_must (refine (above_as fr cn true _ hf hc h1).mono ?_); rintro e w1 ⟨rfl, b1⟩)
      | (go_at_call 60; go_must (refine (same_as fr cn r _ hf hc hr).mono ?_); rintro e w2 ⟨rfl, b2⟩))
    go_ret
    exact ⟨rfl, next b1 b2⟩

/-- Are the first so many hosts names, no two the same? -/
def hOk (hs : List ByteArray) (i : Nat) : Bool := isName (hs.getD i ⟨#[]⟩).data.toList && !hasB (hs.take i) (hs.getD i ⟨#[]⟩)
def hostsOk (hs : List ByteArray) : Bool := decide (1 ≤ hs.length) && decide (hs.length ≤ 8) && (List.range hs.length).all (hOk hs)
set_option maxRecDepth 20000 in
theorem mayHosts_any (x0 : Option Addr) (N c0 : Nat) (hs : List ByteArray) (w : World) (hN : hs.length = N) (hr : Row w (.slice x0 N c0) N (tC hs)) (hcap : N ≤ c0) (hl : N ≤ maxLen) (hss : ∀ x ∈ hs, x.size ≤ maxLen) :
    Calls Try.prog 51 #[.slice x0 N c0] w fun e w' => e = .returned (.bool (hostsOk hs)) ∧ Below w.heap.size w w' := by
  by_cases h1 : N < 1
  · have e0 : hostsOk hs = false := by unfold hostsOk; rw [decide_eq_false (by omega)]; rfl
    rw [e0]
    have h1' : (N : Int) < 1 := by omega
    clear e0
    go_enter Try.func51, Try.ntmps51
    go_wp2
    go_ret
    exact ⟨rfl, Below.refl _ _⟩
  · have h1' : decide ((N : Int) < 1) = false := by simp; omega
    by_cases h2 : 8 < N
    · have e0 : hostsOk hs = false := by unfold hostsOk; rw [decide_eq_false (p := hs.length ≤ 8) (by omega), Bool.and_false]; rfl
      rw [e0]
      have h2' : (8 : Int) < (N : Int) := by omega
      clear e0
      go_enter Try.func51, Try.ntmps51
      go_wp2
      go_ret
      exact ⟨rfl, Below.refl _ _⟩
    · have h2' : decide ((8 : Int) < (N : Int)) = false := by simp; omega
      have HO : Hid (hostsOk hs = (List.range N).all (hOk hs)) := by unfold Hid hostsOk; rw [hN, decide_eq_true (by omega), decide_eq_true (by omega)]; rfl
      have HN : Hid (hs.length = N) := hN
      have HR : Hid (Row w (.slice x0 N c0) N (tC hs)) := hr
      have HSS : Hid (∀ x ∈ hs, x.size ≤ maxLen) := hss
      obtain ⟨b, hb⟩ : ∃ b, hostsOk hs = b := ⟨_, rfl⟩
      rw [hb]
      have HBB : Hid (b = (List.range N).all (hOk hs)) := by unfold Hid; rw [← hb]; exact HO.out
      clear hr hN hss HO hb
      go_enter Try.func51, Try.ntmps51
      go_wp2
      go_loopw [15] (fun k wr => ∃ j : Nat, j ≤ N ∧ k = .int .i64 (j : Int) ∧ Hid (∀ i, i < j → hOk hs i = true) ∧ Hid (Below w.heap.size w wr)) (fun k _ => N - (intOf k).toNat)
      case atStart => exact ⟨0, Nat.zero_le _, rfl, fun i h => by omega, Below.refl _ _⟩
      case round =>
        obtain ⟨j, hj, rfl, HB, HW⟩ := hrel
        by_cases hjn : j < N
        · have hjn' : (j : Int) < (N : Int) := by omega
          have hju : j < hs.length := by have := HN.out; omega
          obtain ⟨g, o, cap, hx, hc⟩ := row_at (HR.out.below HW.out) (by omega)
          simp only [Value.slice.injEq] at hx
          obtain ⟨rfl, -, rfl⟩ := hx
          have d0 := hc j _ (tC_at' hju)
          obtain ⟨p, hp⟩ : ∃ p, p = hs[j] := ⟨_, rfl⟩
          have hpl : p.size ≤ maxLen := by rw [hp]; exact HSS.out _ (List.getElem_mem _)
          have hpg : hs.getD j ⟨#[]⟩ = p := by rw [List.getD_eq_getElem?_getD, List.getElem?_eq_getElem hju, hp]; rfl
          rw [← hp] at d0
          have HOK : Hid (hOk hs j = (isName p.data.toList && !hasB (hs.take j) p)) := by unfold Hid hOk; rw [hpg]
          have HRJ : Hid (Row wr (.slice (some ⟨g, o, none⟩) j c0) (hs.take j).length (tC (hs.take j))) := by
            unfold Hid
            rw [List.length_take, Nat.min_eq_left (by omega)]
            refine .inr ⟨g, o, none, c0, rfl, fun _ => rfl, fun i u hi => hc i u ?_⟩
            have h1 := (List.getElem?_eq_some_iff.1 hi).1
            rw [tC_len, List.length_take] at h1
            have e : tC (hs.take j) = (tC hs).take j := by unfold tC; rw [List.map_take]
            rw [e, List.getElem?_take_of_lt (by omega)] at hi
            exact hi
          have HTK : Hid ((hs.take j).length ≤ maxLen ∧ ∀ x ∈ hs.take j, x.size ≤ maxLen) := ⟨by rw [List.length_take]; have := HN.out; omega, fun x hx => HSS.out x (List.mem_of_mem_take hx)⟩
          clear hc hp hpg
          cases hnm : isName p.data.toList with
          | false =>
            have HF : Hid (false = b) := by
              unfold Hid
              rw [HBB.out, eq_comm, List.all_eq_false]
              exact ⟨j, List.mem_range.2 hjn, by rw [HOK.out, hnm]; simp⟩
            go_wp2_with (go_at_call 48; go_must (refine (may_as p false _ hpl hnm).mono ?_); rintro e w' ⟨rfl, hw⟩; obtain rfl := hw.symm)
            go_ret
            exact ⟨ret_bool HF.out, HW.out⟩
          | true =>
            have hhs := has_any (.slice (some ⟨g, o, none⟩) j c0) (hs.take j) p wr HRJ.out HTK.out.1 HTK.out.2 hpl
            have hjc : (j : Int) ≤ (c0 : Int) := by omega
            cases hhb : hasB (hs.take j) p with
            | true =>
              rw [hhb] at hhs
              have HF : Hid (false = b) := by
                unfold Hid
                rw [HBB.out, eq_comm, List.all_eq_false]
                exact ⟨j, List.mem_range.2 hjn, by rw [HOK.out, hnm, hhb]; simp⟩
              go_wp2_with (first
                | (go_at_call 48; go_must (refine (may_as p true _ hpl hnm).mono ?_); rintro e w' ⟨rfl, hw⟩; obtain rfl := hw.symm)
                | (go_at_call 61; go_must (refine hhs.mono ?_); rintro e w1 ⟨rfl, b1⟩))
              go_ret
              exact ⟨ret_bool HF.out, next HW.out b1⟩
            | false =>
              rw [hhb] at hhs
              have HB2 : Hid (∀ i, i < j + 1 → hOk hs i = true) := fun i hij => by
                by_cases he : i = j
                · subst he; rw [HOK.out, hnm, hhb]; rfl
                · exact HB.out i (by omega)
              go_wp2_with (first
                | (go_at_call 48; go_must (refine (may_as p true _ hpl hnm).mono ?_); rintro e w' ⟨rfl, hw⟩; obtain rfl := hw.symm)
                | (go_at_call 61; go_must (refine hhs.mono ?_); rintro e w1 ⟨rfl, b1⟩))
              go_roundw
              case rel => exact ⟨j + 1, by omega, by go_num, HB2, next HW.out b1⟩
              case measure => simp [intOf]; omega
        · have hjn' : decide (j < N) = false := by simpa using hjn
          have HF : Hid (true = b) := by
            unfold Hid
            rw [HBB.out, eq_comm, List.all_eq_true]
            intro i hi
            exact HB.out i (by have := List.mem_range.1 hi; omega)
          go_wp2
          go_ret
          exact ⟨ret_bool HF.out, HW.out⟩

/-- Are the glue's hosts among the hosts? -/
def gOk (hs : List ByteArray) (g : Bn) : Bool := wideB g.a && hasB hs g.h
def glueOk (gl : List Bn) (hs : List ByteArray) : Bool := decide (gl.length ≤ 8) && gl.all (gOk hs)
set_option maxRecDepth 20000 in
theorem mayGlue_any (x0 : Option Addr) (N c0 : Nat) (gl : List Bn) (hv : Value) (hs : List ByteArray) (w : World) (hN : gl.length = N) (hr : Row w (.slice x0 N c0) N (bC gl)) (_hl : N ≤ maxLen) (hg : ∀ x ∈ gl, x.h.size ≤ maxLen) (hrh : Row w hv hs.length (tC hs)) (hlh : hs.length ≤ maxLen) (hss : ∀ x ∈ hs, x.size ≤ maxLen) :
    Calls Try.prog 52 #[.slice x0 N c0, hv] w fun e w' => e = .returned (.bool (glueOk gl hs)) ∧ Below w.heap.size w w' := by
  have HRH : Hid (Row w hv hs.length (tC hs)) := hrh
  obtain ⟨xh, ch, rfl, _⟩ := hrh.src
  by_cases h2 : 8 < N
  · have e0 : glueOk gl hs = false := by unfold glueOk; rw [decide_eq_false (by omega)]; rfl
    rw [e0]
    have h2' : (8 : Int) < (N : Int) := by omega
    clear e0
    go_enter Try.func52, Try.ntmps52
    go_wp2
    go_ret
    exact ⟨rfl, Below.refl _ _⟩
  · have h2' : decide ((8 : Int) < (N : Int)) = false := by simp; omega
    obtain ⟨b, hb⟩ : ∃ b, glueOk gl hs = b := ⟨_, rfl⟩
    rw [hb]
    have HBB : Hid (b = gl.all (gOk hs)) := by unfold Hid; rw [← hb]; unfold glueOk; rw [decide_eq_true (by omega)]; rfl
    have HN : Hid (gl.length = N) := hN
    have HR : Hid (Row w (.slice x0 N c0) N (bC gl)) := hr
    have HGL : Hid (∀ x ∈ gl, x.h.size ≤ maxLen) := hg
    have HSS : Hid (hs.length ≤ maxLen ∧ ∀ x ∈ hs, x.size ≤ maxLen) := ⟨hlh, hss⟩
    clear hr hN hss hb hg hrh hlh
    go_enter Try.func52, Try.ntmps52
    go_wp2
    go_loopw [12] (fun k wr => ∃ j : Nat, j ≤ N ∧ k = .int .i64 (j : Int) ∧ Hid (∀ i (hi : i < gl.length), i < j → gOk hs gl[i] = true) ∧ Hid (Below w.heap.size w wr)) (fun k _ => N - (intOf k).toNat)
    case atStart => exact ⟨0, Nat.zero_le _, rfl, fun i _ h => by omega, Below.refl _ _⟩
    case round =>
      obtain ⟨j, hj, rfl, HB, HW⟩ := hrel
      by_cases hjn : j < N
      · have hjn' : (j : Int) < (N : Int) := by omega
        have hju : j < gl.length := by have := HN.out; omega
        obtain ⟨g, o, cap, hx, hc⟩ := row_at (HR.out.below HW.out) (by omega)
        simp only [Value.slice.injEq] at hx
        obtain ⟨rfl, -, rfl⟩ := hx
        obtain ⟨⟨xc, xh, xa, xf, xu⟩, hp⟩ : ∃ p, p = gl[j] := ⟨_, rfl⟩
        have hfl := fun i hi => flat_get (f := bV) (z := 5) (fun _ => rfl) gl j hju i hi
        rw [← hp] at hfl
        have d0 := hc (j * 5 + 0) _ (hfl 0 (by omega))
        have d1 := hc (j * 5 + 1) _ (hfl 1 (by omega))
        have d2 := hc (j * 5 + 2) _ (hfl 2 (by omega))
        have d3 := hc (j * 5 + 3) _ (hfl 3 (by omega))
        have d4 := hc (j * 5 + 4) _ (hfl 4 (by omega))
        simp only [Nat.add_zero, ← Nat.add_assoc] at d0 d1 d2 d3 d4
        have hpl : xh.size ≤ maxLen := by have := HGL.out _ (List.getElem_mem hju); rw [← hp] at this; exact this
        have HOK : Hid (gOk hs gl[j] = (wideB xa && hasB hs xh)) := by unfold Hid; rw [← hp]; rfl
        have HMM : Hid (gl[j] ∈ gl) := List.getElem_mem _
        have hbY : Below wr.heap.size wr (wr.alloc (.cells #[.string xc, .string xh, .int .i64 xa, .string xf, .int .i64 xu] 45)) := lay (Below.refl _ _) _
        have HB9 : Hid (Below w.heap.size w (wr.alloc (.cells #[.string xc, .string xh, .int .i64 xa, .string xf, .int .i64 xu] 45))) := next HW.out hbY
        have hma := fun u => mayAddr_any xa u
        clear hc hfl
        cases hwd : wideB xa with
        | false =>
          rw [hwd] at hma
          have HF : Hid (false = b) := by
            unfold Hid
            rw [HBB.out, eq_comm, List.all_eq_false]
            exact ⟨_, HMM.out, by rw [HOK.out, hwd]; simp⟩
          clear hp
          go_wp2_with (go_at_call 34; go_must (refine (hma _).mono ?_); rintro e w' ⟨rfl, hw⟩; obtain rfl := hw.symm)
          go_ret
          exact ⟨ret_bool HF.out, HB9.out⟩
        | true =>
          rw [hwd] at hma
          have hhs := has_any _ hs xh _ (HRH.out.below HB9.out) HSS.out.1 HSS.out.2 hpl
          cases hhb : hasB hs xh with
          | false =>
            rw [hhb] at hhs
            have HF : Hid (false = b) := by
              unfold Hid
              rw [HBB.out, eq_comm, List.all_eq_false]
              exact ⟨_, HMM.out, by rw [HOK.out, hwd, hhb]; simp⟩
            clear hp
            go_wp2_with (first
              | (go_at_call 34; go_must (refine (hma _).mono ?_); rintro e w' ⟨rfl, hw⟩; obtain rfl := hw.symm)
              | (go_at_call 61; go_must (refine hhs.mono ?_); rintro e w1 ⟨rfl, b1⟩))
            go_ret
            exact ⟨ret_bool HF.out, next HB9.out b1⟩
          | true =>
            rw [hhb] at hhs
            have HB2 : Hid (∀ i (hi : i < gl.length), i < j + 1 → gOk hs gl[i] = true) := fun i hi hij => by
              by_cases he : i = j
              · subst he; rw [HOK.out, hwd, hhb]; rfl
              · exact HB.out i hi (by omega)
            clear hp
            go_wp2_with (first
              | (go_at_call 34; go_must (refine (hma _).mono ?_); rintro e w' ⟨rfl, hw⟩; obtain rfl := hw.symm)
              | (go_at_call 61; go_must (refine hhs.mono ?_); rintro e w1 ⟨rfl, b1⟩))
            go_roundw
            case rel => exact ⟨j + 1, by omega, by go_num, HB2, next HB9.out b1⟩
            case measure => simp [intOf]; omega
      · have hjn' : decide (j < N) = false := by simpa using hjn
        have HF : Hid (true = b) := by
          unfold Hid
          rw [HBB.out, eq_comm, List.all_eq_true]
          intro x hx
          obtain ⟨i, hi, rfl⟩ := List.getElem_of_mem hx
          exact HB.out i hi (by have := HN.out; omega)
        go_wp2
        go_ret
        exact ⟨ret_bool HF.out, HW.out⟩

end Cu
end Go.Proofs.Ytnjgdfmldjgloaa

/- Which delegations may be put: isWrong. -/
namespace Go.Proofs.Ytnjgdfmldjgloaa
open Go.RowKit
open Pl
namespace Cu

/-- A delegation. -/
structure Dg where
  c : ByteArray
  hs : List ByteArray
  gl : List Bn
  ttl : Int
/-- It lies in memory. -/
structure DIn (w : World) (d : Dg) (hv gv : Value) : Prop where
  hr : Row w hv d.hs.length (tC d.hs)
  hc : ∃ x c, hv = .slice x d.hs.length c ∧ d.hs.length ≤ c
  gr : Row w gv d.gl.length (bC d.gl)
  hl : d.hs.length ≤ maxLen
  ll : d.gl.length ≤ maxLen
  cs : d.c.size ≤ maxLen
  hss : ∀ x ∈ d.hs, x.size ≤ maxLen
  gss : ∀ x ∈ d.gl, x.h.size ≤ maxLen
theorem DIn.below {w w' : World} {d : Dg} {hv gv : Value} (h : DIn w d hv gv) (hb : Below w.heap.size w w') : DIn w' d hv gv := ⟨h.hr.below hb, h.hc, h.gr.below hb, h.hl, h.ll, h.cs, h.hss, h.gss⟩
def mayD (d : Dg) (fr : ByteArray) (now : Int) : Bool := tellOk fr d.c && hostsOk d.hs && glueOk d.gl d.hs && decide (0 ≤ now) && decide (now ≤ 1099511627776)
def dV (d : Dg) (hv gv : Value) : Array Value := #[.string d.c, hv, gv, .int .i64 d.ttl]
set_option maxRecDepth 20000 in
set_option maxHeartbeats 1000000 in
theorem isWrong_any {w : World} {d : Dg} {hv gv : Value} (h : DIn w d hv gv) (fr : ByteArray) (now : Int) (hf : fr.size ≤ maxLen) (b : Bool) (hb : mayD d fr now = b) :
    Calls Try.prog 28 #[.agg (dV d hv gv), .string fr, .int .i64 now] w fun e w' => e = .returned (.bool (!b)) ∧ Below w.heap.size w w' := by
  obtain ⟨cn, hs, gl, ttl⟩ := d
  unfold dV mayD at *
  simp only at hb ⊢
  have HIN : Hid (DIn w ⟨cn, hs, gl, ttl⟩ hv gv) := h
  have hb0 : Below w.heap.size w (w.alloc (.cells #[.string cn, hv, gv, .int .i64 ttl] 33)) := lay (Below.refl _ _) _
  have HK : Hid (Blk (w.alloc (.cells #[.string cn, hv, gv, .int .i64 ttl] 33)) w.heap.size #[.string cn, hv, gv, .int .i64 ttl] 33) := Blk.new w _ _
  obtain ⟨xh, ch, hhv, hcap⟩ := h.hc
  obtain ⟨xg, cg, hgv, _⟩ := h.gr.src
  simp only at hhv hgv hcap
  subst hhv hgv
  have HTL := fun u => mayTell_any fr cn u hf h.cs
  have HHS : Hid (∀ U, Below w.heap.size w U → Calls Try.prog 51 #[.slice xh hs.length ch] U fun e w' => e = .returned (.bool (hostsOk hs)) ∧ Below U.heap.size U w') := fun U hU => mayHosts_any xh hs.length ch hs U rfl (h.hr.below hU) hcap h.hl h.hss
  have HGL : Hid (∀ U, Below w.heap.size w U → Calls Try.prog 52 #[.slice xg gl.length cg, .slice xh hs.length ch] U fun e w' => e = .returned (.bool (glueOk gl hs)) ∧ Below U.heap.size U w') := fun U hU => mayGlue_any xg gl.length cg gl _ hs U rfl (h.gr.below hU) h.ll h.gss (h.hr.below hU) h.hl h.hss
  clear h
  obtain ⟨NH, hNH⟩ : ∃ NH, NH = hs.length := ⟨_, rfl⟩
  obtain ⟨NG, hNG⟩ : ∃ NG, NG = gl.length := ⟨_, rfl⟩
  rw [← hNH, ← hNG] at HK hb0 HGL ⊢
  rw [← hNH] at HHS
  clear hNH hNG HIN hcap
  have HB0 : Hid (Below w.heap.size w (w.alloc (.cells #[.string cn, .slice xh NH ch, .slice xg NG cg, .int .i64 ttl] 33))) := hb0
  clear hb0
  have c0 := HK.out.cell 0
  simp only [List.getElem?_toArray, List.getElem?_cons_zero] at c0
  cases h1 : tellOk fr cn with
  | false =>
    rw [h1] at hb HTL
    simp only [Bool.false_and] at hb
    subst hb
    go_enter Try.func28, Try.ntmps28
    go_wp2_with (go_at_call 50; go_must (refine (HTL _).mono ?_); rintro e w1 ⟨rfl, b1⟩)
    go_ret
    exact ⟨rfl, next HB0.out b1⟩
  | true =>
    rw [h1] at hb HTL
    cases h2 : hostsOk hs with
    | false =>
      rw [h2] at hb HHS
      simp only [Bool.true_and, Bool.false_and] at hb
      subst hb
      go_enter Try.func28, Try.ntmps28
      go_wp2_with (first
        | (go_at_call 50; go_must (refine (HTL _).mono ?_); rintro e w1 ⟨rfl, b1⟩; have HB1 : Hid (Below w.heap.size w w1) := next HB0.out b1; have k1 := (HK.out.below b1).cell 1; simp only [List.getElem?_toArray, List.getElem?_cons_succ, List.getElem?_cons_zero] at k1; have hh1 := HHS.out w1 HB1.out)
        | (go_at_call 51; go_must (refine hh1.mono ?_); rintro e w2 ⟨rfl, b2⟩))
      go_ret
      exact ⟨rfl, next HB1.out b2⟩
    | true =>
      rw [h2] at hb HHS
      cases h3 : glueOk gl hs with
      | false =>
        rw [h3] at hb HGL
        simp only [Bool.true_and, Bool.false_and] at hb
        subst hb
        go_enter Try.func28, Try.ntmps28
        go_wp2_with (first
          | (go_at_call 50; go_must (refine (HTL _).mono ?_); rintro e w1 ⟨rfl, b1⟩; have HB1 : Hid (Below w.heap.size w w1) := next HB0.out b1; have HK1 := HK.out.below b1; have k1 := HK1.cell 1; simp only [List.getElem?_toArray, List.getElem?_cons_succ, List.getElem?_cons_zero] at k1; have hh1 := HHS.out w1 HB1.out)
          | (go_at_call 51; go_must (refine hh1.mono ?_); rintro e w2 ⟨rfl, b2⟩; have HB2 : Hid (Below w.heap.size w w2) := next HB1.out b2; have HK2 := HK1.below b2; have m1 := HK2.cell 1; have m2 := HK2.cell 2; simp only [List.getElem?_toArray, List.getElem?_cons_succ, List.getElem?_cons_zero] at m1 m2; have hh2 := HGL.out w2 HB2.out)
          | (go_at_call 52; go_must (refine hh2.mono ?_); rintro e w3 ⟨rfl, b3⟩))
        go_ret
        exact ⟨rfl, next HB2.out b3⟩
      | true =>
        rw [h3] at hb HGL
        by_cases h4 : now < 0
        · rw [decide_eq_false (by omega)] at hb
          simp only [Bool.true_and, Bool.false_and] at hb
          subst hb
          go_enter Try.func28, Try.ntmps28
          go_wp2_with (first
            | (go_at_call 50; go_must (refine (HTL _).mono ?_); rintro e w1 ⟨rfl, b1⟩; have HB1 : Hid (Below w.heap.size w w1) := next HB0.out b1; have HK1 := HK.out.below b1; have k1 := HK1.cell 1; simp only [List.getElem?_toArray, List.getElem?_cons_succ, List.getElem?_cons_zero] at k1; have hh1 := HHS.out w1 HB1.out)
            | (go_at_call 51; go_must (refine hh1.mono ?_); rintro e w2 ⟨rfl, b2⟩; have HB2 : Hid (Below w.heap.size w w2) := next HB1.out b2; have HK2 := HK1.below b2; have m1 := HK2.cell 1; have m2 := HK2.cell 2; simp only [List.getElem?_toArray, List.getElem?_cons_succ, List.getElem?_cons_zero] at m1 m2; have hh2 := HGL.out w2 HB2.out)
            | (go_at_call 52; go_must (refine hh2.mono ?_); rintro e w3 ⟨rfl, b3⟩))
          go_ret
          exact ⟨rfl, next HB2.out b3⟩
        · have h4' : decide (now < 0) = false := by simpa using h4
          rw [decide_eq_true (show (0 : Int) ≤ now by omega)] at hb
          simp only [Bool.true_and] at hb
          have h5 : decide ((1099511627776 : Int) < now) = !b := by
            rw [← hb]
            by_cases h6 : now ≤ 1099511627776
            · rw [decide_eq_true h6, decide_eq_false (by omega)]; rfl
            · rw [decide_eq_false h6, decide_eq_true (by omega)]; rfl
          have H5 : Hid (decide ((1099511627776 : Int) < now) = !b) := h5
          clear hb h5
          go_enter Try.func28, Try.ntmps28
          go_wp2_with (first
            | (go_at_call 50; go_must (refine (HTL _).mono ?_); rintro e w1 ⟨rfl, b1⟩; have HB1 : Hid (Below w.heap.size w w1) := next HB0.out b1; have HK1 := HK.out.below b1; have k1 := HK1.cell 1; simp only [List.getElem?_toArray, List.getElem?_cons_succ, List.getElem?_cons_zero] at k1; have hh1 := HHS.out w1 HB1.out)
            | (go_at_call 51; go_must (refine hh1.mono ?_); rintro e w2 ⟨rfl, b2⟩; have HB2 : Hid (Below w.heap.size w w2) := next HB1.out b2; have HK2 := HK1.below b2; have m1 := HK2.cell 1; have m2 := HK2.cell 2; simp only [List.getElem?_toArray, List.getElem?_cons_succ, List.getElem?_cons_zero] at m1 m2; have hh2 := HGL.out w2 HB2.out)
            | (go_at_call 52; go_must (refine hh2.mono ?_); rintro e w3 ⟨rfl, b3⟩))
          go_ret
          exact ⟨ret_bool H5.out, next HB2.out b3⟩

end Cu
end Go.Proofs.Ytnjgdfmldjgloaa
