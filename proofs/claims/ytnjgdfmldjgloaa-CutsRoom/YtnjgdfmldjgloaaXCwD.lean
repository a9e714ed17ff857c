/- CutsRoom, plainly: names by numbers, and how many are held. -/
import Derived.Test.YtnjgdfmldjgloaaXP16
namespace Go.Proofs.Ytnjgdfmldjgloaa
open Go.RowKit
open Pl
namespace Cu

def numb (i : Nat) : ByteArray := ⟨#[2, UInt8.ofNat (128 + i % 128), UInt8.ofNat (48 + i / 128), 0]⟩
def numI (n : ByteArray) : Nat := match n.data.toList with | [_, a, b, _] => (a.toNat - 128) + 128 * (b.toNat - 48) | _ => 0
def numOk (i : Nat) : Bool := decide (numI (numb i) = i) && decide (fdB (numb i) = numb i) && isName (numb i).data.toList && tellOk ⟨#[0]⟩ (numb i) && decide ((labs (numb i).data.toList).length = 1) && decide (lastB (numb i) 1 = numb i) && !decide (numb i = rootB)
theorem num_ok : (List.range 140).all numOk = true := by decide +kernel
structure NumF (i : Nat) : Prop where
  back : numI (numb i) = i
  fd : fdB (numb i) = numb i
  nm : isName (numb i).data.toList = true
  tell : tellOk ⟨#[0]⟩ (numb i) = true
  one : (labs (numb i).data.toList).length = 1
  last : lastB (numb i) 1 = numb i
  root : numb i ≠ rootB
theorem num_f {i : Nat} (h : i < 140) : NumF i := by
  have := List.all_eq_true.1 num_ok i (List.mem_range.2 h)
  unfold numOk at this
  simp only [Bool.and_eq_true, decide_eq_true_eq, Bool.not_eq_true', decide_eq_false_iff_not] at this
  obtain ⟨⟨⟨⟨⟨⟨h1, h2⟩, h3⟩, h4⟩, h5⟩, h6⟩, h7⟩ := this
  exact ⟨h1, h2, h3, h4, h5, h6, h7⟩
theorem num_inj {i j : Nat} (hi : i < 140) (hj : j < 140) (h : numb i = numb j) : i = j := by
  rw [← (num_f hi).back, ← (num_f hj).back, h]
def rmD (i : Nat) (t : Int) : Dg := ⟨numb i, [⟨#[1, 104, 0]⟩], [], t⟩
theorem rm_may {i : Nat} (h : i < 140) (t : Int) : mayD (rmD i t) ⟨#[0]⟩ 5 = true := by
  unfold mayD rmD
  simp only
  rw [(num_f h).tell]
  rfl
/-- What is held when so many were told. -/
structure FRm (k : Nat) (F : List Ct) (is : List Nat) : Prop where
  nm : F.map Ct.n = is.map numb
  nd : is.Nodup
  lt : ∀ i ∈ is, i < k
  len : is.length = min k 128
  late : ∀ c ∈ F, 5 < c.u
theorem FRm.start : FRm 0 [] [] := ⟨rfl, List.nodup_nil, fun i h => by simp at h, rfl, fun c h => by simp at h⟩
theorem FRm.flen {k : Nat} {F : List Ct} {is : List Nat} (h : FRm k F is) : F.length = is.length := by
  have := congrArg List.length h.nm
  rw [List.length_map, List.length_map] at this
  exact this
theorem FRm.name {k : Nat} {F : List Ct} {is : List Nat} (h : FRm k F is) {c : Ct} (hc : c ∈ F) : ∃ i ∈ is, c.n = numb i := by
  have : c.n ∈ F.map Ct.n := List.mem_map.2 ⟨c, hc, rfl⟩
  rw [h.nm] at this
  obtain ⟨i, hi, e⟩ := List.mem_map.1 this
  exact ⟨i, hi, e.symm⟩
theorem map_erase {α β : Type} (f : α → β) (L : List α) (i : Nat) : (L.eraseIdx i).map f = (L.map f).eraseIdx i := by
  induction L generalizing i with
  | nil => rfl
  | cons a L ih =>
    cases i with
    | zero => rfl
    | succ i => simp only [List.eraseIdx_cons_succ, List.map_cons, ih]
theorem FRm.step {k : Nat} {F : List Ct} {is : List Nat} (h : FRm k F is) (hk : k < 140) {t : Int} :
    errC (rmD k t) ⟨#[0]⟩ 5 = 0 ∧ ∃ is', FRm (k + 1) (putC F (rmD k t) ⟨#[0]⟩ 5) is' := by
  have hm := rm_may hk t
  refine ⟨yes_may hm, ?_⟩
  have hf : F.filter (keepC (fdB (rmD k t).c) 5) = F := by
    refine List.filter_eq_self.2 (fun c hc => ?_)
    obtain ⟨i, hi, e⟩ := h.name hc
    have hik := h.lt i hi
    unfold keepC
    rw [show (rmD k t).c = numb k from rfl, (num_f hk).fd, e, decide_eq_false (fun e2 => by have := num_inj (by omega) hk e2; omega), decide_eq_true (h.late c hc)]
    rfl
  have hput : putC F (rmD k t) ⟨#[0]⟩ 5 = cutC F ++ [newCt (rmD k t) ⟨#[0]⟩ 5] := by
    unfold putC
    rw [hm, if_pos rfl, hf]
  have hnew : (newCt (rmD k t) ⟨#[0]⟩ 5).n = numb k := by
    show fdB (numb k) = numb k
    exact (num_f hk).fd
  have hnu : 5 < (newCt (rmD k t) ⟨#[0]⟩ 5).u := by
    show (5 : Int) < 5 + lastI t
    have := lastI_lo t
    omega
  have hfl := h.flen
  have hln := h.len
  rw [hput]
  by_cases hc : 128 ≤ F.length
  · have hcut : cutC F = F.eraseIdx (minCt F) := by unfold cutC; rw [if_pos hc]
    have hml : minCt F < F.length := by
      have := minP_lt (L := F.map enC) (by rw [List.length_map]; omega)
      rw [List.length_map] at this
      exact this
    rw [hcut]
    refine ⟨is.eraseIdx (minCt F) ++ [k], ?_, ?_, ?_, ?_, ?_⟩
    · rw [List.map_append, List.map_append, map_erase, h.nm, map_erase, List.map_cons, List.map_nil, hnew]
      rfl
    · refine List.nodup_append.2 ⟨List.Nodup.sublist (List.eraseIdx_sublist _ _) h.nd, by simp, fun a ha b hb e => ?_⟩
      simp at hb
      subst hb
      have := h.lt a ((List.eraseIdx_sublist _ _).subset ha)
      omega
    · intro i hi
      rcases List.mem_append.1 hi with hi | hi
      · have := h.lt i ((List.eraseIdx_sublist _ _).subset hi)
        omega
      · simp at hi; omega
    · rw [List.length_append, List.length_eraseIdx, if_pos (by omega)]
      simp
      omega
    · intro c hc2
      rcases List.mem_append.1 hc2 with hc2 | hc2
      · exact h.late c ((List.eraseIdx_sublist _ _).subset hc2)
      · simp at hc2; subst hc2; exact hnu
  · have hcut : cutC F = F := by unfold cutC; rw [if_neg hc]
    rw [hcut]
    refine ⟨is ++ [k], ?_, ?_, ?_, ?_, ?_⟩
    · rw [List.map_append, List.map_append, h.nm, List.map_cons, List.map_nil, hnew]
      rfl
    · refine List.nodup_append.2 ⟨h.nd, by simp, fun a ha b hb e => ?_⟩
      simp at hb
      subst hb
      have := h.lt a ha
      omega
    · intro i hi
      rcases List.mem_append.1 hi with hi | hi
      · have := h.lt i hi
        omega
      · simp at hi; omega
    · rw [List.length_append, hln]
      simp
      omega
    · intro c hc2
      rcases List.mem_append.1 hc2 with hc2 | hc2
      · exact h.late c hc2
      · simp at hc2; subst hc2; exact hnu
/-- Which are held. -/
theorem FRm.deep {k : Nat} {F : List Ct} {is : List Nat} (h : FRm k F is) (hk : k ≤ 140) {i : Nat} (hi : i < 140) : deepF F (numb i) 5 = if i ∈ is then numb i else ⟨#[0]⟩ := by
  have hn := num_f hi
  have hl : (liveF F (numb i) 5).isSome = decide (i ∈ is) := by
    unfold liveF
    cases hf : F.find? (fun c => decide (c.n = numb i)) with
    | none =>
      have h1 := List.find?_eq_none.1 hf
      rw [decide_eq_false (fun hm => ?_)]
      · rfl
      · have : numb i ∈ F.map Ct.n := by rw [h.nm]; exact List.mem_map.2 ⟨i, hm, rfl⟩
        obtain ⟨c, hc, e⟩ := List.mem_map.1 this
        exact h1 c hc (by simpa using e)
    | some c =>
      have h1 := List.mem_of_find?_eq_some hf
      have h2 : c.n = numb i := by simpa using List.find?_some hf
      obtain ⟨j, hj, e⟩ := h.name h1
      have hji : j = i := num_inj (by have := h.lt j hj; omega) hi (by rw [← e, h2])
      subst hji
      simp only
      rw [if_pos (h.late c h1), decide_eq_true hj]
      rfl
  unfold deepF
  rw [if_pos hn.nm, hn.fd, hn.one, deepK]
  have e1 : lvF F (numb i) 5 1 = decide (i ∈ is) := by
    unfold lvF
    rw [hn.last]
    exact hl
  rw [e1]
  by_cases hm : i ∈ is
  · rw [decide_eq_true hm, if_pos rfl, if_pos hm, hn.last]
  · rw [decide_eq_false hm, if_neg (by simp), if_neg hm, deepK, last_zero]
    rfl
/-- How many of the first so many are among them. -/
def cntI (is : List Nat) (j : Nat) : Nat := ((List.range j).filter fun i => decide (i ∈ is)).length
theorem cntI_succ (is : List Nat) (j : Nat) : cntI is (j + 1) = cntI is j + if j ∈ is then 1 else 0 := by
  unfold cntI
  rw [List.range_succ, List.filter_append, List.length_append]
  congr 1
  by_cases h : j ∈ is
  · rw [List.filter_cons_of_pos (by simpa using h), if_pos h]
    rfl
  · rw [List.filter_cons_of_neg (by simpa using h), if_neg h]
    rfl
theorem filter_lt_succ (is : List Nat) (hn : is.Nodup) (j : Nat) : (is.filter fun i => decide (i < j + 1)).length = (is.filter fun i => decide (i < j)).length + if j ∈ is then 1 else 0 := by
  induction is with
  | nil => simp
  | cons a is ih =>
    have hn2 := List.nodup_cons.1 hn
    have ih2 := ih hn2.2
    by_cases h1 : a < j
    · rw [List.filter_cons_of_pos (by simp; omega), List.filter_cons_of_pos (by simpa using h1), List.length_cons, List.length_cons, ih2]
      have : (j ∈ a :: is) ↔ j ∈ is := by
        rw [List.mem_cons]
        exact ⟨fun h => h.elim (fun e => by omega) id, .inr⟩
      by_cases h2 : j ∈ is
      · rw [if_pos h2, if_pos (this.2 h2)]
      · rw [if_neg h2, if_neg (fun e => h2 (this.1 e))]
    · by_cases h2 : a = j
      · subst h2
        rw [List.filter_cons_of_pos (by simp), List.filter_cons_of_neg (by simp), List.length_cons, ih2, if_neg hn2.1, if_pos (List.mem_cons_self)]
      · rw [List.filter_cons_of_neg (by simp; omega), List.filter_cons_of_neg (by simpa using h1), ih2]
        have : (j ∈ a :: is) ↔ j ∈ is := by
          rw [List.mem_cons]
          exact ⟨fun h => h.elim (fun e => absurd e.symm h2) id, .inr⟩
        by_cases h3 : j ∈ is
        · rw [if_pos h3, if_pos (this.2 h3)]
        · rw [if_neg h3, if_neg (fun e => h3 (this.1 e))]
theorem cntI_lt (is : List Nat) (hn : is.Nodup) (j : Nat) : cntI is j = (is.filter fun i => decide (i < j)).length := by
  induction j with
  | zero =>
    rw [List.filter_eq_nil_iff.2 (fun a _ => by simp)]
    rfl
  | succ j ih => rw [cntI_succ, filter_lt_succ is hn, ih]
theorem cntI_all {is : List Nat} (hn : is.Nodup) {j : Nat} (h : ∀ i ∈ is, i < j) : cntI is j = is.length := by
  rw [cntI_lt is hn, List.filter_eq_self.2 (fun a ha => by simpa using h a ha)]
theorem two_bytes (i g : Nat) (u : World) (hi : i < 140) (hb : Blk u g #[.int .u8 ((128 + i % 128 : Nat) : Int), .int .u8 ((48 + i / 128 : Nat) : Int)] 5) : (convert 53 9 (.slice (some ⟨g, 0, none⟩) 2 2)).run Try.prog u = .ok (.string ⟨#[UInt8.ofNat (128 + i % 128), UInt8.ofNat (48 + i / 128)]⟩) u := by
  refine run_convert_bytes_back _ 53 9 5 ⟨g, 0, none⟩ 2 [UInt8.ofNat (128 + i % 128), UInt8.ofNat (48 + i / 128)] Try.underlying53 Try.underlying5 Try.underlying9 fun i' hi' => ?_
  have h1 : (UInt8.ofNat (128 + i % 128)).toNat = 128 + i % 128 := by rw [UInt8.toNat_ofNat']; omega
  have h2 : (UInt8.ofNat (48 + i / 128)).toNat = 48 + i / 128 := by rw [UInt8.toNat_ofNat']; omega
  have e : (⟨g, 0, none⟩ : Addr).add i' = ⟨g, i', none⟩ := by unfold Addr.add; split <;> simp_all
  rw [e, hb.cell i']
  match i', hi' with
  | 0, _ =>
    show some (Value.int .u8 ((128 + i % 128 : Nat) : Int)) = some (Value.int .u8 ((UInt8.ofNat (128 + i % 128)).toNat : Int))
    rw [h1]
  | 1, _ =>
    show some (Value.int .u8 ((48 + i / 128 : Nat) : Int)) = some (Value.int .u8 ((UInt8.ofNat (48 + i / 128)).toNat : Int))
    rw [h2]
set_option maxRecDepth 20000 in
theorem numbered_any (i : Nat) (hi : i < 140) (w : World) : Calls Try.prog 21 #[.int .i64 (i : Int)] w fun e w' => e = .returned (.string (numb i)) ∧ Below w.heap.size w w' := by
  obtain ⟨A, hA⟩ : ∃ A : Nat, A = 128 + i % 128 := ⟨_, rfl⟩
  obtain ⟨B, hB⟩ : ∃ B : Nat, B = 48 + i / 128 := ⟨_, rfl⟩
  have hmk : bits .and .i64 (i : Int) 127 = ((i % 128 : Nat) : Int) := by
    have := mask (i : Int) 7 (by decide)
    simp only [Nat.reducePow, Nat.reduceSub] at this
    have e : bits .and .i64 (i : Int) 127 = (i : Int) % 128 := this
    rw [e]; omega
  obtain ⟨R, hR⟩ : ∃ R : Nat, R = i % 128 := ⟨_, rfl⟩
  have hR128 : R < 128 := by omega
  rw [← hR] at hmk
  have hw1 : IntKind.u8.wrap (128 + (R : Int)) = (A : Int) := by
    have : IntKind.u8.wrap (128 + (R : Int)) = (128 + (R : Int)) % 256 := by simp [IntKind.wrap, IntKind.bits, IntKind.signed]
    rw [this]; omega
  have hw2 : IntKind.u8.wrap (48 + (i : Int) / 128) = (B : Int) := by
    have : IntKind.u8.wrap (48 + (i : Int) / 128) = (48 + (i : Int) / 128) % 256 := by simp [IntKind.wrap, IntKind.bits, IntKind.signed]
    rw [this]; omega
  have cv := two_bytes i w.heap.size (w.alloc (.cells #[.int .u8 (A : Int), .int .u8 (B : Int)] 5)) hi (by rw [hA, hB]; exact Blk.new w _ _)
  obtain ⟨D, hD⟩ : ∃ D : ByteArray, D = ⟨#[UInt8.ofNat (128 + i % 128), UInt8.ofNat (48 + i / 128)]⟩ := ⟨_, rfl⟩
  rw [← hD] at cv
  have hds : D.size = 2 := by rw [hD]; rfl
  have z1 : ∀ u : World, (Op.stringOp .add ⟨#[2]⟩ D).run Try.prog u = .ok (.string (⟨#[2]⟩ ++ D)) u := fun u => run_string_add_sum u _ D (by rw [hds]; decide)
  obtain ⟨D2, hD2⟩ : ∃ D2 : ByteArray, (⟨#[2]⟩ : ByteArray) ++ D = D2 := ⟨_, rfl⟩
  rw [hD2] at z1
  have hsum : D2 ++ (⟨#[0]⟩ : ByteArray) = numb i := by rw [← hD2, hD]; rfl
  have z2 : ∀ u : World, (Op.stringOp .add D2 ⟨#[0]⟩).run Try.prog u = .ok (.string (numb i)) u := fun u => by
    rw [← hsum]
    exact run_string_add_sum u D2 _ (by rw [← hD2, ByteArray.size_append, hds]; decide)
  have HB : Hid (Below w.heap.size w (w.alloc (.cells #[.int .u8 (A : Int), .int .u8 (B : Int)] 5))) := lay (Below.refl _ _) _
  clear hA hB hR hD hds hD2 hsum
  go_enter Try.func21, Try.ntmps21
  go_wp2

  go_ret
  exact ⟨rfl, HB.out⟩

end Cu
end Go.Proofs.Ytnjgdfmldjgloaa
