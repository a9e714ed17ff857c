/- What gather gives: the places of a name's labels. -/
import Derived.Test.YtnjlfbcfnmdkkaaWalkF
import Derived.Deep.WholeRow
namespace Go.Proofs.Ytnjlfbcfnmdkkaa
open Go.RowKit
open Pl

/-- The cells of places ahead of the walk. -/
def Z47 : Array Value := Array.replicate 128 (.int .u8 0) ++ #[.int .i64 0]
theorem info47 : (Try.prog.info? 61).map (fun i => (i.zero, i.size)) = some (some (.agg Z47), 129) := by kernel_rfl

/-- The cells of places when c labels are behind. -/
def Fill (ls : List (List UInt8)) (c : Nat) (C : Array Value) : Prop :=
  C.size = 129 ∧ C[128]? = some (.int .i64 (c : Int)) ∧ (∀ i, i ≤ c → C[i]? = some (.int .u8 (pos ls i : Nat))) ∧ C.all (·.oneCell') = true

theorem fill_start (ls : List (List UInt8)) : Fill ls 0 Z47 := by
  refine ⟨by kernel_rfl, by kernel_rfl, fun i hi => ?_, by kernel_rfl⟩
  obtain rfl : i = 0 := by omega
  rw [pos_zero]
  kernel_rfl

theorem all_set {C : Array Value} (h : C.all (·.oneCell') = true) (i : Nat) (v : Value) (hv : v.oneCell' = true) : (C.setIfInBounds i v).all (·.oneCell') = true := by
  rw [Array.all_eq_true] at h ⊢
  intro j hj
  rw [Array.getElem_setIfInBounds]
  split
  · exact hv
  · exact h j (by simpa using hj)

theorem fill_next {ls : List (List UInt8)} {c : Nat} {C : Array Value} (h : Fill ls c C) (hc : c < 127) : Fill ls (c + 1) ((C.setIfInBounds 128 (.int .i64 ((c : Int) + 1))).setIfInBounds (c + 1) (.int .u8 (pos ls (c + 1) : Nat))) := by
  obtain ⟨h1, h2, h3, h4⟩ := h
  refine ⟨by simp [h1], ?_, fun i hi => ?_, all_set (all_set h4 _ _ rfl) _ _ rfl⟩
  · rw [Array.getElem?_setIfInBounds_ne (by omega), Array.getElem?_setIfInBounds_self_of_lt (by omega)]
    simp
  · by_cases e : i = c + 1
    · subst e
      rw [Array.getElem?_setIfInBounds_self_of_lt (by simp [h1]; omega)]
    · rw [Array.getElem?_setIfInBounds_ne (by omega), Array.getElem?_setIfInBounds_ne (by omega)]
      exact h3 i (by omega)

/-- How many labels a name may have. -/
theorem labs_few {ls : List (List UInt8)} (h : GoodL ls) : 2 * ls.length + 1 ≤ (enc ls).length := by
  induction ls with
  | nil => simp [enc]
  | cons x ls ih =>
    have h1 := h.head
    have h2 := ih h.tail
    rw [enc_cons]
    simp
    omega

theorem load_pl {w : World} {g : Nat} {C : Array Value} (hg : w.heap[g]? = some (.cells C 61 (0, 0))) (hC : C.size = 129) : (Instr.loadAt 61 (.pointer (some ⟨g, 0, none⟩))).run Try.prog w = .ok (.agg C) w := by
  simp only [Instr.loadAt, Instr.sureAddr, Sem.run_bind, Sem.run_pure, Result.andThen]
  exact run_loadVar_row _ _ 61 61 C (0, 0) _ hg Try.underlying61 rfl (by rw [hC]; exact (zero_of_info info47).2)
theorem store_pl {w : World} {g : Nat} {Z C : Array Value} (hg : w.heap[g]? = some (.cells Z 61 (0, 0))) (hZ : Z.size = 129) (hC : C.size = 129) (h1 : C.all (·.oneCell') = true) : (Instr.storeAt 61 (.pointer (some ⟨g, 0, none⟩)) (.agg C)).run Try.prog w = .ok () (w.setRow g C) := by
  simp only [Instr.storeAt, Instr.sureAddr, Sem.run_bind, Sem.run_pure, Result.andThen]
  exact run_storeVar_row _ _ 61 61 Z C hg (by rw [hC]; exact (zero_of_info info47).2) (by omega) h1

theorem results_cell {fn : Func} {p : Tmp} {ty : TypeId} (h : fn.results = #[.cell p ty]) (tmps : Array Value) (P : Program) (w : World) :
    (results fn tmps).run P w = ((asAddr (tmps.getD p undef)).run P w).andThen fun a w1 => (loadVar ty a).run P w1 := by
  simp only [results, h]
  simp [Sem.run_bind, Result.andThen]

/-- All the places out of their block. -/
theorem wpList_loadPl (w : World) {ops : Array Oper} {rest : List Oper} {o : Oper} {a : Act} {Q : Exit → Act → World → Prop} (hgd : o.guard = none) (x : Operand)
    (ho : o.op = .load 61 x) (g : Nat) (C : Array Value) (hx : a.eval x = .pointer (some ⟨g, 0, none⟩)) (hg : w.heap[g]? = some (.cells C 61 (0, 0))) (hC : C.size = 129)
    (h : wpList Try.prog ops Q rest (a.put o.dst (.agg C)) w) : wpList Try.prog ops Q (o :: rest) a w := by
  refine wpList_plain hgd fun K hK => ?_
  have hr := load_pl hg hC
  unfold Oper.wp execOp
  simp only [ho, hx, Sem.run_bind, hr, Result.andThen_ok, Sem.run_pure]
  exact hK _ _ h

/-- All the places into a block. -/
theorem wpList_storePl (w : World) {ops : Array Oper} {rest : List Oper} {o : Oper} {a : Act} {Q : Exit → Act → World → Prop} (hgd : o.guard = none) (x y : Operand)
    (ho : o.op = .store 61 x y) (g : Nat) (Z C : Array Value) (hx : a.eval x = .pointer (some ⟨g, 0, none⟩)) (hy : a.eval y = .agg C) (hg : w.heap[g]? = some (.cells Z 61 (0, 0))) (hZ : Z.size = 129) (hC : C.size = 129) (h1 : C.all (·.oneCell') = true)
    (h : ∀ w', w'.heap[g]? = some (.cells C 61 (0, 0)) → w.grownBy w' (some g) → w'.heap.size = w.heap.size → wpList Try.prog ops Q rest (a.put o.dst undef) w') : wpList Try.prog ops Q (o :: rest) a w := by
  refine wpList_plain hgd fun K hK => ?_
  have hr := store_pl hg hZ hC h1
  unfold Oper.wp execOp
  simp only [ho, hx, hy, Sem.run_bind, hr, Result.andThen_ok, Sem.run_pure]
  exact hK _ _ (h _ (setRow_heap _ _ Z _ 61 (0, 0) hg) ⟨rfl, rfl, rfl, by simp, fun k _ hne => setRow_other _ _ _ _ (fun e => hne (by rw [e]))⟩ (by simp))

set_option maxRecDepth 20000 in
set_option maxHeartbeats 1000000 in
theorem gather_any (s : ByteArray) (w : World) (h : isName s.data.toList = true) :
    Calls Try.prog 29 #[.string s] w fun e w' => ∃ C : Array Value, e = .returned (.agg C) ∧ Below w.heap.size w w' ∧ Fill (labs s.data.toList) (labs s.data.toList).length C := by
  obtain ⟨e1, e2, e3, e4⟩ := enc_of h
  have hfew := labs_few e2
  rw [← e1] at hfew
  have hl := data_len s
  obtain ⟨ls, hls⟩ : ∃ ls, ls = labs s.data.toList := ⟨_, rfl⟩
  rw [← hls] at e1 e2 e3 hfew ⊢
  obtain ⟨hz, hsz⟩ := zero_of_info info47
  have HSZ : Hid ((Try.prog.info? 61).map (·.size) = some 129) := hsz
  obtain ⟨Z, hZ⟩ : ∃ Z, Z = Z47 := ⟨_, rfl⟩
  rw [← hZ] at hz
  have HZ : Hid (Z = Z47) := hZ
  have HE : Hid (s.data.toList = enc ls) := e1
  have HG : Hid (GoodL ls) := e2
  have hn : ls.length ≤ 127 := by omega
  have hs : s.size ≤ 255 := by omega
  clear hZ hsz e1 e2 e3 e4 hls hfew h
  go_enter Try.func29, Try.ntmps29
  go_wp2
  go_loopw [4] (fun i wr => ∃ (c P : Nat) (C : Array Value), c ≤ ls.length ∧ P < s.size ∧ i = .int .i64 P ∧ wr = (w.alloc (.cells Z 61)).alloc (.cells C 61) ∧ Hid (P = pos ls c) ∧ Hid (Fill ls c C)) (fun i _ => s.size - (intOf i).toNat)
  case atStart => exact ⟨0, 0, Z, Nat.zero_le _, by have := pos_lt ls 0; rw [← HE.out, pos_zero] at this; omega, rfl, rfl, (pos_zero ls).symm, by unfold Hid; rw [HZ.out]; exact fill_start ls⟩
  case round =>
    obtain ⟨c, P, C, hc, hPs, rfl, rfl, hP, hF⟩ := hrel
    have hPl : P < s.data.toList.length := by omega
    by_cases hcl : c < ls.length
    · have hat : s[P].toNat = ls[c].length := by
        have h1 := pos_at ls c hcl
        rw [← len_byte (HG.out ls[c] (List.getElem_mem _)).2, ← h1]
        congr 1
        have h2 := HE.out
        have h3 := hP.out
        subst h3
        show s.data.toList[pos ls c] = _
        congr 1
      have h1 := HG.out ls[c] (List.getElem_mem _)
      have hnz : ((s[P].toNat : Int) != 0) = true := by simp; omega
      have h63 : s[P].toNat ≤ 63 := by omega
      have hnext : P + (1 + s[P].toNat) = pos ls (c + 1) := by rw [pos_succ ls c hcl, ← hP.out, hat]; omega
      have hlt : P + (1 + s[P].toNat) < s.size := by have := pos_lt ls (c + 1); rw [← HE.out] at this; omega
      have hcell : ((w.alloc (.cells Z 61)).alloc (.cells C 61)).cell? ⟨w.heap.size + 1, 128, none⟩ = some (.int .i64 (c : Int)) := by
        have := World.cell?_alloc_mark (w.alloc (.cells Z 61)) C 61 (0, 0) 128
        rw [hF.out.2.1] at this
        simpa using this
      have hcell2 : ((w.alloc (.cells Z 61)).alloc (.cells (C.setIfInBounds 128 (.int .i64 ((c : Int) + 1))) 61)).cell? ⟨w.heap.size + 1, 128, none⟩ = some (.int .i64 ((c : Int) + 1)) := by
        have := World.cell?_alloc_mark (w.alloc (.cells Z 61)) (C.setIfInBounds 128 (.int .i64 ((c : Int) + 1))) 61 (0, 0) 128
        rw [Array.getElem?_setIfInBounds_self_of_lt (by rw [hF.out.1]; omega)] at this
        simpa using this
      obtain ⟨x, hx⟩ : ∃ x, (C.setIfInBounds 128 (.int .i64 ((c : Int) + 1)))[c + 1]? = some x := ⟨_, Array.getElem?_eq_getElem (by simp [hF.out.1]; omega)⟩
      have HF2 : Hid (Fill ls (c + 1) ((C.setIfInBounds 128 (.int .i64 ((c : Int) + 1))).setIfInBounds (c + 1) (.int .u8 ((P : Int) + (1 + (s[P].toNat : Int)))))) := by
        have := fill_next hF.out (by omega : c < 127)
        rw [← hnext] at this
        unfold Hid
        simpa using this
      have HN : Hid (P + (1 + s[P].toNat) = pos ls (c + 1)) := hnext
      clear hnext hat h1
      go_wp2
      go_roundw
      case rel => exact ⟨c + 1, P + (1 + s[P].toNat), _, by omega, hlt, by go_num, rfl, HN, HF2⟩
      case measure => simp [intOf]; omega
    · have hat : s[P].toNat = 0 := by
        have h1 := pos_end ls c (by omega)
        have h2 := HE.out
        have h3 := hP.out
        subst h3
        have h4 : s[pos ls c] = 0 := by
          rw [← h1]
          show s.data.toList[pos ls c] = _
          congr 1
        rw [h4]; rfl
      have hnz : ((s[P].toNat : Int) != 0) = false := by simp [hat]
      have hce : c = ls.length := by omega
      have HF : Hid (Fill ls ls.length C) := by rw [← hce]; exact hF
      have hg1 : ((w.alloc (.cells Z 61)).alloc (.cells C 61)).heap[w.heap.size + 1]? = some (.cells C 61 (0, 0)) := by
        have := heap_alloc_last (w.alloc (.cells Z 61)) (.cells C 61)
        simpa using this
      have hg0 : ((w.alloc (.cells Z 61)).alloc (.cells C 61)).heap[w.heap.size]? = some (.cells Z 61 (0, 0)) := by
        rw [Below.heap_alloc (w.alloc (.cells Z 61)) _ w.heap.size (by simp)]
        exact heap_alloc_last w _
      have hZs : Z.size = 129 := by rw [HZ.out]; exact (fill_start ls).1
      clear hat
      have hb1 : Below w.heap.size w ((w.alloc (.cells Z 61)).alloc (.cells C 61)) := lay (lay (Below.refl _ _) _) _
      go_wp2_with (first
        | (refine wpList_loadPl _ rfl (.tmp 3) rfl _ C rfl hg1 HF.out.1 ?_)
        | (refine wpList_storePl _ rfl (.tmp 2) (.tmp 26) rfl _ Z C rfl rfl hg0 hZs HF.out.1 HF.out.2.2.2 ?_; intro w3 h1 h2 h3))
      have hbel : Below w.heap.size w w3 := hb1.trans ⟨h2.os, h2.tape, h2.output, h2.size, fun k hk => h2.block k (by simp; omega) (by intro e; have := Option.some.inj e; omega)⟩
      have hld2 : (loadVar 61 ⟨w.heap.size, 0, none⟩).run Try.prog w3 = .ok (.agg C) w3 :=
        run_loadVar_row _ _ 61 61 C (0, 0) _ h1 Try.underlying61 rfl (by rw [HF.out.1]; exact (zero_of_info info47).2)
      refine bodyPost_ret (v := .agg C) ?_ rfl ⟨C, rfl, hbel, HF.out⟩
      rw [results_cell rfl]
      exact hld2

end Go.Proofs.Ytnjlfbcfnmdkkaa
