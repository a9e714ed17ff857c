/- What order gives: the order of two strings, folded, by their bytes. -/
import Derived.Test.YtnjgdfmldjgloaaXP1
import Derived.WalkSpells
import Derived.Deep.WholeRow
import Derived.Lib.BufferWrite
import Derived.Lib.UnsafeStr
import Derived.Laws.MakeOwn
import Derived.Test.YtnjgdfmldjgloaaRows
import Derived.WalkKit
import Derived.WalkMore
import Derived.OwnWalk
import Derived.Deep.LoopGhost
import Derived.Deep.AppendLies
import Derived.Deep.DeepMust
import Derived.Deep.QuietTactic
import Derived.Deep.RegionWith
import Derived.BigQuiet
import Derived.Laws.IdiomStrings
import Derived.Laws.BytesArg
import Derived.Laws.Concat
import Derived.Laws.Bits128
import Derived.LoopN
import Derived.Lib.AppendStr
import Derived.Deep.AppendSrc
import Derived.Deep.Upon
import Derived.Deep.RegionHeld3
import Derived.Deep.RegionLawGrows
import Derived.SizedLaws
import Derived.ChangeSlices
import Derived.SliceStrings
import Derived.Carry
import Derived.ProofKit
import Derived.OpenShut
import Derived.ShutString
namespace Go.Proofs.Ytnjgdfmldjgloaa
open Go.RowKit
open Pl

theorem drew_more {w u : World} {n : Nat} (h : ∃ m, u = w.drewN m) : ∃ m, u.drewN n = w.drewN m := by
  obtain ⟨m, rfl⟩ := h
  exact ⟨m + n, by simp⟩

theorem ord_start (a b : List UInt8) : ord a b = lexG cB ((foldL a).drop 0) ((foldL b).drop 0) := rfl
theorem ord_next {a b : List UInt8} {k : Nat} (h : ord a b = lexG cB ((foldL a).drop k) ((foldL b).drop k)) (ha : k < a.length) (hb : k < b.length) (hz : sgn ((fb a[k]).toNat : Int) ((fb b[k]).toNat : Int) = 0) :
    ord a b = lexG cB ((foldL a).drop (k + 1)) ((foldL b).drop (k + 1)) := by
  rw [h, lexG_drop cB_ord _ _ k (by rw [fold_len]; exact ha) (by rw [fold_len]; exact hb)]
  rw [if_pos (by simpa [foldL, cB] using hz)]
theorem ord_here {a b : List UInt8} {k : Nat} (h : ord a b = lexG cB ((foldL a).drop k) ((foldL b).drop k)) (ha : k < a.length) (hb : k < b.length) (hz : sgn ((fb a[k]).toNat : Int) ((fb b[k]).toNat : Int) ≠ 0) :
    sgn ((fb a[k]).toNat : Int) ((fb b[k]).toNat : Int) = ord a b := by
  rw [h, lexG_drop cB_ord _ _ k (by rw [fold_len]; exact ha) (by rw [fold_len]; exact hb)]
  rw [if_neg (by simpa [foldL, cB] using hz)]
  simp [foldL, cB]
theorem ord_end {a b : List UInt8} {k : Nat} (h : ord a b = lexG cB ((foldL a).drop k) ((foldL b).drop k)) (hk : k = a.length ∨ k = b.length) (ha : k ≤ a.length) (hb : k ≤ b.length) :
    sgn (a.length : Int) (b.length : Int) = ord a b := by
  rw [h, lexG_end _ _ k (by rw [fold_len, fold_len]; exact hk) (by rw [fold_len]; exact ha) (by rw [fold_len]; exact hb), fold_len, fold_len]

set_option maxRecDepth 20000 in
set_option maxHeartbeats 1000000 in
theorem order_any (a b : ByteArray) (w : World) (_ha : a.size ≤ maxLen) (hb : b.size ≤ maxLen) :
    Calls Try.prog 64 #[.string a, .string b] w fun e w' => e = .returned (.int .i64 (ord a.data.toList b.data.toList)) ∧ ∃ m, w' = w.drewN m := by
  unfold maxLen at _ha hb
  have hal := data_len a
  have hbl := data_len b
  obtain ⟨M, hM⟩ : ∃ M : Nat, (if b.size < a.size then (b.size : Int) else (a.size : Int)) = (M : Int) := by
    by_cases h : b.size < a.size
    · exact ⟨b.size, by rw [if_pos h]⟩
    · exact ⟨a.size, by rw [if_neg h]⟩
  have HM : Hid ((M = a.size ∨ M = b.size) ∧ M ≤ a.size ∧ M ≤ b.size) := by
    unfold Hid
    split at hM <;> omega
  have hMa : M ≤ a.size := HM.out.2.1
  go_enter Try.func64, Try.ntmps64
  go_wp2
  go_loopw [12] (fun i wr => ∃ (k : Nat), k ≤ M ∧ i = .int .i64 k ∧ Hid (∃ m, wr = w.drewN m) ∧ Hid (ord a.data.toList b.data.toList = lexG cB ((foldL a.data.toList).drop k) ((foldL b.data.toList).drop k))) (fun i _ => M - (intOf i).toNat)
  case atStart => exact ⟨0, Nat.zero_le _, rfl, ⟨0, rfl⟩, ord_start _ _⟩
  case round =>
    obtain ⟨k, hk, rfl, hdr, ho⟩ := hrel
    by_cases hkM : k < M
    · have hka : k < a.size := by have := HM.out; omega
      have hkb : k < b.size := by have := HM.out; omega
      have hka' : k < a.data.toList.length := by omega
      have hkb' : k < b.data.toList.length := by omega
      have hia := idx a k k rfl hka
      have hib := idx b k k rfl hkb
      have hkM2 : (k : Int) < (M : Int) := by omega
      by_cases hz : sgn ((fb a[k]).toNat : Int) ((fb b[k]).toNat : Int) = 0
      · have HN := ord_next ho.out hka' hkb' hz
        have HN2 : Hid (ord a.data.toList b.data.toList = lexG cB ((foldL a.data.toList).drop (k + 1)) ((foldL b.data.toList).drop (k + 1))) := HN
        clear HN
        go_wp2
        go_quiet (first
          | (go_at_call 49; go_must (exact Calls.quiet_of_same (foldByte_any _ _)))
          | (go_at_call 76; exact Calls.quiet_of_same (cmpB_any _ _ _)))
        go_wp2
        go_roundw
        case rel => exact ⟨k + 1, by omega, by go_num, drew_more hdr.out, HN2⟩
        case measure => simp [intOf]; omega
      · have HN := ord_here ho.out hka' hkb' hz
        have HN2 : Hid (sgn ((fb a[k]).toNat : Int) ((fb b[k]).toNat : Int) = ord a.data.toList b.data.toList) := HN
        have hz2 : (sgn ((fb a[k]).toNat : Int) ((fb b[k]).toNat : Int) != 0) = true := by simpa using hz
        clear HN hz
        go_wp2
        go_quiet (first
          | (go_at_call 49; go_must (exact Calls.quiet_of_same (foldByte_any _ _)))
          | (go_at_call 76; exact Calls.quiet_of_same (cmpB_any _ _ _)))
        go_wp2
        go_ret
        exact ⟨ret_int HN2.out, drew_more hdr.out⟩
    · have HE := ord_end ho.out (by have := HM.out; omega) (by have := HM.out; omega) (by have := HM.out; omega)
      rw [hal, hbl] at HE
      have HE2 : Hid (sgn (a.size : Int) (b.size : Int) = ord a.data.toList b.data.toList) := HE
      clear HE
      go_wp2_with (go_at_call 66; refine (cmpI_any _ _ _).mono ?_; rintro e w' ⟨rfl, hw⟩; obtain rfl := hw.symm)
      go_ret
      exact ⟨ret_int HE2.out, hdr.out⟩

end Go.Proofs.Ytnjgdfmldjgloaa

/- What the methods last and label of the places of labels give. -/
namespace Go.Proofs.Ytnjgdfmldjgloaa
open Go.RowKit
open Pl

/-- A block that holds the places of labels. -/
def PlAt (w : World) (b : Nat) (ls : List (List UInt8)) : Prop :=
  w.cell? ⟨b, 128, none⟩ = some (.int .i64 (ls.length : Int)) ∧ ∀ i, i ≤ ls.length → w.cell? ⟨b, i, none⟩ = some (.int .u8 (pos ls i : Nat))

set_option maxRecDepth 20000 in
set_option maxHeartbeats 1000000 in
theorem plLast_any (s t : ByteArray) (w : World) (b n k P : Nat) (hk : k ≤ n) (hn : n ≤ 127) (hc : w.cell? ⟨b, 128, none⟩ = some (.int .i64 (n : Int)))
    (hp : w.cell? ⟨b, n - k, none⟩ = some (.int .u8 (P : Int))) (hP : P ≤ s.size) (ht : t = s.extract P s.size) :
    Calls Try.prog 73 #[.pointer (some ⟨b, 0, none⟩), .string s, .int .i64 (k : Int)] w fun e w' => e = .returned (.string t) ∧ ∃ m, w' = w.drewN m := by
  have hcut : ∀ u : World, (Instr.slice 9 (.string s) (some (.int .u8 (P : Int))) none none).run Try.prog u = .ok (.string t) u := fun u => by
    have := run_slice_string_l (P := Try.prog) (w := u) (t := 9) (s := s) Try.underlying9 .u8 (P : Int) (by omega) (by omega)
    rw [this, ht]; rfl
  obtain ⟨j, hj⟩ : ∃ j, j = n - k := ⟨_, rfl⟩
  rw [← hj] at hp
  have hjn : (n : Int) - (k : Int) = (j : Int) := by omega
  have hj2 : (j : Int) < 128 := by omega
  clear ht hj
  go_enter Try.func73, Try.ntmps73
  go_wp2
  go_quiet (fail)
  go_wp2
  go_ret
  exact ⟨rfl, _, rfl⟩

set_option maxRecDepth 20000 in
set_option maxHeartbeats 1000000 in
theorem plLabel_any (s t : ByteArray) (w : World) (b n k P Q : Nat) (hk1 : 1 ≤ k) (hk : k ≤ n) (hn : n ≤ 127) (hc : w.cell? ⟨b, 128, none⟩ = some (.int .i64 (n : Int)))
    (hp : w.cell? ⟨b, n - k, none⟩ = some (.int .u8 (P : Int))) (hq : w.cell? ⟨b, n - k + 1, none⟩ = some (.int .u8 (Q : Int))) (hPQ : P + 1 ≤ Q) (hQ : Q ≤ s.size) (hQ2 : Q ≤ 255) (ht : t = s.extract (P + 1) Q) :
    Calls Try.prog 65 #[.pointer (some ⟨b, 0, none⟩), .string s, .int .i64 (k : Int)] w fun e w' => e = .returned (.string t) ∧ ∃ m, w' = w.drewN m := by
  have hcut : ∀ u : World, (Instr.slice 9 (.string s) (some (.int .u8 ((P : Int) + 1))) (some (.int .u8 (Q : Int))) none).run Try.prog u = .ok (.string t) u := fun u => by
    have := run_slice_string (P := Try.prog) u 9 s .u8 .u8 ((P : Int) + 1) (Q : Int) Try.underlying9 (by omega) (by omega) (by omega)
    rw [this, ht]; rfl
  obtain ⟨j, hj⟩ : ∃ j, j = n - k := ⟨_, rfl⟩
  rw [← hj] at hp hq
  have hjn : (n : Int) - (k : Int) = (j : Int) := by omega
  have hj2 : (j : Int) < 128 := by omega
  have hj3 : (j : Int) + 1 < 128 := by omega
  clear ht hj
  go_enter Try.func65, Try.ntmps65
  go_wp2
  go_quiet (fail)
  go_wp2
  go_ret
  exact ⟨rfl, _, rfl⟩

end Go.Proofs.Ytnjgdfmldjgloaa

/- What gather gives: the places of a name's labels. -/
namespace Go.Proofs.Ytnjgdfmldjgloaa
open Go.RowKit
open Pl

/-- The cells of places ahead of the walk. -/
def Z47 : Array Value := Array.replicate 128 (.int .u8 0) ++ #[.int .i64 0]
theorem info47 : (Try.prog.info? 110).map (fun i => (i.zero, i.size)) = some (some (.agg Z47), 129) := by kernel_rfl

/-- The cells of places when c labels are behind. -/
def Fill (ls : List (List UInt8)) (c : Nat) (C : Array Value) : Prop :=
  C.size = 129 ∧ C[128]? = some (.int .i64 (c : Int)) ∧ (∀ i, i ≤ c → C[i]? = some (.int .u8 (pos ls i : Nat))) ∧ C.all (·.oneCell') = true

theorem fill_start (ls : List (List UInt8)) : Fill ls 0 Z47 := by
  refine ⟨by kernel_rfl, by kernel_rfl, fun i hi => ?_, by kernel_rfl⟩
  obtain rfl : i = 0 := by omega
  rw [pos_zero]
  kernel_rfl

theorem all_set {C : Array Value} (h : C.all (·.oneCell') = true) (i : Nat) (v : Value) (hv : v.oneCell' = true) : (C.setIfInBounds i v).all (·.oneCell') = true := by
  rw [Array.all_eq_true] at h ⊢
  intro j hj
  rw [Array.getElem_setIfInBounds]
  split
  · exact hv
  · exact h j (by simpa using hj)

theorem fill_next {ls : List (List UInt8)} {c : Nat} {C : Array Value} (h : Fill ls c C) (hc : c < 127) : Fill ls (c + 1) ((C.setIfInBounds 128 (.int .i64 ((c : Int) + 1))).setIfInBounds (c + 1) (.int .u8 (pos ls (c + 1) : Nat))) := by
  obtain ⟨h1, h2, h3, h4⟩ := h
  refine ⟨by simp [h1], ?_, fun i hi => ?_, all_set (all_set h4 _ _ rfl) _ _ rfl⟩
  · rw [Array.getElem?_setIfInBounds_ne (by omega), Array.getElem?_setIfInBounds_self_of_lt (by omega)]
    simp
  · by_cases e : i = c + 1
    · subst e
      rw [Array.getElem?_setIfInBounds_self_of_lt (by simp [h1]; omega)]
    · rw [Array.getElem?_setIfInBounds_ne (by omega), Array.getElem?_setIfInBounds_ne (by omega)]
      exact h3 i (by omega)

/-- How many labels a name may have. -/
theorem labs_few {ls : List (List UInt8)} (h : GoodL ls) : 2 * ls.length + 1 ≤ (enc ls).length := by
  induction ls with
  | nil => simp [enc]
  | cons x ls ih =>
    have h1 := h.head
    have h2 := ih h.tail
    rw [enc_cons]
    simp
    omega

theorem load_pl {w : World} {g : Nat} {C : Array Value} (hg : w.heap[g]? = some (.cells C 110 (0, 0))) (hC : C.size = 129) : (Instr.loadAt 110 (.pointer (some ⟨g, 0, none⟩))).run Try.prog w = .ok (.agg C) w := by
  simp only [Instr.loadAt, Instr.sureAddr, Sem.run_bind, Sem.run_pure, Result.andThen]
  exact run_loadVar_row _ _ 110 110 C (0, 0) _ hg Try.underlying110 rfl (by rw [hC]; exact (zero_of_info info47).2)
theorem store_pl {w : World} {g : Nat} {Z C : Array Value} (hg : w.heap[g]? = some (.cells Z 110 (0, 0))) (hZ : Z.size = 129) (hC : C.size = 129) (h1 : C.all (·.oneCell') = true) : (Instr.storeAt 110 (.pointer (some ⟨g, 0, none⟩)) (.agg C)).run Try.prog w = .ok () (w.setRow g C) := by
  simp only [Instr.storeAt, Instr.sureAddr, Sem.run_bind, Sem.run_pure, Result.andThen]
  exact run_storeVar_row _ _ 110 110 Z C hg (by rw [hC]; exact (zero_of_info info47).2) (by omega) h1

theorem results_cell {fn : Func} {p : Tmp} {ty : TypeId} (h : fn.results = #[.cell p ty]) (tmps : Array Value) (P : Program) (w : World) :
    (results fn tmps).run P w = ((asAddr (tmps.getD p undef)).run P w).andThen fun a w1 => (loadVar ty a).run P w1 := by
  simp only [results, h]
  simp [Sem.run_bind, Result.andThen]

/-- All the places out of their block. -/
theorem wpList_loadPl (w : World) {ops : Array Oper} {rest : List Oper} {o : Oper} {a : Act} {Q : Exit → Act → World → Prop} (hgd : o.guard = none) (x : Operand)
    (ho : o.op = .load 110 x) (g : Nat) (C : Array Value) (hx : a.eval x = .pointer (some ⟨g, 0, none⟩)) (hg : w.heap[g]? = some (.cells C 110 (0, 0))) (hC : C.size = 129)
    (h : wpList Try.prog ops Q rest (a.put o.dst (.agg C)) w) : wpList Try.prog ops Q (o :: rest) a w := by
  refine wpList_plain hgd fun K hK => ?_
  have hr := load_pl hg hC
  unfold Oper.wp execOp
  simp only [ho, hx, Sem.run_bind, hr, Result.andThen_ok, Sem.run_pure]
  exact hK _ _ h

/-- All the places into a block. -/
theorem wpList_storePl (w : World) {ops : Array Oper} {rest : List Oper} {o : Oper} {a : Act} {Q : Exit → Act → World → Prop} (hgd : o.guard = none) (x y : Operand)
    (ho : o.op = .store 110 x y) (g : Nat) (Z C : Array Value) (hx : a.eval x = .pointer (some ⟨g, 0, none⟩)) (hy : a.eval y = .agg C) (hg : w.heap[g]? = some (.cells Z 110 (0, 0))) (hZ : Z.size = 129) (hC : C.size = 129) (h1 : C.all (·.oneCell') = true)
    (h : ∀ w', w'.heap[g]? = some (.cells C 110 (0, 0)) → w.grownBy w' (some g) → w'.heap.size = w.heap.size → wpList Try.prog ops Q rest (a.put o.dst undef) w') : wpList Try.prog ops Q (o :: rest) a w := by
  refine wpList_plain hgd fun K hK => ?_
  have hr := store_pl hg hZ hC h1
  unfold Oper.wp execOp
  simp only [ho, hx, hy, Sem.run_bind, hr, Result.andThen_ok, Sem.run_pure]
  exact hK _ _ (h _ (setRow_heap _ _ Z _ 110 (0, 0) hg) ⟨rfl, rfl, rfl, by simp, fun k _ hne => setRow_other _ _ _ _ (fun e => hne (by rw [e]))⟩ (by simp))

set_option maxRecDepth 20000 in
set_option maxHeartbeats 1000000 in
theorem gather_any (s : ByteArray) (w : World) (h : isName s.data.toList = true) :
    Calls Try.prog 63 #[.string s] w fun e w' => ∃ C : Array Value, e = .returned (.agg C) ∧ Below w.heap.size w w' ∧ Fill (labs s.data.toList) (labs s.data.toList).length C := by
  obtain ⟨e1, e2, e3, e4⟩ := enc_of h
  have hfew := labs_few e2
  rw [← e1] at hfew
  have hl := data_len s
  obtain ⟨ls, hls⟩ : ∃ ls, ls = labs s.data.toList := ⟨_, rfl⟩
  rw [← hls] at e1 e2 e3 hfew ⊢
  obtain ⟨hz, hsz⟩ := zero_of_info info47
  have HSZ : Hid ((Try.prog.info? 110).map (·.size) = some 129) := hsz
  obtain ⟨Z, hZ⟩ : ∃ Z, Z = Z47 := ⟨_, rfl⟩
  rw [← hZ] at hz
  have HZ : Hid (Z = Z47) := hZ
  have HE : Hid (s.data.toList = enc ls) := e1
  have HG : Hid (GoodL ls) := e2
  have hn : ls.length ≤ 127 := by omega
  have hs : s.size ≤ 255 := by omega
  clear hZ hsz e1 e2 e3 e4 hls hfew h
  go_enter Try.func63, Try.ntmps63
  go_wp2
  go_loopw [4] (fun i wr => ∃ (c P : Nat) (C : Array Value), c ≤ ls.length ∧ P < s.size ∧ i = .int .i64 P ∧ wr = (w.alloc (.cells Z 110)).alloc (.cells C 110) ∧ Hid (P = pos ls c) ∧ Hid (Fill ls c C)) (fun i _ => s.size - (intOf i).toNat)
  case atStart => exact ⟨0, 0, Z, Nat.zero_le _, by have := pos_lt ls 0; rw [← HE.out, pos_zero] at this; omega, rfl, rfl, (pos_zero ls).symm, by unfold Hid; rw [HZ.out]; exact fill_start ls⟩
  case round =>
    obtain ⟨c, P, C, hc, hPs, rfl, rfl, hP, hF⟩ := hrel
    have hPl : P < s.data.toList.length := by omega
    by_cases hcl : c < ls.length
    · have hat : s[P].toNat = ls[c].length := by
        have h1 := pos_at ls c hcl
        rw [← len_byte (HG.out ls[c] (List.getElem_mem _)).2, ← h1]
        congr 1
        have h2 := HE.out
        have h3 := hP.out
        subst h3
        show s.data.toList[pos ls c] = _
        congr 1
      have h1 := HG.out ls[c] (List.getElem_mem _)
      have hnz : ((s[P].toNat : Int) != 0) = true := by simp; omega
      have h63 : s[P].toNat ≤ 63 := by omega
      have hnext : P + (1 + s[P].toNat) = pos ls (c + 1) := by rw [pos_succ ls c hcl, ← hP.out, hat]; omega
      have hlt : P + (1 + s[P].toNat) < s.size := by have := pos_lt ls (c + 1); rw [← HE.out] at this; omega
      have hcell : ((w.alloc (.cells Z 110)).alloc (.cells C 110)).cell? ⟨w.heap.size + 1, 128, none⟩ = some (.int .i64 (c : Int)) := by
        have := World.cell?_alloc_mark (w.alloc (.cells Z 110)) C 110 (0, 0) 128
        rw [hF.out.2.1] at this
        simpa using this
      have hcell2 : ((w.alloc (.cells Z 110)).alloc (.cells (C.setIfInBounds 128 (.int .i64 ((c : Int) + 1))) 110)).cell? ⟨w.heap.size + 1, 128, none⟩ = some (.int .i64 ((c : Int) + 1)) := by
        have := World.cell?_alloc_mark (w.alloc (.cells Z 110)) (C.setIfInBounds 128 (.int .i64 ((c : Int) + 1))) 110 (0, 0) 128
        rw [Array.getElem?_setIfInBounds_self_of_lt (by rw [hF.out.1]; omega)] at this
        simpa using this
      obtain ⟨x, hx⟩ : ∃ x, (C.setIfInBounds 128 (.int .i64 ((c : Int) + 1)))[c + 1]? = some x := ⟨_, Array.getElem?_eq_getElem (by simp [hF.out.1]; omega)⟩
      have HF2 : Hid (Fill ls (c + 1) ((C.setIfInBounds 128 (.int .i64 ((c : Int) + 1))).setIfInBounds (c + 1) (.int .u8 ((P : Int) + (1 + (s[P].toNat : Int)))))) := by
        have := fill_next hF.out (by omega : c < 127)
        rw [← hnext] at this
        unfold Hid
        simpa using this
      have HN : Hid (P + (1 + s[P].toNat) = pos ls (c + 1)) := hnext
      clear hnext hat h1
      go_wp2
      go_roundw
      case rel => exact ⟨c + 1, P + (1 + s[P].toNat), _, by omega, hlt, by go_num, rfl, HN, HF2⟩
      case measure => simp [intOf]; omega
    · have hat : s[P].toNat = 0 := by
        have h1 := pos_end ls c (by omega)
        have h2 := HE.out
        have h3 := hP.out
        subst h3
        have h4 : s[pos ls c] = 0 := by
          rw [← h1]
          show s.data.toList[pos ls c] = _
          congr 1
        rw [h4]; rfl
      have hnz : ((s[P].toNat : Int) != 0) = false := by simp [hat]
      have hce : c = ls.length := by omega
      have HF : Hid (Fill ls ls.length C) := by rw [← hce]; exact hF
      have hg1 : ((w.alloc (.cells Z 110)).alloc (.cells C 110)).heap[w.heap.size + 1]? = some (.cells C 110 (0, 0)) := by
        have := heap_alloc_last (w.alloc (.cells Z 110)) (.cells C 110)
        simpa using this
      have hg0 : ((w.alloc (.cells Z 110)).alloc (.cells C 110)).heap[w.heap.size]? = some (.cells Z 110 (0, 0)) := by
        rw [Below.heap_alloc (w.alloc (.cells Z 110)) _ w.heap.size (by simp)]
        exact heap_alloc_last w _
      have hZs : Z.size = 129 := by rw [HZ.out]; exact (fill_start ls).1
      clear hat
      have hb1 : Below w.heap.size w ((w.alloc (.cells Z 110)).alloc (.cells C 110)) := lay (lay (Below.refl _ _) _) _
      go_wp2_with (first
        | (refine wpList_loadPl _ rfl (.tmp 3) rfl _ C rfl hg1 HF.out.1 ?_)
        | (refine wpList_storePl _ rfl (.tmp 2) (.tmp 26) rfl _ Z C rfl rfl hg0 hZs HF.out.1 HF.out.2.2.2 ?_; intro w3 h1 h2 h3))
      have hbel : Below w.heap.size w w3 := hb1.trans ⟨h2.os, h2.tape, h2.output, h2.size, fun k hk => h2.block k (by simp; omega) (by intro e; have := Option.some.inj e; omega)⟩
      have hld2 : (loadVar 110 ⟨w.heap.size, 0, none⟩).run Try.prog w3 = .ok (.agg C) w3 :=
        run_loadVar_row _ _ 110 110 C (0, 0) _ h1 Try.underlying110 rfl (by rw [HF.out.1]; exact (zero_of_info info47).2)
      refine bodyPost_ret (v := .agg C) ?_ rfl ⟨C, rfl, hbel, HF.out⟩
      rw [results_cell rfl]
      exact hld2

end Go.Proofs.Ytnjgdfmldjgloaa

/- What Clone of the library gives: the same bytes; then Parent of package rel. -/
namespace Go.Proofs.Ytnjgdfmldjgloaa
open Go.RowKit
open Pl

theorem below_drew {w w' : World} (h : ∃ m, w' = w.drewN m) : Below w.heap.size w w' := by
  obtain ⟨m, rfl⟩ := h
  exact ⟨rfl, rfl, rfl, Nat.le_refl _, fun _ _ => rfl⟩

/-- The world behind a copy of bytes. -/
theorem clone_steps (s : ByteArray) (w : World) (h0 : s.size ≠ 0) (h1 : s.size ≤ 140737488355328) : ∃ (wa wb wc : World),
    (∀ u : World, u = w → (Instr.makeSlice 53 (.int .i64 (s.size : Int)) (.int .i64 (s.size : Int))).run Try.prog u = .ok (.slice (some ⟨w.heap.size, 0, none⟩) s.size s.size) wa) ∧
    (Builtin.copy_ #[53, 9] 3 #[.slice (some ⟨w.heap.size, 0, none⟩) s.size s.size, .string s]).run Try.prog wa = .ok (goInt s.size) wb ∧
    (Builtin.unsafeString_ #[125, 3] 9 #[.pointer (some ⟨w.heap.size, 0, none⟩), .int .i64 (s.size : Int)]).run Try.prog wb = .ok (.string s) wc ∧ Below w.heap.size w wc := by
  obtain ⟨i0, hi, hz0, hz1, hz2⟩ := info_parts info5
  have hone : (Try.prog.info? 5).map (·.size) = some 1 := by rw [hi]; simp [hz1]
  have hco : Try.prog.cellsOf 5 = 1 := by simp [Program.cellsOf, hi, hz1]
  have hmk := run_make (P := Try.prog) w 53 5 i0 (.int .u8 0) Try.underlying53 hi hz0 .i64 .i64 (s.size : Int) (s.size : Int) (by omega) (by omega) (by rw [hz2]; omega) (by omega)
  obtain ⟨M, hM⟩ : ∃ M, M = madeCells (Value.int .u8 0).cells (((s.size : Nat) : Int).toNat * i0.size) := ⟨_, rfl⟩
  have hMs : M.size = s.size := by rw [hM, size_madeCells, hz1]; simp
  rw [← hM] at hmk
  have hcp := Lib.run_copy_row_string (P := Try.prog) (w.alloc (.cells M 5)) 53 9 3 5 w.heap.size 0 s.size s.size s M 5 Try.underlying53 hone (heap_alloc_new w _) (Nat.le_refl _) (by omega)
  obtain ⟨Y, hY⟩ : ∃ Y, Y = (M.toList.take 0 ++ Lib.byteCells s.data.toList ++ M.toList.drop (0 + s.size)).toArray := ⟨_, rfl⟩
  rw [← hY] at hcp
  have hYl : Y.toList = Lib.byteCells s.data.toList := by
    rw [hY]
    simp [List.drop_of_length_le, hMs]
  have hYs : Y.size = s.size := by rw [← Array.length_toList, hYl, Lib.byteCells_length, data_len]
  have hgY : ((w.alloc (.cells M 5)).setRow w.heap.size Y).heap[w.heap.size]? = some (.cells Y 5 (0, 0)) := setRow_heap _ _ M _ 5 (0, 0) (heap_alloc_new w _)
  have hne : s.data.toList ≠ [] := fun e => h0 (by rw [← data_len, e]; rfl)
  have hus := Lib.run_unsafeString_row (P := Try.prog) ((w.alloc (.cells M 5)).setRow w.heap.size Y) 125 3 9 5 Try.underlying125 hco w.heap.size Y.size (by unfold World.shape?; rw [hgY]) s.data.toList hne (by rw [data_len]; omega) (by rw [data_len]; omega)
    (fun j x hx => Lib.cells_of_row hgY Y.size j _ (by rw [List.take_of_length_le (by rw [Array.length_toList]; exact Nat.le_refl _), hYl]; simp [Lib.byteCells, hx]))
  rw [data_len] at hus
  refine ⟨_, _, _, fun u hu => by rw [hu]; simpa using hmk, hcp, hus, ?_⟩
  have hb1 : Below w.heap.size w (w.alloc (.cells M 5)) := lay (Below.refl _ _) _
  have hb2 : Below w.heap.size (w.alloc (.cells M 5)) ((w.alloc (.cells M 5)).setRow w.heap.size Y) := ⟨rfl, rfl, rfl, by simp, fun k hk => setRow_other _ _ _ _ (by omega)⟩
  exact Lib.below_freeze (hb1.trans hb2) (p := ⟨w.heap.size, 0, none⟩) (Nat.le_refl _) _

set_option maxRecDepth 20000 in
theorem liteClone_any (s : ByteArray) (w : World) (h1 : s.size ≤ 140737488355328) :
    Calls Try.prog 71 #[.string s] w fun e w' => e = .returned (.string s) ∧ Below w.heap.size w w' := by
  by_cases h0 : s.size = 0
  · have hs : s = ⟨#[]⟩ := by
      apply ByteArray.ext
      exact Array.eq_empty_of_size_eq_zero h0
    subst hs
    go_enter Try.func71, Try.ntmps71
    go_wp2
    go_ret
    exact ⟨rfl, Below.refl _ _⟩
  · obtain ⟨wa, wb, wc, hmk0, hcp, hus, hbel⟩ := clone_steps s w h0 h1
    have hmk := hmk0 w rfl
    clear hmk0
    have h00 : ((s.size : Int) == 0) = false := by rw [beq_eq_false_iff_ne]; omega
    have h02 : (0 : Int) < (s.size : Int) := by omega
    go_enter Try.func71, Try.ntmps71
    go_wp2
    go_ret
    exact ⟨rfl, hbel⟩

theorem clone_far (s : ByteArray) (w : World) (h1 : s.size ≤ 140737488355328) :
    Calls Try.prog 57 #[.string s] w fun e w' => e = .returned (.string s) ∧ Below w.heap.size w w' := by
  go_enter Try.func57, Try.ntmps57
  go_wp2_with (go_at_call 71; refine (liteClone_any _ _ h1).mono ?_; rintro e w1 ⟨rfl, hb1⟩)
  go_ret
  exact ⟨rfl, hb1⟩
theorem clone_any (s : ByteArray) (w : World) (h1 : s.size ≤ 1000000) :
    Calls Try.prog 57 #[.string s] w fun e w' => e = .returned (.string s) ∧ Below w.heap.size w w' := clone_far s w (by omega)

end Go.Proofs.Ytnjgdfmldjgloaa

/- What U16, U32, Put16 and Put32 of package octet give, for every argument. -/
namespace Go.Proofs.Ytnjgdfmldjgloaa
open Go.RowKit

/-- The byte of a number that stands at d, a power of 256. -/
def oct (x d : Int) : UInt8 := UInt8.ofNat (x / d % 256).toNat
theorem oct_nat (x d : Int) : ((oct x d).toNat : Int) = x / d % 256 := by
  unfold oct
  have h0 : 0 ≤ x / d % 256 := Int.emod_nonneg _ (by decide)
  have h1 : x / d % 256 < 256 := Int.emod_lt_of_pos _ (by decide)
  rw [UInt8.toNat_ofNat']
  omega

/-- The number of two bytes, of four. -/
def two (a b : UInt8) : Int := 256 * (a.toNat : Int) + (b.toNat : Int)
def four (a b c d : UInt8) : Int := 65536 * two a b + two c d
/-- A number as two bytes, as four. -/
def be2 (x : Int) : ByteArray := ⟨#[oct x 256, oct x 1]⟩
def be4 (x : Int) : ByteArray := ⟨#[oct x 16777216, oct x 65536, oct x 256, oct x 1]⟩

theorem two_be (x : Int) : two (oct x 256) (oct x 1) = x % 65536 := by
  unfold two; rw [oct_nat, oct_nat]; omega
theorem four_be (x : Int) : four (oct x 16777216) (oct x 65536) (oct x 256) (oct x 1) = x % 4294967296 := by
  unfold four two; rw [oct_nat, oct_nat, oct_nat, oct_nat]; omega
theorem two_lt (a b : UInt8) : 0 ≤ two a b ∧ two a b < 65536 := by
  unfold two; have := a.toNat_lt; have := b.toNat_lt; omega


theorem or8 (a b : Nat) (ha : a < 256) (hb : b < 256) : bits .or .u16 ((a : Int) * 256) (b : Int) = 256 * (a : Int) + (b : Int) := by
  have e : ((a : Int) * 256) = ((a * 2 ^ 8 : Nat) : Int) := by omega
  rw [e, u16_or_nat _ _ (by omega) (by omega), Nat.mul_comm, ← Nat.two_pow_add_eq_or_of_lt (by omega)]
  omega
theorem or16 (a b : Nat) (ha : a < 65536) (hb : b < 65536) : bits .or .u32 ((a : Int) * 65536) (b : Int) = 65536 * (a : Int) + (b : Int) := by
  have e : ((a : Int) * 65536) = ((a * 2 ^ 16 : Nat) : Int) := by omega
  rw [e, u32_or_nat _ _ (by omega) (by omega), Nat.mul_comm, ← Nat.two_pow_add_eq_or_of_lt (by omega)]
  omega






theorem ext_at (s : ByteArray) (k j : Nat) (h : k + j < s.size) : (s.extract k s.size)[j]'(by simp; omega) = s[k + j] := by
  show (s.extract k s.size).data[j]'(by have : j < (s.extract k s.size).size := by simp; omega
                                        exact this) = s.data[k + j]'h
  simp only [ByteArray.data_extract, Array.getElem_extract]






theorem cut_from (s : ByteArray) (k : Nat) (h : k ≤ s.size) (u : World) : (Instr.slice 9 (.string s) (some (.int .i64 (k : Int))) none none).run Try.prog u = .ok (.string (s.extract k s.size)) u := by
  have := run_slice_string_l (P := Try.prog) (w := u) (t := 9) (s := s) Try.underlying9 .i64 (k : Int) (by omega) (by omega)
  rw [this]; rfl





end Go.Proofs.Ytnjgdfmldjgloaa

/- What awake gives: true. -/
namespace Go.Proofs.Ytnjgdfmldjgloaa
open Go.RowKit



end Go.Proofs.Ytnjgdfmldjgloaa

/- U16 and U32 at a place where a number was put; masks. -/
namespace Go.Proofs.Ytnjgdfmldjgloaa
open Go.RowKit

theorem app_list (a b : ByteArray) : (a ++ b).data.toList = a.data.toList ++ b.data.toList := by simp

theorem drop_get {s : ByteArray} {k : Nat} {l : List UInt8} (h : s.data.toList.drop k = l) (j : Nat) (hj : j < l.length) : ∃ h2 : k + j < s.size, s[k + j] = l[j] := by
  have h1 : l.length = s.size - k := by rw [← h, List.length_drop, data_len]
  have h2 : k + j < s.size := by omega
  refine ⟨h2, ?_⟩
  subst h
  rw [List.getElem_drop]
  rfl



theorem mask (n : Int) (j : Nat) (hj : j ≤ 62) : bits .and .i64 n (((2 ^ j - 1 : Nat)) : Int) = n % ((2 ^ j : Nat) : Int) := by
  have h2 : 2 ^ j ≤ 2 ^ 62 := Nat.pow_le_pow_right (by decide) hj
  have h1 : 1 ≤ 2 ^ j := Nat.one_le_two_pow
  have h3 : (BitVec.ofInt 64 (((2 ^ j - 1 : Nat)) : Int)).toNat = 2 ^ j - 1 := by
    rw [BitVec.ofInt_natCast, BitVec.toNat_ofNat]; exact Nat.mod_eq_of_lt (by omega)
  have key : (BitVec.ofInt 64 n &&& BitVec.ofInt 64 (((2 ^ j - 1 : Nat)) : Int)).toNat = (n % ((2 ^ 64 : Nat) : Int)).toNat % 2 ^ j := by
    rw [BitVec.toNat_and, BitVec.toNat_ofInt, h3, Nat.and_two_pow_sub_one_eq_mod]
  show IntKind.i64.wrap ((BitVec.ofInt 64 n &&& BitVec.ofInt 64 (((2 ^ j - 1 : Nat)) : Int)).toNat : Nat) = _
  have hl : (n % ((2 ^ 64 : Nat) : Int)).toNat % 2 ^ j < 2 ^ j := Nat.mod_lt _ h1
  rw [key, IntKind.wrap_i64]
  have e1 : (((n % ((2 ^ 64 : Nat) : Int)).toNat % 2 ^ j : Nat) : Int) = n % ((2 ^ j : Nat) : Int) := by
    rw [Int.natCast_emod, Int.toNat_of_nonneg (Int.emod_nonneg _ (by decide))]
    exact Int.emod_emod_of_dvd _ (Int.natCast_dvd_natCast.2 (Nat.pow_dvd_pow 2 (by omega)))
  omega
theorem mask16 (n : Int) : bits .and .i64 n 65535 = n % 65536 := mask n 16 (by decide)
theorem mask32 (n : Int) : bits .and .i64 n 4294967295 = n % 4294967296 := mask n 32 (by decide)
theorem mask1 (n : Int) : bits .and .i64 n 1 = n % 2 := mask n 1 (by decide)

end Go.Proofs.Ytnjgdfmldjgloaa

/- What the document's Num and Be give. -/
namespace Go.Proofs.Ytnjgdfmldjgloaa
open Go.RowKit

/-- The number of n bytes from k on. -/
def val (s : ByteArray) (k : Nat) : Nat → Int
  | 0 => 0
  | i + 1 => val s k i * 256 + ((s.data.toList.getD (k + i) 0).toNat : Int)
theorem val_lt (s : ByteArray) (k : Nat) : ∀ i, 0 ≤ val s k i ∧ val s k i < 256 ^ i := by
  intro i
  induction i with
  | zero => simp [val]
  | succ i ih =>
    have := (s.data.toList.getD (k + i) 0).toNat_lt
    unfold val
    rw [Int.pow_succ]
    omega
theorem val_getD (s : ByteArray) (k : Nat) (h : k < s.size) : s.data.toList.getD k 0 = s[k] := by
  rw [List.getD_eq_getElem?_getD, List.getElem?_eq_getElem (by rw [data_len]; exact h)]
  rfl
theorem val_two (s : ByteArray) (k : Nat) (h : k + 2 ≤ s.size) : val s k 2 = two s[k] s[k + 1] := by
  unfold val val val two
  rw [val_getD s _ (by omega), val_getD s _ (by omega)]
  simp only [Nat.add_zero]
  omega
theorem val_four (s : ByteArray) (k : Nat) (h : k + 4 ≤ s.size) : val s k 4 = four s[k] s[k + 1] s[k + 2] s[k + 3] := by
  unfold val val val val val four two
  rw [val_getD s _ (by omega), val_getD s _ (by omega), val_getD s _ (by omega), val_getD s _ (by omega)]
  simp only [Nat.add_zero]
  omega

theorem wraps_i64 (n : Int) (h₀ : 0 ≤ n) (h₁ : n < 2 ^ 62) : IntKind.i64.wrap n = n := by rw [IntKind.wrap_i64]; omega



end Go.Proofs.Ytnjgdfmldjgloaa

/- What the document's Be gives. -/
namespace Go.Proofs.Ytnjgdfmldjgloaa
open Go.RowKit


theorem made_zero (n : Nat) : madeCells #[.int .u8 0] n = ((List.replicate n (0 : UInt8)).map bv).toArray := by
  apply Array.ext
  · simp [madeCells]
  · intro i h1 h2
    simp [madeCells, bv, Nat.mod_one]

/-- The last j bytes of a number of n bytes, zeros ahead of them. -/
def beL (x : Int) (n j : Nat) : List UInt8 := (List.range n).map fun p => if n - j ≤ p then oct x (256 ^ (n - 1 - p)) else 0
theorem beL_len (x : Int) (n j : Nat) : (beL x n j).length = n := by simp [beL]
theorem beL_zero (x : Int) (n : Nat) : beL x n 0 = List.replicate n 0 := by
  apply List.ext_getElem (by simp [beL])
  intro i h1 h2
  have : i < n := by simpa [beL] using h1
  simp only [beL, List.getElem_map, List.getElem_range, List.getElem_replicate]
  rw [if_neg (by omega)]
theorem beL_set (x : Int) (n j q : Nat) (h : q + 1 + j = n) : (beL x n j).set q (oct x (256 ^ j)) = beL x n (j + 1) := by
  apply List.ext_getElem (by simp [beL])
  intro i h1 h2
  have hi : i < n := by simpa [beL] using h2
  rw [List.getElem_set]
  simp only [beL, List.getElem_map, List.getElem_range]
  split
  · rename_i e
    subst e
    rw [if_pos (by omega), show n - 1 - q = j from by omega]
  · by_cases hj : n - j ≤ i
    · rw [if_pos hj, if_pos (by omega)]
    · rw [if_neg hj, if_neg (by omega)]
theorem beL_two (x : Int) : beL x 2 2 = [oct x 256, oct x 1] := by
  simp [beL, List.range_succ]
theorem beL_four (x : Int) : beL x 4 4 = [oct x 16777216, oct x 65536, oct x 256, oct x 1] := by
  simp [beL, List.range_succ]

theorem set_cells (l : List UInt8) (i : Nat) (b : UInt8) : (l.map bv).set i (.int .u8 (b.toNat : Int)) = (l.set i b).map bv := by
  rw [List.map_set]; rfl

theorem wraps_u64 (n : Int) (h₀ : 0 ≤ n) (h₁ : n < 2 ^ 64) : IntKind.u64.wrap n = n := by
  have : IntKind.u64.wrap n = n % 18446744073709551616 := by simp [IntKind.wrap, IntKind.bits, IntKind.signed]
  rw [this]; omega

theorem u64_byte (x u : Int) (j : Nat) (hj : j ≤ 4) (hu : u = x % 18446744073709551616 / 256 ^ j) : bits .and .u64 u 255 = ((oct x (256 ^ j)).toNat : Int) := by
  have hd : j = 0 ∨ j = 1 ∨ j = 2 ∨ j = 3 ∨ j = 4 := by omega
  have h0 : 0 ≤ u ∧ u < 18446744073709551616 := by
    rcases hd with rfl | rfl | rfl | rfl | rfl <;> subst hu <;> omega
  have := bits_mask .u64 64 (by decide) wraps_u64 8 (by decide) u h0.1 (by omega)
  rw [oct_nat]
  have h2 : bits .and .u64 u 255 = u % 256 := by simpa using this
  rw [h2]
  rcases hd with rfl | rfl | rfl | rfl | rfl <;> subst hu <;> omega




end Go.Proofs.Ytnjgdfmldjgloaa

/- Blocks, rows and what calls leave of them, where the seat has no text of package wire's to take them from. -/
namespace Go.Proofs.Ytnjgdfmldjgloaa
open Go.RowKit

/-- A block as it was laid. -/
def Blk (w : World) (g : Nat) (C : Array Value) (t : TypeId) : Prop := w.heap[g]? = some (.cells C t (0, 0))
theorem Blk.cell {w : World} {g : Nat} {C : Array Value} {t : TypeId} (h : Blk w g C t) (i : Nat) : w.cell? ⟨g, i, none⟩ = C[i]? := cell_of_row w g i C t _ h
theorem Blk.frozen {w : World} {g : Nat} {C : Array Value} {t : TypeId} (h : Blk w g C t) (i : Nat) : w.frozen? ⟨g, i, none⟩ = false := by
  unfold Blk at h
  simp only [World.frozen?, h]
  simp
theorem Blk.drew {w w' : World} {g : Nat} {C : Array Value} {t : TypeId} (h : Blk w g C t) (hd : ∃ m, w' = w.drewN m) : Blk w' g C t := by
  obtain ⟨m, rfl⟩ := hd; exact h
theorem Blk.lt {w : World} {g : Nat} {C : Array Value} {t : TypeId} (h : Blk w g C t) : g < w.heap.size := (Array.getElem?_eq_some_iff.1 h).1
theorem Blk.below {w w' : World} {g : Nat} {C : Array Value} {t : TypeId} (h : Blk w g C t) (hb : Below w.heap.size w w') : Blk w' g C t := by
  unfold Blk; rw [hb.block g h.lt]; exact h
theorem Blk.alloc {w : World} {g : Nat} {C : Array Value} {t : TypeId} (h : Blk w g C t) (o : Obj) : Blk (w.alloc o) g C t := h.below ((Below.refl _ _).alloc (Nat.le_refl _) o)
theorem Blk.new (w : World) (C : Array Value) (t : TypeId) : Blk (w.alloc (.cells C t)) w.heap.size C t := heap_alloc_new w _
theorem Blk.set {w : World} {g : Nat} {C : Array Value} {t : TypeId} (h : Blk w g C t) (i : Nat) (v : Value) : Blk (w.setCell ⟨g, i, none⟩ v) g (C.setIfInBounds i v) t := heap_setCell_same w g i C t v h
theorem Blk.other {w : World} {g b : Nat} {C : Array Value} {t : TypeId} (h : Blk w g C t) (hb : g ≠ b) (i : Nat) (v : Value) : Blk (w.setCell ⟨b, i, none⟩ v) g C t := by
  unfold Blk; rw [heap_setCell_other w ⟨b, i, none⟩ g v hb]; exact h
/-- A world in which all that w holds lies as it lay. -/
structure Bel (w : World) where
  to : World
  h : Below w.heap.size w to
/-- A region that draws its order, whose calls lay new blocks alone: one walk, in the order of the text. -/
theorem wp_region_bel {P : Program} {id : Nat} {Q : Exit → Act → World → Prop} {a : Act} {w : World} {l : List Oper} (hm : P.follows .mixedOrders = true) (hB : Region.lexB .any l.toArray = true)
    (h : Nonempty (Bel w) → wpQuiet P l.toArray (fun w' => ∃ n : Bel w, w' = n.to) (fun a' => ∀ w', (∃ n : Bel w, w' = n.to) → Q .normal a' w') l a) : (Code.region id l.toArray true).wp P Q a w :=
  wp_region_quiet (C := fun w' => ∃ n : Bel w, w' = n.to) hm hB ⟨⟨_, below_drew ⟨1, rfl⟩⟩, rfl⟩ (h ⟨⟨w, Below.refl _ _⟩⟩)
theorem bel_same {P : Program} {f : FuncId} {args : Array Value} {w : World} {n : Bel w} {v : Value}
    (h : Calls P f args n.to fun e w' => e = .returned v ∧ w' = n.to) : Calls P f args n.to fun e w'' => e = .returned v ∧ ∃ m : Bel w, w'' = m.to :=
  h.mono fun _ _ ⟨he, hm⟩ => ⟨he, n, hm⟩
theorem bel_lays {P : Program} {f : FuncId} {args : Array Value} {w : World} {n : Bel w} {v : Value}
    (h : Calls P f args n.to fun e w' => e = .returned v ∧ Below n.to.heap.size n.to w') : Calls P f args n.to fun e w'' => e = .returned v ∧ ∃ m : Bel w, w'' = m.to :=
  h.mono fun _ w' ⟨he, hm⟩ => ⟨he, ⟨w', next n.h hm⟩, rfl⟩
theorem bel_out {w w' : World} (h : ∃ n : Bel w, w' = n.to) : Below w.heap.size w w' := by
  obtain ⟨n, rfl⟩ := h; exact n.h
theorem Blk.grown {w w' : World} {g : Nat} {C : Array Value} {t : TypeId} {row : Option Nat} (h : Blk w g C t) (hg : w.grownBy w' row) (hne : some g ≠ row) : Blk w' g C t := by
  unfold Blk; rw [hg.block g h.lt hne]; exact h
/-- All that lay in w lies in w' as it lay, but for the blocks of S. -/
structure Turn (S : Nat → Prop) (w w' : World) : Prop where
  os : w'.os = w.os
  tape : w'.tape = w.tape
  output : w'.output = w.output
  size : w.heap.size ≤ w'.heap.size
  block : ∀ k, k < w.heap.size → ¬ S k → w'.heap[k]? = w.heap[k]?
theorem Turn.refl (S : Nat → Prop) (w : World) : Turn S w w := ⟨rfl, rfl, rfl, Nat.le_refl _, fun _ _ _ => rfl⟩
theorem Turn.of_below {S : Nat → Prop} {w w' : World} (h : Below w.heap.size w w') : Turn S w w' := ⟨h.os, h.tape, h.output, h.size, fun k hk _ => h.block k hk⟩
theorem Turn.of_grown {S : Nat → Prop} {w w' : World} {row : Option Nat} (h : w.grownBy w' row) (hr : ∀ k, row = some k → S k) : Turn S w w' :=
  ⟨h.os, h.tape, h.output, h.size, fun k hk hs => h.block k hk (fun e => hs (hr k e.symm))⟩
theorem Turn.of_set {S : Nat → Prop} (w : World) {p : Addr} (hp : S p.block) (v : Value) : Turn S w (w.setCell p v) :=
  ⟨rfl, rfl, rfl, by simp, fun k _ hs => Below.heap_setCell w p v k (fun e => hs (e ▸ hp))⟩
theorem Turn.trans {S S' : Nat → Prop} {a b c : World} (h : Turn S a b) (k : Turn S' b c) (hs : ∀ i, S' i → S i ∨ a.heap.size ≤ i) : Turn S a c :=
  ⟨k.os.trans h.os, k.tape.trans h.tape, k.output.trans h.output, Nat.le_trans h.size k.size, fun i hi hn =>
    (k.block i (Nat.lt_of_lt_of_le hi h.size) (fun e => (hs i e).elim hn (fun g => by omega))).trans (h.block i hi hn)⟩
theorem Turn.below {S : Nat → Prop} {w a b : World} {B : Nat} (hb : Below B w a) (h : Turn S a b) (hB : B ≤ a.heap.size) (hs : ∀ i, S i → B ≤ i) : Below B w b :=
  ⟨h.os.trans hb.os, h.tape.trans hb.tape, h.output.trans hb.output, Nat.le_trans hb.size h.size, fun k hk => (h.block k (by omega) (fun e => by have := hs k e; omega)).trans (hb.block k hk)⟩
theorem Turn.blk {S : Nat → Prop} {w w' : World} {g : Nat} {C : Array Value} {t : TypeId} (h : Turn S w w') (hb : Blk w g C t) (hs : ¬ S g) : Blk w' g C t := by
  unfold Blk; rw [h.block g hb.lt hs]; exact hb
theorem Turn.row {S : Nat → Prop} {w w' : World} {base e z n : Nat} {v : Value} {xs : List Value} (h : Turn S w w') (ho : w.ownsRow base e z v n xs) (hs : ∀ k, v.ownBlock = some k → ¬ S k) : w'.ownsRow base e z v n xs := by
  refine ⟨ho.1, ?_⟩
  rcases ho.2 with h0 | ⟨g, cap, cur, rfl, hb, hg, rest⟩
  · exact .inl h0
  · have hlt := (Array.getElem?_eq_some_iff.1 hg).1
    exact .inr ⟨g, cap, cur, rfl, hb, by rw [h.block g hlt (hs g rfl)]; exact hg, rest⟩
theorem Turn.alloc {S : Nat → Prop} {w a : World} (h : Turn S w a) (o : Obj) : Turn S w (a.alloc o) := h.trans (S' := fun _ => False) (Turn.of_below ((Below.refl _ _).alloc (Nat.le_refl _) o)) (fun _ => False.elim)
theorem Turn.past {S : Nat → Prop} {w a b : World} (h : Turn S w a) (hb : Below a.heap.size a b) : Turn S w b := h.trans (S' := fun _ => False) (Turn.of_below hb) (fun _ => False.elim)
theorem Turn.setNew {S : Nat → Prop} {w a : World} (h : Turn S w a) {k : Nat} (hk : w.heap.size ≤ k) (i : Nat) (v : Value) : Turn S w (a.setCell ⟨k, i, none⟩ v) :=
  h.trans (S' := fun j => j = k) (Turn.of_set (S := fun j => j = k) a (p := ⟨k, i, none⟩) rfl v) (fun _ e => .inr (by rw [e]; exact hk))
theorem Turn.same {S : Nat → Prop} {w a b : World} (h : Turn S w a) (k : Turn S a b) : Turn S w b := h.trans k (fun _ e => .inl e)
theorem Turn.more {S S' : Nat → Prop} {w w' : World} (h : Turn S w w') (hs : ∀ k, S k → S' k) : Turn S' w w' := ⟨h.os, h.tape, h.output, h.size, fun k hk hn => h.block k hk (fun e => hn (hs k e))⟩
theorem row_shape {w : World} {base e z n : Nat} {v : Value} {xs : List Value} (h : w.ownsRow base e z v n xs) : ∃ y c, v = .slice y n c := by
  rcases h.2 with ⟨h1, h2⟩ | ⟨g, cap, cur, h1, _⟩
  · exact ⟨none, 0, by rw [h1, h2]⟩
  · exact ⟨_, _, h1⟩
theorem str_list (s : ByteArray) : Lib.strCells s = s.data.toList.map bv := rfl
/-- A question. -/
structure Qn where
  n : ByteArray
  t : Int
  c : Int
/-- A record. -/
structure Rc where
  n : ByteArray
  t : Int
  c : Int
  l : Int
  d : ByteArray
/-- A header. -/
structure Hd where
  id : Int
  qr : Bool
  op : Int
  aa : Bool
  tc : Bool
  rd : Bool
  ra : Bool
  z : Int
  rc : Int
/-- A message. -/
structure Ms where
  h : Hd
  qs : List Qn
  an : List Rc
  ns : List Rc
  ar : List Rc
theorem arr_list (s : ByteArray) : (⟨s.data.toList.toArray⟩ : ByteArray) = s := by cases s; simp
/-- Questions and records as cells. -/
def qV (q : Qn) : List Value := [.string q.n, .int .i64 q.t, .int .i64 q.c]
def rV (r : Rc) : List Value := [.string r.n, .int .i64 r.t, .int .i64 r.c, .int .i64 r.l, .string r.d]
def qC (qs : List Qn) : List Value := qs.flatMap qV
def rC (rs : List Rc) : List Value := rs.flatMap rV
theorem flat_len {α : Type} {f : α → List Value} {z : Nat} (hz : ∀ x, (f x).length = z) (xs : List α) : (xs.flatMap f).length = xs.length * z := by
  induction xs with
  | nil => simp
  | cons x xs ih => rw [List.flatMap_cons, List.length_append, hz, ih, List.length_cons, Nat.succ_mul]; omega
theorem flat_get {α : Type} {f : α → List Value} {z : Nat} (hz : ∀ x, (f x).length = z) : ∀ (xs : List α) (k : Nat) (hk : k < xs.length) (i : Nat), i < z → (xs.flatMap f)[k * z + i]? = (f xs[k])[i]? := by
  intro xs
  induction xs with
  | nil => intro k hk; simp at hk
  | cons x xs ih =>
    intro k hk i hi
    rw [List.flatMap_cons]
    cases k with
    | zero => rw [Nat.zero_mul, Nat.zero_add, List.getElem?_append_left (by rw [hz]; exact hi)]; rfl
    | succ k =>
      rw [List.getElem?_append_right (by rw [hz, Nat.succ_mul]; omega), hz, show (k + 1) * z + i - z = k * z + i from by rw [Nat.succ_mul]; omega]
      exact ih k (by simpa using hk) i hi
theorem qC_len (qs : List Qn) : (qC qs).length = qs.length * 3 := flat_len (f := qV) (z := 3) (fun _ => rfl) qs
theorem rC_len (rs : List Rc) : (rC rs).length = rs.length * 5 := flat_len (f := rV) (z := 5) (fun _ => rfl) rs
theorem qC_app (a b : List Qn) : qC (a ++ b) = qC a ++ qC b := by simp [qC]
theorem rC_app (a b : List Rc) : rC (a ++ b) = rC a ++ rC b := by simp [rC]
theorem qC_one (a : List Qn) : ∀ u ∈ qC a, u.oneCell' = true := by
  intro u hu
  simp only [qC, List.mem_flatMap] at hu
  obtain ⟨m, _, hu⟩ := hu
  simp [qV] at hu
  rcases hu with rfl | rfl | rfl <;> rfl
theorem rC_one (a : List Rc) : ∀ u ∈ rC a, u.oneCell' = true := by
  intro u hu
  simp only [rC, List.mem_flatMap] at hu
  obtain ⟨m, _, hu⟩ := hu
  simp [rV] at hu
  rcases hu with rfl | rfl | rfl | rfl | rfl <;> rfl
/-- A row that is read: so many elements, their cells. -/
def Row (w : World) (v : Value) (n : Nat) (xs : List Value) : Prop :=
  (v = .slice none 0 0 ∧ n = 0) ∨ ∃ (g o : Nat) (p : Option Nat) (cap : Nat), v = .slice (some ⟨g, o, p⟩) n cap ∧ (0 < n → p = none) ∧ ∀ j u, xs[j]? = some u → w.cell? ⟨g, o + j, none⟩ = some u
theorem Row.below {w w' : World} {v : Value} {n : Nat} {xs : List Value} (h : Row w v n xs) (hb : Below w.heap.size w w') : Row w' v n xs := by
  rcases h with h | ⟨g, o, p, cap, hv, hp, hc⟩
  · exact .inl h
  · exact .inr ⟨g, o, p, cap, hv, hp, fun j u hu => by have h1 := hc j u hu; rw [hb.cell (World.block_lt_of_cell? _ _ h1)]; exact h1⟩
theorem Row.of_own {w : World} {base e z n : Nat} {v : Value} {xs : List Value} (h : w.ownsRow base e z v n xs) : Row w v n xs := by
  rcases h.2 with ⟨h1, h2⟩ | ⟨g, cap, cur, h1, rest⟩
  · exact .inl ⟨h1, h2⟩
  · refine .inr ⟨g, 0, none, cap, h1, fun _ => rfl, fun j u hu => ?_⟩
    have hj : j < n * z := by have := (List.getElem?_eq_some_iff.1 hu).1; rw [← h.1]; exact this
    subst h1
    rw [Nat.zero_add, h.cellAt j hj, hu]
/-- A row of questions, of records: no string is too long. -/
def QRow (w : World) (v : Value) (qs : List Qn) : Prop := Row w v qs.length (qC qs) ∧ qs.length ≤ maxLen ∧ ∀ q ∈ qs, q.n.size ≤ maxLen
def RRow (w : World) (v : Value) (rs : List Rc) : Prop := Row w v rs.length (rC rs) ∧ rs.length ≤ maxLen ∧ ∀ r ∈ rs, r.n.size ≤ maxLen ∧ r.d.size ≤ maxLen
theorem QRow.below {w w' : World} {v : Value} {qs : List Qn} (h : QRow w v qs) (hb : Below w.heap.size w w') : QRow w' v qs := ⟨h.1.below hb, h.2⟩
theorem RRow.below {w w' : World} {v : Value} {rs : List Rc} (h : RRow w v rs) (hb : Below w.heap.size w w') : RRow w' v rs := ⟨h.1.below hb, h.2⟩
theorem row_none {w : World} {v : Value} {xs : List Value} (h : Row w v 0 xs) : ∃ x c, v = .slice x 0 c := by
  rcases h with ⟨h, _⟩ | ⟨g, o, p, cap, h, _⟩
  · exact ⟨_, _, h⟩
  · exact ⟨_, _, h⟩
theorem row_at {w : World} {v : Value} {n : Nat} {xs : List Value} (h : Row w v n xs) (hn : 0 < n) : ∃ g o cap, v = .slice (some ⟨g, o, none⟩) n cap ∧ ∀ j u, xs[j]? = some u → w.cell? ⟨g, o + j, none⟩ = some u := by
  rcases h with ⟨_, h⟩ | ⟨g, o, p, cap, h, hp, hc⟩
  · omega
  · rw [hp hn] at h; exact ⟨g, o, cap, h, hc⟩
theorem row_slice {w : World} {v : Value} {n : Nat} {xs : List Value} (h : Row w v n xs) : ∃ x c, v = .slice x n c := by
  rcases h with ⟨h, rfl⟩ | ⟨g, o, p, cap, h, _⟩
  · exact ⟨_, _, h⟩
  · exact ⟨_, _, h⟩
theorem qC_at {xs : List Qn} {k : Nat} (hk : k < xs.length) (i : Nat) (hi : i < 3) : (qC xs)[k * 3 + i]? = (qV xs[k])[i]? := flat_get (f := qV) (z := 3) (fun _ => rfl) xs k hk i hi
theorem rC_at {xs : List Rc} {k : Nat} (hk : k < xs.length) (i : Nat) (hi : i < 5) : (rC xs)[k * 5 + i]? = (rV xs[k])[i]? := flat_get (f := rV) (z := 5) (fun _ => rfl) xs k hk i hi
/-- The cells of one element. -/
theorem q_cells {w : World} {g o : Nat} {xs : List Qn} (hc : ∀ j u, (qC xs)[j]? = some u → w.cell? ⟨g, o + j, none⟩ = some u) {k : Nat} (hk : k < xs.length) :
    w.cell? ⟨g, o + k * 3, none⟩ = some (.string xs[k].n) ∧ w.cell? ⟨g, o + k * 3 + 1, none⟩ = some (.int .i64 xs[k].t) ∧ w.cell? ⟨g, o + k * 3 + 2, none⟩ = some (.int .i64 xs[k].c) :=
  ⟨hc _ _ (qC_at hk 0 (by decide)), hc _ _ (qC_at hk 1 (by decide)), hc _ _ (qC_at hk 2 (by decide))⟩
theorem r_cells {w : World} {g o : Nat} {xs : List Rc} (hc : ∀ j u, (rC xs)[j]? = some u → w.cell? ⟨g, o + j, none⟩ = some u) {k : Nat} (hk : k < xs.length) :
    w.cell? ⟨g, o + k * 5, none⟩ = some (.string xs[k].n) ∧ w.cell? ⟨g, o + k * 5 + 1, none⟩ = some (.int .i64 xs[k].t) ∧ w.cell? ⟨g, o + k * 5 + 2, none⟩ = some (.int .i64 xs[k].c) ∧ w.cell? ⟨g, o + k * 5 + 3, none⟩ = some (.int .i64 xs[k].l) ∧ w.cell? ⟨g, o + k * 5 + 4, none⟩ = some (.string xs[k].d) :=
  ⟨hc _ _ (rC_at hk 0 (by decide)), hc _ _ (rC_at hk 1 (by decide)), hc _ _ (rC_at hk 2 (by decide)), hc _ _ (rC_at hk 3 (by decide)), hc _ _ (rC_at hk 4 (by decide))⟩
/-- A message as values. -/
def msgC (h : Hd) (v0 v1 v2 v3 : Value) : Array Value := #[.int .i64 h.id, .bool h.qr, .int .i64 h.op, .bool h.aa, .bool h.tc, .bool h.rd, .bool h.ra, .int .i64 h.z, .int .i64 h.rc, v0, v1, v2, v3]
/-- No message. -/
def hdZ : Hd := ⟨0, false, 0, false, false, false, false, 0, 0⟩
def msZ : Ms := ⟨hdZ, [], [], [], []⟩
theorem own_base {w : World} {B B' e z n : Nat} {v : Value} {xs : List Value} (h : w.ownsRow B e z v n xs) (hB : B' ≤ B) : w.ownsRow B' e z v n xs := by
  refine ⟨h.1, ?_⟩
  rcases h.2 with h1 | ⟨g, cap, cur, h1, h2, rest⟩
  · exact .inl h1
  · exact .inr ⟨g, cap, cur, h1, Nat.le_trans hB h2, rest⟩
theorem own_past {w w' : World} {B e z n : Nat} {v : Value} {xs : List Value} (h : w.ownsRow B e z v n xs) (hb : Below w.heap.size w w') : w'.ownsRow B e z v n xs := Turn.row (S := fun _ => False) (Turn.of_below hb) h (fun _ _ => id)
/-- A row that was laid as it is. -/
theorem Row.of_blk {w : World} {g : Nat} {C : Array Value} {t : TypeId} (h : Blk w g C t) {xs : List Value} (hx : C.toList = xs) (n cap : Nat) : Row w (.slice (some ⟨g, 0, none⟩) n cap) n xs := by
  refine .inr ⟨g, 0, none, cap, rfl, fun _ => rfl, fun j u hu => ?_⟩
  rw [Nat.zero_add, h.cell j, ← hu, ← hx]; simp
theorem Row.nil (w : World) (xs : List Value) : Row w (.slice none 0 0) 0 xs := .inl ⟨rfl, rfl⟩
theorem QRow.nil (w : World) : QRow w (.slice none 0 0) [] := ⟨Row.nil _ _, by decide, fun q h => by simp at h⟩
theorem RRow.nil (w : World) : RRow w (.slice none 0 0) [] := ⟨Row.nil _ _, by decide, fun q h => by simp at h⟩
theorem small100 {n : Nat} (h : n ≤ 100000) : n ≤ maxLen := by unfold maxLen; omega
theorem toArr_size (l : List UInt8) : (⟨l.toArray⟩ : ByteArray).size = l.length := by show l.toArray.size = _; simp
/-- Bytes of nought. -/
def zerosB (n : Nat) : ByteArray := ⟨(List.replicate n (0 : UInt8)).toArray⟩
theorem zerosB_size (n : Nat) : (zerosB n).size = n := by unfold zerosB; rw [toArr_size]; simp
/-- The cells at place f of each element are numbers. -/
def Ints (xs : List Value) (z f n : Nat) : Prop := ∀ j, j < n → ∃ t, xs[j * z + f]? = some (.int .i64 t)
theorem Ints.set {xs : List Value} {z f n : Nat} (h : Ints xs z f n) (i : Nat) (x : Int) : Ints (xs.set i (.int .i64 x)) z f n := by
  intro j hj
  obtain ⟨t, ht⟩ := h j hj
  by_cases e : i = j * z + f
  · subst e
    exact ⟨x, List.getElem?_set_self (List.getElem?_eq_some_iff.1 ht).1⟩
  · exact ⟨t, by rw [List.getElem?_set_ne e]; exact ht⟩
theorem own_len {w : World} {B e z n n0 k0 : Nat} {y : Option Addr} {xs : List Value} (h : w.ownsRow B e z (.slice y n0 k0) n xs) : n0 = n := by
  rcases h.2 with ⟨h1, h2⟩ | ⟨g, cap, cur, h1, _⟩
  · simp at h1; omega
  · simp at h1; exact h1.2.1
theorem own_apart {w : World} {B B' e e' z z' n n' : Nat} {v v' : Value} {xs xs' : List Value} (h : w.ownsRow B e z v n xs) (h' : w.ownsRow B' e' z' v' n' xs') (he : e ≠ e') {k : Nat} (hk : v.ownBlock = some k) : v'.ownBlock ≠ some k := by
  intro hk'
  rcases h.2 with ⟨h1, _⟩ | ⟨g, cap, cur, h1, _, hg, _⟩
  · rw [h1] at hk; simp [Value.ownBlock] at hk
  · rcases h'.2 with ⟨h2, _⟩ | ⟨g', cap', cur', h2, _, hg', _⟩
    · rw [h2] at hk'; simp [Value.ownBlock] at hk'
    · rw [h1] at hk
      rw [h2] at hk'
      simp [Value.ownBlock] at hk hk'
      subst hk hk'
      rw [hg] at hg'
      simp at hg'
      exact he hg'.2
theorem ext_list (s : ByteArray) (i j : Nat) : (s.extract i j).data.toList = (s.data.toList.drop i).take (j - i) := by simp [List.extract_eq_take_drop]
theorem ext_to (s : ByteArray) (i : Nat) : (s.extract 0 i).data.toList = s.data.toList.take i := by rw [ext_list]; simp
theorem cut_to (s : ByteArray) (k : Nat) (c : Int) (hc : c = (k : Int)) (h : k ≤ s.size) (u : World) : (Instr.slice 9 (.string s) none (some (.int .i64 c)) none).run Try.prog u = .ok (.string (s.extract 0 k)) u := by
  subst hc
  have := run_slice_string_h (P := Try.prog) (w := u) (t := 9) (s := s) Try.underlying9 .i64 (k : Int) (by omega) (by omega)
  rw [this]; rfl
theorem int_cells : Try.prog.cellsOf 3 = 1 := by kernel_rfl
theorem bool_cells : Try.prog.cellsOf 4 = 1 := by kernel_rfl
/-- What is left where no message is given. -/
theorem blk13 {w : World} {g : Nat} {h : Hd} {v0 v1 v2 v3 : Value} {t : TypeId} (k : Blk w g (msgC h v0 v1 v2 v3) t) :
    w.cell? ⟨g, 0, none⟩ = some (.int .i64 h.id) ∧ w.cell? ⟨g, 1, none⟩ = some (.bool h.qr) ∧ w.cell? ⟨g, 2, none⟩ = some (.int .i64 h.op) ∧ w.cell? ⟨g, 3, none⟩ = some (.bool h.aa) ∧ w.cell? ⟨g, 4, none⟩ = some (.bool h.tc) ∧ w.cell? ⟨g, 5, none⟩ = some (.bool h.rd) ∧ w.cell? ⟨g, 6, none⟩ = some (.bool h.ra) ∧ w.cell? ⟨g, 7, none⟩ = some (.int .i64 h.z) ∧ w.cell? ⟨g, 8, none⟩ = some (.int .i64 h.rc) ∧
    w.cell? ⟨g, 9, none⟩ = some v0 ∧ w.cell? ⟨g, 10, none⟩ = some v1 ∧ w.cell? ⟨g, 11, none⟩ = some v2 ∧ w.cell? ⟨g, 12, none⟩ = some v3 :=
  ⟨k.cell 0, k.cell 1, k.cell 2, k.cell 3, k.cell 4, k.cell 5, k.cell 6, k.cell 7, k.cell 8, k.cell 9, k.cell 10, k.cell 11, k.cell 12⟩
theorem open13 {w : World} {g : Nat} {C : Array Value} {t : TypeId} (k : Blk w g C t) :
    w.frozen? ⟨g, 0, none⟩ = false ∧ w.frozen? ⟨g, 1, none⟩ = false ∧ w.frozen? ⟨g, 2, none⟩ = false ∧ w.frozen? ⟨g, 3, none⟩ = false ∧ w.frozen? ⟨g, 4, none⟩ = false ∧ w.frozen? ⟨g, 5, none⟩ = false ∧ w.frozen? ⟨g, 6, none⟩ = false ∧ w.frozen? ⟨g, 7, none⟩ = false ∧ w.frozen? ⟨g, 8, none⟩ = false ∧ w.frozen? ⟨g, 9, none⟩ = false ∧ w.frozen? ⟨g, 10, none⟩ = false ∧ w.frozen? ⟨g, 11, none⟩ = false ∧ w.frozen? ⟨g, 12, none⟩ = false :=
  ⟨k.frozen 0, k.frozen 1, k.frozen 2, k.frozen 3, k.frozen 4, k.frozen 5, k.frozen 6, k.frozen 7, k.frozen 8, k.frozen 9, k.frozen 10, k.frozen 11, k.frozen 12⟩

end Go.Proofs.Ytnjgdfmldjgloaa

/- Rows that are appended to each other; a region that draws its order; copies of strings. -/
namespace Go.Proofs.Ytnjgdfmldjgloaa
open Go.RowKit

/-- What an append reads of. -/
theorem Row.src {w : World} {v : Value} {n : Nat} {xs : List Value} (h : Row w v n xs) : ∃ x0 c, v = .slice x0 n c ∧ (n = 0 ∨ ∃ ad, x0 = some ad ∧ ∀ j u, xs[j]? = some u → w.cell? (ad.add j) = some u) := by
  by_cases hn : n = 0
  · subst hn
    obtain ⟨x, c, hv⟩ := row_none h
    exact ⟨x, c, hv, .inl rfl⟩
  · obtain ⟨g, o, cap, hv, hc⟩ := row_at h (by omega)
    refine ⟨_, _, hv, .inr ⟨_, rfl, fun j u hu => ?_⟩⟩
    have : (⟨g, o, none⟩ : Addr).add j = ⟨g, o + j, none⟩ := by unfold Addr.add; split <;> simp_all
    rw [this]
    exact hc j u hu
/-- How many have not come up. -/
def unl (l : List Bool) : Nat := (l.filter (fun b => !b)).length
theorem unl_set : ∀ (l : List Bool) (i : Nat), l[i]? = some false → unl (l.set i true) + 1 = unl l := by
  intro l
  induction l with
  | nil => intro i h; simp at h
  | cons b l ih =>
    intro i h
    cases i with
    | zero =>
      simp at h
      subst h
      simp [unl]
    | succ i =>
      have := ih i (by simpa using h)
      unfold unl at this ⊢
      cases b <;> simp [List.set_cons_succ] <;> simpa using this
theorem getD_false {l : Array Bool} {i : Nat} (h : l.getD i true = false) : l.toList[i]? = some false := by
  rw [Array.getD_eq_getD_getElem?] at h
  rw [Array.getElem?_toList]
  cases e : l[i]? with
  | none => rw [e] at h; simp at h
  | some b => rw [e] at h; simp at h; rw [h]
section
variable {P : Program} {md : Region.Mode} {ops : Array Oper} {Q : Exit → Act → World → Prop} {S : World → Prop}
/-- A region that draws its order: what holds behind each operation, whichever comes up. -/
theorem wpAnyH_inv (J : Array Bool → Act → World → Prop) (hS : ∀ l a w, J l a w → S w)
    (hstep : ∀ l a w, J l a w → ∀ i, l.getD i true = false → ∀ o, ops[i]? = some o → (∀ e ∈ o.after, Region.binds md e = true → l.getD e.on false = true) →
      ∀ K : Act → World → Prop, (∀ a' w', J (l.setIfInBounds i true) a' w' → K a' w') → if Region.wanted o (yielded ops a.tmps) = true then Oper.wp P o a w K Q else K (a.put o.dst undef) w)
    (hend : ∀ l a w, J l a w → Region.ready md ops l = [] → Q .normal a w) :
    ∀ fuel l a w, unl l.toList ≤ fuel → J l a w → wpAnyH P md ops Q S fuel l a w := by
  intro fuel
  induction fuel with
  | zero =>
    intro l a w hf hJ
    have hr : Region.ready md ops l = [] := by
      apply List.eq_nil_iff_forall_not_mem.2
      intro i hi
      have h1 := unl_set _ _ (getD_false (mem_ready.1 hi).1)
      omega
    exact ⟨hr, hend l a w hJ hr⟩
  | succ fuel ih =>
    intro l a w hf hJ
    refine ⟨hend l a w hJ, fun i hi => ?_⟩
    obtain ⟨hun, o, ho, hall⟩ := mem_ready.1 hi
    refine wpOp_step ho fun K hK => hstep l a w hJ i hun o ho hall K fun a' w' hJ' => hK a' w' ⟨hS _ _ _ hJ', ih _ a' w' ?_ hJ'⟩
    have h1 := unl_set _ _ (getD_false hun)
    rw [Array.toList_setIfInBounds]
    omega
end
theorem ready_nil {md : Region.Mode} {ops : Array Oper} {l : Array Bool} (htop : (List.range ops.size).all (fun i => ((ops[i]?).map (fun o => o.after.all (fun e => decide (e.on < i)))).getD true) = true) (hsz : l.size = ops.size) (hr : Region.ready md ops l = []) : ∀ i, l.getD i true = true := by
  intro i
  induction i using Nat.strongRecOn with
  | _ i ih =>
    cases hi : l.getD i true with
    | true => rfl
    | false =>
      have hlt : i < l.size := by
        rcases Nat.lt_or_ge i l.size with h | h
        · exact h
        · rw [Array.getD_eq_getD_getElem?, Array.getElem?_eq_none h] at hi
          simp at hi
      have ho : ops[i]? = some ops[i] := Array.getElem?_eq_getElem (by omega)
      have ht := List.all_eq_true.1 htop i (List.mem_range.2 (by omega))
      rw [ho] at ht
      simp only [Option.map_some, Option.getD_some, Array.all_eq_true_iff_forall_mem, decide_eq_true_eq] at ht
      have hm : i ∈ Region.ready md ops l := mem_ready.2 ⟨hi, _, ho, fun e he _ => by
        have h1 := ih e.on (ht e he)
        have h2 : e.on < l.size := by have := ht e he; omega
        rw [Array.getD_eq_getD_getElem?, Array.getElem?_eq_getElem h2] at h1 ⊢
        simpa using h1⟩
      rw [hr] at hm
      cases hm
/-- A row that a copy has: an empty one, or one that the call owns. -/
def CRow (B : Nat) (w : World) (e z : Nat) (v : Value) (n : Nat) (xs : List Value) : Prop := (n = 0 ∧ xs = [] ∧ ∃ g, v = .slice (some g) 0 0) ∨ w.ownsRow B e z v n xs
theorem CRow.below {B : Nat} {w w' : World} {e z : Nat} {v : Value} {n : Nat} {xs : List Value} (h : CRow B w e z v n xs) (hb : Below w.heap.size w w') : CRow B w' e z v n xs := h.imp id (fun o => own_past o hb)
theorem CRow.turn {B g : Nat} {w w' : World} {e z : Nat} {v : Value} {n : Nat} {xs : List Value} (h : CRow B w e z v n xs) (ht : Turn (fun k => k = g) w w') (hg : g < B) : CRow B w' e z v n xs := h.imp id (fun o => ht.row o (fun k hk e => by have := (o.lt k hk).1; omega))
theorem CRow.row {B : Nat} {w : World} {e z : Nat} {v : Value} {n : Nat} {xs : List Value} (h : CRow B w e z v n xs) : Row w v n xs := by
  rcases h with ⟨rfl, rfl, g, rfl⟩ | h
  · exact .inr ⟨g.block, g.off, g.spot, 0, rfl, fun h => by omega, fun j u hu => by simp at hu⟩
  · exact Row.of_own h
theorem grown_below {w w' : World} (h : w.grownBy w' none) : Below w.heap.size w w' := (Below.refl _ _).grown h (Nat.le_refl _) (fun _ e => by simp at e)
/-- A row is appended to an empty one without room. -/
theorem step_copy {P : Program} {ops : Array Oper} {o : Oper} {a : Act} {w : World} {K : Act → World → Prop} {Q : Exit → Act → World → Prop} {E : Prop}
    (hgd : o.guard = none) (s x : Operand) (t : TypeId) (ho : o.op = Op.call { callee := Callee.builtin Builtin.append, args := #[s, x], argTypes := #[t, t] })
    (B : Nat) (e : TypeId) (i : TypeInfo) (z : Value) (size bytes : Nat) (h1 : P.underlying t = some (.slice e)) (h2 : P.info? e = some i) (h3 : i.zero = some z) (h4 : i.size = size) (h5 : i.bytes = bytes) (h6 : z.cells.size = size) (h7 : 0 < size)
    (g : Addr) (hs : a.eval s = .slice (some g) 0 0) (v : Value) (n : Nat) (xs : List Value) (hx : a.eval x = v) (hrow : Row w v n xs) (hl : xs.length = n * size) (h1c : ∀ u ∈ xs, u.oneCell' = true) (hb : n * bytes ≤ 140737488355328) (hm : n ≤ maxLen) (hB : B ≤ w.heap.size)
    (hK : ∀ v' w', CRow B w' e size v' n xs → Below w.heap.size w w' → K (a.put o.dst v') w') :
    if Region.wanted o (yielded ops a.tmps) = true then Oper.wp P o a w K Q else E := by
  obtain ⟨x0, c, rfl, hc⟩ := hrow.src
  by_cases hn : n = 0
  · subst hn
    have hxs : xs = [] := List.eq_nil_of_length_eq_zero (by simpa using hl)
    subst hxs
    have hw : Region.wanted o (yielded ops a.tmps) = true := by simp [Region.wanted, hgd]
    rw [if_pos hw]
    have hsrc : Src P i.size t (.slice x0 0 c) 0 [] w := by
      cases x0 with
      | none => exact Src.ofNil w h1 c
      | some ad => exact Src.ofSlice w h1 ad 0 c [] (by simp) (fun j u hu => by simp at hu) (fun u hu => by cases hu)
    have hrun := run_append_nothing (P := P) w t t o.type e i h1 h2 (some g) 0 0 (Nat.le_refl _) _ hsrc
    unfold Oper.wp
    simp only [execOp, ho, resolve, invoke, builtin, Sem.run_bind, Sem.run_pure, Result.andThen_ok, List.map_toArray, List.map_cons, List.map_nil, hs, hx, hrun]
    exact hK _ w (.inl ⟨rfl, rfl, g, rfl⟩) (Below.refl _ _)
  · rcases hc with h0 | ⟨ad, rfl, hcell⟩
    · exact absurd h0 hn
    refine step_append_grows hgd s x t ho e i z size bytes h1 h2 h3 h4 h5 h6 h7 (some g) 0 0 [] hs (fun e => by cases e) (by simp) (fun b _ j u hu => by simp at hu) ad n c xs hx hl hcell h1c (by omega) (by omega) (by rw [Nat.zero_add]; exact hb) (fun v' w' ow gr => ?_)
    rw [Nat.zero_add, List.nil_append] at ow
    exact hK v' w' (.inr (own_base ow hB)) (grown_below gr)
/-- So many bytes of nought are made, and become a string. -/
theorem madeN (n : Nat) (hn : n ≤ 100000) : ∃ Zc : Array Value, (∀ u : World, (Instr.makeSlice 53 (.int .i64 (n : Int)) (.int .i64 (n : Int))).run Try.prog u = .ok (.slice (some ⟨u.heap.size, 0, none⟩) n n) (u.alloc (.cells Zc 5))) ∧
    ∀ (u : World), (convert 53 9 (.slice (some ⟨u.heap.size, 0, none⟩) n n)).run Try.prog (u.alloc (.cells Zc 5)) = .ok (.string (zerosB n)) (u.alloc (.cells Zc 5)) := by
  obtain ⟨i0, hi, hz0, hz1, hz2⟩ := info_parts info5
  refine ⟨((List.replicate n (0 : UInt8)).map bv).toArray, fun u => ?_, fun u => ?_⟩
  · have := run_make (P := Try.prog) u 53 5 i0 (.int .u8 0) Try.underlying53 hi hz0 .i64 .i64 (n : Int) (n : Int) (by omega) (by omega) (by rw [hz2]; omega) (by omega)
    rw [hz1, show (Value.int .u8 0).cells = #[.int .u8 0] from rfl, Nat.mul_one, Int.toNat_natCast, made_zero] at this
    exact this
  · have := conv_lit (List.replicate n 0) u
    rw [List.length_replicate] at this
    exact this

/-- Elements are appended to a row that the call owns, out of a row that lies anywhere; there may be none. -/
theorem wpList_appG (w : World) {ops : Array Oper} {rest : List Oper} {o : Oper} {a : Act} {Q : Exit → Act → World → Prop} (hgd : o.guard = none) (s x : Operand) (t e : TypeId) (i : TypeInfo) (z : Value) (size bytes : Nat)
    (h1 : Try.prog.underlying t = some (.slice e)) (h2 : Try.prog.info? e = some i) (h3 : i.zero = some z) (h4 : i.size = size) (h5 : i.bytes = bytes) (h6 : z.cells.size = size) (h7 : 0 < size)
    (ho : o.op = .call { callee := .builtin .append, args := #[s, x], argTypes := #[t, t] }) (base : Nat) (v : Value) (n : Nat) (xs : List Value) (hs : a.eval s = v) (hown : w.ownsRow base e size v n xs)
    (u : Value) (m : Nat) (ys : List Value) (hx : a.eval x = u) (hrow : Row w u m ys) (hl : ys.length = m * size) (h1c : ∀ y ∈ ys, y.oneCell' = true) (hb : (n + m) * bytes ≤ 140737488355328) (hm : n + m ≤ maxLen) (hbase : base ≤ w.heap.size)
    (h : ∀ v' w', w'.ownsRow base e size v' (n + m) (xs ++ ys) → w.grownBy w' v.ownBlock → (∀ k, v'.ownBlock = some k → v.ownBlock = some k ∨ w.heap.size ≤ k) → wpList Try.prog ops Q rest (a.put o.dst v') w') :
    wpList Try.prog ops Q (o :: rest) a w := by
  obtain ⟨x0, c, rfl, hc⟩ := hrow.src
  by_cases hm0 : m = 0
  · subst hm0
    have hys : ys = [] := List.eq_nil_of_length_eq_zero (by simpa using hl)
    subst hys
    refine wpList_plain hgd fun K hK => ?_
    have hsrc : Src Try.prog i.size t (.slice x0 0 c) 0 [] w := by
      cases x0 with
      | none => exact Src.ofNil w h1 c
      | some ad => exact Src.ofSlice w h1 ad 0 c [] (by simp) (fun j u hu => by simp at hu) (fun u hu => by cases hu)
    have hv : ∃ b l k, v = .slice b l k ∧ l ≤ k := by
      rcases hown.2 with ⟨rfl, rfl⟩ | ⟨g, cap, cur, rfl, _, _, hnc, _⟩
      · exact ⟨_, _, _, rfl, Nat.le_refl _⟩
      · exact ⟨_, _, _, rfl, hnc⟩
    obtain ⟨b, l, k, hv, hlk⟩ := hv
    have hrun := run_append_nothing (P := Try.prog) w t t o.type e i h1 h2 b l k hlk _ hsrc
    rw [← hv] at hrun
    unfold Oper.wp
    simp only [execOp, ho, resolve, invoke, builtin, Sem.run_bind, Sem.run_pure, Result.andThen_ok, List.map_toArray, List.map_cons, List.map_nil, hs, hx, hrun]
    exact hK _ _ (h v w (by simpa using hown) (World.grownBy.refl w _) (fun k hk => .inl hk))
  · rcases hc with h0 | ⟨ad, rfl, hcell⟩
    · exact absurd h0 hm0
    refine wpList_append_lies w hgd s x t ho base e i z size bytes h1 h2 h3 h4 h5 h6 h7 v n xs hs hown ad m c ys hx hl hcell h1c (by omega) hm (by omega) hbase _ rfl ?_
    intro g cap w' g1 g2 g3 g4
    refine h _ w' g1 g2 (fun k hk => ?_)
    rcases g3 with g3 | g3
    · exact .inl (by rw [g3]; exact hk)
    · have : k = g := by simp [Value.ownBlock] at hk; exact hk.symm
      exact .inr (by omega)

/-- The same in a region that draws its order. -/
theorem step_appG (w : World) {ops : Array Oper} {o : Oper} {a : Act} {K : Act → World → Prop} {Q : Exit → Act → World → Prop} {E : Prop} (hgd : o.guard = none) (s x : Operand) (t e : TypeId) (i : TypeInfo) (z : Value) (size bytes : Nat)
    (h1 : Try.prog.underlying t = some (.slice e)) (h2 : Try.prog.info? e = some i) (h3 : i.zero = some z) (h4 : i.size = size) (h5 : i.bytes = bytes) (h6 : z.cells.size = size) (h7 : 0 < size)
    (ho : o.op = .call { callee := .builtin .append, args := #[s, x], argTypes := #[t, t] }) (base : Nat) (v : Value) (n : Nat) (xs : List Value) (hs : a.eval s = v) (hown : w.ownsRow base e size v n xs)
    (u : Value) (m : Nat) (ys : List Value) (hx : a.eval x = u) (hrow : Row w u m ys) (hl : ys.length = m * size) (h1c : ∀ y ∈ ys, y.oneCell' = true) (hb : (n + m) * bytes ≤ 140737488355328) (hm : n + m ≤ maxLen) (hbase : base ≤ w.heap.size)
    (h : ∀ v' w', w'.ownsRow base e size v' (n + m) (xs ++ ys) → w.grownBy w' v.ownBlock → (∀ k, v'.ownBlock = some k → v.ownBlock = some k ∨ w.heap.size ≤ k) → K (a.put o.dst v') w') :
    if Region.wanted o (yielded ops a.tmps) = true then Oper.wp Try.prog o a w K Q else E := by
  have hw : Region.wanted o (yielded ops a.tmps) = true := by simp [Region.wanted, hgd]
  obtain ⟨x0, c, rfl, hc⟩ := hrow.src
  by_cases hm0 : m = 0
  · rw [if_pos hw]
    subst hm0
    have hys : ys = [] := List.eq_nil_of_length_eq_zero (by simpa using hl)
    subst hys
    have hsrc : Src Try.prog i.size t (.slice x0 0 c) 0 [] w := by
      cases x0 with
      | none => exact Src.ofNil w h1 c
      | some ad => exact Src.ofSlice w h1 ad 0 c [] (by simp) (fun j u hu => by simp at hu) (fun u hu => by cases hu)
    have hv : ∃ b l k, v = .slice b l k ∧ l ≤ k := by
      rcases hown.2 with ⟨rfl, rfl⟩ | ⟨g, cap, cur, rfl, _, _, hnc, _⟩
      · exact ⟨_, _, _, rfl, Nat.le_refl _⟩
      · exact ⟨_, _, _, rfl, hnc⟩
    obtain ⟨b, l, k, hv, hlk⟩ := hv
    have hrun := run_append_nothing (P := Try.prog) w t t o.type e i h1 h2 b l k hlk _ hsrc
    rw [← hv] at hrun
    unfold Oper.wp
    simp only [execOp, ho, resolve, invoke, builtin, Sem.run_bind, Sem.run_pure, Result.andThen_ok, List.map_toArray, List.map_cons, List.map_nil, hs, hx, hrun]
    exact h v w (by simpa using hown) (World.grownBy.refl w _) (fun k hk => .inl hk)
  · rcases hc with h0 | ⟨ad, rfl, hcell⟩
    · exact absurd h0 hm0
    refine step_append_lies w hgd s x t ho base e i z size bytes h1 h2 h3 h4 h5 h6 h7 v n xs hs hown ad m c ys hx hl hcell h1c (by omega) hm (by omega) hbase _ rfl ?_
    intro g cap w' g1 g2 g3 g4
    refine h _ w' g1 g2 (fun k hk => ?_)
    rcases g3 with g3 | g3
    · exact .inl (by rw [g3]; exact hk)
    · have : k = g := by simp [Value.ownBlock] at hk; exact hk.symm
      exact .inr (by omega)

/-- A block that was laid, as a row of the call's own. -/
theorem own_blk {w : World} {g B z n : Nat} {C : Array Value} {t : TypeId} {xs : List Value} (h : Blk w g C t) (hB : B ≤ g) (hx : C.toList = xs) (hl : xs.length = n * z) (hn : n ≤ maxLen) : w.ownsRow B t z (.slice (some ⟨g, 0, none⟩) n n) n xs := by
  have hs : C.size = n * z := by rw [← Array.length_toList, hx, hl]
  exact ⟨hl, .inr ⟨g, n, C, rfl, hB, h, Nat.le_refl _, hn, hs, by rw [← hx, List.take_of_length_le (by rw [Array.length_toList, hs]; exact Nat.le_refl _)]⟩⟩

end Go.Proofs.Ytnjgdfmldjgloaa

/- A message as it comes in, and how great its rows may be, where the seat has no text of package wire's to take them from. -/
namespace Go.Proofs.Ytnjgdfmldjgloaa
open Go.ChangeShapes Go.WideShapes Go.ChangeAt Go.RowKit

theorem spot_none {w : World} {a : Addr} {v : Value} (h : w.cell? a = some v) : a.spot = none := by
  unfold World.cell? at h
  split at h
  · split at h
    · simp at h
    · rename_i h1; simpa using h1
  · simp at h
/-- One thing for each number below n. -/
theorem list_of {α : Type} {P : Nat → α → Prop} : ∀ (n : Nat), (∀ i, i < n → ∃ x, P i x) → ∃ xs : List α, xs.length = n ∧ ∀ i (h : i < xs.length), P i xs[i] := by
  intro n
  induction n with
  | zero => intro _; exact ⟨[], rfl, fun i h => by simp at h⟩
  | succ n ih =>
    intro h
    obtain ⟨xs, hl, hx⟩ := ih (fun i hi => h i (by omega))
    obtain ⟨x, hp⟩ := h n (by omega)
    refine ⟨xs ++ [x], by simp [hl], fun i hi => ?_⟩
    by_cases e : i < xs.length
    · rw [List.getElem_append_left e]; exact hx i e
    · have : i = n := by simp at hi; omega
      subst this
      rw [List.getElem_append_right (by omega)]
      simpa [hl] using hp
theorem add_in {g o k j : Nat} : ((⟨g, o, none⟩ : Addr).add k).add j = ⟨g, o + (k + j), none⟩ := by
  unfold Addr.add
  split <;> split <;> simp_all <;> omega
/-- A row of elements of z cells each, as it is read. -/
theorem row_of {α : Type} {f : α → List Value} {z : Nat} (hz : ∀ x, (f x).length = z) (hz0 : 0 < z) {w : World} {a : Addr} {len cap : Nat} {xs : List α} (hl : xs.length = len)
    (h : ∀ i (hi : i < xs.length), ∀ j, j < z → w.cell? ((a.add (i * z)).add j) = (f xs[i])[j]?) : Row w (.slice (some a) len cap) len (xs.flatMap f) := by
  obtain ⟨g, o, p⟩ := a
  have hp : 0 < len → p = none := fun h0 => by
    have h1 := h 0 (by omega) 0 hz0
    have h2 : w.cell? ⟨g, o, p⟩ = (f xs[0])[0]? := by simpa [Addr.add] using h1
    rw [List.getElem?_eq_getElem (by rw [hz]; exact hz0)] at h2
    exact spot_none h2
  refine .inr ⟨g, o, p, cap, rfl, hp, fun j u hu => ?_⟩
  have hj : j < xs.length * z := by have := (List.getElem?_eq_some_iff.1 hu).1; rwa [flat_len hz] at this
  have hlen : 0 < len := by
    cases len with
    | zero => rw [hl] at hj; simp at hj
    | succ n => omega
  have hp0 := hp hlen
  subst hp0
  have hi : j / z < xs.length := Nat.div_lt_of_lt_mul (by rw [Nat.mul_comm]; exact hj)
  have hm := Nat.mod_lt j hz0
  have e : j / z * z + j % z = j := by rw [Nat.mul_comm]; exact Nat.div_add_mod j z
  have h1 := h (j / z) hi (j % z) hm
  rw [add_in, e] at h1
  rw [h1, ← flat_get hz xs (j / z) hi (j % z) hm, e]
  exact hu
theorem s_cellsOf : Try.prog.cellsOf 9 = 1 := by kernel_rfl
theorem weights_all {H : Type} {P : Program} {ts : List TypeId} {ds : List (DataW H)} (h : (DataW.weightsEach P ts ds).all (· ≤ reachBytes) = true) {j : Nat} {t : TypeId} {d : DataW H} (ht : ts[j]? = some t) (hd : ds[j]? = some d) : (d.weights P t).all (· ≤ reachBytes) = true :=
  List.all_eq_true.2 fun n hn => List.all_eq_true.1 h n (DataW.weights_mem_each ht hd n hn)
theorem row_weight {H : Type} {enc : TypeId × Value → H} {W : World} {fuel : Nat} {t e : TypeId} {c : Value} {x : DataW H × List MemPlace} (hu : Try.prog.underlying t = some (.slice e)) (h : DataW.trod enc Try.prog W 0 (fun _ => true) true fuel t [c] = some x)
    (hw : (x.1.weights Try.prog t).all (· ≤ reachBytes) = true) {y : Option Addr} {n k : Nat} (hc : c = .slice y n k) : n * Try.prog.bytesOf e ≤ reachBytes := by
  rcases DataW.trod_slice hu h with ⟨h0, _⟩ | ⟨a, len, cap, elems, rest, _, _, hcs, hx, _, _, _, hlen, _⟩
  · rw [hc] at h0
    simp at h0
    rw [h0.2.1, Nat.zero_mul]
    exact Nat.zero_le _
  · rw [hc] at hcs
    simp at hcs
    rw [hx] at hw
    have := List.all_eq_true.1 hw ((elems.length + rest.length) * Try.prog.bytesOf e) (by simp [DataW.weights, hu])
    simp only [decide_eq_true_eq] at this
    refine Nat.le_trans (Nat.mul_le_mul_right _ ?_) this
    rw [hcs.2.1, hlen]
    omega

end Go.Proofs.Ytnjgdfmldjgloaa

/- What Parent, Last and Child answer: plain functions on bytes, with no word of the program. -/
namespace Go.Proofs.Ytnjgdfmldjgloaa.Pl

/-- A name without its first label. -/
def parR (l : List UInt8) : Option (List UInt8) := if isName l = true ∧ (labs l).length ≠ 0 then some (enc ((labs l).drop 1)) else none
/-- A name's last k labels. -/
def lastR (l : List UInt8) (k : Int) : Option (List UInt8) := if isName l = true ∧ 0 ≤ k ∧ k ≤ (labs l).length then some (lastN l k.toNat) else none
/-- A label ahead of a name. -/
def childR (x l : List UInt8) : Option (List UInt8) := if 1 ≤ x.length ∧ x.length ≤ 63 ∧ isName l = true ∧ 1 + x.length + l.length ≤ 255 then some (UInt8.ofNat x.length :: (x ++ l)) else none
/-- A name folded. -/
def foldR (l : List UInt8) : List UInt8 := if isName l = true then foldL l else []

theorem last_drop {l : List UInt8} (h : isName l = true) (k : Nat) : lastN l k = l.drop (pos (labs l) ((labs l).length - k)) := by
  obtain ⟨e1, _, _, _⟩ := enc_of h
  unfold lastN
  rw [← enc_drop, ← e1]

theorem name_pos {l : List UInt8} (h : isName l = true) : 0 < l.length := by
  obtain ⟨e1, _, _, _⟩ := enc_of h
  have := pos_lt (labs l) 0
  rw [← e1] at this
  omega

theorem labs_zero {l : List UInt8} (h : isName l = true) : (labs l).length = 0 ↔ l = [0] := by
  obtain ⟨e1, _, _, _⟩ := enc_of h
  constructor
  · intro hz
    rw [e1, List.eq_nil_of_length_eq_zero hz]; rfl
  · intro hz; rw [hz]; decide

/-- The first byte tells where the second label begins. -/
theorem first_len {l : List UInt8} (h : isName l = true) (h0 : (labs l).length ≠ 0) : 1 + (l[0]'(name_pos h)).toNat = pos (labs l) 1 ∧ 1 + (l[0]'(name_pos h)).toNat < l.length ∧ 1 ≤ (l[0]'(name_pos h)).toNat ∧ (l[0]'(name_pos h)).toNat ≤ 63 := by
  obtain ⟨e1, e2, _, _⟩ := enc_of h
  have h1 := pos_at (labs l) 0 (by omega)
  have h2 := e2 (labs l)[0] (List.getElem_mem _)
  have h3 : l[0]'(name_pos h) = UInt8.ofNat (labs l)[0].length := by
    rw [← h1]
    have e : ∀ (a b : List UInt8) (i j : Nat) (ha : i < a.length) (hb : j < b.length), a = b → i = j → a[i] = b[j] := by
      intro a b i j ha hb e f; subst e; subst f; rfl
    exact e _ _ _ _ _ _ e1 (pos_zero _).symm
  have h4 : (l[0]'(name_pos h)).toNat = (labs l)[0].length := by rw [h3, len_byte h2.2]
  have h5 := pos_succ (labs l) 0 (by omega)
  rw [pos_zero, show 0 + 1 = 1 from rfl] at h5
  have h6 := pos_lt (labs l) 1
  rw [← e1] at h6
  omega

theorem par_drop {l : List UInt8} (h : isName l = true) (h0 : (labs l).length ≠ 0) : parR l = some (l.drop (1 + (l[0]'(name_pos h)).toNat)) := by
  obtain ⟨e1, _, _, _⟩ := enc_of h
  unfold parR
  rw [if_pos ⟨h, h0⟩, (first_len h h0).1]
  congr 1
  rw [← enc_drop, ← e1]

theorem par_none {l : List UInt8} (h : isName l = false ∨ (labs l).length = 0) : parR l = none := by
  unfold parR
  rw [if_neg]
  rintro ⟨h1, h2⟩
  rcases h with h | h
  · rw [h] at h1; simp at h1
  · exact h2 h

end Go.Proofs.Ytnjgdfmldjgloaa.Pl

/- The order of names, label by label from the end: plain facts on bytes, with no word of the program. -/
namespace Go.Proofs.Ytnjgdfmldjgloaa.Pl

theorem fl_at (l : List UInt8) (k : Nat) (h1 : 1 ≤ k) (hk : k ≤ (labs l).length) : (fl l)[k - 1]'(by rw [fl_len]; omega) = foldL ((labs l)[(labs l).length - k]'(by omega)) := by
  unfold fl
  rw [List.getElem_reverse, List.getElem_map]
  congr 2
  simp
  omega

theorem cmp_start (a b : List UInt8) : cmpN a b = lexG (lexG cB) ((fl a).drop (1 - 1)) ((fl b).drop (1 - 1)) := rfl

theorem cmp_step {a b : List UInt8} {k : Nat} (h : cmpN a b = lexG (lexG cB) ((fl a).drop (k - 1)) ((fl b).drop (k - 1))) (h1 : 1 ≤ k) (ha : k ≤ (labs a).length) (hb : k ≤ (labs b).length) :
    cmpN a b = if ord ((labs a)[(labs a).length - k]'(by omega)) ((labs b)[(labs b).length - k]'(by omega)) = 0 then lexG (lexG cB) ((fl a).drop k) ((fl b).drop k) else ord ((labs a)[(labs a).length - k]'(by omega)) ((labs b)[(labs b).length - k]'(by omega)) := by
  rw [h, lexG_drop ord_ord _ _ (k - 1) (by rw [fl_len]; omega) (by rw [fl_len]; omega), fl_at a k h1 ha, fl_at b k h1 hb, show k - 1 + 1 = k from by omega]
  rfl

theorem cmp_next {a b : List UInt8} {k : Nat} (h : cmpN a b = lexG (lexG cB) ((fl a).drop (k - 1)) ((fl b).drop (k - 1))) (h1 : 1 ≤ k) (ha : k ≤ (labs a).length) (hb : k ≤ (labs b).length)
    (hz : ord ((labs a)[(labs a).length - k]'(by omega)) ((labs b)[(labs b).length - k]'(by omega)) = 0) : cmpN a b = lexG (lexG cB) ((fl a).drop (k + 1 - 1)) ((fl b).drop (k + 1 - 1)) := by
  rw [cmp_step h h1 ha hb, if_pos hz, show k + 1 - 1 = k from by omega]
theorem cmp_here {a b : List UInt8} {k : Nat} (h : cmpN a b = lexG (lexG cB) ((fl a).drop (k - 1)) ((fl b).drop (k - 1))) (h1 : 1 ≤ k) (ha : k ≤ (labs a).length) (hb : k ≤ (labs b).length)
    (hz : ord ((labs a)[(labs a).length - k]'(by omega)) ((labs b)[(labs b).length - k]'(by omega)) ≠ 0) : ord ((labs a)[(labs a).length - k]'(by omega)) ((labs b)[(labs b).length - k]'(by omega)) = cmpN a b := by
  rw [cmp_step h h1 ha hb, if_neg hz]
theorem cmp_end {a b : List UInt8} {k : Nat} (h : cmpN a b = lexG (lexG cB) ((fl a).drop (k - 1)) ((fl b).drop (k - 1))) (hk : k - 1 = (labs a).length ∨ k - 1 = (labs b).length) (ha : k - 1 ≤ (labs a).length) (hb : k - 1 ≤ (labs b).length) :
    sgn ((labs a).length : Int) ((labs b).length : Int) = cmpN a b := by
  rw [h, lexG_end _ _ (k - 1) (by rw [fl_len, fl_len]; exact hk) (by rw [fl_len]; exact ha) (by rw [fl_len]; exact hb), fl_len, fl_len]

theorem root_name : isName [0] = true := by decide
theorem root_labs : labs [0] = [] := by decide

/-- A name, or the root in its place. -/
def orR (l : List UInt8) : List UInt8 := if isName l = true then l else [0]
theorem orR_name (l : List UInt8) : isName (orR l) = true := by
  unfold orR; split
  · assumption
  · exact root_name
theorem orR_labs (l : List UInt8) : labs (orR l) = labs l := by
  unfold orR; split
  · rfl
  · rename_i h
    rw [root_labs, labs_none (by simpa using h)]
theorem orR_cmp (a b : List UInt8) : cmpN (orR a) (orR b) = cmpN a b := by unfold cmpN fl; rw [orR_labs, orR_labs]

theorem above_few {a b : List UInt8} (h : (labs b).length < (labs a).length) : aboveB a b = false := by
  unfold aboveB
  rw [show decide ((labs a).length ≤ (labs b).length) = false from by simp; omega]
  simp

end Go.Proofs.Ytnjgdfmldjgloaa.Pl

/- Rules that the order of names and what is above what keep: plain facts on bytes, with no word of the program. -/
namespace Go.Proofs.Ytnjgdfmldjgloaa.Pl

theorem cmp_three (a b : List UInt8) : -1 ≤ cmpN a b ∧ cmpN a b ≤ 1 := by
  rcases cmp_ord.three (fl a) (fl b) with h | h | h <;> (unfold cmpN; omega)
theorem cmp_anti (a b : List UInt8) : cmpN b a = - cmpN a b := cmp_ord.anti _ _
theorem cmp_trans {a b c : List UInt8} (h1 : cmpN a b ≤ 0) (h2 : cmpN b c ≤ 0) : cmpN a c ≤ 0 := cmp_ord.trans _ _ _ h1 h2
theorem cmp_self (a : List UInt8) : cmpN a a = 0 := (cmp_zero a a).2 rfl
theorem same_cmp {a b : List UInt8} (ha : isName a = true) (hb : isName b = true) : sameB a b = (cmpN a b == 0) := by
  rw [Bool.eq_iff_iff, same_iff]
  simp [ha, hb, cmp_zero]
theorem above_root {a : List UInt8} (ha : isName a = true) : aboveB [0] a = true := by
  rw [above_iff]
  refine ⟨root_name, ha, ?_⟩
  unfold fl
  rw [root_labs]
  exact List.nil_prefix
theorem same_fold {a : List UInt8} (ha : isName a = true) : sameB a (foldL a) = true := by
  rw [same_iff]
  exact ⟨ha, by rw [name_fold]; exact ha, (fl_fold a).symm⟩
theorem above_trans {a b c : List UInt8} (h1 : aboveB a b = true) (h2 : aboveB b c = true) : aboveB a c = true := by
  rw [above_iff] at *
  exact ⟨h1.1, h2.2.1, h1.2.2.trans h2.2.2⟩
theorem above_self {a : List UInt8} (ha : isName a = true) : aboveB a a = true := by
  rw [above_iff]; exact ⟨ha, ha, List.prefix_refl _⟩

/-- A label ahead of a name. -/
theorem child_some {x l t : List UInt8} (h : childR x l = some t) : isName l = true ∧ isName t = true ∧ labs t = x :: labs l ∧ t.length = 1 + x.length + l.length ∧ 1 ≤ x.length ∧ x.length ≤ 63 ∧ t.length ≤ 255 := by
  unfold childR at h
  split at h
  · rename_i hc
    obtain ⟨h1, h2, h3, h4⟩ := hc
    have ht := (Option.some.inj h).symm
    obtain ⟨e1, e2, e3, e4⟩ := enc_of h3
    have e5 : t = enc (x :: labs l) := by rw [ht, enc_cons, ← e1]
    have hg : GoodL (x :: labs l) := by
      intro y hy
      rcases List.mem_cons.1 hy with rfl | hy
      · exact ⟨h1, h2⟩
      · exact e2 y hy
    have hlen : t.length = 1 + x.length + l.length := by rw [ht]; simp; omega
    have := name_enc hg (by rw [← e5, hlen]; exact h4)
    rw [← e5] at this
    exact ⟨h3, this.1, this.2.2, hlen, h1, h2, by omega⟩
  · simp at h

theorem child_par {x l t : List UInt8} (h : childR x l = some t) : parR t = some l := by
  obtain ⟨h1, h2, h3, _⟩ := child_some h
  unfold parR
  rw [if_pos ⟨h2, by rw [h3]; simp⟩, h3]
  simp
  exact (enc_of h1).1.symm
theorem child_fl {x l t : List UInt8} (h : childR x l = some t) : fl t = fl l ++ [foldL x] := by
  obtain ⟨_, _, h3, _⟩ := child_some h
  unfold fl
  rw [h3]; simp
theorem child_above {x l t : List UInt8} (h : childR x l = some t) : aboveB l t = true := by
  obtain ⟨h1, h2, _⟩ := child_some h
  rw [above_iff]
  refine ⟨h1, h2, ?_⟩
  rw [child_fl h]
  exact List.prefix_append _ _
theorem child_below {x l t : List UInt8} (h : childR x l = some t) : aboveB t l = false := by
  obtain ⟨h1, h2, h3, _⟩ := child_some h
  exact above_few (by rw [h3]; simp)
theorem child_cmp {x l t : List UInt8} (h : childR x l = some t) : cmpN l t = -1 := by
  unfold cmpN
  rw [child_fl h]
  exact lexG_more ord_ord _ _ (by simp)

end Go.Proofs.Ytnjgdfmldjgloaa.Pl

/- What Parent, Last, Same, Above and Compare of package rel give, for every argument. -/
namespace Go.Proofs.Ytnjgdfmldjgloaa
open Go.RowKit
open Pl

/-- What Parent, Last and Child hand back. -/
def optV : Option (List UInt8) → Value
  | some l => .tuple #[.string ⟨l.toArray⟩, .int .i64 0]
  | none => .tuple #[.string ⟨#[]⟩, .int .i64 200]

theorem ret_some {r : Option (List UInt8)} {t : ByteArray} (h : r = some t.data.toList) : Ending.returned (.tuple #[.string t, .int .i64 0]) = .returned (optV r) := by rw [h]; rfl
theorem ret_none {r : Option (List UInt8)} (h : r = none) : Ending.returned (.tuple #[.string ⟨#[]⟩, .int .i64 200]) = .returned (optV r) := by rw [h]; rfl

theorem ext_from (s : ByteArray) (i : Nat) : (s.extract i s.size).data.toList = s.data.toList.drop i := by
  rw [ext_list, List.take_of_length_le (by simp)]

theorem root_test {s : ByteArray} {b : Bool} (h : decide (s.data.toList = [0]) = b) : (s.toList == [0]) = b := by
  rw [ByteArray.toList_eq, ← h, Bool.eq_iff_iff]; simp

set_option maxRecDepth 20000 in
theorem parent_any (s : ByteArray) (w : World) (hs : s.size ≤ maxLen) :
    Calls Try.prog 39 #[.string s] w fun e w' => e = .returned (optV (parR s.data.toList)) ∧ Below w.heap.size w w' := by
  cases h : isName s.data.toList with
  | false =>
    have HR : Hid (parR s.data.toList = none) := par_none (.inl h)
    go_enter Try.func39, Try.ntmps39
    go_wp2_with (go_at_call 48; refine (may_as _ false _ hs h).mono ?_; rintro e w' ⟨rfl, hw⟩; obtain rfl := hw.symm)
    go_ret2
    exact ⟨ret_none HR.out, Below.refl _ _⟩
  | true =>
    by_cases h0 : (labs s.data.toList).length = 0
    · have HR : Hid (parR s.data.toList = none) := par_none (.inr h0)
      have hr : (s.toList == [0]) = true := root_test (by simpa using (labs_zero h).1 h0)
      clear h0
      go_enter Try.func39, Try.ntmps39
      go_wp2_with (go_at_call 48; refine (may_as _ true _ hs h).mono ?_; rintro e w' ⟨rfl, hw⟩; obtain rfl := hw.symm)
      go_ret2
      exact ⟨ret_none HR.out, Below.refl _ _⟩
    · have hr : (s.toList == [0]) = false := root_test (by simpa using fun e => h0 ((labs_zero h).2 e))
      have hl := data_len s
      have h255 := name_size h
      have hsp : 0 < s.size := by rw [← hl]; exact name_pos h
      have hf := first_len h h0
      have hR := par_drop h h0
      have hb0 : s.data.toList[0]'(name_pos h) = s[0] := rfl
      rw [hb0] at hf hR
      have hi := idx s 0 0 rfl hsp
      have hlo : 1 + (s[0].toNat : Int) ≤ (s.size : Int) := by omega
      have HR : Hid (parR s.data.toList = some (s.extract (1 + s[0].toNat) s.size).data.toList) := by unfold Hid; rw [ext_from, hR]
      have hts : (s.extract (1 + s[0].toNat) s.size).size ≤ 1000000 := by simp; omega
      have h63 : s[0].toNat ≤ 63 := hf.2.2.2
      clear hf hR h0 hb0
      go_enter Try.func39, Try.ntmps39
      go_wp2_with (first
        | (go_at_call 48; refine (may_as _ true _ hs h).mono ?_; rintro e w' ⟨rfl, hw⟩; obtain rfl := hw.symm)
        | (go_at_call 57; go_must (refine (clone_any _ _ hts).mono ?_); rintro e w1 ⟨rfl, hb1⟩))
      go_ret2
      exact ⟨ret_some HR.out, hb1⟩

theorem orRoot_yes (s : ByteArray) (w : World) (hs : s.size ≤ maxLen) (h : isName s.data.toList = true) :
    Calls Try.prog 62 #[.string s] w fun e w' => e = .returned (.string s) ∧ w' = w := by
  go_enter Try.func62, Try.ntmps62
  go_wp2_with (go_at_call 48; refine (may_as _ true _ hs h).mono ?_; rintro e w' ⟨rfl, hw⟩; obtain rfl := hw.symm)
  go_ret
  exact ⟨rfl, rfl⟩
theorem orRoot_no (s : ByteArray) (w : World) (hs : s.size ≤ maxLen) (h : isName s.data.toList = false) :
    Calls Try.prog 62 #[.string s] w fun e w' => e = .returned (.string ⟨#[0]⟩) ∧ w' = w := by
  go_enter Try.func62, Try.ntmps62
  go_wp2_with (go_at_call 48; refine (may_as _ false _ hs h).mono ?_; rintro e w' ⟨rfl, hw⟩; obtain rfl := hw.symm)
  go_ret
  exact ⟨rfl, rfl⟩

theorem same_any (a b : ByteArray) (w : World) (ha : a.size ≤ maxLen) (hb : b.size ≤ maxLen) :
    Calls Try.prog 60 #[.string a, .string b] w fun e w' => e = .returned (.bool (sameB a.data.toList b.data.toList)) ∧ Below w.heap.size w w' := by
  cases h1 : isName a.data.toList with
  | false =>
    have HR : Hid (false = sameB a.data.toList b.data.toList) := by unfold Hid sameB; rw [h1]; rfl
    have t1 : True := trivial
    go_enter Try.func60, Try.ntmps60
    go_wp2_with (go_at_call 48; have _t := t1; refine (may_as _ false _ ha h1).mono ?_; rintro e w' ⟨rfl, hw⟩; obtain rfl := hw.symm; clear t1)
    go_ret
    exact ⟨ret_bool HR.out, Below.refl _ _⟩
  | true =>
    cases h2 : isName b.data.toList with
    | false =>
      have HR : Hid (false = sameB a.data.toList b.data.toList) := by unfold Hid sameB; rw [h1, h2]; rfl
      have t1 : True := trivial
      have t2 : True := trivial
      go_enter Try.func60, Try.ntmps60
      go_wp2_with (first
        | (go_at_call 48; have _t := t1; refine (may_as _ true _ ha h1).mono ?_; rintro e w' ⟨rfl, hw⟩; obtain rfl := hw.symm; clear t1)
        | (go_at_call 48; have _t := t2; refine (may_as _ false _ hb h2).mono ?_; rintro e w' ⟨rfl, hw⟩; obtain rfl := hw.symm; clear t2))
      go_ret
      exact ⟨ret_bool HR.out, Below.refl _ _⟩
    | true =>
      have HR : Hid ((ord a.data.toList b.data.toList == 0) = sameB a.data.toList b.data.toList) := by
        unfold Hid sameB
        rw [h1, h2, Bool.eq_iff_iff]
        simp [ord_zero]
      have t1 : True := trivial
      have t2 : True := trivial
      go_enter Try.func60, Try.ntmps60
      go_wp2_with (first
        | (go_at_call 48; have _t := t1; refine (may_as _ true _ ha h1).mono ?_; rintro e w' ⟨rfl, hw⟩; obtain rfl := hw.symm; clear t1)
        | (go_at_call 48; have _t := t2; refine (may_as _ true _ hb h2).mono ?_; rintro e w' ⟨rfl, hw⟩; obtain rfl := hw.symm; clear t2)
        | (go_at_call 64; refine (order_any _ _ _ ha hb).mono ?_; rintro e w1 ⟨rfl, hd⟩))
      go_ret
      exact ⟨ret_bool HR.out, below_drew hd⟩

end Go.Proofs.Ytnjgdfmldjgloaa

/- What Last and Above of package rel give, for every argument. -/
namespace Go.Proofs.Ytnjgdfmldjgloaa
open Go.RowKit
open Pl

theorem fill_at {w : World} {g : Nat} {C : Array Value} {ls : List (List UInt8)} (h : w.heap[g]? = some (.cells C 110 (0, 0))) (hF : Fill ls ls.length C) : PlAt w g ls :=
  ⟨by rw [cell_of_row w g 128 C 110 (0, 0) h]; exact hF.2.1, fun i hi => by rw [cell_of_row w g i C 110 (0, 0) h]; exact hF.2.2.1 i hi⟩

theorem Fill.all {ls : List (List UInt8)} {c : Nat} {C : Array Value} (h : Fill ls c C) : C.all (·.oneCell') = true := h.2.2.2

theorem few {s : ByteArray} (h : isName s.data.toList = true) : (labs s.data.toList).length ≤ 127 := by
  obtain ⟨e1, e2, _, e4⟩ := enc_of h
  have := labs_few e2
  rw [← e1] at this
  omega

theorem pos_in {s : ByteArray} (h : isName s.data.toList = true) (i : Nat) : pos (labs s.data.toList) i < s.size := by
  obtain ⟨e1, _, _, _⟩ := enc_of h
  have := pos_lt (labs s.data.toList) i
  rw [← e1, data_len] at this
  exact this

theorem last_ext {s : ByteArray} (h : isName s.data.toList = true) (k : Nat) : (s.extract (pos (labs s.data.toList) ((labs s.data.toList).length - k)) s.size).data.toList = lastN s.data.toList k := by
  rw [ext_from, last_drop h]

theorem zero47 : ∃ Z : Array Value, (∀ w, (zeroValue 110).run Try.prog w = .ok (.agg Z) w) ∧ Z.size = 129 := ⟨Z47, (zero_of_info info47).1, (fill_start []).1⟩

theorem last_no {l : List UInt8} {k : Int} (h : isName l = false ∨ k < 0 ∨ ((labs l).length : Int) < k) : lastR l k = none := by
  unfold lastR
  rw [if_neg]
  rintro ⟨h1, h2, h3⟩
  rcases h with h | h | h
  · rw [h] at h1; simp at h1
  · omega
  · omega
theorem last_yes {l : List UInt8} {k : Nat} (h : isName l = true) (hk : k ≤ (labs l).length) : lastR l (k : Int) = some (lastN l k) := by
  unfold lastR
  rw [if_pos ⟨h, by omega, by omega⟩]; rfl

end Go.Proofs.Ytnjgdfmldjgloaa
