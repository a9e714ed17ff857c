/- NegRoom holds: for every number and every row of numbers, there are never more than may be held, and the last one is held. -/
import Derived.Test.YtphhljbeaklikaaXNgP
import Derived.ProofKit
import Derived.OpenShut
import Derived.ShutString
import Derived.Deep.DeepCutAuto
namespace Go.Proofs.Ytphhljbeaklikaa.negRoom
open Go.ChangeShapes Go.WideShapes Go.ChangeAt Go.RowKit
open Go.ChangeMaps (open_string shut_string)
open Pl
open Ng

theorem one_str (j g : Nat) (u : World) (hj : j < 256) (hb : Blk u g #[.int .u8 (j : Int)] 5) : (convert 51 9 (.slice (some ⟨g, 0, none⟩) 1 1)).run Try.prog u = .ok (.string ⟨#[UInt8.ofNat j]⟩) u := by
  refine run_convert_bytes_back _ 51 9 5 ⟨g, 0, none⟩ 1 [UInt8.ofNat j] Try.underlying51 Try.underlying5 Try.underlying9 fun i hi => ?_
  have hj' : (UInt8.ofNat j).toNat = j := by rw [UInt8.toNat_ofNat']; omega
  have e : (⟨g, 0, none⟩ : Addr).add i = ⟨g, i, none⟩ := by unfold Addr.add; split <;> simp_all
  rw [e, hb.cell i]
  match i, hi with
  | 0, _ => simp [hj']

set_option maxRecDepth 20000 in
set_option maxHeartbeats 4000000 in
theorem walk (most : Int) (v : Value) (ps : List Int) (_ : (Lit.int .i64 most).wf = true) (w : World) (hr : Row w v ps.length (iC ps) ∧ ps.length ≤ maxLen) :
    Calls Try.prog 6 #[.int .i64 most, v] w fun e w' => e = .returned (.bool true) ∧ Below w.heap.size w w' := by
  obtain ⟨hrow, hmx⟩ := hr
  obtain ⟨n, hn⟩ : ∃ n, n = ps.length := ⟨_, rfl⟩
  obtain ⟨x, c, hv⟩ := row_slice hrow
  rw [← hn] at hv
  subst hv
  have HN : Hid (n = ps.length) := hn
  have HR : Hid (Row w (.slice x n c) ps.length (iC ps)) := hrow
  have hnm : n ≤ maxLen := by rw [hn]; exact hmx
  unfold maxLen at hnm
  obtain ⟨K, hK, hKb⟩ : ∃ K : Nat, K < 8 ∧ bits .and .i64 most 7 = (K : Int) := by
    refine ⟨(most % 8).toNat, by omega, ?_⟩
    have := mask most 3 (by decide)
    simp only [Nat.reducePow, Nat.reduceSub] at this
    have e : bits .and .i64 most 7 = most % 8 := this
    rw [e]; omega
  clear hrow hn hmx
  have NW : Hid (∀ u : World, Below w.heap.size w u → Calls Try.prog 8 #[.int .i64 (1 + (K : Int))] u fun e w' => ∃ gs, e = .returned (.tuple #[.pointer (some ⟨gs, 0, none⟩), .int .i64 0]) ∧ LW w w' gs (1 + K) none []) := fun u hb => by
    have := lw_new hb (1 + K) (by omega) (by omega)
    rw [show ((1 + K : Nat) : Int) = 1 + (K : Int) from by omega] at this
    exact this.mono fun e w' ⟨gs, h1, h2, _, _⟩ => ⟨gs, h1, h2⟩
  go_enter Try.func6, Try.ntmps6
  go_wp2_with (first
    | (go_at_call 11; go_must (refine (awake_any _).mono ?_); rintro e w0 ⟨rfl, b0⟩)
    | (go_at_call 8; go_must (refine (NW.out _ b0).mono ?_); rintro e w1 ⟨gs, rfl, lw1⟩; have HV0 : Hid (LW w w1 gs (1 + K) none []) := lw1; clear NW b0 lw1))
  go_loopw [8] (fun iv wr => ∃ (j : Nat) (mb : Option Nat) (F : List En), iv = .int .i64 (j : Int) ∧ j ≤ n ∧ j ≤ 50 ∧ Hid (RmN (1 + K) j F) ∧ Hid (LW w wr gs (1 + K) mb F)) (fun i _ => 50 - (intOf i).toNat)
  case atStart => exact ⟨0, none, [], rfl, Nat.zero_le _, Nat.zero_le _, rmN_nil _, HV0⟩
  case round =>
    clear HV0
    obtain ⟨j, mb, F, rfl, hjn, hj6, HP, HH⟩ := hrel
    by_cases hlt : j < n ∧ j < 50
    · obtain ⟨hj, h6⟩ := hlt
      have hj' : (j : Int) < (n : Int) := by omega
      have h6' : (j : Int) < 50 := by omega
      have hjm : j < ps.length := by have := HN.out; omega
      obtain ⟨gp, op, cp, hx, hc⟩ := row_at (HR.out.below HH.out.bel) (by omega)
      simp only [Value.slice.injEq] at hx
      obtain ⟨rfl, -, rfl⟩ := hx
      have e0 := hc j _ (iC_at hjm)
      obtain ⟨p, hp⟩ : ∃ p, p = ps[j] := ⟨_, rfl⟩
      rw [← hp] at e0
      have e1 : ∀ o : Obj, (wr.alloc o).cell? ⟨gp, op + j, none⟩ = some (.int .i64 p) := fun o => by rw [World.cell?_alloc_old _ _ _ (Nat.ne_of_lt (World.block_lt_of_cell? _ _ e0))]; exact e0
      have e2 : ∀ o o' : Obj, ((wr.alloc o).alloc o').cell? ⟨gp, op + j, none⟩ = some (.int .i64 p) := fun o o' => by rw [World.cell?_alloc_old _ _ _ (Nat.ne_of_lt (World.block_lt_of_cell? _ _ (e1 o)))]; exact e1 o
      obtain ⟨X, hX, hXb⟩ : ∃ X : Nat, X < 1024 ∧ bits .and .i64 p 1023 = (X : Int) := by
        refine ⟨(p % 1024).toNat, by omega, ?_⟩
        have := mask p 10 (by decide)
        simp only [Nat.reducePow, Nat.reduceSub] at this
        have e : bits .and .i64 p 1023 = p % 1024 := this
        rw [e]; omega
      obtain ⟨U, hU⟩ : ∃ U : Int, 100 + (X : Int) = U := ⟨_, rfl⟩
      have HU9 : Hid (9 < U) := by unfold Hid; omega
      have hw8 : IntKind.u8.wrap (j : Int) = (j : Int) := by
        have : IntKind.u8.wrap (j : Int) = (j : Int) % 256 := by simp [IntKind.wrap, IntKind.bits, IntKind.signed]
        rw [this]; omega
      have cv1 : (convert 51 9 (.slice (some ⟨wr.heap.size, 0, none⟩) 1 1)).run Try.prog (wr.alloc (.cells #[.int .u8 (j : Int)] 5)).drew = _ := one_str j _ _ (by omega) ((Blk.new wr #[.int .u8 (j : Int)] 5).drew ⟨1, rfl⟩)
      have cv2 : ∀ o : Obj, (convert 51 9 (.slice (some ⟨wr.heap.size, 0, none⟩) 1 1)).run Try.prog ((wr.alloc (.cells #[.int .u8 (j : Int)] 5)).alloc o).drew = _ := fun o => one_str j _ _ (by omega) (((Blk.new wr #[.int .u8 (j : Int)] 5).alloc o).drew ⟨1, rfl⟩)
      have cv3 : ∀ o : Obj, (convert 51 9 (.slice (some ⟨wr.heap.size + 1, 0, none⟩) 1 1)).run Try.prog ((wr.alloc o).alloc (.cells #[.int .u8 (j : Int)] 5)).drew = _ := fun o => one_str j _ _ (by omega) (by have := (Blk.new (wr.alloc o) #[.int .u8 (j : Int)] 5).drew ⟨1, rfl⟩; rw [World.size_alloc] at this; exact this)
      obtain ⟨D1, hD1⟩ : ∃ D : ByteArray, D = ⟨#[UInt8.ofNat j]⟩ := ⟨_, rfl⟩
      have hs1 : D1.size = 1 := by rw [hD1]; rfl
      rw [← hD1] at cv1
      simp only [← hD1] at cv2 cv3
      have zz1 : ∀ u : World, (Op.stringOp .add ⟨#[1]⟩ D1).run Try.prog u = .ok (.string (⟨#[1]⟩ ++ D1)) u := fun u => run_string_add_sum u _ D1 (by rw [hs1]; decide)
      obtain ⟨D2, hD2⟩ : ∃ D : ByteArray, (⟨#[1]⟩ : ByteArray) ++ D1 = D := ⟨_, rfl⟩
      rw [hD2] at zz1
      have hs2 : D2.size = 2 := by rw [← hD2, hD1]; rfl
      have hD2' : D2 ++ (⟨#[0]⟩ : ByteArray) = nmQ j := by rw [← hD2, hD1]; rfl
      have zz2 : ∀ u : World, (Op.stringOp .add D2 ⟨#[0]⟩).run Try.prog u = .ok (.string (nmQ j)) u := fun u => by rw [← hD2']; exact run_string_add_sum u D2 _ (by rw [hs2]; decide)
      have HSZ : Hid ((nmQ j).size ≤ maxLen) := max_name (nmQ_name h6).1
      have hTT : bits .and .i64 (j : Int) 1 = 0 ∨ bits .and .i64 (j : Int) 1 = 1 := by
        have := mask (j : Int) 1 (by decide)
        simp only [Nat.reducePow, Nat.reduceSub] at this
        have e : bits .and .i64 (j : Int) 1 = (j : Int) % 2 := this
        rw [e]; omega
      clear hc hp hD1 hD2 hD2' hs1 hs2
      rcases hTT with hT | hT
      · skip
        have HE : Hid (errN (nE (nmQ j) 0 U) 9 = 0) := err_yes (rm_mayN h6 (by decide) (by decide) HU9.out)
        obtain ⟨F', hF'⟩ : ∃ F', putN (1 + K) F (nE (nmQ j) 0 U) 9 = F' := ⟨_, rfl⟩
        have HF : Hid (putN (1 + K) F (nE (nmQ j) 0 U) 9 = F') := hF'
        have HST : Hid (RmN (1 + K) (j + 1) F' ∧ hasN F' (nmQ j) 0 9 = true) := by unfold Hid; rw [← hF']; exact rm_stepN HP.out (by omega) h6 (by decide) (by decide) HU9.out
        obtain ⟨NF, hNF⟩ : ∃ NF, F'.length = NF := ⟨_, rfl⟩
        have HNF : Hid (F'.length = NF) := hNF
        have hmn : (if (j : Int) + 1 < 1 + (K : Int) then (j : Int) + 1 else 1 + (K : Int)) = (NF : Int) := by have := HST.out.1.len; rw [hNF] at this; split <;> omega
        have hnd : (!decide ((0 : Int) = 0) && hasN F' (nmQ j) 0 9) = false := by rw [HST.out.2]; rfl
        have HND : Hid ((!decide ((0 : Int) = 0) && hasN F' (nmQ j) 0 9) = false) := hnd
        clear hnd hF' hNF
        have PUT : ∀ (w3 : World) (g : Nat), Below wr.heap.size wr w3 → Blk w3 g #[.string (nmQ j), .int .i64 0, .int .i64 U] 33 → wr.heap.size ≤ g → Calls Try.prog 12 #[.pointer (some ⟨gs, 0, none⟩), .agg #[.string (nmQ j), .int .i64 0, .int .i64 U], .int .i64 9] w3 fun e w' => e = .returned (.int .i64 0) ∧ ∃ mb', LW w w' gs (1 + K) mb' F' ∧ Blk w' g #[.string (nmQ j), .int .i64 0, .int .i64 U] 33 := fun w3 g b3 hk hg => by
          refine (lw_put (HH.out.below b3) (nmQ j) 0 U 9 HSZ.out 0 HE.out _ HF.out).mono ?_
          rintro e w4 ⟨rfl, mb4, lw4, T4, _⟩
          refine ⟨rfl, mb4, lw4, T4.blk hk (fun e => ?_)⟩
          have := HH.out.st.lt g e
          omega
        have PUTA : Hid (∀ o : Obj, Calls Try.prog 12 #[.pointer (some ⟨gs, 0, none⟩), .agg #[.string (nmQ j), .int .i64 0, .int .i64 U], .int .i64 9] ((wr.alloc o).alloc (.cells #[.string (nmQ j), .int .i64 0, .int .i64 U] 33)).drew fun e w' => e = .returned (.int .i64 0) ∧ ∃ mb', LW w w' gs (1 + K) mb' F' ∧ Blk w' (wr.heap.size + 1) #[.string (nmQ j), .int .i64 0, .int .i64 U] 33) := fun o =>
          PUT _ _ (lay (lay (Below.refl _ _) _) _).drew (by have := (Blk.new (wr.alloc o) #[.string (nmQ j), .int .i64 0, .int .i64 U] 33).drew ⟨1, rfl⟩; rw [World.size_alloc] at this; exact this) (by omega)
        have PUTB : Hid (∀ o : Obj, Calls Try.prog 12 #[.pointer (some ⟨gs, 0, none⟩), .agg #[.string (nmQ j), .int .i64 0, .int .i64 U], .int .i64 9] ((wr.alloc (.cells #[.string (nmQ j), .int .i64 0, .int .i64 U] 33)).alloc o).drew fun e w' => e = .returned (.int .i64 0) ∧ ∃ mb', LW w w' gs (1 + K) mb' F' ∧ Blk w' wr.heap.size #[.string (nmQ j), .int .i64 0, .int .i64 U] 33) := fun o =>
          PUT _ _ (lay (lay (Below.refl _ _) _) _).drew (((Blk.new wr #[.string (nmQ j), .int .i64 0, .int .i64 U] 33).alloc o).drew ⟨1, rfl⟩) (Nat.le_refl _)
        clear PUT
        go_wp2
        go_region
        all_goals (go_wp2_with (first
          | (go_at_call 12; refine (PUTA.out _).mono ?_; rintro e w4 ⟨rfl, mb4, lw4, kx4⟩; have hal := lw4.all NF HNF.out)
          | (go_at_call 12; refine (PUTB.out _).mono ?_; rintro e w4 ⟨rfl, mb4, lw4, kx4⟩; have hal := lw4.all NF HNF.out)
          | (go_at_call 10; refine (num_any _ _).mono ?_; rintro e w' ⟨rfl, hw⟩; obtain rfl := hw.symm)
          | (go_at_call 17; go_must (refine hal.mono ?_); rintro e w5 ⟨y5, c5, rfl, _, lw5, b5⟩; have kx5 := kx4.below b5; have x0 := kx5.cell 0; have x1 := kx5.cell 1; simp only [List.getElem?_toArray, List.getElem?_cons_succ, List.getElem?_cons_zero] at x0 x1; clear kx4 b5 hal)
          | (go_at_call 14; go_must (refine (lw5.nx (nmQ j) 9 HSZ.out _ HST.out.2).mono ?_); rintro e w6 ⟨rfl, lw6, b6⟩; have kx6 := kx5.below b6; have q0 := kx6.cell 0; have q1 := kx6.cell 1; simp only [List.getElem?_toArray, List.getElem?_cons_succ, List.getElem?_cons_zero] at q0 q1)))
        all_goals go_roundw
        all_goals first
          | exact ⟨j + 1, _, F', by go_num, by omega, by omega, HST.out.1, lw6⟩
          | (simp [intOf]; omega)

      · skip
        have HE : Hid (errN (nE (nmQ j) 1 U) 9 = 0) := err_yes (rm_mayN h6 (by decide) (by decide) HU9.out)
        obtain ⟨F', hF'⟩ : ∃ F', putN (1 + K) F (nE (nmQ j) 1 U) 9 = F' := ⟨_, rfl⟩
        have HF : Hid (putN (1 + K) F (nE (nmQ j) 1 U) 9 = F') := hF'
        have HST : Hid (RmN (1 + K) (j + 1) F' ∧ hasN F' (nmQ j) 1 9 = true) := by unfold Hid; rw [← hF']; exact rm_stepN HP.out (by omega) h6 (by decide) (by decide) HU9.out
        obtain ⟨NF, hNF⟩ : ∃ NF, F'.length = NF := ⟨_, rfl⟩
        have HNF : Hid (F'.length = NF) := hNF
        have hmn : (if (j : Int) + 1 < 1 + (K : Int) then (j : Int) + 1 else 1 + (K : Int)) = (NF : Int) := by have := HST.out.1.len; rw [hNF] at this; split <;> omega
        have hnd : (!decide ((1 : Int) = 0) && hasN F' (nmQ j) 1 9) = true := by rw [HST.out.2]; rfl
        have HND : Hid ((!decide ((1 : Int) = 0) && hasN F' (nmQ j) 1 9) = true) := hnd
        clear hnd hF' hNF
        have PUT : ∀ (w3 : World) (g : Nat), Below wr.heap.size wr w3 → Blk w3 g #[.string (nmQ j), .int .i64 1, .int .i64 U] 33 → wr.heap.size ≤ g → Calls Try.prog 12 #[.pointer (some ⟨gs, 0, none⟩), .agg #[.string (nmQ j), .int .i64 1, .int .i64 U], .int .i64 9] w3 fun e w' => e = .returned (.int .i64 0) ∧ ∃ mb', LW w w' gs (1 + K) mb' F' ∧ Blk w' g #[.string (nmQ j), .int .i64 1, .int .i64 U] 33 := fun w3 g b3 hk hg => by
          refine (lw_put (HH.out.below b3) (nmQ j) 1 U 9 HSZ.out 0 HE.out _ HF.out).mono ?_
          rintro e w4 ⟨rfl, mb4, lw4, T4, _⟩
          refine ⟨rfl, mb4, lw4, T4.blk hk (fun e => ?_)⟩
          have := HH.out.st.lt g e
          omega
        have PUTA : Hid (∀ o : Obj, Calls Try.prog 12 #[.pointer (some ⟨gs, 0, none⟩), .agg #[.string (nmQ j), .int .i64 1, .int .i64 U], .int .i64 9] ((wr.alloc o).alloc (.cells #[.string (nmQ j), .int .i64 1, .int .i64 U] 33)).drew fun e w' => e = .returned (.int .i64 0) ∧ ∃ mb', LW w w' gs (1 + K) mb' F' ∧ Blk w' (wr.heap.size + 1) #[.string (nmQ j), .int .i64 1, .int .i64 U] 33) := fun o =>
          PUT _ _ (lay (lay (Below.refl _ _) _) _).drew (by have := (Blk.new (wr.alloc o) #[.string (nmQ j), .int .i64 1, .int .i64 U] 33).drew ⟨1, rfl⟩; rw [World.size_alloc] at this; exact this) (by omega)
        have PUTB : Hid (∀ o : Obj, Calls Try.prog 12 #[.pointer (some ⟨gs, 0, none⟩), .agg #[.string (nmQ j), .int .i64 1, .int .i64 U], .int .i64 9] ((wr.alloc (.cells #[.string (nmQ j), .int .i64 1, .int .i64 U] 33)).alloc o).drew fun e w' => e = .returned (.int .i64 0) ∧ ∃ mb', LW w w' gs (1 + K) mb' F' ∧ Blk w' wr.heap.size #[.string (nmQ j), .int .i64 1, .int .i64 U] 33) := fun o =>
          PUT _ _ (lay (lay (Below.refl _ _) _) _).drew (((Blk.new wr #[.string (nmQ j), .int .i64 1, .int .i64 U] 33).alloc o).drew ⟨1, rfl⟩) (Nat.le_refl _)
        clear PUT
        go_wp2
        go_region
        all_goals (go_wp2_with (first
          | (go_at_call 12; refine (PUTA.out _).mono ?_; rintro e w4 ⟨rfl, mb4, lw4, kx4⟩; have hal := lw4.all NF HNF.out)
          | (go_at_call 12; refine (PUTB.out _).mono ?_; rintro e w4 ⟨rfl, mb4, lw4, kx4⟩; have hal := lw4.all NF HNF.out)
          | (go_at_call 10; refine (num_any _ _).mono ?_; rintro e w' ⟨rfl, hw⟩; obtain rfl := hw.symm)
          | (go_at_call 17; go_must (refine hal.mono ?_); rintro e w5 ⟨y5, c5, rfl, _, lw5, b5⟩; have kx5 := kx4.below b5; have x0 := kx5.cell 0; have x1 := kx5.cell 1; simp only [List.getElem?_toArray, List.getElem?_cons_succ, List.getElem?_cons_zero] at x0 x1; clear kx4 b5 hal)
          | (go_at_call 16; go_must (refine (lw5.nodata (nmQ j) 1 9 HSZ.out (by decide) _ HND.out).mono ?_); rintro e w6 ⟨rfl, lw6, _⟩)))
        all_goals go_roundw
        all_goals first
          | exact ⟨j + 1, _, F', by go_num, by omega, by omega, HST.out.1, lw6⟩
          | (simp [intOf]; omega)

    · have he : decide (j < n) = false ∨ (j < n ∧ decide ((j : Int) < 50) = false) := by
        by_cases h : j < n
        · exact .inr ⟨h, by simp; omega⟩
        · exact .inl (by simp; omega)
      clear hlt
      rcases he with he | ⟨he, he2⟩
      all_goals
        go_wp2_with (go_at_call 10; refine (num_any _ _).mono ?_; rintro e w' ⟨rfl, hw⟩; obtain rfl := hw.symm)
        go_ret
        exact ⟨ret_bool (by simp), HH.out.bel⟩

theorem own : ownKnob Try.prog.godebug = none := by kernel_rfl
theorem laidOut : laidOutB Try.prog = true := by kernel_rfl

set_option maxRecDepth 100000 in
theorem lifted (os : Os) (started : os.Started) (H : Type) (enc : TypeId × Value → H) :
    ReturnsInHanded {} Try.checked os 6 .any (Rows.negRoomSpec.pre6 enc Try.prog Try.f6 Rows.negRoomRow.domain false) (Rows.negRoomSpec.post enc Try.prog Try.f6 false true false false) := by
  refine returnsInHanded_of_change (C := Try.checked) own started (by kernel_rfl) Try.func6
    (ChangeSpec.witness6 (enc := enc) (C := Try.checked) false ⟨#[], #[.int .i64 0, .slice none 0 0], []⟩ 8 (by kernel_rfl) (by kernel_rfl) (by kernel_rfl) (by kernel_rfl)) ?_
  intro W base args ds gs before hval0 hW _ _
  have hval : ∀ (j : Nat) t v, Try.f6.params[j]? = some t → args[j]? = some v → Value.okWide Try.prog W .any base t v := hval0
  have hW' := hW
  obtain ⟨p, q, hA0, hV, rfl, hfz, hnd⟩ := hW
  have hA : DataW.TrodAll enc Try.prog W 0 (fun _ => true) true Try.f6.params.toList args.toList ds p := hA0
  rw [Try.params6] at hA hval
  obtain ⟨v0, vs0, d0, ds0, p0, q0, hargs, rfl, rfl, h0, r0⟩ := trodAll_cons hA
  obtain ⟨v1, vs1, d1, ds1, p1, q1, rfl, rfl, rfl, h1, r1⟩ := trodAll_cons r0
  obtain ⟨rfl, rfl, rfl⟩ := trodAll_nil r1
  obtain rfl : args = #[v0, v1] := by cases args; simp_all
  obtain ⟨rfl, rfl⟩ := trodVars_none hV
  obtain ⟨a0, rfl, rfl, rfl, w0⟩ := open_int Try.underlying3 (hval 0 3 v0 rfl rfl) h0
  obtain ⟨a1, w1⟩ := open_irow (hval 1 50 v1 rfl rfl) h1
  have hlt1 : ∀ x ∈ p1, x.block < W.heap.size := fun x hx => by
    have := hW'.lt x (by simp [hx])
    simpa using this
  clear hA0 hval0
  simp only [List.append_nil] at hW'
  refine (walk a0 v1 a1 w0 W w1).mono fun e W' ⟨he, bel⟩ => ?_
  subst he
  exact ⟨_, rfl, _, _, _, [], _, [], hW', trodAll_mk1 (shut_bool Try.underlying4 _), (trodAll_cons_mk (shut_int Try.underlying3 w0) (trodAll_cons_mk (Below.trod laidOut (by kernel_rfl) (of_decide_eq_true (by kernel_rfl)) h1 bel hlt1) trodAll_mk0)), rfl, bel.frame _, fun h => by cases h⟩

/-- The statement. -/
theorem proved : Rows.NegRoomSaid :=
  OpenClaim.holds_of_wide 6 Try.f6 rfl rfl rfl rfl rfl rfl rfl ⟨rfl, rfl, rfl, rfl, rfl⟩ rfl rfl rfl rfl rfl (by kernel_rfl) Try.func6 (by kernel_rfl)
    (of_decide_eq_true (by kernel_rfl)) (by unfold Func.isWrapper; first | (rw [if_pos (by decide +kernel)]; kernel_rfl) | (rw [if_neg (by decide +kernel)]; exact ⟨rfl, rfl⟩))
    (fun os started H enc _ => lifted os started H enc)
#print axioms proved


end Go.Proofs.Ytphhljbeaklikaa.negRoom
