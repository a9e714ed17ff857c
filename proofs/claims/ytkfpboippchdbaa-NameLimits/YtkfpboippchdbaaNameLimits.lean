/- NameLimits holds: for every two numbers, names of equal labels are names just up to the limits. -/
import Derived.Test.YtkfpboippchdbaaWalkH
import Derived.Test.YtkfpboippchdbaaPlainD
import Derived.RegionTactic
import Derived.ChangeAlike
import Derived.Laws.Bits128
import Derived.Laws.MakeOwn
import Derived.ProofKit
import Derived.OpenShut
import Derived.ShutString
namespace Go.Proofs.Ytkfpboippchdbaa.nameLimits
open Go.ChangeShapes Go.WideShapes Go.ChangeAt Go.RowKit
open Pl

theorem i64_and63 (n : Int) : bits .and .i64 n 63 = n % 64 := by
  have h63 : (BitVec.ofInt 64 63).toNat = 2 ^ 6 - 1 := by decide
  have key : (BitVec.ofInt 64 n &&& BitVec.ofInt 64 63).toNat = (n % ((2 ^ 64 : Nat) : Int)).toNat % 2 ^ 6 := by
    rw [BitVec.toNat_and, BitVec.toNat_ofInt, h63, Nat.and_two_pow_sub_one_eq_mod]
  show IntKind.i64.wrap ((BitVec.ofInt 64 n &&& BitVec.ofInt 64 63).toNat : Nat) = n % 64
  rw [key, IntKind.wrap_i64]
  omega

theorem conv_at (u : World) (g : Nat) (l : List UInt8) (n : Nat) (hn : l.length = n) (cs : Array Value) (hcs : cs = (l.map bv).toArray) (hh : u.heap[g]? = some (.cells cs 5)) :
    (convert 32 9 (.slice (some ⟨g, 0, none⟩) n n)).run Try.prog u = .ok (.string ⟨l.toArray⟩) u := by
  subst hn
  subst hcs
  refine run_convert_bytes_back _ 32 9 5 ⟨g, 0, none⟩ l.length l Try.underlying32 Try.underlying5 Try.underlying9 fun j hj => ?_
  refine World.news_of_block hh j _ ?_
  simp [hj, bv]

theorem new_at (w : World) (o : Obj) : (w.alloc o).drew.heap[w.heap.size]? = some o := heap_alloc_new w o
theorem new_under (w : World) (o p : Obj) : ((w.alloc o).alloc p).drew.heap[w.heap.size]? = some o := (Below.heap_alloc (w.alloc o) p w.heap.size (by simp)).trans (heap_alloc_new w o)
theorem new_over (w : World) (o p : Obj) : ((w.alloc o).alloc p).drew.heap[w.heap.size + 1]? = some p := by
  have := heap_alloc_new (w.alloc o) p
  rw [show (w.alloc o).heap.size = w.heap.size + 1 from by simp] at this
  exact this

theorem app_list (a b : ByteArray) : (a ++ b).data.toList = a.data.toList ++ b.data.toList := by simp

theorem size_app (a b : ByteArray) : (a ++ b).size = a.size + b.size := by simp
theorem size_one (x : UInt8) : ({ data := #[x] } : ByteArray).size = 1 := rfl

theorem made_zero (n : Nat) : madeCells #[.int .u8 0] n = ((List.replicate n (0 : UInt8)).map bv).toArray := by
  apply Array.ext
  · simp [madeCells]
  · intro i h1 h2
    simp [madeCells, bv, Nat.mod_one]

set_option maxRecDepth 20000 in
set_option maxHeartbeats 2000000 in
theorem walk (a0 a1 : Int) (_ : (Lit.int .i64 a0).wf = true) (_ : (Lit.int .i64 a1).wf = true) (w : World) :
    Calls Try.prog 5 #[.int .i64 a0, .int .i64 a1] w fun e w' => e = .returned (.bool true) ∧ Below w.heap.size w w' := by
  obtain ⟨k, hk⟩ : ∃ k : Nat, bits .and .i64 a0 127 = (k : Int) := ⟨(a0 % 128).toNat, by rw [i64_and127]; omega⟩
  obtain ⟨m, hm⟩ : ∃ m : Nat, bits .and .i64 a1 63 = (m : Int) := ⟨(a1 % 64).toNat, by rw [i64_and63]; omega⟩
  have hk1 : k ≤ 127 := by rw [i64_and127] at hk; omega
  have hm1 : m ≤ 63 := by rw [i64_and63] at hm; omega
  obtain ⟨i0, hi, hz0, hz1, hz2⟩ := info_parts info5
  have hmk : ∀ u : World, (Instr.makeSlice 32 (.int .i64 (1 + (k : Int))) (.int .i64 (1 + (k : Int)))).run Try.prog u =
      .ok (.slice (some ⟨u.heap.size, 0, none⟩) (1 + k) (1 + k)) (u.alloc (.cells (madeCells #[.int .u8 0] (1 + k)) 5)) := fun u => by
    have h := run_make (P := Try.prog) u 32 5 i0 (.int .u8 0) Try.underlying32 hi hz0 .i64 .i64 (1 + (k : Int)) (1 + (k : Int)) (by omega) (Int.le_refl _) (by rw [hz2]; omega) (by omega)
    have e : (1 + (k : Int)).toNat = 1 + k := by omega
    rw [e] at h
    simpa [hz1, Value.cells] using h
  clear hz2 hz1 hz0 hi
  go_enter Try.func5, Try.ntmps5
  go_wp2_with (first
    | (go_at_call 18; refine (awake_any _).mono ?_; rintro e w1 ⟨rfl, hb1⟩))
  obtain ⟨zs, hzs⟩ : ∃ zs : ByteArray, zs.data.toList = List.replicate (1 + k) 0 := ⟨⟨(List.replicate (1 + k) 0).toArray⟩, by simp⟩
  have hzz : (⟨(List.replicate (1 + k) (0 : UInt8)).toArray⟩ : ByteArray) = zs := mk_of hzs
  have hzl : zs.size = 1 + k := by rw [← data_len, hzs]; simp
  obtain ⟨K, hK⟩ : ∃ K : UInt8, (K.toNat : Int) = 1 + (k : Int) := ⟨UInt8.ofNat (1 + k), by rw [toNat_of (by omega)]; omega⟩
  have r1 : (convert 32 9 (.slice (some ⟨w1.heap.size, 0, none⟩) (1 + k) (1 + k))).run Try.prog (w1.alloc (.cells (madeCells #[.int .u8 0] (1 + k)) 5)).drew = .ok (.string zs) (w1.alloc (.cells (madeCells #[.int .u8 0] (1 + k)) 5)).drew := (conv_at _ _ _ _ (by simp) _ (made_zero _) (new_at w1 _)).trans (by rw [hzz])
  have r2 : (convert 32 9 (.slice (some ⟨w1.heap.size, 0, none⟩) 1 1)).run Try.prog (w1.alloc (.cells #[.int .u8 (1 + (k : Int))] 5)).drew = .ok (.string ⟨#[K]⟩) (w1.alloc (.cells #[.int .u8 (1 + (k : Int))] 5)).drew := conv_at _ _ [K] 1 rfl _ (by simp [bv, hK]) (new_at w1 _)
  have r3 : (convert 32 9 (.slice (some ⟨w1.heap.size, 0, none⟩) (1 + k) (1 + k))).run Try.prog ((w1.alloc (.cells (madeCells #[.int .u8 0] (1 + k)) 5)).alloc (.cells #[.int .u8 (1 + (k : Int))] 5)).drew = .ok (.string zs) ((w1.alloc (.cells (madeCells #[.int .u8 0] (1 + k)) 5)).alloc (.cells #[.int .u8 (1 + (k : Int))] 5)).drew := (conv_at _ _ _ _ (by simp) _ (made_zero _) (new_under w1 _ _)).trans (by rw [hzz])
  have r4 : (convert 32 9 (.slice (some ⟨w1.heap.size + 1, 0, none⟩) 1 1)).run Try.prog ((w1.alloc (.cells (madeCells #[.int .u8 0] (1 + k)) 5)).alloc (.cells #[.int .u8 (1 + (k : Int))] 5)).drew = .ok (.string ⟨#[K]⟩) ((w1.alloc (.cells (madeCells #[.int .u8 0] (1 + k)) 5)).alloc (.cells #[.int .u8 (1 + (k : Int))] 5)).drew := conv_at _ _ [K] 1 rfl _ (by simp [bv, hK]) (new_over w1 _ _)
  have r5 : (convert 32 9 (.slice (some ⟨w1.heap.size, 0, none⟩) 1 1)).run Try.prog ((w1.alloc (.cells #[.int .u8 (1 + (k : Int))] 5)).alloc (.cells (madeCells #[.int .u8 0] (1 + k)) 5)).drew = .ok (.string ⟨#[K]⟩) ((w1.alloc (.cells #[.int .u8 (1 + (k : Int))] 5)).alloc (.cells (madeCells #[.int .u8 0] (1 + k)) 5)).drew := conv_at _ _ [K] 1 rfl _ (by simp [bv, hK]) (new_under w1 _ _)
  have r6 : (convert 32 9 (.slice (some ⟨w1.heap.size + 1, 0, none⟩) (1 + k) (1 + k))).run Try.prog ((w1.alloc (.cells #[.int .u8 (1 + (k : Int))] 5)).alloc (.cells (madeCells #[.int .u8 0] (1 + k)) 5)).drew = .ok (.string zs) ((w1.alloc (.cells #[.int .u8 (1 + (k : Int))] 5)).alloc (.cells (madeCells #[.int .u8 0] (1 + k)) 5)).drew := (conv_at _ _ _ _ (by simp) _ (made_zero _) (new_over w1 _ _)).trans (by rw [hzz])
  have HZ : Hid (zs.data.toList = List.replicate (1 + k) 0) := hzs
  have HK : Hid ((K.toNat : Int) = 1 + (k : Int)) := hK
  clear hzz hzs hK
  go_region
  all_goals
    clear r1 r2 r3 r4 r5 r6 hmk
    go_wp2
    go_loop [8, 9] (fun v i => ∃ (j : Nat) (sb : ByteArray), j ≤ 1 + m ∧ i = .int .i64 j ∧ v = .string sb ∧ sb.size ≤ 200 * j ∧ Hid (sb.data.toList = rep j K (List.replicate (1 + k) 0))) (fun _ i => 1 + m - (intOf i).toNat)
    case atStart => exact ⟨0, ⟨#[]⟩, by omega, rfl, rfl, Nat.le_refl _, rfl⟩
    case round =>
      obtain ⟨j, sb, hj, rfl, rfl, hsb, hrep⟩ := hrel
      by_cases hlt : j < 1 + m
      · go_wp2
        go_round
        case rel => exact ⟨j + 1, _, by omega, by go_num, rfl, by rw [size_app, size_app, size_one, hzl]; omega, by unfold Hid; rw [app_list, app_list, hrep.out, HZ.out, rep_snoc]; rfl⟩
        case measure => simp [intOf]; omega
      · obtain rfl : j = 1 + m := by omega
        have hL1 : (sb ++ ({ data := #[0] } : ByteArray)).data.toList = rep (1 + m) K (List.replicate (1 + k) 0) ++ [0] := by rw [app_list, hrep.out]
        have hL2 : (sb ++ ({ data := #[0] } : ByteArray) ++ ({ data := #[0] } : ByteArray)).data.toList = rep (1 + m) K (List.replicate (1 + k) 0) ++ [0] ++ [0] := by rw [app_list, hL1]
        have hL3 : ((sb ++ ({ data := #[0] } : ByteArray)).extract 0 sb.size).data.toList = rep (1 + m) K (List.replicate (1 + k) 0) := by
          rw [ext_list, hL1, List.drop_zero, List.take_left' (by rw [← hrep.out, data_len]; omega)]
        have HS1 : Hid ((sb ++ ({ data := #[0] } : ByteArray)).size ≤ maxLen) := by unfold Hid maxLen; rw [size_app, size_one]; omega
        have HS2 : Hid ((sb ++ ({ data := #[0] } : ByteArray) ++ ({ data := #[0] } : ByteArray)).size ≤ maxLen) := by unfold Hid maxLen; rw [size_app, size_app, size_one]; omega
        have HS3 : Hid (((sb ++ ({ data := #[0] } : ByteArray)).extract 0 sb.size).size ≤ maxLen) := by unfold Hid; rw [← data_len, hL3, ← hrep.out, data_len]; unfold maxLen; omega
        have hall := rep_all K (List.replicate (1 + k) 0) (1 + m) (by rw [List.length_replicate]; have := HK.out; omega) (by simp) (by omega)
        rw [← hL2, ← hL1, ← hL3, List.length_replicate] at hall
        obtain ⟨hyes, hno, hf3, hf4⟩ := hall
        have HF3 : Hid (isName (sb ++ ({ data := #[0] } : ByteArray) ++ ({ data := #[0] } : ByteArray)).data.toList = false) := hf3
        have HF4 : Hid (isName ((sb ++ ({ data := #[0] } : ByteArray)).extract 0 sb.size).data.toList = false) := hf4
        have hlen : ((sb ++ ({ data := #[0] } : ByteArray)).extract 0 sb.size).data.toList.length = sb.size := by rw [hL3, ← hrep.out, data_len]
        rw [hlen] at hyes hno
        clear hf3 hf4 hL1 hL2 hL3 hlen
        by_cases hfine : 1 + k ≤ 63 ∧ sb.size + 1 ≤ 255
        · obtain ⟨hf1, hf2⟩ := hyes hfine
          have HF1 : Hid (isName (sb ++ ({ data := #[0] } : ByteArray)).data.toList = true) := hf1
          have HF2 : Hid (cnt (sb ++ ({ data := #[0] } : ByteArray)).data.toList = 1 + m) := hf2
          obtain ⟨hfa, hfb⟩ := hfine
          clear hyes hno hf1 hf2
          have t1 : True := trivial
          have t2 : True := trivial
          have t3 : True := trivial
          go_wp2_with (first
            | (go_at_call 14; have _t := t1; refine (may_as _ true _ HS1.out HF1.out).mono ?_; rintro e w' ⟨rfl, hw⟩; obtain rfl := hw.symm; clear t1)
            | (go_at_call 16; refine (count_as _ (1 + m) _ HS1.out HF2.out).mono ?_; rintro e w' ⟨rfl, hw⟩; obtain rfl := hw.symm)
            | (go_at_call 14; have _t := t2; refine (may_as _ false _ HS2.out HF3.out).mono ?_; rintro e w' ⟨rfl, hw⟩; obtain rfl := hw.symm; clear t2)
            | (go_at_call 14; have _t := t3; refine (may_as _ false _ HS3.out HF4.out).mono ?_; rintro e w' ⟨rfl, hw⟩; obtain rfl := hw.symm; clear t3))
          go_ret
          exact ⟨ret_bool (by first | rfl | (simp; omega)), (lay (lay hb1 _) _).drew⟩
        · obtain ⟨hf1, hf2⟩ := hno hfine
          have HF1 : Hid (isName (sb ++ ({ data := #[0] } : ByteArray)).data.toList = false) := hf1
          have HF2 : Hid (cnt (sb ++ ({ data := #[0] } : ByteArray)).data.toList = 0) := hf2
          clear hyes hno hf1 hf2
          by_cases hfa : 1 + k ≤ 63
          · have hfb : ¬ sb.size + 1 ≤ 255 := fun h => hfine ⟨hfa, h⟩
            clear hfine
            have t1 : True := trivial
            have t2 : True := trivial
            have t3 : True := trivial
            go_wp2_with (first
              | (go_at_call 14; have _t := t1; refine (may_as _ false _ HS1.out HF1.out).mono ?_; rintro e w' ⟨rfl, hw⟩; obtain rfl := hw.symm; clear t1)
              | (go_at_call 16; refine (count_as _ 0 _ HS1.out HF2.out).mono ?_; rintro e w' ⟨rfl, hw⟩; obtain rfl := hw.symm)
              | (go_at_call 14; have _t := t2; refine (may_as _ false _ HS2.out HF3.out).mono ?_; rintro e w' ⟨rfl, hw⟩; obtain rfl := hw.symm; clear t2)
              | (go_at_call 14; have _t := t3; refine (may_as _ false _ HS3.out HF4.out).mono ?_; rintro e w' ⟨rfl, hw⟩; obtain rfl := hw.symm; clear t3))
            go_ret
            exact ⟨ret_bool (by first | rfl | (simp; omega)), (lay (lay hb1 _) _).drew⟩
          · clear hfine
            have t1 : True := trivial
            have t2 : True := trivial
            have t3 : True := trivial
            go_wp2_with (first
              | (go_at_call 14; have _t := t1; refine (may_as _ false _ HS1.out HF1.out).mono ?_; rintro e w' ⟨rfl, hw⟩; obtain rfl := hw.symm; clear t1)
              | (go_at_call 16; refine (count_as _ 0 _ HS1.out HF2.out).mono ?_; rintro e w' ⟨rfl, hw⟩; obtain rfl := hw.symm)
              | (go_at_call 14; have _t := t2; refine (may_as _ false _ HS2.out HF3.out).mono ?_; rintro e w' ⟨rfl, hw⟩; obtain rfl := hw.symm; clear t2)
              | (go_at_call 14; have _t := t3; refine (may_as _ false _ HS3.out HF4.out).mono ?_; rintro e w' ⟨rfl, hw⟩; obtain rfl := hw.symm; clear t3))
            go_ret
            exact ⟨ret_bool (by first | rfl | (simp; omega)), (lay (lay hb1 _) _).drew⟩

theorem own : ownKnob Try.prog.godebug = none := by kernel_rfl

set_option maxRecDepth 100000 in
theorem lifted (os : Os) (started : os.Started) (H : Type) (enc : TypeId × Value → H) :
    ReturnsInHanded {} Try.checked os 5 .any (Rows.nameLimitsSpec.pre6 enc Try.prog Try.f5 Rows.nameLimitsRow.domain false) (Rows.nameLimitsSpec.post enc Try.prog Try.f5 false true false false) := by
  refine returnsInHanded_of_change (C := Try.checked) own started (by kernel_rfl) Try.func5
    (ChangeSpec.witness6 (enc := enc) (C := Try.checked) false ⟨#[], #[.int .i64 0, .int .i64 0], []⟩ 8 (by kernel_rfl) (by kernel_rfl) (by kernel_rfl) (by kernel_rfl)) ?_
  intro W base args ds gs before hval0 hW _ _
  have hval : ∀ (j : Nat) t v, Try.f5.params[j]? = some t → args[j]? = some v → Value.okWide Try.prog W .any base t v := hval0
  have hW' := hW
  obtain ⟨p, q, hA0, hV, rfl, hfz, hnd⟩ := hW
  have hA : DataW.TrodAll enc Try.prog W 0 (fun _ => true) true Try.f5.params.toList args.toList ds p := hA0
  rw [Try.params5] at hA hval
  obtain ⟨v0, vs0, d0, ds0, p0, q0, hargs, rfl, rfl, h0, r0⟩ := trodAll_cons hA
  obtain ⟨v1, vs1, d1, ds1, p1, q1, rfl, rfl, rfl, h1, r1⟩ := trodAll_cons r0
  obtain ⟨rfl, rfl, rfl⟩ := trodAll_nil r1
  obtain rfl : args = #[v0, v1] := by cases args; simp_all
  obtain ⟨rfl, rfl⟩ := trodVars_none hV
  obtain ⟨a0, rfl, rfl, rfl, w0⟩ := open_int Try.underlying3 (hval 0 3 v0 rfl rfl) h0
  obtain ⟨a1, rfl, rfl, rfl, w1⟩ := open_int Try.underlying3 (hval 1 3 v1 rfl rfl) h1
  clear hA0 hval0
  simp only [List.append_nil] at hW'
  refine (walk a0 a1 w0 w1 W).mono fun e W' ⟨he, bel⟩ => ?_
  subst he
  exact ⟨_, rfl, _, _, _, [], [], [], hW', trodAll_mk1 (shut_bool Try.underlying4 _), (trodAll_cons_mk (shut_int Try.underlying3 w0) (trodAll_cons_mk (shut_int Try.underlying3 w1) trodAll_mk0)), rfl, bel.frame _, fun h => by cases h⟩

/-- The statement. -/
theorem proved : Rows.NameLimitsSaid :=
  OpenClaim.holds_of_wide 5 Try.f5 rfl rfl rfl rfl rfl rfl rfl ⟨rfl, rfl, rfl, rfl, rfl⟩ rfl rfl rfl rfl rfl (by kernel_rfl) Try.func5 (by kernel_rfl)
    (of_decide_eq_true (by kernel_rfl)) (by unfold Func.isWrapper; first | (rw [if_pos (by decide +kernel)]; kernel_rfl) | (rw [if_neg (by decide +kernel)]; exact ⟨rfl, rfl⟩))
    (fun os started H enc _ => lifted os started H enc)
#print axioms proved

end Go.Proofs.Ytkfpboippchdbaa.nameLimits
