/- CutsLearn holds: for every two numbers and every row of numbers, an address of a host is learned by all cuts that have it, once; others do not learn it. -/
import Derived.Test.YtnjgdfmldjgloaaXCwC
import Derived.Test.YtnjgdfmldjgloaaXInA
import Derived.ProofKit
import Derived.OpenShut
import Derived.ShutString
namespace Go.Proofs.Ytnjgdfmldjgloaa.cutsLearn
open Go.ChangeShapes Go.WideShapes Go.ChangeAt Go.RowKit
open Go.ChangeMaps (open_string shut_string)
open Pl

theorem boxes {w w2 : World} {o : Cu.OB} (s2 : Cu.LW w w2 o Cu.Hs2 Cu.Hb2 [] (fun _ => False)) :
    ∃ M : Nat → Prop, M (w2.heap.size + 1 + 1) ∧ M (w2.heap.size + 1 + 1 + 1) ∧ Cu.LW w ((((w2.alloc (.cells #[.string ⟨#[1, 120, 0]⟩, .string ⟨#[1, 121, 0]⟩] 9)).alloc (.cells #[.string ⟨#[1, 97, 0]⟩, .slice (some ⟨w2.heap.size, 0, none⟩) 2 2, .slice none 0 0, .int .i64 500] 33)).alloc (.cells #[.string ⟨#[1, 121, 0]⟩] 9)).alloc (.cells #[.string ⟨#[1, 98, 0]⟩, .slice (some ⟨w2.heap.size + 1 + 1, 0, none⟩) 1 1, .slice none 0 0, .int .i64 500] 33)) o Cu.Hs2 Cu.Hb2 [] M ∧
      Blk ((((w2.alloc (.cells #[.string ⟨#[1, 120, 0]⟩, .string ⟨#[1, 121, 0]⟩] 9)).alloc (.cells #[.string ⟨#[1, 97, 0]⟩, .slice (some ⟨w2.heap.size, 0, none⟩) 2 2, .slice none 0 0, .int .i64 500] 33)).alloc (.cells #[.string ⟨#[1, 121, 0]⟩] 9)).alloc (.cells #[.string ⟨#[1, 98, 0]⟩, .slice (some ⟨w2.heap.size + 1 + 1, 0, none⟩) 1 1, .slice none 0 0, .int .i64 500] 33)) w2.heap.size #[.string ⟨#[1, 120, 0]⟩, .string ⟨#[1, 121, 0]⟩] 9 ∧
      Blk ((((w2.alloc (.cells #[.string ⟨#[1, 120, 0]⟩, .string ⟨#[1, 121, 0]⟩] 9)).alloc (.cells #[.string ⟨#[1, 97, 0]⟩, .slice (some ⟨w2.heap.size, 0, none⟩) 2 2, .slice none 0 0, .int .i64 500] 33)).alloc (.cells #[.string ⟨#[1, 121, 0]⟩] 9)).alloc (.cells #[.string ⟨#[1, 98, 0]⟩, .slice (some ⟨w2.heap.size + 1 + 1, 0, none⟩) 1 1, .slice none 0 0, .int .i64 500] 33)) (w2.heap.size + 1 + 1) #[.string ⟨#[1, 121, 0]⟩] 9 ∧
      Blk ((((w2.alloc (.cells #[.string ⟨#[1, 120, 0]⟩, .string ⟨#[1, 121, 0]⟩] 9)).alloc (.cells #[.string ⟨#[1, 97, 0]⟩, .slice (some ⟨w2.heap.size, 0, none⟩) 2 2, .slice none 0 0, .int .i64 500] 33)).alloc (.cells #[.string ⟨#[1, 121, 0]⟩] 9)).alloc (.cells #[.string ⟨#[1, 98, 0]⟩, .slice (some ⟨w2.heap.size + 1 + 1, 0, none⟩) 1 1, .slice none 0 0, .int .i64 500] 33)) (w2.heap.size + 1 + 1 + 1) #[.string ⟨#[1, 98, 0]⟩, .slice (some ⟨w2.heap.size + 1 + 1, 0, none⟩) 1 1, .slice none 0 0, .int .i64 500] 33 := by
  obtain ⟨k0, k1, k2, hb, hz⟩ := Cu.three w2 #[.string ⟨#[1, 120, 0]⟩, .string ⟨#[1, 121, 0]⟩] #[.string ⟨#[1, 97, 0]⟩, .slice (some ⟨w2.heap.size, 0, none⟩) 2 2, .slice none 0 0, .int .i64 500] #[.string ⟨#[1, 121, 0]⟩] 9 33 9
  have k3 := Blk.new (((w2.alloc (.cells #[.string ⟨#[1, 120, 0]⟩, .string ⟨#[1, 121, 0]⟩] 9)).alloc (.cells #[.string ⟨#[1, 97, 0]⟩, .slice (some ⟨w2.heap.size, 0, none⟩) 2 2, .slice none 0 0, .int .i64 500] 33)).alloc (.cells #[.string ⟨#[1, 121, 0]⟩] 9)) #[.string ⟨#[1, 98, 0]⟩, .slice (some ⟨w2.heap.size + 1 + 1, 0, none⟩) 1 1, .slice none 0 0, .int .i64 500] 33
  rw [hz] at k3
  refine ⟨fun k => w2.heap.size ≤ k ∧ k < w2.heap.size + 1 + 1 + 1 + 1, ⟨by omega, by omega⟩, ⟨by omega, by omega⟩, s2.more (lay hb _) (fun k hk => ⟨.inr hk.1, by rw [World.size_alloc, hz]; exact hk.2⟩), k0.alloc _, k2.alloc _, k3⟩
theorem din_two {w : World} {X : Nat} (kx : Blk w X #[.string ⟨#[1, 120, 0]⟩, .string ⟨#[1, 121, 0]⟩] 9) : Cu.DIn w Cu.lnD1 (.slice (some ⟨X, 0, none⟩) 2 2) (.slice none 0 0) :=
  ⟨Row.of_blk kx rfl 2 2, ⟨_, 2, rfl, Nat.le_refl _⟩, Row.nil _ _, show 2 ≤ maxLen by decide, show 0 ≤ maxLen by decide, show ByteArray.size ⟨#[1, 97, 0]⟩ ≤ maxLen by decide, fun z hz => by
    unfold Cu.lnD1 at hz
    simp at hz
    rcases hz with rfl | rfl <;> decide, fun z hz => by
    unfold Cu.lnD1 at hz
    simp at hz⟩
theorem din_one {w : World} {X : Nat} (kx : Blk w X #[.string ⟨#[1, 121, 0]⟩] 9) : Cu.DIn w Cu.lnD2 (.slice (some ⟨X, 0, none⟩) 1 1) (.slice none 0 0) :=
  ⟨Row.of_blk kx rfl 1 1, ⟨_, 1, rfl, Nat.le_refl _⟩, Row.nil _ _, show 1 ≤ maxLen by decide, show 0 ≤ maxLen by decide, show ByteArray.size ⟨#[1, 98, 0]⟩ ≤ maxLen by decide, fun z hz => by
    unfold Cu.lnD2 at hz
    simp at hz
    subst hz; decide, fun z hz => by
    unfold Cu.lnD2 at hz
    simp at hz⟩
theorem pick4 {u : World} {g hh : Nat} (h : hh < 4) (hb : Blk u g #[.string ⟨#[1, 88, 0]⟩, .string ⟨#[1, 89, 0]⟩, .string ⟨#[1, 122, 0]⟩, .string ⟨#[1, 97, 0]⟩] 9) : u.cell? ⟨g, hh, none⟩ = some (.string (Cu.lnH hh)) := by
  rw [hb.cell hh]
  have : hh = 0 ∨ hh = 1 ∨ hh = 2 ∨ hh = 3 := by omega
  rcases this with rfl | rfl | rfl | rfl <;> rfl

/-- How far the last loop is. -/
def BX (w wb wr : World) (o : Cu.OB) (F : List Cu.Ct) (v : Value) : Prop := Below wb.heap.size wb wr ∧ Cu.LW w wr o Cu.Hs2 Cu.Hb2 F (fun k => (Value.slice none 0 0).ownBlock = some k ∨ v.ownBlock = some k)
/-- How far the first loop is. -/
def SX (w wr : World) (o : Cu.OB) (hh : Nat) (u : Int) (n : Nat) (v : Value) : Prop :=
  ∃ S : List Int, S.length = n ∧ (u ≤ 2 → S = []) ∧ Cu.DW w wr o (Cu.lnF hh u S) (.slice none 0 0) 0 [] v n (Cu.iC S)

set_option maxRecDepth 20000 in
set_option maxHeartbeats 8000000 in
theorem walk (host : Int) (v0 : Value) (ls : List Int) (til : Int) (_ : (Lit.int .i64 host).wf = true) (_ : (Lit.int .i64 til).wf = true) (w : World) (hr0 : Row w v0 ls.length (iC ls) ∧ ls.length ≤ maxLen) :
    Calls Try.prog 7 #[.int .i64 host, v0, .int .i64 til] w fun e w' => e = .returned (.bool true) ∧ Below w.heap.size w w' := by
  obtain ⟨i3, hi3, hz30, hz31, hz32⟩ := info_parts Cu.infoI
  obtain ⟨x0, c0, rfl, _⟩ := hr0.1.src
  obtain ⟨n0, hn0⟩ : ∃ n, n = ls.length := ⟨_, rfl⟩
  have HN0 : Hid (n0 = ls.length) := hn0
  have HR0 : Hid (Row w (.slice x0 n0 c0) n0 (iC ls)) := by unfold Hid; rw [hn0]; exact hr0.1
  have hm0 : n0 ≤ maxLen := by rw [hn0]; exact hr0.2
  unfold maxLen at hm0
  rw [← hn0]
  obtain ⟨hh, hh4, hhb⟩ : ∃ hh : Nat, hh < 4 ∧ bits .and .i64 host 3 = (hh : Int) := by
    refine ⟨(host % 4).toNat, by omega, ?_⟩
    have := mask host 2 (by decide)
    simp only [Nat.reducePow, Nat.reduceSub] at this
    have e : bits .and .i64 host 3 = host % 4 := this
    rw [e]; omega
  obtain ⟨U, hU, hUb⟩ : ∃ U : Nat, U < 64 ∧ bits .and .i64 til 63 = (U : Int) := by
    refine ⟨(til % 64).toNat, by omega, ?_⟩
    have := mask til 6 (by decide)
    simp only [Nat.reducePow, Nat.reduceSub] at this
    have e : bits .and .i64 til 63 = til % 64 := this
    rw [e]; omega
  have hh4' : (hh : Int) < 4 := by omega
  obtain ⟨u, hu⟩ : ∃ u : Int, 2 + (U : Int) = u := ⟨_, rfl⟩
  have hu2 : 2 ≤ u := by omega
  have t1 : True := trivial
  have t2 : True := trivial
  clear hr0 hn0
  go_enter Try.func7, Try.ntmps7
  go_wp2_with (first
    | (go_at_call 8; go_must (refine (Cu.awake_any _).mono ?_); rintro e w1 ⟨rfl, b1⟩)
    | (go_at_call 10; go_must (refine (Cu.hints_any _).mono ?_); rintro e wh ⟨rfl, rfl⟩)
    | (go_at_call 9; go_must (refine (Cu.lw_hints (M := fun _ => False) b1 (fun _ h => h.elim)).mono ?_); rintro e w2 ⟨o, rfl, s2, _⟩; obtain ⟨M, m3, m4, s4, k1, k3, k4⟩ := boxes s2; have HM : Hid (M (w2.heap.size + 1 + 1) ∧ M (w2.heap.size + 1 + 1 + 1)) := ⟨m3, m4⟩; have hp1 := s4.put (din_two k1) ⟨#[0]⟩ 1 (by decide) 0 Cu.lnE1 Cu.lnF1 Cu.lnP1; clear b1 s2 m3 m4)
    | (go_at_call 11; have _t := t1; go_must (refine hp1.mono ?_); rintro e w5 ⟨rfl, s5, T5⟩; have k3' := T5.blk k3 (fun h => h.2 HM.out.1); have k4' := T5.blk k4 (fun h => h.2 HM.out.2); have z0 := k4'.cell 0; have z1 := k4'.cell 1; have z2 := k4'.cell 2; have z3 := k4'.cell 3; simp only [List.getElem?_toArray, List.getElem?_cons_succ, List.getElem?_cons_zero] at z0 z1 z2 z3; have hp2 := s5.put (din_one k3') ⟨#[0]⟩ 1 (by decide) 0 Cu.lnE2 _ Cu.lnP2; clear t1 hp1 s4 s5 T5 k1 k3 k4 k3' k4')
    | (go_at_call 11; have _t := t2; go_must (refine hp2.mono ?_); rintro e w6 ⟨rfl, s6, _⟩; have hpk := pick4 hh4 (Blk.new w6 #[.string ⟨#[1, 88, 0]⟩, .string ⟨#[1, 89, 0]⟩, .string ⟨#[1, 122, 0]⟩, .string ⟨#[1, 97, 0]⟩] 9); have s7 := s6.below (lay (Below.refl w6.heap.size w6) (.cells #[.string ⟨#[1, 88, 0]⟩, .string ⟨#[1, 89, 0]⟩, .string ⟨#[1, 122, 0]⟩, .string ⟨#[1, 97, 0]⟩] 9)); rw [Cu.lnF_nil hh u] at s7; have HD0 : Hid (SX w (w6.alloc (.cells #[.string ⟨#[1, 88, 0]⟩, .string ⟨#[1, 89, 0]⟩, .string ⟨#[1, 122, 0]⟩, .string ⟨#[1, 97, 0]⟩] 9)) o hh u 0 (.slice none 0 0)) := ⟨[], rfl, fun _ => rfl, Cu.DW.start (s7.more (Below.refl _ _) (fun _ h => h.elim))⟩; clear t2 hp2 s6 s7 z0 z1 z2 z3))
  generalize w6.alloc (.cells #[.string ⟨#[1, 88, 0]⟩, .string ⟨#[1, 89, 0]⟩, .string ⟨#[1, 122, 0]⟩, .string ⟨#[1, 97, 0]⟩] 9) = w7 at HD0 ⊢
  clear hpk HM
  obtain ⟨LH, hLH⟩ : ∃ LH, LH = Cu.lnH hh := ⟨_, rfl⟩
  rw [← hLH]
  have HLH : Hid (LH = Cu.lnH hh) := hLH
  have HLS : Hid (LH.size ≤ maxLen) := by
    unfold Hid
    rw [hLH]
    have : hh = 0 ∨ hh = 1 ∨ hh = 2 ∨ hh = 3 := by omega
    rcases this with rfl | rfl | rfl | rfl <;> decide
  clear hLH
  go_loopw [13, 14] (fun s13 k wr => ∃ (j n : Nat) (y : Option Addr) (c : Nat), j ≤ n0 ∧ j ≤ 30 ∧ n ≤ j ∧ n ≤ 16 ∧ s13 = .slice y n c ∧ k = .int .i64 (j : Int) ∧ Hid (SX w wr o hh u n (.slice y n c))) (fun _ k _ => 30 - (intOf k).toNat)
  case atStart => exact ⟨0, 0, _, _, Nat.zero_le _, Nat.zero_le _, Nat.zero_le _, Nat.zero_le _, rfl, rfl, HD0⟩
  case round =>
    clear HD0
    obtain ⟨j, n, y, c, hj0, hj3, hnj, hn6, rfl, rfl, HX⟩ := hrel
    by_cases hlt : j < n0 ∧ j < 30
    · obtain ⟨h0, h30⟩ := hlt
      have h30' : (j : Int) < 30 := by omega
      obtain ⟨S, hSn, hS2, hW⟩ := HX.out
      have hjm0 : j < ls.length := by have := HN0.out; omega
      obtain ⟨g0, o0, cp0, hx, hc0⟩ := row_at (HR0.out.below hW.lw.bel) (by omega)
      simp only [Value.slice.injEq] at hx
      obtain ⟨rfl, -, rfl⟩ := hx
      have e0 := hc0 j _ (iC_at hjm0)
      obtain ⟨p, hp⟩ : ∃ p, p = ls[j] := ⟨_, rfl⟩
      rw [← hp] at e0
      obtain ⟨a, ha, hab⟩ : ∃ a : Nat, a < 32 ∧ bits .and .i64 p 31 = (a : Int) := by
        refine ⟨(p % 32).toNat, by omega, ?_⟩
        have := mask p 5 (by decide)
        simp only [Nat.reducePow, Nat.reduceSub] at this
        have e : bits .and .i64 p 31 = p % 32 := this
        rw [e]; omega
      have hstep : Cu.lrnC (Cu.lnF hh u S) LH (a : Int) u 2 = Cu.lnF hh u (Cu.stepS u S (a : Int)) := by
        rw [HLH.out]
        exact Cu.lrn_step hh u S (a : Int) (by unfold Cu.wideB; rw [decide_eq_true (by omega), decide_eq_true (by omega)]; rfl) hS2
      have hln := hW.lw.learn LH (a : Int) u 2 HLS.out (Cu.ln_few hh u S (by omega)) _ hstep
      have HTN : Hid (∀ wn, Cu.LW w wn o Cu.Hs2 Cu.Hb2 (Cu.lnF hh u (Cu.stepS u S (a : Int))) (fun k => (Value.slice none 0 0).ownBlock = some k ∨ (Value.slice y n c).ownBlock = some k) → Turn (Cu.Far w (fun k => (Value.slice none 0 0).ownBlock = some k ∨ (Value.slice y n c).ownBlock = some k)) wr wn → Cu.DW w wn o (Cu.lnF hh u (Cu.stepS u S (a : Int))) (.slice none 0 0) 0 [] (.slice y n c) n (Cu.iC S)) := fun wn lw T => hW.turn lw T
      have HSN : Hid (S.length = n ∧ (u ≤ 2 → S = [])) := ⟨hSn, hS2⟩
      clear hc0 hp hstep hW HX hSn hS2
      cases hfr : decide (2 < u) with
      | false =>
        have HFR0 : Hid (false = (decide (2 < u) && (S.take 0).all fun z => !decide (z = (a : Int)))) := by unfold Hid; rw [hfr]; rfl
        go_wp2_with (go_at_call 12; go_must (refine hln.mono ?_); rintro e w9 ⟨rfl, lw9, T9⟩; have HW9 : Hid _ := HTN.out w9 lw9 T9; clear hln lw9 T9 e0)
        clear HTN
        go_loopw [16, 17] (fun s16 k wr => wr = w9 ∧ ∃ (i : Nat) (fr : Bool), i ≤ n ∧ s16 = .bool fr ∧ k = .int .i64 (i : Int) ∧ Hid (fr = (decide (2 < u) && (S.take i).all fun z => !decide (z = (a : Int))))) (fun _ k _ => n - (intOf k).toNat)
        case atStart => exact ⟨rfl, 0, _, Nat.zero_le _, rfl, rfl, HFR0⟩
        case round =>
          clear HFR0
          obtain ⟨hwr, i, fr, hi, rfl, rfl, HF⟩ := hrel
          subst hwr
          by_cases hin : i < n
          · have hin' : (i : Int) < (n : Int) := by omega
            have hiS : i < S.length := by have := HSN.out.1; omega
            have HTK : Hid ((S.take (i + 1)).all (fun z => !decide (z = (a : Int))) = ((S.take i).all (fun z => !decide (z = (a : Int))) && !decide (S[i] = (a : Int)))) := by
              unfold Hid
              rw [List.take_succ_eq_append_getElem hiS, List.all_append]
              simp
            cases fr with
            | false =>
              have HF2 : Hid (false = (decide (2 < u) && (S.take (i + 1)).all fun z => !decide (z = (a : Int)))) := by
                unfold Hid
                rw [HTK.out, ← Bool.and_assoc, ← HF.out]
                rfl
              clear HTK HF
              go_wp2
              go_roundw
              case rel => exact ⟨trivial, i + 1, _, by omega, rfl, by go_num, HF2⟩
              case measure => simp [intOf]; omega
            | true =>
              obtain ⟨gb, cb, hxb, _, _⟩ := HW9.out.r2.form (by omega)
              simp only [Value.slice.injEq] at hxb
              obtain ⟨rfl, -, rfl⟩ := hxb
              have d2 := (lies_own HW9.out.r2).1 i (.int .i64 S[i]) (by unfold Cu.iC; rw [List.getElem?_map, List.getElem?_eq_getElem hiS]; rfl)
              obtain ⟨qq, hqq⟩ : ∃ qq, qq = S[i] := ⟨_, rfl⟩
              rw [← hqq] at d2 HTK
              by_cases hq : qq = (a : Int)
              · have HF2 : Hid (false = (decide (2 < u) && (S.take (i + 1)).all fun z => !decide (z = (a : Int)))) := by
                  unfold Hid
                  rw [HTK.out, decide_eq_true hq]
                  simp
                subst hq
                clear HTK HF hqq
                go_wp2
                go_roundw
                case rel => exact ⟨trivial, i + 1, _, by omega, rfl, by go_num, HF2⟩
                case measure => simp [intOf]; omega
              · have hqa : (qq == (a : Int)) = false := by simpa using hq
                have HF2 : Hid ((qq != (a : Int)) = (decide (2 < u) && (S.take (i + 1)).all fun z => !decide (z = (a : Int)))) := by
                  unfold Hid
                  rw [show (qq != (a : Int)) = true by simpa using hq, HTK.out, ← Bool.and_assoc, ← HF.out, decide_eq_false hq]
                  rfl
                clear HTK HF hqq
                go_wp2
                go_roundw
                case rel => exact ⟨trivial, i + 1, _, by omega, rfl, by go_num, HF2⟩
                case measure => simp [intOf]; omega
          · have hin' : decide (i < n) = false := by simpa using hin
            have HALL : Hid (fr = (decide (2 < u) && S.all fun z => !decide (z = (a : Int)))) := by
              unfold Hid
              rw [HF.out, List.take_of_length_le (by have := HSN.out.1; omega)]
            clear HF hin
            cases fr with
            | false =>
              have HST : Hid (Cu.stepS u S (a : Int) = S) := by
                unfold Hid Cu.stepS
                rw [if_neg (fun e => ?_)]
                have h1 := HALL.out
                rw [decide_eq_true e.1, Bool.true_and, eq_comm, List.all_eq_false] at h1
                obtain ⟨z, hz, hz2⟩ := h1
                simp at hz2
                exact e.2.1 z hz hz2
              have HD9 : Hid (SX w wr o hh u n (.slice y n c)) := ⟨S, HSN.out.1, HSN.out.2, by have := HW9.out; rw [HST.out] at this; exact this⟩
              clear HW9 HST HALL
              go_wp2
              go_roundw
              case rel => exact ⟨j + 1, n, y, c, by omega, by omega, by omega, by omega, rfl, by go_num, HD9⟩
              case measure => simp [intOf]; omega
            | true =>
              by_cases h16 : n < 16
              · have h16' : (n : Int) < 16 := by omega
                have HST : Hid (Cu.stepS u S (a : Int) = S ++ [(a : Int)]) := by
                  unfold Hid Cu.stepS
                  have h1 := HALL.out
                  rw [eq_comm, Bool.and_eq_true, List.all_eq_true] at h1
                  rw [if_pos ⟨by simpa using h1.1, fun z hz => by simpa using h1.2 z hz, by have := HSN.out.1; omega⟩]
                have hb5 : Below wr.heap.size wr (wr.alloc (.cells #[.int .i64 (a : Int)] 3)) := lay (Below.refl _ _) _
                have hr5 := (HW9.out.below hb5).r2
                have hz5 : w.heap.size ≤ (wr.alloc (.cells #[.int .i64 (a : Int)] 3)).heap.size := (HW9.out.below hb5).lw.bel.size
                go_wp2_with (at_builtin; refine wpList_appG _ rfl (.tmp 91) (.tmp 93) 48 3 i3 _ 1 8 Try.underlying48 hi3 hz30 hz31 hz32 rfl (by decide) rfl w.heap.size _ n (Cu.iC S) rfl hr5 (.slice (some ⟨wr.heap.size, 0, none⟩) 1 1) 1 [.int .i64 (a : Int)] rfl (Row.of_blk (Blk.new wr #[.int .i64 (a : Int)] 3) rfl 1 1) rfl (by simp [Value.oneCell']) (by omega) (by unfold maxLen; omega) hz5 ?_; intro v6 w6 f1 f3 f4; have hw6 := HW9.out.app2 hb5 f1 f3 f4; obtain ⟨y6, q6, rfl⟩ := row_shape f1; have HW6 : Hid _ := hw6; clear f1 f3 f4 hw6 hr5 hz5)
                have HD9 : Hid (SX w w6 o hh u (n + 1) (.slice y6 (n + 1) q6)) := ⟨S ++ [(a : Int)], by simp [HSN.out.1], fun e => by
                  have h1 := HALL.out
                  rw [eq_comm, Bool.and_eq_true] at h1
                  have h2 := h1.1
                  simp at h2
                  omega, by have := HW6.out; rw [HST.out] at this; rw [Cu.iC_app]; exact this⟩
                clear HW6 HW9 HST HALL hb5
                go_roundw
                case rel => exact ⟨j + 1, n + 1, y6, q6, by omega, by omega, by omega, by omega, rfl, by go_num, HD9⟩
                case measure => simp [intOf]; omega
              · have h16' : decide ((n : Int) < 16) = false := by simp; omega
                have HST : Hid (Cu.stepS u S (a : Int) = S) := by
                  unfold Hid Cu.stepS
                  rw [if_neg (fun e => by have := e.2.2; have := HSN.out.1; omega)]
                have HD9 : Hid (SX w wr o hh u n (.slice y n c)) := ⟨S, HSN.out.1, HSN.out.2, by have := HW9.out; rw [HST.out] at this; exact this⟩
                clear HW9 HST HALL h16
                go_wp2
                go_roundw
                case rel => exact ⟨j + 1, n, y, c, by omega, by omega, by omega, by omega, rfl, by go_num, HD9⟩
                case measure => simp [intOf]; omega
      | true =>
        have HFR0 : Hid (true = (decide (2 < u) && (S.take 0).all fun z => !decide (z = (a : Int)))) := by unfold Hid; rw [hfr]; rfl
        go_wp2_with (go_at_call 12; go_must (refine hln.mono ?_); rintro e w9 ⟨rfl, lw9, T9⟩; have HW9 : Hid _ := HTN.out w9 lw9 T9; clear hln lw9 T9 e0)
        clear HTN
        go_loopw [16, 17] (fun s16 k wr => wr = w9 ∧ ∃ (i : Nat) (fr : Bool), i ≤ n ∧ s16 = .bool fr ∧ k = .int .i64 (i : Int) ∧ Hid (fr = (decide (2 < u) && (S.take i).all fun z => !decide (z = (a : Int))))) (fun _ k _ => n - (intOf k).toNat)
        case atStart => exact ⟨rfl, 0, _, Nat.zero_le _, rfl, rfl, HFR0⟩
        case round =>
          clear HFR0
          obtain ⟨hwr, i, fr, hi, rfl, rfl, HF⟩ := hrel
          subst hwr
          by_cases hin : i < n
          · have hin' : (i : Int) < (n : Int) := by omega
            have hiS : i < S.length := by have := HSN.out.1; omega
            have HTK : Hid ((S.take (i + 1)).all (fun z => !decide (z = (a : Int))) = ((S.take i).all (fun z => !decide (z = (a : Int))) && !decide (S[i] = (a : Int)))) := by
              unfold Hid
              rw [List.take_succ_eq_append_getElem hiS, List.all_append]
              simp
            cases fr with
            | false =>
              have HF2 : Hid (false = (decide (2 < u) && (S.take (i + 1)).all fun z => !decide (z = (a : Int)))) := by
                unfold Hid
                rw [HTK.out, ← Bool.and_assoc, ← HF.out]
                rfl
              clear HTK HF
              go_wp2
              go_roundw
              case rel => exact ⟨trivial, i + 1, _, by omega, rfl, by go_num, HF2⟩
              case measure => simp [intOf]; omega
            | true =>
              obtain ⟨gb, cb, hxb, _, _⟩ := HW9.out.r2.form (by omega)
              simp only [Value.slice.injEq] at hxb
              obtain ⟨rfl, -, rfl⟩ := hxb
              have d2 := (lies_own HW9.out.r2).1 i (.int .i64 S[i]) (by unfold Cu.iC; rw [List.getElem?_map, List.getElem?_eq_getElem hiS]; rfl)
              obtain ⟨qq, hqq⟩ : ∃ qq, qq = S[i] := ⟨_, rfl⟩
              rw [← hqq] at d2 HTK
              by_cases hq : qq = (a : Int)
              · have HF2 : Hid (false = (decide (2 < u) && (S.take (i + 1)).all fun z => !decide (z = (a : Int)))) := by
                  unfold Hid
                  rw [HTK.out, decide_eq_true hq]
                  simp
                subst hq
                clear HTK HF hqq
                go_wp2
                go_roundw
                case rel => exact ⟨trivial, i + 1, _, by omega, rfl, by go_num, HF2⟩
                case measure => simp [intOf]; omega
              · have hqa : (qq == (a : Int)) = false := by simpa using hq
                have HF2 : Hid ((qq != (a : Int)) = (decide (2 < u) && (S.take (i + 1)).all fun z => !decide (z = (a : Int)))) := by
                  unfold Hid
                  rw [show (qq != (a : Int)) = true by simpa using hq, HTK.out, ← Bool.and_assoc, ← HF.out, decide_eq_false hq]
                  rfl
                clear HTK HF hqq
                go_wp2
                go_roundw
                case rel => exact ⟨trivial, i + 1, _, by omega, rfl, by go_num, HF2⟩
                case measure => simp [intOf]; omega
          · have hin' : decide (i < n) = false := by simpa using hin
            have HALL : Hid (fr = (decide (2 < u) && S.all fun z => !decide (z = (a : Int)))) := by
              unfold Hid
              rw [HF.out, List.take_of_length_le (by have := HSN.out.1; omega)]
            clear HF hin
            cases fr with
            | false =>
              have HST : Hid (Cu.stepS u S (a : Int) = S) := by
                unfold Hid Cu.stepS
                rw [if_neg (fun e => ?_)]
                have h1 := HALL.out
                rw [decide_eq_true e.1, Bool.true_and, eq_comm, List.all_eq_false] at h1
                obtain ⟨z, hz, hz2⟩ := h1
                simp at hz2
                exact e.2.1 z hz hz2
              have HD9 : Hid (SX w wr o hh u n (.slice y n c)) := ⟨S, HSN.out.1, HSN.out.2, by have := HW9.out; rw [HST.out] at this; exact this⟩
              clear HW9 HST HALL
              go_wp2
              go_roundw
              case rel => exact ⟨j + 1, n, y, c, by omega, by omega, by omega, by omega, rfl, by go_num, HD9⟩
              case measure => simp [intOf]; omega
            | true =>
              by_cases h16 : n < 16
              · have h16' : (n : Int) < 16 := by omega
                have HST : Hid (Cu.stepS u S (a : Int) = S ++ [(a : Int)]) := by
                  unfold Hid Cu.stepS
                  have h1 := HALL.out
                  rw [eq_comm, Bool.and_eq_true, List.all_eq_true] at h1
                  rw [if_pos ⟨by simpa using h1.1, fun z hz => by simpa using h1.2 z hz, by have := HSN.out.1; omega⟩]
                have hb5 : Below wr.heap.size wr (wr.alloc (.cells #[.int .i64 (a : Int)] 3)) := lay (Below.refl _ _) _
                have hr5 := (HW9.out.below hb5).r2
                have hz5 : w.heap.size ≤ (wr.alloc (.cells #[.int .i64 (a : Int)] 3)).heap.size := (HW9.out.below hb5).lw.bel.size
                go_wp2_with (at_builtin; refine wpList_appG _ rfl (.tmp 91) (.tmp 93) 48 3 i3 _ 1 8 Try.underlying48 hi3 hz30 hz31 hz32 rfl (by decide) rfl w.heap.size _ n (Cu.iC S) rfl hr5 (.slice (some ⟨wr.heap.size, 0, none⟩) 1 1) 1 [.int .i64 (a : Int)] rfl (Row.of_blk (Blk.new wr #[.int .i64 (a : Int)] 3) rfl 1 1) rfl (by simp [Value.oneCell']) (by omega) (by unfold maxLen; omega) hz5 ?_; intro v6 w6 f1 f3 f4; have hw6 := HW9.out.app2 hb5 f1 f3 f4; obtain ⟨y6, q6, rfl⟩ := row_shape f1; have HW6 : Hid _ := hw6; clear f1 f3 f4 hw6 hr5 hz5)
                have HD9 : Hid (SX w w6 o hh u (n + 1) (.slice y6 (n + 1) q6)) := ⟨S ++ [(a : Int)], by simp [HSN.out.1], fun e => by
                  have h1 := HALL.out
                  rw [eq_comm, Bool.and_eq_true] at h1
                  have h2 := h1.1
                  simp at h2
                  omega, by have := HW6.out; rw [HST.out] at this; rw [Cu.iC_app]; exact this⟩
                clear HW6 HW9 HST HALL hb5
                go_roundw
                case rel => exact ⟨j + 1, n + 1, y6, q6, by omega, by omega, by omega, by omega, rfl, by go_num, HD9⟩
                case measure => simp [intOf]; omega
              · have h16' : decide ((n : Int) < 16) = false := by simp; omega
                have HST : Hid (Cu.stepS u S (a : Int) = S) := by
                  unfold Hid Cu.stepS
                  rw [if_neg (fun e => by have := e.2.2; have := HSN.out.1; omega)]
                have HD9 : Hid (SX w wr o hh u n (.slice y n c)) := ⟨S, HSN.out.1, HSN.out.2, by have := HW9.out; rw [HST.out] at this; exact this⟩
                clear HW9 HST HALL h16
                go_wp2
                go_roundw
                case rel => exact ⟨j + 1, n, y, c, by omega, by omega, by omega, by omega, rfl, by go_num, HD9⟩
                case measure => simp [intOf]; omega
    · have he : decide (j < n0) = false ∨ (j < n0 ∧ decide ((j : Int) < 30) = false) := by
        by_cases h : j < n0
        · exact .inr ⟨h, by simp; omega⟩
        · exact .inl (by simp; omega)
      obtain ⟨S, hSn, hS2, hW⟩ := HX.out
      have HSN : Hid (S.length = n ∧ (u ≤ 2 → S = [])) := ⟨hSn, hS2⟩
      have HR2 : Hid (wr.ownsRow w.heap.size 3 1 (.slice y n c) n (Cu.iC S)) := hW.r2
      have HLW : Hid (Cu.LW w wr o Cu.Hs2 Cu.Hb2 (Cu.lnF hh u S) (fun k => (Value.slice none 0 0).ownBlock = some k ∨ (Value.slice y n c).ownBlock = some k)) := hW.lw
      obtain ⟨XA, hXA⟩ : ∃ XA, XA = if hh < 2 then S.map (Cu.lnX hh u) else [] := ⟨_, rfl⟩
      obtain ⟨NA, hNA⟩ : ∃ NA, XA.length = NA := ⟨_, rfl⟩
      obtain ⟨NB, hNB⟩ : ∃ NB, NB = if hh = 1 then n else 0 := ⟨_, rfl⟩
      have HB2 : Hid ((Cu.bindF Cu.Hb2 (Cu.lnF hh u S) ⟨#[1, 98, 0]⟩ 2).length = NB) := by
        unfold Hid
        rw [Cu.ln_b hh u S hS2, hNB, hSn]
      have hb1 := hW.lw.binds ⟨#[1, 97, 0]⟩ 2 (by decide) XA (by rw [hXA]; exact Cu.ln_a hh u S hS2) NA hNA
      obtain ⟨FL, hFL⟩ : ∃ FL, FL = Cu.lnF hh u S := ⟨_, rfl⟩
      have HB3 : Hid (Cu.bindF Cu.Hb2 FL ⟨#[0]⟩ 2 = Cu.Hb2) := by unfold Hid; rw [hFL]; exact Cu.ln_root hh u S
      rw [← hFL] at HLW HB2 hb1
      have HNA : Hid (XA.length = NA ∧ (hh < 2 → XA = S.map (Cu.lnX hh u) ∧ NA = n)) := ⟨hNA, fun h => by
        have e : XA = S.map (Cu.lnX hh u) := by rw [hXA, if_pos h]
        refine ⟨e, ?_⟩
        rw [← hNA, e, List.length_map]
        exact hSn⟩
      have HNX : Hid (¬ hh < 2 → NA = 0) := fun h => by
        rw [← hNA, hXA, if_neg h]
        rfl
      have HNB : Hid (NB = if hh = 1 then n else 0) := hNB
      have t3 : True := trivial
      have t4 : True := trivial
      clear hlt hSn hS2 hW HX hXA hNA hNB hFL
      have hcls : (hh = 0 ∨ hh = 1) ∨ 2 ≤ hh := by omega
      rcases hcls with hcls | hcls
      · obtain ⟨hXA, hNn⟩ := HNA.out.2 (by omega)
        rw [hNn] at hb1
        obtain ⟨HN, hHN⟩ : ∃ HN, HN = (if hh = 0 then Cu.xN else Cu.yN) := ⟨_, rfl⟩
        have HFO : Hid (foldR LH.data.toList = HN.data.toList) := by
          unfold Hid
          rw [HLH.out, hHN]
          exact Cu.lnX_fold hh (by omega)
        have h2 : hh < 2 := by omega
        clear hNn
        rcases hcls with hc0 | hc1
        · subst hc0
          rw [HNB.out, if_neg (by decide)] at HB2
          have hhb0 : bits .and .i64 host 3 = 0 := hhb
          clear hhb h2 hh4 hh4'
          rcases he with he | ⟨he, he2⟩
          · skip
            go_wp2_with (first
              | (go_at_call 18; have _t := t3; go_must (refine hb1.mono ?_); rintro e wa ⟨ya, ca, rfl, oa, la, ba⟩; have hb2 := la.binds ⟨#[1, 98, 0]⟩ 2 (by decide) _ rfl 0 HB2.out; have HOA : Hid (∀ U, Below wa.heap.size wa U → U.ownsRow wr.heap.size 45 5 (.slice ya n ca) n (Cu.bC XA) ∧ U.ownsRow w.heap.size 3 1 (.slice y n c) n (Cu.iC S)) := fun U hU => ⟨own_past oa hU, own_past (own_past HR2.out ba) hU⟩; clear t3 hb1 oa la ba)
              | (go_at_call 18; have _t := t4; go_must (refine hb2.mono ?_); rintro e wb ⟨yb, cb, rfl, _, lb, bb⟩; have HWB : Hid (Below wa.heap.size wa wb ∧ Cu.LW w wb o Cu.Hs2 Cu.Hb2 (FL) (fun k => (Value.slice none 0 0).ownBlock = some k ∨ (Value.slice y n c).ownBlock = some k)) := ⟨bb, lb⟩; clear t4 hb2 bb lb))
            go_loopw [22] (fun k wr => ∃ i : Nat, i ≤ n ∧ k = .int .i64 (i : Int) ∧ Hid (BX w wb wr o FL (.slice y n c))) (fun k _ => n - (intOf k).toNat)
            case atStart => exact ⟨0, Nat.zero_le _, rfl, ⟨Below.refl _ _, HWB.out.2⟩⟩
            case round =>
              obtain ⟨i, hi, rfl, HWL⟩ := hrel
              by_cases hin : i < n
              · have hin' : (i : Int) < (n : Int) := by omega
                have hiS : i < S.length := by have := HSN.out.1; omega
                obtain ⟨gx, cx, hxa, _, _⟩ := (HOA.out _ (Below.refl _ _)).1.form (by omega)
                simp only [Value.slice.injEq] at hxa
                obtain ⟨rfl, -, rfl⟩ := hxa
                obtain ⟨gs, cs, hxs, _, _⟩ := (HOA.out _ (Below.refl _ _)).2.form (by omega)
                simp only [Value.slice.injEq] at hxs
                obtain ⟨rfl, -, rfl⟩ := hxs
                obtain ⟨qq, hqq⟩ : ∃ qq, qq = S[i] := ⟨_, rfl⟩
                have HCL : Hid (∀ U, Below wb.heap.size wb U → U.cell? ⟨gx, i * 5, none⟩ = some (.string ⟨#[1, 97, 0]⟩) ∧ U.cell? ⟨gx, i * 5 + 1, none⟩ = some (.string HN) ∧ U.cell? ⟨gx, i * 5 + 2, none⟩ = some (.int .i64 qq) ∧ U.cell? ⟨gx, i * 5 + 3, none⟩ = some (.string ⟨#[0]⟩) ∧ U.cell? ⟨gx, i * 5 + 4, none⟩ = some (.int .i64 u) ∧ U.cell? ⟨gs, i, none⟩ = some (.int .i64 qq)) := fun U hU => by
                  obtain ⟨r1, r2⟩ := HOA.out U (next HWB.out.1 hU)
                  have l1 := (lies_own r1).1
                  have l2 := (lies_own r2).1 i (.int .i64 S[i]) (by unfold Cu.iC; rw [List.getElem?_map, List.getElem?_eq_getElem hiS]; rfl)
                  rw [hXA] at l1
                  have hfl := fun k hk => flat_get (f := Cu.bV) (z := 5) (fun _ => rfl) (S.map (Cu.lnX 0 u)) i (by rw [List.length_map]; exact hiS) k hk
                  rw [List.getElem_map, ← hqq] at hfl
                  have f0 := l1 (i * 5 + 0) _ (hfl 0 (by omega))
                  have f1 := l1 (i * 5 + 1) _ (hfl 1 (by omega))
                  have f2 := l1 (i * 5 + 2) _ (hfl 2 (by omega))
                  have f3 := l1 (i * 5 + 3) _ (hfl 3 (by omega))
                  have f4 := l1 (i * 5 + 4) _ (hfl 4 (by omega))
                  rw [hHN]
                  exact ⟨f0, f1, f2, f3, f4, by rw [hqq]; exact l2⟩
                have hRF := fun U => refFold_as LH HN U HLS.out HFO.out
                have hbd : Below wb.heap.size wb wr.drew := next HWL.out.1 (Below.refl _ _).drew
                clear hqq hiS
                go_wp2
                refine wp_region_held_drew (S := fun U => Below wb.heap.size wb U) (by kernel_rfl) hbd (fun hHeld => ?_)
                refine wpAnyH_take (i := 0) (v := .slice (some ⟨gx, 0, none⟩) n ca) rfl (by kernel_rfl) (by kernel_rfl) (by kernel_rfl) (fun _ _ _ h => h) (Or.inl ⟨by rfl, ?_⟩) hHeld ?_
                · intro u hu
                  go_simp
                simp only [Act.put, List.getElem_toArray, List.getElem_cons_zero, List.setIfInBounds_toArray, List.set_cons_zero, List.set_cons_succ]
                refine wpAnyH_take (i := 1) (v := .int .i64 (i : Int)) rfl (by kernel_rfl) (by kernel_rfl) (by kernel_rfl) (fun _ _ _ h => h) (Or.inl ⟨by rfl, ?_⟩) hHeld ?_
                · intro u hu
                  go_simp
                simp only [Act.put, List.getElem_toArray, List.getElem_cons_succ, List.getElem_cons_zero, List.setIfInBounds_toArray, List.set_cons_zero, List.set_cons_succ]
                refine wpAnyH_take (i := 2) (v := .pointer (some ⟨gx, i * 5, none⟩)) rfl (by kernel_rfl) (by kernel_rfl) (by kernel_rfl) (fun _ _ _ h => h) (Or.inl ⟨by rfl, ?_⟩) hHeld ?_
                · intro u hu
                  go_simp
                simp only [Act.put, List.getElem_toArray, List.getElem_cons_succ, List.getElem_cons_zero, List.setIfInBounds_toArray, List.set_cons_zero, List.set_cons_succ]
                refine wpAnyH_take (i := 3) (v := .pointer (some ⟨gx, i * 5 + 2, none⟩)) rfl (by kernel_rfl) (by kernel_rfl) (by kernel_rfl) (fun _ _ _ h => h) (Or.inl ⟨by rfl, ?_⟩) hHeld ?_
                · intro u hu
                  go_simp
                simp only [Act.put, List.getElem_toArray, List.getElem_cons_succ, List.getElem_cons_zero, List.setIfInBounds_toArray, List.set_cons_zero, List.set_cons_succ]
                refine wpAnyH_take (i := 4) (v := .int .i64 qq) rfl (by kernel_rfl) (by kernel_rfl) (by kernel_rfl) (fun _ _ _ h => h) (Or.inl ⟨by rfl, ?_⟩) hHeld ?_
                · intro u hu
                  obtain ⟨q0, q1, q2, q3, q4, q5⟩ := HCL.out _ hu; clear hu
                  go_simp
                simp only [Act.put, List.getElem_toArray, List.getElem_cons_succ, List.getElem_cons_zero, List.setIfInBounds_toArray, List.set_cons_zero, List.set_cons_succ]
                refine wpAnyH_take (i := 5) (v := .slice (some ⟨gs, 0, none⟩) n c) rfl (by kernel_rfl) (by kernel_rfl) (by kernel_rfl) (fun _ _ _ h => h) (Or.inl ⟨by rfl, ?_⟩) hHeld ?_
                · intro u hu
                  go_simp
                simp only [Act.put, List.getElem_toArray, List.getElem_cons_succ, List.getElem_cons_zero, List.setIfInBounds_toArray, List.set_cons_zero, List.set_cons_succ]
                refine wpAnyH_take (i := 6) (v := .int .i64 (i : Int)) rfl (by kernel_rfl) (by kernel_rfl) (by kernel_rfl) (fun _ _ _ h => h) (Or.inl ⟨by rfl, ?_⟩) hHeld ?_
                · intro u hu
                  go_simp
                simp only [Act.put, List.getElem_toArray, List.getElem_cons_succ, List.getElem_cons_zero, List.setIfInBounds_toArray, List.set_cons_zero, List.set_cons_succ]
                refine wpAnyH_take (i := 7) (v := .pointer (some ⟨gs, i, none⟩)) rfl (by kernel_rfl) (by kernel_rfl) (by kernel_rfl) (fun _ _ _ h => h) (Or.inl ⟨by rfl, ?_⟩) hHeld ?_
                · intro u hu
                  go_simp
                simp only [Act.put, List.getElem_toArray, List.getElem_cons_succ, List.getElem_cons_zero, List.setIfInBounds_toArray, List.set_cons_zero, List.set_cons_succ]
                refine wpAnyH_take (i := 8) (v := .int .i64 qq) rfl (by kernel_rfl) (by kernel_rfl) (by kernel_rfl) (fun _ _ _ h => h) (Or.inl ⟨by rfl, ?_⟩) hHeld ?_
                · intro u hu
                  obtain ⟨q0, q1, q2, q3, q4, q5⟩ := HCL.out _ hu; clear hu
                  go_simp
                simp only [Act.put, List.getElem_toArray, List.getElem_cons_succ, List.getElem_cons_zero, List.setIfInBounds_toArray, List.set_cons_zero, List.set_cons_succ]
                refine wpAnyH_take (i := 9) (v := .bool false) rfl (by kernel_rfl) (by kernel_rfl) (by kernel_rfl) (fun _ _ _ h => h) (Or.inl ⟨by rfl, ?_⟩) hHeld ?_
                · intro u hu
                  go_simp
                simp only [Act.put, List.getElem_toArray, List.getElem_cons_succ, List.getElem_cons_zero, List.setIfInBounds_toArray, List.set_cons_zero, List.set_cons_succ]
                refine wpAnyH_take (i := 10) (v := .bool false) rfl (by kernel_rfl) (by kernel_rfl) (by kernel_rfl) (fun _ _ _ h => h) (Or.inl ⟨by rfl, ?_⟩) hHeld ?_
                · intro u hu
                  go_simp
                simp only [Act.put, List.getElem_toArray, List.getElem_cons_succ, List.getElem_cons_zero, List.setIfInBounds_toArray, List.set_cons_zero, List.set_cons_succ]
                refine wpAnyH_take (i := 11) (v := .slice (some ⟨gx, 0, none⟩) n ca) rfl (by kernel_rfl) (by kernel_rfl) (by kernel_rfl) (fun _ _ _ h => h) (Or.inl ⟨by rfl, ?_⟩) hHeld ?_
                · intro u hu
                  go_simp
                simp only [Act.put, List.getElem_toArray, List.getElem_cons_succ, List.getElem_cons_zero, List.setIfInBounds_toArray, List.set_cons_zero, List.set_cons_succ]
                refine wpAnyH_take (i := 12) (v := .int .i64 (i : Int)) rfl (by kernel_rfl) (by kernel_rfl) (by kernel_rfl) (fun _ _ _ h => h) (Or.inl ⟨by rfl, ?_⟩) hHeld ?_
                · intro u hu
                  go_simp
                simp only [Act.put, List.getElem_toArray, List.getElem_cons_succ, List.getElem_cons_zero, List.setIfInBounds_toArray, List.set_cons_zero, List.set_cons_succ]
                refine wpAnyH_take (i := 13) (v := .pointer (some ⟨gx, i * 5, none⟩)) rfl (by kernel_rfl) (by kernel_rfl) (by kernel_rfl) (fun _ _ _ h => h) (Or.inl ⟨by rfl, ?_⟩) hHeld ?_
                · intro u hu
                  go_simp
                simp only [Act.put, List.getElem_toArray, List.getElem_cons_succ, List.getElem_cons_zero, List.setIfInBounds_toArray, List.set_cons_zero, List.set_cons_succ]
                refine wpAnyH_take (i := 14) (v := .pointer (some ⟨gx, i * 5 + 4, none⟩)) rfl (by kernel_rfl) (by kernel_rfl) (by kernel_rfl) (fun _ _ _ h => h) (Or.inl ⟨by rfl, ?_⟩) hHeld ?_
                · intro u hu
                  go_simp
                simp only [Act.put, List.getElem_toArray, List.getElem_cons_succ, List.getElem_cons_zero, List.setIfInBounds_toArray, List.set_cons_zero, List.set_cons_succ]
                refine wpAnyH_take (i := 15) (v := .int .i64 u) rfl (by kernel_rfl) (by kernel_rfl) (by kernel_rfl) (fun _ _ _ h => h) (Or.inl ⟨by rfl, ?_⟩) hHeld ?_
                · intro u hu
                  obtain ⟨q0, q1, q2, q3, q4, q5⟩ := HCL.out _ hu; clear hu
                  go_simp
                simp only [Act.put, List.getElem_toArray, List.getElem_cons_succ, List.getElem_cons_zero, List.setIfInBounds_toArray, List.set_cons_zero, List.set_cons_succ]
                refine wpAnyH_take (i := 16) (v := .int .i64 u) rfl (by kernel_rfl) (by kernel_rfl) (by kernel_rfl) (fun _ _ _ h => h) (Or.inl ⟨by rfl, ?_⟩) hHeld ?_
                · intro u hu
                  go_simp
                simp only [Act.put, List.getElem_toArray, List.getElem_cons_succ, List.getElem_cons_zero, List.setIfInBounds_toArray, List.set_cons_zero, List.set_cons_succ]
                refine wpAnyH_take (i := 17) (v := .bool false) rfl (by kernel_rfl) (by kernel_rfl) (by kernel_rfl) (fun _ _ _ h => h) (Or.inl ⟨by rfl, ?_⟩) hHeld ?_
                · intro u hu
                  go_simp
                simp only [Act.put, List.getElem_toArray, List.getElem_cons_succ, List.getElem_cons_zero, List.setIfInBounds_toArray, List.set_cons_zero, List.set_cons_succ]
                refine wpAnyH_take (i := 18) (v := .bool false) rfl (by kernel_rfl) (by kernel_rfl) (by kernel_rfl) (fun _ _ _ h => h) (Or.inl ⟨by rfl, ?_⟩) hHeld ?_
                · intro u hu
                  go_simp
                simp only [Act.put, List.getElem_toArray, List.getElem_cons_succ, List.getElem_cons_zero, List.setIfInBounds_toArray, List.set_cons_zero, List.set_cons_succ]
                refine wpAnyH_take (i := 19) (v := .bool false) rfl (by kernel_rfl) (by kernel_rfl) (by kernel_rfl) (fun _ _ _ h => h) (Or.inl ⟨by rfl, ?_⟩) hHeld ?_
                · intro u hu
                  go_simp
                simp only [Act.put, List.getElem_toArray, List.getElem_cons_succ, List.getElem_cons_zero, List.setIfInBounds_toArray, List.set_cons_zero, List.set_cons_succ]
                refine wpAnyH_take (i := 20) (v := .slice (some ⟨gx, 0, none⟩) n ca) rfl (by kernel_rfl) (by kernel_rfl) (by kernel_rfl) (fun _ _ _ h => h) (Or.inl ⟨by rfl, ?_⟩) hHeld ?_
                · intro u hu
                  go_simp
                simp only [Act.put, List.getElem_toArray, List.getElem_cons_succ, List.getElem_cons_zero, List.setIfInBounds_toArray, List.set_cons_zero, List.set_cons_succ]
                refine wpAnyH_take (i := 21) (v := .int .i64 (i : Int)) rfl (by kernel_rfl) (by kernel_rfl) (by kernel_rfl) (fun _ _ _ h => h) (Or.inl ⟨by rfl, ?_⟩) hHeld ?_
                · intro u hu
                  go_simp
                simp only [Act.put, List.getElem_toArray, List.getElem_cons_succ, List.getElem_cons_zero, List.setIfInBounds_toArray, List.set_cons_zero, List.set_cons_succ]
                refine wpAnyH_take (i := 22) (v := .pointer (some ⟨gx, i * 5, none⟩)) rfl (by kernel_rfl) (by kernel_rfl) (by kernel_rfl) (fun _ _ _ h => h) (Or.inl ⟨by rfl, ?_⟩) hHeld ?_
                · intro u hu
                  go_simp
                simp only [Act.put, List.getElem_toArray, List.getElem_cons_succ, List.getElem_cons_zero, List.setIfInBounds_toArray, List.set_cons_zero, List.set_cons_succ]
                refine wpAnyH_take (i := 23) (v := .pointer (some ⟨gx, i * 5, none⟩)) rfl (by kernel_rfl) (by kernel_rfl) (by kernel_rfl) (fun _ _ _ h => h) (Or.inl ⟨by rfl, ?_⟩) hHeld ?_
                · intro u hu
                  go_simp
                simp only [Act.put, List.getElem_toArray, List.getElem_cons_succ, List.getElem_cons_zero, List.setIfInBounds_toArray, List.set_cons_zero, List.set_cons_succ]
                refine wpAnyH_take (i := 24) (v := .string ⟨#[1, 97, 0]⟩) rfl (by kernel_rfl) (by kernel_rfl) (by kernel_rfl) (fun _ _ _ h => h) (Or.inl ⟨by rfl, ?_⟩) hHeld ?_
                · intro u hu
                  obtain ⟨q0, q1, q2, q3, q4, q5⟩ := HCL.out _ hu; clear hu
                  go_simp
                simp only [Act.put, List.getElem_toArray, List.getElem_cons_succ, List.getElem_cons_zero, List.setIfInBounds_toArray, List.set_cons_zero, List.set_cons_succ]
                refine wpAnyH_take (i := 25) (v := .bool false) rfl (by kernel_rfl) (by kernel_rfl) (by kernel_rfl) (fun _ _ _ h => h) (Or.inl ⟨by rfl, ?_⟩) hHeld ?_
                · intro u hu
                  go_simp
                simp only [Act.put, List.getElem_toArray, List.getElem_cons_succ, List.getElem_cons_zero, List.setIfInBounds_toArray, List.set_cons_zero, List.set_cons_succ]
                refine wpAnyH_take (i := 26) (v := .bool false) rfl (by kernel_rfl) (by kernel_rfl) (by kernel_rfl) (fun _ _ _ h => h) (Or.inl ⟨by rfl, ?_⟩) hHeld ?_
                · intro u hu
                  go_simp
                simp only [Act.put, List.getElem_toArray, List.getElem_cons_succ, List.getElem_cons_zero, List.setIfInBounds_toArray, List.set_cons_zero, List.set_cons_succ]
                refine wpAnyH_take (i := 27) (v := .bool false) rfl (by kernel_rfl) (by kernel_rfl) (by kernel_rfl) (fun _ _ _ h => h) (Or.inl ⟨by rfl, ?_⟩) hHeld ?_
                · intro u hu
                  go_simp
                simp only [Act.put, List.getElem_toArray, List.getElem_cons_succ, List.getElem_cons_zero, List.setIfInBounds_toArray, List.set_cons_zero, List.set_cons_succ]
                refine wpAnyH_take (i := 28) (v := .slice (some ⟨gx, 0, none⟩) n ca) rfl (by kernel_rfl) (by kernel_rfl) (by kernel_rfl) (fun _ _ _ h => h) (Or.inl ⟨by rfl, ?_⟩) hHeld ?_
                · intro u hu
                  go_simp
                simp only [Act.put, List.getElem_toArray, List.getElem_cons_succ, List.getElem_cons_zero, List.setIfInBounds_toArray, List.set_cons_zero, List.set_cons_succ]
                refine wpAnyH_take (i := 29) (v := .int .i64 (i : Int)) rfl (by kernel_rfl) (by kernel_rfl) (by kernel_rfl) (fun _ _ _ h => h) (Or.inl ⟨by rfl, ?_⟩) hHeld ?_
                · intro u hu
                  go_simp
                simp only [Act.put, List.getElem_toArray, List.getElem_cons_succ, List.getElem_cons_zero, List.setIfInBounds_toArray, List.set_cons_zero, List.set_cons_succ]
                refine wpAnyH_take (i := 30) (v := .pointer (some ⟨gx, i * 5, none⟩)) rfl (by kernel_rfl) (by kernel_rfl) (by kernel_rfl) (fun _ _ _ h => h) (Or.inl ⟨by rfl, ?_⟩) hHeld ?_
                · intro u hu
                  go_simp
                simp only [Act.put, List.getElem_toArray, List.getElem_cons_succ, List.getElem_cons_zero, List.setIfInBounds_toArray, List.set_cons_zero, List.set_cons_succ]
                refine wpAnyH_take (i := 31) (v := .pointer (some ⟨gx, i * 5 + 3, none⟩)) rfl (by kernel_rfl) (by kernel_rfl) (by kernel_rfl) (fun _ _ _ h => h) (Or.inl ⟨by rfl, ?_⟩) hHeld ?_
                · intro u hu
                  go_simp
                simp only [Act.put, List.getElem_toArray, List.getElem_cons_succ, List.getElem_cons_zero, List.setIfInBounds_toArray, List.set_cons_zero, List.set_cons_succ]
                refine wpAnyH_take (i := 32) (v := .string ⟨#[0]⟩) rfl (by kernel_rfl) (by kernel_rfl) (by kernel_rfl) (fun _ _ _ h => h) (Or.inl ⟨by rfl, ?_⟩) hHeld ?_
                · intro u hu
                  obtain ⟨q0, q1, q2, q3, q4, q5⟩ := HCL.out _ hu; clear hu
                  go_simp
                simp only [Act.put, List.getElem_toArray, List.getElem_cons_succ, List.getElem_cons_zero, List.setIfInBounds_toArray, List.set_cons_zero, List.set_cons_succ]
                refine wpAnyH_take (i := 33) (v := .bool false) rfl (by kernel_rfl) (by kernel_rfl) (by kernel_rfl) (fun _ _ _ h => h) (Or.inl ⟨by rfl, ?_⟩) hHeld ?_
                · intro u hu
                  go_simp
                simp only [Act.put, List.getElem_toArray, List.getElem_cons_succ, List.getElem_cons_zero, List.setIfInBounds_toArray, List.set_cons_zero, List.set_cons_succ]
                refine wpAnyH_take (i := 34) (v := .bool false) rfl (by kernel_rfl) (by kernel_rfl) (by kernel_rfl) (fun _ _ _ h => h) (Or.inl ⟨by rfl, ?_⟩) hHeld ?_
                · intro u hu
                  go_simp
                simp only [Act.put, List.getElem_toArray, List.getElem_cons_succ, List.getElem_cons_zero, List.setIfInBounds_toArray, List.set_cons_zero, List.set_cons_succ]
                refine wpAnyH_take (i := 35) (v := .bool false) rfl (by kernel_rfl) (by kernel_rfl) (by kernel_rfl) (fun _ _ _ h => h) (Or.inl ⟨by rfl, ?_⟩) hHeld ?_
                · intro u hu
                  go_simp
                simp only [Act.put, List.getElem_toArray, List.getElem_cons_succ, List.getElem_cons_zero, List.setIfInBounds_toArray, List.set_cons_zero, List.set_cons_succ]
                refine wpAnyH_take (i := 36) (v := .slice (some ⟨gx, 0, none⟩) n ca) rfl (by kernel_rfl) (by kernel_rfl) (by kernel_rfl) (fun _ _ _ h => h) (Or.inl ⟨by rfl, ?_⟩) hHeld ?_
                · intro u hu
                  go_simp
                simp only [Act.put, List.getElem_toArray, List.getElem_cons_succ, List.getElem_cons_zero, List.setIfInBounds_toArray, List.set_cons_zero, List.set_cons_succ]
                refine wpAnyH_take (i := 37) (v := .int .i64 (i : Int)) rfl (by kernel_rfl) (by kernel_rfl) (by kernel_rfl) (fun _ _ _ h => h) (Or.inl ⟨by rfl, ?_⟩) hHeld ?_
                · intro u hu
                  go_simp
                simp only [Act.put, List.getElem_toArray, List.getElem_cons_succ, List.getElem_cons_zero, List.setIfInBounds_toArray, List.set_cons_zero, List.set_cons_succ]
                refine wpAnyH_take (i := 38) (v := .pointer (some ⟨gx, i * 5, none⟩)) rfl (by kernel_rfl) (by kernel_rfl) (by kernel_rfl) (fun _ _ _ h => h) (Or.inl ⟨by rfl, ?_⟩) hHeld ?_
                · intro u hu
                  go_simp
                simp only [Act.put, List.getElem_toArray, List.getElem_cons_succ, List.getElem_cons_zero, List.setIfInBounds_toArray, List.set_cons_zero, List.set_cons_succ]
                refine wpAnyH_take (i := 39) (v := .pointer (some ⟨gx, i * 5 + 1, none⟩)) rfl (by kernel_rfl) (by kernel_rfl) (by kernel_rfl) (fun _ _ _ h => h) (Or.inl ⟨by rfl, ?_⟩) hHeld ?_
                · intro u hu
                  go_simp
                simp only [Act.put, List.getElem_toArray, List.getElem_cons_succ, List.getElem_cons_zero, List.setIfInBounds_toArray, List.set_cons_zero, List.set_cons_succ]
                refine wpAnyH_take (i := 40) (v := .string HN) rfl (by kernel_rfl) (by kernel_rfl) (by kernel_rfl) (fun _ _ _ h => h) (Or.inl ⟨by rfl, ?_⟩) hHeld ?_
                · intro u hu
                  obtain ⟨q0, q1, q2, q3, q4, q5⟩ := HCL.out _ hu; clear hu
                  go_simp
                simp only [Act.put, List.getElem_toArray, List.getElem_cons_succ, List.getElem_cons_zero, List.setIfInBounds_toArray, List.set_cons_zero, List.set_cons_succ]
                refine wpAnyH_take (i := 41) (v := .string LH) rfl (by kernel_rfl) (by kernel_rfl) (by kernel_rfl) (fun _ _ _ h => h) (Or.inl ⟨by rfl, ?_⟩) hHeld ?_
                · intro u hu
                  go_simp
                simp only [Act.put, List.getElem_toArray, List.getElem_cons_succ, List.getElem_cons_zero, List.setIfInBounds_toArray, List.set_cons_zero, List.set_cons_succ]
                refine wpAnyH_ready (rs := [42]) (by kernel_rfl) (by simp) ?_
                refine AllReadyH.cons rfl (fun K hK => ?_) AllReadyH.nil
                go_simp
                refine (hRF _).mono ?_
                rintro e w5 ⟨rfl, b5⟩
                have HW5 : Hid (BX w wb w5 o FL (.slice (some ⟨gs, 0, none⟩) n c)) := ⟨next hHeld b5, HWL.out.2.below (next (Below.refl _ _).drew b5)⟩
                replace hHeld := next hHeld b5
                clear b5
                go_simp
                refine hK.out _ _ hHeld (fun hHeld => ?_)
                clear hK K
                refine wpAnyH_take (i := 43) (v := .bool false) rfl (by kernel_rfl) (by kernel_rfl) (by kernel_rfl) (fun _ _ _ h => h) (Or.inl ⟨by rfl, ?_⟩) hHeld ?_
                · intro u hu
                  go_simp
                simp only [Act.put, List.getElem_toArray, List.getElem_cons_succ, List.getElem_cons_zero, List.setIfInBounds_toArray, List.set_cons_zero, List.set_cons_succ]
                refine wpAnyH_take (i := 44) (v := .bool false) rfl (by kernel_rfl) (by kernel_rfl) (by kernel_rfl) (fun _ _ _ h => h) (Or.inl ⟨by rfl, ?_⟩) hHeld ?_
                · intro u hu
                  go_simp
                simp only [Act.put, List.getElem_toArray, List.getElem_cons_succ, List.getElem_cons_zero, List.setIfInBounds_toArray, List.set_cons_zero, List.set_cons_succ]
                refine wpAnyH_done (by kernel_rfl) ?_ _
                go_wp2
                go_roundw
                case rel => exact ⟨i + 1, by omega, by go_num, HW5⟩
                case measure => simp [intOf]; omega
              · have hin' : decide (i < n) = false := by simpa using hin
                clear hin
                have hb3 := HWL.out.2.binds ⟨#[0]⟩ 2 (by decide) Cu.Hb2 HB3.out 2 rfl
                go_wp2_with (first
                  | (go_at_call 20; refine (num_any _ _).mono ?_; rintro e w' ⟨rfl, hw⟩; obtain rfl := hw.symm)
                  | (go_at_call 18; go_must (refine hb3.mono ?_); rintro e wc ⟨yc, cc, rfl, _, lc, _⟩; clear hb3))
                go_ret
                exact ⟨rfl, lc.bel⟩
          · skip
            go_wp2_with (first
              | (go_at_call 18; have _t := t3; go_must (refine hb1.mono ?_); rintro e wa ⟨ya, ca, rfl, oa, la, ba⟩; have hb2 := la.binds ⟨#[1, 98, 0]⟩ 2 (by decide) _ rfl 0 HB2.out; have HOA : Hid (∀ U, Below wa.heap.size wa U → U.ownsRow wr.heap.size 45 5 (.slice ya n ca) n (Cu.bC XA) ∧ U.ownsRow w.heap.size 3 1 (.slice y n c) n (Cu.iC S)) := fun U hU => ⟨own_past oa hU, own_past (own_past HR2.out ba) hU⟩; clear t3 hb1 oa la ba)
              | (go_at_call 18; have _t := t4; go_must (refine hb2.mono ?_); rintro e wb ⟨yb, cb, rfl, _, lb, bb⟩; have HWB : Hid (Below wa.heap.size wa wb ∧ Cu.LW w wb o Cu.Hs2 Cu.Hb2 (FL) (fun k => (Value.slice none 0 0).ownBlock = some k ∨ (Value.slice y n c).ownBlock = some k)) := ⟨bb, lb⟩; clear t4 hb2 bb lb))
            go_loopw [22] (fun k wr => ∃ i : Nat, i ≤ n ∧ k = .int .i64 (i : Int) ∧ Hid (BX w wb wr o FL (.slice y n c))) (fun k _ => n - (intOf k).toNat)
            case atStart => exact ⟨0, Nat.zero_le _, rfl, ⟨Below.refl _ _, HWB.out.2⟩⟩
            case round =>
              obtain ⟨i, hi, rfl, HWL⟩ := hrel
              by_cases hin : i < n
              · have hin' : (i : Int) < (n : Int) := by omega
                have hiS : i < S.length := by have := HSN.out.1; omega
                obtain ⟨gx, cx, hxa, _, _⟩ := (HOA.out _ (Below.refl _ _)).1.form (by omega)
                simp only [Value.slice.injEq] at hxa
                obtain ⟨rfl, -, rfl⟩ := hxa
                obtain ⟨gs, cs, hxs, _, _⟩ := (HOA.out _ (Below.refl _ _)).2.form (by omega)
                simp only [Value.slice.injEq] at hxs
                obtain ⟨rfl, -, rfl⟩ := hxs
                obtain ⟨qq, hqq⟩ : ∃ qq, qq = S[i] := ⟨_, rfl⟩
                have HCL : Hid (∀ U, Below wb.heap.size wb U → U.cell? ⟨gx, i * 5, none⟩ = some (.string ⟨#[1, 97, 0]⟩) ∧ U.cell? ⟨gx, i * 5 + 1, none⟩ = some (.string HN) ∧ U.cell? ⟨gx, i * 5 + 2, none⟩ = some (.int .i64 qq) ∧ U.cell? ⟨gx, i * 5 + 3, none⟩ = some (.string ⟨#[0]⟩) ∧ U.cell? ⟨gx, i * 5 + 4, none⟩ = some (.int .i64 u) ∧ U.cell? ⟨gs, i, none⟩ = some (.int .i64 qq)) := fun U hU => by
                  obtain ⟨r1, r2⟩ := HOA.out U (next HWB.out.1 hU)
                  have l1 := (lies_own r1).1
                  have l2 := (lies_own r2).1 i (.int .i64 S[i]) (by unfold Cu.iC; rw [List.getElem?_map, List.getElem?_eq_getElem hiS]; rfl)
                  rw [hXA] at l1
                  have hfl := fun k hk => flat_get (f := Cu.bV) (z := 5) (fun _ => rfl) (S.map (Cu.lnX 0 u)) i (by rw [List.length_map]; exact hiS) k hk
                  rw [List.getElem_map, ← hqq] at hfl
                  have f0 := l1 (i * 5 + 0) _ (hfl 0 (by omega))
                  have f1 := l1 (i * 5 + 1) _ (hfl 1 (by omega))
                  have f2 := l1 (i * 5 + 2) _ (hfl 2 (by omega))
                  have f3 := l1 (i * 5 + 3) _ (hfl 3 (by omega))
                  have f4 := l1 (i * 5 + 4) _ (hfl 4 (by omega))
                  rw [hHN]
                  exact ⟨f0, f1, f2, f3, f4, by rw [hqq]; exact l2⟩
                have hRF := fun U => refFold_as LH HN U HLS.out HFO.out
                have hbd : Below wb.heap.size wb wr.drew := next HWL.out.1 (Below.refl _ _).drew
                clear hqq hiS
                go_wp2
                refine wp_region_held_drew (S := fun U => Below wb.heap.size wb U) (by kernel_rfl) hbd (fun hHeld => ?_)
                refine wpAnyH_take (i := 0) (v := .slice (some ⟨gx, 0, none⟩) n ca) rfl (by kernel_rfl) (by kernel_rfl) (by kernel_rfl) (fun _ _ _ h => h) (Or.inl ⟨by rfl, ?_⟩) hHeld ?_
                · intro u hu
                  go_simp
                simp only [Act.put, List.getElem_toArray, List.getElem_cons_zero, List.setIfInBounds_toArray, List.set_cons_zero, List.set_cons_succ]
                refine wpAnyH_take (i := 1) (v := .int .i64 (i : Int)) rfl (by kernel_rfl) (by kernel_rfl) (by kernel_rfl) (fun _ _ _ h => h) (Or.inl ⟨by rfl, ?_⟩) hHeld ?_
                · intro u hu
                  go_simp
                simp only [Act.put, List.getElem_toArray, List.getElem_cons_succ, List.getElem_cons_zero, List.setIfInBounds_toArray, List.set_cons_zero, List.set_cons_succ]
                refine wpAnyH_take (i := 2) (v := .pointer (some ⟨gx, i * 5, none⟩)) rfl (by kernel_rfl) (by kernel_rfl) (by kernel_rfl) (fun _ _ _ h => h) (Or.inl ⟨by rfl, ?_⟩) hHeld ?_
                · intro u hu
                  go_simp
                simp only [Act.put, List.getElem_toArray, List.getElem_cons_succ, List.getElem_cons_zero, List.setIfInBounds_toArray, List.set_cons_zero, List.set_cons_succ]
                refine wpAnyH_take (i := 3) (v := .pointer (some ⟨gx, i * 5 + 2, none⟩)) rfl (by kernel_rfl) (by kernel_rfl) (by kernel_rfl) (fun _ _ _ h => h) (Or.inl ⟨by rfl, ?_⟩) hHeld ?_
                · intro u hu
                  go_simp
                simp only [Act.put, List.getElem_toArray, List.getElem_cons_succ, List.getElem_cons_zero, List.setIfInBounds_toArray, List.set_cons_zero, List.set_cons_succ]
                refine wpAnyH_take (i := 4) (v := .int .i64 qq) rfl (by kernel_rfl) (by kernel_rfl) (by kernel_rfl) (fun _ _ _ h => h) (Or.inl ⟨by rfl, ?_⟩) hHeld ?_
                · intro u hu
                  obtain ⟨q0, q1, q2, q3, q4, q5⟩ := HCL.out _ hu; clear hu
                  go_simp
                simp only [Act.put, List.getElem_toArray, List.getElem_cons_succ, List.getElem_cons_zero, List.setIfInBounds_toArray, List.set_cons_zero, List.set_cons_succ]
                refine wpAnyH_take (i := 5) (v := .slice (some ⟨gs, 0, none⟩) n c) rfl (by kernel_rfl) (by kernel_rfl) (by kernel_rfl) (fun _ _ _ h => h) (Or.inl ⟨by rfl, ?_⟩) hHeld ?_
                · intro u hu
                  go_simp
                simp only [Act.put, List.getElem_toArray, List.getElem_cons_succ, List.getElem_cons_zero, List.setIfInBounds_toArray, List.set_cons_zero, List.set_cons_succ]
                refine wpAnyH_take (i := 6) (v := .int .i64 (i : Int)) rfl (by kernel_rfl) (by kernel_rfl) (by kernel_rfl) (fun _ _ _ h => h) (Or.inl ⟨by rfl, ?_⟩) hHeld ?_
                · intro u hu
                  go_simp
                simp only [Act.put, List.getElem_toArray, List.getElem_cons_succ, List.getElem_cons_zero, List.setIfInBounds_toArray, List.set_cons_zero, List.set_cons_succ]
                refine wpAnyH_take (i := 7) (v := .pointer (some ⟨gs, i, none⟩)) rfl (by kernel_rfl) (by kernel_rfl) (by kernel_rfl) (fun _ _ _ h => h) (Or.inl ⟨by rfl, ?_⟩) hHeld ?_
                · intro u hu
                  go_simp
                simp only [Act.put, List.getElem_toArray, List.getElem_cons_succ, List.getElem_cons_zero, List.setIfInBounds_toArray, List.set_cons_zero, List.set_cons_succ]
                refine wpAnyH_take (i := 8) (v := .int .i64 qq) rfl (by kernel_rfl) (by kernel_rfl) (by kernel_rfl) (fun _ _ _ h => h) (Or.inl ⟨by rfl, ?_⟩) hHeld ?_
                · intro u hu
                  obtain ⟨q0, q1, q2, q3, q4, q5⟩ := HCL.out _ hu; clear hu
                  go_simp
                simp only [Act.put, List.getElem_toArray, List.getElem_cons_succ, List.getElem_cons_zero, List.setIfInBounds_toArray, List.set_cons_zero, List.set_cons_succ]
                refine wpAnyH_take (i := 9) (v := .bool false) rfl (by kernel_rfl) (by kernel_rfl) (by kernel_rfl) (fun _ _ _ h => h) (Or.inl ⟨by rfl, ?_⟩) hHeld ?_
                · intro u hu
                  go_simp
                simp only [Act.put, List.getElem_toArray, List.getElem_cons_succ, List.getElem_cons_zero, List.setIfInBounds_toArray, List.set_cons_zero, List.set_cons_succ]
                refine wpAnyH_take (i := 10) (v := .bool false) rfl (by kernel_rfl) (by kernel_rfl) (by kernel_rfl) (fun _ _ _ h => h) (Or.inl ⟨by rfl, ?_⟩) hHeld ?_
                · intro u hu
                  go_simp
                simp only [Act.put, List.getElem_toArray, List.getElem_cons_succ, List.getElem_cons_zero, List.setIfInBounds_toArray, List.set_cons_zero, List.set_cons_succ]
                refine wpAnyH_take (i := 11) (v := .slice (some ⟨gx, 0, none⟩) n ca) rfl (by kernel_rfl) (by kernel_rfl) (by kernel_rfl) (fun _ _ _ h => h) (Or.inl ⟨by rfl, ?_⟩) hHeld ?_
                · intro u hu
                  go_simp
                simp only [Act.put, List.getElem_toArray, List.getElem_cons_succ, List.getElem_cons_zero, List.setIfInBounds_toArray, List.set_cons_zero, List.set_cons_succ]
                refine wpAnyH_take (i := 12) (v := .int .i64 (i : Int)) rfl (by kernel_rfl) (by kernel_rfl) (by kernel_rfl) (fun _ _ _ h => h) (Or.inl ⟨by rfl, ?_⟩) hHeld ?_
                · intro u hu
                  go_simp
                simp only [Act.put, List.getElem_toArray, List.getElem_cons_succ, List.getElem_cons_zero, List.setIfInBounds_toArray, List.set_cons_zero, List.set_cons_succ]
                refine wpAnyH_take (i := 13) (v := .pointer (some ⟨gx, i * 5, none⟩)) rfl (by kernel_rfl) (by kernel_rfl) (by kernel_rfl) (fun _ _ _ h => h) (Or.inl ⟨by rfl, ?_⟩) hHeld ?_
                · intro u hu
                  go_simp
                simp only [Act.put, List.getElem_toArray, List.getElem_cons_succ, List.getElem_cons_zero, List.setIfInBounds_toArray, List.set_cons_zero, List.set_cons_succ]
                refine wpAnyH_take (i := 14) (v := .pointer (some ⟨gx, i * 5 + 4, none⟩)) rfl (by kernel_rfl) (by kernel_rfl) (by kernel_rfl) (fun _ _ _ h => h) (Or.inl ⟨by rfl, ?_⟩) hHeld ?_
                · intro u hu
                  go_simp
                simp only [Act.put, List.getElem_toArray, List.getElem_cons_succ, List.getElem_cons_zero, List.setIfInBounds_toArray, List.set_cons_zero, List.set_cons_succ]
                refine wpAnyH_take (i := 15) (v := .int .i64 u) rfl (by kernel_rfl) (by kernel_rfl) (by kernel_rfl) (fun _ _ _ h => h) (Or.inl ⟨by rfl, ?_⟩) hHeld ?_
                · intro u hu
                  obtain ⟨q0, q1, q2, q3, q4, q5⟩ := HCL.out _ hu; clear hu
                  go_simp
                simp only [Act.put, List.getElem_toArray, List.getElem_cons_succ, List.getElem_cons_zero, List.setIfInBounds_toArray, List.set_cons_zero, List.set_cons_succ]
                refine wpAnyH_take (i := 16) (v := .int .i64 u) rfl (by kernel_rfl) (by kernel_rfl) (by kernel_rfl) (fun _ _ _ h => h) (Or.inl ⟨by rfl, ?_⟩) hHeld ?_
                · intro u hu
                  go_simp
                simp only [Act.put, List.getElem_toArray, List.getElem_cons_succ, List.getElem_cons_zero, List.setIfInBounds_toArray, List.set_cons_zero, List.set_cons_succ]
                refine wpAnyH_take (i := 17) (v := .bool false) rfl (by kernel_rfl) (by kernel_rfl) (by kernel_rfl) (fun _ _ _ h => h) (Or.inl ⟨by rfl, ?_⟩) hHeld ?_
                · intro u hu
                  go_simp
                simp only [Act.put, List.getElem_toArray, List.getElem_cons_succ, List.getElem_cons_zero, List.setIfInBounds_toArray, List.set_cons_zero, List.set_cons_succ]
                refine wpAnyH_take (i := 18) (v := .bool false) rfl (by kernel_rfl) (by kernel_rfl) (by kernel_rfl) (fun _ _ _ h => h) (Or.inl ⟨by rfl, ?_⟩) hHeld ?_
                · intro u hu
                  go_simp
                simp only [Act.put, List.getElem_toArray, List.getElem_cons_succ, List.getElem_cons_zero, List.setIfInBounds_toArray, List.set_cons_zero, List.set_cons_succ]
                refine wpAnyH_take (i := 19) (v := .bool false) rfl (by kernel_rfl) (by kernel_rfl) (by kernel_rfl) (fun _ _ _ h => h) (Or.inl ⟨by rfl, ?_⟩) hHeld ?_
                · intro u hu
                  go_simp
                simp only [Act.put, List.getElem_toArray, List.getElem_cons_succ, List.getElem_cons_zero, List.setIfInBounds_toArray, List.set_cons_zero, List.set_cons_succ]
                refine wpAnyH_take (i := 20) (v := .slice (some ⟨gx, 0, none⟩) n ca) rfl (by kernel_rfl) (by kernel_rfl) (by kernel_rfl) (fun _ _ _ h => h) (Or.inl ⟨by rfl, ?_⟩) hHeld ?_
                · intro u hu
                  go_simp
                simp only [Act.put, List.getElem_toArray, List.getElem_cons_succ, List.getElem_cons_zero, List.setIfInBounds_toArray, List.set_cons_zero, List.set_cons_succ]
                refine wpAnyH_take (i := 21) (v := .int .i64 (i : Int)) rfl (by kernel_rfl) (by kernel_rfl) (by kernel_rfl) (fun _ _ _ h => h) (Or.inl ⟨by rfl, ?_⟩) hHeld ?_
                · intro u hu
                  go_simp
                simp only [Act.put, List.getElem_toArray, List.getElem_cons_succ, List.getElem_cons_zero, List.setIfInBounds_toArray, List.set_cons_zero, List.set_cons_succ]
                refine wpAnyH_take (i := 22) (v := .pointer (some ⟨gx, i * 5, none⟩)) rfl (by kernel_rfl) (by kernel_rfl) (by kernel_rfl) (fun _ _ _ h => h) (Or.inl ⟨by rfl, ?_⟩) hHeld ?_
                · intro u hu
                  go_simp
                simp only [Act.put, List.getElem_toArray, List.getElem_cons_succ, List.getElem_cons_zero, List.setIfInBounds_toArray, List.set_cons_zero, List.set_cons_succ]
                refine wpAnyH_take (i := 23) (v := .pointer (some ⟨gx, i * 5, none⟩)) rfl (by kernel_rfl) (by kernel_rfl) (by kernel_rfl) (fun _ _ _ h => h) (Or.inl ⟨by rfl, ?_⟩) hHeld ?_
                · intro u hu
                  go_simp
                simp only [Act.put, List.getElem_toArray, List.getElem_cons_succ, List.getElem_cons_zero, List.setIfInBounds_toArray, List.set_cons_zero, List.set_cons_succ]
                refine wpAnyH_take (i := 24) (v := .string ⟨#[1, 97, 0]⟩) rfl (by kernel_rfl) (by kernel_rfl) (by kernel_rfl) (fun _ _ _ h => h) (Or.inl ⟨by rfl, ?_⟩) hHeld ?_
                · intro u hu
                  obtain ⟨q0, q1, q2, q3, q4, q5⟩ := HCL.out _ hu; clear hu
                  go_simp
                simp only [Act.put, List.getElem_toArray, List.getElem_cons_succ, List.getElem_cons_zero, List.setIfInBounds_toArray, List.set_cons_zero, List.set_cons_succ]
                refine wpAnyH_take (i := 25) (v := .bool false) rfl (by kernel_rfl) (by kernel_rfl) (by kernel_rfl) (fun _ _ _ h => h) (Or.inl ⟨by rfl, ?_⟩) hHeld ?_
                · intro u hu
                  go_simp
                simp only [Act.put, List.getElem_toArray, List.getElem_cons_succ, List.getElem_cons_zero, List.setIfInBounds_toArray, List.set_cons_zero, List.set_cons_succ]
                refine wpAnyH_take (i := 26) (v := .bool false) rfl (by kernel_rfl) (by kernel_rfl) (by kernel_rfl) (fun _ _ _ h => h) (Or.inl ⟨by rfl, ?_⟩) hHeld ?_
                · intro u hu
                  go_simp
                simp only [Act.put, List.getElem_toArray, List.getElem_cons_succ, List.getElem_cons_zero, List.setIfInBounds_toArray, List.set_cons_zero, List.set_cons_succ]
                refine wpAnyH_take (i := 27) (v := .bool false) rfl (by kernel_rfl) (by kernel_rfl) (by kernel_rfl) (fun _ _ _ h => h) (Or.inl ⟨by rfl, ?_⟩) hHeld ?_
                · intro u hu
                  go_simp
                simp only [Act.put, List.getElem_toArray, List.getElem_cons_succ, List.getElem_cons_zero, List.setIfInBounds_toArray, List.set_cons_zero, List.set_cons_succ]
                refine wpAnyH_take (i := 28) (v := .slice (some ⟨gx, 0, none⟩) n ca) rfl (by kernel_rfl) (by kernel_rfl) (by kernel_rfl) (fun _ _ _ h => h) (Or.inl ⟨by rfl, ?_⟩) hHeld ?_
                · intro u hu
                  go_simp
                simp only [Act.put, List.getElem_toArray, List.getElem_cons_succ, List.getElem_cons_zero, List.setIfInBounds_toArray, List.set_cons_zero, List.set_cons_succ]
                refine wpAnyH_take (i := 29) (v := .int .i64 (i : Int)) rfl (by kernel_rfl) (by kernel_rfl) (by kernel_rfl) (fun _ _ _ h => h) (Or.inl ⟨by rfl, ?_⟩) hHeld ?_
                · intro u hu
                  go_simp
                simp only [Act.put, List.getElem_toArray, List.getElem_cons_succ, List.getElem_cons_zero, List.setIfInBounds_toArray, List.set_cons_zero, List.set_cons_succ]
                refine wpAnyH_take (i := 30) (v := .pointer (some ⟨gx, i * 5, none⟩)) rfl (by kernel_rfl) (by kernel_rfl) (by kernel_rfl) (fun _ _ _ h => h) (Or.inl ⟨by rfl, ?_⟩) hHeld ?_
                · intro u hu
                  go_simp
                simp only [Act.put, List.getElem_toArray, List.getElem_cons_succ, List.getElem_cons_zero, List.setIfInBounds_toArray, List.set_cons_zero, List.set_cons_succ]
                refine wpAnyH_take (i := 31) (v := .pointer (some ⟨gx, i * 5 + 3, none⟩)) rfl (by kernel_rfl) (by kernel_rfl) (by kernel_rfl) (fun _ _ _ h => h) (Or.inl ⟨by rfl, ?_⟩) hHeld ?_
                · intro u hu
                  go_simp
                simp only [Act.put, List.getElem_toArray, List.getElem_cons_succ, List.getElem_cons_zero, List.setIfInBounds_toArray, List.set_cons_zero, List.set_cons_succ]
                refine wpAnyH_take (i := 32) (v := .string ⟨#[0]⟩) rfl (by kernel_rfl) (by kernel_rfl) (by kernel_rfl) (fun _ _ _ h => h) (Or.inl ⟨by rfl, ?_⟩) hHeld ?_
                · intro u hu
                  obtain ⟨q0, q1, q2, q3, q4, q5⟩ := HCL.out _ hu; clear hu
                  go_simp
                simp only [Act.put, List.getElem_toArray, List.getElem_cons_succ, List.getElem_cons_zero, List.setIfInBounds_toArray, List.set_cons_zero, List.set_cons_succ]
                refine wpAnyH_take (i := 33) (v := .bool false) rfl (by kernel_rfl) (by kernel_rfl) (by kernel_rfl) (fun _ _ _ h => h) (Or.inl ⟨by rfl, ?_⟩) hHeld ?_
                · intro u hu
                  go_simp
                simp only [Act.put, List.getElem_toArray, List.getElem_cons_succ, List.getElem_cons_zero, List.setIfInBounds_toArray, List.set_cons_zero, List.set_cons_succ]
                refine wpAnyH_take (i := 34) (v := .bool false) rfl (by kernel_rfl) (by kernel_rfl) (by kernel_rfl) (fun _ _ _ h => h) (Or.inl ⟨by rfl, ?_⟩) hHeld ?_
                · intro u hu
                  go_simp
                simp only [Act.put, List.getElem_toArray, List.getElem_cons_succ, List.getElem_cons_zero, List.setIfInBounds_toArray, List.set_cons_zero, List.set_cons_succ]
                refine wpAnyH_take (i := 35) (v := .bool false) rfl (by kernel_rfl) (by kernel_rfl) (by kernel_rfl) (fun _ _ _ h => h) (Or.inl ⟨by rfl, ?_⟩) hHeld ?_
                · intro u hu
                  go_simp
                simp only [Act.put, List.getElem_toArray, List.getElem_cons_succ, List.getElem_cons_zero, List.setIfInBounds_toArray, List.set_cons_zero, List.set_cons_succ]
                refine wpAnyH_take (i := 36) (v := .slice (some ⟨gx, 0, none⟩) n ca) rfl (by kernel_rfl) (by kernel_rfl) (by kernel_rfl) (fun _ _ _ h => h) (Or.inl ⟨by rfl, ?_⟩) hHeld ?_
                · intro u hu
                  go_simp
                simp only [Act.put, List.getElem_toArray, List.getElem_cons_succ, List.getElem_cons_zero, List.setIfInBounds_toArray, List.set_cons_zero, List.set_cons_succ]
                refine wpAnyH_take (i := 37) (v := .int .i64 (i : Int)) rfl (by kernel_rfl) (by kernel_rfl) (by kernel_rfl) (fun _ _ _ h => h) (Or.inl ⟨by rfl, ?_⟩) hHeld ?_
                · intro u hu
                  go_simp
                simp only [Act.put, List.getElem_toArray, List.getElem_cons_succ, List.getElem_cons_zero, List.setIfInBounds_toArray, List.set_cons_zero, List.set_cons_succ]
                refine wpAnyH_take (i := 38) (v := .pointer (some ⟨gx, i * 5, none⟩)) rfl (by kernel_rfl) (by kernel_rfl) (by kernel_rfl) (fun _ _ _ h => h) (Or.inl ⟨by rfl, ?_⟩) hHeld ?_
                · intro u hu
                  go_simp
                simp only [Act.put, List.getElem_toArray, List.getElem_cons_succ, List.getElem_cons_zero, List.setIfInBounds_toArray, List.set_cons_zero, List.set_cons_succ]
                refine wpAnyH_take (i := 39) (v := .pointer (some ⟨gx, i * 5 + 1, none⟩)) rfl (by kernel_rfl) (by kernel_rfl) (by kernel_rfl) (fun _ _ _ h => h) (Or.inl ⟨by rfl, ?_⟩) hHeld ?_
                · intro u hu
                  go_simp
                simp only [Act.put, List.getElem_toArray, List.getElem_cons_succ, List.getElem_cons_zero, List.setIfInBounds_toArray, List.set_cons_zero, List.set_cons_succ]
                refine wpAnyH_take (i := 40) (v := .string HN) rfl (by kernel_rfl) (by kernel_rfl) (by kernel_rfl) (fun _ _ _ h => h) (Or.inl ⟨by rfl, ?_⟩) hHeld ?_
                · intro u hu
                  obtain ⟨q0, q1, q2, q3, q4, q5⟩ := HCL.out _ hu; clear hu
                  go_simp
                simp only [Act.put, List.getElem_toArray, List.getElem_cons_succ, List.getElem_cons_zero, List.setIfInBounds_toArray, List.set_cons_zero, List.set_cons_succ]
                refine wpAnyH_take (i := 41) (v := .string LH) rfl (by kernel_rfl) (by kernel_rfl) (by kernel_rfl) (fun _ _ _ h => h) (Or.inl ⟨by rfl, ?_⟩) hHeld ?_
                · intro u hu
                  go_simp
                simp only [Act.put, List.getElem_toArray, List.getElem_cons_succ, List.getElem_cons_zero, List.setIfInBounds_toArray, List.set_cons_zero, List.set_cons_succ]
                refine wpAnyH_ready (rs := [42]) (by kernel_rfl) (by simp) ?_
                refine AllReadyH.cons rfl (fun K hK => ?_) AllReadyH.nil
                go_simp
                refine (hRF _).mono ?_
                rintro e w5 ⟨rfl, b5⟩
                have HW5 : Hid (BX w wb w5 o FL (.slice (some ⟨gs, 0, none⟩) n c)) := ⟨next hHeld b5, HWL.out.2.below (next (Below.refl _ _).drew b5)⟩
                replace hHeld := next hHeld b5
                clear b5
                go_simp
                refine hK.out _ _ hHeld (fun hHeld => ?_)
                clear hK K
                refine wpAnyH_take (i := 43) (v := .bool false) rfl (by kernel_rfl) (by kernel_rfl) (by kernel_rfl) (fun _ _ _ h => h) (Or.inl ⟨by rfl, ?_⟩) hHeld ?_
                · intro u hu
                  go_simp
                simp only [Act.put, List.getElem_toArray, List.getElem_cons_succ, List.getElem_cons_zero, List.setIfInBounds_toArray, List.set_cons_zero, List.set_cons_succ]
                refine wpAnyH_take (i := 44) (v := .bool false) rfl (by kernel_rfl) (by kernel_rfl) (by kernel_rfl) (fun _ _ _ h => h) (Or.inl ⟨by rfl, ?_⟩) hHeld ?_
                · intro u hu
                  go_simp
                simp only [Act.put, List.getElem_toArray, List.getElem_cons_succ, List.getElem_cons_zero, List.setIfInBounds_toArray, List.set_cons_zero, List.set_cons_succ]
                refine wpAnyH_done (by kernel_rfl) ?_ _
                go_wp2
                go_roundw
                case rel => exact ⟨i + 1, by omega, by go_num, HW5⟩
                case measure => simp [intOf]; omega
              · have hin' : decide (i < n) = false := by simpa using hin
                clear hin
                have hb3 := HWL.out.2.binds ⟨#[0]⟩ 2 (by decide) Cu.Hb2 HB3.out 2 rfl
                go_wp2_with (first
                  | (go_at_call 20; refine (num_any _ _).mono ?_; rintro e w' ⟨rfl, hw⟩; obtain rfl := hw.symm)
                  | (go_at_call 18; go_must (refine hb3.mono ?_); rintro e wc ⟨yc, cc, rfl, _, lc, _⟩; clear hb3))
                go_ret
                exact ⟨rfl, lc.bel⟩
        · rw [HNB.out, if_pos hc1] at HB2
          rcases he with he | ⟨he, he2⟩
          · skip
            go_wp2_with (first
              | (go_at_call 18; have _t := t3; go_must (refine hb1.mono ?_); rintro e wa ⟨ya, ca, rfl, oa, la, ba⟩; have hb2 := la.binds ⟨#[1, 98, 0]⟩ 2 (by decide) _ rfl n HB2.out; have HOA : Hid (∀ U, Below wa.heap.size wa U → U.ownsRow wr.heap.size 45 5 (.slice ya n ca) n (Cu.bC XA) ∧ U.ownsRow w.heap.size 3 1 (.slice y n c) n (Cu.iC S)) := fun U hU => ⟨own_past oa hU, own_past (own_past HR2.out ba) hU⟩; clear t3 hb1 oa la ba)
              | (go_at_call 18; have _t := t4; go_must (refine hb2.mono ?_); rintro e wb ⟨yb, cb, rfl, _, lb, bb⟩; have HWB : Hid (Below wa.heap.size wa wb ∧ Cu.LW w wb o Cu.Hs2 Cu.Hb2 (FL) (fun k => (Value.slice none 0 0).ownBlock = some k ∨ (Value.slice y n c).ownBlock = some k)) := ⟨bb, lb⟩; clear t4 hb2 bb lb))
            go_loopw [22] (fun k wr => ∃ i : Nat, i ≤ n ∧ k = .int .i64 (i : Int) ∧ Hid (BX w wb wr o FL (.slice y n c))) (fun k _ => n - (intOf k).toNat)
            case atStart => exact ⟨0, Nat.zero_le _, rfl, ⟨Below.refl _ _, HWB.out.2⟩⟩
            case round =>
              obtain ⟨i, hi, rfl, HWL⟩ := hrel
              by_cases hin : i < n
              · have hin' : (i : Int) < (n : Int) := by omega
                have hiS : i < S.length := by have := HSN.out.1; omega
                obtain ⟨gx, cx, hxa, _, _⟩ := (HOA.out _ (Below.refl _ _)).1.form (by omega)
                simp only [Value.slice.injEq] at hxa
                obtain ⟨rfl, -, rfl⟩ := hxa
                obtain ⟨gs, cs, hxs, _, _⟩ := (HOA.out _ (Below.refl _ _)).2.form (by omega)
                simp only [Value.slice.injEq] at hxs
                obtain ⟨rfl, -, rfl⟩ := hxs
                obtain ⟨qq, hqq⟩ : ∃ qq, qq = S[i] := ⟨_, rfl⟩
                have HCL : Hid (∀ U, Below wb.heap.size wb U → U.cell? ⟨gx, i * 5, none⟩ = some (.string ⟨#[1, 97, 0]⟩) ∧ U.cell? ⟨gx, i * 5 + 1, none⟩ = some (.string HN) ∧ U.cell? ⟨gx, i * 5 + 2, none⟩ = some (.int .i64 qq) ∧ U.cell? ⟨gx, i * 5 + 3, none⟩ = some (.string ⟨#[0]⟩) ∧ U.cell? ⟨gx, i * 5 + 4, none⟩ = some (.int .i64 u) ∧ U.cell? ⟨gs, i, none⟩ = some (.int .i64 qq)) := fun U hU => by
                  obtain ⟨r1, r2⟩ := HOA.out U (next HWB.out.1 hU)
                  have l1 := (lies_own r1).1
                  have l2 := (lies_own r2).1 i (.int .i64 S[i]) (by unfold Cu.iC; rw [List.getElem?_map, List.getElem?_eq_getElem hiS]; rfl)
                  rw [hXA] at l1
                  have hfl := fun k hk => flat_get (f := Cu.bV) (z := 5) (fun _ => rfl) (S.map (Cu.lnX hh u)) i (by rw [List.length_map]; exact hiS) k hk
                  rw [List.getElem_map, ← hqq] at hfl
                  have f0 := l1 (i * 5 + 0) _ (hfl 0 (by omega))
                  have f1 := l1 (i * 5 + 1) _ (hfl 1 (by omega))
                  have f2 := l1 (i * 5 + 2) _ (hfl 2 (by omega))
                  have f3 := l1 (i * 5 + 3) _ (hfl 3 (by omega))
                  have f4 := l1 (i * 5 + 4) _ (hfl 4 (by omega))
                  rw [hHN]
                  exact ⟨f0, f1, f2, f3, f4, by rw [hqq]; exact l2⟩
                have hRF := fun U => refFold_as LH HN U HLS.out HFO.out
                have hbd : Below wb.heap.size wb wr.drew := next HWL.out.1 (Below.refl _ _).drew
                clear hqq hiS
                go_wp2
                refine wp_region_held_drew (S := fun U => Below wb.heap.size wb U) (by kernel_rfl) hbd (fun hHeld => ?_)
                refine wpAnyH_take (i := 0) (v := .slice (some ⟨gx, 0, none⟩) n ca) rfl (by kernel_rfl) (by kernel_rfl) (by kernel_rfl) (fun _ _ _ h => h) (Or.inl ⟨by rfl, ?_⟩) hHeld ?_
                · intro u hu
                  go_simp
                simp only [Act.put, List.getElem_toArray, List.getElem_cons_zero, List.setIfInBounds_toArray, List.set_cons_zero, List.set_cons_succ]
                refine wpAnyH_take (i := 1) (v := .int .i64 (i : Int)) rfl (by kernel_rfl) (by kernel_rfl) (by kernel_rfl) (fun _ _ _ h => h) (Or.inl ⟨by rfl, ?_⟩) hHeld ?_
                · intro u hu
                  go_simp
                simp only [Act.put, List.getElem_toArray, List.getElem_cons_succ, List.getElem_cons_zero, List.setIfInBounds_toArray, List.set_cons_zero, List.set_cons_succ]
                refine wpAnyH_take (i := 2) (v := .pointer (some ⟨gx, i * 5, none⟩)) rfl (by kernel_rfl) (by kernel_rfl) (by kernel_rfl) (fun _ _ _ h => h) (Or.inl ⟨by rfl, ?_⟩) hHeld ?_
                · intro u hu
                  go_simp
                simp only [Act.put, List.getElem_toArray, List.getElem_cons_succ, List.getElem_cons_zero, List.setIfInBounds_toArray, List.set_cons_zero, List.set_cons_succ]
                refine wpAnyH_take (i := 3) (v := .pointer (some ⟨gx, i * 5 + 2, none⟩)) rfl (by kernel_rfl) (by kernel_rfl) (by kernel_rfl) (fun _ _ _ h => h) (Or.inl ⟨by rfl, ?_⟩) hHeld ?_
                · intro u hu
                  go_simp
                simp only [Act.put, List.getElem_toArray, List.getElem_cons_succ, List.getElem_cons_zero, List.setIfInBounds_toArray, List.set_cons_zero, List.set_cons_succ]
                refine wpAnyH_take (i := 4) (v := .int .i64 qq) rfl (by kernel_rfl) (by kernel_rfl) (by kernel_rfl) (fun _ _ _ h => h) (Or.inl ⟨by rfl, ?_⟩) hHeld ?_
                · intro u hu
                  obtain ⟨q0, q1, q2, q3, q4, q5⟩ := HCL.out _ hu; clear hu
                  go_simp
                simp only [Act.put, List.getElem_toArray, List.getElem_cons_succ, List.getElem_cons_zero, List.setIfInBounds_toArray, List.set_cons_zero, List.set_cons_succ]
                refine wpAnyH_take (i := 5) (v := .slice (some ⟨gs, 0, none⟩) n c) rfl (by kernel_rfl) (by kernel_rfl) (by kernel_rfl) (fun _ _ _ h => h) (Or.inl ⟨by rfl, ?_⟩) hHeld ?_
                · intro u hu
                  go_simp
                simp only [Act.put, List.getElem_toArray, List.getElem_cons_succ, List.getElem_cons_zero, List.setIfInBounds_toArray, List.set_cons_zero, List.set_cons_succ]
                refine wpAnyH_take (i := 6) (v := .int .i64 (i : Int)) rfl (by kernel_rfl) (by kernel_rfl) (by kernel_rfl) (fun _ _ _ h => h) (Or.inl ⟨by rfl, ?_⟩) hHeld ?_
                · intro u hu
                  go_simp
                simp only [Act.put, List.getElem_toArray, List.getElem_cons_succ, List.getElem_cons_zero, List.setIfInBounds_toArray, List.set_cons_zero, List.set_cons_succ]
                refine wpAnyH_take (i := 7) (v := .pointer (some ⟨gs, i, none⟩)) rfl (by kernel_rfl) (by kernel_rfl) (by kernel_rfl) (fun _ _ _ h => h) (Or.inl ⟨by rfl, ?_⟩) hHeld ?_
                · intro u hu
                  go_simp
                simp only [Act.put, List.getElem_toArray, List.getElem_cons_succ, List.getElem_cons_zero, List.setIfInBounds_toArray, List.set_cons_zero, List.set_cons_succ]
                refine wpAnyH_take (i := 8) (v := .int .i64 qq) rfl (by kernel_rfl) (by kernel_rfl) (by kernel_rfl) (fun _ _ _ h => h) (Or.inl ⟨by rfl, ?_⟩) hHeld ?_
                · intro u hu
                  obtain ⟨q0, q1, q2, q3, q4, q5⟩ := HCL.out _ hu; clear hu
                  go_simp
                simp only [Act.put, List.getElem_toArray, List.getElem_cons_succ, List.getElem_cons_zero, List.setIfInBounds_toArray, List.set_cons_zero, List.set_cons_succ]
                refine wpAnyH_take (i := 9) (v := .bool false) rfl (by kernel_rfl) (by kernel_rfl) (by kernel_rfl) (fun _ _ _ h => h) (Or.inl ⟨by rfl, ?_⟩) hHeld ?_
                · intro u hu
                  go_simp
                simp only [Act.put, List.getElem_toArray, List.getElem_cons_succ, List.getElem_cons_zero, List.setIfInBounds_toArray, List.set_cons_zero, List.set_cons_succ]
                refine wpAnyH_take (i := 10) (v := .bool false) rfl (by kernel_rfl) (by kernel_rfl) (by kernel_rfl) (fun _ _ _ h => h) (Or.inl ⟨by rfl, ?_⟩) hHeld ?_
                · intro u hu
                  go_simp
                simp only [Act.put, List.getElem_toArray, List.getElem_cons_succ, List.getElem_cons_zero, List.setIfInBounds_toArray, List.set_cons_zero, List.set_cons_succ]
                refine wpAnyH_take (i := 11) (v := .slice (some ⟨gx, 0, none⟩) n ca) rfl (by kernel_rfl) (by kernel_rfl) (by kernel_rfl) (fun _ _ _ h => h) (Or.inl ⟨by rfl, ?_⟩) hHeld ?_
                · intro u hu
                  go_simp
                simp only [Act.put, List.getElem_toArray, List.getElem_cons_succ, List.getElem_cons_zero, List.setIfInBounds_toArray, List.set_cons_zero, List.set_cons_succ]
                refine wpAnyH_take (i := 12) (v := .int .i64 (i : Int)) rfl (by kernel_rfl) (by kernel_rfl) (by kernel_rfl) (fun _ _ _ h => h) (Or.inl ⟨by rfl, ?_⟩) hHeld ?_
                · intro u hu
                  go_simp
                simp only [Act.put, List.getElem_toArray, List.getElem_cons_succ, List.getElem_cons_zero, List.setIfInBounds_toArray, List.set_cons_zero, List.set_cons_succ]
                refine wpAnyH_take (i := 13) (v := .pointer (some ⟨gx, i * 5, none⟩)) rfl (by kernel_rfl) (by kernel_rfl) (by kernel_rfl) (fun _ _ _ h => h) (Or.inl ⟨by rfl, ?_⟩) hHeld ?_
                · intro u hu
                  go_simp
                simp only [Act.put, List.getElem_toArray, List.getElem_cons_succ, List.getElem_cons_zero, List.setIfInBounds_toArray, List.set_cons_zero, List.set_cons_succ]
                refine wpAnyH_take (i := 14) (v := .pointer (some ⟨gx, i * 5 + 4, none⟩)) rfl (by kernel_rfl) (by kernel_rfl) (by kernel_rfl) (fun _ _ _ h => h) (Or.inl ⟨by rfl, ?_⟩) hHeld ?_
                · intro u hu
                  go_simp
                simp only [Act.put, List.getElem_toArray, List.getElem_cons_succ, List.getElem_cons_zero, List.setIfInBounds_toArray, List.set_cons_zero, List.set_cons_succ]
                refine wpAnyH_take (i := 15) (v := .int .i64 u) rfl (by kernel_rfl) (by kernel_rfl) (by kernel_rfl) (fun _ _ _ h => h) (Or.inl ⟨by rfl, ?_⟩) hHeld ?_
                · intro u hu
                  obtain ⟨q0, q1, q2, q3, q4, q5⟩ := HCL.out _ hu; clear hu
                  go_simp
                simp only [Act.put, List.getElem_toArray, List.getElem_cons_succ, List.getElem_cons_zero, List.setIfInBounds_toArray, List.set_cons_zero, List.set_cons_succ]
                refine wpAnyH_take (i := 16) (v := .int .i64 u) rfl (by kernel_rfl) (by kernel_rfl) (by kernel_rfl) (fun _ _ _ h => h) (Or.inl ⟨by rfl, ?_⟩) hHeld ?_
                · intro u hu
                  go_simp
                simp only [Act.put, List.getElem_toArray, List.getElem_cons_succ, List.getElem_cons_zero, List.setIfInBounds_toArray, List.set_cons_zero, List.set_cons_succ]
                refine wpAnyH_take (i := 17) (v := .bool false) rfl (by kernel_rfl) (by kernel_rfl) (by kernel_rfl) (fun _ _ _ h => h) (Or.inl ⟨by rfl, ?_⟩) hHeld ?_
                · intro u hu
                  go_simp
                simp only [Act.put, List.getElem_toArray, List.getElem_cons_succ, List.getElem_cons_zero, List.setIfInBounds_toArray, List.set_cons_zero, List.set_cons_succ]
                refine wpAnyH_take (i := 18) (v := .bool false) rfl (by kernel_rfl) (by kernel_rfl) (by kernel_rfl) (fun _ _ _ h => h) (Or.inl ⟨by rfl, ?_⟩) hHeld ?_
                · intro u hu
                  go_simp
                simp only [Act.put, List.getElem_toArray, List.getElem_cons_succ, List.getElem_cons_zero, List.setIfInBounds_toArray, List.set_cons_zero, List.set_cons_succ]
                refine wpAnyH_take (i := 19) (v := .bool false) rfl (by kernel_rfl) (by kernel_rfl) (by kernel_rfl) (fun _ _ _ h => h) (Or.inl ⟨by rfl, ?_⟩) hHeld ?_
                · intro u hu
                  go_simp
                simp only [Act.put, List.getElem_toArray, List.getElem_cons_succ, List.getElem_cons_zero, List.setIfInBounds_toArray, List.set_cons_zero, List.set_cons_succ]
                refine wpAnyH_take (i := 20) (v := .slice (some ⟨gx, 0, none⟩) n ca) rfl (by kernel_rfl) (by kernel_rfl) (by kernel_rfl) (fun _ _ _ h => h) (Or.inl ⟨by rfl, ?_⟩) hHeld ?_
                · intro u hu
                  go_simp
                simp only [Act.put, List.getElem_toArray, List.getElem_cons_succ, List.getElem_cons_zero, List.setIfInBounds_toArray, List.set_cons_zero, List.set_cons_succ]
                refine wpAnyH_take (i := 21) (v := .int .i64 (i : Int)) rfl (by kernel_rfl) (by kernel_rfl) (by kernel_rfl) (fun _ _ _ h => h) (Or.inl ⟨by rfl, ?_⟩) hHeld ?_
                · intro u hu
                  go_simp
                simp only [Act.put, List.getElem_toArray, List.getElem_cons_succ, List.getElem_cons_zero, List.setIfInBounds_toArray, List.set_cons_zero, List.set_cons_succ]
                refine wpAnyH_take (i := 22) (v := .pointer (some ⟨gx, i * 5, none⟩)) rfl (by kernel_rfl) (by kernel_rfl) (by kernel_rfl) (fun _ _ _ h => h) (Or.inl ⟨by rfl, ?_⟩) hHeld ?_
                · intro u hu
                  go_simp
                simp only [Act.put, List.getElem_toArray, List.getElem_cons_succ, List.getElem_cons_zero, List.setIfInBounds_toArray, List.set_cons_zero, List.set_cons_succ]
                refine wpAnyH_take (i := 23) (v := .pointer (some ⟨gx, i * 5, none⟩)) rfl (by kernel_rfl) (by kernel_rfl) (by kernel_rfl) (fun _ _ _ h => h) (Or.inl ⟨by rfl, ?_⟩) hHeld ?_
                · intro u hu
                  go_simp
                simp only [Act.put, List.getElem_toArray, List.getElem_cons_succ, List.getElem_cons_zero, List.setIfInBounds_toArray, List.set_cons_zero, List.set_cons_succ]
                refine wpAnyH_take (i := 24) (v := .string ⟨#[1, 97, 0]⟩) rfl (by kernel_rfl) (by kernel_rfl) (by kernel_rfl) (fun _ _ _ h => h) (Or.inl ⟨by rfl, ?_⟩) hHeld ?_
                · intro u hu
                  obtain ⟨q0, q1, q2, q3, q4, q5⟩ := HCL.out _ hu; clear hu
                  go_simp
                simp only [Act.put, List.getElem_toArray, List.getElem_cons_succ, List.getElem_cons_zero, List.setIfInBounds_toArray, List.set_cons_zero, List.set_cons_succ]
                refine wpAnyH_take (i := 25) (v := .bool false) rfl (by kernel_rfl) (by kernel_rfl) (by kernel_rfl) (fun _ _ _ h => h) (Or.inl ⟨by rfl, ?_⟩) hHeld ?_
                · intro u hu
                  go_simp
                simp only [Act.put, List.getElem_toArray, List.getElem_cons_succ, List.getElem_cons_zero, List.setIfInBounds_toArray, List.set_cons_zero, List.set_cons_succ]
                refine wpAnyH_take (i := 26) (v := .bool false) rfl (by kernel_rfl) (by kernel_rfl) (by kernel_rfl) (fun _ _ _ h => h) (Or.inl ⟨by rfl, ?_⟩) hHeld ?_
                · intro u hu
                  go_simp
                simp only [Act.put, List.getElem_toArray, List.getElem_cons_succ, List.getElem_cons_zero, List.setIfInBounds_toArray, List.set_cons_zero, List.set_cons_succ]
                refine wpAnyH_take (i := 27) (v := .bool false) rfl (by kernel_rfl) (by kernel_rfl) (by kernel_rfl) (fun _ _ _ h => h) (Or.inl ⟨by rfl, ?_⟩) hHeld ?_
                · intro u hu
                  go_simp
                simp only [Act.put, List.getElem_toArray, List.getElem_cons_succ, List.getElem_cons_zero, List.setIfInBounds_toArray, List.set_cons_zero, List.set_cons_succ]
                refine wpAnyH_take (i := 28) (v := .slice (some ⟨gx, 0, none⟩) n ca) rfl (by kernel_rfl) (by kernel_rfl) (by kernel_rfl) (fun _ _ _ h => h) (Or.inl ⟨by rfl, ?_⟩) hHeld ?_
                · intro u hu
                  go_simp
                simp only [Act.put, List.getElem_toArray, List.getElem_cons_succ, List.getElem_cons_zero, List.setIfInBounds_toArray, List.set_cons_zero, List.set_cons_succ]
                refine wpAnyH_take (i := 29) (v := .int .i64 (i : Int)) rfl (by kernel_rfl) (by kernel_rfl) (by kernel_rfl) (fun _ _ _ h => h) (Or.inl ⟨by rfl, ?_⟩) hHeld ?_
                · intro u hu
                  go_simp
                simp only [Act.put, List.getElem_toArray, List.getElem_cons_succ, List.getElem_cons_zero, List.setIfInBounds_toArray, List.set_cons_zero, List.set_cons_succ]
                refine wpAnyH_take (i := 30) (v := .pointer (some ⟨gx, i * 5, none⟩)) rfl (by kernel_rfl) (by kernel_rfl) (by kernel_rfl) (fun _ _ _ h => h) (Or.inl ⟨by rfl, ?_⟩) hHeld ?_
                · intro u hu
                  go_simp
                simp only [Act.put, List.getElem_toArray, List.getElem_cons_succ, List.getElem_cons_zero, List.setIfInBounds_toArray, List.set_cons_zero, List.set_cons_succ]
                refine wpAnyH_take (i := 31) (v := .pointer (some ⟨gx, i * 5 + 3, none⟩)) rfl (by kernel_rfl) (by kernel_rfl) (by kernel_rfl) (fun _ _ _ h => h) (Or.inl ⟨by rfl, ?_⟩) hHeld ?_
                · intro u hu
                  go_simp
                simp only [Act.put, List.getElem_toArray, List.getElem_cons_succ, List.getElem_cons_zero, List.setIfInBounds_toArray, List.set_cons_zero, List.set_cons_succ]
                refine wpAnyH_take (i := 32) (v := .string ⟨#[0]⟩) rfl (by kernel_rfl) (by kernel_rfl) (by kernel_rfl) (fun _ _ _ h => h) (Or.inl ⟨by rfl, ?_⟩) hHeld ?_
                · intro u hu
                  obtain ⟨q0, q1, q2, q3, q4, q5⟩ := HCL.out _ hu; clear hu
                  go_simp
                simp only [Act.put, List.getElem_toArray, List.getElem_cons_succ, List.getElem_cons_zero, List.setIfInBounds_toArray, List.set_cons_zero, List.set_cons_succ]
                refine wpAnyH_take (i := 33) (v := .bool false) rfl (by kernel_rfl) (by kernel_rfl) (by kernel_rfl) (fun _ _ _ h => h) (Or.inl ⟨by rfl, ?_⟩) hHeld ?_
                · intro u hu
                  go_simp
                simp only [Act.put, List.getElem_toArray, List.getElem_cons_succ, List.getElem_cons_zero, List.setIfInBounds_toArray, List.set_cons_zero, List.set_cons_succ]
                refine wpAnyH_take (i := 34) (v := .bool false) rfl (by kernel_rfl) (by kernel_rfl) (by kernel_rfl) (fun _ _ _ h => h) (Or.inl ⟨by rfl, ?_⟩) hHeld ?_
                · intro u hu
                  go_simp
                simp only [Act.put, List.getElem_toArray, List.getElem_cons_succ, List.getElem_cons_zero, List.setIfInBounds_toArray, List.set_cons_zero, List.set_cons_succ]
                refine wpAnyH_take (i := 35) (v := .bool false) rfl (by kernel_rfl) (by kernel_rfl) (by kernel_rfl) (fun _ _ _ h => h) (Or.inl ⟨by rfl, ?_⟩) hHeld ?_
                · intro u hu
                  go_simp
                simp only [Act.put, List.getElem_toArray, List.getElem_cons_succ, List.getElem_cons_zero, List.setIfInBounds_toArray, List.set_cons_zero, List.set_cons_succ]
                refine wpAnyH_take (i := 36) (v := .slice (some ⟨gx, 0, none⟩) n ca) rfl (by kernel_rfl) (by kernel_rfl) (by kernel_rfl) (fun _ _ _ h => h) (Or.inl ⟨by rfl, ?_⟩) hHeld ?_
                · intro u hu
                  go_simp
                simp only [Act.put, List.getElem_toArray, List.getElem_cons_succ, List.getElem_cons_zero, List.setIfInBounds_toArray, List.set_cons_zero, List.set_cons_succ]
                refine wpAnyH_take (i := 37) (v := .int .i64 (i : Int)) rfl (by kernel_rfl) (by kernel_rfl) (by kernel_rfl) (fun _ _ _ h => h) (Or.inl ⟨by rfl, ?_⟩) hHeld ?_
                · intro u hu
                  go_simp
                simp only [Act.put, List.getElem_toArray, List.getElem_cons_succ, List.getElem_cons_zero, List.setIfInBounds_toArray, List.set_cons_zero, List.set_cons_succ]
                refine wpAnyH_take (i := 38) (v := .pointer (some ⟨gx, i * 5, none⟩)) rfl (by kernel_rfl) (by kernel_rfl) (by kernel_rfl) (fun _ _ _ h => h) (Or.inl ⟨by rfl, ?_⟩) hHeld ?_
                · intro u hu
                  go_simp
                simp only [Act.put, List.getElem_toArray, List.getElem_cons_succ, List.getElem_cons_zero, List.setIfInBounds_toArray, List.set_cons_zero, List.set_cons_succ]
                refine wpAnyH_take (i := 39) (v := .pointer (some ⟨gx, i * 5 + 1, none⟩)) rfl (by kernel_rfl) (by kernel_rfl) (by kernel_rfl) (fun _ _ _ h => h) (Or.inl ⟨by rfl, ?_⟩) hHeld ?_
                · intro u hu
                  go_simp
                simp only [Act.put, List.getElem_toArray, List.getElem_cons_succ, List.getElem_cons_zero, List.setIfInBounds_toArray, List.set_cons_zero, List.set_cons_succ]
                refine wpAnyH_take (i := 40) (v := .string HN) rfl (by kernel_rfl) (by kernel_rfl) (by kernel_rfl) (fun _ _ _ h => h) (Or.inl ⟨by rfl, ?_⟩) hHeld ?_
                · intro u hu
                  obtain ⟨q0, q1, q2, q3, q4, q5⟩ := HCL.out _ hu; clear hu
                  go_simp
                simp only [Act.put, List.getElem_toArray, List.getElem_cons_succ, List.getElem_cons_zero, List.setIfInBounds_toArray, List.set_cons_zero, List.set_cons_succ]
                refine wpAnyH_take (i := 41) (v := .string LH) rfl (by kernel_rfl) (by kernel_rfl) (by kernel_rfl) (fun _ _ _ h => h) (Or.inl ⟨by rfl, ?_⟩) hHeld ?_
                · intro u hu
                  go_simp
                simp only [Act.put, List.getElem_toArray, List.getElem_cons_succ, List.getElem_cons_zero, List.setIfInBounds_toArray, List.set_cons_zero, List.set_cons_succ]
                refine wpAnyH_ready (rs := [42]) (by kernel_rfl) (by simp) ?_
                refine AllReadyH.cons rfl (fun K hK => ?_) AllReadyH.nil
                go_simp
                refine (hRF _).mono ?_
                rintro e w5 ⟨rfl, b5⟩
                have HW5 : Hid (BX w wb w5 o FL (.slice (some ⟨gs, 0, none⟩) n c)) := ⟨next hHeld b5, HWL.out.2.below (next (Below.refl _ _).drew b5)⟩
                replace hHeld := next hHeld b5
                clear b5
                go_simp
                refine hK.out _ _ hHeld (fun hHeld => ?_)
                clear hK K
                refine wpAnyH_take (i := 43) (v := .bool false) rfl (by kernel_rfl) (by kernel_rfl) (by kernel_rfl) (fun _ _ _ h => h) (Or.inl ⟨by rfl, ?_⟩) hHeld ?_
                · intro u hu
                  go_simp
                simp only [Act.put, List.getElem_toArray, List.getElem_cons_succ, List.getElem_cons_zero, List.setIfInBounds_toArray, List.set_cons_zero, List.set_cons_succ]
                refine wpAnyH_take (i := 44) (v := .bool false) rfl (by kernel_rfl) (by kernel_rfl) (by kernel_rfl) (fun _ _ _ h => h) (Or.inl ⟨by rfl, ?_⟩) hHeld ?_
                · intro u hu
                  go_simp
                simp only [Act.put, List.getElem_toArray, List.getElem_cons_succ, List.getElem_cons_zero, List.setIfInBounds_toArray, List.set_cons_zero, List.set_cons_succ]
                refine wpAnyH_done (by kernel_rfl) ?_ _
                go_wp2
                go_roundw
                case rel => exact ⟨i + 1, by omega, by go_num, HW5⟩
                case measure => simp [intOf]; omega
              · have hin' : decide (i < n) = false := by simpa using hin
                clear hin
                have hb3 := HWL.out.2.binds ⟨#[0]⟩ 2 (by decide) Cu.Hb2 HB3.out 2 rfl
                go_wp2_with (first
                  | (go_at_call 20; refine (num_any _ _).mono ?_; rintro e w' ⟨rfl, hw⟩; obtain rfl := hw.symm)
                  | (go_at_call 18; go_must (refine hb3.mono ?_); rintro e wc ⟨yc, cc, rfl, _, lc, _⟩; clear hb3))
                go_ret
                exact ⟨rfl, lc.bel⟩
          · skip
            go_wp2_with (first
              | (go_at_call 18; have _t := t3; go_must (refine hb1.mono ?_); rintro e wa ⟨ya, ca, rfl, oa, la, ba⟩; have hb2 := la.binds ⟨#[1, 98, 0]⟩ 2 (by decide) _ rfl n HB2.out; have HOA : Hid (∀ U, Below wa.heap.size wa U → U.ownsRow wr.heap.size 45 5 (.slice ya n ca) n (Cu.bC XA) ∧ U.ownsRow w.heap.size 3 1 (.slice y n c) n (Cu.iC S)) := fun U hU => ⟨own_past oa hU, own_past (own_past HR2.out ba) hU⟩; clear t3 hb1 oa la ba)
              | (go_at_call 18; have _t := t4; go_must (refine hb2.mono ?_); rintro e wb ⟨yb, cb, rfl, _, lb, bb⟩; have HWB : Hid (Below wa.heap.size wa wb ∧ Cu.LW w wb o Cu.Hs2 Cu.Hb2 (FL) (fun k => (Value.slice none 0 0).ownBlock = some k ∨ (Value.slice y n c).ownBlock = some k)) := ⟨bb, lb⟩; clear t4 hb2 bb lb))
            go_loopw [22] (fun k wr => ∃ i : Nat, i ≤ n ∧ k = .int .i64 (i : Int) ∧ Hid (BX w wb wr o FL (.slice y n c))) (fun k _ => n - (intOf k).toNat)
            case atStart => exact ⟨0, Nat.zero_le _, rfl, ⟨Below.refl _ _, HWB.out.2⟩⟩
            case round =>
              obtain ⟨i, hi, rfl, HWL⟩ := hrel
              by_cases hin : i < n
              · have hin' : (i : Int) < (n : Int) := by omega
                have hiS : i < S.length := by have := HSN.out.1; omega
                obtain ⟨gx, cx, hxa, _, _⟩ := (HOA.out _ (Below.refl _ _)).1.form (by omega)
                simp only [Value.slice.injEq] at hxa
                obtain ⟨rfl, -, rfl⟩ := hxa
                obtain ⟨gs, cs, hxs, _, _⟩ := (HOA.out _ (Below.refl _ _)).2.form (by omega)
                simp only [Value.slice.injEq] at hxs
                obtain ⟨rfl, -, rfl⟩ := hxs
                obtain ⟨qq, hqq⟩ : ∃ qq, qq = S[i] := ⟨_, rfl⟩
                have HCL : Hid (∀ U, Below wb.heap.size wb U → U.cell? ⟨gx, i * 5, none⟩ = some (.string ⟨#[1, 97, 0]⟩) ∧ U.cell? ⟨gx, i * 5 + 1, none⟩ = some (.string HN) ∧ U.cell? ⟨gx, i * 5 + 2, none⟩ = some (.int .i64 qq) ∧ U.cell? ⟨gx, i * 5 + 3, none⟩ = some (.string ⟨#[0]⟩) ∧ U.cell? ⟨gx, i * 5 + 4, none⟩ = some (.int .i64 u) ∧ U.cell? ⟨gs, i, none⟩ = some (.int .i64 qq)) := fun U hU => by
                  obtain ⟨r1, r2⟩ := HOA.out U (next HWB.out.1 hU)
                  have l1 := (lies_own r1).1
                  have l2 := (lies_own r2).1 i (.int .i64 S[i]) (by unfold Cu.iC; rw [List.getElem?_map, List.getElem?_eq_getElem hiS]; rfl)
                  rw [hXA] at l1
                  have hfl := fun k hk => flat_get (f := Cu.bV) (z := 5) (fun _ => rfl) (S.map (Cu.lnX hh u)) i (by rw [List.length_map]; exact hiS) k hk
                  rw [List.getElem_map, ← hqq] at hfl
                  have f0 := l1 (i * 5 + 0) _ (hfl 0 (by omega))
                  have f1 := l1 (i * 5 + 1) _ (hfl 1 (by omega))
                  have f2 := l1 (i * 5 + 2) _ (hfl 2 (by omega))
                  have f3 := l1 (i * 5 + 3) _ (hfl 3 (by omega))
                  have f4 := l1 (i * 5 + 4) _ (hfl 4 (by omega))
                  rw [hHN]
                  exact ⟨f0, f1, f2, f3, f4, by rw [hqq]; exact l2⟩
                have hRF := fun U => refFold_as LH HN U HLS.out HFO.out
                have hbd : Below wb.heap.size wb wr.drew := next HWL.out.1 (Below.refl _ _).drew
                clear hqq hiS
                go_wp2
                refine wp_region_held_drew (S := fun U => Below wb.heap.size wb U) (by kernel_rfl) hbd (fun hHeld => ?_)
                refine wpAnyH_take (i := 0) (v := .slice (some ⟨gx, 0, none⟩) n ca) rfl (by kernel_rfl) (by kernel_rfl) (by kernel_rfl) (fun _ _ _ h => h) (Or.inl ⟨by rfl, ?_⟩) hHeld ?_
                · intro u hu
                  go_simp
                simp only [Act.put, List.getElem_toArray, List.getElem_cons_zero, List.setIfInBounds_toArray, List.set_cons_zero, List.set_cons_succ]
                refine wpAnyH_take (i := 1) (v := .int .i64 (i : Int)) rfl (by kernel_rfl) (by kernel_rfl) (by kernel_rfl) (fun _ _ _ h => h) (Or.inl ⟨by rfl, ?_⟩) hHeld ?_
                · intro u hu
                  go_simp
                simp only [Act.put, List.getElem_toArray, List.getElem_cons_succ, List.getElem_cons_zero, List.setIfInBounds_toArray, List.set_cons_zero, List.set_cons_succ]
                refine wpAnyH_take (i := 2) (v := .pointer (some ⟨gx, i * 5, none⟩)) rfl (by kernel_rfl) (by kernel_rfl) (by kernel_rfl) (fun _ _ _ h => h) (Or.inl ⟨by rfl, ?_⟩) hHeld ?_
                · intro u hu
                  go_simp
                simp only [Act.put, List.getElem_toArray, List.getElem_cons_succ, List.getElem_cons_zero, List.setIfInBounds_toArray, List.set_cons_zero, List.set_cons_succ]
                refine wpAnyH_take (i := 3) (v := .pointer (some ⟨gx, i * 5 + 2, none⟩)) rfl (by kernel_rfl) (by kernel_rfl) (by kernel_rfl) (fun _ _ _ h => h) (Or.inl ⟨by rfl, ?_⟩) hHeld ?_
                · intro u hu
                  go_simp
                simp only [Act.put, List.getElem_toArray, List.getElem_cons_succ, List.getElem_cons_zero, List.setIfInBounds_toArray, List.set_cons_zero, List.set_cons_succ]
                refine wpAnyH_take (i := 4) (v := .int .i64 qq) rfl (by kernel_rfl) (by kernel_rfl) (by kernel_rfl) (fun _ _ _ h => h) (Or.inl ⟨by rfl, ?_⟩) hHeld ?_
                · intro u hu
                  obtain ⟨q0, q1, q2, q3, q4, q5⟩ := HCL.out _ hu; clear hu
                  go_simp
                simp only [Act.put, List.getElem_toArray, List.getElem_cons_succ, List.getElem_cons_zero, List.setIfInBounds_toArray, List.set_cons_zero, List.set_cons_succ]
                refine wpAnyH_take (i := 5) (v := .slice (some ⟨gs, 0, none⟩) n c) rfl (by kernel_rfl) (by kernel_rfl) (by kernel_rfl) (fun _ _ _ h => h) (Or.inl ⟨by rfl, ?_⟩) hHeld ?_
                · intro u hu
                  go_simp
                simp only [Act.put, List.getElem_toArray, List.getElem_cons_succ, List.getElem_cons_zero, List.setIfInBounds_toArray, List.set_cons_zero, List.set_cons_succ]
                refine wpAnyH_take (i := 6) (v := .int .i64 (i : Int)) rfl (by kernel_rfl) (by kernel_rfl) (by kernel_rfl) (fun _ _ _ h => h) (Or.inl ⟨by rfl, ?_⟩) hHeld ?_
                · intro u hu
                  go_simp
                simp only [Act.put, List.getElem_toArray, List.getElem_cons_succ, List.getElem_cons_zero, List.setIfInBounds_toArray, List.set_cons_zero, List.set_cons_succ]
                refine wpAnyH_take (i := 7) (v := .pointer (some ⟨gs, i, none⟩)) rfl (by kernel_rfl) (by kernel_rfl) (by kernel_rfl) (fun _ _ _ h => h) (Or.inl ⟨by rfl, ?_⟩) hHeld ?_
                · intro u hu
                  go_simp
                simp only [Act.put, List.getElem_toArray, List.getElem_cons_succ, List.getElem_cons_zero, List.setIfInBounds_toArray, List.set_cons_zero, List.set_cons_succ]
                refine wpAnyH_take (i := 8) (v := .int .i64 qq) rfl (by kernel_rfl) (by kernel_rfl) (by kernel_rfl) (fun _ _ _ h => h) (Or.inl ⟨by rfl, ?_⟩) hHeld ?_
                · intro u hu
                  obtain ⟨q0, q1, q2, q3, q4, q5⟩ := HCL.out _ hu; clear hu
                  go_simp
                simp only [Act.put, List.getElem_toArray, List.getElem_cons_succ, List.getElem_cons_zero, List.setIfInBounds_toArray, List.set_cons_zero, List.set_cons_succ]
                refine wpAnyH_take (i := 9) (v := .bool false) rfl (by kernel_rfl) (by kernel_rfl) (by kernel_rfl) (fun _ _ _ h => h) (Or.inl ⟨by rfl, ?_⟩) hHeld ?_
                · intro u hu
                  go_simp
                simp only [Act.put, List.getElem_toArray, List.getElem_cons_succ, List.getElem_cons_zero, List.setIfInBounds_toArray, List.set_cons_zero, List.set_cons_succ]
                refine wpAnyH_take (i := 10) (v := .bool false) rfl (by kernel_rfl) (by kernel_rfl) (by kernel_rfl) (fun _ _ _ h => h) (Or.inl ⟨by rfl, ?_⟩) hHeld ?_
                · intro u hu
                  go_simp
                simp only [Act.put, List.getElem_toArray, List.getElem_cons_succ, List.getElem_cons_zero, List.setIfInBounds_toArray, List.set_cons_zero, List.set_cons_succ]
                refine wpAnyH_take (i := 11) (v := .slice (some ⟨gx, 0, none⟩) n ca) rfl (by kernel_rfl) (by kernel_rfl) (by kernel_rfl) (fun _ _ _ h => h) (Or.inl ⟨by rfl, ?_⟩) hHeld ?_
                · intro u hu
                  go_simp
                simp only [Act.put, List.getElem_toArray, List.getElem_cons_succ, List.getElem_cons_zero, List.setIfInBounds_toArray, List.set_cons_zero, List.set_cons_succ]
                refine wpAnyH_take (i := 12) (v := .int .i64 (i : Int)) rfl (by kernel_rfl) (by kernel_rfl) (by kernel_rfl) (fun _ _ _ h => h) (Or.inl ⟨by rfl, ?_⟩) hHeld ?_
                · intro u hu
                  go_simp
                simp only [Act.put, List.getElem_toArray, List.getElem_cons_succ, List.getElem_cons_zero, List.setIfInBounds_toArray, List.set_cons_zero, List.set_cons_succ]
                refine wpAnyH_take (i := 13) (v := .pointer (some ⟨gx, i * 5, none⟩)) rfl (by kernel_rfl) (by kernel_rfl) (by kernel_rfl) (fun _ _ _ h => h) (Or.inl ⟨by rfl, ?_⟩) hHeld ?_
                · intro u hu
                  go_simp
                simp only [Act.put, List.getElem_toArray, List.getElem_cons_succ, List.getElem_cons_zero, List.setIfInBounds_toArray, List.set_cons_zero, List.set_cons_succ]
                refine wpAnyH_take (i := 14) (v := .pointer (some ⟨gx, i * 5 + 4, none⟩)) rfl (by kernel_rfl) (by kernel_rfl) (by kernel_rfl) (fun _ _ _ h => h) (Or.inl ⟨by rfl, ?_⟩) hHeld ?_
                · intro u hu
                  go_simp
                simp only [Act.put, List.getElem_toArray, List.getElem_cons_succ, List.getElem_cons_zero, List.setIfInBounds_toArray, List.set_cons_zero, List.set_cons_succ]
                refine wpAnyH_take (i := 15) (v := .int .i64 u) rfl (by kernel_rfl) (by kernel_rfl) (by kernel_rfl) (fun _ _ _ h => h) (Or.inl ⟨by rfl, ?_⟩) hHeld ?_
                · intro u hu
                  obtain ⟨q0, q1, q2, q3, q4, q5⟩ := HCL.out _ hu; clear hu
                  go_simp
                simp only [Act.put, List.getElem_toArray, List.getElem_cons_succ, List.getElem_cons_zero, List.setIfInBounds_toArray, List.set_cons_zero, List.set_cons_succ]
                refine wpAnyH_take (i := 16) (v := .int .i64 u) rfl (by kernel_rfl) (by kernel_rfl) (by kernel_rfl) (fun _ _ _ h => h) (Or.inl ⟨by rfl, ?_⟩) hHeld ?_
                · intro u hu
                  go_simp
                simp only [Act.put, List.getElem_toArray, List.getElem_cons_succ, List.getElem_cons_zero, List.setIfInBounds_toArray, List.set_cons_zero, List.set_cons_succ]
                refine wpAnyH_take (i := 17) (v := .bool false) rfl (by kernel_rfl) (by kernel_rfl) (by kernel_rfl) (fun _ _ _ h => h) (Or.inl ⟨by rfl, ?_⟩) hHeld ?_
                · intro u hu
                  go_simp
                simp only [Act.put, List.getElem_toArray, List.getElem_cons_succ, List.getElem_cons_zero, List.setIfInBounds_toArray, List.set_cons_zero, List.set_cons_succ]
                refine wpAnyH_take (i := 18) (v := .bool false) rfl (by kernel_rfl) (by kernel_rfl) (by kernel_rfl) (fun _ _ _ h => h) (Or.inl ⟨by rfl, ?_⟩) hHeld ?_
                · intro u hu
                  go_simp
                simp only [Act.put, List.getElem_toArray, List.getElem_cons_succ, List.getElem_cons_zero, List.setIfInBounds_toArray, List.set_cons_zero, List.set_cons_succ]
                refine wpAnyH_take (i := 19) (v := .bool false) rfl (by kernel_rfl) (by kernel_rfl) (by kernel_rfl) (fun _ _ _ h => h) (Or.inl ⟨by rfl, ?_⟩) hHeld ?_
                · intro u hu
                  go_simp
                simp only [Act.put, List.getElem_toArray, List.getElem_cons_succ, List.getElem_cons_zero, List.setIfInBounds_toArray, List.set_cons_zero, List.set_cons_succ]
                refine wpAnyH_take (i := 20) (v := .slice (some ⟨gx, 0, none⟩) n ca) rfl (by kernel_rfl) (by kernel_rfl) (by kernel_rfl) (fun _ _ _ h => h) (Or.inl ⟨by rfl, ?_⟩) hHeld ?_
                · intro u hu
                  go_simp
                simp only [Act.put, List.getElem_toArray, List.getElem_cons_succ, List.getElem_cons_zero, List.setIfInBounds_toArray, List.set_cons_zero, List.set_cons_succ]
                refine wpAnyH_take (i := 21) (v := .int .i64 (i : Int)) rfl (by kernel_rfl) (by kernel_rfl) (by kernel_rfl) (fun _ _ _ h => h) (Or.inl ⟨by rfl, ?_⟩) hHeld ?_
                · intro u hu
                  go_simp
                simp only [Act.put, List.getElem_toArray, List.getElem_cons_succ, List.getElem_cons_zero, List.setIfInBounds_toArray, List.set_cons_zero, List.set_cons_succ]
                refine wpAnyH_take (i := 22) (v := .pointer (some ⟨gx, i * 5, none⟩)) rfl (by kernel_rfl) (by kernel_rfl) (by kernel_rfl) (fun _ _ _ h => h) (Or.inl ⟨by rfl, ?_⟩) hHeld ?_
                · intro u hu
                  go_simp
                simp only [Act.put, List.getElem_toArray, List.getElem_cons_succ, List.getElem_cons_zero, List.setIfInBounds_toArray, List.set_cons_zero, List.set_cons_succ]
                refine wpAnyH_take (i := 23) (v := .pointer (some ⟨gx, i * 5, none⟩)) rfl (by kernel_rfl) (by kernel_rfl) (by kernel_rfl) (fun _ _ _ h => h) (Or.inl ⟨by rfl, ?_⟩) hHeld ?_
                · intro u hu
                  go_simp
                simp only [Act.put, List.getElem_toArray, List.getElem_cons_succ, List.getElem_cons_zero, List.setIfInBounds_toArray, List.set_cons_zero, List.set_cons_succ]
                refine wpAnyH_take (i := 24) (v := .string ⟨#[1, 97, 0]⟩) rfl (by kernel_rfl) (by kernel_rfl) (by kernel_rfl) (fun _ _ _ h => h) (Or.inl ⟨by rfl, ?_⟩) hHeld ?_
                · intro u hu
                  obtain ⟨q0, q1, q2, q3, q4, q5⟩ := HCL.out _ hu; clear hu
                  go_simp
                simp only [Act.put, List.getElem_toArray, List.getElem_cons_succ, List.getElem_cons_zero, List.setIfInBounds_toArray, List.set_cons_zero, List.set_cons_succ]
                refine wpAnyH_take (i := 25) (v := .bool false) rfl (by kernel_rfl) (by kernel_rfl) (by kernel_rfl) (fun _ _ _ h => h) (Or.inl ⟨by rfl, ?_⟩) hHeld ?_
                · intro u hu
                  go_simp
                simp only [Act.put, List.getElem_toArray, List.getElem_cons_succ, List.getElem_cons_zero, List.setIfInBounds_toArray, List.set_cons_zero, List.set_cons_succ]
                refine wpAnyH_take (i := 26) (v := .bool false) rfl (by kernel_rfl) (by kernel_rfl) (by kernel_rfl) (fun _ _ _ h => h) (Or.inl ⟨by rfl, ?_⟩) hHeld ?_
                · intro u hu
                  go_simp
                simp only [Act.put, List.getElem_toArray, List.getElem_cons_succ, List.getElem_cons_zero, List.setIfInBounds_toArray, List.set_cons_zero, List.set_cons_succ]
                refine wpAnyH_take (i := 27) (v := .bool false) rfl (by kernel_rfl) (by kernel_rfl) (by kernel_rfl) (fun _ _ _ h => h) (Or.inl ⟨by rfl, ?_⟩) hHeld ?_
                · intro u hu
                  go_simp
                simp only [Act.put, List.getElem_toArray, List.getElem_cons_succ, List.getElem_cons_zero, List.setIfInBounds_toArray, List.set_cons_zero, List.set_cons_succ]
                refine wpAnyH_take (i := 28) (v := .slice (some ⟨gx, 0, none⟩) n ca) rfl (by kernel_rfl) (by kernel_rfl) (by kernel_rfl) (fun _ _ _ h => h) (Or.inl ⟨by rfl, ?_⟩) hHeld ?_
                · intro u hu
                  go_simp
                simp only [Act.put, List.getElem_toArray, List.getElem_cons_succ, List.getElem_cons_zero, List.setIfInBounds_toArray, List.set_cons_zero, List.set_cons_succ]
                refine wpAnyH_take (i := 29) (v := .int .i64 (i : Int)) rfl (by kernel_rfl) (by kernel_rfl) (by kernel_rfl) (fun _ _ _ h => h) (Or.inl ⟨by rfl, ?_⟩) hHeld ?_
                · intro u hu
                  go_simp
                simp only [Act.put, List.getElem_toArray, List.getElem_cons_succ, List.getElem_cons_zero, List.setIfInBounds_toArray, List.set_cons_zero, List.set_cons_succ]
                refine wpAnyH_take (i := 30) (v := .pointer (some ⟨gx, i * 5, none⟩)) rfl (by kernel_rfl) (by kernel_rfl) (by kernel_rfl) (fun _ _ _ h => h) (Or.inl ⟨by rfl, ?_⟩) hHeld ?_
                · intro u hu
                  go_simp
                simp only [Act.put, List.getElem_toArray, List.getElem_cons_succ, List.getElem_cons_zero, List.setIfInBounds_toArray, List.set_cons_zero, List.set_cons_succ]
                refine wpAnyH_take (i := 31) (v := .pointer (some ⟨gx, i * 5 + 3, none⟩)) rfl (by kernel_rfl) (by kernel_rfl) (by kernel_rfl) (fun _ _ _ h => h) (Or.inl ⟨by rfl, ?_⟩) hHeld ?_
                · intro u hu
                  go_simp
                simp only [Act.put, List.getElem_toArray, List.getElem_cons_succ, List.getElem_cons_zero, List.setIfInBounds_toArray, List.set_cons_zero, List.set_cons_succ]
                refine wpAnyH_take (i := 32) (v := .string ⟨#[0]⟩) rfl (by kernel_rfl) (by kernel_rfl) (by kernel_rfl) (fun _ _ _ h => h) (Or.inl ⟨by rfl, ?_⟩) hHeld ?_
                · intro u hu
                  obtain ⟨q0, q1, q2, q3, q4, q5⟩ := HCL.out _ hu; clear hu
                  go_simp
                simp only [Act.put, List.getElem_toArray, List.getElem_cons_succ, List.getElem_cons_zero, List.setIfInBounds_toArray, List.set_cons_zero, List.set_cons_succ]
                refine wpAnyH_take (i := 33) (v := .bool false) rfl (by kernel_rfl) (by kernel_rfl) (by kernel_rfl) (fun _ _ _ h => h) (Or.inl ⟨by rfl, ?_⟩) hHeld ?_
                · intro u hu
                  go_simp
                simp only [Act.put, List.getElem_toArray, List.getElem_cons_succ, List.getElem_cons_zero, List.setIfInBounds_toArray, List.set_cons_zero, List.set_cons_succ]
                refine wpAnyH_take (i := 34) (v := .bool false) rfl (by kernel_rfl) (by kernel_rfl) (by kernel_rfl) (fun _ _ _ h => h) (Or.inl ⟨by rfl, ?_⟩) hHeld ?_
                · intro u hu
                  go_simp
                simp only [Act.put, List.getElem_toArray, List.getElem_cons_succ, List.getElem_cons_zero, List.setIfInBounds_toArray, List.set_cons_zero, List.set_cons_succ]
                refine wpAnyH_take (i := 35) (v := .bool false) rfl (by kernel_rfl) (by kernel_rfl) (by kernel_rfl) (fun _ _ _ h => h) (Or.inl ⟨by rfl, ?_⟩) hHeld ?_
                · intro u hu
                  go_simp
                simp only [Act.put, List.getElem_toArray, List.getElem_cons_succ, List.getElem_cons_zero, List.setIfInBounds_toArray, List.set_cons_zero, List.set_cons_succ]
                refine wpAnyH_take (i := 36) (v := .slice (some ⟨gx, 0, none⟩) n ca) rfl (by kernel_rfl) (by kernel_rfl) (by kernel_rfl) (fun _ _ _ h => h) (Or.inl ⟨by rfl, ?_⟩) hHeld ?_
                · intro u hu
                  go_simp
                simp only [Act.put, List.getElem_toArray, List.getElem_cons_succ, List.getElem_cons_zero, List.setIfInBounds_toArray, List.set_cons_zero, List.set_cons_succ]
                refine wpAnyH_take (i := 37) (v := .int .i64 (i : Int)) rfl (by kernel_rfl) (by kernel_rfl) (by kernel_rfl) (fun _ _ _ h => h) (Or.inl ⟨by rfl, ?_⟩) hHeld ?_
                · intro u hu
                  go_simp
                simp only [Act.put, List.getElem_toArray, List.getElem_cons_succ, List.getElem_cons_zero, List.setIfInBounds_toArray, List.set_cons_zero, List.set_cons_succ]
                refine wpAnyH_take (i := 38) (v := .pointer (some ⟨gx, i * 5, none⟩)) rfl (by kernel_rfl) (by kernel_rfl) (by kernel_rfl) (fun _ _ _ h => h) (Or.inl ⟨by rfl, ?_⟩) hHeld ?_
                · intro u hu
                  go_simp
                simp only [Act.put, List.getElem_toArray, List.getElem_cons_succ, List.getElem_cons_zero, List.setIfInBounds_toArray, List.set_cons_zero, List.set_cons_succ]
                refine wpAnyH_take (i := 39) (v := .pointer (some ⟨gx, i * 5 + 1, none⟩)) rfl (by kernel_rfl) (by kernel_rfl) (by kernel_rfl) (fun _ _ _ h => h) (Or.inl ⟨by rfl, ?_⟩) hHeld ?_
                · intro u hu
                  go_simp
                simp only [Act.put, List.getElem_toArray, List.getElem_cons_succ, List.getElem_cons_zero, List.setIfInBounds_toArray, List.set_cons_zero, List.set_cons_succ]
                refine wpAnyH_take (i := 40) (v := .string HN) rfl (by kernel_rfl) (by kernel_rfl) (by kernel_rfl) (fun _ _ _ h => h) (Or.inl ⟨by rfl, ?_⟩) hHeld ?_
                · intro u hu
                  obtain ⟨q0, q1, q2, q3, q4, q5⟩ := HCL.out _ hu; clear hu
                  go_simp
                simp only [Act.put, List.getElem_toArray, List.getElem_cons_succ, List.getElem_cons_zero, List.setIfInBounds_toArray, List.set_cons_zero, List.set_cons_succ]
                refine wpAnyH_take (i := 41) (v := .string LH) rfl (by kernel_rfl) (by kernel_rfl) (by kernel_rfl) (fun _ _ _ h => h) (Or.inl ⟨by rfl, ?_⟩) hHeld ?_
                · intro u hu
                  go_simp
                simp only [Act.put, List.getElem_toArray, List.getElem_cons_succ, List.getElem_cons_zero, List.setIfInBounds_toArray, List.set_cons_zero, List.set_cons_succ]
                refine wpAnyH_ready (rs := [42]) (by kernel_rfl) (by simp) ?_
                refine AllReadyH.cons rfl (fun K hK => ?_) AllReadyH.nil
                go_simp
                refine (hRF _).mono ?_
                rintro e w5 ⟨rfl, b5⟩
                have HW5 : Hid (BX w wb w5 o FL (.slice (some ⟨gs, 0, none⟩) n c)) := ⟨next hHeld b5, HWL.out.2.below (next (Below.refl _ _).drew b5)⟩
                replace hHeld := next hHeld b5
                clear b5
                go_simp
                refine hK.out _ _ hHeld (fun hHeld => ?_)
                clear hK K
                refine wpAnyH_take (i := 43) (v := .bool false) rfl (by kernel_rfl) (by kernel_rfl) (by kernel_rfl) (fun _ _ _ h => h) (Or.inl ⟨by rfl, ?_⟩) hHeld ?_
                · intro u hu
                  go_simp
                simp only [Act.put, List.getElem_toArray, List.getElem_cons_succ, List.getElem_cons_zero, List.setIfInBounds_toArray, List.set_cons_zero, List.set_cons_succ]
                refine wpAnyH_take (i := 44) (v := .bool false) rfl (by kernel_rfl) (by kernel_rfl) (by kernel_rfl) (fun _ _ _ h => h) (Or.inl ⟨by rfl, ?_⟩) hHeld ?_
                · intro u hu
                  go_simp
                simp only [Act.put, List.getElem_toArray, List.getElem_cons_succ, List.getElem_cons_zero, List.setIfInBounds_toArray, List.set_cons_zero, List.set_cons_succ]
                refine wpAnyH_done (by kernel_rfl) ?_ _
                go_wp2
                go_roundw
                case rel => exact ⟨i + 1, by omega, by go_num, HW5⟩
                case measure => simp [intOf]; omega
              · have hin' : decide (i < n) = false := by simpa using hin
                clear hin
                have hb3 := HWL.out.2.binds ⟨#[0]⟩ 2 (by decide) Cu.Hb2 HB3.out 2 rfl
                go_wp2_with (first
                  | (go_at_call 20; refine (num_any _ _).mono ?_; rintro e w' ⟨rfl, hw⟩; obtain rfl := hw.symm)
                  | (go_at_call 18; go_must (refine hb3.mono ?_); rintro e wc ⟨yc, cc, rfl, _, lc, _⟩; clear hb3))
                go_ret
                exact ⟨rfl, lc.bel⟩
      · have h2 : decide (hh < 2) = false := by simp; omega
        have h1 : ¬ hh = 1 := by omega
        rw [HNB.out, if_neg h1] at HB2
        rw [HNX.out (by omega)] at hb1
        rcases he with he | ⟨he, he2⟩
        · skip
          go_wp2_with (first
            | (go_at_call 18; have _t := t3; go_must (refine hb1.mono ?_); rintro e wa ⟨ya, ca, rfl, oa, la, ba⟩; have hb2 := la.binds ⟨#[1, 98, 0]⟩ 2 (by decide) _ rfl 0 HB2.out; have HOA : Hid (∀ U, Below wa.heap.size wa U → U.ownsRow wr.heap.size 45 5 (.slice ya 0 ca) 0 (Cu.bC XA) ∧ U.ownsRow w.heap.size 3 1 (.slice y n c) n (Cu.iC S)) := fun U hU => ⟨own_past oa hU, own_past (own_past HR2.out ba) hU⟩; clear t3 hb1 oa la ba)
            | (go_at_call 18; have _t := t4; go_must (refine hb2.mono ?_); rintro e wb ⟨yb, cb, rfl, _, lb, bb⟩; have HWB : Hid (Below wa.heap.size wa wb ∧ Cu.LW w wb o Cu.Hs2 Cu.Hb2 (FL) (fun k => (Value.slice none 0 0).ownBlock = some k ∨ (Value.slice y n c).ownBlock = some k)) := ⟨bb, lb⟩; clear t4 hb2 bb lb))
          go_loopw [22] (fun k wr => wr = wb ∧ k = .int .i64 0) (fun _ _ => 0)
          case atStart => exact ⟨rfl, rfl⟩
          case round =>
            obtain ⟨hwr, rfl⟩ := hrel
            subst hwr
            have HWL := HWB
            have hb3 := HWL.out.2.binds ⟨#[0]⟩ 2 (by decide) Cu.Hb2 HB3.out 2 rfl
            go_wp2_with (first
              | (go_at_call 20; refine (num_any _ _).mono ?_; rintro e w' ⟨rfl, hw⟩; obtain rfl := hw.symm)
              | (go_at_call 18; go_must (refine hb3.mono ?_); rintro e wc ⟨yc, cc, rfl, _, lc, _⟩; clear hb3))
            go_ret
            exact ⟨rfl, lc.bel⟩
        · skip
          go_wp2_with (first
            | (go_at_call 18; have _t := t3; go_must (refine hb1.mono ?_); rintro e wa ⟨ya, ca, rfl, oa, la, ba⟩; have hb2 := la.binds ⟨#[1, 98, 0]⟩ 2 (by decide) _ rfl 0 HB2.out; have HOA : Hid (∀ U, Below wa.heap.size wa U → U.ownsRow wr.heap.size 45 5 (.slice ya 0 ca) 0 (Cu.bC XA) ∧ U.ownsRow w.heap.size 3 1 (.slice y n c) n (Cu.iC S)) := fun U hU => ⟨own_past oa hU, own_past (own_past HR2.out ba) hU⟩; clear t3 hb1 oa la ba)
            | (go_at_call 18; have _t := t4; go_must (refine hb2.mono ?_); rintro e wb ⟨yb, cb, rfl, _, lb, bb⟩; have HWB : Hid (Below wa.heap.size wa wb ∧ Cu.LW w wb o Cu.Hs2 Cu.Hb2 (FL) (fun k => (Value.slice none 0 0).ownBlock = some k ∨ (Value.slice y n c).ownBlock = some k)) := ⟨bb, lb⟩; clear t4 hb2 bb lb))
          go_loopw [22] (fun k wr => wr = wb ∧ k = .int .i64 0) (fun _ _ => 0)
          case atStart => exact ⟨rfl, rfl⟩
          case round =>
            obtain ⟨hwr, rfl⟩ := hrel
            subst hwr
            have HWL := HWB
            have hb3 := HWL.out.2.binds ⟨#[0]⟩ 2 (by decide) Cu.Hb2 HB3.out 2 rfl
            go_wp2_with (first
              | (go_at_call 20; refine (num_any _ _).mono ?_; rintro e w' ⟨rfl, hw⟩; obtain rfl := hw.symm)
              | (go_at_call 18; go_must (refine hb3.mono ?_); rintro e wc ⟨yc, cc, rfl, _, lc, _⟩; clear hb3))
            go_ret
            exact ⟨rfl, lc.bel⟩

theorem own : ownKnob Try.prog.godebug = none := by kernel_rfl
theorem laidOut : laidOutB Try.prog = true := by kernel_rfl

set_option maxRecDepth 100000 in
theorem lifted (os : Os) (started : os.Started) (H : Type) (enc : TypeId × Value → H) :
    ReturnsInHanded {} Try.checked os 7 .any (Rows.cutsLearnSpec.pre6 enc Try.prog Try.f7 Rows.cutsLearnRow.domain false) (Rows.cutsLearnSpec.post enc Try.prog Try.f7 false true false false) := by
  refine returnsInHanded_of_change (C := Try.checked) own started (by kernel_rfl) Try.func7
    (ChangeSpec.witness6 (enc := enc) (C := Try.checked) false ⟨#[], #[.int .i64 0, .slice none 0 0, .int .i64 0], []⟩ 8 (by kernel_rfl) (by kernel_rfl) (by kernel_rfl) (by kernel_rfl)) ?_
  intro W base args ds gs before hval0 hW _ _
  have hval : ∀ (j : Nat) t v, Try.f7.params[j]? = some t → args[j]? = some v → Value.okWide Try.prog W .any base t v := hval0
  have hW' := hW
  obtain ⟨p, q, hA0, hV, rfl, hfz, hnd⟩ := hW
  have hA : DataW.TrodAll enc Try.prog W 0 (fun _ => true) true Try.f7.params.toList args.toList ds p := hA0
  rw [Try.params7] at hA hval
  obtain ⟨v0, vs0, d0, ds0, p0, q0, hargs, rfl, rfl, h0, r0⟩ := trodAll_cons hA
  obtain ⟨v1, vs1, d1, ds1, p1, q1, rfl, rfl, rfl, h1, r1⟩ := trodAll_cons r0
  obtain ⟨v2, vs2, d2, ds2, p2, q2, rfl, rfl, rfl, h2, r2⟩ := trodAll_cons r1
  obtain ⟨rfl, rfl, rfl⟩ := trodAll_nil r2
  obtain rfl : args = #[v0, v1, v2] := by cases args; simp_all
  obtain ⟨rfl, rfl⟩ := trodVars_none hV
  obtain ⟨a0, rfl, rfl, rfl, w0⟩ := open_int Try.underlying3 (hval 0 3 v0 rfl rfl) h0
  obtain ⟨a1, w1⟩ := open_irow (hval 1 48 v1 rfl rfl) h1
  obtain ⟨a2, rfl, rfl, rfl, w2⟩ := open_int Try.underlying3 (hval 2 3 v2 rfl rfl) h2
  have hlt1 : ∀ x ∈ p1, x.block < W.heap.size := fun x hx => by
    have := hW'.lt x (by simp [hx])
    simpa using this
  clear hA0 hval0
  simp only [List.append_nil] at hW'
  refine (walk a0 v1 a1 a2 w0 w2 W w1).mono fun e W' ⟨he, bel⟩ => ?_
  subst he
  exact ⟨_, rfl, _, _, _, [], _, [], hW', trodAll_mk1 (shut_bool Try.underlying4 _), (trodAll_cons_mk (shut_int Try.underlying3 w0) (trodAll_cons_mk (Below.trod laidOut (by kernel_rfl) (of_decide_eq_true (by kernel_rfl)) h1 bel hlt1) (trodAll_cons_mk (shut_int Try.underlying3 w2) trodAll_mk0))), rfl, bel.frame _, fun h => by cases h⟩

/-- The statement. -/
theorem proved : Rows.CutsLearnSaid :=
  OpenClaim.holds_of_wide 7 Try.f7 rfl rfl rfl rfl rfl rfl rfl ⟨rfl, rfl, rfl, rfl, rfl⟩ rfl rfl rfl rfl rfl (by kernel_rfl) Try.func7 (by kernel_rfl)
    (of_decide_eq_true (by kernel_rfl)) (by unfold Func.isWrapper; first | (rw [if_pos (by decide +kernel)]; kernel_rfl) | (rw [if_neg (by decide +kernel)]; exact ⟨rfl, rfl⟩))
    (fun os started H enc _ => lifted os started H enc)
#print axioms proved


end Go.Proofs.Ytnjgdfmldjgloaa.cutsLearn
