/- CutsAgain holds: for every two rows of numbers and every tick, a cut that is told again is what it was told last. -/
import Derived.Test.YtnjgdfmldjgloabXP16
import Derived.Test.YtnjgdfmldjgloabXInA
import Derived.ProofKit
import Derived.OpenShut
import Derived.ShutString
namespace Go.Proofs.Ytnjgdfmldjgloab.cutsAgain
open Go.ChangeShapes Go.WideShapes Go.ChangeAt Go.RowKit
open Go.ChangeMaps (open_string shut_string)
open Pl

def qB : ByteArray := ⟨#[1, 113, 0]⟩
def cutQ (a u : Int) : Cu.Ct := ⟨qB, [⟨#[1, 104, 0]⟩], Cu.rootB, u, [⟨0, a, u⟩]⟩
def tellQ (a u : Int) : Cu.Bn := ⟨qB, ⟨#[1, 104, 0]⟩, a, Cu.rootB, u⟩
theorem may_q {a t now : Int} (ha : Cu.wideB a = true) (h0 : 0 ≤ now) (h1 : now ≤ 1099511627776) : Cu.mayD (Cu.delD ⟨#[1, 81, 0]⟩ a t) ⟨#[0]⟩ now = true := by
  unfold Cu.mayD Cu.delD
  simp only
  rw [show Cu.tellOk ⟨#[0]⟩ ⟨#[1, 81, 0]⟩ = true by decide, show Cu.hostsOk [⟨#[1, 104, 0]⟩] = true by decide, show Cu.glueOk [Cu.delG a t] [⟨#[1, 104, 0]⟩] = true from ?_, decide_eq_true h0, decide_eq_true h1]
  · rfl
  · unfold Cu.glueOk Cu.gOk Cu.delG
    simp only [List.length_cons, List.length_nil, List.all_cons, List.all_nil, ha]
    rw [show Cu.hasB [⟨#[1, 104, 0]⟩] ⟨#[1, 72, 0]⟩ = true by decide]
    rfl
theorem new_q {a t now : Int} (h1 : 1 ≤ t) (h2 : t ≤ 86400) : Cu.newCt (Cu.delD ⟨#[1, 81, 0]⟩ a t) ⟨#[0]⟩ now = cutQ a (now + t) := by
  have e : Cu.lastI t = t := by unfold Cu.lastI; omega
  have e2 : Cu.newBs [⟨#[1, 104, 0]⟩] [Cu.delG a t] now = [⟨0, a, now + Cu.lastI t⟩] := rfl
  rw [e] at e2
  unfold Cu.newCt Cu.delD
  simp only
  rw [e, e2]
  rfl
/-- What is held when so many were told. -/
def FQ (F : List Cu.Ct) (L E : Int) : Prop := (F = [] ∧ L = -1 ∧ E = 0) ∨ (F = [cutQ L E] ∧ 0 ≤ L ∧ 0 < E)
theorem put_q {F : List Cu.Ct} {L E a t now : Int} (h : FQ F L E) (ha : Cu.wideB a = true) (h0 : 0 ≤ now) (h9 : now ≤ 1099511627776) (h1 : 1 ≤ t) (h2 : t ≤ 86400) :
    Cu.errC (Cu.delD ⟨#[1, 81, 0]⟩ a t) ⟨#[0]⟩ now = 0 ∧ Cu.putC F (Cu.delD ⟨#[1, 81, 0]⟩ a t) ⟨#[0]⟩ now = [cutQ a (now + t)] := by
  have hm := may_q (t := t) ha h0 h9
  refine ⟨Cu.yes_may hm, ?_⟩
  have hf : F.filter (Cu.keepC (fdB (Cu.delD ⟨#[1, 81, 0]⟩ a t).c) now) = [] := by
    rw [show fdB (Cu.delD ⟨#[1, 81, 0]⟩ a t).c = qB by rfl]
    rcases h with ⟨rfl, _⟩ | ⟨rfl, _⟩
    · rfl
    · refine List.filter_eq_nil_iff.2 (fun c hc => ?_)
      simp at hc
      subst hc
      unfold Cu.keepC
      rw [decide_eq_true (show (cutQ L E).n = qB from rfl)]
      simp
  unfold Cu.putC
  rw [hm, if_pos rfl, hf, new_q h1 h2]
  rfl
theorem bind_none {F : List Cu.Ct} {L E m : Int} (h : FQ F L E) (hn : L < 0 ∨ E ≤ m) : Cu.bindF Cu.Hb2 F qB m = [] ∧ Cu.hostsF Cu.Hs2 F qB m = [] ∧ Cu.deepF F qB m = ⟨#[0]⟩ := by
  rcases h with ⟨rfl, _⟩ | ⟨rfl, h0, _⟩
  · exact ⟨rfl, rfl, rfl⟩
  · have hl : Cu.liveF [cutQ L E] qB m = none := by
      unfold Cu.liveF
      rw [List.find?_cons_of_pos (by simp [cutQ])]
      simp only
      rw [if_neg (show ¬ m < (cutQ L E).u by show ¬ m < E; omega)]
    refine ⟨?_, ?_, ?_⟩
    · unfold Cu.bindF
      rw [show fdB qB = qB by rfl, if_neg (by decide), hl]
    · unfold Cu.hostsF
      rw [show fdB qB = qB by rfl, if_neg (by decide), hl]
    · unfold Cu.deepF
      rw [if_pos (by decide), show fdB qB = qB by rfl, show (labs qB.data.toList).length = 1 by decide, Cu.deepK, show Cu.lvF [cutQ L E] qB m 1 = false by unfold Cu.lvF; rw [show Cu.lastB qB 1 = qB by rfl, hl]; rfl, if_neg (by simp)]
      rfl
theorem bind_some {F : List Cu.Ct} {L E m : Int} (h : FQ F L E) (h0 : 0 ≤ L) (hm : m < E) : Cu.bindF Cu.Hb2 F qB m = [tellQ L E] ∧ Cu.deepF F qB m = qB := by
  rcases h with ⟨_, e, _⟩ | ⟨rfl, _⟩
  · omega
  · have hl : Cu.liveF [cutQ L E] qB m = some (cutQ L E) := by
      unfold Cu.liveF
      rw [List.find?_cons_of_pos (by simp [cutQ])]
      simp only
      rw [if_pos (show m < (cutQ L E).u from hm)]
    refine ⟨?_, ?_⟩
    · unfold Cu.bindF
      rw [show fdB qB = qB by rfl, if_neg (by decide), hl]
      simp only
      have : Cu.liveB m (cutQ L E).bs = [⟨0, L, E⟩] := by
        unfold Cu.liveB cutQ
        simp only
        rw [List.filter_cons_of_pos (by simpa using hm)]
        rfl
      rw [this]
      rfl
    · unfold Cu.deepF
      rw [if_pos (by decide), show fdB qB = qB by rfl, show (labs qB.data.toList).length = 1 by decide, Cu.deepK, show Cu.lvF [cutQ L E] qB m 1 = true by unfold Cu.lvF; rw [show Cu.lastB qB 1 = qB by rfl, hl]; rfl, if_pos rfl]
      rfl

set_option maxRecDepth 20000 in
set_option maxHeartbeats 8000000 in
theorem walk (v0 : Value) (ls : List Int) (v1 : Value) (ts : List Int) (now : Int) (_ : (Lit.int .i64 now).wf = true) (w : World) (hr0 : Row w v0 ls.length (iC ls) ∧ ls.length ≤ maxLen) (hr1 : Row w v1 ts.length (iC ts) ∧ ts.length ≤ maxLen) :
    Calls Try.prog 3 #[v0, v1, .int .i64 now] w fun e w' => e = .returned (.bool true) ∧ Below w.heap.size w w' := by
  obtain ⟨x0, c0, rfl, _⟩ := hr0.1.src
  obtain ⟨x1, c1, rfl, _⟩ := hr1.1.src
  obtain ⟨n0, hn0⟩ : ∃ n, n = ls.length := ⟨_, rfl⟩
  obtain ⟨n1, hn1⟩ : ∃ n, n = ts.length := ⟨_, rfl⟩
  have HN0 : Hid (n0 = ls.length) := hn0
  have HN1 : Hid (n1 = ts.length) := hn1
  have HR0 : Hid (Row w (.slice x0 n0 c0) n0 (iC ls)) := by unfold Hid; rw [hn0]; exact hr0.1
  have HR1 : Hid (Row w (.slice x1 n1 c1) n1 (iC ts)) := by unfold Hid; rw [hn1]; exact hr1.1
  have hm0 : n0 ≤ maxLen := by rw [hn0]; exact hr0.2
  have hm1 : n1 ≤ maxLen := by rw [hn1]; exact hr1.2
  unfold maxLen at hm0 hm1
  rw [← hn0, ← hn1]
  obtain ⟨M, hM, hMb⟩ : ∃ M : Nat, M < 64 ∧ bits .and .i64 now 63 = (M : Int) := by
    refine ⟨(now % 64).toNat, by omega, ?_⟩
    have := mask now 6 (by decide)
    simp only [Nat.reducePow, Nat.reduceSub] at this
    have e : bits .and .i64 now 63 = now % 64 := this
    rw [e]; omega
  clear hr0 hr1 hn0 hn1
  go_enter Try.func3, Try.ntmps3
  go_wp2_with (first
    | (go_at_call 4; go_must (refine (Cu.awake_any _).mono ?_); rintro e w1 ⟨rfl, b1⟩)
    | (go_at_call 6; go_must (refine (Cu.hints_any _).mono ?_); rintro e wh ⟨rfl, rfl⟩)
    | (go_at_call 5; go_must (refine (Cu.lw_hints (M := fun _ => False) b1 (fun _ h => h.elim)).mono ?_); rintro e w2 ⟨o, rfl, s2, _⟩; have HD0 : Hid (∃ F, FQ F (-1) 0 ∧ Cu.LW w w2 o Cu.Hs2 Cu.Hb2 F (fun _ => False)) := ⟨[], .inl ⟨rfl, rfl, rfl⟩, s2⟩; clear b1 s2))
  go_loopw [9, 10, 11, 12] (fun s9 s10 s11 k wr => ∃ (j t : Nat) (L E : Int), j ≤ n0 ∧ j ≤ n1 ∧ j ≤ 20 ∧ t ≤ 7 * j ∧ -1 ≤ L ∧ L ≤ 255 ∧ 0 ≤ E ∧ E ≤ 300 ∧ s9 = .int .i64 (t : Int) ∧ s10 = .int .i64 L ∧ s11 = .int .i64 E ∧ k = .int .i64 (j : Int) ∧ Hid (∃ F, FQ F L E ∧ Cu.LW w wr o Cu.Hs2 Cu.Hb2 F (fun _ => False))) (fun _ _ _ k _ => 20 - (intOf k).toNat)
  case atStart => exact ⟨0, 0, -1, 0, Nat.zero_le _, Nat.zero_le _, Nat.zero_le _, by omega, by omega, by omega, by omega, by omega, rfl, rfl, rfl, rfl, HD0⟩
  case round =>
    clear HD0
    obtain ⟨j, t, L, E, hj0, hj1, hj20, htj, hL0, hL1, hE0, hE1, rfl, rfl, rfl, rfl, HX⟩ := hrel
    by_cases hlt : j < n0 ∧ j < n1 ∧ j < 20
    · obtain ⟨h0, h1, h20⟩ := hlt
      have h20' : (j : Int) < 20 := by omega
      obtain ⟨F, hF, hW⟩ := HX.out
      have hjm0 : j < ls.length := by have := HN0.out; omega
      have hjm1 : j < ts.length := by have := HN1.out; omega
      have HRD : Hid (∀ u, Below w.heap.size w u → ∃ g0 o0 g1 o1, x0 = some ⟨g0, o0, none⟩ ∧ x1 = some ⟨g1, o1, none⟩ ∧ u.cell? ⟨g0, o0 + j, none⟩ = some (.int .i64 ls[j]) ∧ u.cell? ⟨g1, o1 + j, none⟩ = some (.int .i64 ts[j])) := fun u hu => by
        obtain ⟨g0, o0, cp0, hx, hc0⟩ := row_at (HR0.out.below hu) (by omega)
        simp only [Value.slice.injEq] at hx
        obtain ⟨g1, o1, cp1, hx1, hc1⟩ := row_at (HR1.out.below hu) (by omega)
        simp only [Value.slice.injEq] at hx1
        exact ⟨g0, o0, g1, o1, hx.1, hx1.1, hc0 j _ (iC_at hjm0), hc1 j _ (iC_at hjm1)⟩
      obtain ⟨g0, o0, g1, o1, hx0, hx1, e0, e1⟩ := HRD.out wr hW.bel
      have HX01 : Hid (x0 = some ⟨g0, o0, none⟩ ∧ x1 = some ⟨g1, o1, none⟩) := ⟨hx0, hx1⟩
      rw [hx0, hx1]
      obtain ⟨p, hp⟩ : ∃ p, p = ls[j] := ⟨_, rfl⟩
      obtain ⟨q, hq⟩ : ∃ q, q = ts[j] := ⟨_, rfl⟩
      have HRE : Hid (∀ u, Below w.heap.size w u → u.cell? ⟨g0, o0 + j, none⟩ = some (.int .i64 p)) := fun u hu => by
        obtain ⟨a0, b0, a1, b1, q0, q1, r0, _⟩ := HRD.out u hu
        rw [HX01.out.1] at q0
        simp only [Option.some.injEq, Addr.mk.injEq, and_true] at q0
        obtain ⟨rfl, rfl⟩ := q0
        rw [hp]
        exact r0
      rw [← hp] at e0
      rw [← hq] at e1
      obtain ⟨a, ha, hab⟩ : ∃ a : Nat, a < 256 ∧ bits .and .i64 p 255 = (a : Int) := by
        refine ⟨(p % 256).toNat, by omega, ?_⟩
        have := mask p 8 (by decide)
        simp only [Nat.reducePow, Nat.reduceSub] at this
        have e : bits .and .i64 p 255 = p % 256 := this
        rw [e]; omega
      obtain ⟨d, hd, hdb⟩ : ∃ d : Nat, d < 8 ∧ bits .and .i64 q 7 = (d : Int) := by
        refine ⟨(q % 8).toNat, by omega, ?_⟩
        have := mask q 3 (by decide)
        simp only [Nat.reducePow, Nat.reduceSub] at this
        have e : bits .and .i64 q 7 = q % 8 := this
        rw [e]; omega
      obtain ⟨T, hT, hTb⟩ : ∃ T : Nat, T < 32 ∧ bits .and .i64 (q / 8) 31 = (T : Int) := by
        refine ⟨(q / 8 % 32).toNat, by omega, ?_⟩
        have := mask (q / 8) 5 (by decide)
        simp only [Nat.reducePow, Nat.reduceSub] at this
        have e : bits .and .i64 (q / 8) 31 = q / 8 % 32 := this
        rw [e]; omega
      have hput := put_q (a := (a : Int)) (t := 1 + (T : Int)) (now := (t : Int) + (d : Int)) hF (by unfold Cu.wideB; rw [decide_eq_true (by omega), decide_eq_true (by omega)]; rfl) (by omega) (by omega) (by omega) (by omega)
      have HPUT : Hid _ := hput
      have HWW : Hid (Cu.LW w wr o Cu.Hs2 Cu.Hb2 F (fun _ => False)) := hW
      clear hp hq HRD hx0 hx1 hput hW hF HX
      go_wp2_with (first
        | (go_at_call 8; go_must (refine (Cu.del_any ⟨#[1, 81, 0]⟩ (a : Int) (1 + (T : Int)) _).mono ?_); rintro e w3 ⟨X, Y, rfl, kx, ky, b3, _, _⟩; have hw3 := HWW.out.below b3; have hp3 := hw3.put (Cu.din_del (cn := ⟨#[1, 81, 0]⟩) kx ky (by decide)) ⟨#[0]⟩ ((t : Int) + (d : Int)) (by decide) 0 HPUT.out.1 _ HPUT.out.2; clear kx ky b3 e0 e1)
        | (go_at_call 7; go_must (refine hp3.mono ?_); rintro e w4 ⟨rfl, lw4, _⟩; have e4 := HRE.out w4 lw4.bel; have HL4 : Hid _ := lw4; clear hw3 hp3 lw4)
        | (go_at_call 9; refine (num_any _ _).mono ?_; rintro e w' ⟨rfl, hw⟩; obtain rfl := hw.symm))
      have HD8 : Hid (∃ F, FQ F (a : Int) ((t : Int) + (d : Int) + (1 + (T : Int))) ∧ Cu.LW w w4 o Cu.Hs2 Cu.Hb2 F (fun _ => False)) := ⟨_, .inr ⟨rfl, by omega, by omega⟩, HL4.out⟩
      clear HL4 e4
      go_roundw
      case rel => exact ⟨j + 1, t + d, (a : Int), (t : Int) + (d : Int) + (1 + (T : Int)), by omega, by omega, by omega, by omega, by omega, by omega, by omega, by omega, by rw [show ((t + d : Nat) : Int) = (t : Int) + (d : Int) by omega], rfl, rfl, by go_num, HD8⟩
      case measure => simp [intOf]; omega
    · have he : decide (j < n0) = false ∨ (j < n0 ∧ decide (j < n1) = false) ∨ (j < n0 ∧ j < n1 ∧ decide ((j : Int) < 20) = false) := by
        by_cases h : j < n0
        · by_cases h1 : j < n1
          · exact .inr (.inr ⟨h, h1, by simp; omega⟩)
          · exact .inr (.inl ⟨h, by simp; omega⟩)
        · exact .inl (by simp; omega)
      obtain ⟨F, hF, hW⟩ := HX.out
      have HWW : Hid (Cu.LW w wr o Cu.Hs2 Cu.Hb2 F (fun _ => False)) := hW
      have HF : Hid (FQ F L E) := hF
      clear hlt hW hF HX
      by_cases hn : L < 0 ∨ E ≤ (t : Int) + (M : Int)
      · have HB : Hid _ := bind_none HF.out hn
        unfold qB at HB
        have hbi := HWW.out.binds ⟨#[1, 113, 0]⟩ ((t : Int) + (M : Int)) (by decide) [] HB.out.1 0 rfl
        have hn2 : L < 0 ∨ (decide (L < 0) = false ∧ E ≤ (t : Int) + (M : Int)) := by
          by_cases h : L < 0
          · exact .inl h
          · exact .inr ⟨by simpa using h, by omega⟩
        clear hn
        rcases he with he | ⟨he, he2⟩ | ⟨he, he1, he2⟩
        all_goals
          rcases hn2 with hn2 | ⟨hn2, hn3⟩
          all_goals
            go_wp2_with (first
              | (go_at_call 9; refine (num_any _ _).mono ?_; rintro e w' ⟨rfl, hw⟩; obtain rfl := hw.symm)
              | (go_at_call 10; go_must (refine hbi.mono ?_); rintro e wa ⟨ya, ca, rfl, _, la, _⟩; have hho := la.hosts ⟨#[1, 113, 0]⟩ ((t : Int) + (M : Int)) (by decide) [] HB.out.2.1 0 rfl; clear hbi la)
              | (go_at_call 11; go_must (refine hho.mono ?_); rintro e wb ⟨yb, cb, rfl, _, lb, _⟩; have hde := lb.deep ⟨#[1, 113, 0]⟩ ((t : Int) + (M : Int)) (by decide) _ HB.out.2.2; clear hho lb)
              | (go_at_call 12; go_must (refine hde.mono ?_); rintro e wd ⟨rfl, ld, _⟩; clear hde))
            go_ret
            exact ⟨rfl, ld.bel⟩
      · have hn1' : decide (L < 0) = false := by simp; omega
        have hn2' : decide (E ≤ (t : Int) + (M : Int)) = false := by simp; omega
        have HB : Hid _ := bind_some HF.out (show 0 ≤ L by omega) (show (t : Int) + (M : Int) < E by omega)
        unfold qB at HB
        have hbi := HWW.out.binds ⟨#[1, 113, 0]⟩ ((t : Int) + (M : Int)) (by decide) [tellQ L E] HB.out.1 1 rfl
        have hbe := Cu.bn_eq ⟨#[1, 113, 0]⟩ ⟨#[1, 104, 0]⟩ ⟨#[0]⟩ L E ⟨#[1, 113, 0]⟩ ⟨#[1, 104, 0]⟩ ⟨#[0]⟩ L E true (by simp)
        clear hn
        rcases he with he | ⟨he, he2⟩ | ⟨he, he1, he2⟩
        all_goals
          go_wp2_with (first
            | (go_at_call 9; refine (num_any _ _).mono ?_; rintro e w' ⟨rfl, hw⟩; obtain rfl := hw.symm)
            | (go_at_call 10; go_must (refine hbi.mono ?_); rintro e wa ⟨ya, ca, rfl, oa, la, _⟩; obtain ⟨ga, cpa, hya, _, _⟩ := oa.form (by decide); simp only [Value.slice.injEq] at hya; obtain ⟨rfl, _, rfl⟩ := hya; have LA := (lies_own oa).1; have d0 : wa.cell? ⟨ga, 0, none⟩ = some (.string ⟨#[1, 113, 0]⟩) := LA 0 _ rfl; have d1 : wa.cell? ⟨ga, 1, none⟩ = some (.string ⟨#[1, 104, 0]⟩) := LA 1 _ rfl; have d2 : wa.cell? ⟨ga, 2, none⟩ = some (.int .i64 L) := LA 2 _ rfl; have d3 : wa.cell? ⟨ga, 3, none⟩ = some (.string ⟨#[0]⟩) := LA 3 _ rfl; have d4 : wa.cell? ⟨ga, 4, none⟩ = some (.int .i64 E) := LA 4 _ rfl; have hde := la.deep ⟨#[1, 113, 0]⟩ ((t : Int) + (M : Int)) (by decide) _ HB.out.2; clear hbi la oa LA)
            | (go_at_call 12; go_must (refine hde.mono ?_); rintro e wd ⟨rfl, ld, _⟩; clear hde))
          go_ret
          exact ⟨rfl, ld.bel⟩

theorem own : ownKnob Try.prog.godebug = none := by kernel_rfl
theorem laidOut : laidOutB Try.prog = true := by kernel_rfl

set_option maxRecDepth 100000 in
theorem lifted (os : Os) (started : os.Started) (H : Type) (enc : TypeId × Value → H) :
    ReturnsInHanded {} Try.checked os 3 .any (Rows.cutsAgainSpec.pre6 enc Try.prog Try.f3 Rows.cutsAgainRow.domain false) (Rows.cutsAgainSpec.post enc Try.prog Try.f3 false true false false) := by
  refine returnsInHanded_of_change (C := Try.checked) own started (by kernel_rfl) Try.func3
    (ChangeSpec.witness6 (enc := enc) (C := Try.checked) false ⟨#[], #[.slice none 0 0, .slice none 0 0, .int .i64 0], []⟩ 8 (by kernel_rfl) (by kernel_rfl) (by kernel_rfl) (by kernel_rfl)) ?_
  intro W base args ds gs before hval0 hW _ _
  have hval : ∀ (j : Nat) t v, Try.f3.params[j]? = some t → args[j]? = some v → Value.okWide Try.prog W .any base t v := hval0
  have hW' := hW
  obtain ⟨p, q, hA0, hV, rfl, hfz, hnd⟩ := hW
  have hA : DataW.TrodAll enc Try.prog W 0 (fun _ => true) true Try.f3.params.toList args.toList ds p := hA0
  rw [Try.params3] at hA hval
  obtain ⟨v0, vs0, d0, ds0, p0, q0, hargs, rfl, rfl, h0, r0⟩ := trodAll_cons hA
  obtain ⟨v1, vs1, d1, ds1, p1, q1, rfl, rfl, rfl, h1, r1⟩ := trodAll_cons r0
  obtain ⟨v2, vs2, d2, ds2, p2, q2, rfl, rfl, rfl, h2, r2⟩ := trodAll_cons r1
  obtain ⟨rfl, rfl, rfl⟩ := trodAll_nil r2
  obtain rfl : args = #[v0, v1, v2] := by cases args; simp_all
  obtain ⟨rfl, rfl⟩ := trodVars_none hV
  obtain ⟨a0, w0⟩ := open_irow (hval 0 22 v0 rfl rfl) h0
  obtain ⟨a1, w1⟩ := open_irow (hval 1 22 v1 rfl rfl) h1
  obtain ⟨a2, rfl, rfl, rfl, w2⟩ := open_int Try.underlying3 (hval 2 3 v2 rfl rfl) h2
  have hlt0 : ∀ x ∈ p0, x.block < W.heap.size := fun x hx => by
    have := hW'.lt x (by simp [hx])
    simpa using this
  have hlt1 : ∀ x ∈ p1, x.block < W.heap.size := fun x hx => by
    have := hW'.lt x (by simp [hx])
    simpa using this
  clear hA0 hval0
  simp only [List.append_nil] at hW'
  refine (walk v0 a0 v1 a1 a2 w2 W w0 w1).mono fun e W' ⟨he, bel⟩ => ?_
  subst he
  exact ⟨_, rfl, _, _, _, [], _, [], hW', trodAll_mk1 (shut_bool Try.underlying4 _), (trodAll_cons_mk (Below.trod laidOut (by kernel_rfl) (of_decide_eq_true (by kernel_rfl)) h0 bel hlt0) (trodAll_cons_mk (Below.trod laidOut (by kernel_rfl) (of_decide_eq_true (by kernel_rfl)) h1 bel hlt1) (trodAll_cons_mk (shut_int Try.underlying3 w2) trodAll_mk0))), rfl, bel.frame _, fun h => by cases h⟩

/-- The statement. -/
theorem proved : Rows.CutsAgainSaid :=
  OpenClaim.holds_of_wide 3 Try.f3 rfl rfl rfl rfl rfl rfl rfl ⟨rfl, rfl, rfl, rfl, rfl⟩ rfl rfl rfl rfl rfl (by kernel_rfl) Try.func3 (by kernel_rfl)
    (of_decide_eq_true (by kernel_rfl)) (by unfold Func.isWrapper; first | (rw [if_pos (by decide +kernel)]; kernel_rfl) | (rw [if_neg (by decide +kernel)]; exact ⟨rfl, rfl⟩))
    (fun os started H enc _ => lifted os started H enc)
#print axioms proved


end Go.Proofs.Ytnjgdfmldjgloab.cutsAgain
