/- TableRows holds: for every row of numbers, of several that fit the first one is taken, then the next one. -/
import Derived.Test.YtbldoplemfjcjaaOuS
import Derived.ProofKit
import Derived.OpenShut
import Derived.ShutString
namespace Go.Proofs.Ytbldoplemfjcjaa.tableRows
open Go.ChangeShapes Go.WideShapes Go.ChangeAt Go.RowKit
open Go.ChangeMaps (open_string shut_string)
open Ou

def rwD (ps : List Int) : List Ak := ps.map fun p => awA p 5 7 100
theorem rwD_len (ps : List Int) : (rwD ps).length = ps.length := by simp [rwD]
theorem rw_mt (p : Int) : mtA (keyQ 7 5 ⟨#[1, 97, 0]⟩ 1 1) (awA p 5 7 100) = true := by
  unfold mtA
  rw [decide_eq_true_eq]
  rfl
theorem rw_take (p : Int) (ps : List Int) : takeX (keyQ 7 5 ⟨#[1, 97, 0]⟩ 1 1) (rwD (p :: ps)) = awA p 5 7 100 ∧ takeE (keyQ 7 5 ⟨#[1, 97, 0]⟩ 1 1) (rwD (p :: ps)) = 0 ∧ (rwD (p :: ps)).eraseP (mtA (keyQ 7 5 ⟨#[1, 97, 0]⟩ 1 1)) = rwD ps := by
  have h := rw_mt p
  simp [rwD, takeX, takeE, h]
theorem iC_app (a b : List Int) : iC (a ++ b) = iC a ++ iC b := by simp [iC]
theorem iC_lenR (a : List Int) : (iC a).length = a.length * 1 := flat_len (f := iV) (z := 1) (fun _ => rfl) a
theorem rw_gone (k : Ke) : takeX k [] = akZ ∧ takeE k [] = 1902 ∧ ([] : List Ak).eraseP (mtA k) = [] := ⟨rfl, rfl, rfl⟩
theorem iC_oneR (a : List Int) : ∀ y ∈ iC a, y.oneCell' = true := by
  intro y hy
  obtain ⟨x, _, h⟩ := List.mem_flatMap.1 hy
  simp [iV] at h
  subst h; rfl
theorem infoI : (Try.prog.info? 3).map (fun i => (i.zero, i.size, i.bytes)) = some (some (.int .i64 0), 1, 8) := by kernel_rfl

set_option maxRecDepth 20000 in
set_option maxHeartbeats 4000000 in
theorem walk (v : Value) (js : List Int) (w : World) (h : Row w v js.length (iC js) ∧ js.length ≤ maxLen) :
    Calls Try.prog 7 #[v] w fun e w' => e = .returned (.bool true) ∧ Below w.heap.size w w' := by
  obtain ⟨i0, hi, hz0, hz1, hz2⟩ := info_parts infoI
  obtain ⟨hrow, hml⟩ := h
  obtain ⟨y, c, rfl⟩ := row_slice hrow
  obtain ⟨N, hN⟩ : ∃ N, N = js.length := ⟨_, rfl⟩
  have HN : Hid (N = js.length) := hN
  have HR : Hid (Row w (.slice y N c) N (iC js)) := by rw [hN]; exact hrow
  rw [← hN] at hml ⊢
  unfold maxLen at hml
  clear hN hrow
  go_enter Try.func7, Try.ntmps7
  go_wp2_with (first
    | (go_at_call 11; go_must (refine (awake_any _).mono ?_); rintro e w1 ⟨rfl, b1⟩)
    | (go_at_call 8; go_must (refine (lw_new b1 16 (by decide) (by decide)).mono ?_); rintro e w2 ⟨gs, rfl, s2, _⟩))
  have HS0 : Hid (LW w w2 gs 16 (0 + 0) (rwD (js.take 0)) ∧ w2.ownsRow w.heap.size 3 1 (.slice none 0 0) 0 (iC (js.take 0))) := ⟨s2, World.ownsRow_nil _ _ _ _⟩
  clear s2 b1
  go_loopw [5, 6] (fun a i wr => ∃ (q : Nat) (y1 : Option Addr) (c1 : Nat), q ≤ N ∧ q ≤ 16 ∧ a = .slice y1 q c1 ∧ i = .int .i64 (q : Int) ∧ Hid (LW w wr gs 16 (0 + q) (rwD (js.take q)) ∧ wr.ownsRow w.heap.size 3 1 (.slice y1 q c1) q (iC (js.take q)))) (fun _ i _ => N - (intOf i).toNat)
  case atStart => exact ⟨0, none, 0, Nat.zero_le _, by omega, rfl, rfl, HS0⟩
  case round =>
    obtain ⟨q, y1, c1, hq, hq16, rfl, rfl, HS⟩ := hrel
    clear HS0
    by_cases hqN : q < N ∧ q < 16
    · obtain ⟨hqN, hq6⟩ := hqN
      have e1 : decide ((q : Int) < (N : Int)) = true := by simp; omega
      have e2 : decide ((q : Int) < 16) = true := by simp; omega
      have hqi : (q : Int) < (N : Int) := by omega
      have hqi6 : (q : Int) < 16 := by omega
      have hql : q < js.length := by have := HN.out; omega
      obtain ⟨p, hp⟩ : ∃ p, p = js[q] := ⟨_, rfl⟩
      have HT : Hid (js.take (q + 1) = js.take q ++ [p]) := by unfold Hid; rw [List.take_succ_eq_append_getElem hql, hp]
      have HCELL : Hid (∀ u, Below w.heap.size w u → ∃ g o, y = some ⟨g, o, none⟩ ∧ u.cell? ⟨g, o + q, none⟩ = some (.int .i64 p)) := fun u hb => by
        obtain ⟨g, o, cap, hx, hc⟩ := row_at (HR.out.below hb) (by omega)
        simp only [Value.slice.injEq] at hx
        exact ⟨g, o, hx.1, hc q _ (by rw [iC_at hql, hp])⟩
      have HA : Hid (addE 16 (rwD (js.take q)) (awA p 5 7 100) = 0 ∧ addD 16 (rwD (js.take q)) (awA p 5 7 100) = rwD (js.take (q + 1))) := by
        have := add_ok (most := 16) (D := rwD (js.take q)) (j := p) (i := 5) (u := 100) (by omega) (by omega) (by rw [rwD_len, List.length_take]; omega)
        rw [HT.out]
        rw [show rwD (js.take q ++ [p]) = rwD (js.take q) ++ [awA p 5 7 100] from by simp [rwD]]
        exact this
      obtain ⟨g, o, rfl, d0⟩ := HCELL.out wr HS.out.1.bel
      clear hp
      go_wp2_with (first
        | (go_at_call 10; refine (num_any _ _).mono ?_; rintro e w' ⟨rfl, hw⟩; obtain rfl := hw.symm)
        | (go_at_call 22; go_must (refine (asked_any p 5 7 100 _).mono ?_); rintro e w5 ⟨rfl, b5⟩; have s5 := HS.out.1.below b5; have o5 := own_past HS.out.2 b5; have ha2 := s5.add (by omega) p 5 7 ⟨#[0]⟩ ⟨#[1, 97, 0]⟩ ⟨#[1, 97, 0]⟩ 1 100 (awA_far _ _ _ _) 0 _ HA.out.1 HA.out.2)
        | (go_at_call 12; go_must (refine ha2.mono ?_); rintro e w6 ⟨rfl, s6, p6⟩; have o6 := p6.row _ _ _ _ _ _ (by decide) (by decide) o5; obtain ⟨g2, o2, he2, d1⟩ := HCELL.out w6 s6.bel; simp only [Option.some.injEq, Addr.mk.injEq, and_true] at he2; obtain ⟨rfl, rfl⟩ := he2; have b7 := lay (Below.refl w6.heap.size w6) (.cells #[.int .i64 p] 3); have o7 := own_past o6 b7; have s7 := s6.below b7; have hrow2 := Row.of_blk (Blk.new w6 #[.int .i64 p] 3) (xs := iC [p]) rfl 1 1; have hbs := s7.bel.size)
        | (at_builtin; refine wpList_appG _ rfl (.tmp 40) (.tmp 45) 52 3 i0 _ 1 8 Try.underlying52 hi hz0 hz1 hz2 rfl (by decide) rfl w.heap.size (.slice y1 q c1) q (iC (js.take q)) rfl o7 _ 1 (iC [p]) rfl hrow2 rfl (iC_oneR _) (by omega) (by unfold maxLen; omega) hbs ?_; intro v8 w8 h1 h3 _; obtain ⟨y8, c8, rfl⟩ := row_shape h1))
      have HS8 : Hid (LW w w8 gs 16 (0 + (q + 1)) (rwD (js.take (q + 1))) ∧ w8.ownsRow w.heap.size 3 1 (.slice y8 (q + 1) c8) (q + 1) (iC (js.take (q + 1)))) := by
        refine ⟨s7.turn o7 (by decide) (by decide) (Nat.le_refl _) (Turn.of_grown h3 (fun _ e => e)), ?_⟩
        rw [HT.out, iC_app]
        exact h1
      clear h1 h3 o7 s7 s6 p6 o6 o5 s5 b5 b7 ha2 HS hrow2 hbs d0 d1 HCELL
      go_roundw
      case rel => exact ⟨q + 1, y8, c8, by omega, by omega, rfl, by go_num, HS8⟩
      case measure => simp [intOf]; omega
    · have HE : Hid (LW w wr gs 16 (0 + q) (rwD (js.take q)) ∧ wr.ownsRow w.heap.size 3 1 (.slice y1 q c1) q (iC (js.take q)) ∧ (js.take q).length = q) := ⟨HS.out.1, HS.out.2, by rw [List.length_take]; have := HN.out; omega⟩
      obtain ⟨ps, hps⟩ : ∃ ps, ps = js.take q := ⟨_, rfl⟩
      rw [← hps] at HE
      clear HS hps
      by_cases h1 : q < N
      · have e1 : decide ((q : Int) < (N : Int)) = true := by simp; omega
        have e2 : decide ((q : Int) < 16) = false := by simp; omega
        have e3 : (q : Int) < (N : Int) := by omega
        have e4 : ¬ (q : Int) < 16 := by omega
        have HE2 : Hid (LW w (wr.alloc (.cells #[.string ⟨#[1, 97, 0]⟩, .int .i64 1, .int .i64 1] 37)) gs 16 (0 + q) (rwD (ps.drop 0)) ∧ (wr.alloc (.cells #[.string ⟨#[1, 97, 0]⟩, .int .i64 1, .int .i64 1] 37)).ownsRow w.heap.size 3 1 (.slice y1 q c1) q (iC ps) ∧ Blk (wr.alloc (.cells #[.string ⟨#[1, 97, 0]⟩, .int .i64 1, .int .i64 1] 37)) wr.heap.size #[.string ⟨#[1, 97, 0]⟩, .int .i64 1, .int .i64 1] 37) := ⟨HE.out.1.below (lay (Below.refl _ _) _), own_past HE.out.2.1 (lay (Below.refl _ _) _), Blk.new _ _ _⟩
        have HL : Hid (ps.length = q) := HE.out.2.2
        clear HE
        obtain ⟨gq, hgq⟩ : ∃ gq, gq = wr.heap.size := ⟨_, rfl⟩
        rw [← hgq] at HE2
        go_wp2
        simp only [← hgq]
        clear hgq
        go_loopw [9] (fun i wq => ∃ r : Nat, r ≤ q ∧ i = .int .i64 (r : Int) ∧ Hid (LW w wq gs 16 (0 + q) (rwD (ps.drop r)) ∧ wq.ownsRow w.heap.size 3 1 (.slice y1 q c1) q (iC ps) ∧ Blk wq gq #[.string ⟨#[1, 97, 0]⟩, .int .i64 1, .int .i64 1] 37)) (fun i _ => q - (intOf i).toNat)
        case atStart => exact ⟨0, Nat.zero_le _, rfl, HE2⟩
        case round =>
          obtain ⟨r, hr, rfl, HS⟩ := hrel
          clear HE2
          have kq := HS.out.2.2
          by_cases hrq : r < q
          · have hrq' : (r : Int) < (q : Int) := by omega
            have hrl : r < ps.length := by have := HL.out; omega
            obtain ⟨p, hp⟩ : ∃ p, p = ps[r] := ⟨_, rfl⟩
            have hdrop : ps.drop r = p :: ps.drop (r + 1) := by rw [hp]; exact List.drop_eq_getElem_cons hrl
            obtain ⟨x1, x2, x3⟩ := rw_take p (ps.drop (r + 1))
            rw [← hdrop] at x1 x2 x3
            have ht1 := HS.out.1.take 7 5 ⟨#[1, 97, 0]⟩ 1 1 (by decide) (okQ _ (by decide) 7 5 1 1 (by decide) (by decide) (by decide) (by decide)) p 5 7 ⟨#[0]⟩ ⟨#[1, 97, 0]⟩ ⟨#[1, 97, 0]⟩ 1 100 0 _ x1 x2 x3
            obtain ⟨gw, hy1⟩ : ∃ gw, y1 = some ⟨gw, 0, none⟩ := by
              obtain ⟨gw, cp, hy, _, _⟩ := HS.out.2.1.form (by omega)
              simp only [Value.slice.injEq] at hy
              exact ⟨gw, hy.1⟩
            subst hy1
            have HCW : Hid ((iC ps)[r]? = some (Value.int .i64 p)) := by unfold Hid; rw [iC_at hrl, hp]
            obtain ⟨M, hM⟩ : ∃ M, M = q - (r + 1) := ⟨_, rfl⟩
            have HM : Hid ((rwD (ps.drop (r + 1))).length = M) := by unfold Hid; rw [rwD_len, List.length_drop, HL.out, hM]
            have hM2 : ((M : Int) != IntKind.i64.wrap (IntKind.i64.wrap ((q : Int) - 1) - (r : Int))) = false := by
              rw [show IntKind.i64.wrap ((q : Int) - 1) = (q : Int) - 1 from by rw [IntKind.wrap_i64]; omega, show IntKind.i64.wrap ((q : Int) - 1 - (r : Int)) = (q : Int) - 1 - (r : Int) from by rw [IntKind.wrap_i64]; omega]
              simp; omega
            have hpp : (p != p) = false := by simp
            clear x1 x2 x3 hp hdrop hM
            go_wp2_with (first
              | (refine wpList_loadS _ rfl (.tmp 8) 37 rfl gq _ 37 rfl kq ⟨_, Try.underlying37⟩ (by kernel_rfl) ?_)
              | (go_at_call 14; go_must (refine ht1.mono ?_); rintro e w5 ⟨rfl, s5, p5⟩; have b6 := lay (Below.refl w5.heap.size w5) (.cells #[.int .i64 p, .int .i64 5, .int .i64 7, .string ⟨#[0]⟩, .string ⟨#[1, 97, 0]⟩, .string ⟨#[1, 97, 0]⟩, .int .i64 1, .int .i64 100] 35); have s6 := s5.below b6; have k6 := Blk.new w5 #[.int .i64 p, .int .i64 5, .int .i64 7, .string ⟨#[0]⟩, .string ⟨#[1, 97, 0]⟩, .string ⟨#[1, 97, 0]⟩, .int .i64 1, .int .i64 100] 35; have o6 := own_past (p5.row _ _ _ _ _ _ (by decide) (by decide) HS.out.2.1) b6; have kq6 := (p5.blk _ _ _ (by decide) (by decide) kq).below b6))
            have HSS : Hid (∀ u, Below (w5.alloc (.cells #[.int .i64 p, .int .i64 5, .int .i64 7, .string ⟨#[0]⟩, .string ⟨#[1, 97, 0]⟩, .string ⟨#[1, 97, 0]⟩, .int .i64 1, .int .i64 100] 35)).heap.size (w5.alloc (.cells #[.int .i64 p, .int .i64 5, .int .i64 7, .string ⟨#[0]⟩, .string ⟨#[1, 97, 0]⟩, .string ⟨#[1, 97, 0]⟩, .int .i64 1, .int .i64 100] 35)) u → u.cell? ⟨w5.heap.size, 0, none⟩ = some (.int .i64 p) ∧ u.cell? ⟨gw, r, none⟩ = some (.int .i64 p)) := fun u hb => by
              have o8 := own_past o6 hb
              refine ⟨(k6.below hb).cell 0, ?_⟩
              have := (Row.of_own o8)
              obtain ⟨g2, o2, cp2, hx2, hc2⟩ := row_at this (by omega)
              simp only [Value.slice.injEq, Option.some.injEq, Addr.mk.injEq] at hx2
              obtain ⟨⟨rfl, rfl, _⟩, _, _⟩ := hx2
              have := hc2 r _ HCW.out
              simpa using this
            have b0 : Below (w5.alloc (.cells #[.int .i64 p, .int .i64 5, .int .i64 7, .string ⟨#[0]⟩, .string ⟨#[1, 97, 0]⟩, .string ⟨#[1, 97, 0]⟩, .int .i64 1, .int .i64 100] 35)).heap.size (w5.alloc (.cells #[.int .i64 p, .int .i64 5, .int .i64 7, .string ⟨#[0]⟩, .string ⟨#[1, 97, 0]⟩, .string ⟨#[1, 97, 0]⟩, .int .i64 1, .int .i64 100] 35)) (w5.alloc (.cells #[.int .i64 p, .int .i64 5, .int .i64 7, .string ⟨#[0]⟩, .string ⟨#[1, 97, 0]⟩, .string ⟨#[1, 97, 0]⟩, .int .i64 1, .int .i64 100] 35)).drew := (Below.refl _ _).drew
            have s0 := HSS.out _ b0
            have hal := (s6.below b0).all M HM.out
            have HO6 : Hid ((w5.alloc (.cells #[.int .i64 p, .int .i64 5, .int .i64 7, .string ⟨#[0]⟩, .string ⟨#[1, 97, 0]⟩, .string ⟨#[1, 97, 0]⟩, .int .i64 1, .int .i64 100] 35)).ownsRow w.heap.size 3 1 (.slice (some ⟨gw, 0, none⟩) q c1) q (iC ps) ∧ Blk (w5.alloc (.cells #[.int .i64 p, .int .i64 5, .int .i64 7, .string ⟨#[0]⟩, .string ⟨#[1, 97, 0]⟩, .string ⟨#[1, 97, 0]⟩, .int .i64 1, .int .i64 100] 35)) gq #[.string ⟨#[1, 97, 0]⟩, .int .i64 1, .int .i64 1] 37) := ⟨o6, kq6⟩
            clear s5 p5 s6 k6 o6 kq6 ht1 b6 kq
            go_region_held_law (fun u => u.cell? ⟨w5.heap.size, 0, none⟩ = some (.int .i64 p) ∧ u.cell? ⟨gw, r, none⟩ = some (.int .i64 p)) (first | with_reducible exact s0 | with_reducible exact s9') (first
              | (go_at_call 10; refine (num_any _ _).mono ?_; rintro e w' ⟨rfl, hw⟩; obtain rfl := hw.symm)
              | (go_at_call 20; go_must (refine hal.mono ?_); rintro e w9 ⟨y9, c9, rfl, _, s9, b9⟩; have b9' := next b0 b9; have s9' := HSS.out w9 b9'))
            go_wp2
            have HS9 : Hid (LW w w9 gs 16 (0 + q) (rwD (ps.drop (r + 1))) ∧ w9.ownsRow w.heap.size 3 1 (.slice (some ⟨gw, 0, none⟩) q c1) q (iC ps) ∧ Blk w9 gq #[.string ⟨#[1, 97, 0]⟩, .int .i64 1, .int .i64 1] 37) := ⟨s9, own_past HO6.out.1 b9', HO6.out.2.below b9'⟩
            clear s9 b9 b9' s9' s0 b0 HSS hal HO6 HS
            exact ⟨⟨r + 1, by omega, by go_num, HS9⟩, by simp [intOf]; omega⟩
          · have hrq' : decide ((r : Int) < (q : Int)) = false := by simp; omega
            have hlw : LW w wr gs 16 (0 + q) [] := by
              have := HS.out.1
              rw [show r = ps.length from by have := HL.out; omega, List.drop_length] at this
              exact this
            obtain ⟨x1, x2, x3⟩ := rw_gone (keyQ 7 5 ⟨#[1, 97, 0]⟩ 1 1)
            have ht1 := hlw.take 7 5 ⟨#[1, 97, 0]⟩ 1 1 (by decide) (okQ _ (by decide) 7 5 1 1 (by decide) (by decide) (by decide) (by decide)) 0 0 0 ⟨#[]⟩ ⟨#[]⟩ ⟨#[]⟩ 0 0 1902 _ x1 x2 x3
            clear x1 x2 x3 hlw HS
            go_wp2_with (first
              | (refine wpList_loadS _ rfl (.tmp 8) 37 rfl gq _ 37 rfl kq ⟨_, Try.underlying37⟩ (by kernel_rfl) ?_)
              | (go_at_call 10; refine (num_any _ _).mono ?_; rintro e w' ⟨rfl, hw⟩; obtain rfl := hw.symm)
              | (go_at_call 14; go_must (refine ht1.mono ?_); rintro e w5 ⟨rfl, s5, _⟩; have s6 := s5.below (lay (Below.refl w5.heap.size w5) (.cells #[.int .i64 0, .int .i64 0, .int .i64 0, .string ⟨#[]⟩, .string ⟨#[]⟩, .string ⟨#[]⟩, .int .i64 0, .int .i64 0] 35)); have hdu := s6.due 1099511627776 [] [] 0 rfl rfl rfl)
              | (go_at_call 16; go_must (refine hdu.mono ?_); rintro e w7 ⟨y7, c7, rfl, _, s7, _⟩))
            go_ret
            exact ⟨rfl, s7.bel⟩
      · have e1 : decide ((q : Int) < (N : Int)) = false := by simp; omega
        have HE2 : Hid (LW w (wr.alloc (.cells #[.string ⟨#[1, 97, 0]⟩, .int .i64 1, .int .i64 1] 37)) gs 16 (0 + q) (rwD (ps.drop 0)) ∧ (wr.alloc (.cells #[.string ⟨#[1, 97, 0]⟩, .int .i64 1, .int .i64 1] 37)).ownsRow w.heap.size 3 1 (.slice y1 q c1) q (iC ps) ∧ Blk (wr.alloc (.cells #[.string ⟨#[1, 97, 0]⟩, .int .i64 1, .int .i64 1] 37)) wr.heap.size #[.string ⟨#[1, 97, 0]⟩, .int .i64 1, .int .i64 1] 37) := ⟨HE.out.1.below (lay (Below.refl _ _) _), own_past HE.out.2.1 (lay (Below.refl _ _) _), Blk.new _ _ _⟩
        have HL : Hid (ps.length = q) := HE.out.2.2
        clear HE
        obtain ⟨gq, hgq⟩ : ∃ gq, gq = wr.heap.size := ⟨_, rfl⟩
        rw [← hgq] at HE2
        go_wp2
        simp only [← hgq]
        clear hgq
        go_loopw [9] (fun i wq => ∃ r : Nat, r ≤ q ∧ i = .int .i64 (r : Int) ∧ Hid (LW w wq gs 16 (0 + q) (rwD (ps.drop r)) ∧ wq.ownsRow w.heap.size 3 1 (.slice y1 q c1) q (iC ps) ∧ Blk wq gq #[.string ⟨#[1, 97, 0]⟩, .int .i64 1, .int .i64 1] 37)) (fun i _ => q - (intOf i).toNat)
        case atStart => exact ⟨0, Nat.zero_le _, rfl, HE2⟩
        case round =>
          obtain ⟨r, hr, rfl, HS⟩ := hrel
          clear HE2
          have kq := HS.out.2.2
          by_cases hrq : r < q
          · have hrq' : (r : Int) < (q : Int) := by omega
            have hrl : r < ps.length := by have := HL.out; omega
            obtain ⟨p, hp⟩ : ∃ p, p = ps[r] := ⟨_, rfl⟩
            have hdrop : ps.drop r = p :: ps.drop (r + 1) := by rw [hp]; exact List.drop_eq_getElem_cons hrl
            obtain ⟨x1, x2, x3⟩ := rw_take p (ps.drop (r + 1))
            rw [← hdrop] at x1 x2 x3
            have ht1 := HS.out.1.take 7 5 ⟨#[1, 97, 0]⟩ 1 1 (by decide) (okQ _ (by decide) 7 5 1 1 (by decide) (by decide) (by decide) (by decide)) p 5 7 ⟨#[0]⟩ ⟨#[1, 97, 0]⟩ ⟨#[1, 97, 0]⟩ 1 100 0 _ x1 x2 x3
            obtain ⟨gw, hy1⟩ : ∃ gw, y1 = some ⟨gw, 0, none⟩ := by
              obtain ⟨gw, cp, hy, _, _⟩ := HS.out.2.1.form (by omega)
              simp only [Value.slice.injEq] at hy
              exact ⟨gw, hy.1⟩
            subst hy1
            have HCW : Hid ((iC ps)[r]? = some (Value.int .i64 p)) := by unfold Hid; rw [iC_at hrl, hp]
            obtain ⟨M, hM⟩ : ∃ M, M = q - (r + 1) := ⟨_, rfl⟩
            have HM : Hid ((rwD (ps.drop (r + 1))).length = M) := by unfold Hid; rw [rwD_len, List.length_drop, HL.out, hM]
            have hM2 : ((M : Int) != IntKind.i64.wrap (IntKind.i64.wrap ((q : Int) - 1) - (r : Int))) = false := by
              rw [show IntKind.i64.wrap ((q : Int) - 1) = (q : Int) - 1 from by rw [IntKind.wrap_i64]; omega, show IntKind.i64.wrap ((q : Int) - 1 - (r : Int)) = (q : Int) - 1 - (r : Int) from by rw [IntKind.wrap_i64]; omega]
              simp; omega
            have hpp : (p != p) = false := by simp
            clear x1 x2 x3 hp hdrop hM
            go_wp2_with (first
              | (refine wpList_loadS _ rfl (.tmp 8) 37 rfl gq _ 37 rfl kq ⟨_, Try.underlying37⟩ (by kernel_rfl) ?_)
              | (go_at_call 14; go_must (refine ht1.mono ?_); rintro e w5 ⟨rfl, s5, p5⟩; have b6 := lay (Below.refl w5.heap.size w5) (.cells #[.int .i64 p, .int .i64 5, .int .i64 7, .string ⟨#[0]⟩, .string ⟨#[1, 97, 0]⟩, .string ⟨#[1, 97, 0]⟩, .int .i64 1, .int .i64 100] 35); have s6 := s5.below b6; have k6 := Blk.new w5 #[.int .i64 p, .int .i64 5, .int .i64 7, .string ⟨#[0]⟩, .string ⟨#[1, 97, 0]⟩, .string ⟨#[1, 97, 0]⟩, .int .i64 1, .int .i64 100] 35; have o6 := own_past (p5.row _ _ _ _ _ _ (by decide) (by decide) HS.out.2.1) b6; have kq6 := (p5.blk _ _ _ (by decide) (by decide) kq).below b6))
            have HSS : Hid (∀ u, Below (w5.alloc (.cells #[.int .i64 p, .int .i64 5, .int .i64 7, .string ⟨#[0]⟩, .string ⟨#[1, 97, 0]⟩, .string ⟨#[1, 97, 0]⟩, .int .i64 1, .int .i64 100] 35)).heap.size (w5.alloc (.cells #[.int .i64 p, .int .i64 5, .int .i64 7, .string ⟨#[0]⟩, .string ⟨#[1, 97, 0]⟩, .string ⟨#[1, 97, 0]⟩, .int .i64 1, .int .i64 100] 35)) u → u.cell? ⟨w5.heap.size, 0, none⟩ = some (.int .i64 p) ∧ u.cell? ⟨gw, r, none⟩ = some (.int .i64 p)) := fun u hb => by
              have o8 := own_past o6 hb
              refine ⟨(k6.below hb).cell 0, ?_⟩
              have := (Row.of_own o8)
              obtain ⟨g2, o2, cp2, hx2, hc2⟩ := row_at this (by omega)
              simp only [Value.slice.injEq, Option.some.injEq, Addr.mk.injEq] at hx2
              obtain ⟨⟨rfl, rfl, _⟩, _, _⟩ := hx2
              have := hc2 r _ HCW.out
              simpa using this
            have b0 : Below (w5.alloc (.cells #[.int .i64 p, .int .i64 5, .int .i64 7, .string ⟨#[0]⟩, .string ⟨#[1, 97, 0]⟩, .string ⟨#[1, 97, 0]⟩, .int .i64 1, .int .i64 100] 35)).heap.size (w5.alloc (.cells #[.int .i64 p, .int .i64 5, .int .i64 7, .string ⟨#[0]⟩, .string ⟨#[1, 97, 0]⟩, .string ⟨#[1, 97, 0]⟩, .int .i64 1, .int .i64 100] 35)) (w5.alloc (.cells #[.int .i64 p, .int .i64 5, .int .i64 7, .string ⟨#[0]⟩, .string ⟨#[1, 97, 0]⟩, .string ⟨#[1, 97, 0]⟩, .int .i64 1, .int .i64 100] 35)).drew := (Below.refl _ _).drew
            have s0 := HSS.out _ b0
            have hal := (s6.below b0).all M HM.out
            have HO6 : Hid ((w5.alloc (.cells #[.int .i64 p, .int .i64 5, .int .i64 7, .string ⟨#[0]⟩, .string ⟨#[1, 97, 0]⟩, .string ⟨#[1, 97, 0]⟩, .int .i64 1, .int .i64 100] 35)).ownsRow w.heap.size 3 1 (.slice (some ⟨gw, 0, none⟩) q c1) q (iC ps) ∧ Blk (w5.alloc (.cells #[.int .i64 p, .int .i64 5, .int .i64 7, .string ⟨#[0]⟩, .string ⟨#[1, 97, 0]⟩, .string ⟨#[1, 97, 0]⟩, .int .i64 1, .int .i64 100] 35)) gq #[.string ⟨#[1, 97, 0]⟩, .int .i64 1, .int .i64 1] 37) := ⟨o6, kq6⟩
            clear s5 p5 s6 k6 o6 kq6 ht1 b6 kq
            go_region_held_law (fun u => u.cell? ⟨w5.heap.size, 0, none⟩ = some (.int .i64 p) ∧ u.cell? ⟨gw, r, none⟩ = some (.int .i64 p)) (first | with_reducible exact s0 | with_reducible exact s9') (first
              | (go_at_call 10; refine (num_any _ _).mono ?_; rintro e w' ⟨rfl, hw⟩; obtain rfl := hw.symm)
              | (go_at_call 20; go_must (refine hal.mono ?_); rintro e w9 ⟨y9, c9, rfl, _, s9, b9⟩; have b9' := next b0 b9; have s9' := HSS.out w9 b9'))
            go_wp2
            have HS9 : Hid (LW w w9 gs 16 (0 + q) (rwD (ps.drop (r + 1))) ∧ w9.ownsRow w.heap.size 3 1 (.slice (some ⟨gw, 0, none⟩) q c1) q (iC ps) ∧ Blk w9 gq #[.string ⟨#[1, 97, 0]⟩, .int .i64 1, .int .i64 1] 37) := ⟨s9, own_past HO6.out.1 b9', HO6.out.2.below b9'⟩
            clear s9 b9 b9' s9' s0 b0 HSS hal HO6 HS
            exact ⟨⟨r + 1, by omega, by go_num, HS9⟩, by simp [intOf]; omega⟩
          · have hrq' : decide ((r : Int) < (q : Int)) = false := by simp; omega
            have hlw : LW w wr gs 16 (0 + q) [] := by
              have := HS.out.1
              rw [show r = ps.length from by have := HL.out; omega, List.drop_length] at this
              exact this
            obtain ⟨x1, x2, x3⟩ := rw_gone (keyQ 7 5 ⟨#[1, 97, 0]⟩ 1 1)
            have ht1 := hlw.take 7 5 ⟨#[1, 97, 0]⟩ 1 1 (by decide) (okQ _ (by decide) 7 5 1 1 (by decide) (by decide) (by decide) (by decide)) 0 0 0 ⟨#[]⟩ ⟨#[]⟩ ⟨#[]⟩ 0 0 1902 _ x1 x2 x3
            clear x1 x2 x3 hlw HS
            go_wp2_with (first
              | (refine wpList_loadS _ rfl (.tmp 8) 37 rfl gq _ 37 rfl kq ⟨_, Try.underlying37⟩ (by kernel_rfl) ?_)
              | (go_at_call 10; refine (num_any _ _).mono ?_; rintro e w' ⟨rfl, hw⟩; obtain rfl := hw.symm)
              | (go_at_call 14; go_must (refine ht1.mono ?_); rintro e w5 ⟨rfl, s5, _⟩; have s6 := s5.below (lay (Below.refl w5.heap.size w5) (.cells #[.int .i64 0, .int .i64 0, .int .i64 0, .string ⟨#[]⟩, .string ⟨#[]⟩, .string ⟨#[]⟩, .int .i64 0, .int .i64 0] 35)); have hdu := s6.due 1099511627776 [] [] 0 rfl rfl rfl)
              | (go_at_call 16; go_must (refine hdu.mono ?_); rintro e w7 ⟨y7, c7, rfl, _, s7, _⟩))
            go_ret
            exact ⟨rfl, s7.bel⟩

theorem own : ownKnob Try.prog.godebug = none := by kernel_rfl
theorem laidOut : laidOutB Try.prog = true := by kernel_rfl

set_option maxRecDepth 100000 in
theorem lifted (os : Os) (started : os.Started) (H : Type) (enc : TypeId × Value → H) :
    ReturnsInHanded {} Try.checked os 7 .any (Rows.tableRowsSpec.pre6 enc Try.prog Try.f7 Rows.tableRowsRow.domain false) (Rows.tableRowsSpec.post enc Try.prog Try.f7 false true false false) := by
  refine returnsInHanded_of_change (C := Try.checked) own started (by kernel_rfl) Try.func7
    (ChangeSpec.witness6 (enc := enc) (C := Try.checked) false ⟨#[], #[.slice none 0 0], []⟩ 8 (by kernel_rfl) (by kernel_rfl) (by kernel_rfl) (by kernel_rfl)) ?_
  intro W base args ds gs before hval0 hW _ _
  have hval : ∀ (j : Nat) t v, Try.f7.params[j]? = some t → args[j]? = some v → Value.okWide Try.prog W .any base t v := hval0
  have hW' := hW
  obtain ⟨p, q, hA0, hV, rfl, hfz, hnd⟩ := hW
  have hA : DataW.TrodAll enc Try.prog W 0 (fun _ => true) true Try.f7.params.toList args.toList ds p := hA0
  rw [Try.params7] at hA hval
  obtain ⟨v0, vs0, d0, ds0, p0, q0, hargs, rfl, rfl, h0, r0⟩ := trodAll_cons hA
  obtain ⟨rfl, rfl, rfl⟩ := trodAll_nil r0
  obtain rfl : args = #[v0] := by cases args; simp_all
  obtain ⟨rfl, rfl⟩ := trodVars_none hV
  obtain ⟨a0, w0⟩ := open_irow (hval 0 52 v0 rfl rfl) h0
  have hlt0 : ∀ x ∈ p0, x.block < W.heap.size := fun x hx => by
    have := hW'.lt x (by simp [hx])
    simpa using this
  clear hA0 hval0
  simp only [List.append_nil] at hW'
  refine (walk v0 a0  W w0).mono fun e W' ⟨he, bel⟩ => ?_
  subst he
  exact ⟨_, rfl, _, _, _, [], _, [], hW', trodAll_mk1 (shut_bool Try.underlying4 _), (trodAll_cons_mk (Below.trod laidOut (by kernel_rfl) (of_decide_eq_true (by kernel_rfl)) h0 bel hlt0) trodAll_mk0), rfl, bel.frame _, fun h => by cases h⟩

/-- The statement. -/
theorem proved : Rows.TableRowsSaid :=
  OpenClaim.holds_of_wide 7 Try.f7 rfl rfl rfl rfl rfl rfl rfl ⟨rfl, rfl, rfl, rfl, rfl⟩ rfl rfl rfl rfl rfl (by kernel_rfl) Try.func7 (by kernel_rfl)
    (of_decide_eq_true (by kernel_rfl)) (by unfold Func.isWrapper; first | (rw [if_pos (by decide +kernel)]; kernel_rfl) | (rw [if_neg (by decide +kernel)]; exact ⟨rfl, rfl⟩))
    (fun os started H enc _ => lifted os started H enc)
#print axioms proved


end Go.Proofs.Ytbldoplemfjcjaa.tableRows
