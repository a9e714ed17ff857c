/- TableOnce holds: for every two rows of numbers and a number, what was added is taken once, or is due once, whichever comes first. -/
import Derived.Test.YtbldoplemfjcjaaOuU
import Derived.Test.YtbldoplemfjcjaaOctC
import Derived.ProofKit
import Derived.OpenShut
import Derived.ShutString
namespace Go.Proofs.Ytbldoplemfjcjaa.tableOnce
open Go.ChangeShapes Go.WideShapes Go.ChangeAt Go.RowKit
open Go.ChangeMaps (open_string shut_string)
open Ou

set_option maxRecDepth 20000 in
set_option maxHeartbeats 8000000 in
theorem walk (v : Value) (us : List Int) (v2 : Value) (ts : List Int) (now : Int) (_ : (Lit.int .i64 now).wf = true) (w : World) (h : Row w v us.length (iC us) ∧ us.length ≤ maxLen) (h2 : Row w v2 ts.length (iC ts) ∧ ts.length ≤ maxLen) :
    Calls Try.prog 4 #[v, v2, .int .i64 now] w fun e w' => e = .returned (.bool true) ∧ Below w.heap.size w w' := by
  obtain ⟨hrow, hml⟩ := h
  obtain ⟨hrow2, hml2⟩ := h2
  obtain ⟨y, c, rfl⟩ := row_slice hrow
  obtain ⟨y2, c2, rfl⟩ := row_slice hrow2
  obtain ⟨ib, hib, hb0, hb1, hb2⟩ := info_parts infoBo
  obtain ⟨N, hN⟩ : ∃ N, N = us.length := ⟨_, rfl⟩
  obtain ⟨N2, hN2⟩ : ∃ N, N = ts.length := ⟨_, rfl⟩
  have HN : Hid (N = us.length ∧ N2 = ts.length) := ⟨hN, hN2⟩
  have HR : Hid (Row w (.slice y N c) N (iC us) ∧ Row w (.slice y2 N2 c2) N2 (iC ts)) := by rw [hN, hN2]; exact ⟨hrow, hrow2⟩
  rw [← hN] at hml ⊢
  rw [← hN2] at hml2 ⊢
  unfold maxLen at hml hml2
  obtain ⟨nv, hnv⟩ : ∃ nv, bits .and .i64 now 1023 = nv := ⟨_, rfl⟩
  obtain ⟨U, hU⟩ : ∃ U : Nat → Int, U = fun i => bits .and .i64 (us.getD i 0) 1023 := ⟨_, rfl⟩
  have HU : Hid (∀ i, i < us.length → ∀ p, us[i]? = some p → bits .and .i64 p 1023 = U i) := fun i hi p hp => by
    rw [hU]
    show _ = bits .and .i64 (us.getD i 0) 1023
    rw [List.getD_eq_getElem?_getD, hp]; rfl
  have HC1 : Hid (∀ i, i < N → ∀ u, Below w.heap.size w u → ∃ g o p, y = some ⟨g, o, none⟩ ∧ u.cell? ⟨g, o + i, none⟩ = some (.int .i64 p) ∧ bits .and .i64 p 1023 = U i) := fun i hi u hb => by
    have hil : i < us.length := by have := HN.out.1; omega
    obtain ⟨g, o, cap, hx, hc⟩ := row_at (HR.out.1.below hb) (by omega)
    simp only [Value.slice.injEq] at hx
    exact ⟨g, o, us[i], hx.1, hc i _ (iC_at hil), HU.out i hil _ (List.getElem?_eq_getElem hil)⟩
  have HC2 : Hid (∀ i, i < N2 → ∀ u, Below w.heap.size w u → ∃ g o p, y2 = some ⟨g, o, none⟩ ∧ u.cell? ⟨g, o + i, none⟩ = some (.int .i64 p) ∧ ∃ k : Nat, bits .and .i64 p 31 = (k : Int) ∧ k ≤ 31) := fun i hi u hb => by
    have hil : i < ts.length := by have := HN.out.2; omega
    obtain ⟨g, o, cap, hx, hc⟩ := row_at (HR.out.2.below hb) (by omega)
    simp only [Value.slice.injEq] at hx
    refine ⟨g, o, ts[i], hx.1, hc i _ (iC_at hil), ?_⟩
    have := mask ts[i] 5 (by decide)
    exact ⟨(ts[i] % ((2 ^ 5 : Nat) : Int)).toNat, by rw [show (31 : Int) = ((2 ^ 5 - 1 : Nat) : Int) from rfl, this]; omega, by omega⟩
  clear hN hN2 hrow hrow2 hU HU HR
  go_enter Try.func4, Try.ntmps4
  go_wp2_with (first
    | (go_at_call 11; go_must (refine (awake_any _).mono ?_); rintro e w1 ⟨rfl, b1⟩)
    | (go_at_call 8; go_must (refine (lw_new b1 16 (by decide) (by decide)).mono ?_); rintro e w2 ⟨gs, rfl, s2, _⟩))
  have HS0 : Hid (LW w w2 gs 16 (0 + 0) ((List.range 0).map (oaw U))) := s2
  clear s2 b1
  go_loopw [9, 10] (fun a i wr => ∃ q : Nat, q ≤ N ∧ q ≤ 16 ∧ a = .int .i64 (q : Int) ∧ i = .int .i64 (q : Int) ∧ Hid (LW w wr gs 16 (0 + q) ((List.range q).map (oaw U)))) (fun _ i _ => N - (intOf i).toNat)
  case atStart => exact ⟨0, Nat.zero_le _, by omega, rfl, rfl, HS0⟩
  case round =>
    obtain ⟨q, hq, hq16, rfl, rfl, HS⟩ := hrel
    clear HS0
    by_cases hqN : q < N ∧ q < 16
    · obtain ⟨hqN, hq6⟩ := hqN
      have e1 : decide ((q : Int) < (N : Int)) = true := by simp; omega
      have e2 : decide ((q : Int) < 16) = true := by simp; omega
      have hqi : (q : Int) < (N : Int) := by omega
      have hqi6 : (q : Int) < 16 := by omega
      obtain ⟨g, o, p, rfl, d0, hp⟩ := HC1.out q hqN wr HS.out.bel
      have HA : Hid (addE 16 ((List.range q).map (oaw U)) (oaw U q) = 0 ∧ addD 16 ((List.range q).map (oaw U)) (oaw U q) = (List.range (q + 1)).map (oaw U)) := by
        have := add_ok (most := 16) (D := (List.range q).map (oaw U)) (j := (q : Int) + 1) (i := (q : Int)) (u := U q) (by omega) (by omega) (by simp; omega)
        rw [List.range_succ, List.map_append]
        exact this
      go_wp2_with (first
        | (go_at_call 10; refine (num_any _ _).mono ?_; rintro e w' ⟨rfl, hw⟩; obtain rfl := hw.symm)
        | (go_at_call 22; go_must (refine (asked_any ((q : Int) + 1) (q : Int) 7 (U q) _).mono ?_); rintro e w5 ⟨rfl, b5⟩; have s5 := HS.out.below b5; have ha2 := s5.add (by omega) ((q : Int) + 1) (q : Int) 7 ⟨#[0]⟩ ⟨#[1, 97, 0]⟩ ⟨#[1, 97, 0]⟩ 1 (U q) (awA_far _ _ _ _) 0 _ HA.out.1 HA.out.2)
        | (go_at_call 12; go_must (refine ha2.mono ?_); rintro e w6 ⟨rfl, s6, p6⟩))
      have HS8 : Hid (LW w w6 gs 16 (0 + (q + 1)) ((List.range (q + 1)).map (oaw U))) := s6
      clear s6 p6 s5 b5 ha2 HS d0 hp
      go_roundw
      case rel => exact ⟨q + 1, by omega, by omega, by go_num, by go_num, HS8⟩
      case measure => simp [intOf]; omega
    · by_cases h1 : q < N
      · have e1 : decide ((q : Int) < (N : Int)) = true := by simp; omega
        have e2 : decide ((q : Int) < 16) = false := by simp; omega
        have e3 : (q : Int) < (N : Int) := by omega
        have e4 : ¬ (q : Int) < 16 := by omega
        go_wp2_with (at_make; refine wpList_make_full _ rfl _ _ 54 rfl w.heap.size 4 ib (.bool false) 1 Try.underlying54 hib hb0 hb1 .i64 .i64 _ _ q rfl rfl rfl rfl (by rw [hb2]; omega) (by unfold maxLen; omega) HS.out.bel.size ?_; intro w3 own3 grow3; have b3 := grown_below grow3; have s3 := HS.out.below b3; rw [gC_made] at own3)
        have HE2 : Hid (LW w (w3.alloc (.cells #[.string ⟨#[1, 97, 0]⟩, .int .i64 1, .int .i64 1] 37)) gs 16 (0 + q) (oncD U (fun _ => false) q) ∧ (w3.alloc (.cells #[.string ⟨#[1, 97, 0]⟩, .int .i64 1, .int .i64 1] 37)).ownsRow w.heap.size 4 1 (.slice (some ⟨wr.heap.size, 0, none⟩) q q) q (gC (fun _ => false) q) ∧ Blk (w3.alloc (.cells #[.string ⟨#[1, 97, 0]⟩, .int .i64 1, .int .i64 1] 37)) w3.heap.size #[.string ⟨#[1, 97, 0]⟩, .int .i64 1, .int .i64 1] 37) := by
          rw [onc_start]
          exact ⟨s3.below (lay (Below.refl _ _) _), own_past own3 (lay (Below.refl _ _) _), Blk.new _ _ _⟩
        generalize w3.heap.size = gq at HE2 ⊢
        generalize wr.heap.size = gg at HE2 ⊢
        clear s3 own3 grow3 b3 HS
        go_loopw [14] (fun i wq => ∃ (r : Nat) (G : Nat → Bool), r ≤ N2 ∧ r ≤ 20 ∧ i = .int .i64 (r : Int) ∧ Hid (LW w wq gs 16 (0 + q) (oncD U G q) ∧ wq.ownsRow w.heap.size 4 1 (.slice (some ⟨gg, 0, none⟩) q q) q (gC G q) ∧ Blk wq gq #[.string ⟨#[1, 97, 0]⟩, .int .i64 1, .int .i64 1] 37)) (fun i _ => N2 - (intOf i).toNat)
        case atStart => exact ⟨0, fun _ => false, Nat.zero_le _, by omega, rfl, HE2⟩
        case round =>
          obtain ⟨r, G, hr, hr20, rfl, HS⟩ := hrel
          clear HE2
          have kq := HS.out.2.2
          by_cases hrN : r < N2 ∧ r < 20
          · obtain ⟨hrN, hr2⟩ := hrN
            have f1 : decide ((r : Int) < (N2 : Int)) = true := by simp; omega
            have f2 : decide ((r : Int) < 20) = true := by simp; omega
            have hri : (r : Int) < (N2 : Int) := by omega
            have hri2 : (r : Int) < 20 := by omega
            obtain ⟨g, o, p, rfl, d0, k, hk, hk31⟩ := HC2.out r hrN wr HS.out.1.bel
            by_cases hkq : k < q
            · have hkq' : decide ((k : Int) < (q : Int)) = true := by simp; omega
              have hki : (k : Int) < (q : Int) := by omega
              have HGK : Hid (∀ u : World, u.ownsRow w.heap.size 4 1 (.slice (some ⟨gg, 0, none⟩) q q) q (gC G q) → u.cell? ⟨gg, k, none⟩ = some (.bool (G k))) := fun u ho => by
                have := ho.cellAt k (by omega)
                rw [gC_at G hkq] at this
                exact this
              cases hG : G k with
              | true =>
                obtain ⟨x1, x2, x3⟩ := onc_no U G q k (.inr hG)
                have ht1 := HS.out.1.take 7 (k : Int) ⟨#[1, 97, 0]⟩ 1 1 (by decide) (okQ _ (by decide) 7 (k : Int) 1 1 (by decide) (by omega) (by decide) (by decide)) 0 0 0 ⟨#[]⟩ ⟨#[]⟩ ⟨#[]⟩ 0 0 1902 _ x1 x2 x3
                clear x1 x2 x3
                go_wp2_with (first
                  | (refine wpList_loadS _ rfl (.tmp 13) 37 rfl gq _ 37 rfl kq ⟨_, Try.underlying37⟩ (by kernel_rfl) ?_)
                  | (go_at_call 10; refine (num_any _ _).mono ?_; rintro e w' ⟨rfl, hw⟩; obtain rfl := hw.symm)
                  | (go_at_call 14; go_must (refine ht1.mono ?_); rintro e w5 ⟨rfl, s5, p5⟩; have b6 := lay (Below.refl w5.heap.size w5) (.cells #[.int .i64 0, .int .i64 0, .int .i64 0, .string ⟨#[]⟩, .string ⟨#[]⟩, .string ⟨#[]⟩, .int .i64 0, .int .i64 0] 35); have s6 := s5.below b6; have k6 := Blk.new w5 #[.int .i64 0, .int .i64 0, .int .i64 0, .string ⟨#[]⟩, .string ⟨#[]⟩, .string ⟨#[]⟩, .int .i64 0, .int .i64 0] 35; have o6 := own_past (p5.row _ _ _ _ _ _ (by decide) (by decide) HS.out.2.1) b6; have kq6 := (p5.blk _ _ _ (by decide) (by decide) kq).below b6; have c6 := HGK.out _ o6; rw [hG] at c6))
                have HS9 : Hid (LW w _ gs 16 (0 + q) (oncD U G q) ∧ (w5.alloc (.cells #[.int .i64 0, .int .i64 0, .int .i64 0, .string ⟨#[]⟩, .string ⟨#[]⟩, .string ⟨#[]⟩, .int .i64 0, .int .i64 0] 35)).ownsRow w.heap.size 4 1 (.slice (some ⟨gg, 0, none⟩) q q) q (gC G q) ∧ Blk (w5.alloc (.cells #[.int .i64 0, .int .i64 0, .int .i64 0, .string ⟨#[]⟩, .string ⟨#[]⟩, .string ⟨#[]⟩, .int .i64 0, .int .i64 0] 35)) gq #[.string ⟨#[1, 97, 0]⟩, .int .i64 1, .int .i64 1] 37) := ⟨s6, o6, kq6⟩
                clear s5 p5 b6 s6 k6 o6 kq6 ht1 c6 kq d0 HS
                go_roundw
                case rel => exact ⟨r + 1, G, by omega, by omega, by go_num, HS9⟩
                case measure => simp [intOf]; omega
              | false =>
                obtain ⟨x1, x2, x3⟩ := onc_yes U G q k hkq hG
                have ht1 := HS.out.1.take 7 (k : Int) ⟨#[1, 97, 0]⟩ 1 1 (by decide) (okQ _ (by decide) 7 (k : Int) 1 1 (by decide) (by omega) (by decide) (by decide)) ((k : Int) + 1) (k : Int) 7 ⟨#[0]⟩ ⟨#[1, 97, 0]⟩ ⟨#[1, 97, 0]⟩ 1 (U k) 0 _ x1 x2 x3
                clear x1 x2 x3
                go_wp2_with (first
                  | (refine wpList_loadS _ rfl (.tmp 13) 37 rfl gq _ 37 rfl kq ⟨_, Try.underlying37⟩ (by kernel_rfl) ?_)
                  | (go_at_call 10; refine (num_any _ _).mono ?_; rintro e w' ⟨rfl, hw⟩; obtain rfl := hw.symm)
                  | (go_at_call 14; go_must (refine ht1.mono ?_); rintro e w5 ⟨rfl, s5, p5⟩; have b6 := lay (Below.refl w5.heap.size w5) (.cells #[.int .i64 ((k : Int) + 1), .int .i64 (k : Int), .int .i64 7, .string ⟨#[0]⟩, .string ⟨#[1, 97, 0]⟩, .string ⟨#[1, 97, 0]⟩, .int .i64 1, .int .i64 (U k)] 35); have s6 := s5.below b6; have k6 := Blk.new w5 #[.int .i64 ((k : Int) + 1), .int .i64 (k : Int), .int .i64 7, .string ⟨#[0]⟩, .string ⟨#[1, 97, 0]⟩, .string ⟨#[1, 97, 0]⟩, .int .i64 1, .int .i64 (U k)] 35; have o6 := own_past (p5.row _ _ _ _ _ _ (by decide) (by decide) HS.out.2.1) b6; have kq6 := (p5.blk _ _ _ (by decide) (by decide) kq).below b6; have c6 := HGK.out _ o6; rw [hG] at c6; have fz := o6.frozenAt k))
                have HS9 : Hid (LW w ((w5.alloc (.cells #[.int .i64 ((k : Int) + 1), .int .i64 (k : Int), .int .i64 7, .string ⟨#[0]⟩, .string ⟨#[1, 97, 0]⟩, .string ⟨#[1, 97, 0]⟩, .int .i64 1, .int .i64 (U k)] 35)).setCell ⟨gg, k, none⟩ (.bool true)) gs 16 (0 + q) (oncD U (gset G k) q) ∧ ((w5.alloc (.cells #[.int .i64 ((k : Int) + 1), .int .i64 (k : Int), .int .i64 7, .string ⟨#[0]⟩, .string ⟨#[1, 97, 0]⟩, .string ⟨#[1, 97, 0]⟩, .int .i64 1, .int .i64 (U k)] 35)).setCell ⟨gg, k, none⟩ (.bool true)).ownsRow w.heap.size 4 1 (.slice (some ⟨gg, 0, none⟩) q q) q (gC (gset G k) q) ∧ Blk ((w5.alloc (.cells #[.int .i64 ((k : Int) + 1), .int .i64 (k : Int), .int .i64 7, .string ⟨#[0]⟩, .string ⟨#[1, 97, 0]⟩, .string ⟨#[1, 97, 0]⟩, .int .i64 1, .int .i64 (U k)] 35)).setCell ⟨gg, k, none⟩ (.bool true)) gq #[.string ⟨#[1, 97, 0]⟩, .int .i64 1, .int .i64 1] 37) := by
                  refine ⟨s6.turn o6 (by decide) (by decide) (Nat.le_refl _) (Turn.of_set (p := ⟨gg, k, none⟩) (S := fun k' => (Value.slice (some ⟨gg, 0, none⟩) q q).ownBlock = some k') _ rfl _), ?_, kq6.other (fun e => own_apartT o6 kq6 (by decide) (by rw [e]; rfl)) _ _⟩
                  have := (o6.stored k (.bool true)).1
                  rw [gC_set] at this
                  exact this
                clear s5 p5 b6 s6 k6 o6 kq6 ht1 c6 fz kq d0 HS
                go_roundw
                case rel => exact ⟨r + 1, gset G k, by omega, by omega, by go_num, HS9⟩
                case measure => simp [intOf]; omega
            · have hkq' : decide ((k : Int) < (q : Int)) = false := by simp; omega
              obtain ⟨x1, x2, x3⟩ := onc_no U G q k (.inl (by omega))
              have ht1 := HS.out.1.take 7 (k : Int) ⟨#[1, 97, 0]⟩ 1 1 (by decide) (okQ _ (by decide) 7 (k : Int) 1 1 (by decide) (by omega) (by decide) (by decide)) 0 0 0 ⟨#[]⟩ ⟨#[]⟩ ⟨#[]⟩ 0 0 1902 _ x1 x2 x3
              clear x1 x2 x3
              go_wp2_with (first
                | (refine wpList_loadS _ rfl (.tmp 13) 37 rfl gq _ 37 rfl kq ⟨_, Try.underlying37⟩ (by kernel_rfl) ?_)
                | (go_at_call 10; refine (num_any _ _).mono ?_; rintro e w' ⟨rfl, hw⟩; obtain rfl := hw.symm)
                | (go_at_call 14; go_must (refine ht1.mono ?_); rintro e w5 ⟨rfl, s5, p5⟩; have b6 := lay (Below.refl w5.heap.size w5) (.cells #[.int .i64 0, .int .i64 0, .int .i64 0, .string ⟨#[]⟩, .string ⟨#[]⟩, .string ⟨#[]⟩, .int .i64 0, .int .i64 0] 35); have s6 := s5.below b6; have k6 := Blk.new w5 #[.int .i64 0, .int .i64 0, .int .i64 0, .string ⟨#[]⟩, .string ⟨#[]⟩, .string ⟨#[]⟩, .int .i64 0, .int .i64 0] 35; have o6 := own_past (p5.row _ _ _ _ _ _ (by decide) (by decide) HS.out.2.1) b6; have kq6 := (p5.blk _ _ _ (by decide) (by decide) kq).below b6))
              have HS9 : Hid (LW w _ gs 16 (0 + q) (oncD U G q) ∧ (w5.alloc (.cells #[.int .i64 0, .int .i64 0, .int .i64 0, .string ⟨#[]⟩, .string ⟨#[]⟩, .string ⟨#[]⟩, .int .i64 0, .int .i64 0] 35)).ownsRow w.heap.size 4 1 (.slice (some ⟨gg, 0, none⟩) q q) q (gC G q) ∧ Blk (w5.alloc (.cells #[.int .i64 0, .int .i64 0, .int .i64 0, .string ⟨#[]⟩, .string ⟨#[]⟩, .string ⟨#[]⟩, .int .i64 0, .int .i64 0] 35)) gq #[.string ⟨#[1, 97, 0]⟩, .int .i64 1, .int .i64 1] 37) := ⟨s6, o6, kq6⟩
              clear s5 p5 b6 s6 k6 o6 kq6 ht1 kq d0 HS
              go_roundw
              case rel => exact ⟨r + 1, G, by omega, by omega, by go_num, HS9⟩
              case measure => simp [intOf]; omega
          · by_cases g1 : r < N2
            · have f1 : decide ((r : Int) < (N2 : Int)) = true := by simp; omega
              have f2 : decide ((r : Int) < 20) = false := by simp; omega
              have f3 : (r : Int) < (N2 : Int) := by omega
              have f4 : ¬ (r : Int) < 20 := by omega
              obtain ⟨NA, hNA⟩ : ∃ NA, (onA U G nv q).length = NA := ⟨_, rfl⟩
              obtain ⟨ed1, ed2⟩ := onc_due U G nv q
              have hdue := HS.out.1.due nv _ _ NA ed1 ed2 hNA
              clear ed1 ed2
              go_wp2_with (go_at_call 16; go_must (refine hdue.mono ?_); rintro e w7 ⟨y7, c7, rfl, o7, s7, p7⟩)
              have HGC : Hid (∀ i, i < q → w7.cell? ⟨gg, i, none⟩ = some (.bool (G i))) := fun i hi => by
                have := (p7.row _ _ _ _ _ _ (by decide) (by decide) HS.out.2.1).cellAt i (by omega)
                rw [gC_at G hi] at this
                exact this
              have HD : Hid (∀ i at', i < q → G i = false → U i ≤ nv → at' = (onA U G nv i).length → at' < NA ∧ ∃ gd, y7 = some ⟨gd, 0, none⟩ ∧ w7.cell? ⟨gd, at' * 8, none⟩ = some (.int .i64 ((i : Int) + 1))) := fun i at' hi hg hu ha => by
                obtain ⟨s, hs⟩ := onA_pre U G nv (show i + 1 ≤ q from hi)
                rw [onA_next, hg, if_pos (by simpa using hu)] at hs
                have hl : at' < (onA U G nv q).length := by rw [hs, ha]; simp
                have hat : (onA U G nv q)[at'] = oaw U i := by
                  have : (onA U G nv q)[at']? = some (oaw U i) := by
                    rw [hs, ha, List.append_assoc, List.getElem?_append_right (Nat.le_refl _), Nat.sub_self]; rfl
                  rw [List.getElem?_eq_getElem hl] at this
                  exact Option.some.inj this
                refine ⟨by omega, ?_⟩
                obtain ⟨gd, cp, hy, _, _⟩ := o7.form (by omega)
                simp only [Value.slice.injEq] at hy
                refine ⟨gd, hy.1, ?_⟩
                have h2 := hy.1
                subst h2
                have := o7.cellAt (at' * 8 + 0) (by omega)
                rw [aF_map _ at' hl 0 (by decide), hat] at this
                exact this
              have HLW : Hid (LW w w7 gs 16 (0 + q) (onR U G nv q)) := s7
              have HU2 : Hid (∀ i, i < q → ∃ g o p, y = some ⟨g, o, none⟩ ∧ w7.cell? ⟨g, o + i, none⟩ = some (.int .i64 p) ∧ bits .and .i64 p 1023 = U i) := fun i hi => HC1.out i (by omega) w7 s7.bel
              have HNA : Hid ((onA U G nv q).length = NA) := hNA
              clear o7 s7 p7 HS kq hdue hNA
              go_loopw [20, 21, 22] (fun a l i wx => ∃ r at' lf : Nat, r ≤ q ∧ at' ≤ r ∧ lf ≤ r ∧ a = .int .i64 (at' : Int) ∧ l = .int .i64 (lf : Int) ∧ i = .int .i64 (r : Int) ∧ wx = w7 ∧ Hid (at' = (onA U G nv r).length ∧ lf = (onR U G nv r).length)) (fun _ _ i _ => q - (intOf i).toNat)
              case atStart => exact ⟨0, 0, 0, Nat.zero_le _, Nat.le_refl _, Nat.le_refl _, rfl, rfl, rfl, rfl, rfl, rfl⟩
              case round =>
                obtain ⟨r, at', lf, hr, hat, hlf, rfl, rfl, rfl, rfl, HT⟩ := hrel
                by_cases hrq : r < q
                · have hrq' : (r : Int) < (q : Int) := by omega
                  have cg := HGC.out r hrq
                  cases hG : G r with
                  | true =>
                    rw [hG] at cg
                    have HT2 : Hid (at' = (onA U G nv (r + 1)).length ∧ lf = (onR U G nv (r + 1)).length) := by unfold Hid; rw [onA_next, onR_next, hG]; simpa using HT.out
                    clear hG HT
                    go_wp2
                    go_roundw
                    case rel => exact ⟨r + 1, at', lf, by omega, by omega, by omega, rfl, rfl, by go_num, trivial, HT2⟩
                    case measure => simp [intOf]; omega
                  | false =>
                    rw [hG] at cg
                    obtain ⟨g, o, p, rfl, d0, hp⟩ := HU2.out r hrq
                    cases hU : decide (U r ≤ nv) with
                    | false =>
                      have hU2 : nv < U r := by simp at hU; omega
                      have HT2 : Hid (at' = (onA U G nv (r + 1)).length ∧ lf + 1 = (onR U G nv (r + 1)).length) := by unfold Hid; rw [onA_next, onR_next, hG, hU]; simpa using HT.out
                      clear hG HT hU
                      go_wp2
                      go_roundw
                      case rel => exact ⟨r + 1, at', lf + 1, by omega, by omega, by omega, rfl, by go_num, by go_num, trivial, HT2⟩
                      case measure => simp [intOf]; omega
                    | true =>
                      have hU2 : decide (nv < U r) = false := by simp at hU ⊢; omega
                      obtain ⟨hl, gd, hy7, cd⟩ := HD.out r at' hrq hG (by simpa using hU) HT.out.1
                      subst hy7
                      have hl2 : decide ((NA : Int) ≤ (at' : Int)) = false := by simp; omega
                      have HT2 : Hid (at' + 1 = (onA U G nv (r + 1)).length ∧ lf = (onR U G nv (r + 1)).length) := by unfold Hid; rw [onA_next, onR_next, hG, hU]; simpa using HT.out
                      have hl3 : (at' : Int) < (NA : Int) := by omega
                      clear hG HT hU
                      go_wp2
                      go_roundw
                      case rel => exact ⟨r + 1, at' + 1, lf, by omega, by omega, by omega, by go_num, rfl, by go_num, trivial, HT2⟩
                      case measure => simp [intOf]; omega
                · have hrq' : decide ((r : Int) < (q : Int)) = false := by simp; omega
                  have hreq : r = q := by omega
                  have h1 : at' = NA := by rw [HT.out.1, hreq]; exact HNA.out
                  have h2 : (onR U G nv q).length = lf := by rw [← hreq]; exact HT.out.2.symm
                  have hal := HLW.out.all lf h2
                  have HR2 := onR_due U G nv q
                  subst h1
                  clear HT h2 hreq
                  go_wp2_with (first
                    | (go_at_call 10; refine (num_any _ _).mono ?_; rintro e w' ⟨rfl, hw⟩; obtain rfl := hw.symm)
                    | (go_at_call 20; go_must (refine hal.mono ?_); rintro e w8 ⟨y8, c8, rfl, _, s8, _⟩; have hdu := s8.due nv [] _ 0 HR2 rfl rfl)
                    | (go_at_call 16; go_must (refine hdu.mono ?_); rintro e w9 ⟨y9, c9, rfl, _, s9, _⟩))
                  go_ret
                  exact ⟨rfl, s9.bel⟩
            · have f1 : decide ((r : Int) < (N2 : Int)) = false := by simp; omega
              obtain ⟨NA, hNA⟩ : ∃ NA, (onA U G nv q).length = NA := ⟨_, rfl⟩
              obtain ⟨ed1, ed2⟩ := onc_due U G nv q
              have hdue := HS.out.1.due nv _ _ NA ed1 ed2 hNA
              clear ed1 ed2
              go_wp2_with (go_at_call 16; go_must (refine hdue.mono ?_); rintro e w7 ⟨y7, c7, rfl, o7, s7, p7⟩)
              have HGC : Hid (∀ i, i < q → w7.cell? ⟨gg, i, none⟩ = some (.bool (G i))) := fun i hi => by
                have := (p7.row _ _ _ _ _ _ (by decide) (by decide) HS.out.2.1).cellAt i (by omega)
                rw [gC_at G hi] at this
                exact this
              have HD : Hid (∀ i at', i < q → G i = false → U i ≤ nv → at' = (onA U G nv i).length → at' < NA ∧ ∃ gd, y7 = some ⟨gd, 0, none⟩ ∧ w7.cell? ⟨gd, at' * 8, none⟩ = some (.int .i64 ((i : Int) + 1))) := fun i at' hi hg hu ha => by
                obtain ⟨s, hs⟩ := onA_pre U G nv (show i + 1 ≤ q from hi)
                rw [onA_next, hg, if_pos (by simpa using hu)] at hs
                have hl : at' < (onA U G nv q).length := by rw [hs, ha]; simp
                have hat : (onA U G nv q)[at'] = oaw U i := by
                  have : (onA U G nv q)[at']? = some (oaw U i) := by
                    rw [hs, ha, List.append_assoc, List.getElem?_append_right (Nat.le_refl _), Nat.sub_self]; rfl
                  rw [List.getElem?_eq_getElem hl] at this
                  exact Option.some.inj this
                refine ⟨by omega, ?_⟩
                obtain ⟨gd, cp, hy, _, _⟩ := o7.form (by omega)
                simp only [Value.slice.injEq] at hy
                refine ⟨gd, hy.1, ?_⟩
                have h2 := hy.1
                subst h2
                have := o7.cellAt (at' * 8 + 0) (by omega)
                rw [aF_map _ at' hl 0 (by decide), hat] at this
                exact this
              have HLW : Hid (LW w w7 gs 16 (0 + q) (onR U G nv q)) := s7
              have HU2 : Hid (∀ i, i < q → ∃ g o p, y = some ⟨g, o, none⟩ ∧ w7.cell? ⟨g, o + i, none⟩ = some (.int .i64 p) ∧ bits .and .i64 p 1023 = U i) := fun i hi => HC1.out i (by omega) w7 s7.bel
              have HNA : Hid ((onA U G nv q).length = NA) := hNA
              clear o7 s7 p7 HS kq hdue hNA
              go_loopw [20, 21, 22] (fun a l i wx => ∃ r at' lf : Nat, r ≤ q ∧ at' ≤ r ∧ lf ≤ r ∧ a = .int .i64 (at' : Int) ∧ l = .int .i64 (lf : Int) ∧ i = .int .i64 (r : Int) ∧ wx = w7 ∧ Hid (at' = (onA U G nv r).length ∧ lf = (onR U G nv r).length)) (fun _ _ i _ => q - (intOf i).toNat)
              case atStart => exact ⟨0, 0, 0, Nat.zero_le _, Nat.le_refl _, Nat.le_refl _, rfl, rfl, rfl, rfl, rfl, rfl⟩
              case round =>
                obtain ⟨r, at', lf, hr, hat, hlf, rfl, rfl, rfl, rfl, HT⟩ := hrel
                by_cases hrq : r < q
                · have hrq' : (r : Int) < (q : Int) := by omega
                  have cg := HGC.out r hrq
                  cases hG : G r with
                  | true =>
                    rw [hG] at cg
                    have HT2 : Hid (at' = (onA U G nv (r + 1)).length ∧ lf = (onR U G nv (r + 1)).length) := by unfold Hid; rw [onA_next, onR_next, hG]; simpa using HT.out
                    clear hG HT
                    go_wp2
                    go_roundw
                    case rel => exact ⟨r + 1, at', lf, by omega, by omega, by omega, rfl, rfl, by go_num, trivial, HT2⟩
                    case measure => simp [intOf]; omega
                  | false =>
                    rw [hG] at cg
                    obtain ⟨g, o, p, rfl, d0, hp⟩ := HU2.out r hrq
                    cases hU : decide (U r ≤ nv) with
                    | false =>
                      have hU2 : nv < U r := by simp at hU; omega
                      have HT2 : Hid (at' = (onA U G nv (r + 1)).length ∧ lf + 1 = (onR U G nv (r + 1)).length) := by unfold Hid; rw [onA_next, onR_next, hG, hU]; simpa using HT.out
                      clear hG HT hU
                      go_wp2
                      go_roundw
                      case rel => exact ⟨r + 1, at', lf + 1, by omega, by omega, by omega, rfl, by go_num, by go_num, trivial, HT2⟩
                      case measure => simp [intOf]; omega
                    | true =>
                      have hU2 : decide (nv < U r) = false := by simp at hU ⊢; omega
                      obtain ⟨hl, gd, hy7, cd⟩ := HD.out r at' hrq hG (by simpa using hU) HT.out.1
                      subst hy7
                      have hl2 : decide ((NA : Int) ≤ (at' : Int)) = false := by simp; omega
                      have HT2 : Hid (at' + 1 = (onA U G nv (r + 1)).length ∧ lf = (onR U G nv (r + 1)).length) := by unfold Hid; rw [onA_next, onR_next, hG, hU]; simpa using HT.out
                      have hl3 : (at' : Int) < (NA : Int) := by omega
                      clear hG HT hU
                      go_wp2
                      go_roundw
                      case rel => exact ⟨r + 1, at' + 1, lf, by omega, by omega, by omega, by go_num, rfl, by go_num, trivial, HT2⟩
                      case measure => simp [intOf]; omega
                · have hrq' : decide ((r : Int) < (q : Int)) = false := by simp; omega
                  have hreq : r = q := by omega
                  have h1 : at' = NA := by rw [HT.out.1, hreq]; exact HNA.out
                  have h2 : (onR U G nv q).length = lf := by rw [← hreq]; exact HT.out.2.symm
                  have hal := HLW.out.all lf h2
                  have HR2 := onR_due U G nv q
                  subst h1
                  clear HT h2 hreq
                  go_wp2_with (first
                    | (go_at_call 10; refine (num_any _ _).mono ?_; rintro e w' ⟨rfl, hw⟩; obtain rfl := hw.symm)
                    | (go_at_call 20; go_must (refine hal.mono ?_); rintro e w8 ⟨y8, c8, rfl, _, s8, _⟩; have hdu := s8.due nv [] _ 0 HR2 rfl rfl)
                    | (go_at_call 16; go_must (refine hdu.mono ?_); rintro e w9 ⟨y9, c9, rfl, _, s9, _⟩))
                  go_ret
                  exact ⟨rfl, s9.bel⟩
      · have e1 : decide ((q : Int) < (N : Int)) = false := by simp; omega
        go_wp2_with (at_make; refine wpList_make_full _ rfl _ _ 54 rfl w.heap.size 4 ib (.bool false) 1 Try.underlying54 hib hb0 hb1 .i64 .i64 _ _ q rfl rfl rfl rfl (by rw [hb2]; omega) (by unfold maxLen; omega) HS.out.bel.size ?_; intro w3 own3 grow3; have b3 := grown_below grow3; have s3 := HS.out.below b3; rw [gC_made] at own3)
        have HE2 : Hid (LW w (w3.alloc (.cells #[.string ⟨#[1, 97, 0]⟩, .int .i64 1, .int .i64 1] 37)) gs 16 (0 + q) (oncD U (fun _ => false) q) ∧ (w3.alloc (.cells #[.string ⟨#[1, 97, 0]⟩, .int .i64 1, .int .i64 1] 37)).ownsRow w.heap.size 4 1 (.slice (some ⟨wr.heap.size, 0, none⟩) q q) q (gC (fun _ => false) q) ∧ Blk (w3.alloc (.cells #[.string ⟨#[1, 97, 0]⟩, .int .i64 1, .int .i64 1] 37)) w3.heap.size #[.string ⟨#[1, 97, 0]⟩, .int .i64 1, .int .i64 1] 37) := by
          rw [onc_start]
          exact ⟨s3.below (lay (Below.refl _ _) _), own_past own3 (lay (Below.refl _ _) _), Blk.new _ _ _⟩
        generalize w3.heap.size = gq at HE2 ⊢
        generalize wr.heap.size = gg at HE2 ⊢
        clear s3 own3 grow3 b3 HS
        go_loopw [14] (fun i wq => ∃ (r : Nat) (G : Nat → Bool), r ≤ N2 ∧ r ≤ 20 ∧ i = .int .i64 (r : Int) ∧ Hid (LW w wq gs 16 (0 + q) (oncD U G q) ∧ wq.ownsRow w.heap.size 4 1 (.slice (some ⟨gg, 0, none⟩) q q) q (gC G q) ∧ Blk wq gq #[.string ⟨#[1, 97, 0]⟩, .int .i64 1, .int .i64 1] 37)) (fun i _ => N2 - (intOf i).toNat)
        case atStart => exact ⟨0, fun _ => false, Nat.zero_le _, by omega, rfl, HE2⟩
        case round =>
          obtain ⟨r, G, hr, hr20, rfl, HS⟩ := hrel
          clear HE2
          have kq := HS.out.2.2
          by_cases hrN : r < N2 ∧ r < 20
          · obtain ⟨hrN, hr2⟩ := hrN
            have f1 : decide ((r : Int) < (N2 : Int)) = true := by simp; omega
            have f2 : decide ((r : Int) < 20) = true := by simp; omega
            have hri : (r : Int) < (N2 : Int) := by omega
            have hri2 : (r : Int) < 20 := by omega
            obtain ⟨g, o, p, rfl, d0, k, hk, hk31⟩ := HC2.out r hrN wr HS.out.1.bel
            by_cases hkq : k < q
            · have hkq' : decide ((k : Int) < (q : Int)) = true := by simp; omega
              have hki : (k : Int) < (q : Int) := by omega
              have HGK : Hid (∀ u : World, u.ownsRow w.heap.size 4 1 (.slice (some ⟨gg, 0, none⟩) q q) q (gC G q) → u.cell? ⟨gg, k, none⟩ = some (.bool (G k))) := fun u ho => by
                have := ho.cellAt k (by omega)
                rw [gC_at G hkq] at this
                exact this
              cases hG : G k with
              | true =>
                obtain ⟨x1, x2, x3⟩ := onc_no U G q k (.inr hG)
                have ht1 := HS.out.1.take 7 (k : Int) ⟨#[1, 97, 0]⟩ 1 1 (by decide) (okQ _ (by decide) 7 (k : Int) 1 1 (by decide) (by omega) (by decide) (by decide)) 0 0 0 ⟨#[]⟩ ⟨#[]⟩ ⟨#[]⟩ 0 0 1902 _ x1 x2 x3
                clear x1 x2 x3
                go_wp2_with (first
                  | (refine wpList_loadS _ rfl (.tmp 13) 37 rfl gq _ 37 rfl kq ⟨_, Try.underlying37⟩ (by kernel_rfl) ?_)
                  | (go_at_call 10; refine (num_any _ _).mono ?_; rintro e w' ⟨rfl, hw⟩; obtain rfl := hw.symm)
                  | (go_at_call 14; go_must (refine ht1.mono ?_); rintro e w5 ⟨rfl, s5, p5⟩; have b6 := lay (Below.refl w5.heap.size w5) (.cells #[.int .i64 0, .int .i64 0, .int .i64 0, .string ⟨#[]⟩, .string ⟨#[]⟩, .string ⟨#[]⟩, .int .i64 0, .int .i64 0] 35); have s6 := s5.below b6; have k6 := Blk.new w5 #[.int .i64 0, .int .i64 0, .int .i64 0, .string ⟨#[]⟩, .string ⟨#[]⟩, .string ⟨#[]⟩, .int .i64 0, .int .i64 0] 35; have o6 := own_past (p5.row _ _ _ _ _ _ (by decide) (by decide) HS.out.2.1) b6; have kq6 := (p5.blk _ _ _ (by decide) (by decide) kq).below b6; have c6 := HGK.out _ o6; rw [hG] at c6))
                have HS9 : Hid (LW w _ gs 16 (0 + q) (oncD U G q) ∧ (w5.alloc (.cells #[.int .i64 0, .int .i64 0, .int .i64 0, .string ⟨#[]⟩, .string ⟨#[]⟩, .string ⟨#[]⟩, .int .i64 0, .int .i64 0] 35)).ownsRow w.heap.size 4 1 (.slice (some ⟨gg, 0, none⟩) q q) q (gC G q) ∧ Blk (w5.alloc (.cells #[.int .i64 0, .int .i64 0, .int .i64 0, .string ⟨#[]⟩, .string ⟨#[]⟩, .string ⟨#[]⟩, .int .i64 0, .int .i64 0] 35)) gq #[.string ⟨#[1, 97, 0]⟩, .int .i64 1, .int .i64 1] 37) := ⟨s6, o6, kq6⟩
                clear s5 p5 b6 s6 k6 o6 kq6 ht1 c6 kq d0 HS
                go_roundw
                case rel => exact ⟨r + 1, G, by omega, by omega, by go_num, HS9⟩
                case measure => simp [intOf]; omega
              | false =>
                obtain ⟨x1, x2, x3⟩ := onc_yes U G q k hkq hG
                have ht1 := HS.out.1.take 7 (k : Int) ⟨#[1, 97, 0]⟩ 1 1 (by decide) (okQ _ (by decide) 7 (k : Int) 1 1 (by decide) (by omega) (by decide) (by decide)) ((k : Int) + 1) (k : Int) 7 ⟨#[0]⟩ ⟨#[1, 97, 0]⟩ ⟨#[1, 97, 0]⟩ 1 (U k) 0 _ x1 x2 x3
                clear x1 x2 x3
                go_wp2_with (first
                  | (refine wpList_loadS _ rfl (.tmp 13) 37 rfl gq _ 37 rfl kq ⟨_, Try.underlying37⟩ (by kernel_rfl) ?_)
                  | (go_at_call 10; refine (num_any _ _).mono ?_; rintro e w' ⟨rfl, hw⟩; obtain rfl := hw.symm)
                  | (go_at_call 14; go_must (refine ht1.mono ?_); rintro e w5 ⟨rfl, s5, p5⟩; have b6 := lay (Below.refl w5.heap.size w5) (.cells #[.int .i64 ((k : Int) + 1), .int .i64 (k : Int), .int .i64 7, .string ⟨#[0]⟩, .string ⟨#[1, 97, 0]⟩, .string ⟨#[1, 97, 0]⟩, .int .i64 1, .int .i64 (U k)] 35); have s6 := s5.below b6; have k6 := Blk.new w5 #[.int .i64 ((k : Int) + 1), .int .i64 (k : Int), .int .i64 7, .string ⟨#[0]⟩, .string ⟨#[1, 97, 0]⟩, .string ⟨#[1, 97, 0]⟩, .int .i64 1, .int .i64 (U k)] 35; have o6 := own_past (p5.row _ _ _ _ _ _ (by decide) (by decide) HS.out.2.1) b6; have kq6 := (p5.blk _ _ _ (by decide) (by decide) kq).below b6; have c6 := HGK.out _ o6; rw [hG] at c6; have fz := o6.frozenAt k))
                have HS9 : Hid (LW w ((w5.alloc (.cells #[.int .i64 ((k : Int) + 1), .int .i64 (k : Int), .int .i64 7, .string ⟨#[0]⟩, .string ⟨#[1, 97, 0]⟩, .string ⟨#[1, 97, 0]⟩, .int .i64 1, .int .i64 (U k)] 35)).setCell ⟨gg, k, none⟩ (.bool true)) gs 16 (0 + q) (oncD U (gset G k) q) ∧ ((w5.alloc (.cells #[.int .i64 ((k : Int) + 1), .int .i64 (k : Int), .int .i64 7, .string ⟨#[0]⟩, .string ⟨#[1, 97, 0]⟩, .string ⟨#[1, 97, 0]⟩, .int .i64 1, .int .i64 (U k)] 35)).setCell ⟨gg, k, none⟩ (.bool true)).ownsRow w.heap.size 4 1 (.slice (some ⟨gg, 0, none⟩) q q) q (gC (gset G k) q) ∧ Blk ((w5.alloc (.cells #[.int .i64 ((k : Int) + 1), .int .i64 (k : Int), .int .i64 7, .string ⟨#[0]⟩, .string ⟨#[1, 97, 0]⟩, .string ⟨#[1, 97, 0]⟩, .int .i64 1, .int .i64 (U k)] 35)).setCell ⟨gg, k, none⟩ (.bool true)) gq #[.string ⟨#[1, 97, 0]⟩, .int .i64 1, .int .i64 1] 37) := by
                  refine ⟨s6.turn o6 (by decide) (by decide) (Nat.le_refl _) (Turn.of_set (p := ⟨gg, k, none⟩) (S := fun k' => (Value.slice (some ⟨gg, 0, none⟩) q q).ownBlock = some k') _ rfl _), ?_, kq6.other (fun e => own_apartT o6 kq6 (by decide) (by rw [e]; rfl)) _ _⟩
                  have := (o6.stored k (.bool true)).1
                  rw [gC_set] at this
                  exact this
                clear s5 p5 b6 s6 k6 o6 kq6 ht1 c6 fz kq d0 HS
                go_roundw
                case rel => exact ⟨r + 1, gset G k, by omega, by omega, by go_num, HS9⟩
                case measure => simp [intOf]; omega
            · have hkq' : decide ((k : Int) < (q : Int)) = false := by simp; omega
              obtain ⟨x1, x2, x3⟩ := onc_no U G q k (.inl (by omega))
              have ht1 := HS.out.1.take 7 (k : Int) ⟨#[1, 97, 0]⟩ 1 1 (by decide) (okQ _ (by decide) 7 (k : Int) 1 1 (by decide) (by omega) (by decide) (by decide)) 0 0 0 ⟨#[]⟩ ⟨#[]⟩ ⟨#[]⟩ 0 0 1902 _ x1 x2 x3
              clear x1 x2 x3
              go_wp2_with (first
                | (refine wpList_loadS _ rfl (.tmp 13) 37 rfl gq _ 37 rfl kq ⟨_, Try.underlying37⟩ (by kernel_rfl) ?_)
                | (go_at_call 10; refine (num_any _ _).mono ?_; rintro e w' ⟨rfl, hw⟩; obtain rfl := hw.symm)
                | (go_at_call 14; go_must (refine ht1.mono ?_); rintro e w5 ⟨rfl, s5, p5⟩; have b6 := lay (Below.refl w5.heap.size w5) (.cells #[.int .i64 0, .int .i64 0, .int .i64 0, .string ⟨#[]⟩, .string ⟨#[]⟩, .string ⟨#[]⟩, .int .i64 0, .int .i64 0] 35); have s6 := s5.below b6; have k6 := Blk.new w5 #[.int .i64 0, .int .i64 0, .int .i64 0, .string ⟨#[]⟩, .string ⟨#[]⟩, .string ⟨#[]⟩, .int .i64 0, .int .i64 0] 35; have o6 := own_past (p5.row _ _ _ _ _ _ (by decide) (by decide) HS.out.2.1) b6; have kq6 := (p5.blk _ _ _ (by decide) (by decide) kq).below b6))
              have HS9 : Hid (LW w _ gs 16 (0 + q) (oncD U G q) ∧ (w5.alloc (.cells #[.int .i64 0, .int .i64 0, .int .i64 0, .string ⟨#[]⟩, .string ⟨#[]⟩, .string ⟨#[]⟩, .int .i64 0, .int .i64 0] 35)).ownsRow w.heap.size 4 1 (.slice (some ⟨gg, 0, none⟩) q q) q (gC G q) ∧ Blk (w5.alloc (.cells #[.int .i64 0, .int .i64 0, .int .i64 0, .string ⟨#[]⟩, .string ⟨#[]⟩, .string ⟨#[]⟩, .int .i64 0, .int .i64 0] 35)) gq #[.string ⟨#[1, 97, 0]⟩, .int .i64 1, .int .i64 1] 37) := ⟨s6, o6, kq6⟩
              clear s5 p5 b6 s6 k6 o6 kq6 ht1 kq d0 HS
              go_roundw
              case rel => exact ⟨r + 1, G, by omega, by omega, by go_num, HS9⟩
              case measure => simp [intOf]; omega
          · by_cases g1 : r < N2
            · have f1 : decide ((r : Int) < (N2 : Int)) = true := by simp; omega
              have f2 : decide ((r : Int) < 20) = false := by simp; omega
              have f3 : (r : Int) < (N2 : Int) := by omega
              have f4 : ¬ (r : Int) < 20 := by omega
              obtain ⟨NA, hNA⟩ : ∃ NA, (onA U G nv q).length = NA := ⟨_, rfl⟩
              obtain ⟨ed1, ed2⟩ := onc_due U G nv q
              have hdue := HS.out.1.due nv _ _ NA ed1 ed2 hNA
              clear ed1 ed2
              go_wp2_with (go_at_call 16; go_must (refine hdue.mono ?_); rintro e w7 ⟨y7, c7, rfl, o7, s7, p7⟩)
              have HGC : Hid (∀ i, i < q → w7.cell? ⟨gg, i, none⟩ = some (.bool (G i))) := fun i hi => by
                have := (p7.row _ _ _ _ _ _ (by decide) (by decide) HS.out.2.1).cellAt i (by omega)
                rw [gC_at G hi] at this
                exact this
              have HD : Hid (∀ i at', i < q → G i = false → U i ≤ nv → at' = (onA U G nv i).length → at' < NA ∧ ∃ gd, y7 = some ⟨gd, 0, none⟩ ∧ w7.cell? ⟨gd, at' * 8, none⟩ = some (.int .i64 ((i : Int) + 1))) := fun i at' hi hg hu ha => by
                obtain ⟨s, hs⟩ := onA_pre U G nv (show i + 1 ≤ q from hi)
                rw [onA_next, hg, if_pos (by simpa using hu)] at hs
                have hl : at' < (onA U G nv q).length := by rw [hs, ha]; simp
                have hat : (onA U G nv q)[at'] = oaw U i := by
                  have : (onA U G nv q)[at']? = some (oaw U i) := by
                    rw [hs, ha, List.append_assoc, List.getElem?_append_right (Nat.le_refl _), Nat.sub_self]; rfl
                  rw [List.getElem?_eq_getElem hl] at this
                  exact Option.some.inj this
                refine ⟨by omega, ?_⟩
                obtain ⟨gd, cp, hy, _, _⟩ := o7.form (by omega)
                simp only [Value.slice.injEq] at hy
                refine ⟨gd, hy.1, ?_⟩
                have h2 := hy.1
                subst h2
                have := o7.cellAt (at' * 8 + 0) (by omega)
                rw [aF_map _ at' hl 0 (by decide), hat] at this
                exact this
              have HLW : Hid (LW w w7 gs 16 (0 + q) (onR U G nv q)) := s7
              have HU2 : Hid (∀ i, i < q → ∃ g o p, y = some ⟨g, o, none⟩ ∧ w7.cell? ⟨g, o + i, none⟩ = some (.int .i64 p) ∧ bits .and .i64 p 1023 = U i) := fun i hi => HC1.out i (by omega) w7 s7.bel
              have HNA : Hid ((onA U G nv q).length = NA) := hNA
              clear o7 s7 p7 HS kq hdue hNA
              go_loopw [20, 21, 22] (fun a l i wx => ∃ r at' lf : Nat, r ≤ q ∧ at' ≤ r ∧ lf ≤ r ∧ a = .int .i64 (at' : Int) ∧ l = .int .i64 (lf : Int) ∧ i = .int .i64 (r : Int) ∧ wx = w7 ∧ Hid (at' = (onA U G nv r).length ∧ lf = (onR U G nv r).length)) (fun _ _ i _ => q - (intOf i).toNat)
              case atStart => exact ⟨0, 0, 0, Nat.zero_le _, Nat.le_refl _, Nat.le_refl _, rfl, rfl, rfl, rfl, rfl, rfl⟩
              case round =>
                obtain ⟨r, at', lf, hr, hat, hlf, rfl, rfl, rfl, rfl, HT⟩ := hrel
                by_cases hrq : r < q
                · have hrq' : (r : Int) < (q : Int) := by omega
                  have cg := HGC.out r hrq
                  cases hG : G r with
                  | true =>
                    rw [hG] at cg
                    have HT2 : Hid (at' = (onA U G nv (r + 1)).length ∧ lf = (onR U G nv (r + 1)).length) := by unfold Hid; rw [onA_next, onR_next, hG]; simpa using HT.out
                    clear hG HT
                    go_wp2
                    go_roundw
                    case rel => exact ⟨r + 1, at', lf, by omega, by omega, by omega, rfl, rfl, by go_num, trivial, HT2⟩
                    case measure => simp [intOf]; omega
                  | false =>
                    rw [hG] at cg
                    obtain ⟨g, o, p, rfl, d0, hp⟩ := HU2.out r hrq
                    cases hU : decide (U r ≤ nv) with
                    | false =>
                      have hU2 : nv < U r := by simp at hU; omega
                      have HT2 : Hid (at' = (onA U G nv (r + 1)).length ∧ lf + 1 = (onR U G nv (r + 1)).length) := by unfold Hid; rw [onA_next, onR_next, hG, hU]; simpa using HT.out
                      clear hG HT hU
                      go_wp2
                      go_roundw
                      case rel => exact ⟨r + 1, at', lf + 1, by omega, by omega, by omega, rfl, by go_num, by go_num, trivial, HT2⟩
                      case measure => simp [intOf]; omega
                    | true =>
                      have hU2 : decide (nv < U r) = false := by simp at hU ⊢; omega
                      obtain ⟨hl, gd, hy7, cd⟩ := HD.out r at' hrq hG (by simpa using hU) HT.out.1
                      subst hy7
                      have hl2 : decide ((NA : Int) ≤ (at' : Int)) = false := by simp; omega
                      have HT2 : Hid (at' + 1 = (onA U G nv (r + 1)).length ∧ lf = (onR U G nv (r + 1)).length) := by unfold Hid; rw [onA_next, onR_next, hG, hU]; simpa using HT.out
                      have hl3 : (at' : Int) < (NA : Int) := by omega
                      clear hG HT hU
                      go_wp2
                      go_roundw
                      case rel => exact ⟨r + 1, at' + 1, lf, by omega, by omega, by omega, by go_num, rfl, by go_num, trivial, HT2⟩
                      case measure => simp [intOf]; omega
                · have hrq' : decide ((r : Int) < (q : Int)) = false := by simp; omega
                  have hreq : r = q := by omega
                  have h1 : at' = NA := by rw [HT.out.1, hreq]; exact HNA.out
                  have h2 : (onR U G nv q).length = lf := by rw [← hreq]; exact HT.out.2.symm
                  have hal := HLW.out.all lf h2
                  have HR2 := onR_due U G nv q
                  subst h1
                  clear HT h2 hreq
                  go_wp2_with (first
                    | (go_at_call 10; refine (num_any _ _).mono ?_; rintro e w' ⟨rfl, hw⟩; obtain rfl := hw.symm)
                    | (go_at_call 20; go_must (refine hal.mono ?_); rintro e w8 ⟨y8, c8, rfl, _, s8, _⟩; have hdu := s8.due nv [] _ 0 HR2 rfl rfl)
                    | (go_at_call 16; go_must (refine hdu.mono ?_); rintro e w9 ⟨y9, c9, rfl, _, s9, _⟩))
                  go_ret
                  exact ⟨rfl, s9.bel⟩
            · have f1 : decide ((r : Int) < (N2 : Int)) = false := by simp; omega
              obtain ⟨NA, hNA⟩ : ∃ NA, (onA U G nv q).length = NA := ⟨_, rfl⟩
              obtain ⟨ed1, ed2⟩ := onc_due U G nv q
              have hdue := HS.out.1.due nv _ _ NA ed1 ed2 hNA
              clear ed1 ed2
              go_wp2_with (go_at_call 16; go_must (refine hdue.mono ?_); rintro e w7 ⟨y7, c7, rfl, o7, s7, p7⟩)
              have HGC : Hid (∀ i, i < q → w7.cell? ⟨gg, i, none⟩ = some (.bool (G i))) := fun i hi => by
                have := (p7.row _ _ _ _ _ _ (by decide) (by decide) HS.out.2.1).cellAt i (by omega)
                rw [gC_at G hi] at this
                exact this
              have HD : Hid (∀ i at', i < q → G i = false → U i ≤ nv → at' = (onA U G nv i).length → at' < NA ∧ ∃ gd, y7 = some ⟨gd, 0, none⟩ ∧ w7.cell? ⟨gd, at' * 8, none⟩ = some (.int .i64 ((i : Int) + 1))) := fun i at' hi hg hu ha => by
                obtain ⟨s, hs⟩ := onA_pre U G nv (show i + 1 ≤ q from hi)
                rw [onA_next, hg, if_pos (by simpa using hu)] at hs
                have hl : at' < (onA U G nv q).length := by rw [hs, ha]; simp
                have hat : (onA U G nv q)[at'] = oaw U i := by
                  have : (onA U G nv q)[at']? = some (oaw U i) := by
                    rw [hs, ha, List.append_assoc, List.getElem?_append_right (Nat.le_refl _), Nat.sub_self]; rfl
                  rw [List.getElem?_eq_getElem hl] at this
                  exact Option.some.inj this
                refine ⟨by omega, ?_⟩
                obtain ⟨gd, cp, hy, _, _⟩ := o7.form (by omega)
                simp only [Value.slice.injEq] at hy
                refine ⟨gd, hy.1, ?_⟩
                have h2 := hy.1
                subst h2
                have := o7.cellAt (at' * 8 + 0) (by omega)
                rw [aF_map _ at' hl 0 (by decide), hat] at this
                exact this
              have HLW : Hid (LW w w7 gs 16 (0 + q) (onR U G nv q)) := s7
              have HU2 : Hid (∀ i, i < q → ∃ g o p, y = some ⟨g, o, none⟩ ∧ w7.cell? ⟨g, o + i, none⟩ = some (.int .i64 p) ∧ bits .and .i64 p 1023 = U i) := fun i hi => HC1.out i (by omega) w7 s7.bel
              have HNA : Hid ((onA U G nv q).length = NA) := hNA
              clear o7 s7 p7 HS kq hdue hNA
              go_loopw [20, 21, 22] (fun a l i wx => ∃ r at' lf : Nat, r ≤ q ∧ at' ≤ r ∧ lf ≤ r ∧ a = .int .i64 (at' : Int) ∧ l = .int .i64 (lf : Int) ∧ i = .int .i64 (r : Int) ∧ wx = w7 ∧ Hid (at' = (onA U G nv r).length ∧ lf = (onR U G nv r).length)) (fun _ _ i _ => q - (intOf i).toNat)
              case atStart => exact ⟨0, 0, 0, Nat.zero_le _, Nat.le_refl _, Nat.le_refl _, rfl, rfl, rfl, rfl, rfl, rfl⟩
              case round =>
                obtain ⟨r, at', lf, hr, hat, hlf, rfl, rfl, rfl, rfl, HT⟩ := hrel
                by_cases hrq : r < q
                · have hrq' : (r : Int) < (q : Int) := by omega
                  have cg := HGC.out r hrq
                  cases hG : G r with
                  | true =>
                    rw [hG] at cg
                    have HT2 : Hid (at' = (onA U G nv (r + 1)).length ∧ lf = (onR U G nv (r + 1)).length) := by unfold Hid; rw [onA_next, onR_next, hG]; simpa using HT.out
                    clear hG HT
                    go_wp2
                    go_roundw
                    case rel => exact ⟨r + 1, at', lf, by omega, by omega, by omega, rfl, rfl, by go_num, trivial, HT2⟩
                    case measure => simp [intOf]; omega
                  | false =>
                    rw [hG] at cg
                    obtain ⟨g, o, p, rfl, d0, hp⟩ := HU2.out r hrq
                    cases hU : decide (U r ≤ nv) with
                    | false =>
                      have hU2 : nv < U r := by simp at hU; omega
                      have HT2 : Hid (at' = (onA U G nv (r + 1)).length ∧ lf + 1 = (onR U G nv (r + 1)).length) := by unfold Hid; rw [onA_next, onR_next, hG, hU]; simpa using HT.out
                      clear hG HT hU
                      go_wp2
                      go_roundw
                      case rel => exact ⟨r + 1, at', lf + 1, by omega, by omega, by omega, rfl, by go_num, by go_num, trivial, HT2⟩
                      case measure => simp [intOf]; omega
                    | true =>
                      have hU2 : decide (nv < U r) = false := by simp at hU ⊢; omega
                      obtain ⟨hl, gd, hy7, cd⟩ := HD.out r at' hrq hG (by simpa using hU) HT.out.1
                      subst hy7
                      have hl2 : decide ((NA : Int) ≤ (at' : Int)) = false := by simp; omega
                      have HT2 : Hid (at' + 1 = (onA U G nv (r + 1)).length ∧ lf = (onR U G nv (r + 1)).length) := by unfold Hid; rw [onA_next, onR_next, hG, hU]; simpa using HT.out
                      have hl3 : (at' : Int) < (NA : Int) := by omega
                      clear hG HT hU
                      go_wp2
                      go_roundw
                      case rel => exact ⟨r + 1, at' + 1, lf, by omega, by omega, by omega, by go_num, rfl, by go_num, trivial, HT2⟩
                      case measure => simp [intOf]; omega
                · have hrq' : decide ((r : Int) < (q : Int)) = false := by simp; omega
                  have hreq : r = q := by omega
                  have h1 : at' = NA := by rw [HT.out.1, hreq]; exact HNA.out
                  have h2 : (onR U G nv q).length = lf := by rw [← hreq]; exact HT.out.2.symm
                  have hal := HLW.out.all lf h2
                  have HR2 := onR_due U G nv q
                  subst h1
                  clear HT h2 hreq
                  go_wp2_with (first
                    | (go_at_call 10; refine (num_any _ _).mono ?_; rintro e w' ⟨rfl, hw⟩; obtain rfl := hw.symm)
                    | (go_at_call 20; go_must (refine hal.mono ?_); rintro e w8 ⟨y8, c8, rfl, _, s8, _⟩; have hdu := s8.due nv [] _ 0 HR2 rfl rfl)
                    | (go_at_call 16; go_must (refine hdu.mono ?_); rintro e w9 ⟨y9, c9, rfl, _, s9, _⟩))
                  go_ret
                  exact ⟨rfl, s9.bel⟩

theorem own : ownKnob Try.prog.godebug = none := by kernel_rfl
theorem laidOut : laidOutB Try.prog = true := by kernel_rfl

set_option maxRecDepth 100000 in
theorem lifted (os : Os) (started : os.Started) (H : Type) (enc : TypeId × Value → H) :
    ReturnsInHanded {} Try.checked os 4 .any (Rows.tableOnceSpec.pre6 enc Try.prog Try.f4 Rows.tableOnceRow.domain false) (Rows.tableOnceSpec.post enc Try.prog Try.f4 false true false false) := by
  refine returnsInHanded_of_change (C := Try.checked) own started (by kernel_rfl) Try.func4
    (ChangeSpec.witness6 (enc := enc) (C := Try.checked) false ⟨#[], #[.slice none 0 0, .slice none 0 0, .int .i64 0], []⟩ 8 (by kernel_rfl) (by kernel_rfl) (by kernel_rfl) (by kernel_rfl)) ?_
  intro W base args ds gs before hval0 hW _ _
  have hval : ∀ (j : Nat) t v, Try.f4.params[j]? = some t → args[j]? = some v → Value.okWide Try.prog W .any base t v := hval0
  have hW' := hW
  obtain ⟨p, q, hA0, hV, rfl, hfz, hnd⟩ := hW
  have hA : DataW.TrodAll enc Try.prog W 0 (fun _ => true) true Try.f4.params.toList args.toList ds p := hA0
  rw [Try.params4] at hA hval
  obtain ⟨v0, vs0, d0, ds0, p0, q0, hargs, rfl, rfl, h0, r0⟩ := trodAll_cons hA
  obtain ⟨v1, vs1, d1, ds1, p1, q1, rfl, rfl, rfl, h1, r1⟩ := trodAll_cons r0
  obtain ⟨v2, vs2, d2, ds2, p2, q2, rfl, rfl, rfl, h2, r2⟩ := trodAll_cons r1
  obtain ⟨rfl, rfl, rfl⟩ := trodAll_nil r2
  obtain rfl : args = #[v0, v1, v2] := by cases args; simp_all
  obtain ⟨rfl, rfl⟩ := trodVars_none hV
  obtain ⟨a0, w0⟩ := open_irow (hval 0 52 v0 rfl rfl) h0
  obtain ⟨a1, w1⟩ := open_irow (hval 1 52 v1 rfl rfl) h1
  obtain ⟨a2, rfl, rfl, rfl, w2⟩ := open_int Try.underlying3 (hval 2 3 v2 rfl rfl) h2
  have hlt0 : ∀ x ∈ p0, x.block < W.heap.size := fun x hx => by
    have := hW'.lt x (by simp [hx])
    simpa using this
  have hlt1 : ∀ x ∈ p1, x.block < W.heap.size := fun x hx => by
    have := hW'.lt x (by simp [hx])
    simpa using this
  clear hA0 hval0
  simp only [List.append_nil] at hW'
  refine (walk v0 a0 v1 a1 a2 w2 W w0 w1).mono fun e W' ⟨he, bel⟩ => ?_
  subst he
  exact ⟨_, rfl, _, _, _, [], _, [], hW', trodAll_mk1 (shut_bool Try.underlying4 _), (trodAll_cons_mk (Below.trod laidOut (by kernel_rfl) (of_decide_eq_true (by kernel_rfl)) h0 bel hlt0) (trodAll_cons_mk (Below.trod laidOut (by kernel_rfl) (of_decide_eq_true (by kernel_rfl)) h1 bel hlt1) (trodAll_cons_mk (shut_int Try.underlying3 w2) trodAll_mk0))), rfl, bel.frame _, fun h => by cases h⟩

/-- The statement. -/
theorem proved : Rows.TableOnceSaid :=
  OpenClaim.holds_of_wide 4 Try.f4 rfl rfl rfl rfl rfl rfl rfl ⟨rfl, rfl, rfl, rfl, rfl⟩ rfl rfl rfl rfl rfl (by kernel_rfl) Try.func4 (by kernel_rfl)
    (of_decide_eq_true (by kernel_rfl)) (by unfold Func.isWrapper; first | (rw [if_pos (by decide +kernel)]; kernel_rfl) | (rw [if_neg (by decide +kernel)]; exact ⟨rfl, rfl⟩))
    (fun os started H enc _ => lifted os started H enc)
#print axioms proved


end Go.Proofs.Ytbldoplemfjcjaa.tableOnce
