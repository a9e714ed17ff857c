/- CompShares holds: for every three strings, names with one end share it. -/
import Derived.Test.YtpfbmemejajbjaaCpJ
import Derived.Deep.DeepCutAuto
import Derived.ProofKit
import Derived.OpenShut
import Derived.ShutString
namespace Go.Proofs.Ytpfbmemejajbjaa.compShares
open Go.ChangeShapes Go.WideShapes Go.ChangeAt Go.RowKit
open Go.ChangeMaps (open_string shut_string)
open Pl

theorem add_off (g i : Nat) : (⟨g, 0, none⟩ : Addr).add i = ⟨g, i, none⟩ := by unfold Addr.add; split <;> simp_all
/-- A block of one byte becomes a string, in whatever world it lies. -/
theorem one_str (b : UInt8) (g : Nat) (u : World) (h : u.cell? ⟨g, 0, none⟩ = some (.int .u8 (b.toNat : Int))) : (convert 49 9 (.slice (some ⟨g, 0, none⟩) 1 1)).run Try.prog u = .ok (.string ⟨#[b]⟩) u := by
  refine run_convert_bytes_back _ 49 9 5 ⟨g, 0, none⟩ 1 [b] Try.underlying49 Try.underlying5 Try.underlying9 fun j hj => ?_
  obtain rfl : j = 0 := by simp at hj; omega
  rw [add_off, h]; rfl
theorem one_a (b : UInt8) (u : World) : (convert 49 9 (.slice (some ⟨u.heap.size, 0, none⟩) 1 1)).run Try.prog (u.alloc (.cells #[.int .u8 (b.toNat : Int)] 5)).drew = .ok (.string ⟨#[b]⟩) (u.alloc (.cells #[.int .u8 (b.toNat : Int)] 5)).drew := by
  apply one_str; rw [World.cell?_drew, World.cell?_alloc_mark]; rfl
theorem one_b (b c : UInt8) (u : World) : (convert 49 9 (.slice (some ⟨u.heap.size, 0, none⟩) 1 1)).run Try.prog ((u.alloc (.cells #[.int .u8 (b.toNat : Int)] 5)).alloc (.cells #[.int .u8 (c.toNat : Int)] 5)).drew = .ok (.string ⟨#[b]⟩) ((u.alloc (.cells #[.int .u8 (b.toNat : Int)] 5)).alloc (.cells #[.int .u8 (c.toNat : Int)] 5)).drew := by
  apply one_str
  rw [World.cell?_drew]
  have h : (u.alloc (.cells #[.int .u8 (b.toNat : Int)] 5)).cell? ⟨u.heap.size, 0, none⟩ = some (.int .u8 (b.toNat : Int)) := by rw [World.cell?_alloc_mark]; rfl
  rw [(lay (Below.refl _ _) _).cell (World.block_lt_of_cell? _ _ h)]
  exact h
theorem one_c (b c : UInt8) (u : World) : (convert 49 9 (.slice (some ⟨u.heap.size + 1, 0, none⟩) 1 1)).run Try.prog ((u.alloc (.cells #[.int .u8 (b.toNat : Int)] 5)).alloc (.cells #[.int .u8 (c.toNat : Int)] 5)).drew = .ok (.string ⟨#[c]⟩) ((u.alloc (.cells #[.int .u8 (b.toNat : Int)] 5)).alloc (.cells #[.int .u8 (c.toNat : Int)] 5)).drew := by
  apply one_str
  have e : u.heap.size + 1 = (u.alloc (.cells #[.int .u8 (b.toNat : Int)] 5)).heap.size := by simp
  rw [World.cell?_drew, e, World.cell?_alloc_mark]; rfl

set_option maxRecDepth 20000 in
set_option maxHeartbeats 4000000 in
theorem walk (s a b : ByteArray) (hs : s.size ≤ maxLen) (ha : a.size ≤ maxLen) (hbm : b.size ≤ maxLen) (w : World) :
    Calls Try.prog 7 #[.string s, .string a, .string b] w fun e w' => e = .returned (.bool true) ∧ Below w.heap.size w w' := by
  have hb : Below w.heap.size w w := Below.refl _ _
  have hsl := data_len s
  have ha := ha
  have hbm := hbm
  unfold maxLen at ha hbm
  cases hn : isName s.data.toList with
  | false =>
    go_enter Try.func7, Try.ntmps7
    go_wp2_with (first
      | (go_at_call 14; go_must (refine (awake_any _).mono ?_); rintro e w0 ⟨rfl, b0⟩; replace hb := next hb b0; clear b0)
      | (go_at_call 22; go_must (refine (refMay_at s false _ hs hn).mono ?_); rintro e w0 ⟨rfl, b0⟩; replace hb := next hb b0; clear b0))
    go_ret
    exact ⟨rfl, hb⟩
  | true =>
    have hs255 := name_size hn
    have HN : Hid (isName s.data.toList = true) := hn
    by_cases hroot : s = ⟨#[0]⟩
    · subst hroot
      clear hn
      go_enter Try.func7, Try.ntmps7
      go_wp2_with (first
        | (go_at_call 14; go_must (refine (awake_any _).mono ?_); rintro e w0 ⟨rfl, b0⟩; replace hb := next hb b0; clear b0)
        | (go_at_call 22; go_must (refine (refMay_at _ true _ hs HN.out).mono ?_); rintro e w0 ⟨rfl, b0⟩; replace hb := next hb b0; clear b0))
      go_ret
      exact ⟨rfl, hb⟩
    · have hne : s.data.toList ≠ [0] := fun h => hroot (by apply ByteArray.ext; apply Array.ext'; exact h)
      have ht : (s.toList == [0]) = false := by
        rw [ByteArray.toList_eq]; simpa using hne
      by_cases h200 : (200 : Int) < (s.size : Int)
      · clear hn
        go_enter Try.func7, Try.ntmps7
        go_wp2_with (first
          | (go_at_call 14; go_must (refine (awake_any _).mono ?_); rintro e w0 ⟨rfl, b0⟩; replace hb := next hb b0; clear b0)
          | (go_at_call 22; go_must (refine (refMay_at _ true _ hs HN.out).mono ?_); rintro e w0 ⟨rfl, b0⟩; replace hb := next hb b0; clear b0))
        go_ret
        exact ⟨rfl, hb⟩
      · have h200' : decide ((200 : Int) < (s.size : Int)) = false := by simpa using h200
        have hs200 : s.size ≤ 200 := by omega
        have h3 := share_len hn hne
        obtain ⟨ba, hba⟩ : ∃ ba : UInt8, IntKind.u8.wrap (a.size : Int) = (ba.toNat : Int) := ⟨UInt8.ofNat a.size, by simp [IntKind.wrap, IntKind.bits, IntKind.signed, UInt8.toNat_ofNat']⟩
        obtain ⟨bb, hbb⟩ : ∃ bb : UInt8, IntKind.u8.wrap (b.size : Int) = (bb.toNat : Int) := ⟨UInt8.ofNat b.size, by simp [IntKind.wrap, IntKind.bits, IntKind.signed, UInt8.toNat_ofNat']⟩
        obtain ⟨X, hX⟩ : ∃ X : ByteArray, X = ⟨#[2, 120]⟩ ++ ⟨#[ba]⟩ ++ s := ⟨_, rfl⟩
        obtain ⟨Y, hY⟩ : ∃ Y : ByteArray, Y = ⟨#[2, 121]⟩ ++ ⟨#[bb]⟩ ++ s := ⟨_, rfl⟩
        have hXl : X.data.toList = 2 :: 120 :: ba :: s.data.toList := by rw [hX, app_list, app_list]; rfl
        have hYl : Y.data.toList = 2 :: 121 :: bb :: s.data.toList := by rw [hY, app_list, app_list]; rfl
        have hXs : X.size = s.size + 3 := by rw [← data_len, hXl]; simp
        have hYs : Y.size = s.size + 3 := by rw [← data_len, hYl]; simp
        have nX : isName X.data.toList = true := by rw [hXl]; exact share_name ba 120 hn (by omega)
        have nY : isName Y.data.toList = true := by rw [hYl]; exact share_name bb 121 hn (by omega)
        obtain ⟨x1, x2⟩ := nam_fresh (B := []) nX (by rw [data_len, hXs]; simp; omega)
        obtain ⟨M1, hM1⟩ : ∃ M1, M1 = namM [] [] X.data.toList := ⟨_, rfl⟩
        obtain ⟨p1, p2⟩ := share_first ba 120 hn hne (by omega) 121 (by decide) bb
        have hM1' : M1 = newM 0 (2 :: 120 :: ba :: s.data.toList) (splN [] (2 :: 120 :: ba :: s.data.toList)).1 := by
          rw [hM1, (nam_yes nX (by rw [siz_fresh nX, data_len, hXs]; simp; omega)).2.2, hXl]; rfl
        rw [← hM1'] at p1 p2
        have sp := share_second hn hne (by omega) 121 bb M1 p1 p2
        rw [← hYl] at sp
        obtain ⟨y1, y2, y3⟩ := nam_yes (B := X.data.toList) (ms := M1) nY (by unfold sizW; rw [sp, data_len, hXs]; simp [ptrB]; omega)
        have y2' : namB X.data.toList M1 Y.data.toList = X.data.toList ++ (Y.data.toList.take 3 ++ ptrB 3) := by rw [y2]; unfold outW; rw [sp]
        obtain ⟨M2, hM2⟩ : ∃ M2, M2 = namM X.data.toList M1 Y.data.toList := ⟨_, rfl⟩
        have p3 : plc M2 s.data.toList = some 3 := by rw [hM2, y3]; exact plc_keep p2
        have hYt : (Y.data.toList.take 3).length = 3 := by rw [hYl]; simp
        obtain ⟨B2, hB2⟩ : ∃ B2, B2 = X.data.toList ++ (Y.data.toList.take 3 ++ ptrB 3) := ⟨_, rfl⟩
        have lB2 : B2.length = s.size + 8 := by rw [hB2, List.length_append, List.length_append, data_len, hXs, hYt]; simp [ptrB]
        obtain ⟨z1, z2, z3⟩ := nam_hit (B := B2) hn hne p3 (by omega)
        obtain ⟨r1, r2, r3⟩ := nam_root (B := B2 ++ ptrB 3) (ms := M2) (by rw [List.length_append, lB2]; simp [ptrB]; omega)
        obtain ⟨P, hP⟩ : ∃ P : ByteArray, P = ⟨(ptrB 3).toArray⟩ := ⟨_, rfl⟩
        have hPl : P.data.toList = ptrB 3 := by rw [hP]
        have hPs : P.size = 2 := by rw [hP, toArr_size]; simp [ptrB]
        obtain ⟨Y3, hY3⟩ : ∃ Y3, Y3 = Y.extract 0 3 := ⟨_, rfl⟩
        have hY3s : Y3.size = 3 := by rw [hY3]; simp; omega
        have HF : Hid ((X ++ Y3 ++ P ++ P ++ ⟨#[0]⟩ : ByteArray).data.toList = B2 ++ ptrB 3 ++ [0]) := by
          unfold Hid
          rw [app_list, app_list, app_list, app_list, hPl, hY3, ext_to, hB2]
          simp
        have hyc := cut_to Y 3 3 rfl (by omega)
        rw [← hY3] at hyc
        rw [← hB2] at y2'
        have HA : Hid (namE [] [] X.data.toList = 0 ∧ namB [] [] X.data.toList = X.data.toList ∧ namM [] [] X.data.toList = M1) := ⟨x1, by simpa using x2, hM1.symm⟩
        have HB : Hid (namE X.data.toList M1 Y.data.toList = 0 ∧ namB X.data.toList M1 Y.data.toList = B2 ∧ namM X.data.toList M1 Y.data.toList = M2) := ⟨y1, y2', hM2.symm⟩
        have HC : Hid (namE B2 M2 s.data.toList = 0 ∧ namB B2 M2 s.data.toList = B2 ++ ptrB 3 ∧ namM B2 M2 s.data.toList = M2) := ⟨z1, z2, z3⟩
        have HD : Hid (namE (B2 ++ ptrB 3) M2 (⟨#[0]⟩ : ByteArray).data.toList = 0 ∧ namB (B2 ++ ptrB 3) M2 (⟨#[0]⟩ : ByteArray).data.toList = B2 ++ ptrB 3 ++ [0] ∧ namM (B2 ++ ptrB 3) M2 (⟨#[0]⟩ : ByteArray).data.toList = M2) := ⟨r1, r2, r3⟩
        have HP : Hid (P = ⟨(ptrB 3).toArray⟩) := hP
        have HX : Hid (X = ⟨#[2, 120]⟩ ++ ⟨#[ba]⟩ ++ s) := hX
        have HY : Hid (Y = ⟨#[2, 121]⟩ ++ ⟨#[bb]⟩ ++ s) := hY
        have hXm : X.size ≤ maxLen := by unfold maxLen; omega
        have hYm : Y.size ≤ maxLen := by unfold maxLen; omega
        have hXs' : X.size ≤ 300 := by omega
        clear hn x1 x2 hM1 hM1' p1 p2 sp y1 y2 y3 y2' hM2 p3 hYt lB2 z1 z2 z3 r1 r2 r3 hP hPl hXl hYl hXs nX nY hX hY hB2 hY3 h3
        go_enter Try.func7, Try.ntmps7
        go_upto_region 5 with (first
          | (go_at_call 14; go_must (refine (awake_any _).mono ?_); rintro e w0 ⟨rfl, b0⟩; replace hb := next hb b0; clear b0)
          | (go_at_call 22; go_must (refine (refMay_at _ true _ hs HN.out).mono ?_); rintro e w0 ⟨rfl, b0⟩; replace hb := next hb b0; clear b0))
        go_cut [7, 8] (fun x y wx => x = .string X ∧ y = .string Y ∧ Below w.heap.size w wx)
        case first =>
          have k1 := one_a ba w0
          have k2 := one_a bb w0
          have k3 := one_b ba bb w0
          have k4 := one_b bb ba w0
          have k5 := one_c ba bb w0
          have k6 := one_c bb ba w0
          go_region
          all_goals (go_wp2_with fail; go_meet; exact ⟨by rw [HX.out], by rw [HY.out], (lay (lay hb _) _).drew⟩)
        case rest =>
        obtain ⟨rfl, rfl, hbc⟩ := hcut
        go_upto_region 11 with (first
          | (go_at_call 15; go_must (refine (new_h w _ hbc).mono ?_); rintro e w1 ⟨g, rfl, h1, _⟩; have H1 : Hid (Holds w w1 g [] []) := h1; clear h1 hbc)
          | (go_at_call_of 18 (Value.string X); go_must (refine (name_k X hXm H1.out HA.out.1 HA.out.2.1 HA.out.2.2).mono ?_); rintro e w2 ⟨rfl, h1, _⟩; have H2 : Hid (Holds w w2 g X.data.toList M1) := h1; clear h1 H1)
          | (go_at_call_of 18 (Value.string Y); go_must (refine (name_k Y hYm H2.out HB.out.1 HB.out.2.1 HB.out.2.2).mono ?_); rintro e w3 ⟨rfl, h1, _⟩; have H3 : Hid (Holds w w3 g B2 M2) := h1; clear h1 H2)
          | (go_at_call_of 18 (Value.string s); go_must (refine (name_k s hs H3.out HC.out.1 HC.out.2.1 HC.out.2.2).mono ?_); rintro e w4 ⟨rfl, h1, _⟩; have H4 : Hid (Holds w w4 g (B2 ++ ptrB 3) M2) := h1; clear h1 H3)
          | (go_at_call 18; go_must (refine (name_k ⟨#[0]⟩ (small (by decide)) H4.out HD.out.1 HD.out.2.1 HD.out.2.2).mono ?_); rintro e w5 ⟨rfl, h1, _⟩; have H5 : Hid (Holds w w5 g (B2 ++ ptrB 3 ++ [0]) M2) := h1; clear h1 H4))
        refine wp_region_bel (by kernel_rfl) (by kernel_rfl) (fun _ => ?_)
        repeat (go_big_quiet_step (first
          | (go_at_call 13; go_must (exact bel_same (num_any _ _)))
          | (go_at_call 20; go_must (exact bel_same (all_k (H5.out.below (Bel.h _)) HF.out)))
          | (go_at_call 23; go_must (exact bel_lays (pt_as 3 3 P _ (by decide) rfl HP.out)))))
        refine wpQuiet_nil ?_
        intro wn hwn
        have hbn := bel_out hwn
        go_wp2
        go_ret
        exact ⟨rfl, next H5.out.out hbn⟩

theorem own : ownKnob Try.prog.godebug = none := by kernel_rfl

set_option maxRecDepth 100000 in
theorem lifted (os : Os) (started : os.Started) (H : Type) (enc : TypeId × Value → H) :
    ReturnsInHanded {} Try.checked os 7 .any (Rows.compSharesSpec.pre6 enc Try.prog Try.f7 Rows.compSharesRow.domain false) (Rows.compSharesSpec.post enc Try.prog Try.f7 false true false false) := by
  refine returnsInHanded_of_change (C := Try.checked) own started (by kernel_rfl) Try.func7
    (ChangeSpec.witness6 (enc := enc) (C := Try.checked) false ⟨#[], #[.string ByteArray.empty, .string ByteArray.empty, .string ByteArray.empty], []⟩ 8 (by kernel_rfl) (by kernel_rfl) (by kernel_rfl) (by kernel_rfl)) ?_
  intro W base args ds gs before hval0 hW _ _
  have hval : ∀ (j : Nat) t v, Try.f7.params[j]? = some t → args[j]? = some v → Value.okWide Try.prog W .any base t v := hval0
  have hW' := hW
  obtain ⟨p, q, hA0, hV, rfl, hfz, hnd⟩ := hW
  have hA : DataW.TrodAll enc Try.prog W 0 (fun _ => true) true Try.f7.params.toList args.toList ds p := hA0
  rw [Try.params7] at hA hval
  obtain ⟨v0, vs0, d0, ds0, p0, q0, hargs, rfl, rfl, h0, r0⟩ := trodAll_cons hA
  obtain ⟨v1, vs1, d1, ds1, p1, q1, rfl, rfl, rfl, h1, r1⟩ := trodAll_cons r0
  obtain ⟨v2, vs2, d2, ds2, p2, q2, rfl, rfl, rfl, h2, r2⟩ := trodAll_cons r1
  obtain ⟨rfl, rfl, rfl⟩ := trodAll_nil r2
  obtain rfl : args = #[v0, v1, v2] := by cases args; simp_all
  obtain ⟨rfl, rfl⟩ := trodVars_none hV
  obtain ⟨a0, rfl, rfl, rfl, w0⟩ := open_string Try.underlying9 (hval 0 9 v0 rfl rfl) h0
  obtain ⟨a1, rfl, rfl, rfl, w1⟩ := open_string Try.underlying9 (hval 1 9 v1 rfl rfl) h1
  obtain ⟨a2, rfl, rfl, rfl, w2⟩ := open_string Try.underlying9 (hval 2 9 v2 rfl rfl) h2
  clear hA0 hval0
  simp only [List.append_nil] at hW'
  refine (walk a0 a1 a2 w0 w1 w2 W ).mono fun e W' ⟨he, bel⟩ => ?_
  subst he
  exact ⟨_, rfl, _, _, _, [], [], [], hW', trodAll_mk1 (shut_bool Try.underlying4 _), (trodAll_cons_mk (shut_string Try.underlying9 w0) (trodAll_cons_mk (shut_string Try.underlying9 w1) (trodAll_cons_mk (shut_string Try.underlying9 w2) trodAll_mk0))), rfl, bel.frame _, fun h => by cases h⟩

/-- The statement. -/
theorem proved : Rows.CompSharesSaid :=
  OpenClaim.holds_of_wide 7 Try.f7 rfl rfl rfl rfl rfl rfl rfl ⟨rfl, rfl, rfl, rfl, rfl⟩ rfl rfl rfl rfl rfl (by kernel_rfl) Try.func7 (by kernel_rfl)
    (of_decide_eq_true (by kernel_rfl)) (by unfold Func.isWrapper; first | (rw [if_pos (by decide +kernel)]; kernel_rfl) | (rw [if_neg (by decide +kernel)]; exact ⟨rfl, rfl⟩))
    (fun os started H enc _ => lifted os started H enc)
#print axioms proved

end Go.Proofs.Ytpfbmemejajbjaa.compShares
