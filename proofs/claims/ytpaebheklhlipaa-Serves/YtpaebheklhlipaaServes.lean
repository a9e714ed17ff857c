/- Serves holds: for every hosts and bindings, Addrs and Wanting answer as the document says, in memory of their own, and leave what is handed in as it was. -/
import Derived.Test.YtpaebheklhlipaaSvH
import Derived.ProofKit
import Derived.OpenShut
import Derived.ShutString
namespace Go.Proofs.Ytpaebheklhlipaa.serves
open Go.ChangeShapes Go.WideShapes Go.ChangeAt Go.RowKit
open Go.ChangeMaps (open_string shut_string)
open Pl

set_option maxRecDepth 20000 in
set_option maxHeartbeats 4000000 in
theorem walk (v0 : Value) (hosts : List ByteArray) (v1 : Value) (bs : List Sv.Bn) (w : World) (hh : Sv.TxIn w v0 hosts) (hi : Sv.BnIn w v1 bs) :
    Calls Try.prog 3 #[v0, v1] w fun e w' => e = .returned (.bool true) ∧ Below w.heap.size w w' := by
  have hlt := Sv.lendT_own v0 hosts w hh.row hh.len
  have HH : Hid (Sv.TxIn w v0 hosts) := hh
  have HI : Hid (Sv.BnIn w v1 bs) := hi
  obtain ⟨IA, hIA⟩ : ∃ IA, IA = Sv.adF (Sv.asL bs) := ⟨_, rfl⟩
  have hIl : IA.length ≤ maxLen := by
    rw [hIA]
    have h1 := Sv.adF_len (Sv.asL bs)
    rw [Sv.asL_len] at h1
    have := hi.len
    unfold maxLen
    omega
  obtain ⟨WA, hWA⟩ : ∃ WA, WA = Sv.wantL hosts bs := ⟨_, rfl⟩
  have hWl : WA.length ≤ 8796093022000 := by rw [hWA]; exact Nat.le_trans (Sv.want_len _ _) hh.len
  have hWm : WA.length ≤ maxLen := by unfold maxLen; omega
  have HWs : Hid (∀ d ∈ WA, d.size ≤ 140737488351232) := fun d hd => by
    rw [hWA] at hd
    exact hh.size d (List.mem_filter.1 hd).1
  have hA := fun v u h => Sv.addrs_any v bs u h
  have hW := fun v x u h k => Sv.wanting_any v x hosts bs u h k
  have rA := fun v u h => Sv.refAddrs_any v bs u h
  have rW := fun v x u h k => Sv.refWanting_any v x hosts bs u h k
  simp only [← hIA] at hA rA
  simp only [← hWA] at hW rW
  clear hIA hWA hh hi
  go_enter Try.func3, Try.ntmps3
  go_wp2_with (first
    | (go_at_call 6; go_must (refine hlt.mono ?_); rintro e w1 ⟨gx, cx, rfl, hcx, lx, ox, b1⟩; have hlb := Sv.lendBg_any v1 bs w1 (HI.out.below b1).row HI.out.len; have HX1 : Hid (hosts.length + 2 ≤ cx ∧ Lies w1 gx (tC hosts ++ tC mkT)) := ⟨hcx, lx⟩; clear hlt hcx lx ox)
    | (go_at_call 7; go_must (refine hlb.mono ?_); rintro e w2 ⟨gy, cy, rfl, hcy, ly, oy, b2⟩; have HX2 : Hid (hosts.length + 2 ≤ cx ∧ Lies w2 gx (tC hosts ++ tC mkT)) := ⟨HX1.out.1, HX1.out.2.below b2⟩; have HY2 : Hid (bs.length + 2 ≤ cy ∧ Lies w2 gy (Sv.bC bs ++ Sv.bC Sv.mkBg)) := ⟨hcy, ly⟩; have HB2 : Hid (Below w.heap.size w w2) := next b1 b2; have hyi : Sv.BnIn w2 (.slice (some ⟨gy, 0, none⟩) bs.length cy) bs := ⟨Row.of_own oy, HI.out.len, HI.out.ok⟩; have hxi : Sv.TxIn w2 (.slice (some ⟨gx, 0, none⟩) hosts.length cx) hosts := ⟨(HX2.out.2).row, HH.out.len, HH.out.size⟩; clear hlb hcy ly oy b1 b2)
    | (go_at_call 8; go_must (refine (hA _ _ hyi).mono ?_); rintro e w3 ⟨v3, rfl, o3, b3⟩; obtain ⟨y3, q3, rfl⟩ := row_slice (Row.of_own o3); have HO3 : Hid (w3.ownsRow w2.heap.size 3 1 (.slice y3 IA.length q3) IA.length (iC IA) ∧ Below w2.heap.size w2 w3) := ⟨o3, b3⟩; replace hxi := hxi.below b3; replace hyi := hyi.below b3; clear o3 b3)
    | (go_at_call 9; go_must (refine (hW _ _ _ hxi hyi).mono ?_); rintro e w4 ⟨v4, rfl, o4, b4⟩; obtain ⟨y4, q4, rfl⟩ := row_slice (Row.of_own o4); have HO4 : Hid (w4.ownsRow w3.heap.size 9 1 (.slice y4 WA.length q4) WA.length (tC WA) ∧ Below w3.heap.size w3 w4) := ⟨o4, b4⟩; have ra1 := rA v1 w4 (HI.out.below (next (next HB2.out HO3.out.2) b4)); clear o4 b4 hxi hyi)
    | (go_at_call 11; go_must (refine ra1.mono ?_); rintro e w5 ⟨v5, rfl, o5, b5⟩; have HB5 : Hid (Below w4.heap.size w4 w5) := b5; have hs5 := Sv.sameI_any (.slice y3 IA.length q3) v5 IA IA w5 (Row.of_own (own_past (own_past HO3.out.1 HO4.out.2) b5)) (Row.of_own o5) hIl hIl true (by simp); clear o5 b5 ra1)
    | (go_at_call 10; go_must (refine hs5.mono ?_); rintro e w6 ⟨rfl, b6⟩; have HB6 : Hid (Below w4.heap.size w4 w6) := next HB5.out b6; have rw1 := rW v0 v1 w6 (HH.out.below (next (next (next HB2.out HO3.out.2) HO4.out.2) HB6.out)) (HI.out.below (next (next (next HB2.out HO3.out.2) HO4.out.2) HB6.out)); clear b6 hs5)
    | (go_at_call 13; go_must (refine rw1.mono ?_); rintro e w7 ⟨v7, rfl, o7, b7⟩; have HB7 : Hid (Below w4.heap.size w4 w7) := next HB6.out b7; have hs7 := sameT_any (.slice y4 WA.length q4) v7 WA WA w7 (Row.of_own (own_past HO4.out.1 HB7.out)) (Row.of_own o7) hWm hWm true (by simp); clear o7 b7 rw1)
    | (go_at_call 12; go_must (refine hs7.mono ?_); rintro e w8 ⟨rfl, b8⟩; have HB8 : Hid (Below w4.heap.size w4 w8) := next HB7.out b8; have hsp8 := Sv.spoilI_any (own_past (own_past HO3.out.1 HO4.out.2) HB8.out) (Sv.numsI IA) hIl; clear b8 hs7)
    | (go_at_call 14; go_must (refine hsp8.mono ?_); rintro e w9 ⟨rfl, t9⟩; have HT9 : Hid (Turn (fun k => (Value.slice y3 IA.length q3).ownBlock = some k) w8 w9) := t9; have ho9 := t9.row (own_past HO4.out.1 HB8.out) (fun k hk h3 => by have h1 := (HO4.out.1.lt k hk).1; have h2 := (HO3.out.1.lt k h3).2; omega); have HO9 : Hid (w9.ownsRow w3.heap.size 9 1 (.slice y4 WA.length q4) WA.length (tC WA)) := ho9; have hsp9 := spoilT_far ho9 (textsF_tC HWs.out) hWl; clear t9 ho9 hsp8)
    | (go_at_call 15; go_must (refine hsp9.mono ?_); rintro e w10 ⟨rfl, t10⟩; have hb8 : Below w2.heap.size w2 w8 := next (next HO3.out.2 HO4.out.2) HB8.out; have hb9 : Below w2.heap.size w2 w9 := Turn.below hb8 HT9.out hb8.size (fun k hk => (HO3.out.1.lt k hk).1); have hb10 : Below w2.heap.size w2 w10 := Turn.below hb9 t10 hb9.size (fun k hk => Nat.le_trans HO3.out.2.size (HO9.out.lt k hk).1); have HB10 : Hid (Below w2.heap.size w2 w10) := hb10; have hk10 := keptT_any gx cx v0 hosts w10 (HX2.out.2.below hb10) HX2.out.1 (HH.out.below (next HB2.out hb10)).row HH.out.len; clear t10 hb8 hb9 hb10 hsp9)
    | (go_at_call 16; go_must (refine hk10.mono ?_); rintro e w11 ⟨rfl, b11⟩; have HB11 : Hid (Below w2.heap.size w2 w11) := next HB10.out b11; have hk11 := Sv.keptBg_any gy cy v1 bs w11 (HY2.out.2.below HB11.out) HY2.out.1 (HI.out.below (next HB2.out HB11.out)).row HI.out.len; clear b11 hk10)
    | (go_at_call 17; go_must (refine hk11.mono ?_); rintro e w12 ⟨rfl, b12⟩; have HB12 : Hid (Below w.heap.size w w12) := next HB2.out (next HB11.out b12); clear b12 hk11)
    | (go_at_call 18; go_must (refine (Sv.awake_any _).mono ?_); rintro e w13 ⟨rfl, b13⟩))
  go_ret
  exact ⟨rfl, next HB12.out b13⟩

theorem own : ownKnob Try.prog.godebug = none := by kernel_rfl
theorem laidOut : laidOutB Try.prog = true := by kernel_rfl

set_option maxRecDepth 100000 in
theorem lifted (os : Os) (started : os.Started) (H : Type) (enc : TypeId × Value → H) :
    ReturnsInHanded {} Try.checked os 3 .any (Rows.servesSpec.pre6 enc Try.prog Try.f3 Rows.servesRow.domain false) (Rows.servesSpec.post enc Try.prog Try.f3 false true false false) := by
  refine returnsInHanded_of_change_sized (C := Try.checked) own started (by kernel_rfl) Try.func3
    (ChangeSpec.witness6 (enc := enc) (C := Try.checked) false ⟨#[], #[.slice none 0 0, .slice none 0 0], []⟩ 8 (by kernel_rfl) (by kernel_rfl) (by kernel_rfl) (by kernel_rfl)) ?_
  intro W base args ds gs before hval0 hW _ hsz0 _
  have hval : ∀ (j : Nat) t v, Try.f3.params[j]? = some t → args[j]? = some v → Value.okWide Try.prog W .any base t v := hval0
  have hsz : (DataW.weightsEach Try.prog (Try.f3.params.toList ++ Rows.servesSpec.plain.varTypes Try.prog) (ds ++ gs)).all (· ≤ reachBytes) = true := hsz0
  have hW' := hW
  obtain ⟨p, q, hA0, hV, rfl, hfz, hnd⟩ := hW
  have hA : DataW.TrodAll enc Try.prog W 0 (fun _ => true) true Try.f3.params.toList args.toList ds p := hA0
  rw [Try.params3] at hA hval hsz
  obtain ⟨v0, vs0, d0, ds0, p0, q0, hargs, rfl, rfl, h0, r0⟩ := trodAll_cons hA
  obtain ⟨v1, vs1, d1, ds1, p1, q1, rfl, rfl, rfl, h1, r1⟩ := trodAll_cons r0
  obtain ⟨rfl, rfl, rfl⟩ := trodAll_nil r1
  obtain rfl : args = #[v0, v1] := by cases args; simp_all
  obtain ⟨rfl, rfl⟩ := trodVars_none hV
  obtain ⟨a0, w0⟩ := Sv.open_texts (hval 0 22 v0 rfl rfl) h0 (weights_all hsz (j := 0) rfl rfl)
  obtain ⟨a1, w1⟩ := Sv.open_binds (hval 1 23 v1 rfl rfl) h1 (weights_all hsz (j := 1) rfl rfl)
  have hlt0 : ∀ x ∈ p0, x.block < W.heap.size := fun x hx => by
    have := hW'.lt x (by simp [hx])
    simpa using this
  have hlt1 : ∀ x ∈ p1, x.block < W.heap.size := fun x hx => by
    have := hW'.lt x (by simp [hx])
    simpa using this
  clear hA0 hval0 hsz0 hsz
  simp only [List.append_nil] at hW'
  refine (walk v0 a0 v1 a1   W w0 w1).mono fun e W' ⟨he, bel⟩ => ?_
  subst he
  exact ⟨_, rfl, _, _, _, [], _, [], hW', trodAll_mk1 (shut_bool Try.underlying4 _), (trodAll_cons_mk (Below.trod laidOut (by kernel_rfl) (of_decide_eq_true (by kernel_rfl)) h0 bel hlt0) (trodAll_cons_mk (Below.trod laidOut (by kernel_rfl) (of_decide_eq_true (by kernel_rfl)) h1 bel hlt1) trodAll_mk0)), rfl, bel.frame _, fun h => by cases h⟩

/-- The statement. -/
theorem proved : Rows.ServesSaid :=
  OpenClaim.holds_of_wide 3 Try.f3 rfl rfl rfl rfl rfl rfl rfl ⟨rfl, rfl, rfl, rfl, rfl⟩ rfl rfl rfl rfl rfl (by kernel_rfl) Try.func3 (by kernel_rfl)
    (of_decide_eq_true (by kernel_rfl)) (by unfold Func.isWrapper; first | (rw [if_pos (by decide +kernel)]; kernel_rfl) | (rw [if_neg (by decide +kernel)]; exact ⟨rfl, rfl⟩))
    (fun os started H enc _ => lifted os started H enc)
#print axioms proved


end Go.Proofs.Ytpaebheklhlipaa.serves
