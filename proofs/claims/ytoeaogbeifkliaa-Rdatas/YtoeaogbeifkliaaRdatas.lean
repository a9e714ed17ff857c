/- Rdatas holds: for every type, data, number, host, SOA and parts, rdata's functions answer as the document's. -/
import Derived.Test.YtoeaogbeifkliaaRdO
namespace Go.Proofs.Ytoeaogbeifkliaa.rdatas
open Go.ChangeShapes Go.WideShapes Go.ChangeAt Go.RowKit
open Go.ChangeMaps (open_string shut_string)
open Pl

theorem opt_form (o : Option ByteArray) : ∃ (S : ByteArray) (E : Int), optT o = .tuple #[.string S, .int .i64 E] := by
  cases o with
  | none => exact ⟨_, _, rfl⟩
  | some b => exact ⟨_, _, rfl⟩
theorem addr_form (s : ByteArray) : ∃ A E : Int, addrT s = .tuple #[.int .i64 A, .int .i64 E] := by
  unfold addrT
  split
  · exact ⟨_, _, rfl⟩
  · exact ⟨_, _, rfl⟩
theorem unsoa_form (s : ByteArray) : ∃ (h m : ByteArray) (a b c d e E : Int), unsoaT s = .tuple #[.agg (soaV h m a b c d e), .int .i64 E] := by
  cases h : soaL s.data.toList with
  | none => exact ⟨_, _, _, _, _, _, _, _, unsoaT_none h⟩
  | some ab => exact ⟨_, _, _, _, _, _, _, _, unsoaT_some h⟩
theorem str_bytes : Try.prog.bytesOf 9 = 16 := by kernel_rfl

set_option maxRecDepth 20000 in
set_option maxHeartbeats 4000000 in
theorem walk_x (t : Int) (data : ByteArray) (x : Int) (host h m : ByteArray) (a b c d f : Int) (v : Value) (ps : List ByteArray) (w : World) (hd : data.size ≤ maxLen) (hh : host.size ≤ maxLen) (s1 : h.size ≤ maxLen) (s2 : m.size ≤ maxLen) (hn : ps.length * 16 ≤ 140737488351232) (hr : SRow w v ps) :
    Calls Try.prog 3 #[.int .i64 t, .string data, .int .i64 x, .string host, .agg (soaV h m a b c d f), v] w fun e w' => e = .returned (.bool true) ∧ Below w.heap.size w w' := by
  have cA := a_any x
  have rA := refA_any x
  obtain ⟨SA, EA, eA⟩ := opt_form (aD x)
  rw [eA] at cA rA
  have cB := fun u => addr_any data u hd
  have rB := fun u => refAddr_any data u hd
  obtain ⟨SB, EB, eB⟩ := addr_form data
  rw [eB] at cB rB
  have cC := fun u => mx_any x host u hh
  have rC := fun u => refMx_any x host u hh
  obtain ⟨SC, EC, eC⟩ := opt_form (mxD x host)
  rw [eC] at cC rC
  have cD := fun u => host_any t data u hd
  have rD := fun u => refHost_any t data u hd
  obtain ⟨SD, ED, eD⟩ := opt_form (hostD t data)
  rw [eD] at cD rD
  obtain ⟨B, hB⟩ : ∃ B, mayD t data.data.toList = B := ⟨_, rfl⟩
  have cE : ∀ u, Calls Try.prog 17 #[.int .i64 t, .string data] u fun e w' => e = .returned (.bool B) ∧ Below u.heap.size u w' := fun u => (may4_as t data B u hd hB).mono fun _ _ ⟨q1, q2⟩ => ⟨q1, below_drew q2⟩
  have rE := fun u => dataMay_as t data B u hd hB
  have cF := fun u => soa_any h m a b c d f u s1 s2
  have rF := fun u => refSoa_any h m a b c d f u s1 s2
  obtain ⟨SF, EF, eF⟩ := opt_form (soaD h m a b c d f)
  rw [eF] at cF rF
  have cG := fun u => unsoa_any data u hd
  have rG := fun u => refUnsoa_any data u hd
  obtain ⟨H, M, n0, n1, n2, n3, n4, EG, eG⟩ := unsoa_form data
  rw [eG] at cG rG
  have cH := fun u v' h' => txt_any v' ps u h'
  have rH := fun u v' h' => refTxt_any v' ps u h'
  obtain ⟨SH, EH, eH⟩ := opt_form (txtB ps)
  rw [eH] at cH rH
  have hm := hr.2
  simp only [soaV] at cF rF cG rG
  unfold soaV
  clear eA eB eC eD eF eG eH hB
  have hb : Below w.heap.size w w := Below.refl _ _
  go_enter Try.func3, Try.ntmps3
  go_wp2_with (first
    | (go_at_call 8; go_must (refine (cA _).mono ?_); rintro e wn ⟨rfl, b1⟩; have kb : Blk wn w.heap.size #[.string h, .string m, .int .i64 a, .int .i64 b, .int .i64 c, .int .i64 d, .int .i64 f] 23 := (Blk.new w _ _).below b1; replace hb := next (lay hb _) b1; clear b1)
    | (go_at_call 9; go_must (refine (rA _).mono ?_); rintro e wn ⟨rfl, b1⟩; replace kb := (by exact kb.below b1 : Blk wn w.heap.size #[.string h, .string m, .int .i64 a, .int .i64 b, .int .i64 c, .int .i64 d, .int .i64 f] 23); replace hb := (by exact next hb b1 : Below w.heap.size w wn); (try clear g0 g1 g2 g3 g4 g5 g6); obtain ⟨g0, g1, g2, g3, g4, g5, g6⟩ := Blk.seven (h := h) (m := m) (a := a) (b := b) (c := c) (d := d) (e := f) kb; clear b1)
    | (go_at_call 10; go_must (refine (cB _).mono ?_); rintro e wn ⟨rfl, b1⟩; replace kb := (by exact kb.below b1 : Blk wn w.heap.size #[.string h, .string m, .int .i64 a, .int .i64 b, .int .i64 c, .int .i64 d, .int .i64 f] 23); replace hb := (by exact next hb b1 : Below w.heap.size w wn); (try clear g0 g1 g2 g3 g4 g5 g6); obtain ⟨g0, g1, g2, g3, g4, g5, g6⟩ := Blk.seven (h := h) (m := m) (a := a) (b := b) (c := c) (d := d) (e := f) kb; clear b1)
    | (go_at_call 11; go_must (refine (rB _).mono ?_); rintro e wn ⟨rfl, b1⟩; replace kb := (by exact kb.below b1 : Blk wn w.heap.size #[.string h, .string m, .int .i64 a, .int .i64 b, .int .i64 c, .int .i64 d, .int .i64 f] 23); replace hb := (by exact next hb b1 : Below w.heap.size w wn); (try clear g0 g1 g2 g3 g4 g5 g6); obtain ⟨g0, g1, g2, g3, g4, g5, g6⟩ := Blk.seven (h := h) (m := m) (a := a) (b := b) (c := c) (d := d) (e := f) kb; clear b1)
    | (go_at_call 12; go_must (refine (cC _).mono ?_); rintro e wn ⟨rfl, b1⟩; replace kb := (by exact kb.below b1 : Blk wn w.heap.size #[.string h, .string m, .int .i64 a, .int .i64 b, .int .i64 c, .int .i64 d, .int .i64 f] 23); replace hb := (by exact next hb b1 : Below w.heap.size w wn); (try clear g0 g1 g2 g3 g4 g5 g6); obtain ⟨g0, g1, g2, g3, g4, g5, g6⟩ := Blk.seven (h := h) (m := m) (a := a) (b := b) (c := c) (d := d) (e := f) kb; clear b1)
    | (go_at_call 13; go_must (refine (rC _).mono ?_); rintro e wn ⟨rfl, b1⟩; replace kb := (by exact kb.below b1 : Blk wn w.heap.size #[.string h, .string m, .int .i64 a, .int .i64 b, .int .i64 c, .int .i64 d, .int .i64 f] 23); replace hb := (by exact next hb b1 : Below w.heap.size w wn); (try clear g0 g1 g2 g3 g4 g5 g6); obtain ⟨g0, g1, g2, g3, g4, g5, g6⟩ := Blk.seven (h := h) (m := m) (a := a) (b := b) (c := c) (d := d) (e := f) kb; clear b1)
    | (go_at_call 14; go_must (refine (cD _).mono ?_); rintro e wn ⟨rfl, b1⟩; replace kb := (by exact kb.below b1 : Blk wn w.heap.size #[.string h, .string m, .int .i64 a, .int .i64 b, .int .i64 c, .int .i64 d, .int .i64 f] 23); replace hb := (by exact next hb b1 : Below w.heap.size w wn); (try clear g0 g1 g2 g3 g4 g5 g6); obtain ⟨g0, g1, g2, g3, g4, g5, g6⟩ := Blk.seven (h := h) (m := m) (a := a) (b := b) (c := c) (d := d) (e := f) kb; clear b1)
    | (go_at_call 15; go_must (refine (rD _).mono ?_); rintro e wn ⟨rfl, b1⟩; replace kb := (by exact kb.below b1 : Blk wn w.heap.size #[.string h, .string m, .int .i64 a, .int .i64 b, .int .i64 c, .int .i64 d, .int .i64 f] 23); replace hb := (by exact next hb b1 : Below w.heap.size w wn); (try clear g0 g1 g2 g3 g4 g5 g6); obtain ⟨g0, g1, g2, g3, g4, g5, g6⟩ := Blk.seven (h := h) (m := m) (a := a) (b := b) (c := c) (d := d) (e := f) kb; clear b1)
    | (go_at_call 17; go_must (refine (cE _).mono ?_); rintro e wn ⟨rfl, b1⟩; replace kb := (by exact kb.below b1 : Blk wn w.heap.size #[.string h, .string m, .int .i64 a, .int .i64 b, .int .i64 c, .int .i64 d, .int .i64 f] 23); replace hb := (by exact next hb b1 : Below w.heap.size w wn); (try clear g0 g1 g2 g3 g4 g5 g6); obtain ⟨g0, g1, g2, g3, g4, g5, g6⟩ := Blk.seven (h := h) (m := m) (a := a) (b := b) (c := c) (d := d) (e := f) kb; clear b1)
    | (go_at_call 18; go_must (refine (rE _).mono ?_); rintro e wn ⟨rfl, b1⟩; replace kb := (by exact kb.below b1 : Blk wn w.heap.size #[.string h, .string m, .int .i64 a, .int .i64 b, .int .i64 c, .int .i64 d, .int .i64 f] 23); replace hb := (by exact next hb b1 : Below w.heap.size w wn); (try clear g0 g1 g2 g3 g4 g5 g6); obtain ⟨g0, g1, g2, g3, g4, g5, g6⟩ := Blk.seven (h := h) (m := m) (a := a) (b := b) (c := c) (d := d) (e := f) kb; clear b1)
    | (go_at_call 19; go_must (refine (cF _).mono ?_); rintro e wn ⟨rfl, b1⟩; replace kb := (by exact kb.below b1 : Blk wn w.heap.size #[.string h, .string m, .int .i64 a, .int .i64 b, .int .i64 c, .int .i64 d, .int .i64 f] 23); replace hb := (by exact next hb b1 : Below w.heap.size w wn); (try clear g0 g1 g2 g3 g4 g5 g6); obtain ⟨g0, g1, g2, g3, g4, g5, g6⟩ := Blk.seven (h := h) (m := m) (a := a) (b := b) (c := c) (d := d) (e := f) kb; clear b1)
    | (go_at_call 20; go_must (refine (rF _).mono ?_); rintro e wn ⟨rfl, b1⟩; replace kb := (by exact kb.below b1 : Blk wn w.heap.size #[.string h, .string m, .int .i64 a, .int .i64 b, .int .i64 c, .int .i64 d, .int .i64 f] 23); replace hb := (by exact next hb b1 : Below w.heap.size w wn); (try clear g0 g1 g2 g3 g4 g5 g6); obtain ⟨g0, g1, g2, g3, g4, g5, g6⟩ := Blk.seven (h := h) (m := m) (a := a) (b := b) (c := c) (d := d) (e := f) kb; clear b1)
    | (go_at_call 21; go_must (refine (cG _).mono ?_); rintro e wu ⟨rfl, b1⟩; replace hb := next hb b1; clear b1 kb; (try clear g0 g1 g2 g3 g4 g5 g6))
    | (go_at_call 22; go_must (refine (rG _).mono ?_); rintro e wv ⟨rfl, b1⟩; have ku : Blk wv wu.heap.size (soaV H M n0 n1 n2 n3 n4) 23 := (Blk.new wu _ _).below b1; replace hb := next (lay hb _) b1; clear b1)
    | (go_at_call 23; go_must (refine (lend_any v ps _ (hr.below (lay hb _)) hn).mono ?_); rintro e wl ⟨g, cap, rfl, hcap, hl, b1⟩; replace ku := (ku.alloc _).below b1; have kv : Blk wl wv.heap.size (soaV H M n0 n1 n2 n3 n4) 23 := (Blk.new wv _ _).below b1; replace hb := next (lay hb _) b1; clear b1)
    | (go_at_call 24; go_must (refine (cH _ _ (lent_row hl hm.1 hm.2)).mono ?_); rintro e wt ⟨rfl, b1⟩; replace ku := ku.below b1; replace kv := kv.below b1; replace hl := hl.below b1; replace hb := next hb b1; clear b1)
    | (go_at_call 25; go_must (refine (rH _ _ (hr.below hb)).mono ?_); rintro e wr ⟨rfl, b1⟩; replace ku := ku.below b1; replace kv := kv.below b1; replace hl := hl.below b1; replace hb := next hb b1; clear b1; obtain ⟨g0, g1, g2, g3, g4, g5, g6⟩ := Blk.seven ku; obtain ⟨k0, k1, k2, k3, k4, k5, k6⟩ := Blk.seven kv)
    | (go_at_call 26; go_must (refine (kept_any g cap v ps _ hl hcap (hr.below hb) hn).mono ?_); rintro e wk ⟨rfl, b1⟩; replace hb := next hb (below_drew b1); clear b1)
    | (go_at_call 27; go_must (refine (awake_any _).mono ?_); rintro e wx ⟨rfl, b1⟩; replace hb := next hb b1; clear b1)
    | (go_at_call 16; refine (num_any _ _).mono ?_; rintro e w' ⟨rfl, hw⟩; obtain rfl := hw.symm))
  go_ret
  exact ⟨rfl, hb⟩

theorem walk (t : Int) (data : ByteArray) (x : Int) (host h m : ByteArray) (a b c d f : Int) (v : Value) (ps : List ByteArray) (_ : (Lit.int .i64 t).wf = true) (hd : data.size ≤ maxLen) (_ : (Lit.int .i64 x).wf = true) (hh : host.size ≤ maxLen) (s1 : h.size ≤ maxLen) (s2 : m.size ≤ maxLen) (_ : data.size ≤ 140737488351232) (_ : host.size ≤ 140737488351232) (hn : ps.length * 16 ≤ 140737488351232) (w : World) (hr : SRow w v ps) :
    Calls Try.prog 3 #[.int .i64 t, .string data, .int .i64 x, .string host, .agg (soaV h m a b c d f), v] w fun e w' => e = .returned (.bool true) ∧ Below w.heap.size w w' :=
  walk_x t data x host h m a b c d f v ps w hd hh s1 s2 hn hr

theorem own : ownKnob Try.prog.godebug = none := by kernel_rfl
theorem laidOut : laidOutB Try.prog = true := by kernel_rfl
theorem cells9 : Try.prog.cellsOf 9 = 1 := by kernel_rfl

set_option maxRecDepth 100000 in
theorem lifted (os : Os) (started : os.Started) (H : Type) (enc : TypeId × Value → H) :
    ReturnsInHanded {} Try.checked os 3 .any (Rows.rdatasSpec.pre6 enc Try.prog Try.f3 Rows.rdatasRow.domain false) (Rows.rdatasSpec.post enc Try.prog Try.f3 false true false false) := by
  refine returnsInHanded_of_change_sized (C := Try.checked) own started (by kernel_rfl) Try.func3
    (ChangeSpec.witness6 (enc := enc) (C := Try.checked) false ⟨#[], #[.int .i64 0, .string ByteArray.empty, .int .i64 0, .string ByteArray.empty, .agg soaZ, .slice none 0 0], []⟩ 8 (by kernel_rfl) (by kernel_rfl) (by kernel_rfl) (by kernel_rfl)) ?_
  intro W base args ds gs before hval0 hW _ hsz0 _
  have hval : ∀ (j : Nat) t v, Try.f3.params[j]? = some t → args[j]? = some v → Value.okWide Try.prog W .any base t v := hval0
  have hsz : (DataW.weightsEach Try.prog (Try.f3.params.toList ++ Rows.rdatasSpec.plain.varTypes Try.prog) (ds ++ gs)).all (· ≤ reachBytes) = true := hsz0
  have hW' := hW
  obtain ⟨p, q, hA0, hV, rfl, hfz, hnd⟩ := hW
  have hA : DataW.TrodAll enc Try.prog W 0 (fun _ => true) true Try.f3.params.toList args.toList ds p := hA0
  rw [Try.params3] at hA hval hsz
  obtain ⟨v0, vs0, d0, ds0, p0, q0, hargs, rfl, rfl, h0, r0⟩ := trodAll_cons hA
  obtain ⟨v1, vs1, d1, ds1, p1, q1, rfl, rfl, rfl, h1, r1⟩ := trodAll_cons r0
  obtain ⟨v2, vs2, d2, ds2, p2, q2, rfl, rfl, rfl, h2, r2⟩ := trodAll_cons r1
  obtain ⟨v3, vs3, d3, ds3, p3, q3, rfl, rfl, rfl, h3, r3⟩ := trodAll_cons r2
  obtain ⟨v4, vs4, d4, ds4, p4, q4, rfl, rfl, rfl, h4, r4⟩ := trodAll_cons r3
  obtain ⟨v5, vs5, d5, ds5, p5, q5, rfl, rfl, rfl, h5, r5⟩ := trodAll_cons r4
  obtain ⟨rfl, rfl, rfl⟩ := trodAll_nil r5
  obtain rfl : args = #[v0, v1, v2, v3, v4, v5] := by cases args; simp_all
  obtain ⟨rfl, rfl⟩ := trodVars_none hV
  obtain ⟨a0, rfl, rfl, rfl, w0⟩ := open_int Try.underlying3 (hval 0 3 v0 rfl rfl) h0
  obtain ⟨a1, rfl, rfl, rfl, w1⟩ := open_string Try.underlying9 (hval 1 9 v1 rfl rfl) h1
  obtain ⟨a2, rfl, rfl, rfl, w2⟩ := open_int Try.underlying3 (hval 2 3 v2 rfl rfl) h2
  obtain ⟨a3, rfl, rfl, rfl, w3⟩ := open_string Try.underlying9 (hval 3 9 v3 rfl rfl) h3
  obtain ⟨a4h, a4m, a4a, a4b, a4c, a4d, a4e, rfl, rfl, w4h, w4m⟩ := open_soa (hval 4 23 v4 rfl rfl) h4
  obtain ⟨a5, h5k, d5k, w5⟩ := open_srow (hval 5 24 v5 rfl rfl) h5
  have hlt5 : ∀ x ∈ p5, x.block < W.heap.size := fun x hx => by
    have := hW'.lt x (by simp [hx])
    simpa using this
  have z1 : a1.size ≤ 140737488351232 := by have := sized_string hsz (j := 1) (t := 9) rfl rfl; rw [data_len] at this; unfold reachBytes at this; omega
  have z3 : a3.size ≤ 140737488351232 := by have := sized_string hsz (j := 3) (t := 9) rfl rfl; rw [data_len] at this; unfold reachBytes at this; omega
  have z5 : a5.length * 16 ≤ 140737488351232 := by
    rcases d5k with rfl | ⟨el, sp, hde, hel⟩
    · simp
    · subst hde; have := sized_slice hsz (j := 5) (t := 24) (e := 9) rfl rfl Try.underlying24; rw [str_bytes] at this; unfold reachBytes at this; omega
  clear hA0 hval0 hsz0 hsz
  simp only [List.append_nil] at hW'
  refine (walk a0 a1 a2 a3 a4h a4m a4a a4b a4c a4d a4e v5 a5 w0 w1 w2 w3 w4h w4m z1 z3 z5 W w5).mono fun e W' ⟨he, bel⟩ => ?_
  subst he
  exact ⟨_, rfl, _, _, _, [], _, [], hW', trodAll_mk1 (shut_bool Try.underlying4 _), (trodAll_cons_mk (shut_int Try.underlying3 w0) (trodAll_cons_mk (shut_string Try.underlying9 w1) (trodAll_cons_mk (shut_int Try.underlying3 w2) (trodAll_cons_mk (shut_string Try.underlying9 w3) (trodAll_cons_mk (Below.trod laidOut (by kernel_rfl) (of_decide_eq_true (by kernel_rfl)) h4 bel (by simp)) (trodAll_cons_mk (Below.trod laidOut (by kernel_rfl) (of_decide_eq_true (by kernel_rfl)) h5k bel hlt5) trodAll_mk0)))))), rfl, bel.frame _, fun h => by cases h⟩

/-- The statement. -/
theorem proved : Rows.RdatasSaid :=
  OpenClaim.holds_of_wide 3 Try.f3 rfl rfl rfl rfl rfl rfl rfl ⟨rfl, rfl, rfl, rfl, rfl⟩ rfl rfl rfl rfl rfl (by kernel_rfl) Try.func3 (by kernel_rfl)
    (of_decide_eq_true (by kernel_rfl)) (by unfold Func.isWrapper; first | (rw [if_pos (by decide +kernel)]; kernel_rfl) | (rw [if_neg (by decide +kernel)]; exact ⟨rfl, rfl⟩))
    (fun os started H enc _ => lifted os started H enc)
#print axioms proved

end Go.Proofs.Ytoeaogbeifkliaa.rdatas
