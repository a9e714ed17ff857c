/- CompWrites holds: for every two rows of strings, the Writer of package comp answers and holds what the document's does. -/
import Derived.Test.YtpfbmemejajbjaaCpQ
namespace Go.Proofs.Ytpfbmemejajbjaa.compWrites
open Go.ChangeShapes Go.WideShapes Go.ChangeAt Go.RowKit
open Go.ChangeMaps (open_string shut_string)
open Pl

/-- At h lies a Writer of the document's that was made since w0. -/
def RHolds (w0 w : World) (h : Nat) (B : List UInt8) (ms : Marks) : Prop := ∃ v, RW w h ⟨B.toArray⟩ v ms ∧ ∀ k, own2 h v k → w0.heap.size ≤ k
section
variable {w0 w w' : World} {g h : Nat} {B B' : List UInt8} {ms ms' : Marks}
theorem RHolds.beside (a : RHolds w0 w h B ms) (hb : Beside w w') : RHolds w0 w' h B ms := by
  obtain ⟨v, a1, a2⟩ := a; exact ⟨v, a1.beside hb, a2⟩
theorem RHolds.below (a : RHolds w0 w h B ms) (hb : Below w.heap.size w w') : RHolds w0 w' h B ms := a.beside (Beside.of_below hb)
theorem rholds_left {v : Value} (c : Holds w0 w g B' ms') (a1 : RW w h ⟨B.toArray⟩ v ms) (a2 : ∀ k, own2 h v k → w0.heap.size ≤ k) {B2 : List UInt8} {ms2 : Marks} (hl : RLeft h v w w' B2 ms2) : Holds w0 w' g B' ms' ∧ RHolds w0 w' h B2 ms2 := by
  obtain ⟨O, v2, r1, r2, r3, r4⟩ := hl
  obtain ⟨u, m, c1, c2, c3, c4⟩ := c
  refine ⟨⟨u, m, c1.turn r3 (fun k hk hs => ?_), c2, c3, Turn.below c4 r3 c4.size a2⟩, v2, ?_, fun k hk => ?_⟩
  · obtain ⟨x, t, f, e1, e2, e3⟩ := a1.tag hs
    exact c1.apart e1 e2 e3 hk
  · rw [← r2]; exact r1
  · rcases r4 k hk with e | e
    · exact a2 k e
    · exact Nat.le_trans c4.size e
theorem rraw_h (s : ByteArray) (hs : s.size ≤ maxLen) (hf : Fine B ms) (c : Holds w0 w g B' ms') (a : RHolds w0 w h B ms) :
    Calls Try.prog 17 #[.pointer (some ⟨h, 0, none⟩), .string s] w fun e w' => e = .returned (.int .i64 (rawE B s)) ∧ Holds w0 w' g B' ms' ∧ RHolds w0 w' h (rawB B s) ms := by
  obtain ⟨v, a1, a2⟩ := a
  exact (rRaw_any h _ v B ms s w (by simp) hf.1 hs a1).mono fun e w' ⟨he, hl⟩ => ⟨he, rholds_left c a1 a2 hl⟩
theorem rname_h (s : ByteArray) (hs : s.size ≤ maxLen) (hf : Fine B ms) (c : Holds w0 w g B' ms') (a : RHolds w0 w h B ms) :
    Calls Try.prog 19 #[.pointer (some ⟨h, 0, none⟩), .string s] w fun e w' => e = .returned (.int .i64 (namE B ms s.data.toList)) ∧ Holds w0 w' g B' ms' ∧ RHolds w0 w' h (namB B ms s.data.toList) (namM B ms s.data.toList) := by
  obtain ⟨v, a1, a2⟩ := a
  exact (rwName_any h _ v B ms s w (by simp) hf hs a1).mono fun e w' ⟨he, hl⟩ => ⟨he, rholds_left c a1 a2 hl⟩
theorem rall_k {Z : ByteArray} (a : RHolds w0 w h B ms) (hZ : Z.data.toList = B) : Calls Try.prog 21 #[.pointer (some ⟨h, 0, none⟩)] w fun e w' => e = .returned (.string Z) ∧ w' = w := by
  obtain ⟨v, a1, _⟩ := a
  have := rAll_any h _ v ms w a1
  rw [mk_of hZ] at this
  exact this
end
/-- Both Writers, alike. -/
def Two (w0 w : World) (g h : Nat) (B : List UInt8) (ms : Marks) : Prop := Holds w0 w g B ms ∧ RHolds w0 w h B ms

set_option maxRecDepth 20000 in
set_option maxHeartbeats 4000000 in
theorem walk0 (x0 x1 : Option Addr) (N cap0 M N1 cap1 : Nat) (ns rs : List ByteArray) (w : World) (hN : N ≤ maxLen) (hN1 : N1 ≤ maxLen) (hM : M = min N 60)
    (hc : ∀ i, i < N → ∃ ad, x0 = some ad ∧ w.cell? (ad.add i) = some (.string (ns.getD i ⟨#[]⟩))) (hsz : ∀ i, i < N → (ns.getD i ⟨#[]⟩).size ≤ maxLen)
    (hc1 : ∀ i, i < N1 → ∃ ad, x1 = some ad ∧ w.cell? (ad.add i) = some (.string (rs.getD i ⟨#[]⟩))) (hsz1 : ∀ i, i < N1 → (rs.getD i ⟨#[]⟩).size ≤ maxLen) :
    Calls Try.prog 4 #[.slice x0 N cap0, .slice x1 N1 cap1] w fun e w' => e = .returned (.bool true) ∧ Below w.heap.size w w' := by
  have hN1 := hN1
  unfold maxLen at hN hN1
  have hb : Below w.heap.size w w := Below.refl _ _
  have HC : Hid (∀ i, i < M → ∃ ad, x0 = some ad ∧ ∀ u, Below w.heap.size w u → u.cell? (ad.add i) = some (.string (ns.getD i ⟨#[]⟩))) := fun i hi => by
    obtain ⟨ad, h0, h1⟩ := hc i (by omega)
    refine ⟨ad, h0, fun u hu => ?_⟩
    rw [hu.cell (World.block_lt_of_cell? _ _ h1), h1]
  have HC1 : Hid (∀ i, i < N1 → ∃ ad, x1 = some ad ∧ ∀ u, Below w.heap.size w u → u.cell? (ad.add i) = some (.string (rs.getD i ⟨#[]⟩))) := fun i hi => by
    obtain ⟨ad, h0, h1⟩ := hc1 i hi
    refine ⟨ad, h0, fun u hu => ?_⟩
    rw [hu.cell (World.block_lt_of_cell? _ _ h1), h1]
  have HSZ : Hid (∀ i, i < M → (ns.getD i ⟨#[]⟩).size ≤ maxLen) := fun i hi => hsz i (by omega)
  have HSZ1 : Hid (∀ i, i < N1 → (rs.getD i ⟨#[]⟩).size ≤ maxLen) := hsz1
  have hMN : M ≤ N := by omega
  have hM60 : M ≤ 60 := by omega
  have HE : Hid (∀ j, j ≤ M → ¬ j < M → decide (j < N) = false ∨ (j < N ∧ decide ((j : Int) < 60) = false)) := fun j h1 h2 => by
    by_cases h3 : j < N
    · exact .inr ⟨h3, by simp; omega⟩
    · exact .inl (by simp; omega)
  clear hc hM hsz hc1 hsz1
  go_enter Try.func4, Try.ntmps4
  go_wp2_with (go_at_call 15; go_must (refine (new_h w _ hb).mono ?_); rintro e w1 ⟨g, rfl, h1, _⟩; have H1 : Hid (Holds w w1 g [] []) := h1; clear h1 hb)
  have H2 : Hid (Two w (w1.alloc (Obj.cells #[.string ⟨#[]⟩, .slice none 0 0] 40)) g w1.heap.size [] []) := ⟨H1.out.alloc _, _, RW.new w1, fun k hk => by
    have := H1.out.out.size
    rcases hk with rfl | hk
    · exact this
    · simp [Value.ownBlock] at hk⟩
  obtain ⟨h, hh⟩ : ∃ h, w1.heap.size = h := ⟨_, rfl⟩
  rw [hh] at H2 ⊢
  clear H1
  go_loopw [7] (fun i wr => ∃ (j : Nat) (B : List UInt8) (ms : Marks), j ≤ M ∧ i = .int .i64 (j : Int) ∧ Hid (Two w wr g h B ms)) (fun i _ => M - (intOf i).toNat)
  case atStart => exact ⟨0, [], [], Nat.zero_le _, rfl, H2⟩
  case round =>
    clear H2 hh
    obtain ⟨j, B, ms, hj, rfl, HT⟩ := hrel
    by_cases hjM : j < M
    · obtain ⟨ad, rfl, hcu⟩ := HC.out j hjM
      have HCU : Hid (∀ u, Below w.heap.size w u → u.cell? (ad.add j) = some (.string (ns.getD j ⟨#[]⟩))) := hcu
      have hjN : j < N := by omega
      have hj60 : (j : Int) < 60 := by omega
      have hxs := HSZ.out j hjM
      obtain ⟨x, hx⟩ : ∃ x, ns.getD j ⟨#[]⟩ = x := ⟨_, rfl⟩
      rw [hx] at hxs HCU
      have HXS : Hid (x.size ≤ maxLen) := hxs
      clear hx hxs hcu
      by_cases hj1 : j < N1
      · obtain ⟨ae, rfl, hcv⟩ := HC1.out j hj1
        have HCV : Hid (∀ u, Below w.heap.size w u → u.cell? (ae.add j) = some (.string (rs.getD j ⟨#[]⟩))) := hcv
        have hys := HSZ1.out j hj1
        obtain ⟨y, hy⟩ : ∃ y, rs.getD j ⟨#[]⟩ = y := ⟨_, rfl⟩
        rw [hy] at hys HCV
        have HYS : Hid (y.size ≤ maxLen) := hys
        have HF : Hid (Fine B ms) := HT.out.1.fine
        have c1 := HCV.out wr HT.out.1.out
        clear hy hys hcv
        go_wp2_with (go_at_call 16; go_must (refine (raw_h y HYS.out HT.out.1).mono ?_); rintro e w2 ⟨rfl, h2, be2⟩; have H2 : Hid (Holds w w2 g (rawB B y) ms) := h2; have R2 : Hid (RHolds w w2 h B ms) := HT.out.2.beside be2; have c2 := HCV.out w2 h2.out; clear h2 be2)
        go_region_held3 (fun u => u.cell? (ae.add j) = some (.string y)) (first | (simp only [World.cell?_drew, c2]; done) | (simp only [c3]; done))
          (first
            | (go_at_call 13; refine (num_any _ _).mono ?_; rintro e w' ⟨rfl, hw'⟩; obtain rfl := hw'.symm)
            | (go_at_call 17; refine (rraw_h y HYS.out HF.out (H2.out.below (Below.refl _ _).drew) (R2.out.below (Below.refl _ _).drew)).mono ?_; rintro e w3 ⟨rfl, h3, r3⟩; have H3 : Hid (Two w w3 g h (rawB B y) ms) := ⟨h3, r3⟩; have c3 := HCV.out w3 h3.out; clear h3 r3))
        clear HT HF H2 R2 c1 c2 c3
        have HF1 : Hid (Fine (rawB B y) ms) := H3.out.1.fine
        have d1 := HCU.out w3 H3.out.1.out
        go_wp2_with (go_at_call 18; go_must (refine (name_h x HXS.out H3.out.1).mono ?_); rintro e w5 ⟨rfl, h5, be5⟩; have H5 : Hid (Holds w w5 g (namB (rawB B y) ms x.data.toList) (namM (rawB B y) ms x.data.toList)) := h5; have R5 : Hid (RHolds w w5 h (rawB B y) ms) := H3.out.2.beside be5; have d5 := HCU.out w5 h5.out; clear h5 be5)
        obtain ⟨Z, hZ⟩ : ∃ Z : ByteArray, Z.data.toList = namB (rawB B y) ms x.data.toList := ⟨⟨(namB (rawB B y) ms x.data.toList).toArray⟩, rfl⟩
        have HZ : Hid (Z.data.toList = namB (rawB B y) ms x.data.toList) := hZ
        clear hZ
        go_region_held3 (fun u => u.cell? (ad.add j) = some (.string x)) (first | (simp only [World.cell?_drew, d5]; done) | (simp only [d6]; done))
          (first
            | (go_at_call 13; refine (num_any _ _).mono ?_; rintro e w' ⟨rfl, hw'⟩; obtain rfl := hw'.symm)
            | (go_at_call 19; refine (rname_h x HXS.out HF1.out (H5.out.below (Below.refl _ _).drew) (R5.out.below (Below.refl _ _).drew)).mono ?_; rintro e w6 ⟨rfl, h6, r6⟩; have H6 : Hid (Two w w6 g h (namB (rawB B y) ms x.data.toList) (namM (rawB B y) ms x.data.toList)) := ⟨h6, r6⟩; have d6 := HCU.out w6 h6.out; clear h6 r6)
            | (go_at_call 20; refine (all_k H6.out.1 HZ.out).mono ?_; rintro e w' ⟨rfl, hw'⟩; obtain rfl := hw'.symm)
            | (go_at_call 21; refine (rall_k H6.out.2 HZ.out).mono ?_; rintro e w' ⟨rfl, hw'⟩; obtain rfl := hw'.symm))
        go_wp2
        go_roundw
        case rel => exact ⟨j + 1, _, _, by omega, by go_num, H6⟩
        case measure => simp [intOf]; omega
      · have hj1' : decide (j < N1) = false := by simpa using hj1
        clear hj1
        have HF1 : Hid (Fine B ms) := HT.out.1.fine
        have d1 := HCU.out wr HT.out.1.out
        go_wp2_with (go_at_call 18; go_must (refine (name_h x HXS.out HT.out.1).mono ?_); rintro e w5 ⟨rfl, h5, be5⟩; have H5 : Hid (Holds w w5 g (namB B ms x.data.toList) (namM B ms x.data.toList)) := h5; have R5 : Hid (RHolds w w5 h B ms) := HT.out.2.beside be5; have d5 := HCU.out w5 h5.out; clear h5 be5)
        obtain ⟨Z, hZ⟩ : ∃ Z : ByteArray, Z.data.toList = namB B ms x.data.toList := ⟨⟨(namB B ms x.data.toList).toArray⟩, rfl⟩
        have HZ : Hid (Z.data.toList = namB B ms x.data.toList) := hZ
        clear hZ
        go_region_held3 (fun u => u.cell? (ad.add j) = some (.string x)) (first | (simp only [World.cell?_drew, d5]; done) | (simp only [d6]; done))
          (first
            | (go_at_call 13; refine (num_any _ _).mono ?_; rintro e w' ⟨rfl, hw'⟩; obtain rfl := hw'.symm)
            | (go_at_call 19; refine (rname_h x HXS.out HF1.out (H5.out.below (Below.refl _ _).drew) (R5.out.below (Below.refl _ _).drew)).mono ?_; rintro e w6 ⟨rfl, h6, r6⟩; have H6 : Hid (Two w w6 g h (namB B ms x.data.toList) (namM B ms x.data.toList)) := ⟨h6, r6⟩; have d6 := HCU.out w6 h6.out; clear h6 r6)
            | (go_at_call 20; refine (all_k H6.out.1 HZ.out).mono ?_; rintro e w' ⟨rfl, hw'⟩; obtain rfl := hw'.symm)
            | (go_at_call 21; refine (rall_k H6.out.2 HZ.out).mono ?_; rintro e w' ⟨rfl, hw'⟩; obtain rfl := hw'.symm))
        go_wp2
        go_roundw
        case rel => exact ⟨j + 1, _, _, by omega, by go_num, H6⟩
        case measure => simp [intOf]; omega
    · have he := HE.out j hj hjM
      have hb := HT.out.1.out
      clear hjM hj
      rcases he with he | ⟨he, he2⟩
      all_goals
        go_wp2_with (go_at_call 14; go_must (refine (awake_any _).mono ?_); rintro e w0 ⟨rfl, b0⟩; replace hb := next hb b0; clear b0)
        go_ret
        exact ⟨rfl, hb⟩

theorem walk (v : Value) (ps : List ByteArray) (u : Value) (qs : List ByteArray) (w : World) (h : SRow w v ps) (k : SRow w u qs) : Calls Try.prog 4 #[v, u] w fun e w' => e = .returned (.bool true) ∧ Below w.heap.size w w' := by
  obtain ⟨h1, hm, hz⟩ := h
  obtain ⟨k1, km, kz⟩ := k
  rcases h1 with ⟨rfl, rfl⟩ | ⟨a, cap, rfl, hc⟩ <;> rcases k1 with ⟨rfl, rfl⟩ | ⟨b, kap, rfl, kc⟩
  · exact walk0 none none 0 0 0 0 0 [] [] w (Nat.zero_le _) (Nat.zero_le _) (by decide) (fun i hi => by omega) (fun i hi => by omega) (fun i hi => by omega) (fun i hi => by omega)
  · exact walk0 none (some b) 0 0 0 qs.length kap [] qs w (Nat.zero_le _) km (by simp) (fun i hi => by omega) (fun i hi => by omega) (fun i hi => ⟨b, rfl, kc i hi⟩) kz
  · exact walk0 (some a) none ps.length cap _ 0 0 ps [] w hm (Nat.zero_le _) rfl (fun i hi => ⟨a, rfl, hc i hi⟩) hz (fun i hi => by omega) (fun i hi => by omega)
  · exact walk0 (some a) (some b) ps.length cap _ qs.length kap ps qs w hm km rfl (fun i hi => ⟨a, rfl, hc i hi⟩) hz (fun i hi => ⟨b, rfl, kc i hi⟩) kz

theorem own : ownKnob Try.prog.godebug = none := by kernel_rfl
theorem laidOut : laidOutB Try.prog = true := by kernel_rfl
theorem cells9 : Try.prog.cellsOf 9 = 1 := by kernel_rfl

set_option maxRecDepth 100000 in
theorem lifted (os : Os) (started : os.Started) (H : Type) (enc : TypeId × Value → H) :
    ReturnsInHanded {} Try.checked os 4 .any (Rows.compWritesSpec.pre6 enc Try.prog Try.f4 Rows.compWritesRow.domain false) (Rows.compWritesSpec.post enc Try.prog Try.f4 false true false false) := by
  refine returnsInHanded_of_change (C := Try.checked) own started (by kernel_rfl) Try.func4
    (ChangeSpec.witness6 (enc := enc) (C := Try.checked) false ⟨#[], #[.slice none 0 0, .slice none 0 0], []⟩ 8 (by kernel_rfl) (by kernel_rfl) (by kernel_rfl) (by kernel_rfl)) ?_
  intro W base args ds gs before hval0 hW _ _
  have hval : ∀ (j : Nat) t v, Try.f4.params[j]? = some t → args[j]? = some v → Value.okWide Try.prog W .any base t v := hval0
  have hW' := hW
  obtain ⟨p, q, hA0, hV, rfl, hfz, hnd⟩ := hW
  have hA : DataW.TrodAll enc Try.prog W 0 (fun _ => true) true Try.f4.params.toList args.toList ds p := hA0
  rw [Try.params4] at hA hval
  obtain ⟨v0, vs0, d0, ds0, p0, q0, hargs, rfl, rfl, h0, r0⟩ := trodAll_cons hA
  obtain ⟨v1, vs1, d1, ds1, p1, q1, rfl, rfl, rfl, h1, r1⟩ := trodAll_cons r0
  obtain ⟨rfl, rfl, rfl⟩ := trodAll_nil r1
  obtain rfl : args = #[v0, v1] := by cases args; simp_all
  obtain ⟨rfl, rfl⟩ := trodVars_none hV
  obtain ⟨a0, h0k, d0k, w0⟩ := open_srow (hval 0 34 v0 rfl rfl) h0
  obtain ⟨a1, h1k, d1k, w1⟩ := open_srow (hval 1 34 v1 rfl rfl) h1
  have hlt0 : ∀ x ∈ p0, x.block < W.heap.size := fun x hx => by
    have := hW'.lt x (by simp [hx])
    simpa using this
  have hlt1 : ∀ x ∈ p1, x.block < W.heap.size := fun x hx => by
    have := hW'.lt x (by simp [hx])
    simpa using this
  clear hA0 hval0
  simp only [List.append_nil] at hW'
  refine (walk v0 a0 v1 a1  W w0 w1).mono fun e W' ⟨he, bel⟩ => ?_
  subst he
  exact ⟨_, rfl, _, _, _, [], _, [], hW', trodAll_mk1 (shut_bool Try.underlying4 _), (trodAll_cons_mk (Below.trod laidOut (by kernel_rfl) (of_decide_eq_true (by kernel_rfl)) h0k bel hlt0) (trodAll_cons_mk (Below.trod laidOut (by kernel_rfl) (of_decide_eq_true (by kernel_rfl)) h1k bel hlt1) trodAll_mk0)), rfl, bel.frame _, fun h => by cases h⟩

/-- The statement. -/
theorem proved : Rows.CompWritesSaid :=
  OpenClaim.holds_of_wide 4 Try.f4 rfl rfl rfl rfl rfl rfl rfl ⟨rfl, rfl, rfl, rfl, rfl⟩ rfl rfl rfl rfl rfl (by kernel_rfl) Try.func4 (by kernel_rfl)
    (of_decide_eq_true (by kernel_rfl)) (by unfold Func.isWrapper; first | (rw [if_pos (by decide +kernel)]; kernel_rfl) | (rw [if_neg (by decide +kernel)]; exact ⟨rfl, rfl⟩))
    (fun os started H enc _ => lifted os started H enc)
#print axioms proved


end Go.Proofs.Ytpfbmemejajbjaa.compWrites
