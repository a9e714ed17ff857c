/- StoreRows: all that is held stands in the row of names, then types, each key once. -/
import Derived.Test.YtcmhjlflgedcdabXStY
import Derived.Test.YtcmhjlflgedcdabXInB
import Derived.Deep.RegionHeld3
namespace Go.Proofs.Ytcmhjlflgedcdab.storeRows
open Go.ChangeShapes Go.WideShapes Go.ChangeAt Go.RowKit
open Pl

/-- Steps as cells. -/
def stV (k : ByteArray × Int) : List Value := [.string k.1, .int .i64 k.2]
def stC (ks : List (ByteArray × Int)) : List Value := ks.flatMap stV
theorem stC_len (ks : List (ByteArray × Int)) : (stC ks).length = ks.length * 2 := flat_len (f := stV) (z := 2) (fun _ => rfl) ks
theorem stC_at {ks : List (ByteArray × Int)} {k : Nat} (hk : k < ks.length) (i : Nat) (hi : i < 2) : (stC ks)[k * 2 + i]? = (stV ks[k])[i]? := flat_get (f := stV) (z := 2) (fun _ => rfl) ks k hk i hi
theorem infoSt : (Try.prog.info? 33).map (fun i => (i.zero, i.size, i.bytes)) = some (some (.agg #[.string ⟨#[]⟩, .int .i64 0]), 2, 24) := by kernel_rfl
theorem step_eq (a b : ByteArray) (s t : Int) (v : Bool) (h : (decide (a = b) && decide (s = t)) = v) (u : World) : (binOp .eql 33 (.agg #[.string a, .int .i64 s]) (.agg #[.string b, .int .i64 t])).run Try.prog u = .ok (.bool v) u := by
  have h1 := run_eql_struct (P := Try.prog) (w := u) 33 #[.string a, .int .i64 s] #[.string b, .int .i64 t]
  rw [h1]
  rw [show (10000 : Nat) = 9999 + 1 from rfl, run_equalIn_struct (P := Try.prog) u 9999 33 #[.string a, .int .i64 s] #[.string b, .int .i64 t] (by kernel_rfl) (by kernel_rfl)]
  go_simp
  subst h
  by_cases h2 : a = b
  · subst h2
    by_cases h3 : s = t
    · simp [h3]
    · simp [h3]
  · have h4 : ¬ a.toList = b.toList := fun e => h2 (bytes_ext (by rw [ByteArray.toList_eq, ByteArray.toList_eq] at e; exact e))
    simp [h2, h4]

/-- What the law holds: the store, and the keys that it keeps itself. -/
structure RV (w0 w : World) (gs : Nat) (mb : Option Nat) (L : List (En × Value)) (F : List En) (v : Value) (ks : List (ByteArray × Int)) : Prop where
  lw : LW w0 w gs 256 mb L F
  own : w.ownsRow w0.heap.size 33 2 v ks.length (stC ks)
  ap : ∀ b, v.ownBlock = some b → ¬ foot gs mb L b
theorem RV.below {w0 w w' : World} {gs : Nat} {mb : Option Nat} {L : List (En × Value)} {F : List En} {v : Value} {ks : List (ByteArray × Int)} (h : RV w0 w gs mb L F v ks) (hb : Below w.heap.size w w') : RV w0 w' gs mb L F v ks := ⟨h.lw.below hb, own_past h.own hb, h.ap⟩
theorem RV.put {w0 w w' : World} {gs : Nat} {mb mb' : Option Nat} {L L' : List (En × Value)} {F F' : List En} {v : Value} {ks : List (ByteArray × Int)} (h : RV w0 w gs mb L F v ks) (h' : LW w0 w' gs 256 mb' L' F') (T : Turn (foot gs mb L) w w') (ft : ∀ k, foot gs mb' L' k → foot gs mb L k ∨ w.heap.size ≤ k) : RV w0 w' gs mb' L' F' v ks :=
  ⟨h', T.row h.own h.ap, fun b hb e => by
    rcases ft b e with e | e
    · exact h.ap b hb e
    · have := (h.own.lt b hb).2; omega⟩
theorem RV.app {w0 w w' : World} {gs : Nat} {mb : Option Nat} {L : List (En × Value)} {F : List En} {v v' : Value} {ks : List (ByteArray × Int)} {k : ByteArray × Int} (h : RV w0 w gs mb L F v ks) (h1 : w'.ownsRow w0.heap.size 33 2 v' (ks.length + 1) (stC ks ++ stV k)) (h2 : w.grownBy w' v.ownBlock) (h3 : ∀ k, v'.ownBlock = some k → v.ownBlock = some k ∨ w.heap.size ≤ k) : RV w0 w' gs mb L F v' (ks ++ [k]) := by
  have T : Turn (fun k => v.ownBlock = some k) w w' := Turn.of_grown h2 (fun k e => e)
  refine ⟨⟨h.lw.st.turn T (fun k hk e => h.ap k e hk), h.lw.fs, h.lw.pos, Turn.below h.lw.bel T h.lw.bel.size (fun i hi => (h.own.lt i hi).1), h.lw.new⟩, ?_, fun b hb e => ?_⟩
  · rw [List.length_append]
    have : stC (ks ++ [k]) = stC ks ++ stV k := by unfold stC; rw [List.flatMap_append]; simp
    rw [this]; exact h1
  · rcases h3 b hb with e' | e'
    · exact h.ap b e' e
    · have := h.lw.st.lt b e; omega
/-- The same, and the key of this round. -/
structure RK (w0 w : World) (gs : Nat) (mb : Option Nat) (L : List (En × Value)) (F : List En) (v : Value) (ks : List (ByteArray × Int)) (gk : Nat) (f : ByteArray) (t : Int) : Prop where
  rv : RV w0 w gs mb L F v ks
  blk : Blk w gk #[.string f, .int .i64 t] 33
  ap : ¬ foot gs mb L gk
theorem RK.below {w0 w w' : World} {gs : Nat} {mb : Option Nat} {L : List (En × Value)} {F : List En} {v : Value} {ks : List (ByteArray × Int)} {gk : Nat} {f : ByteArray} {t : Int} (h : RK w0 w gs mb L F v ks gk f t) (hb : Below w.heap.size w w') : RK w0 w' gs mb L F v ks gk f t := ⟨h.rv.below hb, h.blk.below hb, h.ap⟩

theorem three (q : Int) : ∃ X : Nat, X < 4 ∧ bits .and .i64 q 3 = (X : Int) := by
  refine ⟨(q % 4).toNat, by omega, ?_⟩
  have := mask q 2 (by decide)
  simp only [Nat.reducePow, Nat.reduceSub] at this
  have e : bits .and .i64 q 3 = q % 4 := this
  rw [e]; omega
def rwE (n : ByteArray) (t : Int) (j : Nat) : En := ⟨n, t, 5, [⟨#[120]⟩], 2, 100 + (j : Int)⟩

set_option maxRecDepth 20000 in
set_option maxHeartbeats 4000000 in
theorem walk (v : Value) (ps : List ByteArray) (v' : Value) (qs : List Int) (w : World) (hr : SRow w v ps) (hq : Row w v' qs.length (iC qs) ∧ qs.length ≤ maxLen) :
    Calls Try.prog 3 #[v, v'] w fun e w' => e = .returned (.bool true) ∧ Below w.heap.size w w' := by
  obtain ⟨i0, hi, hz0, hz1, hz2⟩ := info_parts infoSt
  obtain ⟨hrow, hmx, hsz⟩ := hr
  obtain ⟨hrow', hmx'⟩ := hq
  obtain ⟨n, hn⟩ : ∃ n, n = ps.length := ⟨_, rfl⟩
  obtain ⟨m, hm⟩ : ∃ m, m = qs.length := ⟨_, rfl⟩
  obtain ⟨x, c, hv⟩ := row_slice hrow
  obtain ⟨x', c', hv'⟩ := row_slice hrow'
  rw [← hn] at hv
  rw [← hm] at hv'
  subst hv hv'
  have HN : Hid (n = ps.length) := hn
  have HM : Hid (m = qs.length) := hm
  have HR : Hid (Row w (.slice x n c) ps.length (tC ps)) := hrow
  have HQ : Hid (Row w (.slice x' m c') qs.length (iC qs)) := hrow'
  have HS : Hid (∀ d ∈ ps, d.size ≤ maxLen) := hsz
  have hnm : n ≤ maxLen := by rw [hn]; exact hmx
  have hmm : m ≤ maxLen := by rw [hm]; exact hmx'
  unfold maxLen at hnm hmm
  clear hrow hrow' hn hm hmx hmx' hsz
  go_enter Try.func3, Try.ntmps3
  go_wp2_with (first
    | (go_at_call 4; go_must (refine (awake_any _).mono ?_); rintro e w0 ⟨rfl, b0⟩)
    | (go_at_call 5; go_must (refine (lw_new b0 256 (by decide) (by decide)).mono ?_); rintro e w1 ⟨gs, rfl, lw1⟩; have RV0 : Hid (RV w w1 gs none [] [] (.slice none 0 0) []) := ⟨lw1, World.ownsRow_nil _ _ _ _, fun b hb => by simp [Value.ownBlock] at hb⟩; clear b0 lw1))
  go_loopw [7, 8] (fun kv iv wr => ∃ (j N c1 : Nat) (y : Option Addr) (ks : List (ByteArray × Int)) (mb : Option Nat) (L : List (En × Value)) (F : List En), kv = .slice y N c1 ∧ iv = .int .i64 (j : Int) ∧ j ≤ n ∧ j ≤ 60 ∧ N ≤ j ∧ Hid (RwP F ks ∧ N = ks.length) ∧ Hid (RV w wr gs mb L F (.slice y N c1) ks)) (fun _ i _ => 60 - (intOf i).toNat)
  case atStart => exact ⟨0, 0, 0, none, [], none, [], [], rfl, rfl, Nat.zero_le _, Nat.zero_le _, Nat.le_refl _, ⟨rwP_nil, rfl⟩, RV0⟩
  case round =>
    clear RV0
    obtain ⟨j, N, c1, y, ks, mb, L, F, rfl, rfl, hjn, hj6, hNj, HP, HH⟩ := hrel
    by_cases hlt : j < n ∧ j < m ∧ j < 60
    · obtain ⟨hj, hjm, h6⟩ := hlt
      have hj' : (j : Int) < (n : Int) := by omega
      have hjm' : (j : Int) < (m : Int) := by omega
      have h6' : (j : Int) < 60 := by omega
      have hjp : j < ps.length := by have := HN.out; omega
      have hjq : j < qs.length := by have := HM.out; omega
      obtain ⟨gp, op, cp, hx, hc⟩ := row_at HR.out (by omega)
      simp only [Value.slice.injEq] at hx
      obtain ⟨rfl, -, rfl⟩ := hx
      obtain ⟨gq, oq, cq, hx', hc'⟩ := row_at HQ.out (by omega)
      simp only [Value.slice.injEq] at hx'
      obtain ⟨rfl, -, rfl⟩ := hx'
      have e0 := hc j _ (tC_at hjp)
      have e1 := hc' j _ (iC_at hjq)
      obtain ⟨p, hp⟩ : ∃ p, p = ps[j] := ⟨_, rfl⟩
      obtain ⟨q, hq⟩ : ∃ q, q = qs[j] := ⟨_, rfl⟩
      rw [← hp] at e0
      rw [← hq] at e1
      have HPS : Hid (p.size ≤ maxLen) := by unfold Hid; rw [hp]; exact HS.out _ (List.getElem_mem _)
      have HE0 : Hid (∀ u, Below w.heap.size w u → u.cell? ⟨gp, op + j, none⟩ = some (.string p)) := fun u hu => by rw [hu.cell (World.block_lt_of_cell? _ _ e0)]; exact e0
      have HE1 : Hid (∀ u, Below w.heap.size w u → u.cell? ⟨gq, oq + j, none⟩ = some (.int .i64 q)) := fun u hu => by rw [hu.cell (World.block_lt_of_cell? _ _ e1)]; exact e1
      clear hc hc' hp hq e0 e1 hjp hjq
      have e0 := HE0.out wr HH.out.lw.bel
      cases hnm1 : isName p.data.toList with
      | false =>
        have hmay : ∀ u : World, Calls Try.prog 6 #[.string p] u fun e w' => e = .returned (.bool false) ∧ Below u.heap.size u w' := fun u => by have := refMay_any p u HPS.out; rw [hnm1] at this; exact this
        go_wp2_with (go_at_call 6; go_must (refine (hmay _).mono ?_); rintro e w2 ⟨rfl, b2⟩; have H2 : Hid (RV w w2 gs mb L F (.slice y N c1) ks) := HH.out.below b2; clear b2 e0)
        go_roundw
        case rel => exact ⟨j + 1, N, c1, y, ks, mb, L, F, rfl, by go_num, by omega, by omega, by omega, HP, H2⟩
        case measure => simp [intOf]; omega
      | true =>
        have hmay : ∀ u : World, Calls Try.prog 6 #[.string p] u fun e w' => e = .returned (.bool true) ∧ Below u.heap.size u w' := fun u => by have := refMay_any p u HPS.out; rw [hnm1] at this; exact this
        obtain ⟨X, hX, hXb⟩ := three q
        have hXw : IntKind.i64.wrap (1 + (X : Int)) = 1 + (X : Int) := by unfold IntKind.wrap; simp [IntKind.bits, IntKind.signed]; omega
        obtain ⟨f, hf⟩ : ∃ f, f = fdB p := ⟨_, rfl⟩
        have HFD : Hid (∀ u : World, Calls Try.prog 7 #[.string p] u fun e w' => e = .returned (.string f) ∧ Below u.heap.size u w') := fun u => refFold_as p f u HPS.out (by rw [hf, fdB_list])
        have HMAY : Hid (mayE (rwE p (1 + (X : Int)) j) 5 = true) := may_yes hnm1 (by show 1 ≤ 1 + (X : Int); omega) (by show 1 + (X : Int) ≤ 65535; omega) (by unfold rwE; simp) (by show (1 : Int) ≤ 2; decide) (by show (2 : Int) ≤ 3; decide) (by show 5 < 100 + (j : Int); omega) (by decide) (by decide)
        have HST : Hid (RwP (putP 256 F (rwE p (1 + (X : Int)) j) 5) (if inK ks (f, 1 + (X : Int)) = true then ks else ks ++ [(f, 1 + (X : Int))])) := by
          have h1 := rw_step HP.out.1 (by rw [← HP.out.2]; omega) HMAY.out (by unfold rwE; simp) (by unfold rwE; intro d hd; simp at hd; subst hd; decide) rfl
          unfold Hid
          rw [hf]; exact h1
        obtain ⟨F', hF'⟩ : ∃ F', putP 256 F (rwE p (1 + (X : Int)) j) 5 = F' := ⟨_, rfl⟩
        have HF : Hid (putP 256 F (rwE p (1 + (X : Int)) j) 5 = F') := hF'
        rw [hF'] at HST
        have HE : Hid (errP (rwE p (1 + (X : Int)) j) 5 = 0) := err_yes HMAY.out
        clear hnm1 hf hF'
        go_wp2_with (go_at_call 6; go_must (refine (hmay _).mono ?_); rintro e w2 ⟨rfl, b2⟩; have H2 : Hid (RV w w2 gs mb L F (.slice y N c1) ks) := HH.out.below b2; clear b2 e0 hmay)
        have e0 := HE0.out w2 H2.out.lw.bel
        have e1 := HE1.out w2 H2.out.lw.bel
        go_cut [9] (fun z wx => ∃ gk, z = .pointer (some ⟨gk, 0, none⟩) ∧ Hid (Blk wx gk #[.string f, .int .i64 (1 + (X : Int))] 33 ∧ Below w2.heap.size w2 wx ∧ w2.heap.size ≤ gk))
        case first =>
          have HB2 : Hid (Below w.heap.size w w2) := H2.out.lw.bel
          clear HH HP H2 HST HF HE HMAY
          have kk : Hid (Blk (w2.alloc (.cells #[.string ⟨#[]⟩, .int .i64 0] 33)) w2.heap.size #[.string ⟨#[]⟩, .int .i64 0] 33) := Blk.new w2 _ _
          have a0 := HE0.out (w2.alloc (.cells #[.string ⟨#[]⟩, .int .i64 0] 33)) (lay HB2.out _)
          have a1 := HE1.out (w2.alloc (.cells #[.string ⟨#[]⟩, .int .i64 0] 33)) (lay HB2.out _)
          go_region_held3 (fun u => u.cell? ⟨gp, op + j, none⟩ = some (.string p) ∧ u.cell? ⟨gq, oq + j, none⟩ = some (.int .i64 q))
            (first | (simp only [World.cell?_drew, e0, e1, and_self]; done) | (simp only [World.cell?_drew, a0, a1, and_self]; done) | (simp only [d0, d1, and_self]; done) | (simp only [h0, h1, and_self]; done) | (simp only [p0, p1, and_self]; done))
            (first | (go_at_call 7; go_must (refine (HFD.out _).mono ?_); rintro e w3 ⟨rfl, b3⟩; first
              | (have B3 : Below w2.heap.size w2 w3 := next (below_drew ⟨1, rfl⟩) b3; have BB : Hid (Below w2.heap.size w2 w3) := B3; have d0 := HE0.out w3 (next HB2.out B3); have d1 := HE1.out w3 (next HB2.out B3); have h0 := (fun o => HE0.out (w3.alloc o) (lay (next HB2.out B3) o)); have h1 := (fun o => HE1.out (w3.alloc o) (lay (next HB2.out B3) o)); clear b3 B3)
              | (have B3 : Below (w2.alloc (.cells #[.string ⟨#[]⟩, .int .i64 0] 33)).heap.size (w2.alloc (.cells #[.string ⟨#[]⟩, .int .i64 0] 33)) w3 := next (below_drew ⟨1, rfl⟩) b3; have KB : Hid (Blk w3 w2.heap.size #[.string ⟨#[]⟩, .int .i64 0] 33) := kk.out.below B3; have BB : Hid (Below w2.heap.size w2 w3) := next (lay (Below.refl _ _) _) B3; have d0 := HE0.out w3 (next HB2.out BB.out); have d1 := HE1.out w3 (next HB2.out BB.out); have y0 : w3.cell? ⟨w2.heap.size, 0, none⟩ = some (.string ⟨#[]⟩) := KB.out.cell 0; have y1 : w3.cell? ⟨w2.heap.size, 1, none⟩ = some (.int .i64 0) := KB.out.cell 1; have f0 := KB.out.frozen 0; have f1 := KB.out.frozen 1; have BP := ((next HB2.out BB.out).setCell (p := ⟨w2.heap.size, 0, none⟩) HB2.out.size (.string f)).setCell (p := ⟨w2.heap.size, 1, none⟩) HB2.out.size (.int .i64 (1 + (X : Int))); have p0 := HE0.out _ BP; have p1 := HE1.out _ BP; clear b3 B3 BP)))
          all_goals (go_wp2_with fail; go_meet)
          all_goals first
            | exact ⟨_, rfl, Blk.new w3 _ _, next BB.out (lay (Below.refl _ _) _), BB.out.size⟩
            | exact ⟨_, rfl, (KB.out.set 0 _).set 1 _, (BB.out.setCell (Nat.le_refl _) _).setCell (Nat.le_refl _) _, Nat.le_refl _⟩
        case rest =>
          obtain ⟨gk, rfl, HC⟩ := hcut
          have H3 : Hid (RK w wc gs mb L F (.slice y N c1) ks gk f (1 + (X : Int))) := ⟨H2.out.below HC.out.2.1, HC.out.1, fun e => by have := H2.out.lw.st.lt gk e; have := HC.out.2.2; omega⟩
          clear HC H2 e0 e1 HFD HH
          have SETP : Hid (∀ (w3 : World) (g3 : Nat), Blk w3 g3 #[.string ⟨#[120]⟩] 9 → Below wc.heap.size wc w3 → Calls Try.prog 8 #[.pointer (some ⟨gs, 0, none⟩), .agg #[.string p, .int .i64 (1 + (X : Int)), .int .i64 5, .slice (some ⟨g3, 0, none⟩) 1 1, .int .i64 2, .int .i64 (100 + (j : Int))], .int .i64 5] w3 fun e w' => e = .returned (.int .i64 0) ∧ ∃ mb' L', RK w w' gs mb' L' F' (.slice y N c1) ks gk f (1 + (X : Int))) := fun w3 g3 k3 b3 => by
            have H4 := H3.out.below b3
            refine (lw_put H4.rv.lw p (1 + (X : Int)) 5 2 (100 + (j : Int)) 5 (.slice (some ⟨g3, 0, none⟩) 1 1) [⟨#[120]⟩] HPS.out (Row.of_blk k3 rfl 1 1) (by decide) (by intro d hd; simp at hd; subst hd; decide) 0 HE.out _ HF.out).mono ?_
            rintro e w4 ⟨rfl, mb4, L4, lw4, T4, ft4⟩
            refine ⟨rfl, mb4, L4, H4.rv.put lw4 T4 ft4, T4.blk H4.blk H4.ap, fun e => ?_⟩
            rcases ft4 gk e with e | e
            · exact H4.ap e
            · have := H4.blk.lt; omega
          have e0 := HE0.out wc H3.out.rv.lw.bel
          have k1 : wc.cell? ⟨gk, 1, none⟩ = some (.int .i64 (1 + (X : Int))) := H3.out.blk.cell 1
          have hUw : IntKind.i64.wrap (100 + (j : Int)) = 100 + (j : Int) := by unfold IntKind.wrap; simp [IntKind.bits, IntKind.signed]; omega
          go_wp2
          go_region_held3 (fun u => u.cell? ⟨gp, op + j, none⟩ = some (.string p) ∧ u.cell? ⟨gk, 1, none⟩ = some (.int .i64 (1 + (X : Int))))
            (first | (simp only [World.cell?_drew, e0, k1, and_self]; done) | (simp only [d0, d1, and_self]; done) | (simp only [h0, h1, and_self]; done))
            (first
              | (go_at_call 9; go_must (refine (set_any _ _ _ _).mono ?_); rintro e w3 ⟨g3, rfl, k3, hg3, b3⟩; have B3 : Below wc.heap.size wc w3 := next (below_drew ⟨1, rfl⟩) b3; have d0 := HE0.out w3 (next H3.out.rv.lw.bel B3); have d1 : w3.cell? ⟨gk, 1, none⟩ = some (.int .i64 (1 + (X : Int))) := (H3.out.blk.below B3).cell 1; have hp := SETP.out w3 g3 k3 B3; clear k3 b3 B3)
              | (go_at_call 8; go_must (refine hp.mono ?_); rintro e w4 ⟨rfl, mb4, L4, H4⟩; have H4' : Hid (RK w w4 gs mb4 L4 F' (.slice y N c1) ks gk f (1 + (X : Int))) := H4; have h0 := HE0.out w4 H4.rv.lw.bel; have h1 : w4.cell? ⟨gk, 1, none⟩ = some (.int .i64 (1 + (X : Int))) := H4.blk.cell 1; clear hp H4))
          clear SETP e0 k1 d0 d1 h0 h1 H3 HE HF hUw
          go_wp2_with (go_at_call 10; refine (num_any _ _).mono ?_; rintro e w' ⟨rfl, hw⟩; obtain rfl := hw.symm)
          obtain ⟨T, hT⟩ : ∃ T, T = 1 + (X : Int) := ⟨_, rfl⟩
          rw [← hT] at H4' HST
          have HNK : Hid (N = ks.length) := HP.out.2
          clear hT hXw hXb HP HMAY
          go_loopw [11, 12] (fun ov pv wq => ∃ (b : Bool) (p : Nat), ov = .bool b ∧ pv = .int .i64 (p : Int) ∧ p ≤ N ∧ Hid (b = inK (ks.take p) (f, T)) ∧ Hid (RK w wq gs mb4 L4 F' (.slice y N c1) ks gk f T)) (fun _ p _ => N - (intOf p).toNat)
          case atStart => exact ⟨false, 0, rfl, rfl, Nat.zero_le _, rfl, H4'⟩
          case round =>
            clear H4'
            obtain ⟨b, i, rfl, rfl, hiN, HB, H4⟩ := hrel
            have hg0 : ∀ nb : Bel wr, nb.to.cell? ⟨gk, 0, none⟩ = some (.string f) := fun nb => (H4.out.blk.below nb.h).cell 0
            have hg1 : ∀ nb : Bel wr, nb.to.cell? ⟨gk, 1, none⟩ = some (.int .i64 T) := fun nb => (H4.out.blk.below nb.h).cell 1
            by_cases hi2 : i < N
            · have hi3 : (i : Int) < (N : Int) := by omega
              have hik : i < ks.length := by have := HNK.out; omega
              obtain ⟨g, cap, hy, _, _⟩ := H4.out.rv.own.form (by omega)
              rw [← HNK.out] at hy
              simp only [Value.slice.injEq, true_and] at hy
              obtain ⟨rfl, rfl⟩ := hy
              have HOW : wr.ownsRow w.heap.size 33 2 (.slice (some ⟨g, 0, none⟩) N c1) N (stC ks) := by have := H4.out.rv.own; rw [← HNK.out] at this; exact this
              obtain ⟨A, hA⟩ : ∃ A, A = ks[i].1 := ⟨_, rfl⟩
              obtain ⟨B, hB⟩ : ∃ B, B = ks[i].2 := ⟨_, rfl⟩
              have ca : ∀ nb : Bel wr, nb.to.cell? ⟨g, i * 2, none⟩ = some (.string A) := fun nb => by
                have h2 := (own_past HOW nb.h).cellAt (i * 2) (by omega)
                have := stC_at hik 0 (by decide)
                rw [Nat.add_zero] at this
                rw [h2, this, hA]; rfl
              have cb : ∀ nb : Bel wr, nb.to.cell? ⟨g, i * 2 + 1, none⟩ = some (.int .i64 B) := fun nb => by
                have h2 := (own_past HOW nb.h).cellAt (i * 2 + 1) (by omega)
                rw [h2, stC_at hik 1 (by decide), hB]; rfl
              obtain ⟨r, hr⟩ : ∃ r, (decide (A = f) && decide (B = T)) = r := ⟨_, rfl⟩
              have HS' : Hid ((b || r) = inK (ks.take (i + 1)) (f, T)) := by
                unfold Hid
                rw [inK_step hik, ← HB.out, ← hA, ← hB, hr]
              have heq := fun u => step_eq A f B T r hr u
              clear hA hB hr HOW
              cases b with
              | true =>
                go_wp2
                refine wp_region_bel (by kernel_rfl) (by kernel_rfl) (fun _ => ?_)
                repeat (go_big_quiet_step (fail))
                refine wpQuiet_nil ?_
                intro wn hwn
                have H5 : Hid (RK w wn gs mb4 L4 F' (.slice (some ⟨g, 0, none⟩) N c1) ks gk f T) := H4.out.below (bel_out hwn)
                clear hwn H4 ca cb hg0 hg1
                go_wp2
                go_roundw
                case rel => exact ⟨true, i + 1, rfl, by go_num, by omega, HS'.out, H5⟩
                case measure => simp [intOf]; omega
              | false =>
                go_wp2
                refine wp_region_bel (by kernel_rfl) (by kernel_rfl) (fun _ => ?_)
                repeat (go_big_quiet_step (fail))
                refine wpQuiet_nil ?_
                intro wn hwn
                have H5 : Hid (RK w wn gs mb4 L4 F' (.slice (some ⟨g, 0, none⟩) N c1) ks gk f T) := H4.out.below (bel_out hwn)
                clear hwn H4 ca cb hg0 hg1
                go_wp2
                go_roundw
                case rel => exact ⟨r, i + 1, rfl, by go_num, by omega, HS'.out, H5⟩
                case measure => simp [intOf]; omega
            · obtain rfl : i = N := by omega
              have hi3 : decide (i < i) = false := by simp
              have HBN : Hid (b = inK ks (f, T)) := by
                unfold Hid
                rw [HB.out, List.take_of_length_le (by rw [← HNK.out]; exact Nat.le_refl _)]
              cases b with
              | true =>
                have HP2 : Hid (RwP F' ks) := by have := HST.out; rw [if_pos HBN.out.symm] at this; exact this
                go_wp2
                go_roundw
                case rel => exact ⟨j + 1, i, c1, y, ks, mb4, L4, F', rfl, by go_num, by omega, by omega, by omega, ⟨HP2.out, HNK.out⟩, H4.out.rv⟩
                case measure => simp [intOf]; omega
              | false =>
                have HP2 : Hid (RwP F' (ks ++ [(f, T)])) := by have := HST.out; rw [← HBN.out, if_neg (by decide)] at this; exact this
                have c0 := hg0 ⟨wr, Below.refl _ _⟩
                have c2 := hg1 ⟨wr, Below.refl _ _⟩
                simp only at c0 c2
                have H5 : Hid (RV w (wr.alloc (.cells #[.string f, .int .i64 T] 33)) gs mb4 L4 F' (.slice y i c1) ks) := H4.out.rv.below ((Below.refl _ _).alloc (Nat.le_refl _) _)
                have H5O : Hid ((wr.alloc (.cells #[.string f, .int .i64 T] 33)).ownsRow w.heap.size 33 2 (.slice y i c1) i (stC ks)) := by have := H5.out.own; rw [← HNK.out] at this; exact this
                have H5S := H5.out.lw.bel.size
                have H5R : Row (wr.alloc (.cells #[.string f, .int .i64 T] 33)) (.slice (some ⟨wr.heap.size, 0, none⟩) 1 1) 1 [.string f, .int .i64 T] := Row.of_blk (Blk.new wr _ _) rfl 1 1
                clear hg0 hg1
                go_wp2_with (at_builtin; refine wpList_appG _ rfl (.tmp 88) (.tmp 90) 29 33 i0 _ 2 24 Try.underlying29 hi hz0 hz1 hz2 rfl (by decide) rfl w.heap.size _ i (stC ks) rfl H5O.out _ 1 [.string f, .int .i64 T] rfl H5R rfl (fun v hv => by simp at hv; rcases hv with rfl | rfl <;> rfl) (by omega) (by unfold maxLen; omega) H5S ?_; intro v6 w6 h1 h3 h4; obtain ⟨y6, c6, hv6⟩ := row_shape h1; subst hv6; have H6 : Hid (RV w w6 gs mb4 L4 F' (.slice y6 (i + 1) c6) (ks ++ [(f, T)])) := RV.app H5.out (by rw [← HNK.out]; exact h1) h3 h4; clear h1 h3 h4)
                go_roundw
                case rel => exact ⟨j + 1, i + 1, c6, y6, ks ++ [(f, T)], mb4, L4, F', rfl, by go_num, by omega, by omega, by omega, ⟨HP2.out, by rw [List.length_append, ← HNK.out]; rfl⟩, H6⟩
                case measure => simp [intOf]; omega
    · have he : decide (j < n) = false ∨ (j < n ∧ decide (j < m) = false) ∨ (j < n ∧ j < m ∧ decide ((j : Int) < 60) = false) := by
        by_cases h : j < n
        · by_cases h' : j < m
          · exact .inr (.inr ⟨h, h', by simp; omega⟩)
          · exact .inr (.inl ⟨h, by simp; omega⟩)
        · exact .inl (by simp; omega)
      clear hlt
      have HLF : Hid (F.length = N) := by unfold Hid; rw [HP.out.2]; exact HP.out.1.len
      have hal := HH.out.lw.all N HLF.out
      have HB : Hid (Below w.heap.size w wr) := HH.out.lw.bel
      have HRW : Hid (RwP F ks) := HP.out.1
      clear HH HP
      rcases he with he | ⟨he, he2⟩ | ⟨he, he2, he3⟩
      all_goals
        go_wp2_with (go_at_call 11; go_must (refine hal.mono ?_); rintro e w5 ⟨y5, c5, M5, rfl, es5, hf5, hl5, lw5, b5⟩; have HE5 : Hid (w5.ownsRow w.heap.size 39 6 (.slice y5 N c5) N (eC M5)) := (by have := es5.own; rw [hl5] at this; exact own_base this HB.out.size); have HB5 : Hid (Below w.heap.size w w5) := next HB.out b5; have HF5 : Hid (fstL M5 = allP F) := hf5; have HM5 : Hid (M5.length = N) := hl5; clear es5 hf5 hl5 lw5 b5 hal HB)
        go_loopw [14] (fun qv wq => ∃ q : Nat, qv = .int .i64 (q : Int) ∧ 1 ≤ q ∧ q ≤ N + 1 ∧ Hid (wq.ownsRow w.heap.size 39 6 (.slice y5 N c5) N (eC M5)) ∧ Hid (Below w.heap.size w wq)) (fun q _ => N + 1 - (intOf q).toNat)
        case atStart => exact ⟨1, rfl, Nat.le_refl _, by omega, HE5, HB5⟩
        case round =>
          clear HE5 HB5 he
          try clear he2
          try clear he3
          obtain ⟨q, rfl, hq1, hqN, HE5, HB5⟩ := hrel
          by_cases hq : q < N
          · have hq2 : (q : Int) < (N : Int) := by omega
            obtain ⟨g5, cap5, hy5, _, _⟩ := HE5.out.form (by omega)
            simp only [Value.slice.injEq, true_and] at hy5
            obtain ⟨rfl, rfl⟩ := hy5
            have hqm : q < M5.length := by have := HM5.out; omega
            have hqm1 : q - 1 < M5.length := by omega
            obtain ⟨a, ha⟩ : ∃ a, a = (M5[q - 1]).1 := ⟨_, rfl⟩
            obtain ⟨b, hb⟩ : ∃ b, b = (M5[q]).1 := ⟨_, rfl⟩
            have hfl : ∀ i (h : i < M5.length), (fstL M5)[i]'(by rw [fst_len]; exact h) = (M5[i]).1 := fun i h => by unfold fstL; simp
            have HC : Hid (cmpN a.n.data.toList b.n.data.toList < 0 ∨ cmpN a.n.data.toList b.n.data.toList = 0 ∧ a.t < b.t) := by
              have := rw_next HRW.out HF5.out hq1 (by rw [fst_len]; exact hqm)
              rw [hfl _ hqm1, hfl _ hqm, ← ha, ← hb] at this
              exact this
            have HSA : Hid (a.n.size ≤ maxLen) := by
              have := rw_size HRW.out HF5.out (i := q - 1) (by rw [fst_len]; exact hqm1)
              rw [hfl _ hqm1, ← ha] at this
              unfold Hid maxLen; omega
            have HSB : Hid (b.n.size ≤ maxLen) := by
              have := rw_size HRW.out HF5.out (i := q) (by rw [fst_len]; exact hqm)
              rw [hfl _ hqm, ← hb] at this
              unfold Hid maxLen; omega
            obtain ⟨qa, hqa⟩ : ∃ qa, q = qa + 1 := ⟨q - 1, by omega⟩
            have HCE : Hid (∀ u, Below wr.heap.size wr u → u.cell? ⟨g5, qa * 6, none⟩ = some (.string a.n) ∧ u.cell? ⟨g5, qa * 6 + 1, none⟩ = some (.int .i64 a.t) ∧ u.cell? ⟨g5, (qa + 1) * 6, none⟩ = some (.string b.n) ∧ u.cell? ⟨g5, (qa + 1) * 6 + 1, none⟩ = some (.int .i64 b.t)) := fun u hu => by
              have ho := own_past HE5.out hu
              subst hqa
              have A := fun i (hi : i < 6) => eC_at hqm1 i hi
              have B := fun i (hi : i < 6) => eC_at hqm i hi
              simp only [Nat.add_sub_cancel] at A ha
              refine ⟨?_, ?_, ?_, ?_⟩
              · have := A 0 (by decide)
                rw [Nat.add_zero] at this
                rw [ho.cellAt _ (by omega), this, ha]; rfl
              · rw [ho.cellAt _ (by omega), A 1 (by decide), ha]; rfl
              · have := B 0 (by decide)
                rw [Nat.add_zero] at this
                rw [ho.cellAt _ (by omega), this, hb]; rfl
              · rw [ho.cellAt _ (by omega), B 1 (by decide), hb]; rfl
            clear ha hb hfl hqm1
            subst hqa
            obtain ⟨an, at', al, ads, ar, au⟩ := a
            obtain ⟨bn, bt, bl, bds, br, bu⟩ := b
            simp only at HC HSA HSB HCE
            have HCMP : Hid (∀ u : World, Calls Try.prog 12 #[.string an, .string bn] u fun e w' => e = .returned (.int .i64 (cmpN an.data.toList bn.data.toList)) ∧ Below u.heap.size u w') := fun u => refCompare_any an bn u HSA.out HSB.out
            generalize cmpN an.data.toList bn.data.toList = cc at HC HCMP
            have ca : ∀ nb : Bel wr, nb.to.cell? ⟨g5, qa * 6, none⟩ = some (.string an) := fun nb => (HCE.out _ nb.h).1
            have cb : ∀ nb : Bel wr, nb.to.cell? ⟨g5, (qa + 1) * 6, none⟩ = some (.string bn) := fun nb => (HCE.out _ nb.h).2.2.1
            have S := fun nb : Bel wr => HCMP.out nb.to
            have hqb : ((qa + 1 : Nat) : Int) - 1 = (qa : Int) := by omega
            have hqc : (qa : Int) < (N : Int) := by omega
            go_wp2
            refine wp_region_bel (by kernel_rfl) (by kernel_rfl) (fun _ => ?_)
            repeat (go_big_quiet_step ((go_at_call 12; go_must (exact bel_lays (S _)))))
            refine wpQuiet_nil ?_
            intro wn hwn
            have hbn := bel_out hwn
            have HE6 : Hid (wn.ownsRow w.heap.size 39 6 (.slice (some ⟨g5, 0, none⟩) N c5) N (eC M5)) := own_past HE5.out hbn
            have HB6 : Hid (Below w.heap.size w wn) := next HB5.out hbn
            have HC6 : Hid (∀ u, Below wn.heap.size wn u → u.cell? ⟨g5, qa * 6 + 1, none⟩ = some (.int .i64 at') ∧ u.cell? ⟨g5, (qa + 1) * 6 + 1, none⟩ = some (.int .i64 bt)) := fun u hu => ⟨(HCE.out _ (next hbn hu)).2.1, (HCE.out _ (next hbn hu)).2.2.2⟩
            clear hwn hbn HE5 HB5 HCE ca cb S HCMP HSA HSB
            rcases HC.out with hcc | ⟨hcc, htt⟩
            · have g1 : decide (0 < cc) = false := by simp; omega
              have g2 : (cc == 0) = false := by rw [beq_eq_false_iff_ne]; omega
              go_wp2
              refine wp_region_bel (by kernel_rfl) (by kernel_rfl) (fun _ => ?_)
              repeat (go_big_quiet_step (fail))
              refine wpQuiet_nil ?_
              intro wm hwm
              have hbm := bel_out hwm
              have HE7 : Hid (wm.ownsRow w.heap.size 39 6 (.slice (some ⟨g5, 0, none⟩) N c5) N (eC M5)) := own_past HE6.out hbm
              have HB7 : Hid (Below w.heap.size w wm) := next HB6.out hbm
              clear hwm hbm HC6
              go_wp2
              go_roundw
              case rel => exact ⟨qa + 1 + 1, by go_num, by omega, by omega, HE7, HB7⟩
              case measure => simp [intOf]; omega
            · subst hcc
              have ca : ∀ nb : Bel wn, nb.to.cell? ⟨g5, qa * 6 + 1, none⟩ = some (.int .i64 at') := fun nb => (HC6.out _ nb.h).1
              have cb : ∀ nb : Bel wn, nb.to.cell? ⟨g5, (qa + 1) * 6 + 1, none⟩ = some (.int .i64 bt) := fun nb => (HC6.out _ nb.h).2
              have g3 : decide (bt ≤ at') = false := by simp; omega
              go_wp2
              refine wp_region_bel (by kernel_rfl) (by kernel_rfl) (fun _ => ?_)
              repeat (go_big_quiet_step (fail))
              refine wpQuiet_nil ?_
              intro wm hwm
              have hbm := bel_out hwm
              have HE7 : Hid (wm.ownsRow w.heap.size 39 6 (.slice (some ⟨g5, 0, none⟩) N c5) N (eC M5)) := own_past HE6.out hbm
              have HB7 : Hid (Below w.heap.size w wm) := next HB6.out hbm
              clear hwm hbm HC6 ca cb
              go_wp2
              go_roundw
              case rel => exact ⟨qa + 1 + 1, by go_num, by omega, by omega, HE7, HB7⟩
              case measure => simp [intOf]; omega
          · have hq2 : decide (q < N) = false := by simpa using hq
            have HLK : Hid (N = ks.length) := by unfold Hid; rw [← HLF.out]; exact HRW.out.len
            go_wp2_with (go_at_call 10; refine (num_any _ _).mono ?_; rintro e w' ⟨rfl, hw⟩; obtain rfl := hw.symm)
            go_ret
            exact ⟨ret_bool (by simp), HB5.out⟩

theorem own : ownKnob Try.prog.godebug = none := by kernel_rfl
theorem laidOut : laidOutB Try.prog = true := by kernel_rfl
theorem cells9 : Try.prog.cellsOf 9 = 1 := by kernel_rfl

set_option maxRecDepth 100000 in
theorem lifted (os : Os) (started : os.Started) (H : Type) (enc : TypeId × Value → H) :
    ReturnsInHanded {} Try.checked os 3 .any (Rows.storeRowsSpec.pre6 enc Try.prog Try.f3 Rows.storeRowsRow.domain false) (Rows.storeRowsSpec.post enc Try.prog Try.f3 false true false false) := by
  refine returnsInHanded_of_change (C := Try.checked) own started (by kernel_rfl) Try.func3
    (ChangeSpec.witness6 (enc := enc) (C := Try.checked) false ⟨#[], #[.slice none 0 0, .slice none 0 0], []⟩ 8 (by kernel_rfl) (by kernel_rfl) (by kernel_rfl) (by kernel_rfl)) ?_
  intro W base args ds gs before hval0 hW _ _
  have hval : ∀ (j : Nat) t v, Try.f3.params[j]? = some t → args[j]? = some v → Value.okWide Try.prog W .any base t v := hval0
  have hW' := hW
  obtain ⟨p, q, hA0, hV, rfl, hfz, hnd⟩ := hW
  have hA : DataW.TrodAll enc Try.prog W 0 (fun _ => true) true Try.f3.params.toList args.toList ds p := hA0
  rw [Try.params3] at hA hval
  obtain ⟨v0, vs0, d0, ds0, p0, q0, hargs, rfl, rfl, h0, r0⟩ := trodAll_cons hA
  obtain ⟨v1, vs1, d1, ds1, p1, q1, rfl, rfl, rfl, h1, r1⟩ := trodAll_cons r0
  obtain ⟨rfl, rfl, rfl⟩ := trodAll_nil r1
  obtain rfl : args = #[v0, v1] := by cases args; simp_all
  obtain ⟨rfl, rfl⟩ := trodVars_none hV
  obtain ⟨a0, h0k, d0k, w0⟩ := open_srow (hval 0 22 v0 rfl rfl) h0
  obtain ⟨a1, w1⟩ := open_irow (hval 1 23 v1 rfl rfl) h1
  have hlt0 : ∀ x ∈ p0, x.block < W.heap.size := fun x hx => by
    have := hW'.lt x (by simp [hx])
    simpa using this
  have hlt1 : ∀ x ∈ p1, x.block < W.heap.size := fun x hx => by
    have := hW'.lt x (by simp [hx])
    simpa using this
  clear hA0 hval0
  simp only [List.append_nil] at hW'
  refine (walk v0 a0 v1 a1  W w0 w1).mono fun e W' ⟨he, bel⟩ => ?_
  subst he
  exact ⟨_, rfl, _, _, _, [], _, [], hW', trodAll_mk1 (shut_bool Try.underlying4 _), (trodAll_cons_mk (Below.trod laidOut (by kernel_rfl) (of_decide_eq_true (by kernel_rfl)) h0k bel hlt0) (trodAll_cons_mk (Below.trod laidOut (by kernel_rfl) (of_decide_eq_true (by kernel_rfl)) h1 bel hlt1) trodAll_mk0)), rfl, bel.frame _, fun h => by cases h⟩

/-- The statement. -/
theorem proved : Rows.StoreRowsSaid :=
  OpenClaim.holds_of_wide 3 Try.f3 rfl rfl rfl rfl rfl rfl rfl ⟨rfl, rfl, rfl, rfl, rfl⟩ rfl rfl rfl rfl rfl (by kernel_rfl) Try.func3 (by kernel_rfl)
    (of_decide_eq_true (by kernel_rfl)) (by unfold Func.isWrapper; first | (rw [if_pos (by decide +kernel)]; kernel_rfl) | (rw [if_neg (by decide +kernel)]; exact ⟨rfl, rfl⟩))
    (fun os started H enc _ => lifted os started H enc)
#print axioms proved

end Go.Proofs.Ytcmhjlflgedcdab.storeRows
