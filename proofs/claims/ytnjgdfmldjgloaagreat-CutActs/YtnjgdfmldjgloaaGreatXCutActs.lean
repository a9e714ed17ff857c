/- CutActs holds: cuts under any calls answer as the document's do. -/
import Derived.Test.YtnjgdfmldjgloaaGreatXCxL
import Derived.ProofKit
import Derived.OpenShut
import Derived.ShutString
namespace Go.Proofs.YtnjgdfmldjgloaaGreat.cutActs
open Go.ChangeShapes Go.WideShapes Go.ChangeAt Go.RowKit
open Go.ChangeMaps (open_string shut_string)
open Pl

/-- The two between calls. -/
def Both (w wr : World) (o : Cu.OB) (gr : Nat) (Hs : List ByteArray) (Hb : List Cu.Bn) (i : Nat) : Prop := ∃ F V L M, Cu.FOk i F ∧ Cu.SA w wr o gr V Hs Hb F L M ∧ Cu.fstR L = Cu.allK Hs Hb F
theorem ne_gr {w : World} {gr : Nat} {V : Value} {L : List (Cu.Rk × Cu.RQ)} (h : Cu.RS w gr V L) {k : Nat} {C : Array Value} {t : TypeId} (hb : Blk w k C t) (ht : t ≠ 72) : k ≠ gr := fun e => by
  rw [e] at hb
  exact ht (Cu.blk_tag hb h.blk)
theorem row_ne_gr {w : World} {gr B z n k : Nat} {V v : Value} {xs : List Value} {e : TypeId} {L : List (Cu.Rk × Cu.RQ)} (h : Cu.RS w gr V L) (ho : w.ownsRow B e z v n xs) (hk : v.ownBlock = some k) (ht : e ≠ 72) : k ≠ gr := by
  obtain ⟨cur, hc⟩ := Cu.own_cells ho hk
  exact ne_gr h hc ht
theorem texts255 {ds : List ByteArray} (h : ∀ d ∈ ds, d.size ≤ 255) : TextsF (tC ds) 0 ds.length := textsF_tC (fun d hd => by have := h d hd; omega)
/-- What is lent: the act's copy, the delegation's, its hosts. -/
structure LD1 (w : World) (z : Nat) (A D : Array Value) (gT capT : Nat) (hs : List ByteArray) : Prop where
  a : Blk w z A 41
  d : Blk w (z + 1) D 39
  lt : Lies w gT (tC hs ++ tC mkT)
  ot : w.ownsRow (z + 2) 9 1 (.slice (some ⟨gT, 0, none⟩) hs.length capT) hs.length (tC hs)
theorem LD1.gT {w : World} {z gT capT : Nat} {A D : Array Value} {hs : List ByteArray} (h : LD1 w z A D gT capT hs) : z + 2 ≤ gT ∧ gT < w.heap.size := h.ot.lt gT rfl
theorem LD1.turn {w w' : World} {z gT capT : Nat} {A D : Array Value} {hs : List ByteArray} {S : Nat → Prop} (h : LD1 w z A D gT capT hs) (T : Turn S w w') (hS : ∀ k, z ≤ k → k < w.heap.size → ¬ S k) : LD1 w' z A D gT capT hs :=
  ⟨T.blk h.a (hS _ (Nat.le_refl _) h.a.lt), T.blk h.d (hS _ (by omega) h.d.lt), h.lt.turn T (hS _ (by have := h.gT.1; omega) h.gT.2), T.row h.ot (fun k hk => hS k (by have := (h.ot.lt k hk).1; omega) (h.ot.lt k hk).2)⟩
theorem LD1.below {w w' : World} {z gT capT : Nat} {A D : Array Value} {hs : List ByteArray} (h : LD1 w z A D gT capT hs) (hb : Below w.heap.size w w') : LD1 w' z A D gT capT hs := h.turn (Turn.of_below (S := fun _ => False) hb) (fun _ _ _ => id)
theorem LD1.store {w : World} {z gT capT : Nat} {A D : Array Value} {hs : List ByteArray} (h : LD1 w z A D gT capT hs) (i : Nat) (v : Value) : LD1 (w.setCell ⟨z + 1, i, none⟩ v) z A (D.setIfInBounds i v) gT capT hs := by
  have T : Turn (fun k => k = z + 1) w (w.setCell ⟨z + 1, i, none⟩ v) := Turn.of_set (S := fun k => k = z + 1) w (p := ⟨z + 1, i, none⟩) rfl v
  have hg := h.gT.1
  exact ⟨T.blk h.a (by omega), h.d.set i v, h.lt.turn T (by omega), T.row h.ot (fun k hk e => by have := (h.ot.lt k hk).1; omega)⟩
/-- And its glue. -/
structure LD (w : World) (z : Nat) (A D : Array Value) (gT capT : Nat) (hs : List ByteArray) (gB capB : Nat) (gl : List Cu.Bn) : Prop where
  one : LD1 w z A D gT capT hs
  lb : Lies w gB (Cu.bC gl ++ Cu.bC Cu.mkBg)
  ob : w.ownsRow (z + 2) 65 5 (.slice (some ⟨gB, 0, none⟩) gl.length capB) gl.length (Cu.bC gl)
theorem LD.gB {w : World} {z gT capT gB capB : Nat} {A D : Array Value} {hs : List ByteArray} {gl : List Cu.Bn} (h : LD w z A D gT capT hs gB capB gl) : z + 2 ≤ gB ∧ gB < w.heap.size := h.ob.lt gB rfl
theorem LD.turn {w w' : World} {z gT capT gB capB : Nat} {A D : Array Value} {hs : List ByteArray} {gl : List Cu.Bn} {S : Nat → Prop} (h : LD w z A D gT capT hs gB capB gl) (T : Turn S w w') (hS : ∀ k, z ≤ k → k < w.heap.size → ¬ S k) : LD w' z A D gT capT hs gB capB gl :=
  ⟨h.one.turn T hS, h.lb.turn T (hS _ (by have := h.gB.1; omega) h.gB.2), T.row h.ob (fun k hk => hS k (by have := (h.ob.lt k hk).1; omega) (h.ob.lt k hk).2)⟩
theorem LD.below {w w' : World} {z gT capT gB capB : Nat} {A D : Array Value} {hs : List ByteArray} {gl : List Cu.Bn} (h : LD w z A D gT capT hs gB capB gl) (hb : Below w.heap.size w w') : LD w' z A D gT capT hs gB capB gl := h.turn (Turn.of_below (S := fun _ => False) hb) (fun _ _ _ => id)
theorem LD.store {w : World} {z gT capT gB capB : Nat} {A D : Array Value} {hs : List ByteArray} {gl : List Cu.Bn} (h : LD w z A D gT capT hs gB capB gl) (i : Nat) (v : Value) : LD (w.setCell ⟨z + 1, i, none⟩ v) z A (D.setIfInBounds i v) gT capT hs gB capB gl := by
  have T : Turn (fun k => k = z + 1) w (w.setCell ⟨z + 1, i, none⟩ v) := Turn.of_set (S := fun k => k = z + 1) w (p := ⟨z + 1, i, none⟩) rfl v
  have hg := h.gB.1
  exact ⟨h.one.store i v, h.lb.turn T (by omega), T.row h.ob (fun k hk e => by have := (h.ob.lt k hk).1; omega)⟩
theorem LD.din {w0 w : World} {z gT capT gB capB : Nat} {A D : Array Value} {hs : List ByteArray} {gl : List Cu.Bn} {pc : ByteArray} {ttl : Int} {v u : Value} (h : LD w z A D gT capT hs gB capB gl) (hi : Cu.DIn w0 ⟨pc, hs, gl, ttl⟩ v u) (h1 : hs.length + 2 ≤ capT) : Cu.DIn w ⟨pc, hs, gl, ttl⟩ (.slice (some ⟨gT, 0, none⟩) hs.length capT) (.slice (some ⟨gB, 0, none⟩) gl.length capB) :=
  ⟨h.one.lt.row, ⟨_, capT, rfl, by show hs.length ≤ capT; omega⟩, h.lb.row, hi.hl, hi.ll, hi.cs, hi.hss, hi.gss⟩
theorem ex_sa {w0 w : World} {o : Cu.OB} {gr : Nat} {V : Value} {Hs : List ByteArray} {Hb : List Cu.Bn} {F : List Cu.Ct} {L : List (Cu.Rk × Cu.RQ)} {M : Nat → Prop} (h : Cu.SA w0 w o gr V Hs Hb F L M) : ∃ (M' : Nat → Prop) (V' : Value), Cu.SA w0 w o gr V' Hs Hb F L M' := ⟨M, V, h⟩
theorem hostsN_ok {w0 w : World} {o : Cu.OB} {Hs : List ByteArray} {Hb : List Cu.Bn} {F : List Cu.Ct} {M : Nat → Prop} (h : Cu.LW w0 w o Hs Hb F M) : Hs.length ≤ 8 ∧ (∀ h ∈ Hs, h.size ≤ 255) ∧ Hb.length ≤ 8 := by
  obtain ⟨L, hs, _, _⟩ := h.ex
  exact ⟨hs.hok.1, hs.hok.2.1, hs.hok.2.2.1⟩

set_option maxRecDepth 100000 in
set_option maxHeartbeats 16000000 in
theorem walk (v0 : Value) (hs : List Cu.Hn) (v1 : Value) (rs : List Cu.Ca) (w : World) (h0 : Row w v0 hs.length (Cu.hnC hs) ∧ hs.length ≤ 5864062014640 ∧ ∀ r ∈ hs, r.h.size ≤ maxLen) (h1 : Row w v1 rs.length (Cu.caC rs) ∧ rs.length ≤ maxLen ∧ ∀ r ∈ rs, Cu.CaOk w r ∧ Cu.CaFar r) :
    Calls Tryz.prog 3 #[v0, v1] w fun e w' => e = .returned (.bool true) ∧ Below w.heap.size w w' := by
  obtain ⟨x0, c0, rfl⟩ := row_slice h0.1
  obtain ⟨x1, c1, rfl⟩ := row_slice h1.1
  obtain ⟨hr0, hl0, hs0⟩ := h0
  have HR0 : Hid (Row w (.slice x0 hs.length c0) hs.length (Cu.hnC hs)) := hr0
  have HH0 : Hid (hs.length ≤ 5864062014640 ∧ ∀ r ∈ hs, r.h.size ≤ maxLen) := ⟨hl0, hs0⟩
  obtain ⟨n1, hn1⟩ : ∃ n, n = rs.length := ⟨_, rfl⟩
  have HN1 : Hid (n1 = rs.length) := hn1
  have HR1 : Hid (Row w (.slice x1 n1 c1) n1 (Cu.caC rs)) := by unfold Hid; rw [hn1]; exact h1.1
  have HOK : Hid (∀ r ∈ rs, Cu.CaOk w r ∧ Cu.CaFar r) := h1.2.2
  have hm1 : n1 ≤ maxLen := by rw [hn1]; exact h1.2.1
  unfold maxLen at hm1
  rw [← hn1]
  have hll : hs.length ≤ maxLen := by unfold maxLen; omega
  have hle := Cu.lendHn_any _ hs w hr0 hl0
  clear h1 hn1 hr0 hl0 hs0
  cases hok : Cu.hintsOk hs with
  | false =>
    have hpn := Cu.obj_none
    have HOKF : Hid (Cu.hintsOk hs = false) := hok
    clear hok
    go_enter Tryz.func3, Tryz.ntmps3
    go_wp2_with (first
      | (go_at_call 4; go_must (refine hle.mono ?_); rintro e w1 ⟨gH, capH, rfl, hcap, hlie, _, b1⟩; have HLI : Hid (Lies w1 gH (Cu.hnC hs ++ Cu.hnC Cu.mkHn)) := hlie; have hnw := Cu.new_no (.slice (some ⟨gH, 0, none⟩) hs.length capH) hs w1 hlie.row hll HH0.out.2 HOKF.out; clear hle hlie)
      | (go_at_call 5; go_must (refine hnw.mono ?_); rintro e w2 ⟨rfl, b2⟩; have hnr := Cu.newR_no _ hs w2 (HR0.out.below (next b1 b2)) hll HH0.out.2 HOKF.out; clear hnw)
      | (go_at_call 6; go_must (refine hnr.mono ?_); rintro e w3 ⟨rfl, b3⟩; have B3 := next (next b1 b2) b3; have hkp := Cu.keptHn_any gH capH _ hs w3 (HLI.out.below (next b2 b3)) hcap (HR0.out.below B3) HH0.out.1; clear hnr b2 b3)
      | (go_at_call 7; go_must (refine hkp.mono ?_); rintro e w4 ⟨rfl, b4⟩; have B4 := next B3 b4; clear hkp b4)
      | (go_at_call 8; refine (num_any _ _).mono ?_; rintro e w' ⟨rfl, hw⟩; obtain rfl := hw.symm)
      | (go_at_call 9; go_must (refine (Cu.awake_any _).mono ?_); rintro e w5 ⟨rfl, b5⟩))
    go_ret
    exact ⟨rfl, next B4 b5⟩
  | true =>
    have HOKT : Hid (Cu.hintsOk hs = true) := hok
    obtain ⟨Hs, hHs⟩ : ∃ Hs, Hs = Cu.hostsN hs := ⟨_, rfl⟩
    obtain ⟨Hb, hHb⟩ : ∃ Hb, Hb = Cu.bindsN hs := ⟨_, rfl⟩
    have HNEW : Hid (Cu.hostsN hs = Hs ∧ Cu.bindsN hs = Hb) := ⟨hHs.symm, hHb.symm⟩
    have hpo := Cu.obj_some
    clear hok hHs hHb
    go_enter Tryz.func3, Tryz.ntmps3
    go_wp2_with (first
      | (go_at_call 4; go_must (refine hle.mono ?_); rintro e w1 ⟨gH, capH, rfl, hcap, hlie, hown, b1⟩; have HLI : Hid (Lies w1 gH (Cu.hnC hs ++ Cu.hnC Cu.mkHn)) := hlie; have HOW : Hid (w1.ownsRow w.heap.size 56 2 (.slice (some ⟨gH, 0, none⟩) hs.length capH) hs.length (Cu.hnC hs)) := hown; have hlt := hown.lt gH rfl; have hnw := Cu.lw_new (M := fun k => k = gH) b1 (fun k hk => by subst hk; exact hlt) (.slice (some ⟨gH, 0, none⟩) hs.length capH) hs hlie.row HH0.out.2 HOKT.out; rw [HNEW.out.1, HNEW.out.2] at hnw; clear hle hlie hown)
      | (go_at_call 5; go_must (refine hnw.mono ?_); rintro e w2 ⟨o, rfl, lw2, b2⟩; have hos := hpo o.gs; have HLW2 : Hid (Cu.LW w w2 o Hs Hb [] (fun k => k = gH)) := lw2; have hnr := Cu.newR_yes _ hs w2 (HR0.out.below (next b1 b2)) HH0.out.2 HOKT.out; rw [HNEW.out.1, HNEW.out.2] at hnr; clear hnw lw2)
      | (go_at_call 6; go_must (refine hnr.mono ?_); rintro e w3 ⟨gr, V3, q3, rfl, rs3, nw3, b3⟩; have B3 := next (next b1 b2) b3; have hkp := Cu.keptHn_any gH capH _ hs w3 (HLI.out.below (next b2 b3)) hcap (HR0.out.below B3) HH0.out.1; have HSA3 : Hid (Cu.SA w w3 o gr V3 Hs Hb [] [(Cu.rkRt Hs Hb, q3)] (Cu.newM (fun k => k = gH) w2 w3)) := (by have h := Cu.sa_new (hs := hs) (q := q3) (V := V3) (gr := gr) (w' := w3) (by rw [HNEW.out.1, HNEW.out.2]; exact HLW2.out) (by rw [HNEW.out.1, HNEW.out.2]; exact rs3) (by rw [HNEW.out.1, HNEW.out.2]; exact nw3) b3; rw [HNEW.out.1, HNEW.out.2] at h; exact h); have HNG : Hid (∀ k, Cu.rsf gr V3 [(Cu.rkRt Hs Hb, q3)] k → k ≠ gH) := (fun k hk e => by have h1 := nw3 k hk; have h2 := b2.size; omega); have HOW3 : Hid (w3.ownsRow w.heap.size 56 2 (.slice (some ⟨gH, 0, none⟩) hs.length capH) hs.length (Cu.hnC hs)) := own_past HOW.out (next b2 b3); clear hnr rs3 nw3 b2 b3 HLW2 HOW)
      | (go_at_call 7; go_must (refine hkp.mono ?_); rintro e w4 ⟨rfl, b4⟩; have HSA4 : Hid (Cu.SA w w4 o gr V3 Hs Hb [] [(Cu.rkRt Hs Hb, q3)] (Cu.newM (fun k => k = gH) w2 w3)) := HSA3.out.below b4; have hsp := Cu.spoilHn_any (own_past HOW3.out b4) (Cu.numsHn hs) HH0.out.1; clear hkp b4 HSA3)
      | (go_at_call 8; refine (num_any _ _).mono ?_; rintro e w' ⟨rfl, hw⟩; obtain rfl := hw.symm)
      | (go_at_call 10; go_must (refine hsp.mono ?_); rintro e w5 ⟨rfl, T5⟩; have HB5 : Hid (Both w w5 o gr Hs Hb 0) := ⟨[], V3, _, _, Cu.FOk.start, HSA4.out.wrote T5 (fun k hk => by have e : k = gH := (Option.some.inj hk).symm; exact ⟨.inl e, fun h => HNG.out k h e⟩), rfl⟩; have HHB : Hid (Hs.length ≤ 8 ∧ (∀ h ∈ Hs, h.size ≤ 255) ∧ Hb.length ≤ 8) := hostsN_ok HSA4.out.lw; clear hsp T5 HSA4 HOW3 HNG))
    clear HLI HR0 HH0 HNEW HOKT hcap hlt hos hpo b1 B3 hll
    go_loopw [10] (fun k wr => ∃ i : Nat, i ≤ n1 ∧ i ≤ 60 ∧ k = .int .i64 (i : Int) ∧ Hid (Both w wr o gr Hs Hb i)) (fun k _ => 60 - (intOf k).toNat)
    case atStart => exact ⟨0, Nat.zero_le _, Nat.zero_le _, rfl, HB5⟩
    case round =>
      clear HB5
      obtain ⟨i, hin, hi6, rfl, HX⟩ := hrel
      by_cases hlt : i < n1 ∧ i < 60
      · obtain ⟨h0, h60⟩ := hlt
        have h0' : (i : Int) < (n1 : Int) := by omega
        have h60' : (i : Int) < 60 := by omega
        obtain ⟨F, V, L, M, hF, hS, hE⟩ := HX.out
        have him : i < rs.length := by rw [← HN1.out]; exact h0
        obtain ⟨g0, o0, cp0, hx, hc0⟩ := row_at (HR1.out.below hS.lw.bel) (by omega)
        simp only [Value.slice.injEq] at hx
        obtain ⟨rfl, -, rfl⟩ := hx
        have hpk := HOK.out _ (List.getElem_mem him)
        obtain ⟨⟨pk, ⟨pc, phs, pgl, pttl⟩, phv, pgv, pfr, pnow, ph, pa, pu, pn⟩, hp⟩ : ∃ p, p = rs[i] := ⟨_, rfl⟩
        have hat := fun k hk => Cu.caC_at him k hk
        rw [← hp] at hat hpk
        have d0 := hc0 (i * 11 + 0) _ (hat 0 (by omega))
        have d1 := hc0 (i * 11 + 1) _ (hat 1 (by omega))
        have d2 := hc0 (i * 11 + 2) _ (hat 2 (by omega))
        have d3 := hc0 (i * 11 + 3) _ (hat 3 (by omega))
        have d4 := hc0 (i * 11 + 4) _ (hat 4 (by omega))
        have d5 := hc0 (i * 11 + 5) _ (hat 5 (by omega))
        have d6 := hc0 (i * 11 + 6) _ (hat 6 (by omega))
        have d7 := hc0 (i * 11 + 7) _ (hat 7 (by omega))
        have d8 := hc0 (i * 11 + 8) _ (hat 8 (by omega))
        have d9 := hc0 (i * 11 + 9) _ (hat 9 (by omega))
        have d10 := hc0 (i * 11 + 10) _ (hat 10 (by omega))
        simp only [Nat.add_zero, ← Nat.add_assoc] at d0 d1 d2 d3 d4 d5 d6 d7 d8 d9 d10
        obtain ⟨xh, ch, hhv, _⟩ := hpk.1.din.hc
        obtain ⟨xg, cg, hgv, _⟩ := hpk.1.din.gr.src
        simp only at hhv hgv
        subst hhv hgv
        have HCA : Hid (Cu.CaOk w ⟨pk, ⟨pc, phs, pgl, pttl⟩, .slice xh phs.length ch, .slice xg pgl.length cg, pfr, pnow, ph, pa, pu, pn⟩ ∧ Cu.CaFar ⟨pk, ⟨pc, phs, pgl, pttl⟩, .slice xh phs.length ch, .slice xg pgl.length cg, pfr, pnow, ph, pa, pu, pn⟩) := hpk
        have HPN : Hid (pn.size ≤ maxLen) := hpk.1.n
        have HIN : Hid (Cu.DIn w (⟨pc, phs, pgl, pttl⟩ : Cu.Dg) (.slice xh phs.length ch) (.slice xg pgl.length cg)) := hpk.1.din
        have HFF : Hid (Cu.FOk i F) := hF
        have HEE : Hid (Cu.fstR L = Cu.allK Hs Hb F) := hE
        have hb1 : Below wr.heap.size wr (wr.alloc (.cells #[.int .i64 pk, .string pc, .slice xh phs.length ch, .slice xg pgl.length cg, .int .i64 pttl, .string pfr, .int .i64 pnow, .string ph, .int .i64 pa, .int .i64 pu, .string pn] 41)) := lay (Below.refl _ _) _
        have KA1 : Hid (Blk (wr.alloc (.cells #[.int .i64 pk, .string pc, .slice xh phs.length ch, .slice xg pgl.length cg, .int .i64 pttl, .string pfr, .int .i64 pnow, .string ph, .int .i64 pa, .int .i64 pu, .string pn] 41)) wr.heap.size #[.int .i64 pk, .string pc, .slice xh phs.length ch, .slice xg pgl.length cg, .int .i64 pttl, .string pfr, .int .i64 pnow, .string ph, .int .i64 pa, .int .i64 pu, .string pn] 41) := Blk.new wr _ _
        have HSR : Hid (Cu.SA w wr o gr V Hs Hb F L M) := hS
        have HWB : Hid (Below wr.heap.size wr (wr.alloc (.cells #[.int .i64 pk, .string pc, .slice xh phs.length ch, .slice xg pgl.length cg, .int .i64 pttl, .string pfr, .int .i64 pnow, .string ph, .int .i64 pa, .int .i64 pu, .string pn] 41))) := hb1
        clear hc0 hat hp hpk hF hS hE HX hb1
        by_cases hk6 : pk < 6
        · obtain ⟨F9, hF9⟩ : ∃ F9, F9 = Cu.putC F (⟨pc, phs, pgl, pttl⟩ : Cu.Dg) pfr pnow := ⟨_, rfl⟩
          obtain ⟨er, her⟩ : ∃ er, er = Cu.errC (⟨pc, phs, pgl, pttl⟩ : Cu.Dg) pfr pnow := ⟨_, rfl⟩
          have HF9 : Hid (Cu.FOk (i + 1) F9) := by unfold Hid; rw [hF9]; exact HFF.out.put _ _ _
          have HPC : Hid (Cu.errC (⟨pc, phs, pgl, pttl⟩ : Cu.Dg) pfr pnow = er ∧ Cu.putC F (⟨pc, phs, pgl, pttl⟩ : Cu.Dg) pfr pnow = F9) := ⟨her.symm, hF9.symm⟩
          have herr : (er != er) = false := by simp
          have hz1 : (wr.alloc (.cells #[.int .i64 pk, .string pc, .slice xh phs.length ch, .slice xg pgl.length cg, .int .i64 pttl, .string pfr, .int .i64 pnow, .string ph, .int .i64 pa, .int .i64 pu, .string pn] 41)).heap.size = wr.heap.size + 1 := by simp
          have hz2 : ((wr.alloc (.cells #[.int .i64 pk, .string pc, .slice xh phs.length ch, .slice xg pgl.length cg, .int .i64 pttl, .string pfr, .int .i64 pnow, .string ph, .int .i64 pa, .int .i64 pu, .string pn] 41)).alloc (.cells #[.string pc, .slice xh phs.length ch, .slice xg pgl.length cg, .int .i64 pttl] 39)).heap.size = wr.heap.size + 2 := by simp
          have HB2 : Hid (Below wr.heap.size wr ((wr.alloc (.cells #[.int .i64 pk, .string pc, .slice xh phs.length ch, .slice xg pgl.length cg, .int .i64 pttl, .string pfr, .int .i64 pnow, .string ph, .int .i64 pa, .int .i64 pu, .string pn] 41)).alloc (.cells #[.string pc, .slice xh phs.length ch, .slice xg pgl.length cg, .int .i64 pttl] 39))) := lay HWB.out _
          have KD2 : Hid (Blk ((wr.alloc (.cells #[.int .i64 pk, .string pc, .slice xh phs.length ch, .slice xg pgl.length cg, .int .i64 pttl, .string pfr, .int .i64 pnow, .string ph, .int .i64 pa, .int .i64 pu, .string pn] 41)).alloc (.cells #[.string pc, .slice xh phs.length ch, .slice xg pgl.length cg, .int .i64 pttl] 39)) (wr.heap.size + 1) #[.string pc, .slice xh phs.length ch, .slice xg pgl.length cg, .int .i64 pttl] 39) := by
            have h := Blk.new (wr.alloc (.cells #[.int .i64 pk, .string pc, .slice xh phs.length ch, .slice xg pgl.length cg, .int .i64 pttl, .string pfr, .int .i64 pnow, .string ph, .int .i64 pa, .int .i64 pu, .string pn] 41)) #[.string pc, .slice xh phs.length ch, .slice xg pgl.length cg, .int .i64 pttl] 39
            rw [hz1] at h
            exact h
          have KA2 : Hid (Blk ((wr.alloc (.cells #[.int .i64 pk, .string pc, .slice xh phs.length ch, .slice xg pgl.length cg, .int .i64 pttl, .string pfr, .int .i64 pnow, .string ph, .int .i64 pa, .int .i64 pu, .string pn] 41)).alloc (.cells #[.string pc, .slice xh phs.length ch, .slice xg pgl.length cg, .int .i64 pttl] 39)) wr.heap.size #[.int .i64 pk, .string pc, .slice xh phs.length ch, .slice xg pgl.length cg, .int .i64 pttl, .string pfr, .int .i64 pnow, .string ph, .int .i64 pa, .int .i64 pu, .string pn] 41) := KA1.out.alloc _
          have hlt := Cu.lendT_own (.slice xh phs.length ch) phs ((wr.alloc (.cells #[.int .i64 pk, .string pc, .slice xh phs.length ch, .slice xg pgl.length cg, .int .i64 pttl, .string pfr, .int .i64 pnow, .string ph, .int .i64 pa, .int .i64 pu, .string pn] 41)).alloc (.cells #[.string pc, .slice xh phs.length ch, .slice xg pgl.length cg, .int .i64 pttl] 39)) (HIN.out.hr.below (next HSR.out.lw.bel HB2.out)) HCA.out.2.hl
          have HZ2 : Hid (wr.heap.size + 2 ≤ ((wr.alloc (.cells #[.int .i64 pk, .string pc, .slice xh phs.length ch, .slice xg pgl.length cg, .int .i64 pttl, .string pfr, .int .i64 pnow, .string ph, .int .i64 pa, .int .i64 pu, .string pn] 41)).alloc (.cells #[.string pc, .slice xh phs.length ch, .slice xg pgl.length cg, .int .i64 pttl] 39)).heap.size) := by unfold Hid; rw [hz2]; exact Nat.le_refl _
          have HLB0 : Hid (∀ U, Below w.heap.size w U → Calls Tryz.prog 12 #[.slice xg pgl.length cg] U fun e w' => ∃ g cap, e = .returned (.slice (some ⟨g, 0, none⟩) pgl.length cap) ∧ pgl.length + 2 ≤ cap ∧ Lies w' g (Cu.bC pgl ++ Cu.bC Cu.mkBg) ∧ w'.ownsRow U.heap.size 65 5 (.slice (some ⟨g, 0, none⟩) pgl.length cap) pgl.length (Cu.bC pgl) ∧ Below U.heap.size U w') := fun U hU => Cu.lendBg_any (.slice xg pgl.length cg) pgl U (HIN.out.gr.below hU) HCA.out.2.gl
          -- the worlds after the two are lent
          have HS3 : Hid (∀ (w3 : World) (gT capT : Nat), LD1 w3 wr.heap.size #[.int .i64 pk, .string pc, .slice xh phs.length ch, .slice xg pgl.length cg, .int .i64 pttl, .string pfr, .int .i64 pnow, .string ph, .int .i64 pa, .int .i64 pu, .string pn] #[.string pc, .slice xh phs.length ch, .slice xg pgl.length cg, .int .i64 pttl] gT capT phs → Below wr.heap.size wr w3 → LD1 (w3.setCell ⟨wr.heap.size + 1, 1, none⟩ (.slice (some ⟨gT, 0, none⟩) phs.length capT)) wr.heap.size #[.int .i64 pk, .string pc, .slice xh phs.length ch, .slice xg pgl.length cg, .int .i64 pttl, .string pfr, .int .i64 pnow, .string ph, .int .i64 pa, .int .i64 pu, .string pn] #[.string pc, .slice (some ⟨gT, 0, none⟩) phs.length capT, .slice xg pgl.length cg, .int .i64 pttl] gT capT phs ∧ Below wr.heap.size wr (w3.setCell ⟨wr.heap.size + 1, 1, none⟩ (.slice (some ⟨gT, 0, none⟩) phs.length capT))) := fun w3 gT capT h hb => ⟨h.store 1 _, hb.setCell (p := ⟨wr.heap.size + 1, 1, none⟩) (Nat.le_succ _) _⟩
          have HS4 : Hid (∀ (w4 : World) (gT capT gB capB : Nat), LD w4 wr.heap.size #[.int .i64 pk, .string pc, .slice xh phs.length ch, .slice xg pgl.length cg, .int .i64 pttl, .string pfr, .int .i64 pnow, .string ph, .int .i64 pa, .int .i64 pu, .string pn] #[.string pc, .slice (some ⟨gT, 0, none⟩) phs.length capT, .slice xg pgl.length cg, .int .i64 pttl] gT capT phs gB capB pgl → Below wr.heap.size wr w4 → LD (w4.setCell ⟨wr.heap.size + 1, 2, none⟩ (.slice (some ⟨gB, 0, none⟩) pgl.length capB)) wr.heap.size #[.int .i64 pk, .string pc, .slice xh phs.length ch, .slice xg pgl.length cg, .int .i64 pttl, .string pfr, .int .i64 pnow, .string ph, .int .i64 pa, .int .i64 pu, .string pn] #[.string pc, .slice (some ⟨gT, 0, none⟩) phs.length capT, .slice (some ⟨gB, 0, none⟩) pgl.length capB, .int .i64 pttl] gT capT phs gB capB pgl ∧ Below wr.heap.size wr (w4.setCell ⟨wr.heap.size + 1, 2, none⟩ (.slice (some ⟨gB, 0, none⟩) pgl.length capB))) := fun w4 gT capT gB capB h hb => ⟨h.store 2 _, hb.setCell (p := ⟨wr.heap.size + 1, 2, none⟩) (Nat.le_succ _) _⟩
          have HFR : Hid (pfr.size ≤ maxLen) := HCA.out.1.fr
          clear hF9 her hz1 hz2
          go_wp2_with (first
            | (go_at_call 11; go_must (refine hlt.mono ?_); rintro e w3 ⟨gT, capT, rfl, hcapT, hli, how, b3⟩; have hk3 := KD2.out.below b3; have z1 := hk3.cell 1; have z1f := hk3.frozen 1; simp only [List.getElem?_toArray, List.getElem?_cons_succ, List.getElem?_cons_zero] at z1; obtain ⟨ld3, hb3⟩ := HS3.out w3 gT capT ⟨KA2.out.below b3, hk3, hli, own_base how HZ2.out⟩ (next HB2.out b3); have x3 := ld3.a.cell 3; simp only [List.getElem?_toArray, List.getElem?_cons_succ, List.getElem?_cons_zero] at x3; have hlb := HLB0.out _ (next HSR.out.lw.bel hb3); have HLD3 : Hid (LD1 (w3.setCell ⟨wr.heap.size + 1, 1, none⟩ (.slice (some ⟨gT, 0, none⟩) phs.length capT)) wr.heap.size #[.int .i64 pk, .string pc, .slice xh phs.length ch, .slice xg pgl.length cg, .int .i64 pttl, .string pfr, .int .i64 pnow, .string ph, .int .i64 pa, .int .i64 pu, .string pn] #[.string pc, .slice (some ⟨gT, 0, none⟩) phs.length capT, .slice xg pgl.length cg, .int .i64 pttl] gT capT phs ∧ Below wr.heap.size wr (w3.setCell ⟨wr.heap.size + 1, 1, none⟩ (.slice (some ⟨gT, 0, none⟩) phs.length capT))) := ⟨ld3, hb3⟩; have HCT : Hid (phs.length + 2 ≤ capT) := hcapT; clear hlt hli how hk3 ld3 hb3 b3 hcapT)
            | (go_at_call 12; go_must (refine hlb.mono ?_); rintro e w4 ⟨gB, capB, rfl, hcapB, hlib, hob, b4⟩; have ld4 := HLD3.out.1.below b4; have z2 := ld4.d.cell 2; have z2f := ld4.d.frozen 2; simp only [List.getElem?_toArray, List.getElem?_cons_succ, List.getElem?_cons_zero] at z2; have hz4 := HLD3.out.1.d.lt; obtain ⟨ld5, hb5⟩ := HS4.out w4 gT capT gB capB ⟨ld4, hlib, own_base hob (Nat.succ_le_of_lt hz4)⟩ (next HLD3.out.2 b4); have y0 := ld5.one.d.cell 0; have y1 := ld5.one.d.cell 1; have y2 := ld5.one.d.cell 2; have y3 := ld5.one.d.cell 3; have y5 := ld5.one.a.cell 5; have y6 := ld5.one.a.cell 6; simp only [List.getElem?_toArray, List.getElem?_cons_succ, List.getElem?_cons_zero] at y0 y1 y2 y3 y5 y6; have HLD5 : Hid (LD (w4.setCell ⟨wr.heap.size + 1, 2, none⟩ (.slice (some ⟨gB, 0, none⟩) pgl.length capB)) wr.heap.size #[.int .i64 pk, .string pc, .slice xh phs.length ch, .slice xg pgl.length cg, .int .i64 pttl, .string pfr, .int .i64 pnow, .string ph, .int .i64 pa, .int .i64 pu, .string pn] #[.string pc, .slice (some ⟨gT, 0, none⟩) phs.length capT, .slice (some ⟨gB, 0, none⟩) pgl.length capB, .int .i64 pttl] gT capT phs gB capB pgl ∧ Below wr.heap.size wr (w4.setCell ⟨wr.heap.size + 1, 2, none⟩ (.slice (some ⟨gB, 0, none⟩) pgl.length capB))) := ⟨ld5, hb5⟩; have HCB : Hid (pgl.length + 2 ≤ capB) := hcapB; have hpu := (HSR.out.more hb5).put (ld5.din HIN.out HCT.out) pfr pnow HFR.out er HPC.out.1 F9 HPC.out.2; clear hlb hlib hob ld4 ld5 hb5 b4 hcapB x3 z1 z1f hz4)
            | (go_at_call 13; go_must (refine hpu.mono ?_); rintro e w6 ⟨rfl, s6, T6⟩; clear hpu y0 y1 y2 y3 y5 y6 z2 z2f))
          have HLD6 : Hid (LD w6 wr.heap.size #[.int .i64 pk, .string pc, .slice xh phs.length ch, .slice xg pgl.length cg, .int .i64 pttl, .string pfr, .int .i64 pnow, .string ph, .int .i64 pa, .int .i64 pu, .string pn] #[.string pc, .slice (some ⟨gT, 0, none⟩) phs.length capT, .slice (some ⟨gB, 0, none⟩) pgl.length capB, .int .i64 pttl] gT capT phs gB capB pgl) := HLD5.out.1.turn T6 (fun k h1 h2 h => h.2 (.inr ⟨h1, h2⟩))
          have HS6 : Hid (Cu.SA w w6 o gr V Hs Hb F9 L (Cu.newM M wr (w4.setCell ⟨wr.heap.size + 1, 2, none⟩ (.slice (some ⟨gB, 0, none⟩) pgl.length capB)))) := s6
          have HGT : Hid (gT < (w4.setCell ⟨wr.heap.size + 1, 2, none⟩ (.slice (some ⟨gB, 0, none⟩) pgl.length capB)).heap.size ∧ gB < (w4.setCell ⟨wr.heap.size + 1, 2, none⟩ (.slice (some ⟨gB, 0, none⟩) pgl.length capB)).heap.size ∧ (w4.setCell ⟨wr.heap.size + 1, 2, none⟩ (.slice (some ⟨gB, 0, none⟩) pgl.length capB)).heap.size ≤ w6.heap.size) := ⟨HLD5.out.1.one.gT.2, HLD5.out.1.gB.2, T6.size⟩
          obtain ⟨w5, hw5⟩ : ∃ w5, w5 = w4.setCell ⟨wr.heap.size + 1, 2, none⟩ (.slice (some ⟨gB, 0, none⟩) pgl.length capB) := ⟨_, rfl⟩
          rw [← hw5] at HGT HS6
          clear hw5 s6 T6 HLD3 HLD5 HS3 HS4 HLB0 KD2 KA2 HB2
          refine wp_region_held_drew (S := fun u => LD u wr.heap.size #[.int .i64 pk, .string pc, .slice xh phs.length ch, .slice xg pgl.length cg, .int .i64 pttl, .string pfr, .int .i64 pnow, .string ph, .int .i64 pa, .int .i64 pu, .string pn] #[.string pc, .slice (some ⟨gT, 0, none⟩) phs.length capT, .slice (some ⟨gB, 0, none⟩) pgl.length capB, .int .i64 pttl] gT capT phs gB capB pgl) (by kernel_rfl) (HLD6.out.below (Below.refl _ _).drew) (fun hHeld => ?_)
          refine wpAnyH_take (i := 0) (v := .int .i64 er) rfl (by kernel_rfl) (by kernel_rfl) (by kernel_rfl) (fun _ _ _ h => h) (Or.inl ⟨by rfl, ?_⟩) hHeld ?_
          · intro u hu
            go_simp
          simp only [Act.put, List.getElem_toArray, List.getElem_cons_zero, List.setIfInBounds_toArray, List.set_cons_zero, List.set_cons_succ]
          refine wpAnyH_take (i := 2) (v := .pointer (some ⟨gr, 0, none⟩)) rfl (by kernel_rfl) (by kernel_rfl) (by kernel_rfl) (fun _ _ _ h => h) (Or.inl ⟨by rfl, ?_⟩) hHeld ?_
          · intro u hu
            go_simp
          simp only [Act.put, List.getElem_toArray, List.getElem_cons_succ, List.getElem_cons_zero, List.setIfInBounds_toArray, List.set_cons_zero, List.set_cons_succ]
          refine wpAnyH_take (i := 3) (v := .pointer (some ⟨wr.heap.size, 1, none⟩)) rfl (by kernel_rfl) (by kernel_rfl) (by kernel_rfl) (fun _ _ _ h => h) (Or.inl ⟨by rfl, ?_⟩) hHeld ?_
          · intro u hu
            go_simp
          simp only [Act.put, List.getElem_toArray, List.getElem_cons_succ, List.getElem_cons_zero, List.setIfInBounds_toArray, List.set_cons_zero, List.set_cons_succ]
          refine wpAnyH_take (i := 4) (v := .agg #[.string pc, .slice xh phs.length ch, .slice xg pgl.length cg, .int .i64 pttl]) rfl (by kernel_rfl) (by kernel_rfl) (by kernel_rfl) (fun _ _ _ h => h) (Or.inl ⟨by rfl, ?_⟩) hHeld ?_
          · intro u hu
            have a1 := hu.one.a.cell 1; have a2 := hu.one.a.cell 2; have a3 := hu.one.a.cell 3; have a4 := hu.one.a.cell 4; simp only [List.getElem?_toArray, List.getElem?_cons_succ, List.getElem?_cons_zero] at a1 a2 a3 a4
            go_simp
          simp only [Act.put, List.getElem_toArray, List.getElem_cons_succ, List.getElem_cons_zero, List.setIfInBounds_toArray, List.set_cons_zero, List.set_cons_succ]
          refine wpAnyH_take (i := 5) (v := .pointer (some ⟨wr.heap.size, 5, none⟩)) rfl (by kernel_rfl) (by kernel_rfl) (by kernel_rfl) (fun _ _ _ h => h) (Or.inl ⟨by rfl, ?_⟩) hHeld ?_
          · intro u hu
            go_simp
          simp only [Act.put, List.getElem_toArray, List.getElem_cons_succ, List.getElem_cons_zero, List.setIfInBounds_toArray, List.set_cons_zero, List.set_cons_succ]
          refine wpAnyH_take (i := 6) (v := .string pfr) rfl (by kernel_rfl) (by kernel_rfl) (by kernel_rfl) (fun _ _ _ h => h) (Or.inl ⟨by rfl, ?_⟩) hHeld ?_
          · intro u hu
            have a0 := hu.one.a.cell 5; simp only [List.getElem?_toArray, List.getElem?_cons_succ, List.getElem?_cons_zero] at a0
            go_simp
          simp only [Act.put, List.getElem_toArray, List.getElem_cons_succ, List.getElem_cons_zero, List.setIfInBounds_toArray, List.set_cons_zero, List.set_cons_succ]
          refine wpAnyH_take (i := 7) (v := .pointer (some ⟨wr.heap.size, 6, none⟩)) rfl (by kernel_rfl) (by kernel_rfl) (by kernel_rfl) (fun _ _ _ h => h) (Or.inl ⟨by rfl, ?_⟩) hHeld ?_
          · intro u hu
            go_simp
          simp only [Act.put, List.getElem_toArray, List.getElem_cons_succ, List.getElem_cons_zero, List.setIfInBounds_toArray, List.set_cons_zero, List.set_cons_succ]
          refine wpAnyH_take (i := 8) (v := .int .i64 pnow) rfl (by kernel_rfl) (by kernel_rfl) (by kernel_rfl) (fun _ _ _ h => h) (Or.inl ⟨by rfl, ?_⟩) hHeld ?_
          · intro u hu
            have a0 := hu.one.a.cell 6; simp only [List.getElem?_toArray, List.getElem?_cons_succ, List.getElem?_cons_zero] at a0
            go_simp
          simp only [Act.put, List.getElem_toArray, List.getElem_cons_succ, List.getElem_cons_zero, List.setIfInBounds_toArray, List.set_cons_zero, List.set_cons_succ]
          refine wpAnyH_ready (rs := [1]) (by kernel_rfl) (by simp) ?_
          refine AllReadyH.cons rfl (fun K hK => ?_) AllReadyH.nil
          go_simp
          refine (num_any _ _).mono ?_
          rintro e w' ⟨rfl, hw⟩
          obtain rfl := hw.symm
          clear hw
          go_simp
          refine hK.out _ _ hHeld (fun hHeld => ?_)
          clear hK K
          refine wpAnyH_ready (rs := [9]) (by kernel_rfl) (by simp) ?_
          refine AllReadyH.cons rfl (fun K hK => ?_) AllReadyH.nil
          go_simp
          have s6d := HS6.out.below (Below.refl _ _).drew
          refine (s6d.rput HFF.out HEE.out (HIN.out.below s6d.lw.bel) pfr pnow HFR.out er HPC.out.1 F9 HPC.out.2).mono ?_
          rintro e w7 ⟨rfl, V9, L9, s7, he7, T7, ft7⟩
          have HE9 : Hid (Cu.fstR L9 = Cu.allK Hs Hb F9) := he7
          have HS7 : Hid (Cu.SA w w7 o gr V9 Hs Hb F9 L9 (Cu.newM (Cu.newM M wr w5) w6.drew w7)) := s7
          replace hHeld := hHeld.turn T7 (fun k h1 _ e => by have h9 := HSR.out.rs.lt gr (.inl rfl); omega)
          have HFT : Hid (∀ k, wr.heap.size ≤ k → k < w6.heap.size → ¬ Cu.rsf gr V9 L9 k) := fun k h1 h2 h => by
            rcases ft7 k h with e | e
            · have h9 := HSR.out.rs.lt k e; omega
            · have h8 : w6.heap.size ≤ k := e; omega
          have HLD7 : Hid (LD w7 wr.heap.size #[.int .i64 pk, .string pc, .slice xh phs.length ch, .slice xg pgl.length cg, .int .i64 pttl, .string pfr, .int .i64 pnow, .string ph, .int .i64 pa, .int .i64 pu, .string pn] #[.string pc, .slice (some ⟨gT, 0, none⟩) phs.length capT, .slice (some ⟨gB, 0, none⟩) pgl.length capB, .int .i64 pttl] gT capT phs gB capB pgl) := hHeld
          clear s6d s7 he7 T7 ft7
          go_simp
          refine hK.out _ _ hHeld (fun hHeld => ?_)
          clear hK K
          refine wpAnyH_take (i := 10) (v := .bool false) rfl (by kernel_rfl) (by kernel_rfl) (by kernel_rfl) (fun _ _ _ h => h) (Or.inl ⟨by rfl, ?_⟩) hHeld ?_
          · intro u hu
            go_simp
          simp only [Act.put, List.getElem_toArray, List.getElem_cons_succ, List.getElem_cons_zero, List.setIfInBounds_toArray, List.set_cons_zero, List.set_cons_succ]
          refine wpAnyH_take (i := 11) (v := .bool false) rfl (by kernel_rfl) (by kernel_rfl) (by kernel_rfl) (fun _ _ _ h => h) (Or.inl ⟨by rfl, ?_⟩) hHeld ?_
          · intro u hu
            go_simp
          simp only [Act.put, List.getElem_toArray, List.getElem_cons_succ, List.getElem_cons_zero, List.setIfInBounds_toArray, List.set_cons_zero, List.set_cons_succ]
          refine wpAnyH_take (i := 12) (v := .pointer (some ⟨wr.heap.size + 1, 1, none⟩)) rfl (by kernel_rfl) (by kernel_rfl) (by kernel_rfl) (fun _ _ _ h => h) (Or.inl ⟨by rfl, ?_⟩) hHeld ?_
          · intro u hu
            go_simp
          simp only [Act.put, List.getElem_toArray, List.getElem_cons_succ, List.getElem_cons_zero, List.setIfInBounds_toArray, List.set_cons_zero, List.set_cons_succ]
          refine wpAnyH_take (i := 13) (v := .slice (some ⟨gT, 0, none⟩) phs.length capT) rfl (by kernel_rfl) (by kernel_rfl) (by kernel_rfl) (fun _ _ _ h => h) (Or.inl ⟨by rfl, ?_⟩) hHeld ?_
          · intro u hu
            have a0 := hu.one.d.cell 1; simp only [List.getElem?_toArray, List.getElem?_cons_succ, List.getElem?_cons_zero] at a0
            go_simp
          simp only [Act.put, List.getElem_toArray, List.getElem_cons_succ, List.getElem_cons_zero, List.setIfInBounds_toArray, List.set_cons_zero, List.set_cons_succ]
          refine wpAnyH_take (i := 14) (v := .pointer (some ⟨wr.heap.size, 1, none⟩)) rfl (by kernel_rfl) (by kernel_rfl) (by kernel_rfl) (fun _ _ _ h => h) (Or.inl ⟨by rfl, ?_⟩) hHeld ?_
          · intro u hu
            go_simp
          simp only [Act.put, List.getElem_toArray, List.getElem_cons_succ, List.getElem_cons_zero, List.setIfInBounds_toArray, List.set_cons_zero, List.set_cons_succ]
          refine wpAnyH_take (i := 15) (v := .pointer (some ⟨wr.heap.size, 2, none⟩)) rfl (by kernel_rfl) (by kernel_rfl) (by kernel_rfl) (fun _ _ _ h => h) (Or.inl ⟨by rfl, ?_⟩) hHeld ?_
          · intro u hu
            go_simp
          simp only [Act.put, List.getElem_toArray, List.getElem_cons_succ, List.getElem_cons_zero, List.setIfInBounds_toArray, List.set_cons_zero, List.set_cons_succ]
          refine wpAnyH_take (i := 16) (v := .slice xh phs.length ch) rfl (by kernel_rfl) (by kernel_rfl) (by kernel_rfl) (fun _ _ _ h => h) (Or.inl ⟨by rfl, ?_⟩) hHeld ?_
          · intro u hu
            have a0 := hu.one.a.cell 2; simp only [List.getElem?_toArray, List.getElem?_cons_succ, List.getElem?_cons_zero] at a0
            go_simp
          simp only [Act.put, List.getElem_toArray, List.getElem_cons_succ, List.getElem_cons_zero, List.setIfInBounds_toArray, List.set_cons_zero, List.set_cons_succ]
          refine wpAnyH_ready (rs := [17]) (by kernel_rfl) (by simp) ?_
          refine AllReadyH.cons rfl (fun K hK => ?_) AllReadyH.nil
          go_simp
          refine (keptT_any gT capT (.slice xh phs.length ch) phs w7 HLD7.out.one.lt HCT.out (HIN.out.hr.below HS7.out.lw.bel) HCA.out.2.hl).mono ?_
          rintro e w8 ⟨rfl, b8⟩
          replace hHeld := hHeld.below b8
          go_simp
          refine hK.out _ _ hHeld (fun hHeld => ?_)
          clear hK K
          refine wpAnyH_take (i := 18) (v := .bool false) rfl (by kernel_rfl) (by kernel_rfl) (by kernel_rfl) (fun _ _ _ h => h) (Or.inl ⟨by rfl, ?_⟩) hHeld ?_
          · intro u hu
            go_simp
          simp only [Act.put, List.getElem_toArray, List.getElem_cons_succ, List.getElem_cons_zero, List.setIfInBounds_toArray, List.set_cons_zero, List.set_cons_succ]
          refine wpAnyH_take (i := 19) (v := .bool false) rfl (by kernel_rfl) (by kernel_rfl) (by kernel_rfl) (fun _ _ _ h => h) (Or.inl ⟨by rfl, ?_⟩) hHeld ?_
          · intro u hu
            go_simp
          simp only [Act.put, List.getElem_toArray, List.getElem_cons_succ, List.getElem_cons_zero, List.setIfInBounds_toArray, List.set_cons_zero, List.set_cons_succ]
          refine wpAnyH_take (i := 20) (v := .bool false) rfl (by kernel_rfl) (by kernel_rfl) (by kernel_rfl) (fun _ _ _ h => h) (Or.inl ⟨by rfl, ?_⟩) hHeld ?_
          · intro u hu
            go_simp
          simp only [Act.put, List.getElem_toArray, List.getElem_cons_succ, List.getElem_cons_zero, List.setIfInBounds_toArray, List.set_cons_zero, List.set_cons_succ]
          refine wpAnyH_take (i := 21) (v := .pointer (some ⟨wr.heap.size + 1, 2, none⟩)) rfl (by kernel_rfl) (by kernel_rfl) (by kernel_rfl) (fun _ _ _ h => h) (Or.inl ⟨by rfl, ?_⟩) hHeld ?_
          · intro u hu
            go_simp
          simp only [Act.put, List.getElem_toArray, List.getElem_cons_succ, List.getElem_cons_zero, List.setIfInBounds_toArray, List.set_cons_zero, List.set_cons_succ]
          refine wpAnyH_take (i := 22) (v := .slice (some ⟨gB, 0, none⟩) pgl.length capB) rfl (by kernel_rfl) (by kernel_rfl) (by kernel_rfl) (fun _ _ _ h => h) (Or.inl ⟨by rfl, ?_⟩) hHeld ?_
          · intro u hu
            have a0 := hu.one.d.cell 2; simp only [List.getElem?_toArray, List.getElem?_cons_succ, List.getElem?_cons_zero] at a0
            go_simp
          simp only [Act.put, List.getElem_toArray, List.getElem_cons_succ, List.getElem_cons_zero, List.setIfInBounds_toArray, List.set_cons_zero, List.set_cons_succ]
          refine wpAnyH_take (i := 23) (v := .pointer (some ⟨wr.heap.size, 1, none⟩)) rfl (by kernel_rfl) (by kernel_rfl) (by kernel_rfl) (fun _ _ _ h => h) (Or.inl ⟨by rfl, ?_⟩) hHeld ?_
          · intro u hu
            go_simp
          simp only [Act.put, List.getElem_toArray, List.getElem_cons_succ, List.getElem_cons_zero, List.setIfInBounds_toArray, List.set_cons_zero, List.set_cons_succ]
          refine wpAnyH_take (i := 24) (v := .pointer (some ⟨wr.heap.size, 3, none⟩)) rfl (by kernel_rfl) (by kernel_rfl) (by kernel_rfl) (fun _ _ _ h => h) (Or.inl ⟨by rfl, ?_⟩) hHeld ?_
          · intro u hu
            go_simp
          simp only [Act.put, List.getElem_toArray, List.getElem_cons_succ, List.getElem_cons_zero, List.setIfInBounds_toArray, List.set_cons_zero, List.set_cons_succ]
          refine wpAnyH_take (i := 25) (v := .slice xg pgl.length cg) rfl (by kernel_rfl) (by kernel_rfl) (by kernel_rfl) (fun _ _ _ h => h) (Or.inl ⟨by rfl, ?_⟩) hHeld ?_
          · intro u hu
            have a0 := hu.one.a.cell 3; simp only [List.getElem?_toArray, List.getElem?_cons_succ, List.getElem?_cons_zero] at a0
            go_simp
          simp only [Act.put, List.getElem_toArray, List.getElem_cons_succ, List.getElem_cons_zero, List.setIfInBounds_toArray, List.set_cons_zero, List.set_cons_succ]
          refine wpAnyH_ready (rs := [26]) (by kernel_rfl) (by simp) ?_
          refine AllReadyH.cons rfl (fun K hK => ?_) AllReadyH.nil
          go_simp
          refine (Cu.keptBg_any gB capB (.slice xg pgl.length cg) pgl w8 (HLD7.out.below b8).lb HCB.out (HIN.out.gr.below (next HS7.out.lw.bel b8)) HCA.out.2.gl).mono ?_
          rintro e w9 ⟨rfl, b9⟩
          replace hHeld := hHeld.below b9
          go_simp
          refine hK.out _ _ hHeld (fun hHeld => ?_)
          clear hK K
          refine wpAnyH_take (i := 27) (v := .bool false) rfl (by kernel_rfl) (by kernel_rfl) (by kernel_rfl) (fun _ _ _ h => h) (Or.inl ⟨by rfl, ?_⟩) hHeld ?_
          · intro u hu
            go_simp
          simp only [Act.put, List.getElem_toArray, List.getElem_cons_succ, List.getElem_cons_zero, List.setIfInBounds_toArray, List.set_cons_zero, List.set_cons_succ]
          refine wpAnyH_take (i := 28) (v := .bool false) rfl (by kernel_rfl) (by kernel_rfl) (by kernel_rfl) (fun _ _ _ h => h) (Or.inl ⟨by rfl, ?_⟩) hHeld ?_
          · intro u hu
            go_simp
          simp only [Act.put, List.getElem_toArray, List.getElem_cons_succ, List.getElem_cons_zero, List.setIfInBounds_toArray, List.set_cons_zero, List.set_cons_succ]
          refine wpAnyH_done (by kernel_rfl) ?_ _
          have HB9 : Hid (Below w7.heap.size w7 w9) := next b8 b9
          have HLD9 : Hid (LD w9 wr.heap.size #[.int .i64 pk, .string pc, .slice xh phs.length ch, .slice xg pgl.length cg, .int .i64 pttl, .string pfr, .int .i64 pnow, .string ph, .int .i64 pa, .int .i64 pu, .string pn] #[.string pc, .slice (some ⟨gT, 0, none⟩) phs.length capT, .slice (some ⟨gB, 0, none⟩) pgl.length capB, .int .i64 pttl] gT capT phs gB capB pgl) := hHeld
          have u1 := hHeld.one.d.cell 1
          simp only [List.getElem?_toArray, List.getElem?_cons_succ, List.getElem?_cons_zero] at u1
          have hst := spoilT_far hHeld.one.ot (textsF_tC HCA.out.2.hs) HCA.out.2.hl
          obtain ⟨M9, hM9⟩ : ∃ M9, M9 = Cu.newM (Cu.newM M wr w5) w6.drew w7 := ⟨_, rfl⟩
          have HM9 : Hid (M9 gT ∧ M9 gB ∧ ¬ Cu.rsf gr V9 L9 gT ∧ ¬ Cu.rsf gr V9 L9 gB) := by
            have h1 := HLD9.out.one.gT.1
            have h2 := HLD9.out.gB.1
            have h3 := HGT.out
            rw [hM9]
            exact ⟨.inl (.inr ⟨by omega, h3.1⟩), .inl (.inr ⟨by omega, h3.2.1⟩), HFT.out _ (by omega) (by omega), HFT.out _ (by omega) (by omega)⟩
          have HS9b : Hid (Cu.SA w w9 o gr V9 Hs Hb F9 L9 M9) := by unfold Hid; rw [hM9]; exact HS7.out.below HB9.out
          clear hHeld hM9 HS7 HB9 HLD7 HFT HGT HS6 HLD6 b8 b9
          obtain ⟨CC, hCC⟩ : ∃ CC, CC = Cu.deepF F9 pn pnow := ⟨_, rfl⟩
          have hdi : Cu.DeepIs F9 pn pnow CC := by rw [hCC]; exact Cu.deep_is HF9.out.tr pn pnow
          have HDC : Hid (Cu.deepF F9 pn pnow = CC) := hCC.symm
          have HCS : Hid (CC.size ≤ maxLen) := by have := hdi.size; unfold Hid maxLen; omega
          have HDP : Hid (∀ (V9 : Value) (L9 : List (Cu.Rk × Cu.RQ)) (U : World), Cu.RS U gr V9 L9 → (∀ c ∈ F9, Cu.OkC c) → Cu.fstR L9 = Cu.allK Hs Hb F9 → Calls Tryz.prog 21 #[.pointer (some ⟨gr, 0, none⟩), .string pn, .int .i64 pnow] U fun e w' => e = .returned (.string CC) ∧ Below U.heap.size U w') := fun V9 L9 U hr hok he => Cu.rdeep_any hr pn pnow HPN.out CC (by rw [he, Cu.deep_of HF9.out hok, HDC.out])
          clear hdi hCC
          go_wp2_with (first
            | (go_at_call 17; go_must (refine hst.mono ?_); rintro e w10 ⟨rfl, T10⟩; have HS10 : Hid (Cu.SA w w10 o gr V9 Hs Hb F9 L9 M9) := HS9b.out.wrote T10 (fun k hk => by have e : k = gT := (Option.some.inj hk).symm; subst e; exact ⟨HM9.out.1, HM9.out.2.2.1⟩); have ka10 := T10.blk HLD9.out.one.a (fun hk => by have e : wr.heap.size = gT := (Option.some.inj hk).symm; have := HLD9.out.one.gT.1; omega); have kd10 := T10.blk HLD9.out.one.d (fun hk => by have e : wr.heap.size + 1 = gT := (Option.some.inj hk).symm; have := HLD9.out.one.gT.1; omega); have u2 := kd10.cell 2; simp only [List.getElem?_toArray, List.getElem?_cons_succ, List.getElem?_cons_zero] at u2; have ob10 := T10.row HLD9.out.ob (fun k hk e => Cu.own_far HLD9.out.ob HLD9.out.one.ot (by decide) k hk e); have hsb := Cu.spoilBg_any ob10 (Cu.numsBg pgl) HCA.out.2.gl; have HKA10 : Hid (Blk w10 wr.heap.size #[.int .i64 pk, .string pc, .slice xh phs.length ch, .slice xg pgl.length cg, .int .i64 pttl, .string pfr, .int .i64 pnow, .string ph, .int .i64 pa, .int .i64 pu, .string pn] 41) := ka10; clear hst T10 ka10 kd10 ob10 u1)
            | (go_at_call 18; go_must (refine hsb.mono ?_); rintro e w11 ⟨rfl, T11⟩; have HS9 : Hid (Cu.SA w w11 o gr V9 Hs Hb F9 L9 M9) := HS10.out.wrote T11 (fun k hk => by have e : k = gB := (Option.some.inj hk).symm; subst e; exact ⟨HM9.out.2.1, HM9.out.2.2.2⟩); have KA9 : Hid (Blk w11 wr.heap.size #[.int .i64 pk, .string pc, .slice xh phs.length ch, .slice xg pgl.length cg, .int .i64 pttl, .string pfr, .int .i64 pnow, .string ph, .int .i64 pa, .int .i64 pu, .string pn] 41) := T11.blk HKA10.out (fun hk => by have e : wr.heap.size = gB := (Option.some.inj hk).symm; have := HLD9.out.gB.1; omega); have x6 := KA9.out.cell 6; have x10 := KA9.out.cell 10; simp only [List.getElem?_toArray, List.getElem?_cons_succ, List.getElem?_cons_zero] at x6 x10; clear hsb T11 u2 HS10 HKA10)
            | (go_at_call 21; go_must (refine (HDP.out _ _ _ HS9.out.rs HS9.out.lw.ok HE9.out).mono ?_); rintro e wa ⟨rfl, ba⟩; have HSa : Hid (Cu.SA w wa o gr V9 Hs Hb F9 L9 M9) := HS9.out.below ba; have KAa : Hid (Blk wa wr.heap.size #[.int .i64 pk, .string pc, .slice xh phs.length ch, .slice xg pgl.length cg, .int .i64 pttl, .string pfr, .int .i64 pnow, .string ph, .int .i64 pa, .int .i64 pu, .string pn] 41) := KA9.out.below ba; clear x6 x10 ba KA9))
          clear HM9 HLD9 HS9b
          obtain ⟨BX, hBX⟩ : ∃ BX, BX = Cu.bindF Hb F9 CC pnow := ⟨_, rfl⟩
          obtain ⟨HX, hHX⟩ : ∃ HX, HX = Cu.hostsF Hs F9 CC pnow := ⟨_, rfl⟩
          obtain ⟨BN, hBN⟩ : ∃ BN, BN = Cu.bindF Hb F9 pn pnow := ⟨_, rfl⟩
          obtain ⟨NB, hNB⟩ : ∃ NB, NB = BX.length := ⟨_, rfl⟩
          obtain ⟨NH, hNH⟩ : ∃ NH, NH = HX.length := ⟨_, rfl⟩
          obtain ⟨NN, hNN⟩ : ∃ NN, NN = BN.length := ⟨_, rfl⟩
          have HBX : Hid (Cu.bindF Hb F9 CC pnow = BX ∧ BX.length = NB ∧ Cu.bindK (Cu.fstR L9) CC pnow = BX) := ⟨hBX.symm, hNB.symm, by rw [HE9.out, Cu.binds_of HF9.out HS9.out.lw.ok, hBX]⟩
          have HHX : Hid (Cu.hostsF Hs F9 CC pnow = HX ∧ HX.length = NH ∧ Cu.hostsK (Cu.fstR L9) CC pnow = HX) := ⟨hHX.symm, hNH.symm, by rw [HE9.out, Cu.hosts_of HF9.out HS9.out.lw.ok, hHX]⟩
          have HBN : Hid (Cu.bindF Hb F9 pn pnow = BN ∧ BN.length = NN ∧ Cu.bindK (Cu.fstR L9) pn pnow = BN) := ⟨hBN.symm, hNN.symm, by rw [HE9.out, Cu.binds_of HF9.out HS9.out.lw.ok, hBN]⟩
          have HLB : Hid (BX.length ≤ 256 ∧ BN.length ≤ 256) := ⟨by rw [hBX]; exact Cu.bindF_ok HHB.out.2.2 HS9.out.lw.ok _ _, by rw [hBN]; exact Cu.bindF_ok HHB.out.2.2 HS9.out.lw.ok _ _⟩
          have HLH : Hid (HX.length ≤ 8 ∧ ∀ h ∈ HX, h.size ≤ 255) := by rw [hHX]; exact Cu.hostsF_ok ⟨HHB.out.1, HHB.out.2.1⟩ HS9.out.lw.ok CC pnow
          clear hBX hHX hBN hNB hNH hNN HS9 HDP
          -- x and y
          refine wp_region_held_drew (S := fun u => Blk u wr.heap.size #[.int .i64 pk, .string pc, .slice xh phs.length ch, .slice xg pgl.length cg, .int .i64 pttl, .string pfr, .int .i64 pnow, .string ph, .int .i64 pa, .int .i64 pu, .string pn] 41) (by kernel_rfl) (KAa.out.below (Below.refl _ _).drew) (fun hHeld => ?_)
          refine wpAnyH_take (i := 0) (v := .pointer (some ⟨o.gs, 0, none⟩)) rfl (by kernel_rfl) (by kernel_rfl) (by kernel_rfl) (fun _ _ _ h => h) (Or.inl ⟨by rfl, ?_⟩) hHeld ?_
          · intro u hu
            go_simp
          simp only [Act.put, List.getElem_toArray, List.getElem_cons_zero, List.setIfInBounds_toArray, List.set_cons_zero, List.set_cons_succ]
          refine wpAnyH_take (i := 1) (v := .string CC) rfl (by kernel_rfl) (by kernel_rfl) (by kernel_rfl) (fun _ _ _ h => h) (Or.inl ⟨by rfl, ?_⟩) hHeld ?_
          · intro u hu
            go_simp
          simp only [Act.put, List.getElem_toArray, List.getElem_cons_succ, List.getElem_cons_zero, List.setIfInBounds_toArray, List.set_cons_zero, List.set_cons_succ]
          refine wpAnyH_take (i := 2) (v := .pointer (some ⟨wr.heap.size, 6, none⟩)) rfl (by kernel_rfl) (by kernel_rfl) (by kernel_rfl) (fun _ _ _ h => h) (Or.inl ⟨by rfl, ?_⟩) hHeld ?_
          · intro u hu
            go_simp
          simp only [Act.put, List.getElem_toArray, List.getElem_cons_succ, List.getElem_cons_zero, List.setIfInBounds_toArray, List.set_cons_zero, List.set_cons_succ]
          refine wpAnyH_take (i := 3) (v := .int .i64 pnow) rfl (by kernel_rfl) (by kernel_rfl) (by kernel_rfl) (fun _ _ _ h => h) (Or.inl ⟨by rfl, ?_⟩) hHeld ?_
          · intro u hu
            have a0 := hu.cell 6; simp only [List.getElem?_toArray, List.getElem?_cons_succ, List.getElem?_cons_zero] at a0
            go_simp
          simp only [Act.put, List.getElem_toArray, List.getElem_cons_succ, List.getElem_cons_zero, List.setIfInBounds_toArray, List.set_cons_zero, List.set_cons_succ]
          refine wpAnyH_take (i := 5) (v := .pointer (some ⟨o.gs, 0, none⟩)) rfl (by kernel_rfl) (by kernel_rfl) (by kernel_rfl) (fun _ _ _ h => h) (Or.inl ⟨by rfl, ?_⟩) hHeld ?_
          · intro u hu
            go_simp
          simp only [Act.put, List.getElem_toArray, List.getElem_cons_succ, List.getElem_cons_zero, List.setIfInBounds_toArray, List.set_cons_zero, List.set_cons_succ]
          refine wpAnyH_take (i := 6) (v := .string CC) rfl (by kernel_rfl) (by kernel_rfl) (by kernel_rfl) (fun _ _ _ h => h) (Or.inl ⟨by rfl, ?_⟩) hHeld ?_
          · intro u hu
            go_simp
          simp only [Act.put, List.getElem_toArray, List.getElem_cons_succ, List.getElem_cons_zero, List.setIfInBounds_toArray, List.set_cons_zero, List.set_cons_succ]
          refine wpAnyH_take (i := 7) (v := .pointer (some ⟨wr.heap.size, 6, none⟩)) rfl (by kernel_rfl) (by kernel_rfl) (by kernel_rfl) (fun _ _ _ h => h) (Or.inl ⟨by rfl, ?_⟩) hHeld ?_
          · intro u hu
            go_simp
          simp only [Act.put, List.getElem_toArray, List.getElem_cons_succ, List.getElem_cons_zero, List.setIfInBounds_toArray, List.set_cons_zero, List.set_cons_succ]
          refine wpAnyH_take (i := 8) (v := .int .i64 pnow) rfl (by kernel_rfl) (by kernel_rfl) (by kernel_rfl) (fun _ _ _ h => h) (Or.inl ⟨by rfl, ?_⟩) hHeld ?_
          · intro u hu
            have a0 := hu.cell 6; simp only [List.getElem?_toArray, List.getElem?_cons_succ, List.getElem?_cons_zero] at a0
            go_simp
          simp only [Act.put, List.getElem_toArray, List.getElem_cons_succ, List.getElem_cons_zero, List.setIfInBounds_toArray, List.set_cons_zero, List.set_cons_succ]
          refine wpAnyH_ready (rs := [4]) (by kernel_rfl) (by simp) ?_
          refine AllReadyH.cons rfl (fun K hK => ?_) AllReadyH.nil
          go_simp
          refine ((HSa.out.below (Below.refl _ _).drew).lw.binds CC pnow HCS.out BX HBX.out.1 NB HBX.out.2.1).mono ?_
          rintro e wb ⟨yb, cb, rfl, ob, lb, bb⟩
          have bb' : Below wa.heap.size wa wb := next (Below.refl _ _).drew bb
          have ob' : wb.ownsRow wa.heap.size 65 5 (.slice yb NB cb) NB (Cu.bC BX) := own_base ob (Below.refl wa.heap.size wa).drew.size
          replace hHeld := hHeld.below bb
          clear lb bb ob
          go_simp
          refine hK.out _ _ hHeld (fun hHeld => ?_)
          clear hK K
          refine wpAnyH_ready (rs := [9]) (by kernel_rfl) (by simp) ?_
          refine AllReadyH.cons rfl (fun K hK => ?_) AllReadyH.nil
          go_simp
          refine ((HSa.out.below bb').lw.hosts CC pnow HCS.out HX HHX.out.1 NH HHX.out.2.1).mono ?_
          rintro e wc ⟨yh, ch2, rfl, oh, lc, bc⟩
          replace hHeld := hHeld.below bc
          have HBC : Hid (Below wa.heap.size wa wc) := next bb' bc
          have HOB : Hid (wc.ownsRow wa.heap.size 65 5 (.slice yb NB cb) NB (Cu.bC BX)) := own_past ob' bc
          have HOH : Hid (wc.ownsRow wa.heap.size 9 1 (.slice yh NH ch2) NH (tC HX)) := own_base oh bb'.size
          clear lc bc ob' oh bb'
          go_simp
          refine hK.out _ _ hHeld (fun hHeld => ?_)
          clear hK K
          refine wpAnyH_take (i := 10) (v := .slice yb NB cb) rfl (by kernel_rfl) (by kernel_rfl) (by kernel_rfl) (fun _ _ _ h => h) (Or.inl ⟨by rfl, ?_⟩) hHeld ?_
          · intro u hu
            go_simp
          simp only [Act.put, List.getElem_toArray, List.getElem_cons_succ, List.getElem_cons_zero, List.setIfInBounds_toArray, List.set_cons_zero, List.set_cons_succ]
          refine wpAnyH_take (i := 11) (v := .slice yh NH ch2) rfl (by kernel_rfl) (by kernel_rfl) (by kernel_rfl) (fun _ _ _ h => h) (Or.inl ⟨by rfl, ?_⟩) hHeld ?_
          · intro u hu
            go_simp
          simp only [Act.put, List.getElem_toArray, List.getElem_cons_succ, List.getElem_cons_zero, List.setIfInBounds_toArray, List.set_cons_zero, List.set_cons_succ]
          refine wpAnyH_done (by kernel_rfl) ?_ _
          have KAc : Hid (Blk wc wr.heap.size #[.int .i64 pk, .string pc, .slice xh phs.length ch, .slice xg pgl.length cg, .int .i64 pttl, .string pfr, .int .i64 pnow, .string ph, .int .i64 pa, .int .i64 pu, .string pn] 41) := hHeld
          clear hHeld KAa
          go_wp2
          -- they are the same
          refine wp_region_held_drew (S := fun u => Blk u wr.heap.size #[.int .i64 pk, .string pc, .slice xh phs.length ch, .slice xg pgl.length cg, .int .i64 pttl, .string pfr, .int .i64 pnow, .string ph, .int .i64 pa, .int .i64 pu, .string pn] 41) (by kernel_rfl) (KAc.out.below (Below.refl _ _).drew) (fun hHeld => ?_)
          have hw : Below wc.heap.size wc wc.drew := (Below.refl _ _).drew
          have hxc : (CC.toList == CC.toList) = true := by simp
          refine wpAnyH_take (i := 0) (v := .pointer (some ⟨o.gs, 0, none⟩)) rfl (by kernel_rfl) (by kernel_rfl) (by kernel_rfl) (fun _ _ _ h => h) (Or.inl ⟨by rfl, ?_⟩) hHeld ?_
          · intro u hu
            go_simp
          simp only [Act.put, List.getElem_toArray, List.getElem_cons_zero, List.setIfInBounds_toArray, List.set_cons_zero, List.set_cons_succ]
          refine wpAnyH_take (i := 1) (v := .pointer (some ⟨wr.heap.size, 10, none⟩)) rfl (by kernel_rfl) (by kernel_rfl) (by kernel_rfl) (fun _ _ _ h => h) (Or.inl ⟨by rfl, ?_⟩) hHeld ?_
          · intro u hu
            go_simp
          simp only [Act.put, List.getElem_toArray, List.getElem_cons_succ, List.getElem_cons_zero, List.setIfInBounds_toArray, List.set_cons_zero, List.set_cons_succ]
          refine wpAnyH_take (i := 2) (v := .string pn) rfl (by kernel_rfl) (by kernel_rfl) (by kernel_rfl) (fun _ _ _ h => h) (Or.inl ⟨by rfl, ?_⟩) hHeld ?_
          · intro u hu
            have a0 := hu.cell 10; simp only [List.getElem?_toArray, List.getElem?_cons_succ, List.getElem?_cons_zero] at a0
            go_simp
          simp only [Act.put, List.getElem_toArray, List.getElem_cons_succ, List.getElem_cons_zero, List.setIfInBounds_toArray, List.set_cons_zero, List.set_cons_succ]
          refine wpAnyH_take (i := 3) (v := .pointer (some ⟨wr.heap.size, 6, none⟩)) rfl (by kernel_rfl) (by kernel_rfl) (by kernel_rfl) (fun _ _ _ h => h) (Or.inl ⟨by rfl, ?_⟩) hHeld ?_
          · intro u hu
            go_simp
          simp only [Act.put, List.getElem_toArray, List.getElem_cons_succ, List.getElem_cons_zero, List.setIfInBounds_toArray, List.set_cons_zero, List.set_cons_succ]
          refine wpAnyH_take (i := 4) (v := .int .i64 pnow) rfl (by kernel_rfl) (by kernel_rfl) (by kernel_rfl) (fun _ _ _ h => h) (Or.inl ⟨by rfl, ?_⟩) hHeld ?_
          · intro u hu
            have a0 := hu.cell 6; simp only [List.getElem?_toArray, List.getElem?_cons_succ, List.getElem?_cons_zero] at a0
            go_simp
          simp only [Act.put, List.getElem_toArray, List.getElem_cons_succ, List.getElem_cons_zero, List.setIfInBounds_toArray, List.set_cons_zero, List.set_cons_succ]
          refine wpAnyH_take (i := 6) (v := .string CC) rfl (by kernel_rfl) (by kernel_rfl) (by kernel_rfl) (fun _ _ _ h => h) (Or.inl ⟨by rfl, ?_⟩) hHeld ?_
          · intro u hu
            go_simp
          simp only [Act.put, List.getElem_toArray, List.getElem_cons_succ, List.getElem_cons_zero, List.setIfInBounds_toArray, List.set_cons_zero, List.set_cons_succ]
          refine wpAnyH_ready (rs := [5]) (by kernel_rfl) (by simp) ?_
          refine AllReadyH.cons rfl (fun K hK => ?_) AllReadyH.nil
          go_simp
          refine ((HSa.out.below (next HBC.out hw)).lw.deep pn pnow HPN.out CC HDC.out).mono ?_
          rintro e wd ⟨rfl, _, bd⟩
          replace hHeld := hHeld.below bd
          replace hw := next hw bd
          clear bd
          go_simp
          refine hK.out _ _ hHeld (fun hHeld => ?_)
          clear hK K
          refine wpAnyH_take (i := 7) (v := .bool false) rfl (by kernel_rfl) (by kernel_rfl) (by kernel_rfl) (fun _ _ _ h => h) (Or.inl ⟨by rfl, ?_⟩) hHeld ?_
          · intro u hu
            go_simp
          simp only [Act.put, List.getElem_toArray, List.getElem_cons_succ, List.getElem_cons_zero, List.setIfInBounds_toArray, List.set_cons_zero, List.set_cons_succ]
          refine wpAnyH_take (i := 8) (v := .bool false) rfl (by kernel_rfl) (by kernel_rfl) (by kernel_rfl) (fun _ _ _ h => h) (Or.inl ⟨by rfl, ?_⟩) hHeld ?_
          · intro u hu
            go_simp
          simp only [Act.put, List.getElem_toArray, List.getElem_cons_succ, List.getElem_cons_zero, List.setIfInBounds_toArray, List.set_cons_zero, List.set_cons_succ]
          refine wpAnyH_take (i := 9) (v := .slice yb NB cb) rfl (by kernel_rfl) (by kernel_rfl) (by kernel_rfl) (fun _ _ _ h => h) (Or.inl ⟨by rfl, ?_⟩) hHeld ?_
          · intro u hu
            go_simp
          simp only [Act.put, List.getElem_toArray, List.getElem_cons_succ, List.getElem_cons_zero, List.setIfInBounds_toArray, List.set_cons_zero, List.set_cons_succ]
          refine wpAnyH_take (i := 10) (v := .pointer (some ⟨gr, 0, none⟩)) rfl (by kernel_rfl) (by kernel_rfl) (by kernel_rfl) (fun _ _ _ h => h) (Or.inl ⟨by rfl, ?_⟩) hHeld ?_
          · intro u hu
            go_simp
          simp only [Act.put, List.getElem_toArray, List.getElem_cons_succ, List.getElem_cons_zero, List.setIfInBounds_toArray, List.set_cons_zero, List.set_cons_succ]
          refine wpAnyH_take (i := 11) (v := .string CC) rfl (by kernel_rfl) (by kernel_rfl) (by kernel_rfl) (fun _ _ _ h => h) (Or.inl ⟨by rfl, ?_⟩) hHeld ?_
          · intro u hu
            go_simp
          simp only [Act.put, List.getElem_toArray, List.getElem_cons_succ, List.getElem_cons_zero, List.setIfInBounds_toArray, List.set_cons_zero, List.set_cons_succ]
          refine wpAnyH_take (i := 12) (v := .pointer (some ⟨wr.heap.size, 6, none⟩)) rfl (by kernel_rfl) (by kernel_rfl) (by kernel_rfl) (fun _ _ _ h => h) (Or.inl ⟨by rfl, ?_⟩) hHeld ?_
          · intro u hu
            go_simp
          simp only [Act.put, List.getElem_toArray, List.getElem_cons_succ, List.getElem_cons_zero, List.setIfInBounds_toArray, List.set_cons_zero, List.set_cons_succ]
          refine wpAnyH_take (i := 13) (v := .int .i64 pnow) rfl (by kernel_rfl) (by kernel_rfl) (by kernel_rfl) (fun _ _ _ h => h) (Or.inl ⟨by rfl, ?_⟩) hHeld ?_
          · intro u hu
            have a0 := hu.cell 6; simp only [List.getElem?_toArray, List.getElem?_cons_succ, List.getElem?_cons_zero] at a0
            go_simp
          simp only [Act.put, List.getElem_toArray, List.getElem_cons_succ, List.getElem_cons_zero, List.setIfInBounds_toArray, List.set_cons_zero, List.set_cons_succ]
          refine wpAnyH_ready (rs := [14]) (by kernel_rfl) (by simp) ?_
          refine AllReadyH.cons rfl (fun K hK => ?_) AllReadyH.nil
          go_simp
          refine (Cu.rbinds_any (HSa.out.below (next HBC.out hw)).rs CC pnow HCS.out BX HBX.out.2.2 NB HBX.out.2.1).mono ?_
          rintro e we ⟨ye, ce, rfl, oe, be⟩
          replace hHeld := hHeld.below be
          replace hw := next hw be
          have hsb := Cu.sameBg_yes (.slice yb NB cb) (.slice ye NB ce) BX we (by rw [HBX.out.2.1]; exact Row.of_own (own_past HOB.out hw)) (by rw [HBX.out.2.1]; exact Row.of_own oe) (by have := HLB.out.1; unfold maxLen; omega)
          clear be
          go_simp
          refine hK.out _ _ hHeld (fun hHeld => ?_)
          clear hK K
          refine wpAnyH_ready (rs := [15]) (by kernel_rfl) (by simp) ?_
          refine AllReadyH.cons rfl (fun K hK => ?_) AllReadyH.nil
          go_simp
          refine hsb.mono ?_
          rintro e wf ⟨rfl, bf⟩
          replace hHeld := hHeld.below bf
          replace hw := next hw bf
          clear bf hsb
          go_simp
          refine hK.out _ _ hHeld (fun hHeld => ?_)
          clear hK K
          refine wpAnyH_take (i := 16) (v := .bool false) rfl (by kernel_rfl) (by kernel_rfl) (by kernel_rfl) (fun _ _ _ h => h) (Or.inl ⟨by rfl, ?_⟩) hHeld ?_
          · intro u hu
            go_simp
          simp only [Act.put, List.getElem_toArray, List.getElem_cons_succ, List.getElem_cons_zero, List.setIfInBounds_toArray, List.set_cons_zero, List.set_cons_succ]
          refine wpAnyH_take (i := 17) (v := .bool false) rfl (by kernel_rfl) (by kernel_rfl) (by kernel_rfl) (fun _ _ _ h => h) (Or.inl ⟨by rfl, ?_⟩) hHeld ?_
          · intro u hu
            go_simp
          simp only [Act.put, List.getElem_toArray, List.getElem_cons_succ, List.getElem_cons_zero, List.setIfInBounds_toArray, List.set_cons_zero, List.set_cons_succ]
          refine wpAnyH_take (i := 18) (v := .bool false) rfl (by kernel_rfl) (by kernel_rfl) (by kernel_rfl) (fun _ _ _ h => h) (Or.inl ⟨by rfl, ?_⟩) hHeld ?_
          · intro u hu
            go_simp
          simp only [Act.put, List.getElem_toArray, List.getElem_cons_succ, List.getElem_cons_zero, List.setIfInBounds_toArray, List.set_cons_zero, List.set_cons_succ]
          refine wpAnyH_take (i := 19) (v := .slice yh NH ch2) rfl (by kernel_rfl) (by kernel_rfl) (by kernel_rfl) (fun _ _ _ h => h) (Or.inl ⟨by rfl, ?_⟩) hHeld ?_
          · intro u hu
            go_simp
          simp only [Act.put, List.getElem_toArray, List.getElem_cons_succ, List.getElem_cons_zero, List.setIfInBounds_toArray, List.set_cons_zero, List.set_cons_succ]
          refine wpAnyH_take (i := 20) (v := .pointer (some ⟨gr, 0, none⟩)) rfl (by kernel_rfl) (by kernel_rfl) (by kernel_rfl) (fun _ _ _ h => h) (Or.inl ⟨by rfl, ?_⟩) hHeld ?_
          · intro u hu
            go_simp
          simp only [Act.put, List.getElem_toArray, List.getElem_cons_succ, List.getElem_cons_zero, List.setIfInBounds_toArray, List.set_cons_zero, List.set_cons_succ]
          refine wpAnyH_take (i := 21) (v := .string CC) rfl (by kernel_rfl) (by kernel_rfl) (by kernel_rfl) (fun _ _ _ h => h) (Or.inl ⟨by rfl, ?_⟩) hHeld ?_
          · intro u hu
            go_simp
          simp only [Act.put, List.getElem_toArray, List.getElem_cons_succ, List.getElem_cons_zero, List.setIfInBounds_toArray, List.set_cons_zero, List.set_cons_succ]
          refine wpAnyH_take (i := 22) (v := .pointer (some ⟨wr.heap.size, 6, none⟩)) rfl (by kernel_rfl) (by kernel_rfl) (by kernel_rfl) (fun _ _ _ h => h) (Or.inl ⟨by rfl, ?_⟩) hHeld ?_
          · intro u hu
            go_simp
          simp only [Act.put, List.getElem_toArray, List.getElem_cons_succ, List.getElem_cons_zero, List.setIfInBounds_toArray, List.set_cons_zero, List.set_cons_succ]
          refine wpAnyH_take (i := 23) (v := .int .i64 pnow) rfl (by kernel_rfl) (by kernel_rfl) (by kernel_rfl) (fun _ _ _ h => h) (Or.inl ⟨by rfl, ?_⟩) hHeld ?_
          · intro u hu
            have a0 := hu.cell 6; simp only [List.getElem?_toArray, List.getElem?_cons_succ, List.getElem?_cons_zero] at a0
            go_simp
          simp only [Act.put, List.getElem_toArray, List.getElem_cons_succ, List.getElem_cons_zero, List.setIfInBounds_toArray, List.set_cons_zero, List.set_cons_succ]
          refine wpAnyH_ready (rs := [24]) (by kernel_rfl) (by simp) ?_
          refine AllReadyH.cons rfl (fun K hK => ?_) AllReadyH.nil
          go_simp
          refine (Cu.rhosts_any (HSa.out.below (next HBC.out hw)).rs CC pnow HCS.out HX HHX.out.2.2 NH HHX.out.2.1).mono ?_
          rintro e wg ⟨yg, cg2, rfl, og, bg⟩
          replace hHeld := hHeld.below bg
          replace hw := next hw bg
          have hst := sameT_any (.slice yh NH ch2) (.slice yg NH cg2) HX HX wg (by rw [HHX.out.2.1]; exact Row.of_own (own_past HOH.out hw)) (by rw [HHX.out.2.1]; exact Row.of_own og) (by have := HLH.out.1; unfold maxLen; omega) (by have := HLH.out.1; unfold maxLen; omega) true (by simp)
          clear bg
          go_simp
          refine hK.out _ _ hHeld (fun hHeld => ?_)
          clear hK K
          refine wpAnyH_ready (rs := [25]) (by kernel_rfl) (by simp) ?_
          refine AllReadyH.cons rfl (fun K hK => ?_) AllReadyH.nil
          go_simp
          refine hst.mono ?_
          rintro e wh ⟨rfl, bh⟩
          replace hHeld := hHeld.below bh
          replace hw := next hw bh
          clear bh hst
          go_simp
          refine hK.out _ _ hHeld (fun hHeld => ?_)
          clear hK K
          refine wpAnyH_take (i := 26) (v := .bool false) rfl (by kernel_rfl) (by kernel_rfl) (by kernel_rfl) (fun _ _ _ h => h) (Or.inl ⟨by rfl, ?_⟩) hHeld ?_
          · intro u hu
            go_simp
          simp only [Act.put, List.getElem_toArray, List.getElem_cons_succ, List.getElem_cons_zero, List.setIfInBounds_toArray, List.set_cons_zero, List.set_cons_succ]
          refine wpAnyH_take (i := 27) (v := .bool false) rfl (by kernel_rfl) (by kernel_rfl) (by kernel_rfl) (fun _ _ _ h => h) (Or.inl ⟨by rfl, ?_⟩) hHeld ?_
          · intro u hu
            go_simp
          simp only [Act.put, List.getElem_toArray, List.getElem_cons_succ, List.getElem_cons_zero, List.setIfInBounds_toArray, List.set_cons_zero, List.set_cons_succ]
          refine wpAnyH_take (i := 28) (v := .bool false) rfl (by kernel_rfl) (by kernel_rfl) (by kernel_rfl) (fun _ _ _ h => h) (Or.inl ⟨by rfl, ?_⟩) hHeld ?_
          · intro u hu
            go_simp
          simp only [Act.put, List.getElem_toArray, List.getElem_cons_succ, List.getElem_cons_zero, List.setIfInBounds_toArray, List.set_cons_zero, List.set_cons_succ]
          refine wpAnyH_take (i := 29) (v := .pointer (some ⟨o.gs, 0, none⟩)) rfl (by kernel_rfl) (by kernel_rfl) (by kernel_rfl) (fun _ _ _ h => h) (Or.inl ⟨by rfl, ?_⟩) hHeld ?_
          · intro u hu
            go_simp
          simp only [Act.put, List.getElem_toArray, List.getElem_cons_succ, List.getElem_cons_zero, List.setIfInBounds_toArray, List.set_cons_zero, List.set_cons_succ]
          refine wpAnyH_take (i := 30) (v := .pointer (some ⟨wr.heap.size, 10, none⟩)) rfl (by kernel_rfl) (by kernel_rfl) (by kernel_rfl) (fun _ _ _ h => h) (Or.inl ⟨by rfl, ?_⟩) hHeld ?_
          · intro u hu
            go_simp
          simp only [Act.put, List.getElem_toArray, List.getElem_cons_succ, List.getElem_cons_zero, List.setIfInBounds_toArray, List.set_cons_zero, List.set_cons_succ]
          refine wpAnyH_take (i := 31) (v := .string pn) rfl (by kernel_rfl) (by kernel_rfl) (by kernel_rfl) (fun _ _ _ h => h) (Or.inl ⟨by rfl, ?_⟩) hHeld ?_
          · intro u hu
            have a0 := hu.cell 10; simp only [List.getElem?_toArray, List.getElem?_cons_succ, List.getElem?_cons_zero] at a0
            go_simp
          simp only [Act.put, List.getElem_toArray, List.getElem_cons_succ, List.getElem_cons_zero, List.setIfInBounds_toArray, List.set_cons_zero, List.set_cons_succ]
          refine wpAnyH_take (i := 32) (v := .pointer (some ⟨wr.heap.size, 6, none⟩)) rfl (by kernel_rfl) (by kernel_rfl) (by kernel_rfl) (fun _ _ _ h => h) (Or.inl ⟨by rfl, ?_⟩) hHeld ?_
          · intro u hu
            go_simp
          simp only [Act.put, List.getElem_toArray, List.getElem_cons_succ, List.getElem_cons_zero, List.setIfInBounds_toArray, List.set_cons_zero, List.set_cons_succ]
          refine wpAnyH_take (i := 33) (v := .int .i64 pnow) rfl (by kernel_rfl) (by kernel_rfl) (by kernel_rfl) (fun _ _ _ h => h) (Or.inl ⟨by rfl, ?_⟩) hHeld ?_
          · intro u hu
            have a0 := hu.cell 6; simp only [List.getElem?_toArray, List.getElem?_cons_succ, List.getElem?_cons_zero] at a0
            go_simp
          simp only [Act.put, List.getElem_toArray, List.getElem_cons_succ, List.getElem_cons_zero, List.setIfInBounds_toArray, List.set_cons_zero, List.set_cons_succ]
          refine wpAnyH_take (i := 35) (v := .pointer (some ⟨gr, 0, none⟩)) rfl (by kernel_rfl) (by kernel_rfl) (by kernel_rfl) (fun _ _ _ h => h) (Or.inl ⟨by rfl, ?_⟩) hHeld ?_
          · intro u hu
            go_simp
          simp only [Act.put, List.getElem_toArray, List.getElem_cons_succ, List.getElem_cons_zero, List.setIfInBounds_toArray, List.set_cons_zero, List.set_cons_succ]
          refine wpAnyH_take (i := 36) (v := .pointer (some ⟨wr.heap.size, 10, none⟩)) rfl (by kernel_rfl) (by kernel_rfl) (by kernel_rfl) (fun _ _ _ h => h) (Or.inl ⟨by rfl, ?_⟩) hHeld ?_
          · intro u hu
            go_simp
          simp only [Act.put, List.getElem_toArray, List.getElem_cons_succ, List.getElem_cons_zero, List.setIfInBounds_toArray, List.set_cons_zero, List.set_cons_succ]
          refine wpAnyH_take (i := 37) (v := .string pn) rfl (by kernel_rfl) (by kernel_rfl) (by kernel_rfl) (fun _ _ _ h => h) (Or.inl ⟨by rfl, ?_⟩) hHeld ?_
          · intro u hu
            have a0 := hu.cell 10; simp only [List.getElem?_toArray, List.getElem?_cons_succ, List.getElem?_cons_zero] at a0
            go_simp
          simp only [Act.put, List.getElem_toArray, List.getElem_cons_succ, List.getElem_cons_zero, List.setIfInBounds_toArray, List.set_cons_zero, List.set_cons_succ]
          refine wpAnyH_take (i := 38) (v := .pointer (some ⟨wr.heap.size, 6, none⟩)) rfl (by kernel_rfl) (by kernel_rfl) (by kernel_rfl) (fun _ _ _ h => h) (Or.inl ⟨by rfl, ?_⟩) hHeld ?_
          · intro u hu
            go_simp
          simp only [Act.put, List.getElem_toArray, List.getElem_cons_succ, List.getElem_cons_zero, List.setIfInBounds_toArray, List.set_cons_zero, List.set_cons_succ]
          refine wpAnyH_take (i := 39) (v := .int .i64 pnow) rfl (by kernel_rfl) (by kernel_rfl) (by kernel_rfl) (fun _ _ _ h => h) (Or.inl ⟨by rfl, ?_⟩) hHeld ?_
          · intro u hu
            have a0 := hu.cell 6; simp only [List.getElem?_toArray, List.getElem?_cons_succ, List.getElem?_cons_zero] at a0
            go_simp
          simp only [Act.put, List.getElem_toArray, List.getElem_cons_succ, List.getElem_cons_zero, List.setIfInBounds_toArray, List.set_cons_zero, List.set_cons_succ]
          refine wpAnyH_ready (rs := [34]) (by kernel_rfl) (by simp) ?_
          refine AllReadyH.cons rfl (fun K hK => ?_) AllReadyH.nil
          go_simp
          refine ((HSa.out.below (next HBC.out hw)).lw.binds pn pnow HPN.out BN HBN.out.1 NN HBN.out.2.1).mono ?_
          rintro e wi ⟨yi, ci, rfl, oi, _, bi⟩
          replace hHeld := hHeld.below bi
          replace hw := next hw bi
          clear bi
          go_simp
          refine hK.out _ _ hHeld (fun hHeld => ?_)
          clear hK K
          refine wpAnyH_ready (rs := [40]) (by kernel_rfl) (by simp) ?_
          refine AllReadyH.cons rfl (fun K hK => ?_) AllReadyH.nil
          go_simp
          refine (Cu.rbinds_any (HSa.out.below (next HBC.out hw)).rs pn pnow HPN.out BN HBN.out.2.2 NN HBN.out.2.1).mono ?_
          rintro e wj ⟨yj, cj, rfl, oj, bj⟩
          replace hHeld := hHeld.below bj
          replace hw := next hw bj
          have hsn := Cu.sameBg_yes (.slice yi NN ci) (.slice yj NN cj) BN wj (by rw [HBN.out.2.1]; exact Row.of_own (own_past oi bj)) (by rw [HBN.out.2.1]; exact Row.of_own oj) (by have := HLB.out.2; unfold maxLen; omega)
          clear bj
          go_simp
          refine hK.out _ _ hHeld (fun hHeld => ?_)
          clear hK K
          refine wpAnyH_ready (rs := [41]) (by kernel_rfl) (by simp) ?_
          refine AllReadyH.cons rfl (fun K hK => ?_) AllReadyH.nil
          go_simp
          refine hsn.mono ?_
          rintro e wk ⟨rfl, bk⟩
          replace hHeld := hHeld.below bk
          replace hw := next hw bk
          clear bk hsn oi oj oe og
          go_simp
          refine hK.out _ _ hHeld (fun hHeld => ?_)
          clear hK K
          refine wpAnyH_take (i := 42) (v := .bool false) rfl (by kernel_rfl) (by kernel_rfl) (by kernel_rfl) (fun _ _ _ h => h) (Or.inl ⟨by rfl, ?_⟩) hHeld ?_
          · intro u hu
            go_simp
          simp only [Act.put, List.getElem_toArray, List.getElem_cons_succ, List.getElem_cons_zero, List.setIfInBounds_toArray, List.set_cons_zero, List.set_cons_succ]
          refine wpAnyH_take (i := 43) (v := .bool false) rfl (by kernel_rfl) (by kernel_rfl) (by kernel_rfl) (fun _ _ _ h => h) (Or.inl ⟨by rfl, ?_⟩) hHeld ?_
          · intro u hu
            go_simp
          simp only [Act.put, List.getElem_toArray, List.getElem_cons_succ, List.getElem_cons_zero, List.setIfInBounds_toArray, List.set_cons_zero, List.set_cons_succ]
          refine wpAnyH_done (by kernel_rfl) ?_ _
          -- x and y are written over
          have HSk : Hid (Cu.SA w wk o gr V9 Hs Hb F9 L9 (Cu.newM M9 wa wc)) := (HSa.out.more HBC.out).below hw
          have HXK : Hid (wk.ownsRow wa.heap.size 65 5 (.slice yb NB cb) NB (Cu.bC BX)) := own_past HOB.out hw
          have HYK : Hid (wk.ownsRow wa.heap.size 9 1 (.slice yh NH ch2) NH (tC HX)) := own_past HOH.out hw
          have HMX : Hid (∀ k, (Value.slice yb NB cb).ownBlock = some k → Cu.newM M9 wa wc k ∧ ¬ Cu.rsf gr V9 L9 k) := fun k hk => by
            have h1 := HOB.out.lt k hk
            exact ⟨.inr h1, fun e => by have := HSa.out.rs.lt k e; omega⟩
          have HMY : Hid (∀ k, (Value.slice yh NH ch2).ownBlock = some k → Cu.newM M9 wa wc k ∧ ¬ Cu.rsf gr V9 L9 k) := fun k hk => by
            have h1 := HOH.out.lt k hk
            exact ⟨.inr h1, fun e => by have := HSa.out.rs.lt k e; omega⟩
          have hsx := Cu.spoilBg_any HXK.out (by have h := Cu.numsBg BX; rw [HBX.out.2.1] at h; exact h) (by have := HLB.out.1; rw [HBX.out.2.1] at this; omega)
          have hfy : TextsF (tC HX) 0 NH := by have h := texts255 HLH.out.2; rw [HHX.out.2.1] at h; exact h
          have hNH8 : NH ≤ 8 := by have := HLH.out.1; rw [HHX.out.2.1] at this; exact this
          clear hHeld hw HSa HOB HOH HBC KAc hxc
          go_wp2_with (first
            | (go_at_call 18; go_must (refine hsx.mono ?_); rintro e wl ⟨rfl, Tl⟩; have HSl : Hid (Cu.SA w wl o gr V9 Hs Hb F9 L9 (Cu.newM M9 wa wc)) := HSk.out.wrote Tl HMX.out; have hyl : wl.ownsRow wa.heap.size 9 1 (.slice yh NH ch2) NH (tC HX) := Tl.row HYK.out (fun k hk e => Cu.own_far HYK.out HXK.out (by decide) k hk e); have hsy := spoilT_far hyl hfy (by omega); clear hsx Tl hyl)
            | (go_at_call 17; go_must (refine hsy.mono ?_); rintro e wm ⟨rfl, Tm⟩; have HSm : Hid (Both w wm o gr Hs Hb (i + 1)) := ⟨F9, V9, L9, _, HF9.out, HSl.out.wrote Tm HMY.out, HE9.out⟩; clear hsy Tm HSk))
          go_roundw
          case rel => exact ⟨i + 1, by omega, by omega, by go_num, HSm⟩
          case measure => simp [intOf]; omega
        · have hk6' : decide (pk < 6) = false := by simpa using hk6
          obtain ⟨F9, hF9⟩ : ∃ F9, F9 = Cu.lrnC F ph pa pu pnow := ⟨_, rfl⟩
          have HF9 : Hid (Cu.FOk (i + 1) F9) := by unfold Hid; rw [hF9]; exact HFF.out.learn _ _ _ _
          have HPC : Hid (Cu.lrnC F ph pa pu pnow = F9) := hF9.symm
          have HPH : Hid (ph.size ≤ maxLen) := HCA.out.1.h
          have hle := (HSR.out.more HWB.out).learn ph pa pu pnow HPH.out (HFF.out.tr.few hi6) F9 HPC.out
          clear hF9 hk6
          obtain ⟨CC, hCC⟩ : ∃ CC, CC = Cu.deepF F9 pn pnow := ⟨_, rfl⟩
          have hdi : Cu.DeepIs F9 pn pnow CC := by rw [hCC]; exact Cu.deep_is HF9.out.tr pn pnow
          have HDC : Hid (Cu.deepF F9 pn pnow = CC) := hCC.symm
          have HCS : Hid (CC.size ≤ maxLen) := by have := hdi.size; unfold Hid maxLen; omega
          have HDP : Hid (∀ (V9 : Value) (L9 : List (Cu.Rk × Cu.RQ)) (U : World), Cu.RS U gr V9 L9 → (∀ c ∈ F9, Cu.OkC c) → Cu.fstR L9 = Cu.allK Hs Hb F9 → Calls Tryz.prog 21 #[.pointer (some ⟨gr, 0, none⟩), .string pn, .int .i64 pnow] U fun e w' => e = .returned (.string CC) ∧ Below U.heap.size U w') := fun V9 L9 U hr hok he => Cu.rdeep_any hr pn pnow HPN.out CC (by rw [he, Cu.deep_of HF9.out hok, HDC.out])
          clear hdi hCC
          go_wp2_with (first
            | (go_at_call 19; go_must (refine hle.mono ?_); rintro e w3 ⟨rfl, s3, T3⟩; have ka3 := T3.blk KA1.out (fun h => h.2 (.inr ⟨Nat.le_refl _, KA1.out.lt⟩)); have u4 := ka3.cell 7; have u5 := ka3.cell 8; have u6 := ka3.cell 9; have u7 := ka3.cell 6; simp only [List.getElem?_toArray, List.getElem?_cons_succ, List.getElem?_cons_zero] at u4 u5 u6 u7; have hrl := s3.rlearn HFF.out HSR.out.lw.ok hi6 HHB.out.2.2 HEE.out ph pa pu pnow HPH.out F9 HPC.out; have HKA3 : Hid (Blk w3 wr.heap.size #[.int .i64 pk, .string pc, .slice xh phs.length ch, .slice xg pgl.length cg, .int .i64 pttl, .string pfr, .int .i64 pnow, .string ph, .int .i64 pa, .int .i64 pu, .string pn] 41) := ka3; have HRS3 : Hid (Cu.RS w3 gr V L) := s3.rs; clear hle s3 T3 ka3)
            | (go_at_call 20; go_must (refine hrl.mono ?_); rintro e w4 ⟨rfl, L9, s4, he4, T4, ft4⟩; have KA9 : Hid (Blk w4 wr.heap.size #[.int .i64 pk, .string pc, .slice xh phs.length ch, .slice xg pgl.length cg, .int .i64 pttl, .string pfr, .int .i64 pnow, .string ph, .int .i64 pa, .int .i64 pu, .string pn] 41) := T4.blk HKA3.out (HRS3.out.far HKA3.out (by decide) (by decide) (by decide) (by decide) (by decide)); have HS4 : Hid (Cu.SA w w4 o gr V Hs Hb F9 L9 (Cu.newM (Cu.newM M wr (wr.alloc (.cells #[.int .i64 pk, .string pc, .slice xh phs.length ch, .slice xg pgl.length cg, .int .i64 pttl, .string pfr, .int .i64 pnow, .string ph, .int .i64 pa, .int .i64 pu, .string pn] 41))) w3 w4)) := s4; have HE9 : Hid (Cu.fstR L9 = Cu.allK Hs Hb F9) := he4; obtain ⟨M9, V9, hs9⟩ := ex_sa HS4.out; have HS9 : Hid (Cu.SA w w4 o gr V9 Hs Hb F9 L9 M9) := hs9; have x6 := KA9.out.cell 6; have x10 := KA9.out.cell 10; simp only [List.getElem?_toArray, List.getElem?_cons_succ, List.getElem?_cons_zero] at x6 x10; clear hrl s4 he4 T4 ft4 u4 u5 u6 u7 hs9 HS4 HKA3 HRS3)
            | (go_at_call 21; go_must (refine (HDP.out _ _ _ HS9.out.rs HS9.out.lw.ok HE9.out).mono ?_); rintro e wa ⟨rfl, ba⟩; have HSa : Hid (Cu.SA w wa o gr V9 Hs Hb F9 L9 M9) := HS9.out.below ba; have KAa : Hid (Blk wa wr.heap.size #[.int .i64 pk, .string pc, .slice xh phs.length ch, .slice xg pgl.length cg, .int .i64 pttl, .string pfr, .int .i64 pnow, .string ph, .int .i64 pa, .int .i64 pu, .string pn] 41) := KA9.out.below ba; clear x6 x10 ba KA9))
          obtain ⟨BX, hBX⟩ : ∃ BX, BX = Cu.bindF Hb F9 CC pnow := ⟨_, rfl⟩
          obtain ⟨HX, hHX⟩ : ∃ HX, HX = Cu.hostsF Hs F9 CC pnow := ⟨_, rfl⟩
          obtain ⟨BN, hBN⟩ : ∃ BN, BN = Cu.bindF Hb F9 pn pnow := ⟨_, rfl⟩
          obtain ⟨NB, hNB⟩ : ∃ NB, NB = BX.length := ⟨_, rfl⟩
          obtain ⟨NH, hNH⟩ : ∃ NH, NH = HX.length := ⟨_, rfl⟩
          obtain ⟨NN, hNN⟩ : ∃ NN, NN = BN.length := ⟨_, rfl⟩
          have HBX : Hid (Cu.bindF Hb F9 CC pnow = BX ∧ BX.length = NB ∧ Cu.bindK (Cu.fstR L9) CC pnow = BX) := ⟨hBX.symm, hNB.symm, by rw [HE9.out, Cu.binds_of HF9.out HS9.out.lw.ok, hBX]⟩
          have HHX : Hid (Cu.hostsF Hs F9 CC pnow = HX ∧ HX.length = NH ∧ Cu.hostsK (Cu.fstR L9) CC pnow = HX) := ⟨hHX.symm, hNH.symm, by rw [HE9.out, Cu.hosts_of HF9.out HS9.out.lw.ok, hHX]⟩
          have HBN : Hid (Cu.bindF Hb F9 pn pnow = BN ∧ BN.length = NN ∧ Cu.bindK (Cu.fstR L9) pn pnow = BN) := ⟨hBN.symm, hNN.symm, by rw [HE9.out, Cu.binds_of HF9.out HS9.out.lw.ok, hBN]⟩
          have HLB : Hid (BX.length ≤ 256 ∧ BN.length ≤ 256) := ⟨by rw [hBX]; exact Cu.bindF_ok HHB.out.2.2 HS9.out.lw.ok _ _, by rw [hBN]; exact Cu.bindF_ok HHB.out.2.2 HS9.out.lw.ok _ _⟩
          have HLH : Hid (HX.length ≤ 8 ∧ ∀ h ∈ HX, h.size ≤ 255) := by rw [hHX]; exact Cu.hostsF_ok ⟨HHB.out.1, HHB.out.2.1⟩ HS9.out.lw.ok CC pnow
          clear hBX hHX hBN hNB hNH hNN HS9 HDP
          -- x and y
          refine wp_region_held_drew (S := fun u => Blk u wr.heap.size #[.int .i64 pk, .string pc, .slice xh phs.length ch, .slice xg pgl.length cg, .int .i64 pttl, .string pfr, .int .i64 pnow, .string ph, .int .i64 pa, .int .i64 pu, .string pn] 41) (by kernel_rfl) (KAa.out.below (Below.refl _ _).drew) (fun hHeld => ?_)
          refine wpAnyH_take (i := 0) (v := .pointer (some ⟨o.gs, 0, none⟩)) rfl (by kernel_rfl) (by kernel_rfl) (by kernel_rfl) (fun _ _ _ h => h) (Or.inl ⟨by rfl, ?_⟩) hHeld ?_
          · intro u hu
            go_simp
          simp only [Act.put, List.getElem_toArray, List.getElem_cons_zero, List.setIfInBounds_toArray, List.set_cons_zero, List.set_cons_succ]
          refine wpAnyH_take (i := 1) (v := .string CC) rfl (by kernel_rfl) (by kernel_rfl) (by kernel_rfl) (fun _ _ _ h => h) (Or.inl ⟨by rfl, ?_⟩) hHeld ?_
          · intro u hu
            go_simp
          simp only [Act.put, List.getElem_toArray, List.getElem_cons_succ, List.getElem_cons_zero, List.setIfInBounds_toArray, List.set_cons_zero, List.set_cons_succ]
          refine wpAnyH_take (i := 2) (v := .pointer (some ⟨wr.heap.size, 6, none⟩)) rfl (by kernel_rfl) (by kernel_rfl) (by kernel_rfl) (fun _ _ _ h => h) (Or.inl ⟨by rfl, ?_⟩) hHeld ?_
          · intro u hu
            go_simp
          simp only [Act.put, List.getElem_toArray, List.getElem_cons_succ, List.getElem_cons_zero, List.setIfInBounds_toArray, List.set_cons_zero, List.set_cons_succ]
          refine wpAnyH_take (i := 3) (v := .int .i64 pnow) rfl (by kernel_rfl) (by kernel_rfl) (by kernel_rfl) (fun _ _ _ h => h) (Or.inl ⟨by rfl, ?_⟩) hHeld ?_
          · intro u hu
            have a0 := hu.cell 6; simp only [List.getElem?_toArray, List.getElem?_cons_succ, List.getElem?_cons_zero] at a0
            go_simp
          simp only [Act.put, List.getElem_toArray, List.getElem_cons_succ, List.getElem_cons_zero, List.setIfInBounds_toArray, List.set_cons_zero, List.set_cons_succ]
          refine wpAnyH_take (i := 5) (v := .pointer (some ⟨o.gs, 0, none⟩)) rfl (by kernel_rfl) (by kernel_rfl) (by kernel_rfl) (fun _ _ _ h => h) (Or.inl ⟨by rfl, ?_⟩) hHeld ?_
          · intro u hu
            go_simp
          simp only [Act.put, List.getElem_toArray, List.getElem_cons_succ, List.getElem_cons_zero, List.setIfInBounds_toArray, List.set_cons_zero, List.set_cons_succ]
          refine wpAnyH_take (i := 6) (v := .string CC) rfl (by kernel_rfl) (by kernel_rfl) (by kernel_rfl) (fun _ _ _ h => h) (Or.inl ⟨by rfl, ?_⟩) hHeld ?_
          · intro u hu
            go_simp
          simp only [Act.put, List.getElem_toArray, List.getElem_cons_succ, List.getElem_cons_zero, List.setIfInBounds_toArray, List.set_cons_zero, List.set_cons_succ]
          refine wpAnyH_take (i := 7) (v := .pointer (some ⟨wr.heap.size, 6, none⟩)) rfl (by kernel_rfl) (by kernel_rfl) (by kernel_rfl) (fun _ _ _ h => h) (Or.inl ⟨by rfl, ?_⟩) hHeld ?_
          · intro u hu
            go_simp
          simp only [Act.put, List.getElem_toArray, List.getElem_cons_succ, List.getElem_cons_zero, List.setIfInBounds_toArray, List.set_cons_zero, List.set_cons_succ]
          refine wpAnyH_take (i := 8) (v := .int .i64 pnow) rfl (by kernel_rfl) (by kernel_rfl) (by kernel_rfl) (fun _ _ _ h => h) (Or.inl ⟨by rfl, ?_⟩) hHeld ?_
          · intro u hu
            have a0 := hu.cell 6; simp only [List.getElem?_toArray, List.getElem?_cons_succ, List.getElem?_cons_zero] at a0
            go_simp
          simp only [Act.put, List.getElem_toArray, List.getElem_cons_succ, List.getElem_cons_zero, List.setIfInBounds_toArray, List.set_cons_zero, List.set_cons_succ]
          refine wpAnyH_ready (rs := [4]) (by kernel_rfl) (by simp) ?_
          refine AllReadyH.cons rfl (fun K hK => ?_) AllReadyH.nil
          go_simp
          refine ((HSa.out.below (Below.refl _ _).drew).lw.binds CC pnow HCS.out BX HBX.out.1 NB HBX.out.2.1).mono ?_
          rintro e wb ⟨yb, cb, rfl, ob, lb, bb⟩
          have bb' : Below wa.heap.size wa wb := next (Below.refl _ _).drew bb
          have ob' : wb.ownsRow wa.heap.size 65 5 (.slice yb NB cb) NB (Cu.bC BX) := own_base ob (Below.refl wa.heap.size wa).drew.size
          replace hHeld := hHeld.below bb
          clear lb bb ob
          go_simp
          refine hK.out _ _ hHeld (fun hHeld => ?_)
          clear hK K
          refine wpAnyH_ready (rs := [9]) (by kernel_rfl) (by simp) ?_
          refine AllReadyH.cons rfl (fun K hK => ?_) AllReadyH.nil
          go_simp
          refine ((HSa.out.below bb').lw.hosts CC pnow HCS.out HX HHX.out.1 NH HHX.out.2.1).mono ?_
          rintro e wc ⟨yh, ch2, rfl, oh, lc, bc⟩
          replace hHeld := hHeld.below bc
          have HBC : Hid (Below wa.heap.size wa wc) := next bb' bc
          have HOB : Hid (wc.ownsRow wa.heap.size 65 5 (.slice yb NB cb) NB (Cu.bC BX)) := own_past ob' bc
          have HOH : Hid (wc.ownsRow wa.heap.size 9 1 (.slice yh NH ch2) NH (tC HX)) := own_base oh bb'.size
          clear lc bc ob' oh bb'
          go_simp
          refine hK.out _ _ hHeld (fun hHeld => ?_)
          clear hK K
          refine wpAnyH_take (i := 10) (v := .slice yb NB cb) rfl (by kernel_rfl) (by kernel_rfl) (by kernel_rfl) (fun _ _ _ h => h) (Or.inl ⟨by rfl, ?_⟩) hHeld ?_
          · intro u hu
            go_simp
          simp only [Act.put, List.getElem_toArray, List.getElem_cons_succ, List.getElem_cons_zero, List.setIfInBounds_toArray, List.set_cons_zero, List.set_cons_succ]
          refine wpAnyH_take (i := 11) (v := .slice yh NH ch2) rfl (by kernel_rfl) (by kernel_rfl) (by kernel_rfl) (fun _ _ _ h => h) (Or.inl ⟨by rfl, ?_⟩) hHeld ?_
          · intro u hu
            go_simp
          simp only [Act.put, List.getElem_toArray, List.getElem_cons_succ, List.getElem_cons_zero, List.setIfInBounds_toArray, List.set_cons_zero, List.set_cons_succ]
          refine wpAnyH_done (by kernel_rfl) ?_ _
          have KAc : Hid (Blk wc wr.heap.size #[.int .i64 pk, .string pc, .slice xh phs.length ch, .slice xg pgl.length cg, .int .i64 pttl, .string pfr, .int .i64 pnow, .string ph, .int .i64 pa, .int .i64 pu, .string pn] 41) := hHeld
          clear hHeld KAa
          go_wp2
          -- they are the same
          refine wp_region_held_drew (S := fun u => Blk u wr.heap.size #[.int .i64 pk, .string pc, .slice xh phs.length ch, .slice xg pgl.length cg, .int .i64 pttl, .string pfr, .int .i64 pnow, .string ph, .int .i64 pa, .int .i64 pu, .string pn] 41) (by kernel_rfl) (KAc.out.below (Below.refl _ _).drew) (fun hHeld => ?_)
          have hw : Below wc.heap.size wc wc.drew := (Below.refl _ _).drew
          have hxc : (CC.toList == CC.toList) = true := by simp
          refine wpAnyH_take (i := 0) (v := .pointer (some ⟨o.gs, 0, none⟩)) rfl (by kernel_rfl) (by kernel_rfl) (by kernel_rfl) (fun _ _ _ h => h) (Or.inl ⟨by rfl, ?_⟩) hHeld ?_
          · intro u hu
            go_simp
          simp only [Act.put, List.getElem_toArray, List.getElem_cons_zero, List.setIfInBounds_toArray, List.set_cons_zero, List.set_cons_succ]
          refine wpAnyH_take (i := 1) (v := .pointer (some ⟨wr.heap.size, 10, none⟩)) rfl (by kernel_rfl) (by kernel_rfl) (by kernel_rfl) (fun _ _ _ h => h) (Or.inl ⟨by rfl, ?_⟩) hHeld ?_
          · intro u hu
            go_simp
          simp only [Act.put, List.getElem_toArray, List.getElem_cons_succ, List.getElem_cons_zero, List.setIfInBounds_toArray, List.set_cons_zero, List.set_cons_succ]
          refine wpAnyH_take (i := 2) (v := .string pn) rfl (by kernel_rfl) (by kernel_rfl) (by kernel_rfl) (fun _ _ _ h => h) (Or.inl ⟨by rfl, ?_⟩) hHeld ?_
          · intro u hu
            have a0 := hu.cell 10; simp only [List.getElem?_toArray, List.getElem?_cons_succ, List.getElem?_cons_zero] at a0
            go_simp
          simp only [Act.put, List.getElem_toArray, List.getElem_cons_succ, List.getElem_cons_zero, List.setIfInBounds_toArray, List.set_cons_zero, List.set_cons_succ]
          refine wpAnyH_take (i := 3) (v := .pointer (some ⟨wr.heap.size, 6, none⟩)) rfl (by kernel_rfl) (by kernel_rfl) (by kernel_rfl) (fun _ _ _ h => h) (Or.inl ⟨by rfl, ?_⟩) hHeld ?_
          · intro u hu
            go_simp
          simp only [Act.put, List.getElem_toArray, List.getElem_cons_succ, List.getElem_cons_zero, List.setIfInBounds_toArray, List.set_cons_zero, List.set_cons_succ]
          refine wpAnyH_take (i := 4) (v := .int .i64 pnow) rfl (by kernel_rfl) (by kernel_rfl) (by kernel_rfl) (fun _ _ _ h => h) (Or.inl ⟨by rfl, ?_⟩) hHeld ?_
          · intro u hu
            have a0 := hu.cell 6; simp only [List.getElem?_toArray, List.getElem?_cons_succ, List.getElem?_cons_zero] at a0
            go_simp
          simp only [Act.put, List.getElem_toArray, List.getElem_cons_succ, List.getElem_cons_zero, List.setIfInBounds_toArray, List.set_cons_zero, List.set_cons_succ]
          refine wpAnyH_take (i := 6) (v := .string CC) rfl (by kernel_rfl) (by kernel_rfl) (by kernel_rfl) (fun _ _ _ h => h) (Or.inl ⟨by rfl, ?_⟩) hHeld ?_
          · intro u hu
            go_simp
          simp only [Act.put, List.getElem_toArray, List.getElem_cons_succ, List.getElem_cons_zero, List.setIfInBounds_toArray, List.set_cons_zero, List.set_cons_succ]
          refine wpAnyH_ready (rs := [5]) (by kernel_rfl) (by simp) ?_
          refine AllReadyH.cons rfl (fun K hK => ?_) AllReadyH.nil
          go_simp
          refine ((HSa.out.below (next HBC.out hw)).lw.deep pn pnow HPN.out CC HDC.out).mono ?_
          rintro e wd ⟨rfl, _, bd⟩
          replace hHeld := hHeld.below bd
          replace hw := next hw bd
          clear bd
          go_simp
          refine hK.out _ _ hHeld (fun hHeld => ?_)
          clear hK K
          refine wpAnyH_take (i := 7) (v := .bool false) rfl (by kernel_rfl) (by kernel_rfl) (by kernel_rfl) (fun _ _ _ h => h) (Or.inl ⟨by rfl, ?_⟩) hHeld ?_
          · intro u hu
            go_simp
          simp only [Act.put, List.getElem_toArray, List.getElem_cons_succ, List.getElem_cons_zero, List.setIfInBounds_toArray, List.set_cons_zero, List.set_cons_succ]
          refine wpAnyH_take (i := 8) (v := .bool false) rfl (by kernel_rfl) (by kernel_rfl) (by kernel_rfl) (fun _ _ _ h => h) (Or.inl ⟨by rfl, ?_⟩) hHeld ?_
          · intro u hu
            go_simp
          simp only [Act.put, List.getElem_toArray, List.getElem_cons_succ, List.getElem_cons_zero, List.setIfInBounds_toArray, List.set_cons_zero, List.set_cons_succ]
          refine wpAnyH_take (i := 9) (v := .slice yb NB cb) rfl (by kernel_rfl) (by kernel_rfl) (by kernel_rfl) (fun _ _ _ h => h) (Or.inl ⟨by rfl, ?_⟩) hHeld ?_
          · intro u hu
            go_simp
          simp only [Act.put, List.getElem_toArray, List.getElem_cons_succ, List.getElem_cons_zero, List.setIfInBounds_toArray, List.set_cons_zero, List.set_cons_succ]
          refine wpAnyH_take (i := 10) (v := .pointer (some ⟨gr, 0, none⟩)) rfl (by kernel_rfl) (by kernel_rfl) (by kernel_rfl) (fun _ _ _ h => h) (Or.inl ⟨by rfl, ?_⟩) hHeld ?_
          · intro u hu
            go_simp
          simp only [Act.put, List.getElem_toArray, List.getElem_cons_succ, List.getElem_cons_zero, List.setIfInBounds_toArray, List.set_cons_zero, List.set_cons_succ]
          refine wpAnyH_take (i := 11) (v := .string CC) rfl (by kernel_rfl) (by kernel_rfl) (by kernel_rfl) (fun _ _ _ h => h) (Or.inl ⟨by rfl, ?_⟩) hHeld ?_
          · intro u hu
            go_simp
          simp only [Act.put, List.getElem_toArray, List.getElem_cons_succ, List.getElem_cons_zero, List.setIfInBounds_toArray, List.set_cons_zero, List.set_cons_succ]
          refine wpAnyH_take (i := 12) (v := .pointer (some ⟨wr.heap.size, 6, none⟩)) rfl (by kernel_rfl) (by kernel_rfl) (by kernel_rfl) (fun _ _ _ h => h) (Or.inl ⟨by rfl, ?_⟩) hHeld ?_
          · intro u hu
            go_simp
          simp only [Act.put, List.getElem_toArray, List.getElem_cons_succ, List.getElem_cons_zero, List.setIfInBounds_toArray, List.set_cons_zero, List.set_cons_succ]
          refine wpAnyH_take (i := 13) (v := .int .i64 pnow) rfl (by kernel_rfl) (by kernel_rfl) (by kernel_rfl) (fun _ _ _ h => h) (Or.inl ⟨by rfl, ?_⟩) hHeld ?_
          · intro u hu
            have a0 := hu.cell 6; simp only [List.getElem?_toArray, List.getElem?_cons_succ, List.getElem?_cons_zero] at a0
            go_simp
          simp only [Act.put, List.getElem_toArray, List.getElem_cons_succ, List.getElem_cons_zero, List.setIfInBounds_toArray, List.set_cons_zero, List.set_cons_succ]
          refine wpAnyH_ready (rs := [14]) (by kernel_rfl) (by simp) ?_
          refine AllReadyH.cons rfl (fun K hK => ?_) AllReadyH.nil
          go_simp
          refine (Cu.rbinds_any (HSa.out.below (next HBC.out hw)).rs CC pnow HCS.out BX HBX.out.2.2 NB HBX.out.2.1).mono ?_
          rintro e we ⟨ye, ce, rfl, oe, be⟩
          replace hHeld := hHeld.below be
          replace hw := next hw be
          have hsb := Cu.sameBg_yes (.slice yb NB cb) (.slice ye NB ce) BX we (by rw [HBX.out.2.1]; exact Row.of_own (own_past HOB.out hw)) (by rw [HBX.out.2.1]; exact Row.of_own oe) (by have := HLB.out.1; unfold maxLen; omega)
          clear be
          go_simp
          refine hK.out _ _ hHeld (fun hHeld => ?_)
          clear hK K
          refine wpAnyH_ready (rs := [15]) (by kernel_rfl) (by simp) ?_
          refine AllReadyH.cons rfl (fun K hK => ?_) AllReadyH.nil
          go_simp
          refine hsb.mono ?_
          rintro e wf ⟨rfl, bf⟩
          replace hHeld := hHeld.below bf
          replace hw := next hw bf
          clear bf hsb
          go_simp
          refine hK.out _ _ hHeld (fun hHeld => ?_)
          clear hK K
          refine wpAnyH_take (i := 16) (v := .bool false) rfl (by kernel_rfl) (by kernel_rfl) (by kernel_rfl) (fun _ _ _ h => h) (Or.inl ⟨by rfl, ?_⟩) hHeld ?_
          · intro u hu
            go_simp
          simp only [Act.put, List.getElem_toArray, List.getElem_cons_succ, List.getElem_cons_zero, List.setIfInBounds_toArray, List.set_cons_zero, List.set_cons_succ]
          refine wpAnyH_take (i := 17) (v := .bool false) rfl (by kernel_rfl) (by kernel_rfl) (by kernel_rfl) (fun _ _ _ h => h) (Or.inl ⟨by rfl, ?_⟩) hHeld ?_
          · intro u hu
            go_simp
          simp only [Act.put, List.getElem_toArray, List.getElem_cons_succ, List.getElem_cons_zero, List.setIfInBounds_toArray, List.set_cons_zero, List.set_cons_succ]
          refine wpAnyH_take (i := 18) (v := .bool false) rfl (by kernel_rfl) (by kernel_rfl) (by kernel_rfl) (fun _ _ _ h => h) (Or.inl ⟨by rfl, ?_⟩) hHeld ?_
          · intro u hu
            go_simp
          simp only [Act.put, List.getElem_toArray, List.getElem_cons_succ, List.getElem_cons_zero, List.setIfInBounds_toArray, List.set_cons_zero, List.set_cons_succ]
          refine wpAnyH_take (i := 19) (v := .slice yh NH ch2) rfl (by kernel_rfl) (by kernel_rfl) (by kernel_rfl) (fun _ _ _ h => h) (Or.inl ⟨by rfl, ?_⟩) hHeld ?_
          · intro u hu
            go_simp
          simp only [Act.put, List.getElem_toArray, List.getElem_cons_succ, List.getElem_cons_zero, List.setIfInBounds_toArray, List.set_cons_zero, List.set_cons_succ]
          refine wpAnyH_take (i := 20) (v := .pointer (some ⟨gr, 0, none⟩)) rfl (by kernel_rfl) (by kernel_rfl) (by kernel_rfl) (fun _ _ _ h => h) (Or.inl ⟨by rfl, ?_⟩) hHeld ?_
          · intro u hu
            go_simp
          simp only [Act.put, List.getElem_toArray, List.getElem_cons_succ, List.getElem_cons_zero, List.setIfInBounds_toArray, List.set_cons_zero, List.set_cons_succ]
          refine wpAnyH_take (i := 21) (v := .string CC) rfl (by kernel_rfl) (by kernel_rfl) (by kernel_rfl) (fun _ _ _ h => h) (Or.inl ⟨by rfl, ?_⟩) hHeld ?_
          · intro u hu
            go_simp
          simp only [Act.put, List.getElem_toArray, List.getElem_cons_succ, List.getElem_cons_zero, List.setIfInBounds_toArray, List.set_cons_zero, List.set_cons_succ]
          refine wpAnyH_take (i := 22) (v := .pointer (some ⟨wr.heap.size, 6, none⟩)) rfl (by kernel_rfl) (by kernel_rfl) (by kernel_rfl) (fun _ _ _ h => h) (Or.inl ⟨by rfl, ?_⟩) hHeld ?_
          · intro u hu
            go_simp
          simp only [Act.put, List.getElem_toArray, List.getElem_cons_succ, List.getElem_cons_zero, List.setIfInBounds_toArray, List.set_cons_zero, List.set_cons_succ]
          refine wpAnyH_take (i := 23) (v := .int .i64 pnow) rfl (by kernel_rfl) (by kernel_rfl) (by kernel_rfl) (fun _ _ _ h => h) (Or.inl ⟨by rfl, ?_⟩) hHeld ?_
          · intro u hu
            have a0 := hu.cell 6; simp only [List.getElem?_toArray, List.getElem?_cons_succ, List.getElem?_cons_zero] at a0
            go_simp
          simp only [Act.put, List.getElem_toArray, List.getElem_cons_succ, List.getElem_cons_zero, List.setIfInBounds_toArray, List.set_cons_zero, List.set_cons_succ]
          refine wpAnyH_ready (rs := [24]) (by kernel_rfl) (by simp) ?_
          refine AllReadyH.cons rfl (fun K hK => ?_) AllReadyH.nil
          go_simp
          refine (Cu.rhosts_any (HSa.out.below (next HBC.out hw)).rs CC pnow HCS.out HX HHX.out.2.2 NH HHX.out.2.1).mono ?_
          rintro e wg ⟨yg, cg2, rfl, og, bg⟩
          replace hHeld := hHeld.below bg
          replace hw := next hw bg
          have hst := sameT_any (.slice yh NH ch2) (.slice yg NH cg2) HX HX wg (by rw [HHX.out.2.1]; exact Row.of_own (own_past HOH.out hw)) (by rw [HHX.out.2.1]; exact Row.of_own og) (by have := HLH.out.1; unfold maxLen; omega) (by have := HLH.out.1; unfold maxLen; omega) true (by simp)
          clear bg
          go_simp
          refine hK.out _ _ hHeld (fun hHeld => ?_)
          clear hK K
          refine wpAnyH_ready (rs := [25]) (by kernel_rfl) (by simp) ?_
          refine AllReadyH.cons rfl (fun K hK => ?_) AllReadyH.nil
          go_simp
          refine hst.mono ?_
          rintro e wh ⟨rfl, bh⟩
          replace hHeld := hHeld.below bh
          replace hw := next hw bh
          clear bh hst
          go_simp
          refine hK.out _ _ hHeld (fun hHeld => ?_)
          clear hK K
          refine wpAnyH_take (i := 26) (v := .bool false) rfl (by kernel_rfl) (by kernel_rfl) (by kernel_rfl) (fun _ _ _ h => h) (Or.inl ⟨by rfl, ?_⟩) hHeld ?_
          · intro u hu
            go_simp
          simp only [Act.put, List.getElem_toArray, List.getElem_cons_succ, List.getElem_cons_zero, List.setIfInBounds_toArray, List.set_cons_zero, List.set_cons_succ]
          refine wpAnyH_take (i := 27) (v := .bool false) rfl (by kernel_rfl) (by kernel_rfl) (by kernel_rfl) (fun _ _ _ h => h) (Or.inl ⟨by rfl, ?_⟩) hHeld ?_
          · intro u hu
            go_simp
          simp only [Act.put, List.getElem_toArray, List.getElem_cons_succ, List.getElem_cons_zero, List.setIfInBounds_toArray, List.set_cons_zero, List.set_cons_succ]
          refine wpAnyH_take (i := 28) (v := .bool false) rfl (by kernel_rfl) (by kernel_rfl) (by kernel_rfl) (fun _ _ _ h => h) (Or.inl ⟨by rfl, ?_⟩) hHeld ?_
          · intro u hu
            go_simp
          simp only [Act.put, List.getElem_toArray, List.getElem_cons_succ, List.getElem_cons_zero, List.setIfInBounds_toArray, List.set_cons_zero, List.set_cons_succ]
          refine wpAnyH_take (i := 29) (v := .pointer (some ⟨o.gs, 0, none⟩)) rfl (by kernel_rfl) (by kernel_rfl) (by kernel_rfl) (fun _ _ _ h => h) (Or.inl ⟨by rfl, ?_⟩) hHeld ?_
          · intro u hu
            go_simp
          simp only [Act.put, List.getElem_toArray, List.getElem_cons_succ, List.getElem_cons_zero, List.setIfInBounds_toArray, List.set_cons_zero, List.set_cons_succ]
          refine wpAnyH_take (i := 30) (v := .pointer (some ⟨wr.heap.size, 10, none⟩)) rfl (by kernel_rfl) (by kernel_rfl) (by kernel_rfl) (fun _ _ _ h => h) (Or.inl ⟨by rfl, ?_⟩) hHeld ?_
          · intro u hu
            go_simp
          simp only [Act.put, List.getElem_toArray, List.getElem_cons_succ, List.getElem_cons_zero, List.setIfInBounds_toArray, List.set_cons_zero, List.set_cons_succ]
          refine wpAnyH_take (i := 31) (v := .string pn) rfl (by kernel_rfl) (by kernel_rfl) (by kernel_rfl) (fun _ _ _ h => h) (Or.inl ⟨by rfl, ?_⟩) hHeld ?_
          · intro u hu
            have a0 := hu.cell 10; simp only [List.getElem?_toArray, List.getElem?_cons_succ, List.getElem?_cons_zero] at a0
            go_simp
          simp only [Act.put, List.getElem_toArray, List.getElem_cons_succ, List.getElem_cons_zero, List.setIfInBounds_toArray, List.set_cons_zero, List.set_cons_succ]
          refine wpAnyH_take (i := 32) (v := .pointer (some ⟨wr.heap.size, 6, none⟩)) rfl (by kernel_rfl) (by kernel_rfl) (by kernel_rfl) (fun _ _ _ h => h) (Or.inl ⟨by rfl, ?_⟩) hHeld ?_
          · intro u hu
            go_simp
          simp only [Act.put, List.getElem_toArray, List.getElem_cons_succ, List.getElem_cons_zero, List.setIfInBounds_toArray, List.set_cons_zero, List.set_cons_succ]
          refine wpAnyH_take (i := 33) (v := .int .i64 pnow) rfl (by kernel_rfl) (by kernel_rfl) (by kernel_rfl) (fun _ _ _ h => h) (Or.inl ⟨by rfl, ?_⟩) hHeld ?_
          · intro u hu
            have a0 := hu.cell 6; simp only [List.getElem?_toArray, List.getElem?_cons_succ, List.getElem?_cons_zero] at a0
            go_simp
          simp only [Act.put, List.getElem_toArray, List.getElem_cons_succ, List.getElem_cons_zero, List.setIfInBounds_toArray, List.set_cons_zero, List.set_cons_succ]
          refine wpAnyH_take (i := 35) (v := .pointer (some ⟨gr, 0, none⟩)) rfl (by kernel_rfl) (by kernel_rfl) (by kernel_rfl) (fun _ _ _ h => h) (Or.inl ⟨by rfl, ?_⟩) hHeld ?_
          · intro u hu
            go_simp
          simp only [Act.put, List.getElem_toArray, List.getElem_cons_succ, List.getElem_cons_zero, List.setIfInBounds_toArray, List.set_cons_zero, List.set_cons_succ]
          refine wpAnyH_take (i := 36) (v := .pointer (some ⟨wr.heap.size, 10, none⟩)) rfl (by kernel_rfl) (by kernel_rfl) (by kernel_rfl) (fun _ _ _ h => h) (Or.inl ⟨by rfl, ?_⟩) hHeld ?_
          · intro u hu
            go_simp
          simp only [Act.put, List.getElem_toArray, List.getElem_cons_succ, List.getElem_cons_zero, List.setIfInBounds_toArray, List.set_cons_zero, List.set_cons_succ]
          refine wpAnyH_take (i := 37) (v := .string pn) rfl (by kernel_rfl) (by kernel_rfl) (by kernel_rfl) (fun _ _ _ h => h) (Or.inl ⟨by rfl, ?_⟩) hHeld ?_
          · intro u hu
            have a0 := hu.cell 10; simp only [List.getElem?_toArray, List.getElem?_cons_succ, List.getElem?_cons_zero] at a0
            go_simp
          simp only [Act.put, List.getElem_toArray, List.getElem_cons_succ, List.getElem_cons_zero, List.setIfInBounds_toArray, List.set_cons_zero, List.set_cons_succ]
          refine wpAnyH_take (i := 38) (v := .pointer (some ⟨wr.heap.size, 6, none⟩)) rfl (by kernel_rfl) (by kernel_rfl) (by kernel_rfl) (fun _ _ _ h => h) (Or.inl ⟨by rfl, ?_⟩) hHeld ?_
          · intro u hu
            go_simp
          simp only [Act.put, List.getElem_toArray, List.getElem_cons_succ, List.getElem_cons_zero, List.setIfInBounds_toArray, List.set_cons_zero, List.set_cons_succ]
          refine wpAnyH_take (i := 39) (v := .int .i64 pnow) rfl (by kernel_rfl) (by kernel_rfl) (by kernel_rfl) (fun _ _ _ h => h) (Or.inl ⟨by rfl, ?_⟩) hHeld ?_
          · intro u hu
            have a0 := hu.cell 6; simp only [List.getElem?_toArray, List.getElem?_cons_succ, List.getElem?_cons_zero] at a0
            go_simp
          simp only [Act.put, List.getElem_toArray, List.getElem_cons_succ, List.getElem_cons_zero, List.setIfInBounds_toArray, List.set_cons_zero, List.set_cons_succ]
          refine wpAnyH_ready (rs := [34]) (by kernel_rfl) (by simp) ?_
          refine AllReadyH.cons rfl (fun K hK => ?_) AllReadyH.nil
          go_simp
          refine ((HSa.out.below (next HBC.out hw)).lw.binds pn pnow HPN.out BN HBN.out.1 NN HBN.out.2.1).mono ?_
          rintro e wi ⟨yi, ci, rfl, oi, _, bi⟩
          replace hHeld := hHeld.below bi
          replace hw := next hw bi
          clear bi
          go_simp
          refine hK.out _ _ hHeld (fun hHeld => ?_)
          clear hK K
          refine wpAnyH_ready (rs := [40]) (by kernel_rfl) (by simp) ?_
          refine AllReadyH.cons rfl (fun K hK => ?_) AllReadyH.nil
          go_simp
          refine (Cu.rbinds_any (HSa.out.below (next HBC.out hw)).rs pn pnow HPN.out BN HBN.out.2.2 NN HBN.out.2.1).mono ?_
          rintro e wj ⟨yj, cj, rfl, oj, bj⟩
          replace hHeld := hHeld.below bj
          replace hw := next hw bj
          have hsn := Cu.sameBg_yes (.slice yi NN ci) (.slice yj NN cj) BN wj (by rw [HBN.out.2.1]; exact Row.of_own (own_past oi bj)) (by rw [HBN.out.2.1]; exact Row.of_own oj) (by have := HLB.out.2; unfold maxLen; omega)
          clear bj
          go_simp
          refine hK.out _ _ hHeld (fun hHeld => ?_)
          clear hK K
          refine wpAnyH_ready (rs := [41]) (by kernel_rfl) (by simp) ?_
          refine AllReadyH.cons rfl (fun K hK => ?_) AllReadyH.nil
          go_simp
          refine hsn.mono ?_
          rintro e wk ⟨rfl, bk⟩
          replace hHeld := hHeld.below bk
          replace hw := next hw bk
          clear bk hsn oi oj oe og
          go_simp
          refine hK.out _ _ hHeld (fun hHeld => ?_)
          clear hK K
          refine wpAnyH_take (i := 42) (v := .bool false) rfl (by kernel_rfl) (by kernel_rfl) (by kernel_rfl) (fun _ _ _ h => h) (Or.inl ⟨by rfl, ?_⟩) hHeld ?_
          · intro u hu
            go_simp
          simp only [Act.put, List.getElem_toArray, List.getElem_cons_succ, List.getElem_cons_zero, List.setIfInBounds_toArray, List.set_cons_zero, List.set_cons_succ]
          refine wpAnyH_take (i := 43) (v := .bool false) rfl (by kernel_rfl) (by kernel_rfl) (by kernel_rfl) (fun _ _ _ h => h) (Or.inl ⟨by rfl, ?_⟩) hHeld ?_
          · intro u hu
            go_simp
          simp only [Act.put, List.getElem_toArray, List.getElem_cons_succ, List.getElem_cons_zero, List.setIfInBounds_toArray, List.set_cons_zero, List.set_cons_succ]
          refine wpAnyH_done (by kernel_rfl) ?_ _
          -- x and y are written over
          have HSk : Hid (Cu.SA w wk o gr V9 Hs Hb F9 L9 (Cu.newM M9 wa wc)) := (HSa.out.more HBC.out).below hw
          have HXK : Hid (wk.ownsRow wa.heap.size 65 5 (.slice yb NB cb) NB (Cu.bC BX)) := own_past HOB.out hw
          have HYK : Hid (wk.ownsRow wa.heap.size 9 1 (.slice yh NH ch2) NH (tC HX)) := own_past HOH.out hw
          have HMX : Hid (∀ k, (Value.slice yb NB cb).ownBlock = some k → Cu.newM M9 wa wc k ∧ ¬ Cu.rsf gr V9 L9 k) := fun k hk => by
            have h1 := HOB.out.lt k hk
            exact ⟨.inr h1, fun e => by have := HSa.out.rs.lt k e; omega⟩
          have HMY : Hid (∀ k, (Value.slice yh NH ch2).ownBlock = some k → Cu.newM M9 wa wc k ∧ ¬ Cu.rsf gr V9 L9 k) := fun k hk => by
            have h1 := HOH.out.lt k hk
            exact ⟨.inr h1, fun e => by have := HSa.out.rs.lt k e; omega⟩
          have hsx := Cu.spoilBg_any HXK.out (by have h := Cu.numsBg BX; rw [HBX.out.2.1] at h; exact h) (by have := HLB.out.1; rw [HBX.out.2.1] at this; omega)
          have hfy : TextsF (tC HX) 0 NH := by have h := texts255 HLH.out.2; rw [HHX.out.2.1] at h; exact h
          have hNH8 : NH ≤ 8 := by have := HLH.out.1; rw [HHX.out.2.1] at this; exact this
          clear hHeld hw HSa HOB HOH HBC KAc hxc
          go_wp2_with (first
            | (go_at_call 18; go_must (refine hsx.mono ?_); rintro e wl ⟨rfl, Tl⟩; have HSl : Hid (Cu.SA w wl o gr V9 Hs Hb F9 L9 (Cu.newM M9 wa wc)) := HSk.out.wrote Tl HMX.out; have hyl : wl.ownsRow wa.heap.size 9 1 (.slice yh NH ch2) NH (tC HX) := Tl.row HYK.out (fun k hk e => Cu.own_far HYK.out HXK.out (by decide) k hk e); have hsy := spoilT_far hyl hfy (by omega); clear hsx Tl hyl)
            | (go_at_call 17; go_must (refine hsy.mono ?_); rintro e wm ⟨rfl, Tm⟩; have HSm : Hid (Both w wm o gr Hs Hb (i + 1)) := ⟨F9, V9, L9, _, HF9.out, HSl.out.wrote Tm HMY.out, HE9.out⟩; clear hsy Tm HSk))
          go_roundw
          case rel => exact ⟨i + 1, by omega, by omega, by go_num, HSm⟩
          case measure => simp [intOf]; omega
      · obtain ⟨F, V, L, M, hF, hS, hE⟩ := HX.out
        have HBW : Hid (Below w.heap.size w wr) := hS.lw.bel
        clear hF hS hE HX
        by_cases h0 : i < n1
        · have h0' : (i : Int) < (n1 : Int) := by omega
          have h60' : decide ((i : Int) < 60) = false := by simp; omega
          clear hlt
          go_wp2_with (go_at_call 9; go_must (refine (Cu.awake_any _).mono ?_); rintro e w5 ⟨rfl, b5⟩)
          go_ret
          exact ⟨rfl, next HBW.out b5⟩
        · have h0' : decide (i < n1) = false := by simpa using h0
          clear hlt
          go_wp2_with (go_at_call 9; go_must (refine (Cu.awake_any _).mono ?_); rintro e w5 ⟨rfl, b5⟩)
          go_ret
          exact ⟨rfl, next HBW.out b5⟩
theorem own : ownKnob Tryz.prog.godebug = none := by kernel_rfl
theorem laidOut : laidOutB Tryz.prog = true := by kernel_rfl

set_option maxRecDepth 100000 in
theorem lifted (os : Os) (started : os.Started) (H : Type) (enc : TypeId × Value → H) :
    ReturnsInHanded {} Tryz.checked os 3 .any (Rows.cutActsSpec.pre6 enc Tryz.prog Tryz.f3 Rows.cutActsRow.domain false) (Rows.cutActsSpec.post enc Tryz.prog Tryz.f3 false true false false) := by
  refine returnsInHanded_of_change_sized (C := Tryz.checked) own started (by kernel_rfl) Tryz.func3
    (ChangeSpec.witness6 (enc := enc) (C := Tryz.checked) false ⟨#[], #[.slice none 0 0, .slice none 0 0], []⟩ 8 (by kernel_rfl) (by kernel_rfl) (by kernel_rfl) (by kernel_rfl)) ?_
  intro W base args ds gs before hval0 hW _ hsz0 _
  have hval : ∀ (j : Nat) t v, Tryz.f3.params[j]? = some t → args[j]? = some v → Value.okWide Tryz.prog W .any base t v := hval0
  have hsz : (DataW.weightsEach Tryz.prog (Tryz.f3.params.toList ++ Rows.cutActsSpec.plain.varTypes Tryz.prog) (ds ++ gs)).all (· ≤ reachBytes) = true := hsz0
  have hW' := hW
  obtain ⟨p, q, hA0, hV, rfl, hfz, hnd⟩ := hW
  have hA : DataW.TrodAll enc Tryz.prog W 0 (fun _ => true) true Tryz.f3.params.toList args.toList ds p := hA0
  rw [Tryz.params3] at hA hval hsz
  obtain ⟨v0, vs0, d0, ds0, p0, q0, hargs, rfl, rfl, h0, r0⟩ := trodAll_cons hA
  obtain ⟨v1, vs1, d1, ds1, p1, q1, rfl, rfl, rfl, h1, r1⟩ := trodAll_cons r0
  obtain ⟨rfl, rfl, rfl⟩ := trodAll_nil r1
  obtain rfl : args = #[v0, v1] := by cases args; simp_all
  obtain ⟨rfl, rfl⟩ := trodVars_none hV
  obtain ⟨a0, w0⟩ := Cu.open_hints (hval 0 22 v0 rfl rfl) h0 (weights_all hsz (j := 0) rfl rfl)
  obtain ⟨a1, w1⟩ := Cu.open_cactsF (hval 1 23 v1 rfl rfl) h1 (weights_all hsz (j := 1) rfl rfl)
  have hlt0 : ∀ x ∈ p0, x.block < W.heap.size := fun x hx => by
    have := hW'.lt x (by simp [hx])
    simpa using this
  have hlt1 : ∀ x ∈ p1, x.block < W.heap.size := fun x hx => by
    have := hW'.lt x (by simp [hx])
    simpa using this
  clear hA0 hval0 hsz0 hsz
  simp only [List.append_nil] at hW'
  refine (walk v0 a0 v1 a1   W w0 w1).mono fun e W' ⟨he, bel⟩ => ?_
  subst he
  exact ⟨_, rfl, _, _, _, [], _, [], hW', trodAll_mk1 (shut_bool Tryz.underlying4 _), (trodAll_cons_mk (Below.trod laidOut (by kernel_rfl) (of_decide_eq_true (by kernel_rfl)) h0 bel hlt0) (trodAll_cons_mk (Below.trod laidOut (by kernel_rfl) (of_decide_eq_true (by kernel_rfl)) h1 bel hlt1) trodAll_mk0)), rfl, bel.frame _, fun h => by cases h⟩

/-- The statement. -/
theorem proved : Rows.CutActsSaid :=
  OpenClaim.holds_of_wide 3 Tryz.f3 rfl rfl rfl rfl rfl rfl rfl ⟨rfl, rfl, rfl, rfl, rfl⟩ rfl rfl rfl rfl rfl (by kernel_rfl) Tryz.func3 (by kernel_rfl)
    (of_decide_eq_true (by kernel_rfl)) (by unfold Func.isWrapper; first | (rw [if_pos (by decide +kernel)]; kernel_rfl) | (rw [if_neg (by decide +kernel)]; exact ⟨rfl, rfl⟩))
    (fun os started H enc _ => lifted os started H enc)
#print axioms proved

end Go.Proofs.YtnjgdfmldjgloaaGreat.cutActs
