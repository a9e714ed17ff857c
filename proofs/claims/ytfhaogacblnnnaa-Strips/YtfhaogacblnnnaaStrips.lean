/- Strips holds: for every OPT, Strip gives what the document gives, Has says whether a client's address is among the options, what is handed in stays as it was, what is answered is new. -/
import Derived.Test.YtfhaogacblnnnaaEcF
import Derived.Test.YtfhaogacblnnnaaEcG
import Derived.Test.YtfhaogacblnnnaaOpM
import Derived.Test.YtfhaogacblnnnaaOpN
import Derived.ProofKit
import Derived.OpenShut
import Derived.ShutString
namespace Go.Proofs.Ytfhaogacblnnnaa.strips
open Go.ChangeShapes Go.WideShapes Go.ChangeAt Go.RowKit
open Go.ChangeMaps (open_string shut_string)

theorem LentO.turn {S : Nat → Prop} {w w' : World} {g : Nat} {os : List On} (h : LentO w g os) (ht : Turn S w w') (hs : ¬ S g) : LentO w' g os := fun j u hu => by
  have h1 := h j u hu
  have h2 := ht.block g (World.block_lt_of_cell? _ _ h1) hs
  rw [← h1]
  unfold World.cell?
  simp only
  rw [h2]
theorem LentO.lt {w : World} {g : Nat} {os : List On} (h : LentO w g os) : g < w.heap.size := World.block_lt_of_cell? _ _ h.marks.1

/-- What Strips holds: the OPT, what is handed in, what Strip and the document give of it. -/
structure TS (w0 w : World) (C0 Cx Ca Cb : Array Value) (ga gb gl : Nat) (v va vb : Value) (os : List On) : Prop where
  box : Blk w w0.heap.size C0 24
  lent : Blk w (w0.heap.size + 1) Cx 24
  one : Blk w ga Ca 24
  two : Blk w gb Cb 24
  row : ORow w0 v os
  rowl : LentO w gl os
  own : w.ownsRow w0.heap.size 33 2 va (flt os).length (oC (flt os))
  rowb : Row w vb (flt os).length (oC (flt os))
  apart : va.ownBlock ≠ some gl
  below : Below w0.heap.size w0 w
theorem TS.past {w0 w w' : World} {C0 Cx Ca Cb : Array Value} {ga gb gl : Nat} {v va vb : Value} {os : List On} (h : TS w0 w C0 Cx Ca Cb ga gb gl v va vb os) (hb : Below w.heap.size w w') : TS w0 w' C0 Cx Ca Cb ga gb gl v va vb os :=
  ⟨h.box.below hb, h.lent.below hb, h.one.below hb, h.two.below hb, h.row, h.rowl.below hb, own_past h.own hb, h.rowb.below hb, h.apart, next h.below hb⟩

set_option maxRecDepth 20000 in
set_option maxHeartbeats 4000000 in
theorem walk (o : Ot) (v : Value) (hz : o.os.length * 24 ≤ far) (w : World) (hr : ORow w v o.os) :
    Calls Try.prog 3 #[.agg (optC o v)] w fun e w' => e = .returned (.bool true) ∧ Below w.heap.size w w' := by
  obtain ⟨s, ee, vv, b, z, os⟩ := o
  simp only at hz hr ⊢
  obtain ⟨x, c, hv⟩ := row_slice hr.1
  obtain ⟨n, hn⟩ : ∃ n, n = os.length := ⟨_, rfl⟩
  rw [← hn] at hv
  subst hv
  obtain ⟨M, hM⟩ : ∃ M, M = (flt os).length := ⟨_, rfl⟩
  have hle := flt_le os
  have hmx := hr.2.1
  have hds := hr.2.2
  have P1 := fun v' u h => strip_l s ee vv b z os M hM v' u h hmx hz (fun x hx => by have := hds x hx; unfold far at this; omega)
  have P2 : ∀ u, Row u (.slice x n c) os.length (oC os) → Calls Try.prog 8 #[.agg #[.int .i64 s, .int .i64 ee, .int .i64 vv, .bool b, .int .i64 z, .slice x n c]] u fun e w' => ∃ (y : Option Addr) (cap : Nat), e = .returned (.agg #[.int .i64 s, .int .i64 ee, .int .i64 vv, .bool b, .int .i64 z, .slice y M cap]) ∧ Row w' (.slice y M cap) (flt os).length (oC (flt os)) ∧ Below u.heap.size u w' := fun u h =>
    (refStrip_any ⟨s, ee, vv, b, z, os⟩ (.slice x n c) u h hmx hz).mono fun e w' ⟨y, m, cap, he, ho, hb⟩ => by
      have := own_len ho
      subst this
      simp only [← hM] at ho he
      exact ⟨y, cap, he, by rw [← hM]; exact Row.of_own ho, hb⟩
  have P3 := fun va vb u h h' => sameOpt_yes ⟨s, ee, vv, b, z, flt os⟩ va vb u h h' (Nat.le_trans hle hmx)
  have P4 := fun v' u h => has_any ⟨s, ee, vv, b, z, os⟩ v' u h hmx
  have P5 := fun v' u h => has_any ⟨s, ee, vv, b, z, flt os⟩ v' u h (Nat.le_trans hle hmx)
  simp only [flt_none, flt_less os, ← hM, ← hn] at P4 P5
  unfold optC at P3 P4 P5
  simp only at P3 P4 P5
  have KP : ∀ (gl cl : Nat) (u : World), n + 2 ≤ cl → LentO u gl os → ORow u (.slice x n c) os → Calls Try.prog 10 #[.slice (some ⟨gl, 0, none⟩) n cl, .slice x n c] u fun e w' => e = .returned (.bool true) ∧ Below u.heap.size u w' := fun gl cl u h1 h2 h3 => by
    rw [hn]; exact keptO_any gl cl _ os u h2 (hn ▸ h1) (hn ▸ h3) hz
  have SP : ∀ (y : Option Addr) (k B : Nat) (u : World), u.ownsRow B 33 2 (.slice y M k) (flt os).length (oC (flt os)) → Calls Try.prog 12 #[.slice y M k] u fun e w' => e = .returned (.tuple #[]) ∧ Turn (fun j => (Value.slice y M k).ownBlock = some j) u w' := fun y k B u h => by
    rw [← hM] at h
    exact spoilO_far (.inr h) (by rw [hM]; exact ints_o _) (by unfold far at hz ⊢; omega)
  have hb : Below w.heap.size w ((w.alloc (.cells #[.int .i64 s, .int .i64 ee, .int .i64 vv, .bool b, .int .i64 z, .slice x n c] 24)).alloc (.cells #[.int .i64 s, .int .i64 ee, .int .i64 vv, .bool b, .int .i64 z, .slice x n c] 24)) := lay (lay (Below.refl _ _) _) _
  have k0 := (Blk.new w #[.int .i64 s, .int .i64 ee, .int .i64 vv, .bool b, .int .i64 z, .slice x n c] 24).alloc (.cells #[.int .i64 s, .int .i64 ee, .int .i64 vv, .bool b, .int .i64 z, .slice x n c] 24)
  have k1 := Blk.new (w.alloc (.cells #[.int .i64 s, .int .i64 ee, .int .i64 vv, .bool b, .int .i64 z, .slice x n c] 24)) #[.int .i64 s, .int .i64 ee, .int .i64 vv, .bool b, .int .i64 z, .slice x n c] 24
  rw [World.size_alloc] at k1
  have hsz : ((w.alloc (.cells #[.int .i64 s, .int .i64 ee, .int .i64 vv, .bool b, .int .i64 z, .slice x n c] 24)).alloc (.cells #[.int .i64 s, .int .i64 ee, .int .i64 vv, .bool b, .int .i64 z, .slice x n c] 24)).heap.size = w.heap.size + 2 := by rw [World.size_alloc, World.size_alloc]
  have L1 := lendO_any (.slice x n c) os ((w.alloc (.cells #[.int .i64 s, .int .i64 ee, .int .i64 vv, .bool b, .int .i64 z, .slice x n c] 24)).alloc (.cells #[.int .i64 s, .int .i64 ee, .int .i64 vv, .bool b, .int .i64 z, .slice x n c] 24)) (hr.below hb) hz
  rw [← hn] at L1
  have K0 : Hid (Blk ((w.alloc (.cells #[.int .i64 s, .int .i64 ee, .int .i64 vv, .bool b, .int .i64 z, .slice x n c] 24)).alloc (.cells #[.int .i64 s, .int .i64 ee, .int .i64 vv, .bool b, .int .i64 z, .slice x n c] 24)) w.heap.size #[.int .i64 s, .int .i64 ee, .int .i64 vv, .bool b, .int .i64 z, .slice x n c] 24) := k0
  have K1 : Hid (Blk ((w.alloc (.cells #[.int .i64 s, .int .i64 ee, .int .i64 vv, .bool b, .int .i64 z, .slice x n c] 24)).alloc (.cells #[.int .i64 s, .int .i64 ee, .int .i64 vv, .bool b, .int .i64 z, .slice x n c] 24)) (w.heap.size + 1) #[.int .i64 s, .int .i64 ee, .int .i64 vv, .bool b, .int .i64 z, .slice x n c] 24) := k1
  have HR : Hid (ORow w (.slice x n c) os) := hr
  have HN : Hid (n = os.length) := hn
  have HM : Hid (M = (flt os).length) := hM
  have HSZ : Hid (((w.alloc (.cells #[.int .i64 s, .int .i64 ee, .int .i64 vv, .bool b, .int .i64 z, .slice x n c] 24)).alloc (.cells #[.int .i64 s, .int .i64 ee, .int .i64 vv, .bool b, .int .i64 z, .slice x n c] 24)).heap.size = w.heap.size + 2) := hsz
  unfold optC
  simp only
  clear hr hn hM hle hmx hds hz hsz k0 k1
  go_enter Try.func3, Try.ntmps3
  go_wp2_with (go_at_call 6; go_must (refine L1.mono ?_); rintro e w1 ⟨gl, cl, rfl, hcl, lent, hgl, b1⟩; have HL : Hid (LentO w1 gl os) := lent; have HG : Hid (w.heap.size + 2 ≤ gl) := (by unfold Hid; have h1 := HSZ.out; omega); replace K0 : Hid (Blk w1 w.heap.size #[.int .i64 s, .int .i64 ee, .int .i64 vv, .bool b, .int .i64 z, .slice x n c] 24) := K0.out.below b1; replace K1 : Hid (Blk w1 (w.heap.size + 1) #[.int .i64 s, .int .i64 ee, .int .i64 vv, .bool b, .int .i64 z, .slice x n c] 24) := K1.out.below b1; replace hb := next hb b1; obtain ⟨k0, k1, k2, k3, k4, k5⟩ := K1.out.six'; have kf := K1.out.frozen 5; clear b1 lent hgl L1 HSZ)
  have hset : Turn (fun k => k = w.heap.size + 1) w1 (w1.setCell ⟨w.heap.size + 1, 5, none⟩ (.slice (some ⟨gl, 0, none⟩) n cl)) := Turn.of_set (S := fun k => k = w.heap.size + 1) w1 (p := ⟨w.heap.size + 1, 5, none⟩) rfl _
  have H0 : Hid (Blk (w1.setCell ⟨w.heap.size + 1, 5, none⟩ (.slice (some ⟨gl, 0, none⟩) n cl)) w.heap.size #[.int .i64 s, .int .i64 ee, .int .i64 vv, .bool b, .int .i64 z, .slice x n c] 24) := hset.blk K0.out (by omega)
  have H1 : Hid (Blk (w1.setCell ⟨w.heap.size + 1, 5, none⟩ (.slice (some ⟨gl, 0, none⟩) n cl)) (w.heap.size + 1) #[.int .i64 s, .int .i64 ee, .int .i64 vv, .bool b, .int .i64 z, .slice (some ⟨gl, 0, none⟩) n cl] 24) := K1.out.set 5 _
  have HL1 : Hid (LentO (w1.setCell ⟨w.heap.size + 1, 5, none⟩ (.slice (some ⟨gl, 0, none⟩) n cl)) gl os) := LentO.turn HL.out hset (by have := HG.out; omega)
  have hb1 : Below w.heap.size w (w1.setCell ⟨w.heap.size + 1, 5, none⟩ (.slice (some ⟨gl, 0, none⟩) n cl)) := Turn.below hb hset hb.size (fun i e => by omega)
  clear hset K0 K1 HL hb k0 k1 k2 k3 k4 k5 kf HG
  revert H0 H1 HL1 hb1
  generalize (w1.setCell ⟨w.heap.size + 1, 5, none⟩ (.slice (some ⟨gl, 0, none⟩) n cl)) = u1
  intro K0 K1 HL hb
  obtain ⟨d0, d1, d2, d3, d4, d5⟩ := K1.out.six'
  go_wp2_with (first
    | (go_at_call 7; go_must (refine (P1 _ _ (by rw [HN.out]; exact HL.out.row)).mono ?_); rintro e w2 ⟨y1, c1, rfl, o1, b1⟩; have HAP : Hid ((Value.slice y1 M c1).ownBlock ≠ some gl) := (fun e => (by have h1 := (o1.lt gl e).1; have h2 := LentO.lt HL.out; omega)); replace b1 := next b1 (lay (Below.refl _ _) (.cells #[.int .i64 s, .int .i64 ee, .int .i64 vv, .bool b, .int .i64 z, .slice y1 M c1] 24)); have k2 := Blk.new w2 #[.int .i64 s, .int .i64 ee, .int .i64 vv, .bool b, .int .i64 z, .slice y1 M c1] 24; have K2 : Hid (Blk (w2.alloc (.cells #[.int .i64 s, .int .i64 ee, .int .i64 vv, .bool b, .int .i64 z, .slice y1 M c1] 24)) w2.heap.size #[.int .i64 s, .int .i64 ee, .int .i64 vv, .bool b, .int .i64 z, .slice y1 M c1] 24) := k2; have HO : Hid ((w2.alloc (.cells #[.int .i64 s, .int .i64 ee, .int .i64 vv, .bool b, .int .i64 z, .slice y1 M c1] 24)).ownsRow w.heap.size 33 2 (.slice y1 M c1) (flt os).length (oC (flt os))) := (by unfold Hid; rw [← HM.out]; exact own_base (o1.alloc _) hb.size); replace K0 : Hid (Blk (w2.alloc (.cells #[.int .i64 s, .int .i64 ee, .int .i64 vv, .bool b, .int .i64 z, .slice y1 M c1] 24)) w.heap.size #[.int .i64 s, .int .i64 ee, .int .i64 vv, .bool b, .int .i64 z, .slice x n c] 24) := K0.out.below b1; replace K1 : Hid (Blk (w2.alloc (.cells #[.int .i64 s, .int .i64 ee, .int .i64 vv, .bool b, .int .i64 z, .slice y1 M c1] 24)) (w.heap.size + 1) #[.int .i64 s, .int .i64 ee, .int .i64 vv, .bool b, .int .i64 z, .slice (some ⟨gl, 0, none⟩) n cl] 24) := K1.out.below b1; replace HL : Hid (LentO (w2.alloc (.cells #[.int .i64 s, .int .i64 ee, .int .i64 vv, .bool b, .int .i64 z, .slice y1 M c1] 24)) gl os) := HL.out.below b1; replace hb := next hb b1; clear d0 d1 d2 d3 d4 d5; obtain ⟨d0, d1, d2, d3, d4, d5⟩ := K0.out.six'; clear b1 o1 k2)
    | (go_at_call 8; go_must (refine (P2 _ (HR.out.below hb).1).mono ?_); rintro e w3 ⟨y2, c2, rfl, o2, b2⟩; replace b2 := next b2 (lay (Below.refl _ _) (.cells #[.int .i64 s, .int .i64 ee, .int .i64 vv, .bool b, .int .i64 z, .slice y2 M c2] 24)); have HT : Hid (TS w (w3.alloc (.cells #[.int .i64 s, .int .i64 ee, .int .i64 vv, .bool b, .int .i64 z, .slice y2 M c2] 24)) #[.int .i64 s, .int .i64 ee, .int .i64 vv, .bool b, .int .i64 z, .slice x n c] #[.int .i64 s, .int .i64 ee, .int .i64 vv, .bool b, .int .i64 z, .slice (some ⟨gl, 0, none⟩) n cl] #[.int .i64 s, .int .i64 ee, .int .i64 vv, .bool b, .int .i64 z, .slice y1 M c1] #[.int .i64 s, .int .i64 ee, .int .i64 vv, .bool b, .int .i64 z, .slice y2 M c2] w2.heap.size w3.heap.size gl (.slice x n c) (.slice y1 M c1) (.slice y2 M c2) os) := ⟨K0.out.below b2, K1.out.below b2, K2.out.below b2, Blk.new w3 _ _, HR.out, HL.out.below b2, own_past HO.out b2, o2.below (lay (Below.refl _ _) _), HAP.out, next hb b2⟩; clear d0 d1 d2 d3 d4 d5 b2 o2 K0 K1 K2 HL HO HAP hb))
  revert HT
  generalize w3.alloc (.cells #[.int .i64 s, .int .i64 ee, .int .i64 vv, .bool b, .int .i64 z, .slice y2 M c2] 24) = wr
  intro HT
  have a0 : ∀ nb : Bel wr, nb.to.cell? ⟨w2.heap.size, 0, none⟩ = some (.int .i64 s) := fun nb => (HT.out.past nb.h).one.cell 0
  have a1 : ∀ nb : Bel wr, nb.to.cell? ⟨w2.heap.size, 1, none⟩ = some (.int .i64 ee) := fun nb => (HT.out.past nb.h).one.cell 1
  have a2 : ∀ nb : Bel wr, nb.to.cell? ⟨w2.heap.size, 2, none⟩ = some (.int .i64 vv) := fun nb => (HT.out.past nb.h).one.cell 2
  have a3 : ∀ nb : Bel wr, nb.to.cell? ⟨w2.heap.size, 3, none⟩ = some (.bool b) := fun nb => (HT.out.past nb.h).one.cell 3
  have a4 : ∀ nb : Bel wr, nb.to.cell? ⟨w2.heap.size, 4, none⟩ = some (.int .i64 z) := fun nb => (HT.out.past nb.h).one.cell 4
  have a5 : ∀ nb : Bel wr, nb.to.cell? ⟨w2.heap.size, 5, none⟩ = some (.slice y1 M c1) := fun nb => (HT.out.past nb.h).one.cell 5
  have e0 : ∀ nb : Bel wr, nb.to.cell? ⟨w3.heap.size, 0, none⟩ = some (.int .i64 s) := fun nb => (HT.out.past nb.h).two.cell 0
  have e1 : ∀ nb : Bel wr, nb.to.cell? ⟨w3.heap.size, 1, none⟩ = some (.int .i64 ee) := fun nb => (HT.out.past nb.h).two.cell 1
  have e2 : ∀ nb : Bel wr, nb.to.cell? ⟨w3.heap.size, 2, none⟩ = some (.int .i64 vv) := fun nb => (HT.out.past nb.h).two.cell 2
  have e3 : ∀ nb : Bel wr, nb.to.cell? ⟨w3.heap.size, 3, none⟩ = some (.bool b) := fun nb => (HT.out.past nb.h).two.cell 3
  have e4 : ∀ nb : Bel wr, nb.to.cell? ⟨w3.heap.size, 4, none⟩ = some (.int .i64 z) := fun nb => (HT.out.past nb.h).two.cell 4
  have e5 : ∀ nb : Bel wr, nb.to.cell? ⟨w3.heap.size, 5, none⟩ = some (.slice y2 M c2) := fun nb => (HT.out.past nb.h).two.cell 5
  have l0 : ∀ nb : Bel wr, nb.to.cell? ⟨w.heap.size + 1, 0, none⟩ = some (.int .i64 s) := fun nb => (HT.out.past nb.h).lent.cell 0
  have l1 : ∀ nb : Bel wr, nb.to.cell? ⟨w.heap.size + 1, 1, none⟩ = some (.int .i64 ee) := fun nb => (HT.out.past nb.h).lent.cell 1
  have l2 : ∀ nb : Bel wr, nb.to.cell? ⟨w.heap.size + 1, 2, none⟩ = some (.int .i64 vv) := fun nb => (HT.out.past nb.h).lent.cell 2
  have l3 : ∀ nb : Bel wr, nb.to.cell? ⟨w.heap.size + 1, 3, none⟩ = some (.bool b) := fun nb => (HT.out.past nb.h).lent.cell 3
  have l4 : ∀ nb : Bel wr, nb.to.cell? ⟨w.heap.size + 1, 4, none⟩ = some (.int .i64 z) := fun nb => (HT.out.past nb.h).lent.cell 4
  have l5 : ∀ nb : Bel wr, nb.to.cell? ⟨w.heap.size + 1, 5, none⟩ = some (.slice (some ⟨gl, 0, none⟩) n cl) := fun nb => (HT.out.past nb.h).lent.cell 5
  have o5 : ∀ nb : Bel wr, nb.to.cell? ⟨w.heap.size, 5, none⟩ = some (.slice x n c) := fun nb => (HT.out.past nb.h).box.cell 5
  have S1 := fun nb : Bel wr => P3 (.slice y1 M c1) (.slice y2 M c2) nb.to (Row.of_own (HT.out.past nb.h).own) (HT.out.past nb.h).rowb
  have S2 := fun nb : Bel wr => KP gl cl nb.to hcl (HT.out.past nb.h).rowl ((HT.out.past nb.h).row.below (HT.out.past nb.h).below)
  have S3 := fun nb : Bel wr => P4 (.slice (some ⟨gl, 0, none⟩) n cl) nb.to (by rw [HN.out]; exact (HT.out.past nb.h).rowl.row)
  have S4 := fun nb : Bel wr => P5 (.slice y1 M c1) nb.to (by have h1 := Row.of_own (HT.out.past nb.h).own; rw [← HM.out] at h1; exact h1)
  refine wp_region_bel (by kernel_rfl) (by kernel_rfl) (fun _ => ?_)
  repeat (go_big_quiet_step (first
    | (go_at_call 9; go_must (exact bel_lays (S1 _)))
    | (go_at_call 10; go_must (exact bel_lays (S2 _)))
    | (go_at_call_of 11 (#[Value.agg #[.int .i64 s, .int .i64 ee, .int .i64 vv, .bool b, .int .i64 z, .slice (some ⟨gl, 0, none⟩) n cl]]); go_must (exact bel_lays (S3 _)))
    | (go_at_call 11; go_must (exact bel_lays (S4 _)))))
  refine wpQuiet_nil ?_
  intro wn hwn
  have HT2 : Hid (TS w wn #[.int .i64 s, .int .i64 ee, .int .i64 vv, .bool b, .int .i64 z, .slice x n c] #[.int .i64 s, .int .i64 ee, .int .i64 vv, .bool b, .int .i64 z, .slice (some ⟨gl, 0, none⟩) n cl] #[.int .i64 s, .int .i64 ee, .int .i64 vv, .bool b, .int .i64 z, .slice y1 M c1] #[.int .i64 s, .int .i64 ee, .int .i64 vv, .bool b, .int .i64 z, .slice y2 M c2] w2.heap.size w3.heap.size gl (.slice x n c) (.slice y1 M c1) (.slice y2 M c2) os) := HT.out.past (bel_out hwn)
  clear HT hwn a0 a1 a2 a3 a4 a5 e0 e1 e2 e3 e4 e5 l0 l1 l2 l3 l4 l5 o5 S1 S2 S3 S4 P1 P2 P3 P4 P5
  have a5 : wn.cell? ⟨w2.heap.size, 5, none⟩ = some (.slice y1 M c1) := HT2.out.one.cell 5
  go_wp2_with (first
    | (go_at_call 12; go_must (refine (SP _ _ _ _ HT2.out.own).mono ?_); rintro e w4 ⟨rfl, tt⟩; have K0 : Hid (Blk w4 w.heap.size #[.int .i64 s, .int .i64 ee, .int .i64 vv, .bool b, .int .i64 z, .slice x n c] 24) := tt.blk HT2.out.box (fun e => own_sep HT2.out.own HT2.out.box (by decide) e.symm); have K1 : Hid (Blk w4 (w.heap.size + 1) #[.int .i64 s, .int .i64 ee, .int .i64 vv, .bool b, .int .i64 z, .slice (some ⟨gl, 0, none⟩) n cl] 24) := tt.blk HT2.out.lent (fun e => own_sep HT2.out.own HT2.out.lent (by decide) e.symm); have HL : Hid (LentO w4 gl os) := LentO.turn HT2.out.rowl tt HT2.out.apart; have hb : Below w.heap.size w w4 := Turn.below HT2.out.below tt HT2.out.below.size (fun j hj => (HT2.out.own.lt j hj).1); have c5 : w4.cell? ⟨w.heap.size, 5, none⟩ = some (.slice x n c) := K0.out.cell 5; have l5 : w4.cell? ⟨w.heap.size + 1, 5, none⟩ = some (.slice (some ⟨gl, 0, none⟩) n cl) := K1.out.cell 5; clear tt a5 HT2)
    | (go_at_call 10; go_must (refine (KP _ _ _ hcl HL.out (HR.out.below hb)).mono ?_); rintro e w5 ⟨rfl, b5⟩; replace hb := next hb b5; clear b5 c5 l5)
    | (go_at_call 13; go_must (refine (awake_any _).mono ?_); rintro e w6 ⟨rfl, b6⟩; replace hb := next hb b6; clear b6))
  go_ret
  exact ⟨rfl, hb⟩

theorem own : ownKnob Try.prog.godebug = none := by kernel_rfl
theorem laidOut : laidOutB Try.prog = true := by kernel_rfl

set_option maxRecDepth 100000 in
theorem lifted (os : Os) (started : os.Started) (H : Type) (enc : TypeId × Value → H) :
    ReturnsInHanded {} Try.checked os 3 .any (Rows.stripsSpec.pre6 enc Try.prog Try.f3 Rows.stripsRow.domain false) (Rows.stripsSpec.post enc Try.prog Try.f3 false true false false) := by
  refine returnsInHanded_of_change_sized (C := Try.checked) own started (by kernel_rfl) Try.func3
    (ChangeSpec.witness6 (enc := enc) (C := Try.checked) false ⟨#[], #[.agg (optC otZ (.slice none 0 0))], []⟩ 8 (by kernel_rfl) (by kernel_rfl) (by kernel_rfl) (by kernel_rfl)) ?_
  intro W base args ds gs before hval0 hW _ hsz0 _
  have hval : ∀ (j : Nat) t v, Try.f3.params[j]? = some t → args[j]? = some v → Value.okWide Try.prog W .any base t v := hval0
  have hsz : (DataW.weightsEach Try.prog (Try.f3.params.toList ++ Rows.stripsSpec.plain.varTypes Try.prog) (ds ++ gs)).all (· ≤ reachBytes) = true := hsz0
  have hW' := hW
  obtain ⟨p, q, hA0, hV, rfl, hfz, hnd⟩ := hW
  have hA : DataW.TrodAll enc Try.prog W 0 (fun _ => true) true Try.f3.params.toList args.toList ds p := hA0
  rw [Try.params3] at hA hval hsz
  obtain ⟨v0, vs0, d0, ds0, p0, q0, hargs, rfl, rfl, h0, r0⟩ := trodAll_cons hA
  obtain ⟨rfl, rfl, rfl⟩ := trodAll_nil r0
  obtain rfl : args = #[v0] := by cases args; simp_all
  obtain ⟨rfl, rfl⟩ := trodVars_none hV
  obtain ⟨a0, b0, rfl, w0, z0⟩ := open_opt (hval 0 24 v0 rfl rfl) h0 (weights_all hsz (j := 0) rfl rfl)
  have hlt0 : ∀ x ∈ p0, x.block < W.heap.size := fun x hx => by
    have := hW'.lt x (by simp [hx])
    simpa using this
  clear hA0 hval0 hsz0 hsz
  simp only [List.append_nil] at hW'
  refine (walk a0 b0  z0 W w0).mono fun e W' ⟨he, bel⟩ => ?_
  subst he
  exact ⟨_, rfl, _, _, _, [], _, [], hW', trodAll_mk1 (shut_bool Try.underlying4 _), (trodAll_cons_mk (Below.trod laidOut (by kernel_rfl) (of_decide_eq_true (by kernel_rfl)) h0 bel hlt0) trodAll_mk0), rfl, bel.frame _, fun h => by cases h⟩

/-- The statement. -/
theorem proved : Rows.StripsSaid :=
  OpenClaim.holds_of_wide 3 Try.f3 rfl rfl rfl rfl rfl rfl rfl ⟨rfl, rfl, rfl, rfl, rfl⟩ rfl rfl rfl rfl rfl (by kernel_rfl) Try.func3 (by kernel_rfl)
    (of_decide_eq_true (by kernel_rfl)) (by unfold Func.isWrapper; first | (rw [if_pos (by decide +kernel)]; kernel_rfl) | (rw [if_neg (by decide +kernel)]; exact ⟨rfl, rfl⟩))
    (fun os started H enc _ => lifted os started H enc)
#print axioms proved

end Go.Proofs.Ytfhaogacblnnnaa.strips
