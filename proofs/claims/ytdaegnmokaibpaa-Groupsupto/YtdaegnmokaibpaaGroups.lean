/- Groups holds where what comes in is of bulk at most 1048576: of whatever records and whatever set Group and Rrs answer as the document's do, keep what they were lent, and give what is theirs no more. -/
import Derived.Test.YtdaegnmokaibpaaSeT
import Derived.Test.YtdaegnmokaibpaaSeJ
import Derived.Test.YtdaegnmokaibpaaInA
import Derived.ProofKit
import Derived.OpenShut
import Derived.ShutString
import Derived.JoinedCond
namespace Go.Proofs.Ytdaegnmokaibpaa.groups
open Go.ChangeShapes Go.WideShapes Go.ChangeAt Go.RowKit
open Go.ChangeMaps (open_string shut_string)
open Pl

/-- What Group answers. -/
theorem group_any (v : Value) (rs : List Rc) (w : World) (h : RRow w v rs) (f : Int) (ss : List Sn) (N : Nat) (hN : N = ss.length) (hf1 : badG rs = true → f = 1100 ∧ ss = []) (hf0 : badG rs = false → f = 0 ∧ ss = grpS rs) :
    Calls Try.prog 10 #[v] w fun e w' => ∃ (y : Option Addr) (c : Nat) (ps : List (Sn × Value)), e = .returned (.tuple #[.slice y N c, .int .i64 f]) ∧ ps.map Prod.fst = ss ∧ GS w.heap.size w' (.slice y N c) ps ∧ Below w.heap.size w w' := by
  cases hb : badG rs with
  | true =>
    obtain ⟨rfl, rfl⟩ := hf1 hb
    subst hN
    refine (group_bad v rs w h hb).mono ?_
    rintro e w' ⟨rfl, b⟩
    exact ⟨none, 0, [], rfl, rfl, GS.nil _ _, b⟩
  | false =>
    obtain ⟨rfl, rfl⟩ := hf0 hb
    refine (group_ok v rs w h hb).mono ?_
    rintro e w' ⟨y, c, ps, rfl, hm, hg, b⟩
    have hl : ps.length = N := by rw [hN, ← hm, List.length_map]
    rw [hl] at hg ⊢
    exact ⟨y, c, ps, rfl, hm, hg, b⟩
theorem ref_any (v : Value) (rs : List Rc) (w : World) (h : RRow w v rs) (f : Int) (ss : List Sn) (N : Nat) (hN : N = ss.length) (hf1 : badG rs = true → f = 1100 ∧ ss = []) (hf0 : badG rs = false → f = 0 ∧ ss = grpS rs) :
    Calls Try.prog 11 #[v] w fun e w' => ∃ (y : Option Addr) (c : Nat) (ps : List (Sn × Value)), e = .returned (.tuple #[.slice y N c, .int .i64 f]) ∧ ps.map Prod.fst = ss ∧ GS w.heap.size w' (.slice y N c) ps ∧ Below w.heap.size w w' := by
  refine (refGroup_any v rs w h f ss hf1 hf0).mono ?_
  rintro e w' ⟨y, c, ps, rfl, hm, hg, b⟩
  have hl : ps.length = N := by rw [hN, ← hm, List.length_map]
  rw [hl] at hg ⊢
  exact ⟨y, c, ps, rfl, hm, hg, b⟩
theorem lies_lt {w : World} {g : Nat} {xs ys : List Value} {v : Value} (h : Lies w g (xs ++ (v :: ys))) : g < w.heap.size := World.block_lt_of_cell? _ _ (h xs.length v (by simp))
theorem may_size {t : Int} {d : ByteArray} (h : mayD t d.data.toList = true) : d.size ≤ 65535 := by
  rw [← data_len]
  by_cases e : 65535 < d.data.toList.length
  · rw [may_long t e] at h; simp at h
  · omega
/-- How great the sets are. -/
theorem all_small {rs : List Rc} {ss : List Sn} (h1 : badG rs = true → ss = []) (h0 : badG rs = false → ss = grpS rs) : ss.length ≤ 64 ∧ ∀ s ∈ ss, s.ds.length ≤ 64 ∧ ∀ d ∈ s.ds, d.size ≤ 65535 := by
  cases hb : badG rs with
  | true => rw [h1 hb]; exact ⟨Nat.zero_le _, fun s hs => by simp at hs⟩
  | false =>
    rw [h0 hb]
    unfold badG at hb
    rw [Bool.or_eq_false_iff, decide_eq_false_iff_not] at hb
    have hok : ∀ r ∈ rs, okR r = true := fun r hr => by
      have := List.any_eq_false.1 hb.2 r hr
      simpa using this
    have hg := grpS_good rs
    exact ⟨by omega, fun s hs => ⟨by have := (hg.2 s hs).2; omega, fun d hd => may_size ((grp_facts hok hs).2.2.2.2.2 d hd)⟩⟩

set_option maxRecDepth 20000 in
set_option maxHeartbeats 4000000 in
theorem walk (v : Value) (rs : List Rc) (n : ByteArray) (t l : Int) (v' : Value) (ds : List ByteArray) (w : World) (hr : RRow w v rs) (hd : Row w v' ds.length (tC ds)) (hrl : rs.length ≤ 1048576) (hdl : ds.length ≤ 1048576) (hn : n.size ≤ 1048576) (hds : ∀ d ∈ ds, d.size ≤ 1048576) :
    Calls Try.prog 3 #[v, .agg #[.string n, .int .i64 t, .int .i64 l, v']] w fun e w' => e = .returned (.bool true) ∧ Below w.heap.size w w' := by
  obtain ⟨f, ss, hf1, hf0⟩ : ∃ (f : Int) (ss : List Sn), (badG rs = true → f = 1100 ∧ ss = []) ∧ (badG rs = false → f = 0 ∧ ss = grpS rs) := by
    cases badG rs with
    | true => exact ⟨1100, [], fun _ => ⟨rfl, rfl⟩, fun h => by simp at h⟩
    | false => exact ⟨0, grpS rs, fun h => by simp at h, fun _ => ⟨rfl, rfl⟩⟩
  obtain ⟨N, hN⟩ : ∃ N, N = ss.length := ⟨_, rfl⟩
  obtain ⟨R, hR⟩ : ∃ R, R = rs.length := ⟨_, rfl⟩
  obtain ⟨D, hD⟩ : ∃ D, D = ds.length := ⟨_, rfl⟩
  obtain ⟨x, c, hv⟩ := row_slice hr.1
  obtain ⟨x', c', hv'⟩ := row_slice hd
  rw [← hR] at hv
  rw [← hD] at hv'
  subst hv hv'
  have hsm := all_small (fun h => (hf1 h).2) (fun h => (hf0 h).2)
  have HSM : Hid (ss.length ≤ 64 ∧ ∀ s ∈ ss, s.ds.length ≤ 64 ∧ ∀ d ∈ s.ds, d.size ≤ 65535) := hsm
  have hN64 : N ≤ 64 := by omega
  have LE : Hid (∀ u, Below w.heap.size w u → Calls Try.prog 9 #[.slice x R c] u fun e w' => ∃ g cap, e = .returned (.slice (some ⟨g, 0, none⟩) R cap) ∧ R + 2 ≤ cap ∧ Lies w' g (rC rs ++ rC [mkR, mkR]) ∧ u.heap.size ≤ g ∧ Below u.heap.size u w') := fun u hu => by
    rw [hR] at hr ⊢; exact lendR_any _ rs u (hr.below hu) (by omega)
  have GR : Hid (∀ u g cap, Lies u g (rC rs ++ rC [mkR, mkR]) → Calls Try.prog 10 #[.slice (some ⟨g, 0, none⟩) R cap] u fun e w' => ∃ (y : Option Addr) (c : Nat) (ps : List (Sn × Value)), e = .returned (.tuple #[.slice y N c, .int .i64 f]) ∧ ps.map Prod.fst = ss ∧ GS u.heap.size w' (.slice y N c) ps ∧ Below u.heap.size u w') := fun u g cap hl => by
    refine group_any _ rs u ?_ f ss N hN hf1 hf0
    rw [hR]; exact ⟨hl.row, hr.2⟩
  have RG : Hid (∀ u, Below w.heap.size w u → Calls Try.prog 11 #[.slice x R c] u fun e w' => ∃ (y : Option Addr) (c : Nat) (ps : List (Sn × Value)), e = .returned (.tuple #[.slice y N c, .int .i64 f]) ∧ ps.map Prod.fst = ss ∧ GS u.heap.size w' (.slice y N c) ps ∧ Below u.heap.size u w') := fun u hu => ref_any _ rs u (hr.below hu) f ss N hN hf1 hf0
  have LT : Hid (∀ u, Below w.heap.size w u → Calls Try.prog 12 #[.slice x' D c'] u fun e w' => ∃ g cap, e = .returned (.slice (some ⟨g, 0, none⟩) D cap) ∧ D + 2 ≤ cap ∧ Lies w' g (tC ds ++ tC mkT) ∧ u.heap.size ≤ g ∧ Below u.heap.size u w') := fun u hu => by
    rw [hD] at hd ⊢; exact lendT_any _ ds u (hd.below hu) (by omega)
  have RR : Hid (∀ u g cap, Lies u g (tC ds ++ tC mkT) → Calls Try.prog 13 #[.agg #[.string n, .int .i64 t, .int .i64 l, .slice (some ⟨g, 0, none⟩) D cap]] u fun e w' => ∃ (y : Option Addr) (c : Nat), e = .returned (.slice y D c) ∧ w'.ownsRow u.heap.size 43 5 (.slice y D c) D (rC (rrsOf n t l ds)) ∧ Below u.heap.size u w') := fun u g cap hl => by
    rw [hD]; exact rrs_any n t l _ ds u hl.row (by omega) (fun d h => by have := hds d h; omega) (by omega)
  have RF : Hid (∀ u, Below w.heap.size w u → Calls Try.prog 14 #[.agg #[.string n, .int .i64 t, .int .i64 l, .slice x' D c']] u fun e w' => ∃ (y : Option Addr) (c : Nat), e = .returned (.slice y D c) ∧ w'.ownsRow u.heap.size 43 5 (.slice y D c) D (rC (rrsOf n t l ds)) ∧ Below u.heap.size u w') := fun u hu => by
    have h1 := hd.below hu
    rw [hD] at h1 ⊢; exact refRrs_any n t l _ ds u h1 (by omega)
  have SS : Hid (∀ {B B' : Nat} (y y' : Option Addr) (c c' : Nat) (ps qs : List (Sn × Value)) (u : World), GS B u (.slice y N c) ps → GS B' u (.slice y' N c') qs → ps.map Prod.fst = ss → qs.map Prod.fst = ss → Calls Try.prog 15 #[.slice y N c, .slice y' N c'] u fun e w' => e = .returned (.bool true) ∧ Below u.heap.size u w') := fun y y' c c' ps qs u h1 h2 e1 e2 => sameSets_yes y y' N c c' ps qs u h1 h2 (e1.trans e2.symm) (fun p hp => by have := (hsm.2 p.1 (by rw [← e1]; exact List.mem_map_of_mem hp)).1; omega) (by omega)
  have KR : Hid (∀ u g cap, Lies u g (rC rs ++ rC [mkR, mkR]) → R + 2 ≤ cap → Below w.heap.size w u → Calls Try.prog 17 #[.slice (some ⟨g, 0, none⟩) R cap, .slice x R c] u fun e w' => e = .returned (.bool true) ∧ Below u.heap.size u w') := fun u g cap hl hc hu => by
    have h1 := hr.below hu
    rw [hR] at hc h1 ⊢; exact keptR_any g cap _ rs u hl hc h1 (by omega)
  have SR : Hid (∀ {B B' : Nat} (y y' : Option Addr) (c c' : Nat) (u : World), u.ownsRow B 43 5 (.slice y D c) D (rC (rrsOf n t l ds)) → u.ownsRow B' 43 5 (.slice y' D c') D (rC (rrsOf n t l ds)) → Calls Try.prog 18 #[.slice y D c, .slice y' D c'] u fun e w' => e = .returned (.bool true) ∧ Below u.heap.size u w') := fun y y' c c' u h1 h2 => by
    have e := rrsOf_len n t l ds
    rw [← hD] at e
    exact sameR_yes _ _ (rrsOf n t l ds) u (by rw [e]; exact Row.of_own h1) (by rw [e]; exact Row.of_own h2) (by rw [e]; unfold maxLen; omega)
  have KT : Hid (∀ u g cap, Lies u g (tC ds ++ tC mkT) → D + 2 ≤ cap → Below w.heap.size w u → Calls Try.prog 19 #[.slice (some ⟨g, 0, none⟩) D cap, .slice x' D c'] u fun e w' => e = .returned (.bool true) ∧ Below u.heap.size u w') := fun u g cap hl hc hu => by
    have h1 := hd.below hu
    rw [hD] at hc h1 ⊢; exact keptT_any g cap _ ds u hl hc h1 (by omega)
  have SP : Hid (∀ {B E : Nat} (y : Option Addr) (c : Nat) (ps : List (Sn × Value)) (u : World), GS B u (.slice y N c) ps → ps.map Prod.fst = ss → (∀ k, (Value.slice y N c).ownBlock = some k → k < E) → (∀ p ∈ ps, ∀ k, p.2.ownBlock = some k → k < E) → Calls Try.prog 20 #[.slice y N c] u fun e w' => e = .returned (.tuple #[]) ∧ Turn (fun k => B ≤ k ∧ k < E) u w') := fun y c ps u h e h1 h2 => spoilS_any h h1 h2 (by omega) (fun p hp => by
    have := hsm.2 p.1 (by rw [← e]; exact List.mem_map_of_mem hp)
    exact ⟨by omega, this.2⟩)
  have HB0 : Hid (Below w.heap.size w (w.alloc (.cells #[.string n, .int .i64 t, .int .i64 l, .slice x' D c'] 25))) := lay (Below.refl _ _) _
  have hRl : R ≤ 1048576 := by omega
  have hDl : D ≤ 1048576 := by omega
  clear hR hD hr hd hrl hdl hn hds hf1 hf0 hsm HSM hN
  have t1 : True := trivial
  have t2 : True := trivial
  have s1 : True := trivial
  have s2 : True := trivial
  go_enter Try.func3, Try.ntmps3
  go_wp2_with (first
    | (go_at_call 9; go_must (refine (LE.out _ HB0.out).mono ?_); rintro e w1 ⟨g1, cap1, rfl, hcap1, l1, hg1, b1⟩; have B0 : Hid (Below (w.alloc (.cells #[.string n, .int .i64 t, .int .i64 l, .slice x' D c'] 25)).heap.size (w.alloc (.cells #[.string n, .int .i64 t, .int .i64 l, .slice x' D c'] 25)) w1) := b1; have L1 : Hid (Lies w1 g1 (rC rs ++ rC [mkR, mkR])) := l1; have G1 : Hid (w.heap.size ≤ g1) := Nat.le_trans HB0.out.size hg1; have CP1 : Hid (R + 2 ≤ cap1) := hcap1; have B1 : Hid (Below w1.heap.size w1 w1) := Below.refl _ _; have LT1 : Hid (g1 < w1.heap.size) := lies_lt L1.out; clear b1 l1 hg1 hcap1)
    | (go_at_call 10; have _t := t1; go_must (refine (GR.out _ _ _ L1.out).mono ?_); rintro e w2 ⟨y2, c2, ps2, rfl, e2, gs2, b2⟩; have HG2 : Hid (GS w1.heap.size w2 (.slice y2 N c2) ps2) := gs2; have E2 : Hid (ps2.map Prod.fst = ss) := e2; replace B0 : Hid (Below (w.alloc (.cells #[.string n, .int .i64 t, .int .i64 l, .slice x' D c'] 25)).heap.size (w.alloc (.cells #[.string n, .int .i64 t, .int .i64 l, .slice x' D c'] 25)) w2) := next B0.out b2; replace B1 : Hid (Below w1.heap.size w1 w2) := next B1.out b2; have B2 : Hid (Below w2.heap.size w2 w2) := Below.refl _ _; clear b2 e2 gs2 t1)
    | (go_at_call 11; go_must (refine (RG.out _ (next HB0.out B0.out)).mono ?_); rintro e w3 ⟨y3, c3, ps3, rfl, e3, gs3, b3⟩; have HG3 : Hid (GS w2.heap.size w3 (.slice y3 N c3) ps3) := gs3; have E3 : Hid (ps3.map Prod.fst = ss) := e3; replace B0 : Hid (Below (w.alloc (.cells #[.string n, .int .i64 t, .int .i64 l, .slice x' D c'] 25)).heap.size (w.alloc (.cells #[.string n, .int .i64 t, .int .i64 l, .slice x' D c'] 25)) w3) := next B0.out b3; replace B1 : Hid (Below w1.heap.size w1 w3) := next B1.out b3; replace B2 : Hid (Below w2.heap.size w2 w3) := next B2.out b3; have p0 : w3.cell? ⟨w.heap.size, 0, none⟩ = some (.string n) := ((Blk.new w #[.string n, .int .i64 t, .int .i64 l, .slice x' D c'] 25).below B0.out).cell 0; have p1 : w3.cell? ⟨w.heap.size, 1, none⟩ = some (.int .i64 t) := ((Blk.new w #[.string n, .int .i64 t, .int .i64 l, .slice x' D c'] 25).below B0.out).cell 1; have p2 : w3.cell? ⟨w.heap.size, 2, none⟩ = some (.int .i64 l) := ((Blk.new w #[.string n, .int .i64 t, .int .i64 l, .slice x' D c'] 25).below B0.out).cell 2; have p3 : w3.cell? ⟨w.heap.size, 3, none⟩ = some (.slice x' D c') := ((Blk.new w #[.string n, .int .i64 t, .int .i64 l, .slice x' D c'] 25).below B0.out).cell 3; have q3 : (w3.alloc (.cells #[.string n, .int .i64 t, .int .i64 l, .slice x' D c'] 25)).cell? ⟨w.heap.size, 3, none⟩ = some (.slice x' D c') := (((Blk.new w #[.string n, .int .i64 t, .int .i64 l, .slice x' D c'] 25).below B0.out).alloc _).cell 3; have B3 : Hid (Below w3.heap.size w3 w3) := Below.refl _ _; clear b3 e3 gs3)
    | (go_at_call 12; go_must (refine (LT.out _ (next HB0.out (next B0.out (lay (Below.refl _ _) _)))).mono ?_); rintro e w4 ⟨g4, cap4, rfl, hcap4, l4, hg4, b4⟩; have CP4 : Hid (D + 2 ≤ cap4) := hcap4; have K4 : Hid (Blk w4 w3.heap.size #[.string n, .int .i64 t, .int .i64 l, .slice x' D c'] 25) := (Blk.new w3 #[.string n, .int .i64 t, .int .i64 l, .slice x' D c'] 25).below b4; have r3 : w4.cell? ⟨w3.heap.size, 3, none⟩ = some (.slice x' D c') := K4.out.cell 3; have rf : w4.frozen? ⟨w3.heap.size, 3, none⟩ = false := K4.out.frozen 3; have H4 : Hid (Blk (w4.setCell ⟨w3.heap.size, 3, none⟩ (.slice (some ⟨g4, 0, none⟩) D cap4)) w3.heap.size #[.string n, .int .i64 t, .int .i64 l, .slice (some ⟨g4, 0, none⟩) D cap4] 25) := K4.out.set 3 _; have X4 : Hid (Below w3.heap.size w3 (w4.setCell ⟨w3.heap.size, 3, none⟩ (.slice (some ⟨g4, 0, none⟩) D cap4))) := (next (lay (Below.refl _ _) _) b4).setCell (Nat.le_refl _) _; have L4 : Hid (Lies (w4.setCell ⟨w3.heap.size, 3, none⟩ (.slice (some ⟨g4, 0, none⟩) D cap4)) g4 (tC ds ++ tC mkT)) := l4.turn (Turn.of_set (S := fun i => i = w3.heap.size) w4 (p := ⟨w3.heap.size, 3, none⟩) rfl _) (by rw [World.size_alloc] at hg4; omega); replace B0 : Hid (Below (w.alloc (.cells #[.string n, .int .i64 t, .int .i64 l, .slice x' D c'] 25)).heap.size (w.alloc (.cells #[.string n, .int .i64 t, .int .i64 l, .slice x' D c'] 25)) (w4.setCell ⟨w3.heap.size, 3, none⟩ (.slice (some ⟨g4, 0, none⟩) D cap4))) := next B0.out X4.out; replace B1 : Hid (Below w1.heap.size w1 (w4.setCell ⟨w3.heap.size, 3, none⟩ (.slice (some ⟨g4, 0, none⟩) D cap4))) := next B1.out X4.out; replace B2 : Hid (Below w2.heap.size w2 (w4.setCell ⟨w3.heap.size, 3, none⟩ (.slice (some ⟨g4, 0, none⟩) D cap4))) := next B2.out X4.out; replace B3 : Hid (Below w3.heap.size w3 (w4.setCell ⟨w3.heap.size, 3, none⟩ (.slice (some ⟨g4, 0, none⟩) D cap4))) := next B3.out X4.out; have m0 : (w4.setCell ⟨w3.heap.size, 3, none⟩ (.slice (some ⟨g4, 0, none⟩) D cap4)).cell? ⟨w3.heap.size, 0, none⟩ = some (.string n) := H4.out.cell 0; have m1 : (w4.setCell ⟨w3.heap.size, 3, none⟩ (.slice (some ⟨g4, 0, none⟩) D cap4)).cell? ⟨w3.heap.size, 1, none⟩ = some (.int .i64 t) := H4.out.cell 1; have m2 : (w4.setCell ⟨w3.heap.size, 3, none⟩ (.slice (some ⟨g4, 0, none⟩) D cap4)).cell? ⟨w3.heap.size, 2, none⟩ = some (.int .i64 l) := H4.out.cell 2; have m3 : (w4.setCell ⟨w3.heap.size, 3, none⟩ (.slice (some ⟨g4, 0, none⟩) D cap4)).cell? ⟨w3.heap.size, 3, none⟩ = some (.slice (some ⟨g4, 0, none⟩) D cap4) := H4.out.cell 3; have LT4 : Hid (g4 < (w4.setCell ⟨w3.heap.size, 3, none⟩ (.slice (some ⟨g4, 0, none⟩) D cap4)).heap.size) := lies_lt L4.out; clear b4 l4 hg4 hcap4 p0 p1 p2 p3 q3)
    | (go_at_call 13; go_must (refine (RR.out _ _ _ L4.out).mono ?_); rintro e w5 ⟨y5, c5, rfl, o5, b5⟩; have O5 : Hid (w5.ownsRow (w4.setCell ⟨w3.heap.size, 3, none⟩ (.slice (some ⟨g4, 0, none⟩) D cap4)).heap.size 43 5 (.slice y5 D c5) D (rC (rrsOf n t l ds))) := o5; have B4 : Hid (Below (w4.setCell ⟨w3.heap.size, 3, none⟩ (.slice (some ⟨g4, 0, none⟩) D cap4)).heap.size (w4.setCell ⟨w3.heap.size, 3, none⟩ (.slice (some ⟨g4, 0, none⟩) D cap4)) w5) := b5; replace B0 : Hid (Below (w.alloc (.cells #[.string n, .int .i64 t, .int .i64 l, .slice x' D c'] 25)).heap.size (w.alloc (.cells #[.string n, .int .i64 t, .int .i64 l, .slice x' D c'] 25)) w5) := next B0.out b5; replace B1 : Hid (Below w1.heap.size w1 w5) := next B1.out b5; replace B2 : Hid (Below w2.heap.size w2 w5) := next B2.out b5; replace B3 : Hid (Below w3.heap.size w3 w5) := next B3.out b5; have B5 : Hid (Below w5.heap.size w5 w5) := Below.refl _ _; have u0 : w5.cell? ⟨w.heap.size, 0, none⟩ = some (.string n) := ((Blk.new w #[.string n, .int .i64 t, .int .i64 l, .slice x' D c'] 25).below B0.out).cell 0; have u1 : w5.cell? ⟨w.heap.size, 1, none⟩ = some (.int .i64 t) := ((Blk.new w #[.string n, .int .i64 t, .int .i64 l, .slice x' D c'] 25).below B0.out).cell 1; have u2 : w5.cell? ⟨w.heap.size, 2, none⟩ = some (.int .i64 l) := ((Blk.new w #[.string n, .int .i64 t, .int .i64 l, .slice x' D c'] 25).below B0.out).cell 2; have u3 : w5.cell? ⟨w.heap.size, 3, none⟩ = some (.slice x' D c') := ((Blk.new w #[.string n, .int .i64 t, .int .i64 l, .slice x' D c'] 25).below B0.out).cell 3; clear b5 o5 m0 m1 m2 m3)
    | (go_at_call 14; go_must (refine (RF.out _ (next HB0.out B0.out)).mono ?_); rintro e w6 ⟨y6, c6, rfl, o6, b6⟩; have O6 : Hid (w6.ownsRow w5.heap.size 43 5 (.slice y6 D c6) D (rC (rrsOf n t l ds))) := o6; replace B0 : Hid (Below (w.alloc (.cells #[.string n, .int .i64 t, .int .i64 l, .slice x' D c'] 25)).heap.size (w.alloc (.cells #[.string n, .int .i64 t, .int .i64 l, .slice x' D c'] 25)) w6) := next B0.out b6; replace B1 : Hid (Below w1.heap.size w1 w6) := next B1.out b6; replace B2 : Hid (Below w2.heap.size w2 w6) := next B2.out b6; replace B3 : Hid (Below w3.heap.size w3 w6) := next B3.out b6; replace B4 : Hid (Below (w4.setCell ⟨w3.heap.size, 3, none⟩ (.slice (some ⟨g4, 0, none⟩) D cap4)).heap.size (w4.setCell ⟨w3.heap.size, 3, none⟩ (.slice (some ⟨g4, 0, none⟩) D cap4)) w6) := next B4.out b6; replace B5 : Hid (Below w5.heap.size w5 w6) := next B5.out b6; have B6 : Hid (Below w6.heap.size w6 w6) := Below.refl _ _; clear b6 o6 u0 u1 u2 u3)
    | (go_at_call 15; have _t := s1; go_must (refine (SS.out _ _ _ _ _ _ _ (HG2.out.below B2.out) (HG3.out.below B3.out) E2.out E3.out).mono ?_); rintro e w7 ⟨rfl, b7⟩; replace B0 : Hid (Below (w.alloc (.cells #[.string n, .int .i64 t, .int .i64 l, .slice x' D c'] 25)).heap.size (w.alloc (.cells #[.string n, .int .i64 t, .int .i64 l, .slice x' D c'] 25)) w7) := next B0.out b7; replace B1 : Hid (Below w1.heap.size w1 w7) := next B1.out b7; replace B2 : Hid (Below w2.heap.size w2 w7) := next B2.out b7; replace B3 : Hid (Below w3.heap.size w3 w7) := next B3.out b7; replace B4 : Hid (Below (w4.setCell ⟨w3.heap.size, 3, none⟩ (.slice (some ⟨g4, 0, none⟩) D cap4)).heap.size (w4.setCell ⟨w3.heap.size, 3, none⟩ (.slice (some ⟨g4, 0, none⟩) D cap4)) w7) := next B4.out b7; replace B5 : Hid (Below w5.heap.size w5 w7) := next B5.out b7; replace B6 : Hid (Below w6.heap.size w6 w7) := next B6.out b7; clear b7 s1)
    | (go_at_call 16; refine (num_any _ _).mono ?_; rintro e w' ⟨rfl, hw⟩; obtain rfl := hw.symm)
    | (go_at_call 17; go_must (refine (KR.out _ _ _ (L1.out.below B1.out) CP1.out (next HB0.out B0.out)).mono ?_); rintro e w8 ⟨rfl, b8⟩; replace B0 : Hid (Below (w.alloc (.cells #[.string n, .int .i64 t, .int .i64 l, .slice x' D c'] 25)).heap.size (w.alloc (.cells #[.string n, .int .i64 t, .int .i64 l, .slice x' D c'] 25)) w8) := next B0.out b8; replace B1 : Hid (Below w1.heap.size w1 w8) := next B1.out b8; replace B2 : Hid (Below w2.heap.size w2 w8) := next B2.out b8; replace B3 : Hid (Below w3.heap.size w3 w8) := next B3.out b8; replace B4 : Hid (Below (w4.setCell ⟨w3.heap.size, 3, none⟩ (.slice (some ⟨g4, 0, none⟩) D cap4)).heap.size (w4.setCell ⟨w3.heap.size, 3, none⟩ (.slice (some ⟨g4, 0, none⟩) D cap4)) w8) := next B4.out b8; replace B5 : Hid (Below w5.heap.size w5 w8) := next B5.out b8; replace B6 : Hid (Below w6.heap.size w6 w8) := next B6.out b8; clear b8)
    | (go_at_call 18; go_must (refine (SR.out _ _ _ _ _ (own_past O5.out B5.out) (own_past O6.out B6.out)).mono ?_); rintro e w9 ⟨rfl, b9⟩; replace B0 : Hid (Below (w.alloc (.cells #[.string n, .int .i64 t, .int .i64 l, .slice x' D c'] 25)).heap.size (w.alloc (.cells #[.string n, .int .i64 t, .int .i64 l, .slice x' D c'] 25)) w9) := next B0.out b9; replace B1 : Hid (Below w1.heap.size w1 w9) := next B1.out b9; replace B2 : Hid (Below w2.heap.size w2 w9) := next B2.out b9; replace B3 : Hid (Below w3.heap.size w3 w9) := next B3.out b9; replace B4 : Hid (Below (w4.setCell ⟨w3.heap.size, 3, none⟩ (.slice (some ⟨g4, 0, none⟩) D cap4)).heap.size (w4.setCell ⟨w3.heap.size, 3, none⟩ (.slice (some ⟨g4, 0, none⟩) D cap4)) w9) := next B4.out b9; replace B5 : Hid (Below w5.heap.size w5 w9) := next B5.out b9; replace B6 : Hid (Below w6.heap.size w6 w9) := next B6.out b9; have z0 : w9.cell? ⟨w.heap.size, 0, none⟩ = some (.string n) := ((Blk.new w #[.string n, .int .i64 t, .int .i64 l, .slice x' D c'] 25).below B0.out).cell 0; have z1 : w9.cell? ⟨w.heap.size, 1, none⟩ = some (.int .i64 t) := ((Blk.new w #[.string n, .int .i64 t, .int .i64 l, .slice x' D c'] 25).below B0.out).cell 1; have z2 : w9.cell? ⟨w.heap.size, 2, none⟩ = some (.int .i64 l) := ((Blk.new w #[.string n, .int .i64 t, .int .i64 l, .slice x' D c'] 25).below B0.out).cell 2; have z3 : w9.cell? ⟨w.heap.size, 3, none⟩ = some (.slice x' D c') := ((Blk.new w #[.string n, .int .i64 t, .int .i64 l, .slice x' D c'] 25).below B0.out).cell 3; have n3 : w9.cell? ⟨w3.heap.size, 3, none⟩ = some (.slice (some ⟨g4, 0, none⟩) D cap4) := (H4.out.below B4.out).cell 3; clear b9)
    | (go_at_call 19; go_must (refine (KT.out _ _ _ (L4.out.below B4.out) CP4.out (next HB0.out B0.out)).mono ?_); rintro e wa ⟨rfl, ba⟩; replace B0 : Hid (Below (w.alloc (.cells #[.string n, .int .i64 t, .int .i64 l, .slice x' D c'] 25)).heap.size (w.alloc (.cells #[.string n, .int .i64 t, .int .i64 l, .slice x' D c'] 25)) wa) := next B0.out ba; replace B1 : Hid (Below w1.heap.size w1 wa) := next B1.out ba; replace B2 : Hid (Below w2.heap.size w2 wa) := next B2.out ba; replace B3 : Hid (Below w3.heap.size w3 wa) := next B3.out ba; replace B4 : Hid (Below (w4.setCell ⟨w3.heap.size, 3, none⟩ (.slice (some ⟨g4, 0, none⟩) D cap4)).heap.size (w4.setCell ⟨w3.heap.size, 3, none⟩ (.slice (some ⟨g4, 0, none⟩) D cap4)) wa) := next B4.out ba; replace B5 : Hid (Below w5.heap.size w5 wa) := next B5.out ba; replace B6 : Hid (Below w6.heap.size w6 wa) := next B6.out ba; clear ba)
    | (go_at_call 20; go_must (refine (SP.out _ _ _ _ (HG2.out.below B2.out) E2.out (fun k h => (HG2.out.own.lt k h).2) (fun p hp k h => ((HG2.out.dat p hp).lt k h).2)).mono ?_); rintro e wb ⟨rfl, tb⟩; have TB : Hid (Turn (fun k => w1.heap.size ≤ k ∧ k < w2.heap.size) wa wb) := tb; have LB : Hid (Lies wb g1 (rC rs ++ rC [mkR, mkR])) := (L1.out.below B1.out).turn tb (by have := LT1.out; omega); have GB : Hid (GS w2.heap.size wb (.slice y3 N c3) ps3) := (HG3.out.below B3.out).turn tb (fun k h => .inr h.2); have EB : Hid (Below w.heap.size w wb) := Turn.below (next HB0.out B0.out) tb (next HB0.out B0.out).size (fun k h => Nat.le_trans (Nat.le_trans G1.out (Nat.le_of_lt LT1.out)) h.1); clear tb)
    | (go_at_call 10; have _t := LB; go_must (refine (GR.out _ _ _ LB.out).mono ?_); rintro e wc ⟨yc, cc, psc, rfl, ec, gsc, bc⟩; have HGC : Hid (GS wb.heap.size wc (.slice yc N cc) psc) := gsc; have EC : Hid (psc.map Prod.fst = ss) := ec; have GC : Hid (GS w2.heap.size wc (.slice y3 N c3) ps3) := GB.out.below bc; replace EB : Hid (Below w.heap.size w wc) := next EB.out bc; clear bc ec gsc)
    | (go_at_call 15; have _t := GC; go_must (refine (SS.out _ _ _ _ _ _ _ HGC.out GC.out EC.out E3.out).mono ?_); rintro e wd ⟨rfl, bd⟩; replace EB : Hid (Below w.heap.size w wd) := next EB.out bd; clear bd)
    | (go_at_call 21; go_must (refine (awake_any _).mono ?_); rintro e we ⟨rfl, be⟩; replace EB : Hid (Below w.heap.size w we) := next EB.out be; clear be))
  go_ret
  exact ⟨rfl, EB.out⟩

/-- The rest. -/
theorem bulk_pos {H : Type} (d : DataW H) : 0 < Rows.uptoBulk d := by
  cases d with
  | lit l => cases l <;> simp [Rows.uptoBulk]
  | _ => simp [Rows.uptoBulk]
theorem bulk_len {H : Type} : ∀ xs : List (DataW H), xs.length ≤ Rows.uptoBulkAll xs := by
  intro xs
  induction xs with
  | nil => exact Nat.zero_le _
  | cons d xs ih => have := bulk_pos d; simp only [Rows.uptoBulkAll, List.length_cons]; omega
theorem bulk_mem {H : Type} {d : DataW H} : ∀ {xs : List (DataW H)}, d ∈ xs → Rows.uptoBulk d ≤ Rows.uptoBulkAll xs := by
  intro xs
  induction xs with
  | nil => intro h; simp at h
  | cons e xs ih =>
    intro h
    simp only [Rows.uptoBulkAll]
    rcases List.mem_cons.1 h with rfl | h
    · omega
    · have := ih h; omega

section
variable {H : Type} {enc : TypeId × Value → H} {W : World}
/-- A row's length is at most its bulk. -/
theorem row_bulk {t e : TypeId} (ht : Try.prog.underlying t = some (.slice e)) {x : Option Addr} {n c : Nat} {d : DataW H} {p : List MemPlace} (h0 : DataW.Trod enc Try.prog W 0 (fun _ => true) true t (.slice x n c) d p) : n ≤ Rows.uptoBulk d := by
  obtain ⟨fuel, hf⟩ := h0
  have hf' : DataW.trod enc Try.prog W 0 (fun _ => true) true fuel t [.slice x n c] = some (d, p) := by simpa [Value.cells] using hf
  rcases DataW.trod_slice ht hf' with ⟨h0, _⟩ | ⟨a, len, cap, elems, rest, k, _, hcs, hx, _, _, _, hlen, _⟩
  · simp at h0
    omega
  · simp at hcs
    obtain ⟨-, rfl, -⟩ := hcs
    have hd := congrArg Prod.fst hx
    simp only at hd
    rw [hd]
    have := bulk_len (elems.map (·.1))
    rw [List.length_map] at this
    simp only [Rows.uptoBulk]
    omega
theorem set_cellsOf : Try.prog.cellsOf 25 = 4 := by kernel_rfl
theorem texts_cellsOf : Try.prog.cellsOf 23 = 1 := by kernel_rfl
set_option maxRecDepth 100000 in
/-- An api.Set as it comes in. -/
theorem open_set {r : Reach} {b0 : Nat} {v : Value} {d : DataW H} {p : List MemPlace} (hval : Value.okWide Try.prog W r b0 25 v) (h0 : DataW.Trod enc Try.prog W 0 (fun _ => true) true 25 v d p) (hk : Rows.uptoBulk d ≤ 1048576) :
    ∃ (n : ByteArray) (t l : Int) (v' : Value) (ds : List ByteArray), v = .agg #[.string n, .int .i64 t, .int .i64 l, v'] ∧ Row W v' ds.length (tC ds) ∧ ds.length ≤ 1048576 ∧ n.size ≤ 1048576 ∧ ∀ s ∈ ds, s.size ≤ 1048576 := by
  obtain ⟨cs, rfl, hsz⟩ := okWide_struct Try.underlying25 hval
  obtain ⟨fuel, hf⟩ := h0
  obtain ⟨xs, n, _, hx, hl, hlen, hfs⟩ := DataW.trod_struct Try.underlying25 hf
  obtain ⟨l, rfl⟩ : ∃ l : List Value, cs = l.toArray := ⟨cs.toList, by simp⟩
  have hl4 : l.length = 4 := by rw [set_cellsOf] at hsz; simpa using hsz
  match l, hl4 with
  | [c0, c1, c2, c3], _ =>
  match xs, hlen with
  | [y0, y1, y2, y3], _ =>
    have t0 := hfs 0 _ rfl
    have t1 := hfs 1 _ rfl
    have t2 := hfs 2 _ rfl
    have t3 := hfs 3 _ rfl
    simp [s_cellsOf, int_cells, texts_cellsOf, Value.cells] at t0 t1 t2 t3
    obtain ⟨nm, e0, h0, _⟩ := DataW.trod_string Try.underlying9 t0
    obtain ⟨tt, e1, _, _⟩ := DataW.trod_int Try.underlying3 t1
    obtain ⟨ll, e2, _, _⟩ := DataW.trod_int Try.underlying3 t2
    simp at e0 e1 e2
    have hd : d = .agg [y0.1, y1.1, y2.1, y3.1] := by
      have := congrArg Prod.fst hx
      simpa using this
    rw [hd] at hk
    simp only [Rows.uptoBulk, Rows.uptoBulkAll] at hk
    have hn : nm.size ≤ 1048576 := by
      rw [h0] at hk
      simp only [Rows.uptoBulk] at hk
      rw [← data_len]
      omega
    subst e0 e1 e2
    rcases open_strings Try.underlying23 Try.underlying9 s_cellsOf t3 with ⟨hcs, _⟩ | ⟨a, len, cap, ss, hcs, _, hlc, hcm, hz, hx3, hcell, hws⟩
    · simp at hcs
      subst hcs
      exact ⟨nm, tt, ll, _, [], rfl, .inl ⟨rfl, rfl⟩, Nat.zero_le _, hn, fun s hs => by simp at hs⟩
    · simp at hcs
      subst hcs
      rw [if_pos rfl] at hz
      have hlen : (ss.take len).length = len := by rw [List.length_take]; omega
      have hb3 : Rows.uptoBulkAll (strs (H := H) (ss.take len)) ≤ 1048576 := by
        have e3 := congrArg Prod.fst hx3
        simp only at e3
        rw [e3] at hk
        simp only [Rows.uptoBulk] at hk
        omega
      have hbl := bulk_len (strs (H := H) (ss.take len))
      have hsl : (strs (H := H) (ss.take len)).length = len := by unfold strs; rw [List.length_map]; exact hlen
      refine ⟨nm, tt, ll, _, ss.take len, rfl, ?_, by omega, hn, fun s hs => ?_⟩
      · rw [hlen, show tC (ss.take len) = (ss.take len).flatMap (fun s => [Value.string s]) from by unfold tC; exact List.map_eq_flatMap]
        refine row_of (f := fun s => [Value.string s]) (z := 1) (fun _ => rfl) (by decide) hlen (fun i hi j hj => ?_)
        obtain rfl : j = 0 := by omega
        have h1 := hcell i (by rw [hlen] at hi; omega)
        rw [List.getD_eq_getElem?_getD, List.getElem?_eq_getElem (by rw [hlen] at hi; omega), Option.getD_some] at h1
        rw [Nat.mul_one, List.getElem_take]
        exact h1
      · have hm : DataW.lit (H := H) (.string s.data.toList) ∈ strs (H := H) (ss.take len) := by unfold strs; exact List.mem_map_of_mem hs
        have h1 := bulk_mem hm
        simp only [Rows.uptoBulk] at h1
        rw [← data_len]
        omega
end

theorem own : ownKnob Try.prog.godebug = none := by kernel_rfl
theorem laidOut : laidOutB Try.prog = true := by kernel_rfl

set_option maxRecDepth 100000 in
theorem contract (H : Type) (enc : TypeId × Value → H) (W : World) (base : Nat) (args : Array Value) (ds gs : List (DataW H)) (before : List MemPlace)
    (hval0 : ∀ (j : Nat) t v, Try.f3.params[j]? = some t → args[j]? = some v → Value.okWide Try.prog W .any base t v)
    (hW : DataW.Whole enc Try.prog Try.f3.params.toList Rows.groupsSpec.vars false W args.toList ds gs before) (hk : Rows.uptoSmall H (ds ++ gs) = true) :
    Calls Try.prog 3 args W fun e W' => ∃ v, e = .returned v ∧ Rows.groupsSpec.post enc Try.prog Try.f3 false true false false W args v W' := by
  have hval : ∀ (j : Nat) t v, Try.f3.params[j]? = some t → args[j]? = some v → Value.okWide Try.prog W .any base t v := hval0
  have hW' := hW
  obtain ⟨p, q, hA0, hV, rfl, hfz, hnd⟩ := hW
  have hA : DataW.TrodAll enc Try.prog W 0 (fun _ => true) true Try.f3.params.toList args.toList ds p := hA0
  rw [Try.params3] at hA hval
  obtain ⟨v0, vs0, d0, ds0, p0, q0, hargs, rfl, rfl, h0, r0⟩ := trodAll_cons hA
  obtain ⟨v1, vs1, d1, ds1, p1, q1, rfl, rfl, rfl, h1, r1⟩ := trodAll_cons r0
  obtain ⟨rfl, rfl, rfl⟩ := trodAll_nil r1
  obtain rfl : args = #[v0, v1] := by cases args; simp_all
  obtain ⟨rfl, rfl⟩ := trodVars_none hV
  have hbk : Rows.uptoBulk d0 + Rows.uptoBulk d1 ≤ 1048576 := by
    have h := of_decide_eq_true hk
    simp only [List.append_nil, Rows.uptoBulkAll] at h
    omega
  obtain ⟨a0, w0⟩ := open_rrs (hval 0 22 v0 rfl rfl) h0
  obtain ⟨n, t, l, v', es, rfl, w1, z1, z2, z3⟩ := open_set (hval 1 25 v1 rfl rfl) h1 (by omega)
  have z0 : a0.length ≤ 1048576 := by
    obtain ⟨x, c, hv⟩ := row_slice w0.1
    rw [hv] at h0
    have := row_bulk Try.underlying22 h0
    omega
  have hlt0 : ∀ x ∈ p0, x.block < W.heap.size := fun x hx => by
    have := hW'.lt x (by simp [hx])
    simpa using this
  have hlt1 : ∀ x ∈ p1, x.block < W.heap.size := fun x hx => by
    have := hW'.lt x (by simp [hx])
    simpa using this
  clear hA0 hval0
  simp only [List.append_nil] at hW'
  refine (walk v0 a0 n t l v' es W w0 w1 z0 z1 z2 z3).mono fun e W' ⟨he, bel⟩ => ?_
  subst he
  exact ⟨_, rfl, _, _, _, [], _, [], hW', trodAll_mk1 (shut_bool Try.underlying4 _), (trodAll_cons_mk (Below.trod laidOut (by kernel_rfl) (of_decide_eq_true (by kernel_rfl)) h0 bel hlt0) (trodAll_cons_mk (Below.trod laidOut (by kernel_rfl) (of_decide_eq_true (by kernel_rfl)) h1 bel hlt1) trodAll_mk0)), rfl, bel.frame _, fun h => by cases h⟩

set_option maxRecDepth 100000 in
theorem lifted (os : Os) (started : os.Started) (H : Type) (enc : TypeId × Value → H) (F : Stop.Interp) :
    ReturnsInHanded {} Try.checked os 3 .any ((Rows.OpenSpec.upto Rows.groupsSpec).pre6 enc Try.prog Try.f3 Rows.groupsUptoRow.domain false) (((Rows.OpenSpec.upto Rows.groupsSpec).at F).post enc Try.prog Try.f3 false true false false) := by
  refine returnsInHanded_of_cond (C := Try.checked) (s := Rows.OpenSpec.upto Rows.groupsSpec) (k := Rows.uptoSmall) rfl own started (by kernel_rfl) Try.func3
    (OpenSpec.witness (enc := enc) (C := Try.checked) (s := Rows.OpenSpec.upto Rows.groupsSpec) (k := Rows.uptoSmall) rfl false ⟨#[], #[.slice none 0 0, .agg #[.string ByteArray.empty, .int .i64 0, .int .i64 0, .slice none 0 0]], []⟩ 8 (by kernel_rfl) (by kernel_rfl) (by kernel_rfl)
      (x := ([.nil, .agg [.lit (.string []), .lit (.int .i64 0), .lit (.int .i64 0), .nil]], [], [])) (by kernel_rfl) rfl (by kernel_rfl)) ?_
  intro W base args ds gs before hval hW _ hk _
  exact contract H enc W base args ds gs before hval hW hk

/-- The statement. -/
theorem proved : Rows.GroupsUptoSaid :=
  OpenClaim.holds_of_cond 3 Try.f3 rfl rfl rfl rfl rfl rfl rfl ⟨rfl, rfl, rfl, rfl, rfl⟩ rfl rfl rfl rfl rfl (by kernel_rfl) Try.func3 (by kernel_rfl)
    (of_decide_eq_true (by kernel_rfl)) (by unfold Func.isWrapper; first | (rw [if_pos (by decide +kernel)]; kernel_rfl) | (rw [if_neg (by decide +kernel)]; exact ⟨rfl, rfl⟩))
    (fun os started H enc _ F => lifted os started H enc F)
#print axioms proved

end Go.Proofs.Ytdaegnmokaibpaa.groups
