/- Opts holds: for every OPT, every record and every message, Put, Get and Find answer as the document's, keep what they are given, and hand out memory of their own. -/
import Derived.Test.YtehldafdjldpbaaOpI
import Derived.Test.YtehldafdjldpbaaOpM
import Derived.Test.YtehldafdjldpbaaOpN
import Derived.Test.YtehldafdjldpbaaOpP
import Derived.Test.YtehldafdjldpbaaOpS
import Derived.ProofKit
import Derived.OpenShut
import Derived.ShutString
namespace Go.Proofs.Ytehldafdjldpbaa.opts
open Go.ChangeShapes Go.WideShapes Go.ChangeAt Go.RowKit
open Go.ChangeMaps (open_string shut_string)

/-- Blocks as they were laid. -/
def Bs (w : World) (l : List (Nat × Array Value × TypeId)) : Prop := ∀ b ∈ l, Blk w b.1 b.2.1 b.2.2
theorem Bs.below {w w' : World} {l : List (Nat × Array Value × TypeId)} (h : Bs w l) (hb : Below w.heap.size w w') : Bs w' l := fun b hm => (h b hm).below hb
theorem Bs.add {w : World} {l : List (Nat × Array Value × TypeId)} (h : Bs w l) {g : Nat} {C : Array Value} {t : TypeId} (k : Blk w g C t) : Bs w ((g, C, t) :: l) := fun b hm => by
  rcases List.mem_cons.1 hm with rfl | hm
  · exact k
  · exact h b hm
theorem Bs.new {w : World} {l : List (Nat × Array Value × TypeId)} (h : Bs w l) (C : Array Value) (t : TypeId) : Bs (w.alloc (.cells C t)) ((w.heap.size, C, t) :: l) := (h.below (lay (Below.refl _ _) _)).add (Blk.new w C t)
theorem Bs.at {w : World} {l : List (Nat × Array Value × TypeId)} (h : Bs w l) (i : Nat) {g : Nat} {C : Array Value} {t : TypeId} (hi : l[i]? = some (g, C, t)) : Blk w g C t := h _ (List.mem_of_getElem? hi)
theorem Bs.turn {w w' : World} {l : List (Nat × Array Value × TypeId)} (h : Bs w l) {B n : Nat} {v : Value} {xs : List Value} (ho : w.ownsRow B 52 2 v n xs) (ht : Turn (fun k => v.ownBlock = some k) w w') (hl : ∀ b ∈ l, b.2.2 ≠ 52) : Bs w' l := fun b hm => ht.blk (h b hm) (fun e => own_sep ho (h b hm) (hl b hm) e.symm)
theorem thirteen {w : World} {g : Nat} {a0 a1 a2 a3 a4 a5 a6 a7 a8 a9 a10 a11 a12 : Value} {t : TypeId} (k : Blk w g #[a0, a1, a2, a3, a4, a5, a6, a7, a8, a9, a10, a11, a12] t) :
    w.cell? ⟨g, 0, none⟩ = some a0 ∧ w.cell? ⟨g, 1, none⟩ = some a1 ∧ w.cell? ⟨g, 2, none⟩ = some a2 ∧ w.cell? ⟨g, 3, none⟩ = some a3 ∧ w.cell? ⟨g, 4, none⟩ = some a4 ∧ w.cell? ⟨g, 5, none⟩ = some a5 ∧ w.cell? ⟨g, 6, none⟩ = some a6 ∧ w.cell? ⟨g, 7, none⟩ = some a7 ∧ w.cell? ⟨g, 8, none⟩ = some a8 ∧ w.cell? ⟨g, 9, none⟩ = some a9 ∧ w.cell? ⟨g, 10, none⟩ = some a10 ∧ w.cell? ⟨g, 11, none⟩ = some a11 ∧ w.cell? ⟨g, 12, none⟩ = some a12 :=
  ⟨k.cell 0, k.cell 1, k.cell 2, k.cell 3, k.cell 4, k.cell 5, k.cell 6, k.cell 7, k.cell 8, k.cell 9, k.cell 10, k.cell 11, k.cell 12⟩

set_option maxRecDepth 20000 in
set_option maxHeartbeats 8000000 in
theorem walk' (s ee vv : Int) (b : Bool) (z : Int) (os : List On) (x : Option Addr) (n c : Nat) (rn : ByteArray) (rt rc rl : Int) (rd : ByteArray) (id : Int) (qr : Bool) (op : Int) (aa tc rdd ra : Bool) (zz rcc : Int) (x0 x1 x2 x3 : Option Addr) (n0 n1 n2 n3 c0 c1 c2 c3 : Nat) (ar : List Rc)
    (hd : rd.size ≤ maxLen) (hz : os.length * 24 ≤ far) (w : World) (hr : ORow w (.slice x n c) os) (hn : n = os.length) (h3 : RRow w (.slice x3 n3 c3) ar) :
    Calls Try.prog 3 #[.agg #[.int .i64 s, .int .i64 ee, .int .i64 vv, .bool b, .int .i64 z, .slice x n c], .agg #[.string rn, .int .i64 rt, .int .i64 rc, .int .i64 rl, .string rd], .agg #[.int .i64 id, .bool qr, .int .i64 op, .bool aa, .bool tc, .bool rdd, .bool ra, .int .i64 zz, .int .i64 rcc, .slice x0 n0 c0, .slice x1 n1 c1, .slice x2 n2 c2, .slice x3 n3 c3]] w fun e w' => e = .returned (.bool true) ∧ Below w.heap.size w w' := by
  have hb : Below w.heap.size w ((((w.alloc (.cells #[.int .i64 s, .int .i64 ee, .int .i64 vv, .bool b, .int .i64 z, .slice x n c] 24)).alloc (.cells #[.string rn, .int .i64 rt, .int .i64 rc, .int .i64 rl, .string rd] 26)).alloc (.cells #[.int .i64 id, .bool qr, .int .i64 op, .bool aa, .bool tc, .bool rdd, .bool ra, .int .i64 zz, .int .i64 rcc, .slice x0 n0 c0, .slice x1 n1 c1, .slice x2 n2 c2, .slice x3 n3 c3] 32)).alloc (.cells #[.int .i64 s, .int .i64 ee, .int .i64 vv, .bool b, .int .i64 z, .slice x n c] 24)) := lay (lay (lay (lay (Below.refl _ _) _) _) _) _
  have HB : Hid (Bs ((((w.alloc (.cells #[.int .i64 s, .int .i64 ee, .int .i64 vv, .bool b, .int .i64 z, .slice x n c] 24)).alloc (.cells #[.string rn, .int .i64 rt, .int .i64 rc, .int .i64 rl, .string rd] 26)).alloc (.cells #[.int .i64 id, .bool qr, .int .i64 op, .bool aa, .bool tc, .bool rdd, .bool ra, .int .i64 zz, .int .i64 rcc, .slice x0 n0 c0, .slice x1 n1 c1, .slice x2 n2 c2, .slice x3 n3 c3] 32)).alloc (.cells #[.int .i64 s, .int .i64 ee, .int .i64 vv, .bool b, .int .i64 z, .slice x n c] 24)) [(w.heap.size + 1 + 1 + 1, #[.int .i64 s, .int .i64 ee, .int .i64 vv, .bool b, .int .i64 z, .slice x n c], 24), (w.heap.size + 1 + 1, #[.int .i64 id, .bool qr, .int .i64 op, .bool aa, .bool tc, .bool rdd, .bool ra, .int .i64 zz, .int .i64 rcc, .slice x0 n0 c0, .slice x1 n1 c1, .slice x2 n2 c2, .slice x3 n3 c3], 32), (w.heap.size + 1, #[.string rn, .int .i64 rt, .int .i64 rc, .int .i64 rl, .string rd], 26), (w.heap.size, #[.int .i64 s, .int .i64 ee, .int .i64 vv, .bool b, .int .i64 z, .slice x n c], 24)]) := by
    have h1 : Bs w [] := fun b hm => by simp at hm
    have h := (((h1.new #[.int .i64 s, .int .i64 ee, .int .i64 vv, .bool b, .int .i64 z, .slice x n c] 24).new #[.string rn, .int .i64 rt, .int .i64 rc, .int .i64 rl, .string rd] 26).new #[.int .i64 id, .bool qr, .int .i64 op, .bool aa, .bool tc, .bool rdd, .bool ra, .int .i64 zz, .int .i64 rcc, .slice x0 n0 c0, .slice x1 n1 c1, .slice x2 n2 c2, .slice x3 n3 c3] 32).new #[.int .i64 s, .int .i64 ee, .int .i64 vv, .bool b, .int .i64 z, .slice x n c] 24
    simp only [World.size_alloc] at h
    exact h
  have HR : Hid (ORow ((((w.alloc (.cells #[.int .i64 s, .int .i64 ee, .int .i64 vv, .bool b, .int .i64 z, .slice x n c] 24)).alloc (.cells #[.string rn, .int .i64 rt, .int .i64 rc, .int .i64 rl, .string rd] 26)).alloc (.cells #[.int .i64 id, .bool qr, .int .i64 op, .bool aa, .bool tc, .bool rdd, .bool ra, .int .i64 zz, .int .i64 rcc, .slice x0 n0 c0, .slice x1 n1 c1, .slice x2 n2 c2, .slice x3 n3 c3] 32)).alloc (.cells #[.int .i64 s, .int .i64 ee, .int .i64 vv, .bool b, .int .i64 z, .slice x n c] 24)) (.slice x n c) os) := hr.below hb
  have H3 : Hid (RRow ((((w.alloc (.cells #[.int .i64 s, .int .i64 ee, .int .i64 vv, .bool b, .int .i64 z, .slice x n c] 24)).alloc (.cells #[.string rn, .int .i64 rt, .int .i64 rc, .int .i64 rl, .string rd] 26)).alloc (.cells #[.int .i64 id, .bool qr, .int .i64 op, .bool aa, .bool tc, .bool rdd, .bool ra, .int .i64 zz, .int .i64 rcc, .slice x0 n0 c0, .slice x1 n1 c1, .slice x2 n2 c2, .slice x3 n3 c3] 32)).alloc (.cells #[.int .i64 s, .int .i64 ee, .int .i64 vv, .bool b, .int .i64 z, .slice x n c] 24)) (.slice x3 n3 c3) ar) := h3.below hb
  have HRW : Hid (∀ u, Below w.heap.size w u → ORow u (.slice x n c) os) := fun u hu => hr.below hu
  have H3W : Hid (∀ u, Below w.heap.size w u → RRow u (.slice x3 n3 c3) ar) := fun u hu => h3.below hu
  have L1 : ∀ u, Hid (ORow u (.slice x n c) os) → Calls Try.prog 8 #[.slice x n c] u fun e w' => ∃ gl cl, e = .returned (.slice (some ⟨gl, 0, none⟩) n cl) ∧ n + 2 ≤ cl ∧ LentO w' gl os ∧ u.heap.size ≤ gl ∧ Below u.heap.size u w' := fun u h => by rw [hn]; exact lendO_any _ os u (hn ▸ h.out) hz
  have P1 := fun (v : Value) (u : World) (h : Hid (ORow u v os)) => optPut_any ⟨s, ee, vv, b, z, os⟩ v u h.out
  have P2 := fun (u : World) (h : Hid (ORow u (.slice x n c) os)) => refPut_any ⟨s, ee, vv, b, z, os⟩ (.slice x n c) u h.out
  unfold putOV optC rrC at P1 P2
  obtain ⟨PO, hPO⟩ : ∃ p, p = putO ⟨s, ee, vv, b, z, os⟩ := ⟨_, rfl⟩
  obtain ⟨pE, hpE⟩ : ∃ p, p = putE ⟨s, ee, vv, b, z, os⟩ := ⟨_, rfl⟩
  rw [← hPO, ← hpE] at P1 P2
  obtain ⟨pa, pb, pc, pd, pe⟩ := PO
  simp only at P1 P2
  have G1 := fun u => optGet_any ⟨rn, rt, rc, rl, rd⟩ u hd
  have G2 := fun u => refGet_any ⟨rn, rt, rc, rl, rd⟩ u hd
  have GS := getO_small ⟨rn, rt, rc, rl, rd⟩
  obtain ⟨GO', hGO⟩ : ∃ p, p = getO ⟨rn, rt, rc, rl, rd⟩ := ⟨_, rfl⟩
  obtain ⟨gE, hgE⟩ : ∃ p, p = getE ⟨rn, rt, rc, rl, rd⟩ := ⟨_, rfl⟩
  rw [← hGO] at G1 G2 GS
  rw [← hgE] at G1 G2
  obtain ⟨g1, g2, g3, g4, g5, g6⟩ := GO'
  unfold GetOP optC rrC at G1 G2
  simp only at G1 G2 GS
  have F1 := fun u (h : Hid (RRow u (.slice x3 n3 c3) ar)) => optFind_any ⟨id, qr, op, aa, tc, rdd, ra, zz, rcc⟩ (.slice x0 n0 c0) (.slice x1 n1 c1) (.slice x2 n2 c2) (.slice x3 n3 c3) ar u h.out
  have F2 := fun u (h : Hid (RRow u (.slice x3 n3 c3) ar)) => refFind_any ⟨id, qr, op, aa, tc, rdd, ra, zz, rcc⟩ (.slice x0 n0 c0) (.slice x1 n1 c1) (.slice x2 n2 c2) (.slice x3 n3 c3) ar u h.out
  have FS := finO_small ar
  obtain ⟨FO, hFO⟩ : ∃ p, p = finO ar := ⟨_, rfl⟩
  obtain ⟨fN, hfN⟩ : ∃ p, p = finN ar := ⟨_, rfl⟩
  rw [← hFO] at F1 F2 FS
  rw [← hfN] at F1 F2
  obtain ⟨f1, f2, f3, f4, f5, f6⟩ := FO
  unfold GetOP optC msgC at F1 F2
  simp only at F1 F2 FS
  have SG := fun (v v' : Value) (u : World) (h : Hid (Row u v g6.length (oC g6))) (h' : Hid (Row u v' g6.length (oC g6))) => sameOpt_yes ⟨g1, g2, g3, g4, g5, g6⟩ v v' u h.out h'.out (by show g6.length ≤ maxLen; unfold maxLen; omega)
  have SF := fun (v v' : Value) (u : World) (h : Hid (Row u v f6.length (oC f6))) (h' : Hid (Row u v' f6.length (oC f6))) => sameOpt_yes ⟨f1, f2, f3, f4, f5, f6⟩ v v' u h.out h'.out (by show f6.length ≤ maxLen; unfold maxLen; omega)
  unfold optC at SG SF
  simp only at SG SF
  have KP : ∀ (gl cl : Nat) (u : World), n + 2 ≤ cl → Hid (LentO u gl os) → Hid (ORow u (.slice x n c) os) → Calls Try.prog 17 #[.slice (some ⟨gl, 0, none⟩) n cl, .slice x n c] u fun e w' => e = .returned (.bool true) ∧ Below u.heap.size u w' := fun gl cl u h1 h2 h3 => by
    rw [hn]; exact keptO_any gl cl _ os u h2.out (hn ▸ h1) (hn ▸ h3.out) hz
  have SP : ∀ (y : Option Addr) (m k B : Nat) (u : World) (xs : List On), xs.length ≤ 16384 → Hid (u.ownsRow B 52 2 (.slice y m k) xs.length (oC xs)) → Calls Try.prog 18 #[.slice y m k] u fun e w' => e = .returned (.tuple #[]) ∧ Turn (fun j => (Value.slice y m k).ownBlock = some j) u w' := fun y m k B u xs hl h => by
    have hm := own_len h.out
    subst hm
    exact spoilO_any h.out (ints_o xs) (by omega)
  have HLR : Hid (∀ (u : World) (gl cl : Nat), LentO u gl os → ORow u (.slice (some ⟨gl, 0, none⟩) n cl) os) := fun u gl cl h => ⟨by rw [hn]; exact h.row, hr.2⟩
  have gs := GS.1
  have fs := FS.1
  clear hPO hpE hGO hgE hFO hfN GS FS hr h3 hd hz
  have HNN : Hid (n = os.length) := hn
  clear hn
  have t1 : True := trivial
  have t2 : True := trivial
  have t3 : True := trivial
  have t4 : True := trivial
  go_enter Try.func3, Try.ntmps3
  go_wp2_with (first
    | (go_at_call 8; go_must (refine (L1 _ HR).mono ?_); rintro e w1 ⟨gl, cl, rfl, hcl, lent, hgl, bb⟩; have HL : Hid (LentO w1 gl os) := lent; replace HB : Hid (Bs w1 _) := HB.out.below bb; replace HR : Hid (ORow w1 (.slice x n c) os) := HR.out.below bb; replace H3 : Hid (RRow w1 (.slice x3 n3 c3) ar) := H3.out.below bb; replace hb := next hb bb; obtain ⟨k0, k1, k2, k3, k4, k5⟩ := (HB.out.at 0 rfl).six'; have kf := (HB.out.at 0 rfl).frozen 5; have HGL : Hid (w.heap.size + 1 + 1 + 1 < gl) := (by unfold Hid; simp only [World.size_alloc] at hgl; omega); clear bb lent hgl))
  have hset : Turn (fun k => k = w.heap.size + 1 + 1 + 1) w1 (w1.setCell ⟨w.heap.size + 1 + 1 + 1, 5, none⟩ (.slice (some ⟨gl, 0, none⟩) n cl)) := Turn.of_set (S := fun k => k = w.heap.size + 1 + 1 + 1) w1 (p := ⟨w.heap.size + 1 + 1 + 1, 5, none⟩) rfl _
  have HB1 : Hid (Bs (w1.setCell ⟨w.heap.size + 1 + 1 + 1, 5, none⟩ (.slice (some ⟨gl, 0, none⟩) n cl)) [(w.heap.size + 1 + 1 + 1, #[.int .i64 s, .int .i64 ee, .int .i64 vv, .bool b, .int .i64 z, .slice (some ⟨gl, 0, none⟩) n cl], 24), (w.heap.size + 1 + 1, #[.int .i64 id, .bool qr, .int .i64 op, .bool aa, .bool tc, .bool rdd, .bool ra, .int .i64 zz, .int .i64 rcc, .slice x0 n0 c0, .slice x1 n1 c1, .slice x2 n2 c2, .slice x3 n3 c3], 32), (w.heap.size + 1, #[.string rn, .int .i64 rt, .int .i64 rc, .int .i64 rl, .string rd], 26), (w.heap.size, #[.int .i64 s, .int .i64 ee, .int .i64 vv, .bool b, .int .i64 z, .slice x n c], 24)]) := fun b hm => by
    simp only [List.mem_cons, List.not_mem_nil, or_false] at hm
    rcases hm with rfl | rfl | rfl | rfl
    · exact (HB.out.at 0 rfl).set 5 _
    · exact hset.blk (HB.out.at 1 rfl) (by simp only; omega)
    · exact hset.blk (HB.out.at 2 rfl) (by simp only; omega)
    · exact hset.blk (HB.out.at 3 rfl) (by simp only; omega)
  have HL1 : Hid (LentO (w1.setCell ⟨w.heap.size + 1 + 1 + 1, 5, none⟩ (.slice (some ⟨gl, 0, none⟩) n cl)) gl os) := fun j u hu => by
    rw [World.cell?_setCell_other _ _ _ _ (fun e => by have := congrArg Addr.block e; simp only at this; have := HGL.out; omega)]
    exact HL.out j u hu
  have hb1 : Below w.heap.size w (w1.setCell ⟨w.heap.size + 1 + 1 + 1, 5, none⟩ (.slice (some ⟨gl, 0, none⟩) n cl)) := hb.setCell (p := ⟨w.heap.size + 1 + 1 + 1, 5, none⟩) (by show w.heap.size ≤ w.heap.size + 1 + 1 + 1; omega) _
  have HR1 : Hid (ORow (w1.setCell ⟨w.heap.size + 1 + 1 + 1, 5, none⟩ (.slice (some ⟨gl, 0, none⟩) n cl)) (.slice x n c) os) := HRW.out _ hb1
  have H31 : Hid (RRow (w1.setCell ⟨w.heap.size + 1 + 1 + 1, 5, none⟩ (.slice (some ⟨gl, 0, none⟩) n cl)) (.slice x3 n3 c3) ar) := H3W.out _ hb1
  clear hset HB HL hb HR H3 k0 k1 k2 k3 k4 k5 kf HGL
  revert HB1 HL1 hb1 HR1 H31
  generalize w1.setCell ⟨w.heap.size + 1 + 1 + 1, 5, none⟩ (.slice (some ⟨gl, 0, none⟩) n cl) = u1
  intro HB HL hb HR H3
  obtain ⟨Hk0, Hk1, Hk2, Hk3, Hk4, Hk5⟩ := (HB.out.at 0 rfl).six'
  go_wp2_with (first
    | (go_at_call 15; refine (num_any _ _).mono ?_; rintro e w' ⟨rfl, hw⟩; obtain rfl := hw.symm)
    | (go_at_call 9; go_must (refine (P1 _ _ (HLR.out _ _ _ HL.out)).mono ?_); rintro e w2 ⟨rfl, bb⟩; replace bb := next bb (lay (Below.refl _ _) (.cells #[.string pa, .int .i64 pb, .int .i64 pc, .int .i64 pd, .string pe] 26)); replace HB : Hid (Bs (w2.alloc (.cells #[.string pa, .int .i64 pb, .int .i64 pc, .int .i64 pd, .string pe] 26)) ((w2.heap.size, #[.string pa, .int .i64 pb, .int .i64 pc, .int .i64 pd, .string pe], 26) :: _)) := (HB.out.below bb).add (Blk.new w2 #[.string pa, .int .i64 pb, .int .i64 pc, .int .i64 pd, .string pe] 26); replace HR : Hid (ORow (w2.alloc (.cells #[.string pa, .int .i64 pb, .int .i64 pc, .int .i64 pd, .string pe] 26)) (.slice x n c) os) := HR.out.below bb; replace H3 : Hid (RRow (w2.alloc (.cells #[.string pa, .int .i64 pb, .int .i64 pc, .int .i64 pd, .string pe] 26)) (.slice x3 n3 c3) ar) := H3.out.below bb; replace HL : Hid (LentO (w2.alloc (.cells #[.string pa, .int .i64 pb, .int .i64 pc, .int .i64 pd, .string pe] 26)) gl os) := HL.out.below bb; replace hb := next hb bb; clear Hk0 Hk1 Hk2 Hk3 Hk4 Hk5; obtain ⟨Hk0, Hk1, Hk2, Hk3, Hk4, Hk5⟩ := (HB.out.at 4 rfl).six'; clear bb)
    | (go_at_call 10; go_must (refine (P2 _ HR).mono ?_); rintro e w3 ⟨rfl, bb⟩; replace bb := next bb (lay (Below.refl _ _) (.cells #[.string pa, .int .i64 pb, .int .i64 pc, .int .i64 pd, .string pe] 26)); replace HB : Hid (Bs (w3.alloc (.cells #[.string pa, .int .i64 pb, .int .i64 pc, .int .i64 pd, .string pe] 26)) ((w3.heap.size, #[.string pa, .int .i64 pb, .int .i64 pc, .int .i64 pd, .string pe], 26) :: _)) := (HB.out.below bb).add (Blk.new w3 #[.string pa, .int .i64 pb, .int .i64 pc, .int .i64 pd, .string pe] 26); replace HR : Hid (ORow (w3.alloc (.cells #[.string pa, .int .i64 pb, .int .i64 pc, .int .i64 pd, .string pe] 26)) (.slice x n c) os) := HR.out.below bb; replace H3 : Hid (RRow (w3.alloc (.cells #[.string pa, .int .i64 pb, .int .i64 pc, .int .i64 pd, .string pe] 26)) (.slice x3 n3 c3) ar) := H3.out.below bb; replace HL : Hid (LentO (w3.alloc (.cells #[.string pa, .int .i64 pb, .int .i64 pc, .int .i64 pd, .string pe] 26)) gl os) := HL.out.below bb; replace hb := next hb bb; clear Hk0 Hk1 Hk2 Hk3 Hk4 Hk5; obtain ⟨Hr0, Hr1, Hr2, Hr3, Hr4⟩ := (HB.out.at 4 rfl).five'; clear bb)
    | (go_at_call 11; have _t := t1; go_must (refine (G1 _).mono ?_); rintro e w4 ⟨y4, m4, k4, rfl, own4, bb⟩; have OWN4 : Hid ((w4.alloc (.cells #[.int .i64 g1, .int .i64 g2, .int .i64 g3, .bool g4, .int .i64 g5, .slice y4 m4 k4] 24)).ownsRow w.heap.size 52 2 (.slice y4 m4 k4) g6.length (oC g6)) := own_base (own4.alloc _) hb.size; replace bb := next bb (lay (Below.refl _ _) (.cells #[.int .i64 g1, .int .i64 g2, .int .i64 g3, .bool g4, .int .i64 g5, .slice y4 m4 k4] 24)); replace HB : Hid (Bs (w4.alloc (.cells #[.int .i64 g1, .int .i64 g2, .int .i64 g3, .bool g4, .int .i64 g5, .slice y4 m4 k4] 24)) ((w4.heap.size, #[.int .i64 g1, .int .i64 g2, .int .i64 g3, .bool g4, .int .i64 g5, .slice y4 m4 k4], 24) :: _)) := (HB.out.below bb).add (Blk.new w4 #[.int .i64 g1, .int .i64 g2, .int .i64 g3, .bool g4, .int .i64 g5, .slice y4 m4 k4] 24); replace HR : Hid (ORow (w4.alloc (.cells #[.int .i64 g1, .int .i64 g2, .int .i64 g3, .bool g4, .int .i64 g5, .slice y4 m4 k4] 24)) (.slice x n c) os) := HR.out.below bb; replace H3 : Hid (RRow (w4.alloc (.cells #[.int .i64 g1, .int .i64 g2, .int .i64 g3, .bool g4, .int .i64 g5, .slice y4 m4 k4] 24)) (.slice x3 n3 c3) ar) := H3.out.below bb; replace HL : Hid (LentO (w4.alloc (.cells #[.int .i64 g1, .int .i64 g2, .int .i64 g3, .bool g4, .int .i64 g5, .slice y4 m4 k4] 24)) gl os) := HL.out.below bb; replace hb := next hb bb; clear Hr0 Hr1 Hr2 Hr3 Hr4; obtain ⟨Hr0, Hr1, Hr2, Hr3, Hr4⟩ := (HB.out.at 5 rfl).five'; clear bb own4 t1 _t)
    | (go_at_call 12; go_must (refine (G2 _).mono ?_); rintro e w5 ⟨y5, m5, k5, rfl, own5, bb⟩; have D45 : Hid (∀ j, (Value.slice y5 m5 k5).ownBlock = some j → (Value.slice y4 m4 k4).ownBlock ≠ some j) := (fun j h1 h2 => (Nat.lt_irrefl j (Nat.lt_of_lt_of_le (OWN4.out.lt j h2).2 (own5.lt j h1).1))); have OWN5 : Hid ((w5.alloc (.cells #[.int .i64 g1, .int .i64 g2, .int .i64 g3, .bool g4, .int .i64 g5, .slice y5 m5 k5] 24)).ownsRow w.heap.size 52 2 (.slice y5 m5 k5) g6.length (oC g6)) := own_base (own5.alloc _) hb.size; replace bb := next bb (lay (Below.refl _ _) (.cells #[.int .i64 g1, .int .i64 g2, .int .i64 g3, .bool g4, .int .i64 g5, .slice y5 m5 k5] 24)); replace HB : Hid (Bs (w5.alloc (.cells #[.int .i64 g1, .int .i64 g2, .int .i64 g3, .bool g4, .int .i64 g5, .slice y5 m5 k5] 24)) ((w5.heap.size, #[.int .i64 g1, .int .i64 g2, .int .i64 g3, .bool g4, .int .i64 g5, .slice y5 m5 k5], 24) :: _)) := (HB.out.below bb).add (Blk.new w5 #[.int .i64 g1, .int .i64 g2, .int .i64 g3, .bool g4, .int .i64 g5, .slice y5 m5 k5] 24); replace HR : Hid (ORow (w5.alloc (.cells #[.int .i64 g1, .int .i64 g2, .int .i64 g3, .bool g4, .int .i64 g5, .slice y5 m5 k5] 24)) (.slice x n c) os) := HR.out.below bb; replace H3 : Hid (RRow (w5.alloc (.cells #[.int .i64 g1, .int .i64 g2, .int .i64 g3, .bool g4, .int .i64 g5, .slice y5 m5 k5] 24)) (.slice x3 n3 c3) ar) := H3.out.below bb; replace HL : Hid (LentO (w5.alloc (.cells #[.int .i64 g1, .int .i64 g2, .int .i64 g3, .bool g4, .int .i64 g5, .slice y5 m5 k5] 24)) gl os) := HL.out.below bb; replace OWN4 : Hid ((w5.alloc (.cells #[.int .i64 g1, .int .i64 g2, .int .i64 g3, .bool g4, .int .i64 g5, .slice y5 m5 k5] 24)).ownsRow w.heap.size 52 2 (.slice y4 m4 k4) g6.length (oC g6)) := own_past OWN4.out bb; replace hb := next hb bb; clear Hr0 Hr1 Hr2 Hr3 Hr4; obtain ⟨z0, z1, z2, z3, z4, z5, z6, z7, z8, z9, z10, z11, z12⟩ := thirteen (HB.out.at 5 rfl); clear bb own5)
    | (go_at_call 13; go_must (refine (F1 _ H3).mono ?_); rintro e w6 ⟨y6, m6, k6, rfl, own6, bb⟩; have D46 : Hid (∀ j, (Value.slice y6 m6 k6).ownBlock = some j → (Value.slice y4 m4 k4).ownBlock ≠ some j) := (fun j h1 h2 => (Nat.lt_irrefl j (Nat.lt_of_lt_of_le (OWN4.out.lt j h2).2 (own6.lt j h1).1))); have D56 : Hid (∀ j, (Value.slice y6 m6 k6).ownBlock = some j → (Value.slice y5 m5 k5).ownBlock ≠ some j) := (fun j h1 h2 => (Nat.lt_irrefl j (Nat.lt_of_lt_of_le (OWN5.out.lt j h2).2 (own6.lt j h1).1))); have OWN6 : Hid ((w6.alloc (.cells #[.int .i64 f1, .int .i64 f2, .int .i64 f3, .bool f4, .int .i64 f5, .slice y6 m6 k6] 24)).ownsRow w.heap.size 52 2 (.slice y6 m6 k6) f6.length (oC f6)) := own_base (own6.alloc _) hb.size; replace bb := next bb (lay (Below.refl _ _) (.cells #[.int .i64 f1, .int .i64 f2, .int .i64 f3, .bool f4, .int .i64 f5, .slice y6 m6 k6] 24)); replace HB : Hid (Bs (w6.alloc (.cells #[.int .i64 f1, .int .i64 f2, .int .i64 f3, .bool f4, .int .i64 f5, .slice y6 m6 k6] 24)) ((w6.heap.size, #[.int .i64 f1, .int .i64 f2, .int .i64 f3, .bool f4, .int .i64 f5, .slice y6 m6 k6], 24) :: _)) := (HB.out.below bb).add (Blk.new w6 #[.int .i64 f1, .int .i64 f2, .int .i64 f3, .bool f4, .int .i64 f5, .slice y6 m6 k6] 24); replace HR : Hid (ORow (w6.alloc (.cells #[.int .i64 f1, .int .i64 f2, .int .i64 f3, .bool f4, .int .i64 f5, .slice y6 m6 k6] 24)) (.slice x n c) os) := HR.out.below bb; replace H3 : Hid (RRow (w6.alloc (.cells #[.int .i64 f1, .int .i64 f2, .int .i64 f3, .bool f4, .int .i64 f5, .slice y6 m6 k6] 24)) (.slice x3 n3 c3) ar) := H3.out.below bb; replace HL : Hid (LentO (w6.alloc (.cells #[.int .i64 f1, .int .i64 f2, .int .i64 f3, .bool f4, .int .i64 f5, .slice y6 m6 k6] 24)) gl os) := HL.out.below bb; replace OWN4 : Hid ((w6.alloc (.cells #[.int .i64 f1, .int .i64 f2, .int .i64 f3, .bool f4, .int .i64 f5, .slice y6 m6 k6] 24)).ownsRow w.heap.size 52 2 (.slice y4 m4 k4) g6.length (oC g6)) := own_past OWN4.out bb; replace OWN5 : Hid ((w6.alloc (.cells #[.int .i64 f1, .int .i64 f2, .int .i64 f3, .bool f4, .int .i64 f5, .slice y6 m6 k6] 24)).ownsRow w.heap.size 52 2 (.slice y5 m5 k5) g6.length (oC g6)) := own_past OWN5.out bb; replace hb := next hb bb; clear z0 z1 z2 z3 z4 z5 z6 z7 z8 z9 z10 z11 z12; obtain ⟨z0, z1, z2, z3, z4, z5, z6, z7, z8, z9, z10, z11, z12⟩ := thirteen (HB.out.at 6 rfl); clear bb own6)
    | (go_at_call 14; go_must (refine (F2 _ H3).mono ?_); rintro e w7 ⟨y7, m7, k7, rfl, own7, bb⟩; have OWN7 : Hid ((w7.alloc (.cells #[.int .i64 f1, .int .i64 f2, .int .i64 f3, .bool f4, .int .i64 f5, .slice y7 m7 k7] 24)).ownsRow w.heap.size 52 2 (.slice y7 m7 k7) f6.length (oC f6)) := own_base (own7.alloc _) hb.size; replace bb := next bb (lay (Below.refl _ _) (.cells #[.int .i64 f1, .int .i64 f2, .int .i64 f3, .bool f4, .int .i64 f5, .slice y7 m7 k7] 24)); replace HB : Hid (Bs (w7.alloc (.cells #[.int .i64 f1, .int .i64 f2, .int .i64 f3, .bool f4, .int .i64 f5, .slice y7 m7 k7] 24)) ((w7.heap.size, #[.int .i64 f1, .int .i64 f2, .int .i64 f3, .bool f4, .int .i64 f5, .slice y7 m7 k7], 24) :: _)) := (HB.out.below bb).add (Blk.new w7 #[.int .i64 f1, .int .i64 f2, .int .i64 f3, .bool f4, .int .i64 f5, .slice y7 m7 k7] 24); replace HR : Hid (ORow (w7.alloc (.cells #[.int .i64 f1, .int .i64 f2, .int .i64 f3, .bool f4, .int .i64 f5, .slice y7 m7 k7] 24)) (.slice x n c) os) := HR.out.below bb; replace H3 : Hid (RRow (w7.alloc (.cells #[.int .i64 f1, .int .i64 f2, .int .i64 f3, .bool f4, .int .i64 f5, .slice y7 m7 k7] 24)) (.slice x3 n3 c3) ar) := H3.out.below bb; replace HL : Hid (LentO (w7.alloc (.cells #[.int .i64 f1, .int .i64 f2, .int .i64 f3, .bool f4, .int .i64 f5, .slice y7 m7 k7] 24)) gl os) := HL.out.below bb; replace OWN4 : Hid ((w7.alloc (.cells #[.int .i64 f1, .int .i64 f2, .int .i64 f3, .bool f4, .int .i64 f5, .slice y7 m7 k7] 24)).ownsRow w.heap.size 52 2 (.slice y4 m4 k4) g6.length (oC g6)) := own_past OWN4.out bb; replace OWN5 : Hid ((w7.alloc (.cells #[.int .i64 f1, .int .i64 f2, .int .i64 f3, .bool f4, .int .i64 f5, .slice y7 m7 k7] 24)).ownsRow w.heap.size 52 2 (.slice y5 m5 k5) g6.length (oC g6)) := own_past OWN5.out bb; replace OWN6 : Hid ((w7.alloc (.cells #[.int .i64 f1, .int .i64 f2, .int .i64 f3, .bool f4, .int .i64 f5, .slice y7 m7 k7] 24)).ownsRow w.heap.size 52 2 (.slice y6 m6 k6) f6.length (oC f6)) := own_past OWN6.out bb; replace hb := next hb bb; clear z0 z1 z2 z3 z4 z5 z6 z7 z8 z9 z10 z11 z12; obtain ⟨Ha0, Ha1, Ha2, Ha3, Ha4⟩ := (HB.out.at 5 rfl).five'; obtain ⟨Hb0, Hb1, Hb2, Hb3, Hb4⟩ := (HB.out.at 4 rfl).five'; obtain ⟨Hc0, Hc1, Hc2, Hc3, Hc4, Hc5⟩ := (HB.out.at 3 rfl).six'; obtain ⟨Hd0, Hd1, Hd2, Hd3, Hd4, Hd5⟩ := (HB.out.at 2 rfl).six'; clear bb own7)
    | (go_at_call 16; have _t := t2; go_must (refine (SG _ _ _ (Row.of_own OWN4.out) (Row.of_own OWN5.out)).mono ?_); rintro e w8 ⟨rfl, bb⟩; replace HB : Hid (Bs w8 _) := HB.out.below bb; replace HR : Hid (ORow w8 (.slice x n c) os) := HR.out.below bb; replace H3 : Hid (RRow w8 (.slice x3 n3 c3) ar) := H3.out.below bb; replace HL : Hid (LentO w8 gl os) := HL.out.below bb; replace OWN4 : Hid (w8.ownsRow w.heap.size 52 2 (.slice y4 m4 k4) g6.length (oC g6)) := own_past OWN4.out bb; replace OWN5 : Hid (w8.ownsRow w.heap.size 52 2 (.slice y5 m5 k5) g6.length (oC g6)) := own_past OWN5.out bb; replace OWN6 : Hid (w8.ownsRow w.heap.size 52 2 (.slice y6 m6 k6) f6.length (oC f6)) := own_past OWN6.out bb; replace OWN7 : Hid (w8.ownsRow w.heap.size 52 2 (.slice y7 m7 k7) f6.length (oC f6)) := own_past OWN7.out bb; replace hb := next hb bb; clear Ha0 Ha1 Ha2 Ha3 Ha4; clear Hb0 Hb1 Hb2 Hb3 Hb4; clear Hc0 Hc1 Hc2 Hc3 Hc4 Hc5; clear Hd0 Hd1 Hd2 Hd3 Hd4 Hd5; obtain ⟨Hi0, Hi1, Hi2, Hi3, Hi4, Hi5⟩ := (HB.out.at 1 rfl).six'; obtain ⟨Hk0, Hk1, Hk2, Hk3, Hk4, Hk5⟩ := (HB.out.at 0 rfl).six'; clear bb t2 _t)
    | (go_at_call 16; have _t := t3; go_must (refine (SF _ _ _ (Row.of_own OWN6.out) (Row.of_own OWN7.out)).mono ?_); rintro e w9 ⟨rfl, bb⟩; replace HB : Hid (Bs w9 _) := HB.out.below bb; replace HR : Hid (ORow w9 (.slice x n c) os) := HR.out.below bb; replace H3 : Hid (RRow w9 (.slice x3 n3 c3) ar) := H3.out.below bb; replace HL : Hid (LentO w9 gl os) := HL.out.below bb; replace OWN4 : Hid (w9.ownsRow w.heap.size 52 2 (.slice y4 m4 k4) g6.length (oC g6)) := own_past OWN4.out bb; replace OWN5 : Hid (w9.ownsRow w.heap.size 52 2 (.slice y5 m5 k5) g6.length (oC g6)) := own_past OWN5.out bb; replace OWN6 : Hid (w9.ownsRow w.heap.size 52 2 (.slice y6 m6 k6) f6.length (oC f6)) := own_past OWN6.out bb; replace OWN7 : Hid (w9.ownsRow w.heap.size 52 2 (.slice y7 m7 k7) f6.length (oC f6)) := own_past OWN7.out bb; replace hb := next hb bb; clear Hi0 Hi1 Hi2 Hi3 Hi4 Hi5; clear Hk0 Hk1 Hk2 Hk3 Hk4 Hk5; obtain ⟨Hx0, Hx1, Hx2, Hx3, Hx4, Hx5⟩ := (HB.out.at 6 rfl).six'; obtain ⟨Ho0, Ho1, Ho2, Ho3, Ho4, Ho5⟩ := (HB.out.at 9 rfl).six'; clear bb t3 _t)
    | (go_at_call 17; go_must (refine (KP _ _ _ hcl HL HR).mono ?_); rintro e w10 ⟨rfl, bb⟩; replace HB : Hid (Bs w10 _) := HB.out.below bb; replace HR : Hid (ORow w10 (.slice x n c) os) := HR.out.below bb; replace H3 : Hid (RRow w10 (.slice x3 n3 c3) ar) := H3.out.below bb; replace HL : Hid (LentO w10 gl os) := HL.out.below bb; replace OWN4 : Hid (w10.ownsRow w.heap.size 52 2 (.slice y4 m4 k4) g6.length (oC g6)) := own_past OWN4.out bb; replace OWN5 : Hid (w10.ownsRow w.heap.size 52 2 (.slice y5 m5 k5) g6.length (oC g6)) := own_past OWN5.out bb; replace OWN6 : Hid (w10.ownsRow w.heap.size 52 2 (.slice y6 m6 k6) f6.length (oC f6)) := own_past OWN6.out bb; replace OWN7 : Hid (w10.ownsRow w.heap.size 52 2 (.slice y7 m7 k7) f6.length (oC f6)) := own_past OWN7.out bb; replace hb := next hb bb; clear Hx0 Hx1 Hx2 Hx3 Hx4 Hx5; clear Ho0 Ho1 Ho2 Ho3 Ho4 Ho5; obtain ⟨Hc0, Hc1, Hc2, Hc3, Hc4, Hc5⟩ := (HB.out.at 3 rfl).six'; clear bb)
    | (go_at_call 18; have _t := t4; go_must (refine (SP _ _ _ _ _ g6 gs OWN4).mono ?_); rintro e w11 ⟨rfl, tt⟩; replace HB : Hid (Bs w11 _) := HB.out.turn OWN4.out tt (fun b hm => (by simp only [List.mem_cons, List.not_mem_nil, or_false] at hm; rcases hm with rfl | rfl | rfl | rfl | rfl | rfl | rfl | rfl | rfl | rfl <;> simp only <;> decide)); replace OWN5 : Hid (w11.ownsRow w.heap.size 52 2 (.slice y5 m5 k5) g6.length (oC g6)) := tt.row OWN5.out (fun j hj e => D45.out j hj e); replace OWN6 : Hid (w11.ownsRow w.heap.size 52 2 (.slice y6 m6 k6) f6.length (oC f6)) := tt.row OWN6.out (fun j hj e => D46.out j hj e); replace hb := Turn.below hb tt hb.size (fun j hj => (OWN4.out.lt j hj).1); clear Hc0 Hc1 Hc2 Hc3 Hc4 Hc5; obtain ⟨Hi0, Hi1, Hi2, Hi3, Hi4, Hi5⟩ := (HB.out.at 1 rfl).six'; clear tt t4 _t OWN4 OWN7 HL HR H3)
    | (go_at_call 18; go_must (refine (SP _ _ _ _ _ f6 fs OWN6).mono ?_); rintro e w12 ⟨rfl, tt⟩; replace HB : Hid (Bs w12 _) := HB.out.turn OWN6.out tt (fun b hm => (by simp only [List.mem_cons, List.not_mem_nil, or_false] at hm; rcases hm with rfl | rfl | rfl | rfl | rfl | rfl | rfl | rfl | rfl | rfl <;> simp only <;> decide)); replace OWN5 : Hid (w12.ownsRow w.heap.size 52 2 (.slice y5 m5 k5) g6.length (oC g6)) := tt.row OWN5.out (fun j hj e => D56.out j e hj); replace hb := Turn.below hb tt hb.size (fun j hj => (OWN6.out.lt j hj).1); clear Hi0 Hi1 Hi2 Hi3 Hi4 Hi5; obtain ⟨Hr0, Hr1, Hr2, Hr3, Hr4⟩ := (HB.out.at 8 rfl).five'; clear tt OWN6)
    | (go_at_call 11; go_must (refine (G1 _).mono ?_); rintro e w13 ⟨y13, m13, k13, rfl, own13, bb⟩; have OWN13 : Hid ((w13.alloc (.cells #[.int .i64 g1, .int .i64 g2, .int .i64 g3, .bool g4, .int .i64 g5, .slice y13 m13 k13] 24)).ownsRow w.heap.size 52 2 (.slice y13 m13 k13) g6.length (oC g6)) := own_base (own13.alloc _) hb.size; replace bb := next bb (lay (Below.refl _ _) (.cells #[.int .i64 g1, .int .i64 g2, .int .i64 g3, .bool g4, .int .i64 g5, .slice y13 m13 k13] 24)); replace HB : Hid (Bs (w13.alloc (.cells #[.int .i64 g1, .int .i64 g2, .int .i64 g3, .bool g4, .int .i64 g5, .slice y13 m13 k13] 24)) ((w13.heap.size, #[.int .i64 g1, .int .i64 g2, .int .i64 g3, .bool g4, .int .i64 g5, .slice y13 m13 k13], 24) :: _)) := (HB.out.below bb).add (Blk.new w13 #[.int .i64 g1, .int .i64 g2, .int .i64 g3, .bool g4, .int .i64 g5, .slice y13 m13 k13] 24); replace OWN5 : Hid ((w13.alloc (.cells #[.int .i64 g1, .int .i64 g2, .int .i64 g3, .bool g4, .int .i64 g5, .slice y13 m13 k13] 24)).ownsRow w.heap.size 52 2 (.slice y5 m5 k5) g6.length (oC g6)) := own_past OWN5.out bb; replace hb := next hb bb; clear Hr0 Hr1 Hr2 Hr3 Hr4; obtain ⟨Hq0, Hq1, Hq2, Hq3, Hq4, Hq5⟩ := (HB.out.at 0 rfl).six'; obtain ⟨Hd0, Hd1, Hd2, Hd3, Hd4, Hd5⟩ := (HB.out.at 3 rfl).six'; clear bb own13)
    | (go_at_call 16; go_must (refine (SG _ _ _ (Row.of_own OWN13.out) (Row.of_own OWN5.out)).mono ?_); rintro e w14 ⟨rfl, bb⟩; replace hb := next hb bb; clear bb)
    | (go_at_call 19; go_must (refine (awake_any _).mono ?_); rintro e w15 ⟨rfl, bb⟩; replace hb := next hb bb; clear bb))
  go_ret
  exact ⟨ret_bool (by simp), hb⟩

theorem walk (o : Ot) (v : Value) (r : Rc) (m : Ms) (v0 v1 v2 v3 : Value) (_ : r.n.size ≤ maxLen) (hd : r.d.size ≤ maxLen) (hz : o.os.length * 24 ≤ far) (_ : m.qs.length * 32 ≤ 140737488351232 ∧ m.an.length * 56 ≤ 140737488351232 ∧ m.ns.length * 56 ≤ 140737488351232 ∧ m.ar.length * 56 ≤ 140737488351232) (w : World) (hr : ORow w v o.os) (h0 : QRow w v0 m.qs) (h1 : RRow w v1 m.an) (h2 : RRow w v2 m.ns) (h3 : RRow w v3 m.ar) :
    Calls Try.prog 3 #[.agg (optC o v), .agg (rrC r), .agg (msgC m.h v0 v1 v2 v3)] w fun e w' => e = .returned (.bool true) ∧ Below w.heap.size w w' := by
  obtain ⟨x, c, rfl⟩ := row_slice hr.1
  obtain ⟨x0, c0, rfl⟩ := row_slice h0.1
  obtain ⟨x1, c1, rfl⟩ := row_slice h1.1
  obtain ⟨x2, c2, rfl⟩ := row_slice h2.1
  obtain ⟨x3, c3, rfl⟩ := row_slice h3.1
  obtain ⟨s, e, vv, b, z, os⟩ := o
  obtain ⟨rn, rt, rc, rl, rd⟩ := r
  obtain ⟨⟨id, qr, op, aa, tc, rdd, ra, zz, rcc⟩, qs, an, ns, ar⟩ := m
  exact walk' s e vv b z os x _ c rn rt rc rl rd id qr op aa tc rdd ra zz rcc x0 x1 x2 x3 _ _ _ _ c0 c1 c2 c3 ar hd hz w hr rfl h3

theorem own : ownKnob Try.prog.godebug = none := by kernel_rfl
theorem laidOut : laidOutB Try.prog = true := by kernel_rfl

set_option maxRecDepth 100000 in
theorem lifted (os : Os) (started : os.Started) (H : Type) (enc : TypeId × Value → H) :
    ReturnsInHanded {} Try.checked os 3 .any (Rows.optsSpec.pre6 enc Try.prog Try.f3 Rows.optsRow.domain false) (Rows.optsSpec.post enc Try.prog Try.f3 false true false false) := by
  refine returnsInHanded_of_change_sized (C := Try.checked) own started (by kernel_rfl) Try.func3
    (ChangeSpec.witness6 (enc := enc) (C := Try.checked) false ⟨#[], #[.agg (optC otZ (.slice none 0 0)), .agg (rrC rcZ), .agg (msgC hdZ (.slice none 0 0) (.slice none 0 0) (.slice none 0 0) (.slice none 0 0))], []⟩ 8 (by kernel_rfl) (by kernel_rfl) (by kernel_rfl) (by kernel_rfl)) ?_
  intro W base args ds gs before hval0 hW _ hsz0 _
  have hval : ∀ (j : Nat) t v, Try.f3.params[j]? = some t → args[j]? = some v → Value.okWide Try.prog W .any base t v := hval0
  have hsz : (DataW.weightsEach Try.prog (Try.f3.params.toList ++ Rows.optsSpec.plain.varTypes Try.prog) (ds ++ gs)).all (· ≤ reachBytes) = true := hsz0
  have hW' := hW
  obtain ⟨p, q, hA0, hV, rfl, hfz, hnd⟩ := hW
  have hA : DataW.TrodAll enc Try.prog W 0 (fun _ => true) true Try.f3.params.toList args.toList ds p := hA0
  rw [Try.params3] at hA hval hsz
  obtain ⟨v0, vs0, d0, ds0, p0, q0, hargs, rfl, rfl, h0, r0⟩ := trodAll_cons hA
  obtain ⟨v1, vs1, d1, ds1, p1, q1, rfl, rfl, rfl, h1, r1⟩ := trodAll_cons r0
  obtain ⟨v2, vs2, d2, ds2, p2, q2, rfl, rfl, rfl, h2, r2⟩ := trodAll_cons r1
  obtain ⟨rfl, rfl, rfl⟩ := trodAll_nil r2
  obtain rfl : args = #[v0, v1, v2] := by cases args; simp_all
  obtain ⟨rfl, rfl⟩ := trodVars_none hV
  obtain ⟨a0, b0, rfl, w0, z0⟩ := open_opt (hval 0 24 v0 rfl rfl) h0 (weights_all hsz (j := 0) rfl rfl)
  obtain ⟨a1, rfl, rfl, w1n, w1d⟩ := open_rr (hval 1 26 v1 rfl rfl) h1
  obtain ⟨a2, b20, b21, b22, b23, rfl, w20, w21, w22, w23⟩ := open_msg (hval 2 32 v2 rfl rfl) h2
  have hlt0 : ∀ x ∈ p0, x.block < W.heap.size := fun x hx => by
    have := hW'.lt x (by simp [hx])
    simpa using this
  have hlt2 : ∀ x ∈ p2, x.block < W.heap.size := fun x hx => by
    have := hW'.lt x (by simp [hx])
    simpa using this
  have z2 := msg_sized h2 (weights_all hsz (j := 2) rfl rfl) w20 w21 w22 w23
  clear hA0 hval0 hsz0 hsz
  simp only [List.append_nil] at hW'
  refine (walk a0 b0 a1 a2 b20 b21 b22 b23 w1n w1d z0 z2 W w0 w20 w21 w22 w23).mono fun e W' ⟨he, bel⟩ => ?_
  subst he
  exact ⟨_, rfl, _, _, _, [], _, [], hW', trodAll_mk1 (shut_bool Try.underlying4 _), (trodAll_cons_mk (Below.trod laidOut (by kernel_rfl) (of_decide_eq_true (by kernel_rfl)) h0 bel hlt0) (trodAll_cons_mk (Below.trod laidOut (by kernel_rfl) (of_decide_eq_true (by kernel_rfl)) h1 bel (by simp)) (trodAll_cons_mk (Below.trod laidOut (by kernel_rfl) (of_decide_eq_true (by kernel_rfl)) h2 bel hlt2) trodAll_mk0))), rfl, bel.frame _, fun h => by cases h⟩

/-- The statement. -/
theorem proved : Rows.OptsSaid :=
  OpenClaim.holds_of_wide 3 Try.f3 rfl rfl rfl rfl rfl rfl rfl ⟨rfl, rfl, rfl, rfl, rfl⟩ rfl rfl rfl rfl rfl (by kernel_rfl) Try.func3 (by kernel_rfl)
    (of_decide_eq_true (by kernel_rfl)) (by unfold Func.isWrapper; first | (rw [if_pos (by decide +kernel)]; kernel_rfl) | (rw [if_neg (by decide +kernel)]; exact ⟨rfl, rfl⟩))
    (fun os started H enc _ => lifted os started H enc)
#print axioms proved

end Go.Proofs.Ytehldafdjldpbaa.opts
