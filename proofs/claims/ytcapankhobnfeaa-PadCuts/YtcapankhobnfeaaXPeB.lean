/- What the document's padded, with and fits give. -/
import Derived.Test.YtcapankhobnfeaaXPeA
import Derived.Test.YtcapankhobnfeaaXP10
namespace Go.Proofs.Ytcapankhobnfeaa
open Go.RowKit
open Pl

/-- What lies ahead of the call of PutOpt. -/
theorem pre_padded {w1 : World} {Zc : Array Value} {k : Nat} (hk : k ≤ 60000) :
    Calls Try.prog 37 #[.agg #[.int .i64 1232, .int .i64 0, .int .i64 0, .bool false, .int .i64 0, .slice (some ⟨w1.heap.size + 1, 0, none⟩) 1 1]] ((w1.alloc (.cells Zc 5)).alloc (.cells #[.int .i64 12, .string (zerosB k)] 56)) fun e w' => e = .returned (.tuple #[.agg #[.string rootB, .int .i64 41, .int .i64 1232, .int .i64 0, .string ⟨(osB (pdO k)).toArray⟩], .int .i64 0]) ∧ Below w1.heap.size w1 w' := by
  have hb2 := lay (lay (Below.refl w1.heap.size w1) (.cells Zc 5)) (.cells #[.int .i64 12, .string (zerosB k)] 56)
  have kb := Blk.new (w1.alloc (.cells Zc 5)) #[.int .i64 12, .string (zerosB k)] 56
  rw [World.size_alloc] at kb
  have ho : ORow ((w1.alloc (.cells Zc 5)).alloc (.cells #[.int .i64 12, .string (zerosB k)] 56)) (.slice (some ⟨w1.heap.size + 1, 0, none⟩) 1 1) (ot (pdO k)).os := orow_lit (o := ⟨12, zerosB k⟩) kb (by rw [zerosB_size]; unfold far; omega)
  have h := refPutO_any (ot (pdO k)) _ _ ho
  rw [putOV_yes (may_pd hk)] at h
  refine h.mono ?_
  rintro e w' ⟨rfl, b⟩
  exact ⟨rfl, next hb2 b⟩

set_option maxRecDepth 20000 in
set_option maxHeartbeats 1000000 in
theorem refPadded_any (s k : Nat) (b : Int) (w : World) (hs : s ≤ 1000000) (hb1 : 1 ≤ b) (hb2 : b ≤ 1000) (hk : k = (roomI ((s : Int) + 11) b).toNat) :
    Calls Try.prog 28 #[.int .i64 (s : Int), .int .i64 b] w fun e w' => e = .returned (.agg #[.string rootB, .int .i64 41, .int .i64 1232, .int .i64 0, .string ⟨(osB (pdO k)).toArray⟩]) ∧ Below w.heap.size w w' := by
  have hrl := room_lt (s := (s : Int) + 11) hb1
  have hrk : roomI ((s : Int) + 11) b = (k : Int) := by omega
  have KR := fun u => refRoom_any ((s : Int) + 11) b u (by omega) (by omega)
  rw [hrk] at KR
  have hk1 : k ≤ 1000 := by omega
  obtain ⟨Zc, hmk, hcz⟩ := madeN k (by omega)
  have KP := fun w1 => pre_padded (w1 := w1) (Zc := Zc) (k := k) (by omega)
  obtain ⟨ZZ, hZZ⟩ : ∃ ZZ, ZZ = zerosB k := ⟨_, rfl⟩
  obtain ⟨DD, hDD⟩ : ∃ DD : ByteArray, DD = ⟨(osB (pdO k)).toArray⟩ := ⟨_, rfl⟩
  obtain ⟨RB, hRB⟩ : ∃ RB, RB = rootB := ⟨_, rfl⟩
  simp only [← hZZ, ← hDD, ← hRB] at hcz KP ⊢
  have KB := Blk.new w (rrC rcZ) 54
  have hb := lay (Below.refl w.heap.size w) (.cells (rrC rcZ) 54)
  clear hk hrl hrk hZZ hDD hRB
  unfold rrC rcZ at KB hb
  simp only at KB hb
  go_enter Try.func28, Try.ntmps28
  go_wp2_with (first
    | (go_at_call 17; go_must (refine (KR _).mono ?_); rintro e w1 ⟨rfl, b1⟩; replace KB := KB.below b1; replace hb := next hb b1; clear b1)
    | (go_at_call 37; go_must (refine (KP _).mono ?_); rintro e w2 ⟨rfl, b2⟩; replace KB := KB.below b2; replace hb := next hb b2; have KB2 := KB.alloc (.cells #[.string RB, .int .i64 41, .int .i64 1232, .int .i64 0, .string DD] 54); obtain ⟨f0, f1, f2, f3, f4⟩ := KB2.five'; obtain ⟨e0, e1, e2, e3, e4⟩ := KB2.open5; clear b2))
  have q := set5_blk (r := ⟨RB, 41, 1232, 0, DD⟩) (r' := rcZ) KB2
  have qb := set5_below (lay hb (.cells #[.string RB, .int .i64 41, .int .i64 1232, .int .i64 0, .string DD] 54)) (Nat.le_refl _) (Nat.le_trans hb.size (by simp)) ⟨RB, 41, 1232, 0, DD⟩
  change bodyPost Try.prog Try.f28 _ _ _ (set5 (w2.alloc (.cells #[.string RB, .int .i64 41, .int .i64 1232, .int .i64 0, .string DD] 54)) w.heap.size ⟨RB, 41, 1232, 0, DD⟩)
  revert q qb
  generalize set5 (w2.alloc (.cells #[.string RB, .int .i64 41, .int .i64 1232, .int .i64 0, .string DD] 54)) w.heap.size ⟨RB, 41, 1232, 0, DD⟩ = W
  intro q qb
  obtain ⟨q0, q1, q2, q3, q4⟩ := q.five
  exact bodyPost_ret (v := .agg #[.string RB, .int .i64 41, .int .i64 1232, .int .i64 0, .string DD]) (by simp [results, Try.results28, go_sem, q0, q1, q2, q3, q4]) rfl ⟨rfl, qb⟩

/-- What lies behind the appends. -/
theorem pre_with {w u : World} {hd : Hd} {v0 v1 v2 v3 : Value} {y : Option Addr} {n c : Nat} (hb : Below w.heap.size w u) (KB : Blk u w.heap.size (msgC hd v0 v1 v2 v3) 29) (KO : Blk u (w.heap.size + 1 + 1) (msgC hdZ (.slice none 0 0) (.slice none 0 0) (.slice none 0 0) (.slice none 0 0)) 29) {rs : List Rc} (own : u.ownsRow (w.heap.size + 1 + 1 + 1) 54 5 (.slice y n c) n (rC rs)) (hn : n = rs.length) (hm : rs.length ≤ 100000) (hz : ∀ r ∈ rs, r.n.size ≤ maxLen ∧ r.d.size ≤ maxLen) :
    Blk (u.setCell ⟨w.heap.size, 12, none⟩ (.slice y n c)) w.heap.size (msgC hd v0 v1 v2 (.slice y n c)) 29 ∧ Blk (u.setCell ⟨w.heap.size, 12, none⟩ (.slice y n c)) (w.heap.size + 1 + 1) (msgC hdZ (.slice none 0 0) (.slice none 0 0) (.slice none 0 0) (.slice none 0 0)) 29 ∧
    Blk (set13 (u.setCell ⟨w.heap.size, 12, none⟩ (.slice y n c)) (w.heap.size + 1 + 1) hd v0 v1 v2 (.slice y n c)) (w.heap.size + 1 + 1) (msgC hd v0 v1 v2 (.slice y n c)) 29 ∧ RRow (set13 (u.setCell ⟨w.heap.size, 12, none⟩ (.slice y n c)) (w.heap.size + 1 + 1) hd v0 v1 v2 (.slice y n c)) (.slice y n c) rs ∧ Below w.heap.size w (set13 (u.setCell ⟨w.heap.size, 12, none⟩ (.slice y n c)) (w.heap.size + 1 + 1) hd v0 v1 v2 (.slice y n c)) ∧ (set13 (u.setCell ⟨w.heap.size, 12, none⟩ (.slice y n c)) (w.heap.size + 1 + 1) hd v0 v1 v2 (.slice y n c)).ownsRow w.heap.size 54 5 (.slice y n c) n (rC rs) := by
  have hb2 := setCell_below hb (Nat.le_refl _) 12 (.slice y n c)
  have k1 := KB.set 12 (.slice y n c)
  have k2 := KO.other (b := w.heap.size) (by omega) 12 (.slice y n c)
  have k3 := set13_blk (h := hd) (v0 := v0) (v1 := v1) (v2 := v2) (v3 := .slice y n c) k2
  have t3 := set13_turn (u.setCell ⟨w.heap.size, 12, none⟩ (.slice y n c)) (w.heap.size + 1 + 1) hd v0 v1 v2 (.slice y n c)
  have o1 := row_put (gm := w.heap.size) own (by omega) 12 (.slice y n c)
  have o2 := t3.row o1 (fun k hk e => by have := (o1.lt k hk).1; omega)
  refine ⟨k1, k2, k3, ⟨?_, small100 hm, hz⟩, Turn.below hb2 t3 hb2.size (fun i e => by subst e; omega), own_base o2 (by omega)⟩
  have := Row.of_own o2
  rw [hn] at this ⊢
  exact this

set_option maxRecDepth 20000 in
set_option maxHeartbeats 2000000 in
theorem refWith_any (id : Int) (qr : Bool) (op : Int) (aa tc rd ra : Bool) (z rc : Int) (ar : List Rc) (rn : ByteArray) (rt rcl rl : Int) (rdd : ByteArray) (x0 x1 x2 : Option Addr) (n0 n1 n2 c0 c1 c2 : Nat) (v3 : Value) (w : World) (h3 : RRow w v3 ar) (hn : ar.length ≤ 64) (hz : rn.size ≤ maxLen ∧ rdd.size ≤ maxLen) :
    Calls Try.prog 35 #[.agg #[.int .i64 id, .bool qr, .int .i64 op, .bool aa, .bool tc, .bool rd, .bool ra, .int .i64 z, .int .i64 rc, .slice x0 n0 c0, .slice x1 n1 c1, .slice x2 n2 c2, v3], .agg #[.string rn, .int .i64 rt, .int .i64 rcl, .int .i64 rl, .string rdd]] w fun e w' => ∃ y c, e = .returned (.agg #[.int .i64 id, .bool qr, .int .i64 op, .bool aa, .bool tc, .bool rd, .bool ra, .int .i64 z, .int .i64 rc, .slice x0 n0 c0, .slice x1 n1 c1, .slice x2 n2 c2, .slice y (ar.length + 1) c]) ∧ RRow w' (.slice y (ar.length + 1) c) (ar ++ [⟨rn, rt, rcl, rl, rdd⟩]) ∧ Below w.heap.size w w' ∧ w'.ownsRow w.heap.size 54 5 (.slice y (ar.length + 1) c) (ar.length + 1) (rC (ar ++ [⟨rn, rt, rcl, rl, rdd⟩])) := by
  obtain ⟨i0, hi, hz0, hz1, hz2⟩ := info_parts infoR'
  obtain ⟨x3, c3, rfl⟩ := row_slice h3.1
  obtain ⟨n3, hn3⟩ : ∃ n, n = ar.length := ⟨_, rfl⟩
  rw [← hn3] at hn h3 ⊢
  have HN3 : Hid (n3 = ar.length) := hn3
  have HZ : Hid (∀ r ∈ ar ++ [⟨rn, rt, rcl, rl, rdd⟩], r.n.size ≤ maxLen ∧ r.d.size ≤ maxLen) := fun r hr => by
    rcases List.mem_append.1 hr with hr | hr
    · exact h3.2.2 r hr
    · simp at hr; subst hr; exact hz
  have KA := ((Blk.new w (msgC ⟨id, qr, op, aa, tc, rd, ra, z, rc⟩ (.slice x0 n0 c0) (.slice x1 n1 c1) (.slice x2 n2 c2) (.slice x3 n3 c3)) 29).alloc (.cells #[.string rn, .int .i64 rt, .int .i64 rcl, .int .i64 rl, .string rdd] 54)).alloc (.cells (msgC hdZ (.slice none 0 0) (.slice none 0 0) (.slice none 0 0) (.slice none 0 0)) 29)
  have KR := (Blk.new (w.alloc (.cells (msgC ⟨id, qr, op, aa, tc, rd, ra, z, rc⟩ (.slice x0 n0 c0) (.slice x1 n1 c1) (.slice x2 n2 c2) (.slice x3 n3 c3)) 29)) #[.string rn, .int .i64 rt, .int .i64 rcl, .int .i64 rl, .string rdd] 54).alloc (.cells (msgC hdZ (.slice none 0 0) (.slice none 0 0) (.slice none 0 0) (.slice none 0 0)) 29)
  have KO := Blk.new ((w.alloc (.cells (msgC ⟨id, qr, op, aa, tc, rd, ra, z, rc⟩ (.slice x0 n0 c0) (.slice x1 n1 c1) (.slice x2 n2 c2) (.slice x3 n3 c3)) 29)).alloc (.cells #[.string rn, .int .i64 rt, .int .i64 rcl, .int .i64 rl, .string rdd] 54)) (msgC hdZ (.slice none 0 0) (.slice none 0 0) (.slice none 0 0) (.slice none 0 0)) 29
  rw [World.size_alloc] at KR
  rw [World.size_alloc, World.size_alloc] at KO
  have hb := lay (lay (lay (Below.refl w.heap.size w) (.cells (msgC ⟨id, qr, op, aa, tc, rd, ra, z, rc⟩ (.slice x0 n0 c0) (.slice x1 n1 c1) (.slice x2 n2 c2) (.slice x3 n3 c3)) 29)) (.cells #[.string rn, .int .i64 rt, .int .i64 rcl, .int .i64 rl, .string rdd] 54)) (.cells (msgC hdZ (.slice none 0 0) (.slice none 0 0) (.slice none 0 0) (.slice none 0 0)) 29)
  obtain ⟨U, hU⟩ : ∃ U, U = ((w.alloc (.cells (msgC ⟨id, qr, op, aa, tc, rd, ra, z, rc⟩ (.slice x0 n0 c0) (.slice x1 n1 c1) (.slice x2 n2 c2) (.slice x3 n3 c3)) 29)).alloc (.cells #[.string rn, .int .i64 rt, .int .i64 rcl, .int .i64 rl, .string rdd] 54)).alloc (.cells (msgC hdZ (.slice none 0 0) (.slice none 0 0) (.slice none 0 0) (.slice none 0 0)) 29) := ⟨_, rfl⟩
  have hUs : U.heap.size = w.heap.size + 1 + 1 + 1 := by rw [hU, World.size_alloc, World.size_alloc, World.size_alloc]
  rw [← hU] at KA KR KO hb
  have hb1 := lay hb (.cells #[] 54)
  have RA : Hid (Row (U.alloc (.cells #[] 54)) (.slice x3 n3 c3) n3 (rC ar)) := by have := (h3.below hb1).1; rw [← hn3] at this; exact this
  have own0 := own_blk (B := w.heap.size + 1 + 1 + 1) (z := 5) (n := 0) (xs := []) (Blk.new U #[] 54) (by omega) rfl rfl (Nat.zero_le _)
  rw [hUs] at own0
  have HLA : Hid ((rC ar).length = n3 * 5) := by unfold Hid; rw [rC_len, hn3]
  have PW := fun (u : World) (y : Option Addr) (c : Nat) (a : Below w.heap.size w u) (b : Blk u w.heap.size (msgC ⟨id, qr, op, aa, tc, rd, ra, z, rc⟩ (.slice x0 n0 c0) (.slice x1 n1 c1) (.slice x2 n2 c2) (.slice x3 n3 c3)) 29) (d : Blk u (w.heap.size + 1 + 1) (msgC hdZ (.slice none 0 0) (.slice none 0 0) (.slice none 0 0) (.slice none 0 0)) 29) (o : u.ownsRow (w.heap.size + 1 + 1 + 1) 54 5 (.slice y (n3 + 1) c) (n3 + 1) (rC (ar ++ [⟨rn, rt, rcl, rl, rdd⟩]))) => pre_with a b d o (by have := HN3.out; simp; exact this) (by have := HN3.out; simp; omega) HZ.out
  have LIT : ∀ u : World, Row (u.alloc (.cells #[.string rn, .int .i64 rt, .int .i64 rcl, .int .i64 rl, .string rdd] 54)) (.slice (some ⟨u.heap.size, 0, none⟩) 1 1) 1 (rC [⟨rn, rt, rcl, rl, rdd⟩]) := fun u => Row.of_blk (Blk.new u _ _) (by simp [rC, rV]) 1 1
  clear h3 hz hn3 hb1
  have hsz0 : w.heap.size + 1 + 1 + 1 ≤ (U.alloc (.cells #[] 54)).heap.size := by rw [World.size_alloc, hUs]; omega
  have f12 : (U.alloc (.cells #[] 54)).cell? ⟨w.heap.size, 12, none⟩ = some (.slice x3 n3 c3) := (KA.alloc _).cell 12
  have STEP1 : Hid (∀ {v5 : Value} {w5 : World}, w5.ownsRow (w.heap.size + 1 + 1 + 1) 54 5 v5 (0 + n3) ([] ++ rC ar) → (U.alloc (.cells #[] 54)).grownBy w5 (Value.slice (some ⟨w.heap.size + 1 + 1 + 1, 0, none⟩) 0 0).ownBlock → ∃ y k, v5 = .slice y n3 k ∧ w5.ownsRow (w.heap.size + 1 + 1 + 1) 54 5 (.slice y n3 k) n3 (rC ar) ∧ Below w.heap.size w w5 ∧ Blk w5 w.heap.size (msgC ⟨id, qr, op, aa, tc, rd, ra, z, rc⟩ (.slice x0 n0 c0) (.slice x1 n1 c1) (.slice x2 n2 c2) (.slice x3 n3 c3)) 29 ∧ Blk w5 (w.heap.size + 1) #[.string rn, .int .i64 rt, .int .i64 rcl, .int .i64 rl, .string rdd] 54 ∧ Blk w5 (w.heap.size + 1 + 1) (msgC hdZ (.slice none 0 0) (.slice none 0 0) (.slice none 0 0) (.slice none 0 0)) 29) := fun {v5 w5} o g => by
    rw [Nat.zero_add, List.nil_append] at o
    obtain ⟨y, k, rfl⟩ := row_shape o
    have ne : ∀ i, i < w.heap.size + 1 + 1 + 1 → some i ≠ (Value.slice (some ⟨w.heap.size + 1 + 1 + 1, 0, none⟩) 0 0).ownBlock := fun i hi e => by
      have : i = w.heap.size + 1 + 1 + 1 := Option.some.inj e
      omega
    exact ⟨y, k, rfl, o, (lay hb _).grown g (lay hb _).size (fun j e => by have : w.heap.size + 1 + 1 + 1 = j := Option.some.inj e; omega), (KA.alloc _).grown g (ne _ (by omega)), (KR.alloc _).grown g (ne _ (by omega)), (KO.alloc _).grown g (ne _ (by omega))⟩
  have STEP2 : Hid (∀ {y : Option Addr} {k : Nat} {w5 w6 : World} {v6 : Value}, w5.ownsRow (w.heap.size + 1 + 1 + 1) 54 5 (.slice y n3 k) n3 (rC ar) → Below w.heap.size w w5 → Blk w5 w.heap.size (msgC ⟨id, qr, op, aa, tc, rd, ra, z, rc⟩ (.slice x0 n0 c0) (.slice x1 n1 c1) (.slice x2 n2 c2) (.slice x3 n3 c3)) 29 → Blk w5 (w.heap.size + 1 + 1) (msgC hdZ (.slice none 0 0) (.slice none 0 0) (.slice none 0 0) (.slice none 0 0)) 29 → w6.ownsRow (w.heap.size + 1 + 1 + 1) 54 5 v6 (n3 + 1) (rC ar ++ rC [⟨rn, rt, rcl, rl, rdd⟩]) → (w5.alloc (.cells #[.string rn, .int .i64 rt, .int .i64 rcl, .int .i64 rl, .string rdd] 54)).grownBy w6 (Value.slice y n3 k).ownBlock → ∃ y6 k6, v6 = .slice y6 (n3 + 1) k6 ∧ w6.ownsRow (w.heap.size + 1 + 1 + 1) 54 5 (.slice y6 (n3 + 1) k6) (n3 + 1) (rC (ar ++ [⟨rn, rt, rcl, rl, rdd⟩])) ∧ Below w.heap.size w w6 ∧ Blk w6 w.heap.size (msgC ⟨id, qr, op, aa, tc, rd, ra, z, rc⟩ (.slice x0 n0 c0) (.slice x1 n1 c1) (.slice x2 n2 c2) (.slice x3 n3 c3)) 29 ∧ Blk w6 (w.heap.size + 1 + 1) (msgC hdZ (.slice none 0 0) (.slice none 0 0) (.slice none 0 0) (.slice none 0 0)) 29) := fun {y k w5 w6 v6} o hb5 ka ko o6 g => by
    rw [← rC_app] at o6
    obtain ⟨y6, k6, rfl⟩ := row_shape o6
    have ne : ∀ i, i < w.heap.size + 1 + 1 + 1 → some i ≠ (Value.slice y n3 k).ownBlock := fun i hi e => by
      have := (o.lt i e.symm).1
      omega
    exact ⟨y6, k6, rfl, o6, (lay hb5 _).grown g (lay hb5 _).size (fun j e => by have := (o.lt j e).1; omega), (ka.alloc _).grown g (ne _ (by omega)), (ko.alloc _).grown g (ne _ (by omega))⟩
  have OWN0 : Hid ((U.alloc (.cells #[] 54)).ownsRow (w.heap.size + 1 + 1 + 1) 54 5 (.slice (some ⟨w.heap.size + 1 + 1 + 1, 0, none⟩) 0 0) 0 []) := own0
  clear own0 KA KR KO hb hUs
  subst hU
  unfold msgC hdZ at *
  simp only at *
  have t1 : True := trivial
  go_enter Try.func35, Try.ntmps35
  go_wp2_with (first
    | (at_builtin; have _t := t1; refine wpList_appG _ rfl (.tmp 6) (.tmp 8) 27 54 i0 _ 5 56 Try.underlying27 hi hz0 hz1 hz2 rfl (by decide) rfl (w.heap.size + 1 + 1 + 1) _ 0 [] rfl OWN0.out _ n3 (rC ar) rfl RA.out HLA.out (rC_one ar) (by omega) (by unfold maxLen; omega) hsz0 ?_; intro v5 w5 o5 g5 _; obtain ⟨y5, k5, rfl, own5, hb5, ka5, kr5, ko5⟩ := STEP1.out o5 g5; obtain ⟨r0, r1, r2, r3, r4⟩ := kr5.five'; have OWN5 : Hid (w5.ownsRow (w.heap.size + 1 + 1 + 1) 54 5 (.slice y5 n3 k5) n3 (rC ar)) := own5; have R5 : Hid (Row (w5.alloc (.cells #[.string rn, .int .i64 rt, .int .i64 rcl, .int .i64 rl, .string rdd] 54)) (.slice y5 n3 k5) n3 (rC ar)) := (Row.of_own own5).below (lay (Below.refl _ _) _); have hs5 : w.heap.size + 1 + 1 + 1 ≤ (w5.alloc (.cells #[.string rn, .int .i64 rt, .int .i64 rcl, .int .i64 rl, .string rdd] 54)).heap.size := (by have := ko5.lt; rw [World.size_alloc]; omega); clear t1 _t o5 g5 f12 own5)
    | (at_builtin; refine wpList_appG _ rfl (.tmp 10) (.tmp 12) 27 54 i0 _ 5 56 Try.underlying27 hi hz0 hz1 hz2 rfl (by decide) rfl (w.heap.size + 1 + 1 + 1) _ n3 (rC ar) rfl (OWN5.out.alloc _) _ 1 (rC [⟨rn, rt, rcl, rl, rdd⟩]) rfl (LIT w5) rfl (rC_one _) (by omega) (by unfold maxLen; omega) hs5 ?_; intro v6 w6 o6 g6 _; obtain ⟨y6, k6, rfl, own6, hb6, ka6, ko6⟩ := STEP2.out OWN5.out hb5 ka5 ko5 o6 g6; have a12 : w6.cell? ⟨w.heap.size, 12, none⟩ = some (.slice x3 n3 c3) := ka6.cell 12; have z12 := ka6.frozen 12; obtain ⟨k1, k2, k3, rr, hbf, owf⟩ := PW w6 y6 k6 hb6 ka6 ko6 own6; obtain ⟨d0, d1, d2, d3, d4, d5, d6, d7, d8, d9, d10, d11, d12⟩ := blk13 (h := ⟨id, qr, op, aa, tc, rd, ra, z, rc⟩) k1; simp only at d0 d1 d2 d3 d4 d5 d6 d7 d8; obtain ⟨p0, p1, p2, p3, p4, p5, p6, p7, p8, p9, p10, p11, p12⟩ := blk13 (h := ⟨0, false, 0, false, false, false, false, 0, 0⟩) k2; simp only at p0 p1 p2 p3 p4 p5 p6 p7 p8; obtain ⟨e0, e1, e2, e3, e4, e5, e6, e7, e8, e9, e10, e11, e12⟩ := open13 k2; have K3 : Hid (Blk (set13 (w6.setCell ⟨w.heap.size, 12, none⟩ (.slice y6 (n3 + 1) k6)) (w.heap.size + 1 + 1) ⟨id, qr, op, aa, tc, rd, ra, z, rc⟩ (.slice x0 n0 c0) (.slice x1 n1 c1) (.slice x2 n2 c2) (.slice y6 (n3 + 1) k6)) (w.heap.size + 1 + 1) #[.int .i64 id, .bool qr, .int .i64 op, .bool aa, .bool tc, .bool rd, .bool ra, .int .i64 z, .int .i64 rc, .slice x0 n0 c0, .slice x1 n1 c1, .slice x2 n2 c2, .slice y6 (n3 + 1) k6] 29) := k3; have RRF : Hid (RRow (set13 (w6.setCell ⟨w.heap.size, 12, none⟩ (.slice y6 (n3 + 1) k6)) (w.heap.size + 1 + 1) ⟨id, qr, op, aa, tc, rd, ra, z, rc⟩ (.slice x0 n0 c0) (.slice x1 n1 c1) (.slice x2 n2 c2) (.slice y6 (n3 + 1) k6)) (.slice y6 (n3 + 1) k6) (ar ++ [⟨rn, rt, rcl, rl, rdd⟩])) := rr; have OWF : Hid ((set13 (w6.setCell ⟨w.heap.size, 12, none⟩ (.slice y6 (n3 + 1) k6)) (w.heap.size + 1 + 1) ⟨id, qr, op, aa, tc, rd, ra, z, rc⟩ (.slice x0 n0 c0) (.slice x1 n1 c1) (.slice x2 n2 c2) (.slice y6 (n3 + 1) k6)).ownsRow w.heap.size 54 5 (.slice y6 (n3 + 1) k6) (n3 + 1) (rC (ar ++ [⟨rn, rt, rcl, rl, rdd⟩]))) := owf; clear owf o6 g6 r0 r1 r2 r3 r4 k3 rr k1 k2 ka6 ko6 own6))
  have q := K3.out
  have qr' := RRF.out
  have qo := OWF.out
  change bodyPost Try.prog Try.f35 _ _ _ (set13 (w6.setCell ⟨w.heap.size, 12, none⟩ (.slice y6 (n3 + 1) k6)) (w.heap.size + 1 + 1) ⟨id, qr, op, aa, tc, rd, ra, z, rc⟩ (.slice x0 n0 c0) (.slice x1 n1 c1) (.slice x2 n2 c2) (.slice y6 (n3 + 1) k6))
  clear K3 RRF OWF
  revert q qr' hbf qo
  generalize set13 (w6.setCell ⟨w.heap.size, 12, none⟩ (.slice y6 (n3 + 1) k6)) (w.heap.size + 1 + 1) ⟨id, qr, op, aa, tc, rd, ra, z, rc⟩ (.slice x0 n0 c0) (.slice x1 n1 c1) (.slice x2 n2 c2) (.slice y6 (n3 + 1) k6) = W
  intro hbf q qr' qo
  obtain ⟨s0, s1, s2, s3, s4, s5, s6, s7, s8, s9, s10, s11, s12⟩ := blk13 (h := ⟨id, qr, op, aa, tc, rd, ra, z, rc⟩) q
  simp only at s0 s1 s2 s3 s4 s5 s6 s7 s8
  exact bodyPost_ret (v := .agg #[.int .i64 id, .bool qr, .int .i64 op, .bool aa, .bool tc, .bool rd, .bool ra, .int .i64 z, .int .i64 rc, .slice x0 n0 c0, .slice x1 n1 c1, .slice x2 n2 c2, .slice y6 (n3 + 1) k6]) (by simp [results, Try.results35, go_sem, s0, s1, s2, s3, s4, s5, s6, s7, s8, s9, s10, s11, s12]) rfl ⟨y6, k6, rfl, qr', hbf, qo⟩

set_option maxRecDepth 20000 in
theorem refFits_any (m : Ms) (most : Int) (v0 v1 v2 v3 : Value) (T : ByteArray) (E : Int) (b : Bool) (w : World) (h0 : QRow w v0 m.qs) (h1 : RRow w v1 m.an) (h2 : RRow w v2 m.ns) (h3 : RRow w v3 m.ar) (hT : pT m = T) (hE : pE m = E) (hb : fitB T E most = b) :
    Calls Try.prog 36 #[.agg (msgC m.h v0 v1 v2 v3), .int .i64 most] w fun e w' => e = .returned (.tuple #[.string T, .bool b]) ∧ Below w.heap.size w w' := by
  have hp := putV_as m
  have hsz := p_size m
  rw [hT, hE] at hp
  rw [hT] at hsz
  obtain ⟨x0, c0, rfl⟩ := row_slice h0.1
  obtain ⟨x1, c1, rfl⟩ := row_slice h1.1
  obtain ⟨x2, c2, rfl⟩ := row_slice h2.1
  obtain ⟨x3, c3, rfl⟩ := row_slice h3.1
  obtain ⟨hd, qs, an, ns, ar⟩ := m
  obtain ⟨id, qr, op, aa, tc, rd, ra, z, rc⟩ := hd
  have K : ∀ u, Hid (Below w.heap.size w u) → _ := fun u hu => rput_h id qr op aa tc rd ra z rc qs an ns ar T E _ _ _ _ u hp (h0.below hu.out) (h1.below hu.out) (h2.below hu.out) (h3.below hu.out)
  have hbb := lay (Below.refl w.heap.size w) (.cells (msgC ⟨id, qr, op, aa, tc, rd, ra, z, rc⟩ (.slice x0 qs.length c0) (.slice x1 an.length c1) (.slice x2 ns.length c2) (.slice x3 ar.length c3)) 29)
  clear h0 h1 h2 h3 hp hT hE
  unfold msgC at hbb ⊢
  simp only at hbb ⊢
  by_cases a1 : E = 0
  · subst a1
    have HF : Hid (b = decide ((T.size : Int) ≤ most)) := by unfold Hid; rw [← hb]; unfold fitB; simp
    clear hb
    go_enter Try.func36, Try.ntmps36
    go_wp2_with (go_at_call 29; go_must (refine (K _ hbb).mono ?_); rintro e w1 ⟨rfl, b1⟩; replace hbb := next hbb b1; clear b1)
    go_ret2
    exact ⟨by rw [HF.out]; rfl, hbb⟩
  · have HF : Hid (b = false) := by unfold Hid; rw [← hb]; unfold fitB; simp [a1]
    clear hb
    go_enter Try.func36, Try.ntmps36
    go_wp2_with (go_at_call 29; go_must (refine (K _ hbb).mono ?_); rintro e w1 ⟨rfl, b1⟩; replace hbb := next hbb b1; clear b1)
    go_ret2
    exact ⟨by rw [HF.out]; rfl, hbb⟩

end Go.Proofs.Ytcapankhobnfeaa
