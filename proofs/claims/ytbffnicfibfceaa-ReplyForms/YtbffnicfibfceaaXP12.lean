/- What the document's GetMsg gives. -/
import Derived.Test.YtbffnicfibfceaaXP11
namespace Go.Proofs.Ytbffnicfibfceaa
open Go.RowKit
open Pl

theorem alt_no {ok : Bool} {A B : Prop} (h : Alt ok A B) (e : ok = false) : B := by
  rcases h with ⟨h, _⟩ | ⟨_, h⟩
  · rw [e] at h; simp at h
  · exact h
theorem alt_yes {ok : Bool} {A B : Prop} (h : Alt ok A B) (e : ok = true) : A := by
  rcases h with ⟨_, h⟩ | ⟨h, _⟩
  · exact h
  · rw [e] at h; simp at h
theorem own_turn {B g : Nat} {w w' : World} {v0 v1 v2 v3 : Value} {m : Ms} (h : Own B w v0 v1 v2 v3 m) (ht : Turn (fun k => k = g) w w') (hg : g < B) : Own B w' v0 v1 v2 v3 m :=
  ⟨row_step h.q hg ht, row_step h.an hg ht, row_step h.ns hg ht, row_step h.ar hg ht, h.d12, h.d13, h.d23⟩
theorem own_from {B B' : Nat} {w : World} {v0 v1 v2 v3 : Value} {m : Ms} (h : Own B w v0 v1 v2 v3 m) (hB : B' ≤ B) : Own B' w v0 v1 v2 v3 m :=
  ⟨own_base h.q hB, own_base h.an hB, own_base h.ns hB, own_base h.ar hB, h.d12, h.d13, h.d23⟩
theorem sub2_len {s : ByteArray} {qs : List Qn} {an ns ar : List Rc} {p : Nat} (h : sub2 s 0 = some ((qs, an, ns, ar), p)) : ns.length = 0 := by
  unfold sub2 at h
  cases h1 : part (getQ s) (cnt s 0) 12 with
  | none => rw [h1] at h; simp at h
  | some z =>
    rw [h1] at h
    simp only at h
    cases h2 : part (getR s) (cnt s 1) z.2 with
    | none => rw [h2] at h; simp at h
    | some y => rw [h2] at h; simp [getAll] at h; rw [h.1.2.2.1]; rfl
theorem sub3_len {s : ByteArray} {qs : List Qn} {an ns ar : List Rc} {p : Nat} (h : sub3 s 0 = some ((qs, an, ns, ar), p)) : ar.length = 0 := by
  unfold sub3 at h
  cases h1 : part (getQ s) (cnt s 0) 12 with
  | none => rw [h1] at h; simp at h
  | some z =>
    rw [h1] at h
    simp only at h
    cases h2 : part (getR s) (cnt s 1) z.2 with
    | none => rw [h2] at h; simp at h
    | some y =>
      rw [h2] at h
      simp only at h
      cases h3 : part (getR s) (cnt s 2) y.2 with
      | none => rw [h3] at h; simp at h
      | some x => rw [h3] at h; simp [getAll] at h; rw [h.1.2.2.2]; rfl

set_option maxRecDepth 20000 in
set_option maxHeartbeats 1000000 in
theorem rget_long (s : ByteArray) (w : World) (_hs : s.size ≤ maxLen) (hl : ¬ s.size ≤ 4096) :
    Calls Try.prog 13 #[.string s] w (GetP s w) := by
  have hl' : (4096 : Int) < (s.size : Int) := by omega
  have HG : Hid (gM s = msZ ∧ gE s = 701) := g_long hl
  have qb : Below w.heap.size w _ := lay (Below.refl _ _) (.cells (msgC hdZ (.slice none 0 0) (.slice none 0 0) (.slice none 0 0) (.slice none 0 0)) 27)
  unfold maxLen at _hs
  go_enter Try.func13, Try.ntmps13
  go_wp2
  refine bodyPost_ret (v := .tuple #[.agg (msgC hdZ (.slice none 0 0) (.slice none 0 0) (.slice none 0 0) (.slice none 0 0)), .int .i64 701]) (by simp [results, Try.results13, go_sem, msgC, hdZ]) rfl (getP_no HG.out qb)

set_option maxRecDepth 20000 in
set_option maxHeartbeats 1000000 in
theorem rget_few (s : ByteArray) (w : World) (hl : s.size < 12) :
    Calls Try.prog 13 #[.string s] w (GetP s w) := by
  have hs : s.size ≤ maxLen := by unfold maxLen; omega
  have hl' : decide ((4096 : Int) < (s.size : Int)) = false := by simp; omega
  have HG : Hid (gM s = msZ ∧ gE s = 700) := g_none (by omega) (get_short hl)
  have kz := Blk.new w (msgC hdZ (.slice none 0 0) (.slice none 0 0) (.slice none 0 0) (.slice none 0 0)) 27
  have kb : Below w.heap.size w _ := lay (Below.refl _ _) (.cells (msgC hdZ (.slice none 0 0) (.slice none 0 0) (.slice none 0 0) (.slice none 0 0)) 27)
  have hcall := fun u => refGet_any s u hs
  unfold getT at hcall
  simp only [show ¬ 12 ≤ s.size from by omega, if_false] at hcall
  unfold headZ headV cntV at hcall
  go_enter Try.func13, Try.ntmps13
  go_wp2_with (go_at_call 28; go_must (refine (hcall _).mono ?_); rintro e w1 ⟨rfl, b1⟩; replace kz := kz.below b1; replace kb := next kb b1; obtain ⟨f0, f1, f2, f3, f4, f5, f6, f7, f8, f9, f10, f11, f12⟩ := open13 kz; obtain ⟨z0, z1, z2, z3, z4, z5, z6, z7, z8, z9, z10, z11, z12⟩ := blk13 kz; have klt := kz.lt; clear b1)
  obtain ⟨qb, q⟩ := zeroed kb kz
  unfold set13 hdZ at qb q
  simp only at qb q
  revert qb q
  generalize (((((((((((((w1.setCell ⟨w.heap.size, 0, none⟩ (.int .i64 0)).setCell ⟨w.heap.size, 1, none⟩ (.bool false)).setCell ⟨w.heap.size, 2, none⟩ (.int .i64 0)).setCell ⟨w.heap.size, 3, none⟩ (.bool false)).setCell ⟨w.heap.size, 4, none⟩ (.bool false)).setCell ⟨w.heap.size, 5, none⟩ (.bool false)).setCell ⟨w.heap.size, 6, none⟩ (.bool false)).setCell ⟨w.heap.size, 7, none⟩ (.int .i64 0)).setCell ⟨w.heap.size, 8, none⟩ (.int .i64 0)).setCell ⟨w.heap.size, 9, none⟩ (.slice none 0 0)).setCell ⟨w.heap.size, 10, none⟩ (.slice none 0 0)).setCell ⟨w.heap.size, 11, none⟩ (.slice none 0 0)).setCell ⟨w.heap.size, 12, none⟩ (.slice none 0 0)) = V
  intro qb q
  replace q := (q.alloc (.cells #[.int .i64 0, .bool false, .int .i64 0, .bool false, .bool false, .bool false, .bool false, .int .i64 0, .int .i64 0] 23)).alloc (.cells #[.int .i64 0, .int .i64 0, .int .i64 0, .int .i64 0] 48)
  replace qb := lay (lay qb (.cells #[.int .i64 0, .bool false, .int .i64 0, .bool false, .bool false, .bool false, .bool false, .int .i64 0, .int .i64 0] 23)) (.cells #[.int .i64 0, .int .i64 0, .int .i64 0, .int .i64 0] 48)
  obtain ⟨m0, m1, m2, m3, m4, m5, m6, m7, m8, m9, m10, m11, m12⟩ := blk13 q
  refine bodyPost_ret (v := .tuple #[.agg (msgC hdZ (.slice none 0 0) (.slice none 0 0) (.slice none 0 0) (.slice none 0 0)), .int .i64 700]) (by simp [results, Try.results13, go_sem, msgC, hdZ, m0, m1, m2, m3, m4, m5, m6, m7, m8, m9, m10, m11, m12]) rfl (getP_no HG.out qb)

theorem gb_start {w w1 : World} (id : Int) (qr : Bool) (op : Int) (aa tc rd ra : Bool) (z rc : Int) (n0 n1 n2 n3 : Nat) (kb : Below w.heap.size w w1) (kz : Blk w1 w.heap.size (msgC hdZ (.slice none 0 0) (.slice none 0 0) (.slice none 0 0) (.slice none 0 0)) 27) :
    GB w (((w1.alloc (.cells #[.int .i64 id, .bool qr, .int .i64 op, .bool aa, .bool tc, .bool rd, .bool ra, .int .i64 z, .int .i64 rc] 23)).alloc (.cells #[.int .i64 (n0 : Int), .int .i64 (n1 : Int), .int .i64 (n2 : Int), .int .i64 (n3 : Int)] 48)).alloc (.cells #[.int .i64 id, .bool qr, .int .i64 op, .bool aa, .bool tc, .bool rd, .bool ra, .int .i64 z, .int .i64 rc, .slice none 0 0, .slice none 0 0, .slice none 0 0, .slice none 0 0] 27)) (w1.heap.size + 1) (w1.heap.size + 1 + 1) #[.int .i64 (n0 : Int), .int .i64 (n1 : Int), .int .i64 (n2 : Int), .int .i64 (n3 : Int)] ⟨id, qr, op, aa, tc, rd, ra, z, rc⟩ (.slice none 0 0) (.slice none 0 0) (.slice none 0 0) (.slice none 0 0) ⟨⟨id, qr, op, aa, tc, rd, ra, z, rc⟩, [], [], [], []⟩ := by
  have k2 := (Blk.new (w1.alloc (.cells #[.int .i64 id, .bool qr, .int .i64 op, .bool aa, .bool tc, .bool rd, .bool ra, .int .i64 z, .int .i64 rc] 23)) #[.int .i64 (n0 : Int), .int .i64 (n1 : Int), .int .i64 (n2 : Int), .int .i64 (n3 : Int)] 48).alloc (.cells #[.int .i64 id, .bool qr, .int .i64 op, .bool aa, .bool tc, .bool rd, .bool ra, .int .i64 z, .int .i64 rc, .slice none 0 0, .slice none 0 0, .slice none 0 0, .slice none 0 0] 27)
  have k3 := Blk.new ((w1.alloc (.cells #[.int .i64 id, .bool qr, .int .i64 op, .bool aa, .bool tc, .bool rd, .bool ra, .int .i64 z, .int .i64 rc] 23)).alloc (.cells #[.int .i64 (n0 : Int), .int .i64 (n1 : Int), .int .i64 (n2 : Int), .int .i64 (n3 : Int)] 48)) #[.int .i64 id, .bool qr, .int .i64 op, .bool aa, .bool tc, .bool rd, .bool ra, .int .i64 z, .int .i64 rc, .slice none 0 0, .slice none 0 0, .slice none 0 0, .slice none 0 0] 27
  simp only [World.size_alloc] at k2 k3
  have hlt := kz.lt
  exact ⟨lay (lay (lay kb _) _) _, ((kz.alloc _).alloc _).alloc _, k2, k3, ⟨World.ownsRow_nil _ _ _ _, World.ownsRow_nil _ _ _ _, World.ownsRow_nil _ _ _ _, World.ownsRow_nil _ _ _ _, fun k e => by simp [Value.ownBlock] at e, fun k e => by simp [Value.ownBlock] at e, fun k e => by simp [Value.ownBlock] at e⟩, by omega, by omega, by simp⟩
/-- How far the reading is, ahead of part i. -/
def Out (s : ByteArray) (i : Nat) (X : (List Qn × List Rc × List Rc × List Rc) × Nat) : Prop :=
  (i = 0 ∧ sub0 s 0 = some X) ∨ (i = 1 ∧ sub1 s 0 = some X) ∨ (i = 2 ∧ sub2 s 0 = some X) ∨ (i = 3 ∧ sub3 s 0 = some X) ∨ (i = 4 ∧ parts s = some X)
theorem out_len {w u : World} {gc gm : Nat} {C : Array Value} {hd : Hd} {v0 v1 v2 v3 : Value} {m : Ms} (j : GB w u gc gm C hd v0 v1 v2 v3 m) : ∃ y0 y1 y2 y3 k0 k1 k2 k3, v0 = .slice y0 m.qs.length k0 ∧ v1 = .slice y1 m.an.length k1 ∧ v2 = .slice y2 m.ns.length k2 ∧ v3 = .slice y3 m.ar.length k3 := by
  obtain ⟨y0, k0, h0⟩ := row_shape j.own.q
  obtain ⟨y1, k1, h1⟩ := row_shape j.own.an
  obtain ⟨y2, k2, h2⟩ := row_shape j.own.ns
  obtain ⟨y3, k3, h3⟩ := row_shape j.own.ar
  exact ⟨_, _, _, _, _, _, _, _, h0, h1, h2, h3⟩

set_option maxRecDepth 20000 in
set_option maxHeartbeats 16000000 in
theorem rget_main (s : ByteArray) (w : World) (h12 : 12 ≤ s.size) (hs : s.size ≤ 4096) :
    Calls Try.prog 13 #[.string s] w (GetP s w) := by
  have hm : s.size ≤ maxLen := by unfold maxLen; omega
  have hl' : decide ((4096 : Int) < (s.size : Int)) = false := by simp; omega
  have kz := Blk.new w (msgC hdZ (.slice none 0 0) (.slice none 0 0) (.slice none 0 0) (.slice none 0 0)) 27
  have kb : Below w.heap.size w _ := lay (Below.refl _ _) (.cells (msgC hdZ (.slice none 0 0) (.slice none 0 0) (.slice none 0 0) (.slice none 0 0)) 27)
  have hcall := fun u => refGet_any s u hm
  unfold getT at hcall
  simp only [h12, if_true] at hcall
  simp only [cntC_as, headW_as] at hcall
  obtain ⟨n0, e0⟩ : ∃ n, n = cnt s 0 := ⟨_, rfl⟩
  obtain ⟨n1, e1⟩ : ∃ n, n = cnt s 1 := ⟨_, rfl⟩
  obtain ⟨n2, e2⟩ : ∃ n, n = cnt s 2 := ⟨_, rfl⟩
  obtain ⟨n3, e3⟩ : ∃ n, n = cnt s 3 := ⟨_, rfl⟩
  obtain ⟨hd, ehd⟩ : ∃ hd, hd = hdOf s := ⟨_, rfl⟩
  simp only [← e0, ← e1, ← e2, ← e3, ← ehd] at hcall
  have l0 : n0 < 65536 := by rw [e0]; exact cnt_lt s 0
  have l1 : n1 < 65536 := by rw [e1]; exact cnt_lt s 1
  have l2 : n2 < 65536 := by rw [e2]; exact cnt_lt s 2
  have l3 : n3 < 65536 := by rw [e3]; exact cnt_lt s 3
  have HNP0 : Hid (¬ n0 ≤ 64 ∨ sub0 s n0 = none → parts s = none) := by unfold Hid; rw [e0]; exact no_parts0
  have HNP1 : Hid (¬ n1 ≤ 64 ∨ sub1 s n1 = none → parts s = none) := by unfold Hid; rw [e1]; exact no_parts1
  have HNP2 : Hid (¬ n2 ≤ 64 ∨ sub2 s n2 = none → parts s = none) := by unfold Hid; rw [e2]; exact no_parts2
  have HNP3 : Hid (¬ n3 ≤ 64 ∨ sub3 s n3 = none → parts s = none) := by unfold Hid; rw [e3]; exact no_parts3
  have HOUT0 : Hid (∀ {k : Nat} {X}, k = n0 → sub0 s k = some X → n0 ≤ 64 → Out s 1 X) := fun {k X} a b c => .inr (.inl ⟨rfl, by rw [sub_whole0 (by omega), ← e0, ← a]; exact b⟩)
  have HOUT1 : Hid (∀ {k : Nat} {X}, k = n1 → sub1 s k = some X → n1 ≤ 64 → Out s 2 X) := fun {k X} a b c => .inr (.inr (.inl ⟨rfl, by rw [sub_whole1 (by omega), ← e1, ← a]; exact b⟩))
  have HOUT2 : Hid (∀ {k : Nat} {X}, k = n2 → sub2 s k = some X → n2 ≤ 64 → Out s 3 X) := fun {k X} a b c => .inr (.inr (.inr (.inl ⟨rfl, by rw [sub_whole2 (by omega), ← e2, ← a]; exact b⟩)))
  have HOUT3 : Hid (∀ {k : Nat} {X}, k = n3 → sub3 s k = some X → n3 ≤ 64 → Out s 4 X) := fun {k X} a b c => .inr (.inr (.inr (.inr ⟨rfl, by rw [sub_whole3 (by omega), ← e3, ← a]; exact b⟩)))
  have HL0 : Hid (∀ {qs : List Qn} {an ns ar : List Rc} {p : Nat}, sub0 s 0 = some ((qs, an, ns, ar), p) → qs.length = 0) := fun {qs an ns ar p} h => by rw [sub_start] at h; simp at h; rw [h.1.1]; rfl
  have HL1 : Hid (∀ {qs : List Qn} {an ns ar : List Rc} {p : Nat}, sub1 s 0 = some ((qs, an, ns, ar), p) → an.length = 0) := fun {qs an ns ar p} h => by unfold sub1 at h; cases h1 : part (getQ s) (cnt s 0) 12 <;> rw [h1] at h <;> simp [getAll] at h; rw [h.1.2.1]; rfl
  have HL2 : Hid (∀ {qs : List Qn} {an ns ar : List Rc} {p : Nat}, sub2 s 0 = some ((qs, an, ns, ar), p) → ns.length = 0) := sub2_len
  have HL3 : Hid (∀ {qs : List Qn} {an ns ar : List Rc} {p : Nat}, sub3 s 0 = some ((qs, an, ns, ar), p) → ar.length = 0) := sub3_len
  have HEHD : Hid (hd = hdOf s) := ehd
  clear e0 e1 e2 e3 ehd
  obtain ⟨id, qr, op, aa, tc, rd, ra, z, rc⟩ := hd
  unfold headV cntV at hcall
  simp only at hcall
  go_enter Try.func13, Try.ntmps13
  go_wp2_with (first
    | (go_at_call 28; go_must (refine (hcall _).mono ?_); rintro e w1 ⟨rfl, b1⟩; replace kz := kz.below b1; replace kb := next kb b1; clear b1))
  have j := gb_start id qr op aa tc rd ra z rc n0 n1 n2 n3 kb kz
  obtain ⟨gc, hgc⟩ : ∃ g, g = w1.heap.size + 1 := ⟨_, rfl⟩
  obtain ⟨gm, hgm⟩ : ∃ g, g = gc + 1 := ⟨_, rfl⟩
  rw [← hgc, ← hgm] at j
  simp only [← hgc, ← hgm]
  clear kz kb hcall hgc hgm
  have HJ0 : Hid _ := j
  clear j
  go_loopw [8, 9] (fun a iv wr => ∃ (i p k0 k1 k2 k3 : Nat) (y0 y1 y2 y3 : Option Addr) (qs : List Qn) (an ns ar : List Rc), i ≤ 4 ∧ a = .int .i64 (p : Int) ∧ iv = .int .i64 (i : Int) ∧ p ≤ 100000 ∧ Hid (GB w wr gc gm #[.int .i64 (n0 : Int), .int .i64 (n1 : Int), .int .i64 (n2 : Int), .int .i64 (n3 : Int)] ⟨id, qr, op, aa, tc, rd, ra, z, rc⟩ (.slice y0 qs.length k0) (.slice y1 an.length k1) (.slice y2 ns.length k2) (.slice y3 ar.length k3) ⟨⟨id, qr, op, aa, tc, rd, ra, z, rc⟩, qs, an, ns, ar⟩ ∧ Out s i ((qs, an, ns, ar), p))) (fun _ iv _ => 4 - (intOf iv).toNat)
  case atStart => exact ⟨0, 12, 0, 0, 0, 0, none, none, none, none, [], [], [], [], by decide, rfl, rfl, by decide, HJ0.out, .inl ⟨rfl, sub_start s⟩⟩
  case round =>
    clear HJ0
    obtain ⟨i, p, k0, k1, k2, k3, y0, y1, y2, y3, qs, an, ns, ar, hi4, rfl, rfl, hp, HI⟩ := hrel
    rcases HI.out.2 with ⟨hi, hO⟩ | ⟨hi, hO⟩ | ⟨hi, hO⟩ | ⟨hi, hO⟩ | ⟨hi, hO⟩
    · -- part 0
      subst hi
      simp only [show ((0 : Nat) : Int) = 0 from rfl]
      have HS : Hid (sub0 s 0 = some ((qs, an, ns, ar), p)) := hO
      have cc : wr.cell? ⟨gc, 0, none⟩ = some (.int .i64 (n0 : Int)) := HI.out.1.cnt.cell 0
      by_cases hc : n0 ≤ 64
      · have hc' : decide ((64 : Int) < (n0 : Int)) = false := by simp; omega
        go_wp2
        go_loopw [8, 10] (fun a jv wq => ∃ (k p' k0 k1 k2 k3 : Nat) (y0 y1 y2 y3 : Option Addr) (qs : List Qn) (an ns ar : List Rc), k ≤ n0 ∧ qs.length = k ∧ a = .int .i64 (p' : Int) ∧ jv = .int .i64 (k : Int) ∧ p' ≤ 100000 ∧ Hid (GB w wq gc gm #[.int .i64 (n0 : Int), .int .i64 (n1 : Int), .int .i64 (n2 : Int), .int .i64 (n3 : Int)] ⟨id, qr, op, aa, tc, rd, ra, z, rc⟩ (.slice y0 qs.length k0) (.slice y1 an.length k1) (.slice y2 ns.length k2) (.slice y3 ar.length k3) ⟨⟨id, qr, op, aa, tc, rd, ra, z, rc⟩, qs, an, ns, ar⟩ ∧ sub0 s k = some ((qs, an, ns, ar), p'))) (fun _ jv _ => n0 - (intOf jv).toNat)
        case atStart => exact ⟨0, p, k0, k1, k2, k3, y0, y1, y2, y3, qs, an, ns, ar, Nat.zero_le _, HL0.out HS.out, rfl, rfl, hp, HI.out.1, HS.out⟩
        case round =>
          clear HS HI hp cc
          obtain ⟨k, p', k0, k1, k2, k3, y0, y1, y2, y3, qs, an, ns, ar, hk, hlen, rfl, rfl, hp', HJ⟩ := hrel
          have cc : wr.cell? ⟨gc, 0, none⟩ = some (.int .i64 (n0 : Int)) := HJ.out.1.cnt.cell 0
          by_cases hkc : k < n0
          · have hkc' : (k : Int) < (n0 : Int) := by omega
            have hn1 : qs.length ≤ 1000 := by omega
            have HLEN : Hid (qs.length = k) := hlen
            clear hlen
            go_wp2_with (first
              | (go_at_call 29; go_must (refine (rque_any s p' _ hs).mono ?_); rintro e w2 ⟨q, p2, ok, rfl, bb, hp2, hq⟩; obtain ⟨qn, qt, qc⟩ := q; have HQ : Hid (Alt ok (getQ s p' = some (⟨qn, qt, qc⟩, p2)) (getQ s p' = none)) := hq; have JE : Hid (GB w w2 gc gm #[.int .i64 (n0 : Int), .int .i64 (n1 : Int), .int .i64 (n2 : Int), .int .i64 (n3 : Int)] ⟨id, qr, op, aa, tc, rd, ra, z, rc⟩ (.slice y0 qs.length k0) (.slice y1 an.length k1) (.slice y2 ns.length k2) (.slice y3 ar.length k3) ⟨⟨id, qr, op, aa, tc, rd, ra, z, rc⟩, qs, an, ns, ar⟩) := HJ.out.1.below bb; obtain ⟨f0, f1, f2, f3, f4, f5, f6, f7, f8, f9, f10, f11, f12⟩ := open13 JE.out.res; obtain ⟨z0, z1, z2, z3, z4, z5, z6, z7, z8, z9, z10, z11, z12⟩ := blk13 JE.out.res; unfold hdZ at z0 z1 z2 z3 z4 z5 z6 z7 z8; simp only at z0 z1 z2 z3 z4 z5 z6 z7 z8; have lt2 := JE.out.n4; have lt1 := JE.out.n1; have lt0 := JE.out.n2; have lt3 : w.heap.size < w2.heap.size := (by omega); have cm : w2.cell? ⟨gm, 9, none⟩ = some (.slice y0 qs.length k0) := JE.out.msg.cell 9; have HNO : Hid (ok = false → gM s = msZ ∧ gE s = 700) := (fun e => g_none hs (by unfold getM; rw [if_pos h12, HNP0.out (.inr (sub0_lost ((sub_q HJ.out.2).2 (alt_no HQ.out e)) (by omega)))])); clear bb hq; cases ok)
              | (at_builtin; have J2 := JE.out.below (lay (Below.refl _ _) (.cells #[.string qn, .int .i64 qt, .int .i64 qc] 40)); refine wpList_appQ (w2.alloc (.cells #[.string qn, .int .i64 qt, .int .i64 qc] 40)) rfl (.tmp 61) (.tmp 63) rfl (gm + 1) (.slice y0 qs.length k0) qs.length qs ⟨qn, qt, qc⟩ rfl J2.own.q (by rw [World.size_alloc]; rfl) hn1 (by have := J2.n4; omega) ?_; intro v5 w5 own5 grow5 at5; obtain ⟨y5, k5, rfl⟩ := row_shape own5; have kM := (J2.msg.alloc _).grown grow5 (fun e => (by have := (J2.own.q.lt gm e.symm).1; omega)); have GN : Hid (GB w (w5.setCell ⟨gm, 9, none⟩ (.slice y5 (qs.length + 1) k5)) gc gm #[.int .i64 (n0 : Int), .int .i64 (n1 : Int), .int .i64 (n2 : Int), .int .i64 (n3 : Int)] ⟨id, qr, op, aa, tc, rd, ra, z, rc⟩ (.slice y5 (qs.length + 1) k5) (.slice y1 an.length k1) (.slice y2 ns.length k2) (.slice y3 ar.length k3) ⟨⟨id, qr, op, aa, tc, rd, ra, z, rc⟩, qs ++ [⟨qn, qt, qc⟩], an, ns, ar⟩) := J2.grown 9 (fun k e => (J2.own.q.lt k e).1) grow5 rfl (J2.own.addQ own5 (by simp) grow5); have c5 : w5.cell? ⟨gm, 9, none⟩ = some (.slice y0 qs.length k0) := kM.cell 9; have f5 := kM.frozen 9; clear own5 grow5 at5 kM J2))
            · replace HNO : Hid (gM s = msZ ∧ gE s = 700) := HNO.out (by trivial)
              obtain ⟨qb, q⟩ := zeroed JE.out.bel JE.out.res
              have hno := HNO.out
              clear f0 f1 f2 f3 f4 f5 f6 f7 f8 f9 f10 f11 f12 z0 z1 z2 z3 z4 z5 z6 z7 z8 z9 z10 z11 z12
              unfold set13 hdZ at qb q
              simp only at qb q
              revert qb q
              generalize (((((((((((((w2.setCell ⟨w.heap.size, 0, none⟩ (.int .i64 0)).setCell ⟨w.heap.size, 1, none⟩ (.bool false)).setCell ⟨w.heap.size, 2, none⟩ (.int .i64 0)).setCell ⟨w.heap.size, 3, none⟩ (.bool false)).setCell ⟨w.heap.size, 4, none⟩ (.bool false)).setCell ⟨w.heap.size, 5, none⟩ (.bool false)).setCell ⟨w.heap.size, 6, none⟩ (.bool false)).setCell ⟨w.heap.size, 7, none⟩ (.int .i64 0)).setCell ⟨w.heap.size, 8, none⟩ (.int .i64 0)).setCell ⟨w.heap.size, 9, none⟩ (.slice none 0 0)).setCell ⟨w.heap.size, 10, none⟩ (.slice none 0 0)).setCell ⟨w.heap.size, 11, none⟩ (.slice none 0 0)).setCell ⟨w.heap.size, 12, none⟩ (.slice none 0 0)) = V
              intro qb q
              replace q := q.alloc (.cells #[.string qn, .int .i64 qt, .int .i64 qc] 40)
              replace qb := lay qb (.cells #[.string qn, .int .i64 qt, .int .i64 qc] 40)
              obtain ⟨m0, m1, m2, m3, m4, m5, m6, m7, m8, m9, m10, m11, m12⟩ := blk13 q
              refine bodyPost_ret (v := .tuple #[.agg (msgC hdZ (.slice none 0 0) (.slice none 0 0) (.slice none 0 0) (.slice none 0 0)), .int .i64 700]) (by simp [results, Try.results13, go_sem, msgC, hdZ, m0, m1, m2, m3, m4, m5, m6, m7, m8, m9, m10, m11, m12]) rfl (getP_no hno qb)
            · go_roundw
              case rel =>
                refine ⟨k + 1, p2, k5, k1, k2, k3, y5, y1, y2, y3, qs ++ [⟨qn, qt, qc⟩], an, ns, ar, by omega, by rw [List.length_append, HLEN.out]; rfl, rfl, by go_num, by omega, ?_, ?_⟩
                · have e : (qs ++ ([⟨qn, qt, qc⟩] : List Qn)).length = qs.length + 1 := by simp
                  rw [e]
                  exact GN.out
                · exact (sub_q HJ.out.2).1 _ _ (alt_yes HQ.out rfl)
              case measure => simp [intOf]; omega
          · have hkc' : decide (k < n0) = false := by simpa using hkc
            have HK : Hid (k = n0) := by unfold Hid; omega
            go_wp2
            go_roundw
            case rel => exact ⟨1, p', k0, k1, k2, k3, y0, y1, y2, y3, qs, an, ns, ar, by decide, rfl, by go_num, hp', HJ.out.1, HOUT0.out HK.out HJ.out.2 hc⟩
            case measure => simp [intOf]
      · have hc' : (64 : Int) < (n0 : Int) := by omega
        have JE : Hid (GB w wr gc gm #[.int .i64 (n0 : Int), .int .i64 (n1 : Int), .int .i64 (n2 : Int), .int .i64 (n3 : Int)] ⟨id, qr, op, aa, tc, rd, ra, z, rc⟩ (.slice y0 qs.length k0) (.slice y1 an.length k1) (.slice y2 ns.length k2) (.slice y3 ar.length k3) ⟨⟨id, qr, op, aa, tc, rd, ra, z, rc⟩, qs, an, ns, ar⟩) := HI.out.1
        have HNO : Hid (gM s = msZ ∧ gE s = 700) := g_none hs (by unfold getM; rw [if_pos h12, HNP0.out (.inl hc)])
        obtain ⟨f0, f1, f2, f3, f4, f5, f6, f7, f8, f9, f10, f11, f12⟩ := open13 JE.out.res
        obtain ⟨z0, z1, z2, z3, z4, z5, z6, z7, z8, z9, z10, z11, z12⟩ := blk13 JE.out.res
        unfold hdZ at z0 z1 z2 z3 z4 z5 z6 z7 z8
        simp only at z0 z1 z2 z3 z4 z5 z6 z7 z8
        have lt1 := JE.out.n1
        have lt0 := JE.out.n2
        go_wp2
        obtain ⟨qb, q⟩ := zeroed JE.out.bel JE.out.res
        have hno := HNO.out
        clear f0 f1 f2 f3 f4 f5 f6 f7 f8 f9 f10 f11 f12 z0 z1 z2 z3 z4 z5 z6 z7 z8 z9 z10 z11 z12
        unfold set13 hdZ at qb q
        simp only at qb q
        revert qb q
        generalize (((((((((((((wr.setCell ⟨w.heap.size, 0, none⟩ (.int .i64 0)).setCell ⟨w.heap.size, 1, none⟩ (.bool false)).setCell ⟨w.heap.size, 2, none⟩ (.int .i64 0)).setCell ⟨w.heap.size, 3, none⟩ (.bool false)).setCell ⟨w.heap.size, 4, none⟩ (.bool false)).setCell ⟨w.heap.size, 5, none⟩ (.bool false)).setCell ⟨w.heap.size, 6, none⟩ (.bool false)).setCell ⟨w.heap.size, 7, none⟩ (.int .i64 0)).setCell ⟨w.heap.size, 8, none⟩ (.int .i64 0)).setCell ⟨w.heap.size, 9, none⟩ (.slice none 0 0)).setCell ⟨w.heap.size, 10, none⟩ (.slice none 0 0)).setCell ⟨w.heap.size, 11, none⟩ (.slice none 0 0)).setCell ⟨w.heap.size, 12, none⟩ (.slice none 0 0)) = V
        intro qb q
        obtain ⟨m0, m1, m2, m3, m4, m5, m6, m7, m8, m9, m10, m11, m12⟩ := blk13 q
        refine bodyPost_ret (v := .tuple #[.agg (msgC hdZ (.slice none 0 0) (.slice none 0 0) (.slice none 0 0) (.slice none 0 0)), .int .i64 700]) (by simp [results, Try.results13, go_sem, msgC, hdZ, m0, m1, m2, m3, m4, m5, m6, m7, m8, m9, m10, m11, m12]) rfl (getP_no hno qb)
    · -- part 1
      subst hi
      simp only [show ((1 : Nat) : Int) = 1 from rfl]
      have HS : Hid (sub1 s 0 = some ((qs, an, ns, ar), p)) := hO
      have cc : wr.cell? ⟨gc, 1, none⟩ = some (.int .i64 (n1 : Int)) := HI.out.1.cnt.cell 1
      by_cases hc : n1 ≤ 64
      · have hc' : decide ((64 : Int) < (n1 : Int)) = false := by simp; omega
        go_wp2
        go_loopw [8, 10] (fun a jv wq => ∃ (k p' k0 k1 k2 k3 : Nat) (y0 y1 y2 y3 : Option Addr) (qs : List Qn) (an ns ar : List Rc), k ≤ n1 ∧ an.length = k ∧ a = .int .i64 (p' : Int) ∧ jv = .int .i64 (k : Int) ∧ p' ≤ 100000 ∧ Hid (GB w wq gc gm #[.int .i64 (n0 : Int), .int .i64 (n1 : Int), .int .i64 (n2 : Int), .int .i64 (n3 : Int)] ⟨id, qr, op, aa, tc, rd, ra, z, rc⟩ (.slice y0 qs.length k0) (.slice y1 an.length k1) (.slice y2 ns.length k2) (.slice y3 ar.length k3) ⟨⟨id, qr, op, aa, tc, rd, ra, z, rc⟩, qs, an, ns, ar⟩ ∧ sub1 s k = some ((qs, an, ns, ar), p'))) (fun _ jv _ => n1 - (intOf jv).toNat)
        case atStart => exact ⟨0, p, k0, k1, k2, k3, y0, y1, y2, y3, qs, an, ns, ar, Nat.zero_le _, HL1.out HS.out, rfl, rfl, hp, HI.out.1, HS.out⟩
        case round =>
          clear HS HI hp cc
          obtain ⟨k, p', k0, k1, k2, k3, y0, y1, y2, y3, qs, an, ns, ar, hk, hlen, rfl, rfl, hp', HJ⟩ := hrel
          have cc : wr.cell? ⟨gc, 1, none⟩ = some (.int .i64 (n1 : Int)) := HJ.out.1.cnt.cell 1
          by_cases hkc : k < n1
          · have hkc' : (k : Int) < (n1 : Int) := by omega
            have hn1 : an.length ≤ 1000 := by omega
            have HLEN : Hid (an.length = k) := hlen
            clear hlen
            go_wp2_with (first
              | (go_at_call 30; go_must (refine (rrec_any s p' _ hs).mono ?_); rintro e w2 ⟨q, p2, ok, rfl, bb, hp2, hq⟩; obtain ⟨qn, qt, qc, ql, qd⟩ := q; have HQ : Hid (Alt ok (getR s p' = some (⟨qn, qt, qc, ql, qd⟩, p2)) (getR s p' = none)) := hq; have JE : Hid (GB w w2 gc gm #[.int .i64 (n0 : Int), .int .i64 (n1 : Int), .int .i64 (n2 : Int), .int .i64 (n3 : Int)] ⟨id, qr, op, aa, tc, rd, ra, z, rc⟩ (.slice y0 qs.length k0) (.slice y1 an.length k1) (.slice y2 ns.length k2) (.slice y3 ar.length k3) ⟨⟨id, qr, op, aa, tc, rd, ra, z, rc⟩, qs, an, ns, ar⟩) := HJ.out.1.below bb; obtain ⟨f0, f1, f2, f3, f4, f5, f6, f7, f8, f9, f10, f11, f12⟩ := open13 JE.out.res; obtain ⟨z0, z1, z2, z3, z4, z5, z6, z7, z8, z9, z10, z11, z12⟩ := blk13 JE.out.res; unfold hdZ at z0 z1 z2 z3 z4 z5 z6 z7 z8; simp only at z0 z1 z2 z3 z4 z5 z6 z7 z8; have lt2 := JE.out.n4; have lt1 := JE.out.n1; have lt0 := JE.out.n2; have lt3 : w.heap.size < w2.heap.size := (by omega); have cm : w2.cell? ⟨gm, 10, none⟩ = some (.slice y1 an.length k1) := JE.out.msg.cell 10; have HNO : Hid (ok = false → gM s = msZ ∧ gE s = 700) := (fun e => g_none hs (by unfold getM; rw [if_pos h12, HNP1.out (.inr (sub1_lost ((sub_a HJ.out.2).2 (alt_no HQ.out e)) (by omega)))])); clear bb hq; cases ok)
              | (at_builtin; have J2 := JE.out.below (lay (Below.refl _ _) (.cells #[.string qn, .int .i64 qt, .int .i64 qc, .int .i64 ql, .string qd] 54)); refine wpList_appR (w2.alloc (.cells #[.string qn, .int .i64 qt, .int .i64 qc, .int .i64 ql, .string qd] 54)) rfl (.tmp 88) (.tmp 90) rfl (gm + 1) (.slice y1 an.length k1) an.length an ⟨qn, qt, qc, ql, qd⟩ rfl J2.own.an (by rw [World.size_alloc]; rfl) hn1 (by have := J2.n4; omega) ?_; intro v5 w5 own5 grow5 at5; obtain ⟨y5, k5, rfl⟩ := row_shape own5; have kM := (J2.msg.alloc _).grown grow5 (fun e => (by have := (J2.own.an.lt gm e.symm).1; omega)); have GN : Hid (GB w (w5.setCell ⟨gm, 10, none⟩ (.slice y5 (an.length + 1) k5)) gc gm #[.int .i64 (n0 : Int), .int .i64 (n1 : Int), .int .i64 (n2 : Int), .int .i64 (n3 : Int)] ⟨id, qr, op, aa, tc, rd, ra, z, rc⟩ (.slice y0 qs.length k0) (.slice y5 (an.length + 1) k5) (.slice y2 ns.length k2) (.slice y3 ar.length k3) ⟨⟨id, qr, op, aa, tc, rd, ra, z, rc⟩, qs, an ++ [⟨qn, qt, qc, ql, qd⟩], ns, ar⟩) := J2.grown 10 (fun k e => (J2.own.an.lt k e).1) grow5 rfl (J2.own.addA own5 (by simp) grow5 at5); have c5 : w5.cell? ⟨gm, 10, none⟩ = some (.slice y1 an.length k1) := kM.cell 10; have f5 := kM.frozen 10; clear own5 grow5 at5 kM J2))
            · replace HNO : Hid (gM s = msZ ∧ gE s = 700) := HNO.out (by trivial)
              obtain ⟨qb, q⟩ := zeroed JE.out.bel JE.out.res
              have hno := HNO.out
              clear f0 f1 f2 f3 f4 f5 f6 f7 f8 f9 f10 f11 f12 z0 z1 z2 z3 z4 z5 z6 z7 z8 z9 z10 z11 z12
              unfold set13 hdZ at qb q
              simp only at qb q
              revert qb q
              generalize (((((((((((((w2.setCell ⟨w.heap.size, 0, none⟩ (.int .i64 0)).setCell ⟨w.heap.size, 1, none⟩ (.bool false)).setCell ⟨w.heap.size, 2, none⟩ (.int .i64 0)).setCell ⟨w.heap.size, 3, none⟩ (.bool false)).setCell ⟨w.heap.size, 4, none⟩ (.bool false)).setCell ⟨w.heap.size, 5, none⟩ (.bool false)).setCell ⟨w.heap.size, 6, none⟩ (.bool false)).setCell ⟨w.heap.size, 7, none⟩ (.int .i64 0)).setCell ⟨w.heap.size, 8, none⟩ (.int .i64 0)).setCell ⟨w.heap.size, 9, none⟩ (.slice none 0 0)).setCell ⟨w.heap.size, 10, none⟩ (.slice none 0 0)).setCell ⟨w.heap.size, 11, none⟩ (.slice none 0 0)).setCell ⟨w.heap.size, 12, none⟩ (.slice none 0 0)) = V
              intro qb q
              replace q := q.alloc (.cells #[.string qn, .int .i64 qt, .int .i64 qc, .int .i64 ql, .string qd] 54)
              replace qb := lay qb (.cells #[.string qn, .int .i64 qt, .int .i64 qc, .int .i64 ql, .string qd] 54)
              obtain ⟨m0, m1, m2, m3, m4, m5, m6, m7, m8, m9, m10, m11, m12⟩ := blk13 q
              refine bodyPost_ret (v := .tuple #[.agg (msgC hdZ (.slice none 0 0) (.slice none 0 0) (.slice none 0 0) (.slice none 0 0)), .int .i64 700]) (by simp [results, Try.results13, go_sem, msgC, hdZ, m0, m1, m2, m3, m4, m5, m6, m7, m8, m9, m10, m11, m12]) rfl (getP_no hno qb)
            · go_roundw
              case rel =>
                refine ⟨k + 1, p2, k0, k5, k2, k3, y0, y5, y2, y3, qs, an ++ [⟨qn, qt, qc, ql, qd⟩], ns, ar, by omega, by rw [List.length_append, HLEN.out]; rfl, rfl, by go_num, by omega, ?_, ?_⟩
                · have e : (an ++ ([⟨qn, qt, qc, ql, qd⟩] : List Rc)).length = an.length + 1 := by simp
                  rw [e]
                  exact GN.out
                · exact (sub_a HJ.out.2).1 _ _ (alt_yes HQ.out rfl)
              case measure => simp [intOf]; omega
          · have hkc' : decide (k < n1) = false := by simpa using hkc
            have HK : Hid (k = n1) := by unfold Hid; omega
            go_wp2
            go_roundw
            case rel => exact ⟨2, p', k0, k1, k2, k3, y0, y1, y2, y3, qs, an, ns, ar, by decide, rfl, by go_num, hp', HJ.out.1, HOUT1.out HK.out HJ.out.2 hc⟩
            case measure => simp [intOf]
      · have hc' : (64 : Int) < (n1 : Int) := by omega
        have JE : Hid (GB w wr gc gm #[.int .i64 (n0 : Int), .int .i64 (n1 : Int), .int .i64 (n2 : Int), .int .i64 (n3 : Int)] ⟨id, qr, op, aa, tc, rd, ra, z, rc⟩ (.slice y0 qs.length k0) (.slice y1 an.length k1) (.slice y2 ns.length k2) (.slice y3 ar.length k3) ⟨⟨id, qr, op, aa, tc, rd, ra, z, rc⟩, qs, an, ns, ar⟩) := HI.out.1
        have HNO : Hid (gM s = msZ ∧ gE s = 700) := g_none hs (by unfold getM; rw [if_pos h12, HNP1.out (.inl hc)])
        obtain ⟨f0, f1, f2, f3, f4, f5, f6, f7, f8, f9, f10, f11, f12⟩ := open13 JE.out.res
        obtain ⟨z0, z1, z2, z3, z4, z5, z6, z7, z8, z9, z10, z11, z12⟩ := blk13 JE.out.res
        unfold hdZ at z0 z1 z2 z3 z4 z5 z6 z7 z8
        simp only at z0 z1 z2 z3 z4 z5 z6 z7 z8
        have lt1 := JE.out.n1
        have lt0 := JE.out.n2
        go_wp2
        obtain ⟨qb, q⟩ := zeroed JE.out.bel JE.out.res
        have hno := HNO.out
        clear f0 f1 f2 f3 f4 f5 f6 f7 f8 f9 f10 f11 f12 z0 z1 z2 z3 z4 z5 z6 z7 z8 z9 z10 z11 z12
        unfold set13 hdZ at qb q
        simp only at qb q
        revert qb q
        generalize (((((((((((((wr.setCell ⟨w.heap.size, 0, none⟩ (.int .i64 0)).setCell ⟨w.heap.size, 1, none⟩ (.bool false)).setCell ⟨w.heap.size, 2, none⟩ (.int .i64 0)).setCell ⟨w.heap.size, 3, none⟩ (.bool false)).setCell ⟨w.heap.size, 4, none⟩ (.bool false)).setCell ⟨w.heap.size, 5, none⟩ (.bool false)).setCell ⟨w.heap.size, 6, none⟩ (.bool false)).setCell ⟨w.heap.size, 7, none⟩ (.int .i64 0)).setCell ⟨w.heap.size, 8, none⟩ (.int .i64 0)).setCell ⟨w.heap.size, 9, none⟩ (.slice none 0 0)).setCell ⟨w.heap.size, 10, none⟩ (.slice none 0 0)).setCell ⟨w.heap.size, 11, none⟩ (.slice none 0 0)).setCell ⟨w.heap.size, 12, none⟩ (.slice none 0 0)) = V
        intro qb q
        obtain ⟨m0, m1, m2, m3, m4, m5, m6, m7, m8, m9, m10, m11, m12⟩ := blk13 q
        refine bodyPost_ret (v := .tuple #[.agg (msgC hdZ (.slice none 0 0) (.slice none 0 0) (.slice none 0 0) (.slice none 0 0)), .int .i64 700]) (by simp [results, Try.results13, go_sem, msgC, hdZ, m0, m1, m2, m3, m4, m5, m6, m7, m8, m9, m10, m11, m12]) rfl (getP_no hno qb)
    · -- part 2
      subst hi
      simp only [show ((2 : Nat) : Int) = 2 from rfl]
      have HS : Hid (sub2 s 0 = some ((qs, an, ns, ar), p)) := hO
      have cc : wr.cell? ⟨gc, 2, none⟩ = some (.int .i64 (n2 : Int)) := HI.out.1.cnt.cell 2
      by_cases hc : n2 ≤ 64
      · have hc' : decide ((64 : Int) < (n2 : Int)) = false := by simp; omega
        go_wp2
        go_loopw [8, 10] (fun a jv wq => ∃ (k p' k0 k1 k2 k3 : Nat) (y0 y1 y2 y3 : Option Addr) (qs : List Qn) (an ns ar : List Rc), k ≤ n2 ∧ ns.length = k ∧ a = .int .i64 (p' : Int) ∧ jv = .int .i64 (k : Int) ∧ p' ≤ 100000 ∧ Hid (GB w wq gc gm #[.int .i64 (n0 : Int), .int .i64 (n1 : Int), .int .i64 (n2 : Int), .int .i64 (n3 : Int)] ⟨id, qr, op, aa, tc, rd, ra, z, rc⟩ (.slice y0 qs.length k0) (.slice y1 an.length k1) (.slice y2 ns.length k2) (.slice y3 ar.length k3) ⟨⟨id, qr, op, aa, tc, rd, ra, z, rc⟩, qs, an, ns, ar⟩ ∧ sub2 s k = some ((qs, an, ns, ar), p'))) (fun _ jv _ => n2 - (intOf jv).toNat)
        case atStart => exact ⟨0, p, k0, k1, k2, k3, y0, y1, y2, y3, qs, an, ns, ar, Nat.zero_le _, HL2.out HS.out, rfl, rfl, hp, HI.out.1, HS.out⟩
        case round =>
          clear HS HI hp cc
          obtain ⟨k, p', k0, k1, k2, k3, y0, y1, y2, y3, qs, an, ns, ar, hk, hlen, rfl, rfl, hp', HJ⟩ := hrel
          have cc : wr.cell? ⟨gc, 2, none⟩ = some (.int .i64 (n2 : Int)) := HJ.out.1.cnt.cell 2
          by_cases hkc : k < n2
          · have hkc' : (k : Int) < (n2 : Int) := by omega
            have hn1 : ns.length ≤ 1000 := by omega
            have HLEN : Hid (ns.length = k) := hlen
            clear hlen
            go_wp2_with (first
              | (go_at_call 30; go_must (refine (rrec_any s p' _ hs).mono ?_); rintro e w2 ⟨q, p2, ok, rfl, bb, hp2, hq⟩; obtain ⟨qn, qt, qc, ql, qd⟩ := q; have HQ : Hid (Alt ok (getR s p' = some (⟨qn, qt, qc, ql, qd⟩, p2)) (getR s p' = none)) := hq; have JE : Hid (GB w w2 gc gm #[.int .i64 (n0 : Int), .int .i64 (n1 : Int), .int .i64 (n2 : Int), .int .i64 (n3 : Int)] ⟨id, qr, op, aa, tc, rd, ra, z, rc⟩ (.slice y0 qs.length k0) (.slice y1 an.length k1) (.slice y2 ns.length k2) (.slice y3 ar.length k3) ⟨⟨id, qr, op, aa, tc, rd, ra, z, rc⟩, qs, an, ns, ar⟩) := HJ.out.1.below bb; obtain ⟨f0, f1, f2, f3, f4, f5, f6, f7, f8, f9, f10, f11, f12⟩ := open13 JE.out.res; obtain ⟨z0, z1, z2, z3, z4, z5, z6, z7, z8, z9, z10, z11, z12⟩ := blk13 JE.out.res; unfold hdZ at z0 z1 z2 z3 z4 z5 z6 z7 z8; simp only at z0 z1 z2 z3 z4 z5 z6 z7 z8; have lt2 := JE.out.n4; have lt1 := JE.out.n1; have lt0 := JE.out.n2; have lt3 : w.heap.size < w2.heap.size := (by omega); have cm : w2.cell? ⟨gm, 11, none⟩ = some (.slice y2 ns.length k2) := JE.out.msg.cell 11; have HNO : Hid (ok = false → gM s = msZ ∧ gE s = 700) := (fun e => g_none hs (by unfold getM; rw [if_pos h12, HNP2.out (.inr (sub2_lost ((sub_n HJ.out.2).2 (alt_no HQ.out e)) (by omega)))])); clear bb hq; cases ok)
              | (at_builtin; have J2 := JE.out.below (lay (Below.refl _ _) (.cells #[.string qn, .int .i64 qt, .int .i64 qc, .int .i64 ql, .string qd] 54)); refine wpList_appR (w2.alloc (.cells #[.string qn, .int .i64 qt, .int .i64 qc, .int .i64 ql, .string qd] 54)) rfl (.tmp 96) (.tmp 98) rfl (gm + 1) (.slice y2 ns.length k2) ns.length ns ⟨qn, qt, qc, ql, qd⟩ rfl J2.own.ns (by rw [World.size_alloc]; rfl) hn1 (by have := J2.n4; omega) ?_; intro v5 w5 own5 grow5 at5; obtain ⟨y5, k5, rfl⟩ := row_shape own5; have kM := (J2.msg.alloc _).grown grow5 (fun e => (by have := (J2.own.ns.lt gm e.symm).1; omega)); have GN : Hid (GB w (w5.setCell ⟨gm, 11, none⟩ (.slice y5 (ns.length + 1) k5)) gc gm #[.int .i64 (n0 : Int), .int .i64 (n1 : Int), .int .i64 (n2 : Int), .int .i64 (n3 : Int)] ⟨id, qr, op, aa, tc, rd, ra, z, rc⟩ (.slice y0 qs.length k0) (.slice y1 an.length k1) (.slice y5 (ns.length + 1) k5) (.slice y3 ar.length k3) ⟨⟨id, qr, op, aa, tc, rd, ra, z, rc⟩, qs, an, ns ++ [⟨qn, qt, qc, ql, qd⟩], ar⟩) := J2.grown 11 (fun k e => (J2.own.ns.lt k e).1) grow5 rfl (J2.own.addN own5 (by simp) grow5 at5); have c5 : w5.cell? ⟨gm, 11, none⟩ = some (.slice y2 ns.length k2) := kM.cell 11; have f5 := kM.frozen 11; clear own5 grow5 at5 kM J2))
            · replace HNO : Hid (gM s = msZ ∧ gE s = 700) := HNO.out (by trivial)
              obtain ⟨qb, q⟩ := zeroed JE.out.bel JE.out.res
              have hno := HNO.out
              clear f0 f1 f2 f3 f4 f5 f6 f7 f8 f9 f10 f11 f12 z0 z1 z2 z3 z4 z5 z6 z7 z8 z9 z10 z11 z12
              unfold set13 hdZ at qb q
              simp only at qb q
              revert qb q
              generalize (((((((((((((w2.setCell ⟨w.heap.size, 0, none⟩ (.int .i64 0)).setCell ⟨w.heap.size, 1, none⟩ (.bool false)).setCell ⟨w.heap.size, 2, none⟩ (.int .i64 0)).setCell ⟨w.heap.size, 3, none⟩ (.bool false)).setCell ⟨w.heap.size, 4, none⟩ (.bool false)).setCell ⟨w.heap.size, 5, none⟩ (.bool false)).setCell ⟨w.heap.size, 6, none⟩ (.bool false)).setCell ⟨w.heap.size, 7, none⟩ (.int .i64 0)).setCell ⟨w.heap.size, 8, none⟩ (.int .i64 0)).setCell ⟨w.heap.size, 9, none⟩ (.slice none 0 0)).setCell ⟨w.heap.size, 10, none⟩ (.slice none 0 0)).setCell ⟨w.heap.size, 11, none⟩ (.slice none 0 0)).setCell ⟨w.heap.size, 12, none⟩ (.slice none 0 0)) = V
              intro qb q
              replace q := q.alloc (.cells #[.string qn, .int .i64 qt, .int .i64 qc, .int .i64 ql, .string qd] 54)
              replace qb := lay qb (.cells #[.string qn, .int .i64 qt, .int .i64 qc, .int .i64 ql, .string qd] 54)
              obtain ⟨m0, m1, m2, m3, m4, m5, m6, m7, m8, m9, m10, m11, m12⟩ := blk13 q
              refine bodyPost_ret (v := .tuple #[.agg (msgC hdZ (.slice none 0 0) (.slice none 0 0) (.slice none 0 0) (.slice none 0 0)), .int .i64 700]) (by simp [results, Try.results13, go_sem, msgC, hdZ, m0, m1, m2, m3, m4, m5, m6, m7, m8, m9, m10, m11, m12]) rfl (getP_no hno qb)
            · go_roundw
              case rel =>
                refine ⟨k + 1, p2, k0, k1, k5, k3, y0, y1, y5, y3, qs, an, ns ++ [⟨qn, qt, qc, ql, qd⟩], ar, by omega, by rw [List.length_append, HLEN.out]; rfl, rfl, by go_num, by omega, ?_, ?_⟩
                · have e : (ns ++ ([⟨qn, qt, qc, ql, qd⟩] : List Rc)).length = ns.length + 1 := by simp
                  rw [e]
                  exact GN.out
                · exact (sub_n HJ.out.2).1 _ _ (alt_yes HQ.out rfl)
              case measure => simp [intOf]; omega
          · have hkc' : decide (k < n2) = false := by simpa using hkc
            have HK : Hid (k = n2) := by unfold Hid; omega
            go_wp2
            go_roundw
            case rel => exact ⟨3, p', k0, k1, k2, k3, y0, y1, y2, y3, qs, an, ns, ar, by decide, rfl, by go_num, hp', HJ.out.1, HOUT2.out HK.out HJ.out.2 hc⟩
            case measure => simp [intOf]
      · have hc' : (64 : Int) < (n2 : Int) := by omega
        have JE : Hid (GB w wr gc gm #[.int .i64 (n0 : Int), .int .i64 (n1 : Int), .int .i64 (n2 : Int), .int .i64 (n3 : Int)] ⟨id, qr, op, aa, tc, rd, ra, z, rc⟩ (.slice y0 qs.length k0) (.slice y1 an.length k1) (.slice y2 ns.length k2) (.slice y3 ar.length k3) ⟨⟨id, qr, op, aa, tc, rd, ra, z, rc⟩, qs, an, ns, ar⟩) := HI.out.1
        have HNO : Hid (gM s = msZ ∧ gE s = 700) := g_none hs (by unfold getM; rw [if_pos h12, HNP2.out (.inl hc)])
        obtain ⟨f0, f1, f2, f3, f4, f5, f6, f7, f8, f9, f10, f11, f12⟩ := open13 JE.out.res
        obtain ⟨z0, z1, z2, z3, z4, z5, z6, z7, z8, z9, z10, z11, z12⟩ := blk13 JE.out.res
        unfold hdZ at z0 z1 z2 z3 z4 z5 z6 z7 z8
        simp only at z0 z1 z2 z3 z4 z5 z6 z7 z8
        have lt1 := JE.out.n1
        have lt0 := JE.out.n2
        go_wp2
        obtain ⟨qb, q⟩ := zeroed JE.out.bel JE.out.res
        have hno := HNO.out
        clear f0 f1 f2 f3 f4 f5 f6 f7 f8 f9 f10 f11 f12 z0 z1 z2 z3 z4 z5 z6 z7 z8 z9 z10 z11 z12
        unfold set13 hdZ at qb q
        simp only at qb q
        revert qb q
        generalize (((((((((((((wr.setCell ⟨w.heap.size, 0, none⟩ (.int .i64 0)).setCell ⟨w.heap.size, 1, none⟩ (.bool false)).setCell ⟨w.heap.size, 2, none⟩ (.int .i64 0)).setCell ⟨w.heap.size, 3, none⟩ (.bool false)).setCell ⟨w.heap.size, 4, none⟩ (.bool false)).setCell ⟨w.heap.size, 5, none⟩ (.bool false)).setCell ⟨w.heap.size, 6, none⟩ (.bool false)).setCell ⟨w.heap.size, 7, none⟩ (.int .i64 0)).setCell ⟨w.heap.size, 8, none⟩ (.int .i64 0)).setCell ⟨w.heap.size, 9, none⟩ (.slice none 0 0)).setCell ⟨w.heap.size, 10, none⟩ (.slice none 0 0)).setCell ⟨w.heap.size, 11, none⟩ (.slice none 0 0)).setCell ⟨w.heap.size, 12, none⟩ (.slice none 0 0)) = V
        intro qb q
        obtain ⟨m0, m1, m2, m3, m4, m5, m6, m7, m8, m9, m10, m11, m12⟩ := blk13 q
        refine bodyPost_ret (v := .tuple #[.agg (msgC hdZ (.slice none 0 0) (.slice none 0 0) (.slice none 0 0) (.slice none 0 0)), .int .i64 700]) (by simp [results, Try.results13, go_sem, msgC, hdZ, m0, m1, m2, m3, m4, m5, m6, m7, m8, m9, m10, m11, m12]) rfl (getP_no hno qb)
    · -- part 3
      subst hi
      simp only [show ((3 : Nat) : Int) = 3 from rfl]
      have HS : Hid (sub3 s 0 = some ((qs, an, ns, ar), p)) := hO
      have cc : wr.cell? ⟨gc, 3, none⟩ = some (.int .i64 (n3 : Int)) := HI.out.1.cnt.cell 3
      by_cases hc : n3 ≤ 64
      · have hc' : decide ((64 : Int) < (n3 : Int)) = false := by simp; omega
        go_wp2
        go_loopw [8, 10] (fun a jv wq => ∃ (k p' k0 k1 k2 k3 : Nat) (y0 y1 y2 y3 : Option Addr) (qs : List Qn) (an ns ar : List Rc), k ≤ n3 ∧ ar.length = k ∧ a = .int .i64 (p' : Int) ∧ jv = .int .i64 (k : Int) ∧ p' ≤ 100000 ∧ Hid (GB w wq gc gm #[.int .i64 (n0 : Int), .int .i64 (n1 : Int), .int .i64 (n2 : Int), .int .i64 (n3 : Int)] ⟨id, qr, op, aa, tc, rd, ra, z, rc⟩ (.slice y0 qs.length k0) (.slice y1 an.length k1) (.slice y2 ns.length k2) (.slice y3 ar.length k3) ⟨⟨id, qr, op, aa, tc, rd, ra, z, rc⟩, qs, an, ns, ar⟩ ∧ sub3 s k = some ((qs, an, ns, ar), p'))) (fun _ jv _ => n3 - (intOf jv).toNat)
        case atStart => exact ⟨0, p, k0, k1, k2, k3, y0, y1, y2, y3, qs, an, ns, ar, Nat.zero_le _, HL3.out HS.out, rfl, rfl, hp, HI.out.1, HS.out⟩
        case round =>
          clear HS HI hp cc
          obtain ⟨k, p', k0, k1, k2, k3, y0, y1, y2, y3, qs, an, ns, ar, hk, hlen, rfl, rfl, hp', HJ⟩ := hrel
          have cc : wr.cell? ⟨gc, 3, none⟩ = some (.int .i64 (n3 : Int)) := HJ.out.1.cnt.cell 3
          by_cases hkc : k < n3
          · have hkc' : (k : Int) < (n3 : Int) := by omega
            have hn1 : ar.length ≤ 1000 := by omega
            have HLEN : Hid (ar.length = k) := hlen
            clear hlen
            go_wp2_with (first
              | (go_at_call 30; go_must (refine (rrec_any s p' _ hs).mono ?_); rintro e w2 ⟨q, p2, ok, rfl, bb, hp2, hq⟩; obtain ⟨qn, qt, qc, ql, qd⟩ := q; have HQ : Hid (Alt ok (getR s p' = some (⟨qn, qt, qc, ql, qd⟩, p2)) (getR s p' = none)) := hq; have JE : Hid (GB w w2 gc gm #[.int .i64 (n0 : Int), .int .i64 (n1 : Int), .int .i64 (n2 : Int), .int .i64 (n3 : Int)] ⟨id, qr, op, aa, tc, rd, ra, z, rc⟩ (.slice y0 qs.length k0) (.slice y1 an.length k1) (.slice y2 ns.length k2) (.slice y3 ar.length k3) ⟨⟨id, qr, op, aa, tc, rd, ra, z, rc⟩, qs, an, ns, ar⟩) := HJ.out.1.below bb; obtain ⟨f0, f1, f2, f3, f4, f5, f6, f7, f8, f9, f10, f11, f12⟩ := open13 JE.out.res; obtain ⟨z0, z1, z2, z3, z4, z5, z6, z7, z8, z9, z10, z11, z12⟩ := blk13 JE.out.res; unfold hdZ at z0 z1 z2 z3 z4 z5 z6 z7 z8; simp only at z0 z1 z2 z3 z4 z5 z6 z7 z8; have lt2 := JE.out.n4; have lt1 := JE.out.n1; have lt0 := JE.out.n2; have lt3 : w.heap.size < w2.heap.size := (by omega); have cm : w2.cell? ⟨gm, 12, none⟩ = some (.slice y3 ar.length k3) := JE.out.msg.cell 12; have HNO : Hid (ok = false → gM s = msZ ∧ gE s = 700) := (fun e => g_none hs (by unfold getM; rw [if_pos h12, HNP3.out (.inr (sub3_lost ((sub_r HJ.out.2).2 (alt_no HQ.out e)) (by omega)))])); clear bb hq; cases ok)
              | (at_builtin; have J2 := JE.out.below (lay (Below.refl _ _) (.cells #[.string qn, .int .i64 qt, .int .i64 qc, .int .i64 ql, .string qd] 54)); refine wpList_appR (w2.alloc (.cells #[.string qn, .int .i64 qt, .int .i64 qc, .int .i64 ql, .string qd] 54)) rfl (.tmp 80) (.tmp 82) rfl (gm + 1) (.slice y3 ar.length k3) ar.length ar ⟨qn, qt, qc, ql, qd⟩ rfl J2.own.ar (by rw [World.size_alloc]; rfl) hn1 (by have := J2.n4; omega) ?_; intro v5 w5 own5 grow5 at5; obtain ⟨y5, k5, rfl⟩ := row_shape own5; have kM := (J2.msg.alloc _).grown grow5 (fun e => (by have := (J2.own.ar.lt gm e.symm).1; omega)); have GN : Hid (GB w (w5.setCell ⟨gm, 12, none⟩ (.slice y5 (ar.length + 1) k5)) gc gm #[.int .i64 (n0 : Int), .int .i64 (n1 : Int), .int .i64 (n2 : Int), .int .i64 (n3 : Int)] ⟨id, qr, op, aa, tc, rd, ra, z, rc⟩ (.slice y0 qs.length k0) (.slice y1 an.length k1) (.slice y2 ns.length k2) (.slice y5 (ar.length + 1) k5) ⟨⟨id, qr, op, aa, tc, rd, ra, z, rc⟩, qs, an, ns, ar ++ [⟨qn, qt, qc, ql, qd⟩]⟩) := J2.grown 12 (fun k e => (J2.own.ar.lt k e).1) grow5 rfl (J2.own.addR own5 (by simp) grow5 at5); have c5 : w5.cell? ⟨gm, 12, none⟩ = some (.slice y3 ar.length k3) := kM.cell 12; have f5 := kM.frozen 12; clear own5 grow5 at5 kM J2))
            · replace HNO : Hid (gM s = msZ ∧ gE s = 700) := HNO.out (by trivial)
              obtain ⟨qb, q⟩ := zeroed JE.out.bel JE.out.res
              have hno := HNO.out
              clear f0 f1 f2 f3 f4 f5 f6 f7 f8 f9 f10 f11 f12 z0 z1 z2 z3 z4 z5 z6 z7 z8 z9 z10 z11 z12
              unfold set13 hdZ at qb q
              simp only at qb q
              revert qb q
              generalize (((((((((((((w2.setCell ⟨w.heap.size, 0, none⟩ (.int .i64 0)).setCell ⟨w.heap.size, 1, none⟩ (.bool false)).setCell ⟨w.heap.size, 2, none⟩ (.int .i64 0)).setCell ⟨w.heap.size, 3, none⟩ (.bool false)).setCell ⟨w.heap.size, 4, none⟩ (.bool false)).setCell ⟨w.heap.size, 5, none⟩ (.bool false)).setCell ⟨w.heap.size, 6, none⟩ (.bool false)).setCell ⟨w.heap.size, 7, none⟩ (.int .i64 0)).setCell ⟨w.heap.size, 8, none⟩ (.int .i64 0)).setCell ⟨w.heap.size, 9, none⟩ (.slice none 0 0)).setCell ⟨w.heap.size, 10, none⟩ (.slice none 0 0)).setCell ⟨w.heap.size, 11, none⟩ (.slice none 0 0)).setCell ⟨w.heap.size, 12, none⟩ (.slice none 0 0)) = V
              intro qb q
              replace q := q.alloc (.cells #[.string qn, .int .i64 qt, .int .i64 qc, .int .i64 ql, .string qd] 54)
              replace qb := lay qb (.cells #[.string qn, .int .i64 qt, .int .i64 qc, .int .i64 ql, .string qd] 54)
              obtain ⟨m0, m1, m2, m3, m4, m5, m6, m7, m8, m9, m10, m11, m12⟩ := blk13 q
              refine bodyPost_ret (v := .tuple #[.agg (msgC hdZ (.slice none 0 0) (.slice none 0 0) (.slice none 0 0) (.slice none 0 0)), .int .i64 700]) (by simp [results, Try.results13, go_sem, msgC, hdZ, m0, m1, m2, m3, m4, m5, m6, m7, m8, m9, m10, m11, m12]) rfl (getP_no hno qb)
            · go_roundw
              case rel =>
                refine ⟨k + 1, p2, k0, k1, k2, k5, y0, y1, y2, y5, qs, an, ns, ar ++ [⟨qn, qt, qc, ql, qd⟩], by omega, by rw [List.length_append, HLEN.out]; rfl, rfl, by go_num, by omega, ?_, ?_⟩
                · have e : (ar ++ ([⟨qn, qt, qc, ql, qd⟩] : List Rc)).length = ar.length + 1 := by simp
                  rw [e]
                  exact GN.out
                · exact (sub_r HJ.out.2).1 _ _ (alt_yes HQ.out rfl)
              case measure => simp [intOf]; omega
          · have hkc' : decide (k < n3) = false := by simpa using hkc
            have HK : Hid (k = n3) := by unfold Hid; omega
            go_wp2
            go_roundw
            case rel => exact ⟨4, p', k0, k1, k2, k3, y0, y1, y2, y3, qs, an, ns, ar, by decide, rfl, by go_num, hp', HJ.out.1, HOUT3.out HK.out HJ.out.2 hc⟩
            case measure => simp [intOf]
      · have hc' : (64 : Int) < (n3 : Int) := by omega
        have JE : Hid (GB w wr gc gm #[.int .i64 (n0 : Int), .int .i64 (n1 : Int), .int .i64 (n2 : Int), .int .i64 (n3 : Int)] ⟨id, qr, op, aa, tc, rd, ra, z, rc⟩ (.slice y0 qs.length k0) (.slice y1 an.length k1) (.slice y2 ns.length k2) (.slice y3 ar.length k3) ⟨⟨id, qr, op, aa, tc, rd, ra, z, rc⟩, qs, an, ns, ar⟩) := HI.out.1
        have HNO : Hid (gM s = msZ ∧ gE s = 700) := g_none hs (by unfold getM; rw [if_pos h12, HNP3.out (.inl hc)])
        obtain ⟨f0, f1, f2, f3, f4, f5, f6, f7, f8, f9, f10, f11, f12⟩ := open13 JE.out.res
        obtain ⟨z0, z1, z2, z3, z4, z5, z6, z7, z8, z9, z10, z11, z12⟩ := blk13 JE.out.res
        unfold hdZ at z0 z1 z2 z3 z4 z5 z6 z7 z8
        simp only at z0 z1 z2 z3 z4 z5 z6 z7 z8
        have lt1 := JE.out.n1
        have lt0 := JE.out.n2
        go_wp2
        obtain ⟨qb, q⟩ := zeroed JE.out.bel JE.out.res
        have hno := HNO.out
        clear f0 f1 f2 f3 f4 f5 f6 f7 f8 f9 f10 f11 f12 z0 z1 z2 z3 z4 z5 z6 z7 z8 z9 z10 z11 z12
        unfold set13 hdZ at qb q
        simp only at qb q
        revert qb q
        generalize (((((((((((((wr.setCell ⟨w.heap.size, 0, none⟩ (.int .i64 0)).setCell ⟨w.heap.size, 1, none⟩ (.bool false)).setCell ⟨w.heap.size, 2, none⟩ (.int .i64 0)).setCell ⟨w.heap.size, 3, none⟩ (.bool false)).setCell ⟨w.heap.size, 4, none⟩ (.bool false)).setCell ⟨w.heap.size, 5, none⟩ (.bool false)).setCell ⟨w.heap.size, 6, none⟩ (.bool false)).setCell ⟨w.heap.size, 7, none⟩ (.int .i64 0)).setCell ⟨w.heap.size, 8, none⟩ (.int .i64 0)).setCell ⟨w.heap.size, 9, none⟩ (.slice none 0 0)).setCell ⟨w.heap.size, 10, none⟩ (.slice none 0 0)).setCell ⟨w.heap.size, 11, none⟩ (.slice none 0 0)).setCell ⟨w.heap.size, 12, none⟩ (.slice none 0 0)) = V
        intro qb q
        obtain ⟨m0, m1, m2, m3, m4, m5, m6, m7, m8, m9, m10, m11, m12⟩ := blk13 q
        refine bodyPost_ret (v := .tuple #[.agg (msgC hdZ (.slice none 0 0) (.slice none 0 0) (.slice none 0 0) (.slice none 0 0)), .int .i64 700]) (by simp [results, Try.results13, go_sem, msgC, hdZ, m0, m1, m2, m3, m4, m5, m6, m7, m8, m9, m10, m11, m12]) rfl (getP_no hno qb)
    · subst hi
      simp only [show ((4 : Nat) : Int) = 4 from rfl]
      have HS : Hid (parts s = some ((qs, an, ns, ar), p)) := hO
      have JE : Hid (GB w wr gc gm #[.int .i64 (n0 : Int), .int .i64 (n1 : Int), .int .i64 (n2 : Int), .int .i64 (n3 : Int)] ⟨id, qr, op, aa, tc, rd, ra, z, rc⟩ (.slice y0 qs.length k0) (.slice y1 an.length k1) (.slice y2 ns.length k2) (.slice y3 ar.length k3) ⟨⟨id, qr, op, aa, tc, rd, ra, z, rc⟩, qs, an, ns, ar⟩) := HI.out.1
      obtain ⟨f0, f1, f2, f3, f4, f5, f6, f7, f8, f9, f10, f11, f12⟩ := open13 JE.out.res
      obtain ⟨z0, z1, z2, z3, z4, z5, z6, z7, z8, z9, z10, z11, z12⟩ := blk13 JE.out.res
      unfold hdZ at z0 z1 z2 z3 z4 z5 z6 z7 z8
      simp only at z0 z1 z2 z3 z4 z5 z6 z7 z8
      obtain ⟨c0, c1, c2, c3, c4, c5, c6, c7, c8, c9, c10, c11, c12⟩ := blk13 JE.out.msg
      have lt1 := JE.out.n1
      have lt0 := JE.out.n2
      clear HI hO
      go_wp2
      · rename_i hpp
        have hp' : p ≠ s.size := by simp at hpp; omega
        have HNO : Hid (gM s = msZ ∧ gE s = 700) := g_none hs (by unfold getM; rw [if_pos h12, HS.out]; simp only; rw [if_neg hp'])
        clear c0 c1 c2 c3 c4 c5 c6 c7 c8 c9 c10 c11 c12
        obtain ⟨qb, q⟩ := zeroed JE.out.bel JE.out.res
        have hno := HNO.out
        clear f0 f1 f2 f3 f4 f5 f6 f7 f8 f9 f10 f11 f12 z0 z1 z2 z3 z4 z5 z6 z7 z8 z9 z10 z11 z12
        unfold set13 hdZ at qb q
        simp only at qb q
        revert qb q
        generalize (((((((((((((wr.setCell ⟨w.heap.size, 0, none⟩ (.int .i64 0)).setCell ⟨w.heap.size, 1, none⟩ (.bool false)).setCell ⟨w.heap.size, 2, none⟩ (.int .i64 0)).setCell ⟨w.heap.size, 3, none⟩ (.bool false)).setCell ⟨w.heap.size, 4, none⟩ (.bool false)).setCell ⟨w.heap.size, 5, none⟩ (.bool false)).setCell ⟨w.heap.size, 6, none⟩ (.bool false)).setCell ⟨w.heap.size, 7, none⟩ (.int .i64 0)).setCell ⟨w.heap.size, 8, none⟩ (.int .i64 0)).setCell ⟨w.heap.size, 9, none⟩ (.slice none 0 0)).setCell ⟨w.heap.size, 10, none⟩ (.slice none 0 0)).setCell ⟨w.heap.size, 11, none⟩ (.slice none 0 0)).setCell ⟨w.heap.size, 12, none⟩ (.slice none 0 0)) = V
        intro qb q
        obtain ⟨m0, m1, m2, m3, m4, m5, m6, m7, m8, m9, m10, m11, m12⟩ := blk13 q
        refine bodyPost_ret (v := .tuple #[.agg (msgC hdZ (.slice none 0 0) (.slice none 0 0) (.slice none 0 0) (.slice none 0 0)), .int .i64 700]) (by simp [results, Try.results13, go_sem, msgC, hdZ, m0, m1, m2, m3, m4, m5, m6, m7, m8, m9, m10, m11, m12]) rfl (getP_no hno qb)
      · rename_i hpp
        have hp' : p = s.size := by simp at hpp; omega
        have hg : gM s = ⟨⟨id, qr, op, aa, tc, rd, ra, z, rc⟩, qs, an, ns, ar⟩ ∧ gE s = 0 := g_some hs (by unfold getM; rw [if_pos h12, HS.out]; simp only; rw [if_pos hp', ← HEHD.out])
        have q := set13_blk (h := ⟨id, qr, op, aa, tc, rd, ra, z, rc⟩) (v0 := .slice y0 qs.length k0) (v1 := .slice y1 an.length k1) (v2 := .slice y2 ns.length k2) (v3 := .slice y3 ar.length k3) JE.out.res
        have qb := Turn.below JE.out.bel (set13_turn wr w.heap.size ⟨id, qr, op, aa, tc, rd, ra, z, rc⟩ (.slice y0 qs.length k0) (.slice y1 an.length k1) (.slice y2 ns.length k2) (.slice y3 ar.length k3)) JE.out.bel.size (fun i e => by omega)
        have qo := own_turn JE.out.own (set13_turn wr w.heap.size ⟨id, qr, op, aa, tc, rd, ra, z, rc⟩ (.slice y0 qs.length k0) (.slice y1 an.length k1) (.slice y2 ns.length k2) (.slice y3 ar.length k3)) (by omega)
        clear f0 f1 f2 f3 f4 f5 f6 f7 f8 f9 f10 f11 f12 z0 z1 z2 z3 z4 z5 z6 z7 z8 z9 z10 z11 z12 c0 c1 c2 c3 c4 c5 c6 c7 c8 c9 c10 c11 c12
        unfold set13 at qb q qo
        simp only at qb q qo
        revert qb q qo
        generalize (((((((((((((wr.setCell ⟨w.heap.size, 0, none⟩ (.int .i64 id)).setCell ⟨w.heap.size, 1, none⟩ (.bool qr)).setCell ⟨w.heap.size, 2, none⟩ (.int .i64 op)).setCell ⟨w.heap.size, 3, none⟩ (.bool aa)).setCell ⟨w.heap.size, 4, none⟩ (.bool tc)).setCell ⟨w.heap.size, 5, none⟩ (.bool rd)).setCell ⟨w.heap.size, 6, none⟩ (.bool ra)).setCell ⟨w.heap.size, 7, none⟩ (.int .i64 z)).setCell ⟨w.heap.size, 8, none⟩ (.int .i64 rc)).setCell ⟨w.heap.size, 9, none⟩ (.slice y0 qs.length k0)).setCell ⟨w.heap.size, 10, none⟩ (.slice y1 an.length k1)).setCell ⟨w.heap.size, 11, none⟩ (.slice y2 ns.length k2)).setCell ⟨w.heap.size, 12, none⟩ (.slice y3 ar.length k3)) = V
        intro q qb qo
        obtain ⟨m0, m1, m2, m3, m4, m5, m6, m7, m8, m9, m10, m11, m12⟩ := blk13 q
        refine bodyPost_ret (v := .tuple #[.agg (msgC ⟨id, qr, op, aa, tc, rd, ra, z, rc⟩ (.slice y0 qs.length k0) (.slice y1 an.length k1) (.slice y2 ns.length k2) (.slice y3 ar.length k3)), .int .i64 0]) (by simp [results, Try.results13, go_sem, msgC, m0, m1, m2, m3, m4, m5, m6, m7, m8, m9, m10, m11, m12]) rfl ?_
        unfold GetP
        rw [hg.1, hg.2]
        exact ⟨_, _, _, _, rfl, own_from qo (by omega), qb⟩

theorem rget_w (s : ByteArray) (w : World) (hs : s.size ≤ maxLen) : Calls Try.prog 13 #[.string s] w (GetP s w) := by
  by_cases h1 : s.size ≤ 4096
  · by_cases h2 : 12 ≤ s.size
    · exact rget_main s w h2 h1
    · exact rget_few s w (by omega)
  · exact rget_long s w hs h1

end Go.Proofs.Ytbffnicfibfceaa
