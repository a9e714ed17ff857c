/- What join of package head gives, for a header that may be written. -/
import Derived.Test.YtcapankhobnfeaaXP2
import Derived.Laws.EntriesVeiled
namespace Go.Proofs.Ytcapankhobnfeaa
open Go.RowKit

theorem wraps_u16 (n : Int) (h₀ : 0 ≤ n) (h₁ : n < 2 ^ 16) : IntKind.u16.wrap n = n := by
  have : IntKind.u16.wrap n = n % 65536 := by simp [IntKind.wrap, IntKind.bits, IntKind.signed]
  rw [this]; omega

/-- A flag as a number. -/
def bI (b : Bool) : Int := if b then 1 else 0
theorem bI_lt (b : Bool) : 0 ≤ bI b ∧ bI b < 2 := by cases b <;> decide
/-- The flags and the small numbers of a header as one number. -/
def wordH (qr : Bool) (op : Int) (aa tc rd ra : Bool) (z rc : Int) : Int := 32768 * bI qr + 2048 * op + 1024 * bI aa + 512 * bI tc + 256 * bI rd + 128 * bI ra + 16 * z + rc

theorem add_any (x n q v : Int) (g : Nat) (w : World) (hg : Blk w g #[.int .u16 v] 133) (hn : (n = 1 ∧ q = 2) ∨ (n = 3 ∧ q = 8) ∨ (n = 4 ∧ q = 16)) (h0 : 0 ≤ v) (h1 : v * q + q ≤ 65536) (x0 : 0 ≤ x) (x1 : x < q) :
    Calls Try.prog 92 #[.int .i64 x, .int .u64 n, .pointer (some ⟨g, 0, none⟩)] w fun e w' => e = .returned (.tuple #[]) ∧ w' = w.setCell ⟨g, 0, none⟩ (.int .u16 (v * q + x)) := by
  have c0 : w.cell? ⟨g, 0, none⟩ = some (.int .u16 v) := hg.cell 0
  have f0 := hg.frozen 0
  rcases hn with ⟨rfl, rfl⟩ | ⟨rfl, rfl⟩ | ⟨rfl, rfl⟩
  · have hor : bits .or .u16 (v * 2) x = v * 2 + x := bits_join .u16 16 (by decide) wraps_u16 1 _ _ (by omega) (by omega) (by omega) (by omega) (by omega) (by omega)
    go_enter Try.func92, Try.ntmps92
    go_wp2
    go_end0
    exact ⟨rfl, rfl⟩
  · have hor : bits .or .u16 (v * 8) x = v * 8 + x := bits_join .u16 16 (by decide) wraps_u16 3 _ _ (by omega) (by omega) (by omega) (by omega) (by omega) (by omega)
    go_enter Try.func92, Try.ntmps92
    go_wp2
    go_end0
    exact ⟨rfl, rfl⟩
  · have hor : bits .or .u16 (v * 16) x = v * 16 + x := bits_join .u16 16 (by decide) wraps_u16 4 _ _ (by omega) (by omega) (by omega) (by omega) (by omega) (by omega)
    go_enter Try.func92, Try.ntmps92
    go_wp2
    go_end0
    exact ⟨rfl, rfl⟩

/-- The function value add. -/
def addF (g : Nat) : Value := .func (.func 92) #[] #[.pointer (some ⟨g, 0, none⟩)]

theorem flag_any (on : Bool) (v : Int) (g ga : Nat) (w : World) (hg : Blk w g #[.int .u16 v] 133) (ha : Blk w ga #[addF g] 151) (h0 : 0 ≤ v) (h1 : v * 2 + 2 ≤ 65536) :
    Calls Try.prog 93 #[.bool on, .pointer (some ⟨ga, 0, none⟩)] w fun e w' => e = .returned (.tuple #[]) ∧ w' = w.setCell ⟨g, 0, none⟩ (.int .u16 (v * 2 + bI on)) := by
  have c0 : w.cell? ⟨ga, 0, none⟩ = some (.func (.func 92) #[] #[.pointer (some ⟨g, 0, none⟩)]) := ha.cell 0
  cases on with
  | true =>
    rw [show bI true = 1 from rfl]
    go_enter Try.func93, Try.ntmps93
    go_wp2_with (go_at_call 92; go_must (refine (add_any 1 1 2 v g _ hg (.inl ⟨rfl, rfl⟩) h0 h1 (by decide) (by decide)).mono ?_); rintro e w1 ⟨rfl, hw⟩)
    go_end0
    exact ⟨rfl, rfl⟩
  | false =>
    rw [show bI false = 0 from rfl]
    go_enter Try.func93, Try.ntmps93
    go_wp2_with (go_at_call 92; go_must (refine (add_any 0 1 2 v g _ hg (.inl ⟨rfl, rfl⟩) h0 h1 (by decide) (by decide)).mono ?_); rintro e w1 ⟨rfl, hw⟩)
    go_end0
    exact ⟨rfl, by rw [Int.add_zero]⟩

/-- What join holds while it goes on: the header, k bits of the word, the function add. -/
structure JAt (w0 w : World) (gh g ga : Nat) (H : Array Value) (k : Nat) (v : Int) : Prop where
  head : Blk w gh H 25
  word : Blk w g #[.int .u16 v] 133
  add : Blk w ga #[addF g] 151
  below : Below w0.heap.size w0 w
  hd : gh ≠ g
  ad : ga ≠ g
  new : w0.heap.size ≤ g
  lo : 0 ≤ v
  hi : v < 2 ^ k

theorem JAt.set {w0 w w' : World} {gh g ga : Nat} {H : Array Value} {k : Nat} {v : Int} (j : JAt w0 w gh g ga H k v) {m : Nat} {v' : Int} (hw : w' = w.setCell ⟨g, 0, none⟩ (.int .u16 v')) (h0 : 0 ≤ v') (h1 : v' < 2 ^ m) : JAt w0 w' gh g ga H m v' := by
  subst hw
  exact ⟨j.head.other j.hd 0 _, j.word.set 0 _, j.add.other j.ad 0 _, j.below.setCell j.new _, j.hd, j.ad, j.new, h0, h1⟩

theorem pow_steps {k n : Nat} {q v x : Int} (hn : (n = 1 ∧ q = 2) ∨ (n = 3 ∧ q = 8) ∨ (n = 4 ∧ q = 16)) (hk : k + n ≤ 16) (h0 : 0 ≤ v) (h1 : v < 2 ^ k) (x0 : 0 ≤ x) (x1 : x < q) : v * q + q ≤ 65536 ∧ 0 ≤ v * q + x ∧ v * q + x < 2 ^ (k + n) := by
  have e : (2 : Int) ^ (k + n) = 2 ^ k * q := by
    rw [Int.pow_add]
    rcases hn with ⟨rfl, rfl⟩ | ⟨rfl, rfl⟩ | ⟨rfl, rfl⟩ <;> rfl
  have l : (2 : Int) ^ (k + n) ≤ 2 ^ 16 := by
    have : (2 : Nat) ^ (k + n) ≤ 2 ^ 16 := Nat.pow_le_pow_right (by decide) hk
    exact_mod_cast this
  rw [e] at l ⊢
  have l2 : (2 : Int) ^ 16 = 65536 := by decide
  rw [l2] at l
  generalize (2 : Int) ^ k = p at *
  rcases hn with ⟨rfl, rfl⟩ | ⟨rfl, rfl⟩ | ⟨rfl, rfl⟩ <;> omega

theorem jAdd {w0 w : World} {gh g ga : Nat} {H : Array Value} {k : Nat} {v : Int} (j : JAt w0 w gh g ga H k v) (x n q : Int) (m : Nat) (hm : n = (m : Int)) (hn : (m = 1 ∧ q = 2) ∨ (m = 3 ∧ q = 8) ∨ (m = 4 ∧ q = 16)) (hk : k + m ≤ 16) (x0 : 0 ≤ x) (x1 : x < q) :
    Calls Try.prog 92 #[.int .i64 x, .int .u64 n, .pointer (some ⟨g, 0, none⟩)] w fun e w' => e = .returned (.tuple #[]) ∧ JAt w0 w' gh g ga H (k + m) (v * q + x) := by
  obtain ⟨h1, h2, h3⟩ := pow_steps hn hk j.lo j.hi x0 x1
  have hn2 : (n = 1 ∧ q = 2) ∨ (n = 3 ∧ q = 8) ∨ (n = 4 ∧ q = 16) := by omega
  exact (add_any x n q v g w j.word hn2 j.lo h1 x0 x1).mono fun e w' ⟨he, hw⟩ => ⟨he, j.set hw h2 h3⟩

theorem jFlag {w0 w : World} {gh g ga : Nat} {H : Array Value} {k : Nat} {v : Int} (j : JAt w0 w gh g ga H k v) (on : Bool) (hk : k + 1 ≤ 16) :
    Calls Try.prog 93 #[.bool on, .pointer (some ⟨ga, 0, none⟩)] w fun e w' => e = .returned (.tuple #[]) ∧ JAt w0 w' gh g ga H (k + 1) (v * 2 + bI on) := by
  obtain ⟨b0, b1⟩ := bI_lt on
  obtain ⟨h1, h2, h3⟩ := pow_steps (n := 1) (q := 2) (.inl ⟨rfl, rfl⟩) hk j.lo j.hi b0 b1
  exact (flag_any on v g ga w j.word j.add j.lo h1).mono fun e w' ⟨he, hw⟩ => ⟨he, j.set hw h2 h3⟩

/-- The cells that join reads. -/
theorem JAt.cells {w0 w : World} {gh g ga : Nat} {id : Int} {qr : Bool} {op : Int} {aa tc rd ra : Bool} {z rc : Int} {k : Nat} {v : Int} (j : JAt w0 w gh g ga (headV id qr op aa tc rd ra z rc) k v) :
    w.cell? ⟨gh, 1, none⟩ = some (.bool qr) ∧ w.cell? ⟨gh, 2, none⟩ = some (.int .i64 op) ∧ w.cell? ⟨gh, 3, none⟩ = some (.bool aa) ∧ w.cell? ⟨gh, 4, none⟩ = some (.bool tc) ∧ w.cell? ⟨gh, 5, none⟩ = some (.bool rd) ∧ w.cell? ⟨gh, 6, none⟩ = some (.bool ra) ∧ w.cell? ⟨gh, 7, none⟩ = some (.int .i64 z) ∧ w.cell? ⟨gh, 8, none⟩ = some (.int .i64 rc) ∧ w.cell? ⟨g, 0, none⟩ = some (.int .u16 v) ∧ w.cell? ⟨ga, 0, none⟩ = some (.func (.func 92) #[] #[.pointer (some ⟨g, 0, none⟩)]) :=
  ⟨j.head.cell 1, j.head.cell 2, j.head.cell 3, j.head.cell 4, j.head.cell 5, j.head.cell 6, j.head.cell 7, j.head.cell 8, j.word.cell 0, j.add.cell 0⟩

set_option maxRecDepth 20000 in
set_option maxHeartbeats 4000000 in
theorem join_any (id : Int) (qr : Bool) (op : Int) (aa tc rd ra : Bool) (z rc : Int) (w : World) (ho : fitI 16 op = true) (hz : fitI 8 z = true) (hr : fitI 16 rc = true) :
    Calls Try.prog 75 #[.agg (headV id qr op aa tc rd ra z rc)] w fun e w' => e = .returned (.int .u16 (wordH qr op aa tc rd ra z rc)) ∧ Below w.heap.size w w' := by
  have O := fit_iff.1 ho
  have Z := fit_iff.1 hz
  have R := fit_iff.1 hr
  have hmf : ∀ (fn : Fn) (first cap : Array Value) (w : World), (Instr.makeFunc fn first cap).run Try.prog w = .ok (.func fn first cap) w := fun _ _ _ _ => rfl
  have j : JAt w (((w.alloc (.cells (headV id qr op aa tc rd ra z rc) 25)).alloc (.cells #[.int .u16 0] 133)).alloc (.cells #[addF (w.heap.size + 1)] 151)) w.heap.size (w.heap.size + 1) (w.heap.size + 1 + 1) (headV id qr op aa tc rd ra z rc) 0 0 := by
    have e1 : (w.alloc (.cells (headV id qr op aa tc rd ra z rc) 25)).heap.size = w.heap.size + 1 := by simp
    have e2 : ((w.alloc (.cells (headV id qr op aa tc rd ra z rc) 25)).alloc (.cells #[.int .u16 0] 133)).heap.size = w.heap.size + 1 + 1 := by simp
    refine ⟨((Blk.new w _ _).alloc _).alloc _, ?_, ?_, lay (lay (lay (Below.refl _ _) _) _) _, by omega, by omega, by omega, by decide, by decide⟩
    · have := (Blk.new (w.alloc (.cells (headV id qr op aa tc rd ra z rc) 25)) #[.int .u16 0] 133).alloc (.cells #[addF (w.heap.size + 1)] 151)
      rw [e1] at this; exact this
    · have := Blk.new ((w.alloc (.cells (headV id qr op aa tc rd ra z rc) 25)).alloc (.cells #[.int .u16 0] 133)) #[addF (w.heap.size + 1)] 151
      rw [e2] at this; exact this
  have HW : Hid (((((((bI qr * 16 + op) * 2 + bI aa) * 2 + bI tc) * 2 + bI rd) * 2 + bI ra) * 8 + z) * 16 + rc = wordH qr op aa tc rd ra z rc) := by unfold Hid wordH; omega
  have t1 : True := trivial
  have t2 : True := trivial
  unfold addF at j
  unfold headV at j ⊢
  go_enter Try.func75, Try.ntmps75
  go_wp2_with (first
    | (go_at_call 93; go_must (refine (jFlag j _ (by decide)).mono ?_); rintro e w1 ⟨rfl, j1⟩; replace j := j1; clear j1; obtain ⟨c1, c2, c3, c4, c5, c6, c7, c8, c9, c10⟩ := JAt.cells j)
    | (go_at_call 92; have _t := t1; go_must (refine (jAdd j op 4 16 4 rfl (.inr (.inr ⟨rfl, rfl⟩)) (by decide) O.1 O.2).mono ?_); rintro e w1 ⟨rfl, j1⟩; replace j := j1; clear j1 _t t1; obtain ⟨c1, c2, c3, c4, c5, c6, c7, c8, c9, c10⟩ := JAt.cells j)
    | (go_at_call 92; have _t := t2; go_must (refine (jAdd j z 3 8 3 rfl (.inr (.inl ⟨rfl, rfl⟩)) (by decide) Z.1 Z.2).mono ?_); rintro e w1 ⟨rfl, j1⟩; replace j := j1; clear j1 _t t2; obtain ⟨c1, c2, c3, c4, c5, c6, c7, c8, c9, c10⟩ := JAt.cells j)
    | (go_at_call 92; go_must (refine (jAdd j rc 4 16 4 rfl (.inr (.inr ⟨rfl, rfl⟩)) (by decide) R.1 R.2).mono ?_); rintro e w1 ⟨rfl, j1⟩; replace j := j1; clear j1; obtain ⟨c1, c2, c3, c4, c5, c6, c7, c8, c9, c10⟩ := JAt.cells j))
  go_ret
  exact ⟨congrArg (fun x => Ending.returned (.int .u16 x)) HW.out, j.below⟩

end Go.Proofs.Ytcapankhobnfeaa

/- What Put of package head gives, for every argument. -/
namespace Go.Proofs.Ytcapankhobnfeaa
open Go.RowKit

/-- The bytes of a header so far. -/
def putS (id v a b c d : Int) : Nat → ByteArray
  | 0 => be2 id ++ be2 v
  | 1 => be2 id ++ be2 v ++ be2 a
  | 2 => be2 id ++ be2 v ++ be2 a ++ be2 b
  | 3 => be2 id ++ be2 v ++ be2 a ++ be2 b ++ be2 c
  | _ => be2 id ++ be2 v ++ be2 a ++ be2 b ++ be2 c ++ be2 d
theorem size2 (x : Int) : (be2 x).size = 2 := rfl
theorem putS_next (id v a b c d : Int) (k : Nat) (hk : k < 4) : putS id v a b c d k ++ be2 ([a, b, c, d].getD k 0) = putS id v a b c d (k + 1) := by
  have : k = 0 ∨ k = 1 ∨ k = 2 ∨ k = 3 := by omega
  rcases this with rfl | rfl | rfl | rfl <;> rfl
theorem putS_size (id v a b c d : Int) (k : Nat) : (putS id v a b c d k).size ≤ 12 := by
  match k with
  | 0 | 1 | 2 | 3 | k + 4 => simp [putS, ByteArray.size_append, size2]

theorem mayHead_as (id : Int) (qr : Bool) (op : Int) (aa tc rd ra : Bool) (z rc a b c d : Int) (m : Bool) (w : World) (h : mayH id op z rc a b c d = m) :
    Calls Try.prog 73 #[.agg #[.int .i64 id, .bool qr, .int .i64 op, .bool aa, .bool tc, .bool rd, .bool ra, .int .i64 z, .int .i64 rc], .agg #[.int .i64 a, .int .i64 b, .int .i64 c, .int .i64 d]] w fun e w' => e = .returned (.bool m) ∧ Below w.heap.size w w' :=
  h ▸ mayHead_any id qr op aa tc rd ra z rc a b c d w

theorem mayH_iff {id op z rc a b c d : Int} : mayH id op z rc a b c d = true ↔ fitI 65536 id = true ∧ fitI 16 op = true ∧ fitI 8 z = true ∧ fitI 16 rc = true ∧ fitI 65536 a = true ∧ fitI 65536 b = true ∧ fitI 65536 c = true ∧ fitI 65536 d = true := by
  unfold mayH; simp [and_assoc]
theorem word_lt {qr : Bool} {op : Int} {aa tc rd ra : Bool} {z rc : Int} (ho : fitI 16 op = true) (hz : fitI 8 z = true) (hr : fitI 16 rc = true) : 0 ≤ wordH qr op aa tc rd ra z rc ∧ wordH qr op aa tc rd ra z rc < 65536 := by
  have O := fit_iff.1 ho
  have Z := fit_iff.1 hz
  have R := fit_iff.1 hr
  have := bI_lt qr
  have := bI_lt aa
  have := bI_lt tc
  have := bI_lt rd
  have := bI_lt ra
  unfold wordH
  omega

set_option maxRecDepth 20000 in
set_option maxHeartbeats 4000000 in
theorem put_no (id : Int) (qr : Bool) (op : Int) (aa tc rd ra : Bool) (z rc a b c d : Int) (w : World) (h : mayH id op z rc a b c d = false) :
    Calls Try.prog 56 #[.agg (headV id qr op aa tc rd ra z rc), .agg (cntV a b c d)] w fun e w' => e = .returned (.tuple #[.string ⟨#[]⟩, .int .i64 600]) ∧ Below w.heap.size w w' := by
  have hb := lay (lay (Below.refl w.heap.size w) (.cells #[.int .i64 id, .bool qr, .int .i64 op, .bool aa, .bool tc, .bool rd, .bool ra, .int .i64 z, .int .i64 rc] 25)) (.cells #[.int .i64 a, .int .i64 b, .int .i64 c, .int .i64 d] 81)
  unfold headV cntV
  go_enter Try.func56, Try.ntmps56
  go_wp2_with (go_at_call 73; go_must (refine (mayHead_as id qr op aa tc rd ra z rc a b c d false _ h).mono ?_); rintro e w1 ⟨rfl, b1⟩; replace hb := next hb b1; clear b1)
  go_ret2
  exact ⟨rfl, hb⟩

set_option maxRecDepth 20000 in
set_option maxHeartbeats 4000000 in
theorem put_yes (id : Int) (qr : Bool) (op : Int) (aa tc rd ra : Bool) (z rc a b c d : Int) (w : World) (h : mayH id op z rc a b c d = true) :
    Calls Try.prog 56 #[.agg (headV id qr op aa tc rd ra z rc), .agg (cntV a b c d)] w fun e w' => e = .returned (.tuple #[.string (putS id (wordH qr op aa tc rd ra z rc) a b c d 4), .int .i64 0]) ∧ Below w.heap.size w w' := by
  obtain ⟨hid, ho, hz, hr, -⟩ := mayH_iff.1 h
  have hi := idx4 a b c d
  have hw := word_lt (qr := qr) (aa := aa) (tc := tc) (rd := rd) (ra := ra) ho hz hr
  have hj := fun u => join_any id qr op aa tc rd ra z rc u ho hz hr
  obtain ⟨v, hv⟩ : ∃ v, v = wordH qr op aa tc rd ra z rc := ⟨_, rfl⟩
  rw [← hv] at hw ⊢
  simp only [← hv] at hj
  clear hv
  have hb := lay (lay (Below.refl w.heap.size w) (.cells #[.int .i64 id, .bool qr, .int .i64 op, .bool aa, .bool tc, .bool rd, .bool ra, .int .i64 z, .int .i64 rc] 25)) (.cells #[.int .i64 a, .int .i64 b, .int .i64 c, .int .i64 d] 81)
  have kh := (Blk.new w #[.int .i64 id, .bool qr, .int .i64 op, .bool aa, .bool tc, .bool rd, .bool ra, .int .i64 z, .int .i64 rc] 25).alloc (.cells #[.int .i64 a, .int .i64 b, .int .i64 c, .int .i64 d] 81)
  have kc := Blk.new (w.alloc (.cells #[.int .i64 id, .bool qr, .int .i64 op, .bool aa, .bool tc, .bool rd, .bool ra, .int .i64 z, .int .i64 rc] 25)) #[.int .i64 a, .int .i64 b, .int .i64 c, .int .i64 d] 81
  have es : (w.alloc (.cells #[.int .i64 id, .bool qr, .int .i64 op, .bool aa, .bool tc, .bool rd, .bool ra, .int .i64 z, .int .i64 rc] 25)).heap.size = w.heap.size + 1 := by simp
  rw [es] at kc
  clear es
  unfold headV at hj ⊢
  unfold cntV at hi ⊢
  go_enter Try.func56, Try.ntmps56
  go_wp2_with (go_at_call 73; go_must (refine (mayHead_as id qr op aa tc rd ra z rc a b c d true _ h).mono ?_); rintro e w1 ⟨rfl, b1⟩; replace kh := kh.below b1; replace kc := kc.below b1; replace hb := next hb b1; clear b1)
  have q0 : ∀ n : Bel w1, n.to.cell? ⟨w.heap.size, 0, none⟩ = some (.int .i64 id) := fun n => (kh.below n.h).cell 0
  have q1 : ∀ n : Bel w1, n.to.cell? ⟨w.heap.size, 1, none⟩ = some (.bool qr) := fun n => (kh.below n.h).cell 1
  have q2 : ∀ n : Bel w1, n.to.cell? ⟨w.heap.size, 2, none⟩ = some (.int .i64 op) := fun n => (kh.below n.h).cell 2
  have q3 : ∀ n : Bel w1, n.to.cell? ⟨w.heap.size, 3, none⟩ = some (.bool aa) := fun n => (kh.below n.h).cell 3
  have q4 : ∀ n : Bel w1, n.to.cell? ⟨w.heap.size, 4, none⟩ = some (.bool tc) := fun n => (kh.below n.h).cell 4
  have q5 : ∀ n : Bel w1, n.to.cell? ⟨w.heap.size, 5, none⟩ = some (.bool rd) := fun n => (kh.below n.h).cell 5
  have q6 : ∀ n : Bel w1, n.to.cell? ⟨w.heap.size, 6, none⟩ = some (.bool ra) := fun n => (kh.below n.h).cell 6
  have q7 : ∀ n : Bel w1, n.to.cell? ⟨w.heap.size, 7, none⟩ = some (.int .i64 z) := fun n => (kh.below n.h).cell 7
  have q8 : ∀ n : Bel w1, n.to.cell? ⟨w.heap.size, 8, none⟩ = some (.int .i64 rc) := fun n => (kh.below n.h).cell 8
  have s0 : (be2 id).size + (be2 v).size ≤ 1000 := by rw [size2, size2]; decide
  have wv : IntKind.i64.wrap v = v := by rw [IntKind.wrap_i64]; omega
  refine wp_region_bel (by kernel_rfl) (by kernel_rfl) (fun _ => ?_)
  repeat (go_big_quiet_step (first
    | (go_at_call_of 74 (#[Value.int IntKind.i64 id]); exact bel_lays (put16_any _ _))
    | (go_at_call 75; go_must (exact bel_lays (hj _)))
    | (go_at_call 74; go_must (exact bel_lays (put16_any v _)))))
  refine wpQuiet_nil ?_
  intro wn hwn
  have hbn := bel_out hwn
  clear q0 q1 q2 q3 q4 q5 q6 q7 q8 hwn
  replace kc := kc.below hbn
  replace hb := next hb hbn
  have c0 : wn.cell? ⟨w.heap.size + 1, 0, none⟩ = some (.int .i64 a) := kc.cell 0
  have c1 : wn.cell? ⟨w.heap.size + 1, 1, none⟩ = some (.int .i64 b) := kc.cell 1
  have c2 : wn.cell? ⟨w.heap.size + 1, 2, none⟩ = some (.int .i64 c) := kc.cell 2
  have c3 : wn.cell? ⟨w.heap.size + 1, 3, none⟩ = some (.int .i64 d) := kc.cell 3
  go_wp2
  go_loopw [6, 22] (fun s i wr => ∃ k : Nat, k ≤ 4 ∧ s = .string (putS id v a b c d k) ∧ i = .int .i64 (k : Int) ∧ Below w.heap.size w wr) (fun _ i _ => 4 - (intOf i).toNat)
  case atStart => exact ⟨0, by decide, rfl, rfl, hb⟩
  case round =>
    clear hb kh kc c0 c1 c2 c3 hbn
    obtain ⟨k, hk, rfl, rfl, hb⟩ := hrel
    by_cases h4 : k < 4
    · replace hi := hi k h4
      have HN : Hid (putS id v a b c d k ++ be2 ([a, b, c, d].getD k 0) = putS id v a b c d (k + 1)) := putS_next id v a b c d k h4
      have hz : (putS id v a b c d k).size + (be2 ([a, b, c, d].getD k 0)).size ≤ 1000 := by
        have := putS_size id v a b c d k
        rw [size2]; omega
      obtain ⟨x, hx⟩ : ∃ x, x = [a, b, c, d].getD k 0 := ⟨_, rfl⟩
      rw [← hx] at hi HN hz
      obtain ⟨S, hS⟩ : ∃ S, S = putS id v a b c d k := ⟨_, rfl⟩
      rw [← hS] at hz HN ⊢
      have h4' : (k : Int) < 4 := by omega
      clear hx hS
      go_wp2_with (go_at_call 74; go_must (refine (put16_any x _).mono ?_); rintro e w2 ⟨rfl, b2⟩; replace hb := next hb b2; clear b2)
      go_roundw
      case rel => exact ⟨k + 1, by omega, by rw [HN.out], by go_num, hb⟩
      case measure => simp [intOf]; omega
    · have h4' : k = 4 := by omega
      subst h4'
      go_wp2
      go_ret2
      exact ⟨rfl, hb⟩

end Go.Proofs.Ytcapankhobnfeaa

/- What split of package head gives, for every argument. -/
namespace Go.Proofs.Ytcapankhobnfeaa
open Go.RowKit

/-- An empty api.Head. -/
def headZ : Array Value := headV 0 false 0 false false false false 0 0
/-- The nine cells of an api.Head. -/
theorem Blk.nine {w : World} {g : Nat} {id : Int} {qr : Bool} {op : Int} {aa tc rd ra : Bool} {z rc : Int} {t : TypeId} (k : Blk w g (headV id qr op aa tc rd ra z rc) t) :
    w.cell? ⟨g, 0, none⟩ = some (.int .i64 id) ∧ w.cell? ⟨g, 1, none⟩ = some (.bool qr) ∧ w.cell? ⟨g, 2, none⟩ = some (.int .i64 op) ∧ w.cell? ⟨g, 3, none⟩ = some (.bool aa) ∧ w.cell? ⟨g, 4, none⟩ = some (.bool tc) ∧ w.cell? ⟨g, 5, none⟩ = some (.bool rd) ∧ w.cell? ⟨g, 6, none⟩ = some (.bool ra) ∧ w.cell? ⟨g, 7, none⟩ = some (.int .i64 z) ∧ w.cell? ⟨g, 8, none⟩ = some (.int .i64 rc) :=
  ⟨k.cell 0, k.cell 1, k.cell 2, k.cell 3, k.cell 4, k.cell 5, k.cell 6, k.cell 7, k.cell 8⟩
theorem Blk.open9 {w : World} {g : Nat} {C : Array Value} {t : TypeId} (k : Blk w g C t) :
    w.frozen? ⟨g, 0, none⟩ = false ∧ w.frozen? ⟨g, 1, none⟩ = false ∧ w.frozen? ⟨g, 2, none⟩ = false ∧ w.frozen? ⟨g, 3, none⟩ = false ∧ w.frozen? ⟨g, 4, none⟩ = false ∧ w.frozen? ⟨g, 5, none⟩ = false ∧ w.frozen? ⟨g, 6, none⟩ = false ∧ w.frozen? ⟨g, 7, none⟩ = false ∧ w.frozen? ⟨g, 8, none⟩ = false :=
  ⟨k.frozen 0, k.frozen 1, k.frozen 2, k.frozen 3, k.frozen 4, k.frozen 5, k.frozen 6, k.frozen 7, k.frozen 8⟩

theorem top_bits (x : Int) (k : Nat) (d q p : Int) (hd0 : 0 ≤ d) (hq0 : 0 ≤ q) (hp0 : 0 ≤ p) (hd : d * 2 ^ k = p) (hp : p * q = 65536) (h0 : 0 ≤ x) : x * 2 ^ k % 65536 / p = x / d % q := by
  obtain ⟨x, rfl⟩ := Int.eq_ofNat_of_zero_le h0
  obtain ⟨d, rfl⟩ := Int.eq_ofNat_of_zero_le hd0
  obtain ⟨q, rfl⟩ := Int.eq_ofNat_of_zero_le hq0
  obtain ⟨p, rfl⟩ := Int.eq_ofNat_of_zero_le hp0
  have hd' : d * 2 ^ k = p := by exact_mod_cast hd
  have hp' : p * q = 65536 := by
    have := congrArg Int.toNat hp
    rwa [← Int.natCast_mul, Int.toNat_natCast] at this
  have key : x * 2 ^ k % 65536 / p = x / d % q := by
    rw [← hp', ← hd', show d * 2 ^ k * q = d * q * 2 ^ k from Nat.mul_right_comm _ _ _, Nat.mul_mod_mul_right, Nat.mul_div_mul_right _ _ (Nat.two_pow_pos k), Nat.mod_mul_right_div_self]
  have key2 := congrArg (fun n : Nat => (n : Int)) key
  simp only [Int.natCast_ediv, Int.natCast_emod, Int.natCast_mul, Int.natCast_pow] at key2
  exact key2

/-- A header stored cell by cell. -/
theorem Blk.put9 {w : World} {g : Nat} {id' : Int} {qr' : Bool} {op' : Int} {aa' tc' rd' ra' : Bool} {z' rc' : Int} {t : TypeId} (k : Blk w g (headV id' qr' op' aa' tc' rd' ra' z' rc') t) (id : Int) (qr : Bool) (op : Int) (aa tc rd ra : Bool) (z rc : Int) :
    Blk (((((((((w.setCell ⟨g, 0, none⟩ (.int .i64 id)).setCell ⟨g, 1, none⟩ (.bool qr)).setCell ⟨g, 2, none⟩ (.int .i64 op)).setCell ⟨g, 3, none⟩ (.bool aa)).setCell ⟨g, 4, none⟩ (.bool tc)).setCell ⟨g, 5, none⟩ (.bool rd)).setCell ⟨g, 6, none⟩ (.bool ra)).setCell ⟨g, 7, none⟩ (.int .i64 z)).setCell ⟨g, 8, none⟩ (.int .i64 rc)) g (headV id qr op aa tc rd ra z rc) t := by
  have q0 : Blk (w.setCell ⟨g, 0, none⟩ (.int .i64 id)) g (headV id qr' op' aa' tc' rd' ra' z' rc') t := k.set 0 _
  have q1 : Blk ((w.setCell ⟨g, 0, none⟩ (.int .i64 id)).setCell ⟨g, 1, none⟩ (.bool qr)) g (headV id qr op' aa' tc' rd' ra' z' rc') t := q0.set 1 _
  have q2 : Blk (((w.setCell ⟨g, 0, none⟩ (.int .i64 id)).setCell ⟨g, 1, none⟩ (.bool qr)).setCell ⟨g, 2, none⟩ (.int .i64 op)) g (headV id qr op aa' tc' rd' ra' z' rc') t := q1.set 2 _
  have q3 : Blk ((((w.setCell ⟨g, 0, none⟩ (.int .i64 id)).setCell ⟨g, 1, none⟩ (.bool qr)).setCell ⟨g, 2, none⟩ (.int .i64 op)).setCell ⟨g, 3, none⟩ (.bool aa)) g (headV id qr op aa tc' rd' ra' z' rc') t := q2.set 3 _
  have q4 : Blk (((((w.setCell ⟨g, 0, none⟩ (.int .i64 id)).setCell ⟨g, 1, none⟩ (.bool qr)).setCell ⟨g, 2, none⟩ (.int .i64 op)).setCell ⟨g, 3, none⟩ (.bool aa)).setCell ⟨g, 4, none⟩ (.bool tc)) g (headV id qr op aa tc rd' ra' z' rc') t := q3.set 4 _
  have q5 : Blk ((((((w.setCell ⟨g, 0, none⟩ (.int .i64 id)).setCell ⟨g, 1, none⟩ (.bool qr)).setCell ⟨g, 2, none⟩ (.int .i64 op)).setCell ⟨g, 3, none⟩ (.bool aa)).setCell ⟨g, 4, none⟩ (.bool tc)).setCell ⟨g, 5, none⟩ (.bool rd)) g (headV id qr op aa tc rd ra' z' rc') t := q4.set 5 _
  have q6 : Blk (((((((w.setCell ⟨g, 0, none⟩ (.int .i64 id)).setCell ⟨g, 1, none⟩ (.bool qr)).setCell ⟨g, 2, none⟩ (.int .i64 op)).setCell ⟨g, 3, none⟩ (.bool aa)).setCell ⟨g, 4, none⟩ (.bool tc)).setCell ⟨g, 5, none⟩ (.bool rd)).setCell ⟨g, 6, none⟩ (.bool ra)) g (headV id qr op aa tc rd ra z' rc') t := q5.set 6 _
  have q7 : Blk ((((((((w.setCell ⟨g, 0, none⟩ (.int .i64 id)).setCell ⟨g, 1, none⟩ (.bool qr)).setCell ⟨g, 2, none⟩ (.int .i64 op)).setCell ⟨g, 3, none⟩ (.bool aa)).setCell ⟨g, 4, none⟩ (.bool tc)).setCell ⟨g, 5, none⟩ (.bool rd)).setCell ⟨g, 6, none⟩ (.bool ra)).setCell ⟨g, 7, none⟩ (.int .i64 z)) g (headV id qr op aa tc rd ra z rc') t := q6.set 7 _
  have q8 : Blk (((((((((w.setCell ⟨g, 0, none⟩ (.int .i64 id)).setCell ⟨g, 1, none⟩ (.bool qr)).setCell ⟨g, 2, none⟩ (.int .i64 op)).setCell ⟨g, 3, none⟩ (.bool aa)).setCell ⟨g, 4, none⟩ (.bool tc)).setCell ⟨g, 5, none⟩ (.bool rd)).setCell ⟨g, 6, none⟩ (.bool ra)).setCell ⟨g, 7, none⟩ (.int .i64 z)).setCell ⟨g, 8, none⟩ (.int .i64 rc)) g (headV id qr op aa tc rd ra z rc) t := q7.set 8 _
  exact q8
theorem put9_other {w : World} {g b : Nat} {C : Array Value} {t : TypeId} (k : Blk w b C t) (h : b ≠ g) (id : Int) (qr : Bool) (op : Int) (aa tc rd ra : Bool) (z rc : Int) :
    Blk (((((((((w.setCell ⟨g, 0, none⟩ (.int .i64 id)).setCell ⟨g, 1, none⟩ (.bool qr)).setCell ⟨g, 2, none⟩ (.int .i64 op)).setCell ⟨g, 3, none⟩ (.bool aa)).setCell ⟨g, 4, none⟩ (.bool tc)).setCell ⟨g, 5, none⟩ (.bool rd)).setCell ⟨g, 6, none⟩ (.bool ra)).setCell ⟨g, 7, none⟩ (.int .i64 z)).setCell ⟨g, 8, none⟩ (.int .i64 rc)) b C t :=
  ((((((((k.other h 0 _).other h 1 _).other h 2 _).other h 3 _).other h 4 _).other h 5 _).other h 6 _).other h 7 _).other h 8 _
theorem put9_below {w0 w : World} {g : Nat} (k : Below w0.heap.size w0 w) (h : w0.heap.size ≤ g) (id : Int) (qr : Bool) (op : Int) (aa tc rd ra : Bool) (z rc : Int) :
    Below w0.heap.size w0 (((((((((w.setCell ⟨g, 0, none⟩ (.int .i64 id)).setCell ⟨g, 1, none⟩ (.bool qr)).setCell ⟨g, 2, none⟩ (.int .i64 op)).setCell ⟨g, 3, none⟩ (.bool aa)).setCell ⟨g, 4, none⟩ (.bool tc)).setCell ⟨g, 5, none⟩ (.bool rd)).setCell ⟨g, 6, none⟩ (.bool ra)).setCell ⟨g, 7, none⟩ (.int .i64 z)).setCell ⟨g, 8, none⟩ (.int .i64 rc)) :=
  ((((((((k.setCell (p := ⟨g, 0, none⟩) h _).setCell (p := ⟨g, 1, none⟩) h _).setCell (p := ⟨g, 2, none⟩) h _).setCell (p := ⟨g, 3, none⟩) h _).setCell (p := ⟨g, 4, none⟩) h _).setCell (p := ⟨g, 5, none⟩) h _).setCell (p := ⟨g, 6, none⟩) h _).setCell (p := ⟨g, 7, none⟩) h _).setCell (p := ⟨g, 8, none⟩) h _

/-- The header of a word. -/
def headW (id x : Int) : Array Value := headV id (x / 32768 % 2 == 1) (x / 2048 % 16) (x / 1024 % 2 == 1) (x / 512 % 2 == 1) (x / 256 % 2 == 1) (x / 128 % 2 == 1) (x / 16 % 8) (x / 1 % 16)

end Go.Proofs.Ytcapankhobnfeaa

/- What Get of package head gives, for every argument: its parts. -/
namespace Go.Proofs.Ytcapankhobnfeaa
open Go.RowKit

/-- Between two worlds one block is written; all else that lay there lies as it lay. -/
def Moves (w w' : World) (ga : Nat) : Prop := (∀ b B t, b ≠ ga → Blk w b B t → Blk w' b B t) ∧ (∀ w0 : World, w0.heap.size ≤ ga → Below w0.heap.size w0 w → Below w0.heap.size w0 w')

/-- The counts of a message so far. -/
def cntC (s : ByteArray) : Nat → Array Value
  | 0 => cntV 0 0 0 0
  | 1 => cntV (val s 4 2) 0 0 0
  | 2 => cntV (val s 4 2) (val s 6 2) 0 0
  | 3 => cntV (val s 4 2) (val s 6 2) (val s 8 2) 0
  | _ => cntV (val s 4 2) (val s 6 2) (val s 8 2) (val s 10 2)
theorem cnt_set (s : ByteArray) (k : Nat) (h : k < 4) : (cntC s k).setIfInBounds k (.int .i64 (val s (4 + 2 * k) 2)) = cntC s (k + 1) := by
  have : k = 0 ∨ k = 1 ∨ k = 2 ∨ k = 3 := by omega
  rcases this with rfl | rfl | rfl | rfl <;> rfl
theorem cnt_at (s : ByteArray) (k : Nat) (h : k < 4) : (cntC s k)[k]? = some (.int .i64 0) := by
  have : k = 0 ∨ k = 1 ∨ k = 2 ∨ k = 3 := by omega
  rcases this with rfl | rfl | rfl | rfl <;> rfl

/-- What Get holds while it goes on: its argument, its two results' places, the counts so far, the place in s. -/
structure GAt (w0 w : World) (gs gr gq gc ga : Nat) (s : ByteArray) (C : Array Value) (k : Nat) : Prop where
  str : Blk w gs #[.string s] 9
  res : Blk w gr headZ 25
  out : Blk w gq (cntV 0 0 0 0) 81
  cnt : Blk w gc C 81
  pos : Blk w ga #[.int .i64 (k : Int)] 3
  below : Below w0.heap.size w0 w
  ne : (gs ≠ ga ∧ gr ≠ ga ∧ gq ≠ ga ∧ gc ≠ ga) ∧ (gs ≠ gc ∧ gr ≠ gc ∧ gq ≠ gc ∧ ga ≠ gc)
  new : w0.heap.size ≤ gr ∧ w0.heap.size ≤ gq ∧ w0.heap.size ≤ gc ∧ w0.heap.size ≤ ga

theorem GAt.next {w0 w w' : World} {gs gr gq gc ga : Nat} {s : ByteArray} {C : Array Value} {k m : Nat} (j : GAt w0 w gs gr gq gc ga s C k) (ha : Blk w' ga #[.int .i64 (m : Int)] 3) (hm : Moves w w' ga) : GAt w0 w' gs gr gq gc ga s C m :=
  ⟨hm.1 _ _ _ j.ne.1.1 j.str, hm.1 _ _ _ j.ne.1.2.1 j.res, hm.1 _ _ _ j.ne.1.2.2.1 j.out, hm.1 _ _ _ j.ne.1.2.2.2 j.cnt, ha, hm.2 _ j.new.2.2.2 j.below, j.ne, j.new⟩
theorem GAt.past {w0 w w' : World} {gs gr gq gc ga : Nat} {s : ByteArray} {C : Array Value} {k : Nat} (j : GAt w0 w gs gr gq gc ga s C k) (hb : Below w.heap.size w w') : GAt w0 w' gs gr gq gc ga s C k :=
  ⟨j.str.below hb, j.res.below hb, j.out.below hb, j.cnt.below hb, j.pos.below hb, Go.Proofs.Ytcapankhobnfeaa.next j.below hb, j.ne, j.new⟩
theorem GAt.put {w0 w : World} {gs gr gq gc ga : Nat} {s : ByteArray} {C : Array Value} {k : Nat} (j : GAt w0 w gs gr gq gc ga s C k) (i : Nat) (v : Value) (C' : Array Value) (hC : C.setIfInBounds i v = C') : GAt w0 (w.setCell ⟨gc, i, none⟩ v) gs gr gq gc ga s C' k :=
  ⟨j.str.other j.ne.2.1 i v, j.res.other j.ne.2.2.1 i v, j.out.other j.ne.2.2.2.1 i v, hC ▸ j.cnt.set i v, j.pos.other j.ne.2.2.2.2 i v, j.below.setCell j.new.2.2.1 v, j.ne, j.new⟩

/-- The four cells of counts. -/
theorem Blk.four {w : World} {g : Nat} {a b c d : Int} {t : TypeId} (k : Blk w g (cntV a b c d) t) :
    w.cell? ⟨g, 0, none⟩ = some (.int .i64 a) ∧ w.cell? ⟨g, 1, none⟩ = some (.int .i64 b) ∧ w.cell? ⟨g, 2, none⟩ = some (.int .i64 c) ∧ w.cell? ⟨g, 3, none⟩ = some (.int .i64 d) :=
  ⟨k.cell 0, k.cell 1, k.cell 2, k.cell 3⟩
theorem Blk.open4 {w : World} {g : Nat} {C : Array Value} {t : TypeId} (k : Blk w g C t) :
    w.frozen? ⟨g, 0, none⟩ = false ∧ w.frozen? ⟨g, 1, none⟩ = false ∧ w.frozen? ⟨g, 2, none⟩ = false ∧ w.frozen? ⟨g, 3, none⟩ = false :=
  ⟨k.frozen 0, k.frozen 1, k.frozen 2, k.frozen 3⟩
/-- Counts stored cell by cell. -/
theorem Blk.put4 {w : World} {g : Nat} {a' b' c' d' : Int} {t : TypeId} (k : Blk w g (cntV a' b' c' d') t) (a b c d : Int) :
    Blk ((((w.setCell ⟨g, 0, none⟩ (.int .i64 a)).setCell ⟨g, 1, none⟩ (.int .i64 b)).setCell ⟨g, 2, none⟩ (.int .i64 c)).setCell ⟨g, 3, none⟩ (.int .i64 d)) g (cntV a b c d) t := by
  have q0 : Blk (w.setCell ⟨g, 0, none⟩ (.int .i64 a)) g (cntV a b' c' d') t := k.set 0 _
  have q1 : Blk ((w.setCell ⟨g, 0, none⟩ (.int .i64 a)).setCell ⟨g, 1, none⟩ (.int .i64 b)) g (cntV a b c' d') t := q0.set 1 _
  have q2 : Blk (((w.setCell ⟨g, 0, none⟩ (.int .i64 a)).setCell ⟨g, 1, none⟩ (.int .i64 b)).setCell ⟨g, 2, none⟩ (.int .i64 c)) g (cntV a b c d') t := q1.set 2 _
  have q3 : Blk ((((w.setCell ⟨g, 0, none⟩ (.int .i64 a)).setCell ⟨g, 1, none⟩ (.int .i64 b)).setCell ⟨g, 2, none⟩ (.int .i64 c)).setCell ⟨g, 3, none⟩ (.int .i64 d)) g (cntV a b c d) t := q2.set 3 _
  exact q3
theorem put4_other {w : World} {g b0 : Nat} {C : Array Value} {t : TypeId} (k : Blk w b0 C t) (h : b0 ≠ g) (a b c d : Int) :
    Blk ((((w.setCell ⟨g, 0, none⟩ (.int .i64 a)).setCell ⟨g, 1, none⟩ (.int .i64 b)).setCell ⟨g, 2, none⟩ (.int .i64 c)).setCell ⟨g, 3, none⟩ (.int .i64 d)) b0 C t :=
  (((k.other h 0 _).other h 1 _).other h 2 _).other h 3 _
theorem put4_below {w0 w : World} {g : Nat} (k : Below w0.heap.size w0 w) (h : w0.heap.size ≤ g) (a b c d : Int) :
    Below w0.heap.size w0 ((((w.setCell ⟨g, 0, none⟩ (.int .i64 a)).setCell ⟨g, 1, none⟩ (.int .i64 b)).setCell ⟨g, 2, none⟩ (.int .i64 c)).setCell ⟨g, 3, none⟩ (.int .i64 d)) :=
  (((k.setCell (p := ⟨g, 0, none⟩) h _).setCell (p := ⟨g, 1, none⟩) h _).setCell (p := ⟨g, 2, none⟩) h _).setCell (p := ⟨g, 3, none⟩) h _

end Go.Proofs.Ytcapankhobnfeaa

/- What Get of package head gives, for every argument. -/
namespace Go.Proofs.Ytcapankhobnfeaa
open Go.RowKit

theorem val2_lt (s : ByteArray) (k : Nat) : 0 ≤ val s k 2 ∧ val s k 2 < 65536 := val_lt s k 2

/-- The world in which Get begins. -/
theorem get_start (s : ByteArray) (w : World) : GAt w (((((w.alloc (.cells #[.string s] 9)).alloc (.cells headZ 25)).alloc (.cells (cntV 0 0 0 0) 81)).alloc (.cells (cntV 0 0 0 0) 81)).alloc (.cells #[.int .i64 0] 3)) w.heap.size (w.heap.size + 1) (w.heap.size + 1 + 1) (w.heap.size + 1 + 1 + 1) (w.heap.size + 1 + 1 + 1 + 1) s (cntC s 0) 0 := by
  have z1 : (w.alloc (.cells #[.string s] 9)).heap.size = w.heap.size + 1 := by simp
  have z2 : ((w.alloc (.cells #[.string s] 9)).alloc (.cells headZ 25)).heap.size = w.heap.size + 1 + 1 := by simp
  have z3 : (((w.alloc (.cells #[.string s] 9)).alloc (.cells headZ 25)).alloc (.cells (cntV 0 0 0 0) 81)).heap.size = w.heap.size + 1 + 1 + 1 := by simp
  have z4 : ((((w.alloc (.cells #[.string s] 9)).alloc (.cells headZ 25)).alloc (.cells (cntV 0 0 0 0) 81)).alloc (.cells (cntV 0 0 0 0) 81)).heap.size = w.heap.size + 1 + 1 + 1 + 1 := by simp
  refine ⟨((((Blk.new w _ _).alloc _).alloc _).alloc _).alloc _, ?_, ?_, ?_, ?_, lay (lay (lay (lay (lay (Below.refl _ _) _) _) _) _) _, by omega, by omega⟩
  · have := (((Blk.new (w.alloc (.cells #[.string s] 9)) headZ 25).alloc (.cells (cntV 0 0 0 0) 81)).alloc (.cells (cntV 0 0 0 0) 81)).alloc (.cells #[.int .i64 0] 3)
    rw [z1] at this; exact this
  · have := ((Blk.new ((w.alloc (.cells #[.string s] 9)).alloc (.cells headZ 25)) (cntV 0 0 0 0) 81).alloc (.cells (cntV 0 0 0 0) 81)).alloc (.cells #[.int .i64 0] 3)
    rw [z2] at this; exact this
  · have := (Blk.new (((w.alloc (.cells #[.string s] 9)).alloc (.cells headZ 25)).alloc (.cells (cntV 0 0 0 0) 81)) (cntV 0 0 0 0) 81).alloc (.cells #[.int .i64 0] 3)
    rw [z3] at this; exact this
  · have := Blk.new ((((w.alloc (.cells #[.string s] 9)).alloc (.cells headZ 25)).alloc (.cells (cntV 0 0 0 0) 81)).alloc (.cells (cntV 0 0 0 0) 81)) #[.int .i64 0] 3
    rw [z4] at this; exact this

/-- What Get gives. -/
def getT (s : ByteArray) : Value := if 12 ≤ s.size then .tuple #[.agg (headW (val s 0 2) (val s 2 2)), .agg (cntC s 4), .int .i64 0] else .tuple #[.agg headZ, .agg (cntV 0 0 0 0), .int .i64 600]
/-- What Put gives. -/
def putT (id : Int) (qr : Bool) (op : Int) (aa tc rd ra : Bool) (z rc a b c d : Int) : Value := if mayH id op z rc a b c d then .tuple #[.string (putS id (wordH qr op aa tc rd ra z rc) a b c d 4), .int .i64 0] else .tuple #[.string ⟨#[]⟩, .int .i64 600]
theorem put_any (id : Int) (qr : Bool) (op : Int) (aa tc rd ra : Bool) (z rc a b c d : Int) (w : World) :
    Calls Try.prog 56 #[.agg (headV id qr op aa tc rd ra z rc), .agg (cntV a b c d)] w fun e w' => e = .returned (putT id qr op aa tc rd ra z rc a b c d) ∧ Below w.heap.size w w' := by
  unfold putT
  split
  · rename_i h; exact put_yes id qr op aa tc rd ra z rc a b c d w h
  · rename_i h; exact put_no id qr op aa tc rd ra z rc a b c d w (by simpa using h)

end Go.Proofs.Ytcapankhobnfeaa
