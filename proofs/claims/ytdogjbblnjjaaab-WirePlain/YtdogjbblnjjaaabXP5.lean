/- What join of package head gives, for a header that may be written. -/
import Derived.Test.YtdogjbblnjjaaabXP4
import Derived.Laws.EntriesVeiled
namespace Go.Proofs.Ytdogjbblnjjaaab
open Go.RowKit

theorem wraps_u16 (n : Int) (h₀ : 0 ≤ n) (h₁ : n < 2 ^ 16) : IntKind.u16.wrap n = n := by
  have : IntKind.u16.wrap n = n % 65536 := by simp [IntKind.wrap, IntKind.bits, IntKind.signed]
  rw [this]; omega

/-- A flag as a number. -/
def bI (b : Bool) : Int := if b then 1 else 0
theorem bI_lt (b : Bool) : 0 ≤ bI b ∧ bI b < 2 := by cases b <;> decide
/-- The flags and the small numbers of a header as one number. -/
def wordH (qr : Bool) (op : Int) (aa tc rd ra : Bool) (z rc : Int) : Int := 32768 * bI qr + 2048 * op + 1024 * bI aa + 512 * bI tc + 256 * bI rd + 128 * bI ra + 16 * z + rc

theorem add_any (x n q v : Int) (g : Nat) (w : World) (hg : Blk w g #[.int .u16 v] 80) (hn : (n = 1 ∧ q = 2) ∨ (n = 3 ∧ q = 8) ∨ (n = 4 ∧ q = 16)) (h0 : 0 ≤ v) (h1 : v * q + q ≤ 65536) (x0 : 0 ≤ x) (x1 : x < q) :
    Calls Try.prog 53 #[.int .i64 x, .int .u64 n, .pointer (some ⟨g, 0, none⟩)] w fun e w' => e = .returned (.tuple #[]) ∧ w' = w.setCell ⟨g, 0, none⟩ (.int .u16 (v * q + x)) := by
  have c0 : w.cell? ⟨g, 0, none⟩ = some (.int .u16 v) := hg.cell 0
  have f0 := hg.frozen 0
  rcases hn with ⟨rfl, rfl⟩ | ⟨rfl, rfl⟩ | ⟨rfl, rfl⟩
  · have hor : bits .or .u16 (v * 2) x = v * 2 + x := bits_join .u16 16 (by decide) wraps_u16 1 _ _ (by omega) (by omega) (by omega) (by omega) (by omega) (by omega)
    go_enter Try.func53, Try.ntmps53
    go_wp2
    go_end0
    exact ⟨rfl, rfl⟩
  · have hor : bits .or .u16 (v * 8) x = v * 8 + x := bits_join .u16 16 (by decide) wraps_u16 3 _ _ (by omega) (by omega) (by omega) (by omega) (by omega) (by omega)
    go_enter Try.func53, Try.ntmps53
    go_wp2
    go_end0
    exact ⟨rfl, rfl⟩
  · have hor : bits .or .u16 (v * 16) x = v * 16 + x := bits_join .u16 16 (by decide) wraps_u16 4 _ _ (by omega) (by omega) (by omega) (by omega) (by omega) (by omega)
    go_enter Try.func53, Try.ntmps53
    go_wp2
    go_end0
    exact ⟨rfl, rfl⟩

/-- The function value add. -/
def addF (g : Nat) : Value := .func (.func 53) #[] #[.pointer (some ⟨g, 0, none⟩)]

theorem flag_any (on : Bool) (v : Int) (g ga : Nat) (w : World) (hg : Blk w g #[.int .u16 v] 80) (ha : Blk w ga #[addF g] 103) (h0 : 0 ≤ v) (h1 : v * 2 + 2 ≤ 65536) :
    Calls Try.prog 54 #[.bool on, .pointer (some ⟨ga, 0, none⟩)] w fun e w' => e = .returned (.tuple #[]) ∧ w' = w.setCell ⟨g, 0, none⟩ (.int .u16 (v * 2 + bI on)) := by
  have c0 : w.cell? ⟨ga, 0, none⟩ = some (.func (.func 53) #[] #[.pointer (some ⟨g, 0, none⟩)]) := ha.cell 0
  cases on with
  | true =>
    rw [show bI true = 1 from rfl]
    go_enter Try.func54, Try.ntmps54
    go_wp2_with (go_at_call 53; go_must (refine (add_any 1 1 2 v g _ hg (.inl ⟨rfl, rfl⟩) h0 h1 (by decide) (by decide)).mono ?_); rintro e w1 ⟨rfl, hw⟩)
    go_end0
    exact ⟨rfl, rfl⟩
  | false =>
    rw [show bI false = 0 from rfl]
    go_enter Try.func54, Try.ntmps54
    go_wp2_with (go_at_call 53; go_must (refine (add_any 0 1 2 v g _ hg (.inl ⟨rfl, rfl⟩) h0 h1 (by decide) (by decide)).mono ?_); rintro e w1 ⟨rfl, hw⟩)
    go_end0
    exact ⟨rfl, by rw [Int.add_zero]⟩

/-- What join holds while it goes on: the header, k bits of the word, the function add. -/
structure JAt (w0 w : World) (gh g ga : Nat) (H : Array Value) (k : Nat) (v : Int) : Prop where
  head : Blk w gh H 29
  word : Blk w g #[.int .u16 v] 80
  add : Blk w ga #[addF g] 103
  below : Below w0.heap.size w0 w
  hd : gh ≠ g
  ad : ga ≠ g
  new : w0.heap.size ≤ g
  lo : 0 ≤ v
  hi : v < 2 ^ k

theorem JAt.set {w0 w w' : World} {gh g ga : Nat} {H : Array Value} {k : Nat} {v : Int} (j : JAt w0 w gh g ga H k v) {m : Nat} {v' : Int} (hw : w' = w.setCell ⟨g, 0, none⟩ (.int .u16 v')) (h0 : 0 ≤ v') (h1 : v' < 2 ^ m) : JAt w0 w' gh g ga H m v' := by
  subst hw
  exact ⟨j.head.other j.hd 0 _, j.word.set 0 _, j.add.other j.ad 0 _, j.below.setCell j.new _, j.hd, j.ad, j.new, h0, h1⟩

theorem pow_steps {k n : Nat} {q v x : Int} (hn : (n = 1 ∧ q = 2) ∨ (n = 3 ∧ q = 8) ∨ (n = 4 ∧ q = 16)) (hk : k + n ≤ 16) (h0 : 0 ≤ v) (h1 : v < 2 ^ k) (x0 : 0 ≤ x) (x1 : x < q) : v * q + q ≤ 65536 ∧ 0 ≤ v * q + x ∧ v * q + x < 2 ^ (k + n) := by
  have e : (2 : Int) ^ (k + n) = 2 ^ k * q := by
    rw [Int.pow_add]
    rcases hn with ⟨rfl, rfl⟩ | ⟨rfl, rfl⟩ | ⟨rfl, rfl⟩ <;> rfl
  have l : (2 : Int) ^ (k + n) ≤ 2 ^ 16 := by
    have : (2 : Nat) ^ (k + n) ≤ 2 ^ 16 := Nat.pow_le_pow_right (by decide) hk
    exact_mod_cast this
  rw [e] at l ⊢
  have l2 : (2 : Int) ^ 16 = 65536 := by decide
  rw [l2] at l
  generalize (2 : Int) ^ k = p at *
  rcases hn with ⟨rfl, rfl⟩ | ⟨rfl, rfl⟩ | ⟨rfl, rfl⟩ <;> omega

theorem jAdd {w0 w : World} {gh g ga : Nat} {H : Array Value} {k : Nat} {v : Int} (j : JAt w0 w gh g ga H k v) (x n q : Int) (m : Nat) (hm : n = (m : Int)) (hn : (m = 1 ∧ q = 2) ∨ (m = 3 ∧ q = 8) ∨ (m = 4 ∧ q = 16)) (hk : k + m ≤ 16) (x0 : 0 ≤ x) (x1 : x < q) :
    Calls Try.prog 53 #[.int .i64 x, .int .u64 n, .pointer (some ⟨g, 0, none⟩)] w fun e w' => e = .returned (.tuple #[]) ∧ JAt w0 w' gh g ga H (k + m) (v * q + x) := by
  obtain ⟨h1, h2, h3⟩ := pow_steps hn hk j.lo j.hi x0 x1
  have hn2 : (n = 1 ∧ q = 2) ∨ (n = 3 ∧ q = 8) ∨ (n = 4 ∧ q = 16) := by omega
  exact (add_any x n q v g w j.word hn2 j.lo h1 x0 x1).mono fun e w' ⟨he, hw⟩ => ⟨he, j.set hw h2 h3⟩

theorem jFlag {w0 w : World} {gh g ga : Nat} {H : Array Value} {k : Nat} {v : Int} (j : JAt w0 w gh g ga H k v) (on : Bool) (hk : k + 1 ≤ 16) :
    Calls Try.prog 54 #[.bool on, .pointer (some ⟨ga, 0, none⟩)] w fun e w' => e = .returned (.tuple #[]) ∧ JAt w0 w' gh g ga H (k + 1) (v * 2 + bI on) := by
  obtain ⟨b0, b1⟩ := bI_lt on
  obtain ⟨h1, h2, h3⟩ := pow_steps (n := 1) (q := 2) (.inl ⟨rfl, rfl⟩) hk j.lo j.hi b0 b1
  exact (flag_any on v g ga w j.word j.add j.lo h1).mono fun e w' ⟨he, hw⟩ => ⟨he, j.set hw h2 h3⟩

/-- The cells that join reads. -/
theorem JAt.cells {w0 w : World} {gh g ga : Nat} {id : Int} {qr : Bool} {op : Int} {aa tc rd ra : Bool} {z rc : Int} {k : Nat} {v : Int} (j : JAt w0 w gh g ga (headV id qr op aa tc rd ra z rc) k v) :
    w.cell? ⟨gh, 1, none⟩ = some (.bool qr) ∧ w.cell? ⟨gh, 2, none⟩ = some (.int .i64 op) ∧ w.cell? ⟨gh, 3, none⟩ = some (.bool aa) ∧ w.cell? ⟨gh, 4, none⟩ = some (.bool tc) ∧ w.cell? ⟨gh, 5, none⟩ = some (.bool rd) ∧ w.cell? ⟨gh, 6, none⟩ = some (.bool ra) ∧ w.cell? ⟨gh, 7, none⟩ = some (.int .i64 z) ∧ w.cell? ⟨gh, 8, none⟩ = some (.int .i64 rc) ∧ w.cell? ⟨g, 0, none⟩ = some (.int .u16 v) ∧ w.cell? ⟨ga, 0, none⟩ = some (.func (.func 53) #[] #[.pointer (some ⟨g, 0, none⟩)]) :=
  ⟨j.head.cell 1, j.head.cell 2, j.head.cell 3, j.head.cell 4, j.head.cell 5, j.head.cell 6, j.head.cell 7, j.head.cell 8, j.word.cell 0, j.add.cell 0⟩

set_option maxRecDepth 20000 in
set_option maxHeartbeats 4000000 in
theorem join_any (id : Int) (qr : Bool) (op : Int) (aa tc rd ra : Bool) (z rc : Int) (w : World) (ho : fitI 16 op = true) (hz : fitI 8 z = true) (hr : fitI 16 rc = true) :
    Calls Try.prog 36 #[.agg (headV id qr op aa tc rd ra z rc)] w fun e w' => e = .returned (.int .u16 (wordH qr op aa tc rd ra z rc)) ∧ Below w.heap.size w w' := by
  have O := fit_iff.1 ho
  have Z := fit_iff.1 hz
  have R := fit_iff.1 hr
  have hmf : ∀ (fn : Fn) (first cap : Array Value) (w : World), (Instr.makeFunc fn first cap).run Try.prog w = .ok (.func fn first cap) w := fun _ _ _ _ => rfl
  have j : JAt w (((w.alloc (.cells (headV id qr op aa tc rd ra z rc) 29)).alloc (.cells #[.int .u16 0] 80)).alloc (.cells #[addF (w.heap.size + 1)] 103)) w.heap.size (w.heap.size + 1) (w.heap.size + 1 + 1) (headV id qr op aa tc rd ra z rc) 0 0 := by
    have e1 : (w.alloc (.cells (headV id qr op aa tc rd ra z rc) 29)).heap.size = w.heap.size + 1 := by simp
    have e2 : ((w.alloc (.cells (headV id qr op aa tc rd ra z rc) 29)).alloc (.cells #[.int .u16 0] 80)).heap.size = w.heap.size + 1 + 1 := by simp
    refine ⟨((Blk.new w _ _).alloc _).alloc _, ?_, ?_, lay (lay (lay (Below.refl _ _) _) _) _, by omega, by omega, by omega, by decide, by decide⟩
    · have := (Blk.new (w.alloc (.cells (headV id qr op aa tc rd ra z rc) 29)) #[.int .u16 0] 80).alloc (.cells #[addF (w.heap.size + 1)] 103)
      rw [e1] at this; exact this
    · have := Blk.new ((w.alloc (.cells (headV id qr op aa tc rd ra z rc) 29)).alloc (.cells #[.int .u16 0] 80)) #[addF (w.heap.size + 1)] 103
      rw [e2] at this; exact this
  have HW : Hid (((((((bI qr * 16 + op) * 2 + bI aa) * 2 + bI tc) * 2 + bI rd) * 2 + bI ra) * 8 + z) * 16 + rc = wordH qr op aa tc rd ra z rc) := by unfold Hid wordH; omega
  have t1 : True := trivial
  have t2 : True := trivial
  unfold addF at j
  unfold headV at j ⊢
  go_enter Try.func36, Try.ntmps36
  go_wp2_with (first
    | (go_at_call 54; go_must (refine (jFlag j _ (by decide)).mono ?_); rintro e w1 ⟨rfl, j1⟩; replace j := j1; clear j1; obtain ⟨c1, c2, c3, c4, c5, c6, c7, c8, c9, c10⟩ := JAt.cells j)
    | (go_at_call 53; have _t := t1; go_must (refine (jAdd j op 4 16 4 rfl (.inr (.inr ⟨rfl, rfl⟩)) (by decide) O.1 O.2).mono ?_); rintro e w1 ⟨rfl, j1⟩; replace j := j1; clear j1 _t t1; obtain ⟨c1, c2, c3, c4, c5, c6, c7, c8, c9, c10⟩ := JAt.cells j)
    | (go_at_call 53; have _t := t2; go_must (refine (jAdd j z 3 8 3 rfl (.inr (.inl ⟨rfl, rfl⟩)) (by decide) Z.1 Z.2).mono ?_); rintro e w1 ⟨rfl, j1⟩; replace j := j1; clear j1 _t t2; obtain ⟨c1, c2, c3, c4, c5, c6, c7, c8, c9, c10⟩ := JAt.cells j)
    | (go_at_call 53; go_must (refine (jAdd j rc 4 16 4 rfl (.inr (.inr ⟨rfl, rfl⟩)) (by decide) R.1 R.2).mono ?_); rintro e w1 ⟨rfl, j1⟩; replace j := j1; clear j1; obtain ⟨c1, c2, c3, c4, c5, c6, c7, c8, c9, c10⟩ := JAt.cells j))
  go_ret
  exact ⟨congrArg (fun x => Ending.returned (.int .u16 x)) HW.out, j.below⟩

end Go.Proofs.Ytdogjbblnjjaaab
