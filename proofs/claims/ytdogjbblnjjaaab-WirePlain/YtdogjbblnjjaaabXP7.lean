/- What split of package head gives, for every argument. -/
import Derived.Test.YtdogjbblnjjaaabXP6
namespace Go.Proofs.Ytdogjbblnjjaaab
open Go.RowKit

theorem take_any (n q p v : Int) (g : Nat) (w : World) (hg : Blk w g #[.int .u16 v] 80) (hn : (n = 1 ∧ q = 2 ∧ p = 32768) ∨ (n = 3 ∧ q = 8 ∧ p = 8192) ∨ (n = 4 ∧ q = 16 ∧ p = 4096)) (h0 : 0 ≤ v) (h1 : v < 65536) :
    Calls Try.prog 47 #[.int .u64 n, .pointer (some ⟨g, 0, none⟩)] w fun e w' => e = .returned (.int .i64 (v / p)) ∧ w' = w.setCell ⟨g, 0, none⟩ (.int .u16 (v * q % 65536)) := by
  have c0 : w.cell? ⟨g, 0, none⟩ = some (.int .u16 v) := hg.cell 0
  have f0 := hg.frozen 0
  rcases hn with ⟨rfl, rfl, rfl⟩ | ⟨rfl, rfl, rfl⟩ | ⟨rfl, rfl, rfl⟩
  all_goals
    go_enter Try.func47, Try.ntmps47
    go_wp2
    go_ret
    exact ⟨rfl, rfl⟩

/-- The function value take. -/
def takeF (g : Nat) : Value := .func (.func 47) #[] #[.pointer (some ⟨g, 0, none⟩)]

theorem flagOf_any (v : Int) (g gt : Nat) (w : World) (hg : Blk w g #[.int .u16 v] 80) (ht : Blk w gt #[takeF g] 96) (h0 : 0 ≤ v) (h1 : v < 65536) :
    Calls Try.prog 48 #[.pointer (some ⟨gt, 0, none⟩)] w fun e w' => e = .returned (.bool (v / 32768 == 1)) ∧ w' = w.setCell ⟨g, 0, none⟩ (.int .u16 (v * 2 % 65536)) := by
  have c0 : w.cell? ⟨gt, 0, none⟩ = some (.func (.func 47) #[] #[.pointer (some ⟨g, 0, none⟩)]) := ht.cell 0
  go_enter Try.func48, Try.ntmps48
  go_wp2_with (go_at_call 47; go_must (refine (take_any 1 2 32768 v g _ hg (.inl ⟨rfl, rfl, rfl⟩) h0 h1).mono ?_); rintro e w1 ⟨rfl, hw⟩)
  go_ret
  exact ⟨rfl, rfl⟩

/-- An empty api.Head. -/
def headZ : Array Value := headV 0 false 0 false false false false 0 0
/-- The nine cells of an api.Head. -/
theorem Blk.nine {w : World} {g : Nat} {id : Int} {qr : Bool} {op : Int} {aa tc rd ra : Bool} {z rc : Int} {t : TypeId} (k : Blk w g (headV id qr op aa tc rd ra z rc) t) :
    w.cell? ⟨g, 0, none⟩ = some (.int .i64 id) ∧ w.cell? ⟨g, 1, none⟩ = some (.bool qr) ∧ w.cell? ⟨g, 2, none⟩ = some (.int .i64 op) ∧ w.cell? ⟨g, 3, none⟩ = some (.bool aa) ∧ w.cell? ⟨g, 4, none⟩ = some (.bool tc) ∧ w.cell? ⟨g, 5, none⟩ = some (.bool rd) ∧ w.cell? ⟨g, 6, none⟩ = some (.bool ra) ∧ w.cell? ⟨g, 7, none⟩ = some (.int .i64 z) ∧ w.cell? ⟨g, 8, none⟩ = some (.int .i64 rc) :=
  ⟨k.cell 0, k.cell 1, k.cell 2, k.cell 3, k.cell 4, k.cell 5, k.cell 6, k.cell 7, k.cell 8⟩
theorem Blk.open9 {w : World} {g : Nat} {C : Array Value} {t : TypeId} (k : Blk w g C t) :
    w.frozen? ⟨g, 0, none⟩ = false ∧ w.frozen? ⟨g, 1, none⟩ = false ∧ w.frozen? ⟨g, 2, none⟩ = false ∧ w.frozen? ⟨g, 3, none⟩ = false ∧ w.frozen? ⟨g, 4, none⟩ = false ∧ w.frozen? ⟨g, 5, none⟩ = false ∧ w.frozen? ⟨g, 6, none⟩ = false ∧ w.frozen? ⟨g, 7, none⟩ = false ∧ w.frozen? ⟨g, 8, none⟩ = false :=
  ⟨k.frozen 0, k.frozen 1, k.frozen 2, k.frozen 3, k.frozen 4, k.frozen 5, k.frozen 6, k.frozen 7, k.frozen 8⟩

/-- What split holds while it goes on: the word without its first k bits, the function take, the header so far, its result's own place. -/
structure SAt (w0 w : World) (g gr gt gh : Nat) (H : Array Value) (x : Int) (k : Nat) : Prop where
  word : Blk w g #[.int .u16 (x * 2 ^ k % 65536)] 80
  res : Blk w gr headZ 29
  take : Blk w gt #[takeF g] 96
  h : Blk w gh H 29
  below : Below w0.heap.size w0 w
  ne : (gr ≠ g ∧ gt ≠ g ∧ gh ≠ g) ∧ (g ≠ gh ∧ gr ≠ gh ∧ gt ≠ gh)
  new : w0.heap.size ≤ g ∧ w0.heap.size ≤ gr ∧ w0.heap.size ≤ gh

theorem SAt.step {w0 w w' : World} {g gr gt gh : Nat} {H : Array Value} {x : Int} {k : Nat} (j : SAt w0 w g gr gt gh H x k) (m : Nat) (q : Int) (hq : q = 2 ^ m) (hw : w' = w.setCell ⟨g, 0, none⟩ (.int .u16 (x * 2 ^ k % 65536 * q % 65536))) : SAt w0 w' g gr gt gh H x (k + m) := by
  subst hw
  have e : x * 2 ^ k % 65536 * q % 65536 = x * 2 ^ (k + m) % 65536 := by
    rw [hq, Int.pow_add, ← Int.mul_assoc, Int.mul_emod (x * 2 ^ k % 65536), Int.emod_emod_of_dvd _ (Int.dvd_refl _), ← Int.mul_emod]
  have b := j.word.set 0 (.int .u16 (x * 2 ^ k % 65536 * q % 65536))
  rw [e] at b
  exact ⟨e ▸ b, j.res.other j.ne.1.1 0 _, j.take.other j.ne.1.2.1 0 _, j.h.other j.ne.1.2.2 0 _, j.below.setCell j.new.1 _, j.ne, j.new⟩

theorem SAt.put {w0 w : World} {g gr gt gh : Nat} {H : Array Value} {x : Int} {k : Nat} (j : SAt w0 w g gr gt gh H x k) (i : Nat) (v : Value) (H' : Array Value) (hH : H.setIfInBounds i v = H') : SAt w0 (w.setCell ⟨gh, i, none⟩ v) g gr gt gh H' x k :=
  ⟨j.word.other j.ne.2.1 i _, j.res.other j.ne.2.2.1 i _, j.take.other j.ne.2.2.2 i _, hH ▸ j.h.set i _, j.below.setCell j.new.2.2 _, j.ne, j.new⟩

theorem top_bits (x : Int) (k : Nat) (d q p : Int) (hd0 : 0 ≤ d) (hq0 : 0 ≤ q) (hp0 : 0 ≤ p) (hd : d * 2 ^ k = p) (hp : p * q = 65536) (h0 : 0 ≤ x) : x * 2 ^ k % 65536 / p = x / d % q := by
  obtain ⟨x, rfl⟩ := Int.eq_ofNat_of_zero_le h0
  obtain ⟨d, rfl⟩ := Int.eq_ofNat_of_zero_le hd0
  obtain ⟨q, rfl⟩ := Int.eq_ofNat_of_zero_le hq0
  obtain ⟨p, rfl⟩ := Int.eq_ofNat_of_zero_le hp0
  have hd' : d * 2 ^ k = p := by exact_mod_cast hd
  have hp' : p * q = 65536 := by
    have := congrArg Int.toNat hp
    rwa [← Int.natCast_mul, Int.toNat_natCast] at this
  have key : x * 2 ^ k % 65536 / p = x / d % q := by
    rw [← hp', ← hd', show d * 2 ^ k * q = d * q * 2 ^ k from Nat.mul_right_comm _ _ _, Nat.mul_mod_mul_right, Nat.mul_div_mul_right _ _ (Nat.two_pow_pos k), Nat.mod_mul_right_div_self]
  have key2 := congrArg (fun n : Nat => (n : Int)) key
  simp only [Int.natCast_ediv, Int.natCast_emod, Int.natCast_mul, Int.natCast_pow] at key2
  exact key2

theorem sTake {w0 w : World} {g gr gt gh : Nat} {H : Array Value} {x : Int} {k : Nat} (j : SAt w0 w g gr gt gh H x k) (n : Int) (m : Nat) (d q p y : Int) (hn : n = (m : Int)) (hm : (m = 1 ∧ q = 2 ∧ p = 32768) ∨ (m = 3 ∧ q = 8 ∧ p = 8192) ∨ (m = 4 ∧ q = 16 ∧ p = 4096)) (hd0 : 0 ≤ d) (hd : d * 2 ^ k = p) (h0 : 0 ≤ x) (hy : x / d % q = y) :
    Calls Try.prog 47 #[.int .u64 n, .pointer (some ⟨g, 0, none⟩)] w fun e w' => e = .returned (.int .i64 y) ∧ SAt w0 w' g gr gt gh H x (k + m) := by
  have hn2 : (n = 1 ∧ q = 2 ∧ p = 32768) ∨ (n = 3 ∧ q = 8 ∧ p = 8192) ∨ (n = 4 ∧ q = 16 ∧ p = 4096) := by omega
  have hq : q = 2 ^ m := by rcases hm with ⟨rfl, rfl, _⟩ | ⟨rfl, rfl, _⟩ | ⟨rfl, rfl, _⟩ <;> rfl
  have hp : p * q = 65536 := by rcases hm with ⟨_, rfl, rfl⟩ | ⟨_, rfl, rfl⟩ | ⟨_, rfl, rfl⟩ <;> rfl
  rw [← hy, ← top_bits x k d q p hd0 (by omega) (by omega) hd hp h0]
  exact (take_any n q p _ g w j.word hn2 (by omega) (by omega)).mono fun e w' ⟨he, hw⟩ => ⟨he, j.step m q hq hw⟩

theorem sFlag {w0 w : World} {g gr gt gh : Nat} {H : Array Value} {x : Int} {k : Nat} (j : SAt w0 w g gr gt gh H x k) (d : Int) (b : Bool) (hd0 : 0 ≤ d) (hd : d * 2 ^ k = 32768) (h0 : 0 ≤ x) (hb : (x / d % 2 == 1) = b) :
    Calls Try.prog 48 #[.pointer (some ⟨gt, 0, none⟩)] w fun e w' => e = .returned (.bool b) ∧ SAt w0 w' g gr gt gh H x (k + 1) := by
  rw [← hb, ← top_bits x k d 2 32768 hd0 (by omega) (by omega) hd rfl h0]
  exact (flagOf_any _ g gt w j.word j.take (by omega) (by omega)).mono fun e w' ⟨he, hw⟩ => ⟨he, j.step 1 2 rfl hw⟩

/-- A header stored cell by cell. -/
theorem Blk.put9 {w : World} {g : Nat} {id' : Int} {qr' : Bool} {op' : Int} {aa' tc' rd' ra' : Bool} {z' rc' : Int} {t : TypeId} (k : Blk w g (headV id' qr' op' aa' tc' rd' ra' z' rc') t) (id : Int) (qr : Bool) (op : Int) (aa tc rd ra : Bool) (z rc : Int) :
    Blk (((((((((w.setCell ⟨g, 0, none⟩ (.int .i64 id)).setCell ⟨g, 1, none⟩ (.bool qr)).setCell ⟨g, 2, none⟩ (.int .i64 op)).setCell ⟨g, 3, none⟩ (.bool aa)).setCell ⟨g, 4, none⟩ (.bool tc)).setCell ⟨g, 5, none⟩ (.bool rd)).setCell ⟨g, 6, none⟩ (.bool ra)).setCell ⟨g, 7, none⟩ (.int .i64 z)).setCell ⟨g, 8, none⟩ (.int .i64 rc)) g (headV id qr op aa tc rd ra z rc) t := by
  have q0 : Blk (w.setCell ⟨g, 0, none⟩ (.int .i64 id)) g (headV id qr' op' aa' tc' rd' ra' z' rc') t := k.set 0 _
  have q1 : Blk ((w.setCell ⟨g, 0, none⟩ (.int .i64 id)).setCell ⟨g, 1, none⟩ (.bool qr)) g (headV id qr op' aa' tc' rd' ra' z' rc') t := q0.set 1 _
  have q2 : Blk (((w.setCell ⟨g, 0, none⟩ (.int .i64 id)).setCell ⟨g, 1, none⟩ (.bool qr)).setCell ⟨g, 2, none⟩ (.int .i64 op)) g (headV id qr op aa' tc' rd' ra' z' rc') t := q1.set 2 _
  have q3 : Blk ((((w.setCell ⟨g, 0, none⟩ (.int .i64 id)).setCell ⟨g, 1, none⟩ (.bool qr)).setCell ⟨g, 2, none⟩ (.int .i64 op)).setCell ⟨g, 3, none⟩ (.bool aa)) g (headV id qr op aa tc' rd' ra' z' rc') t := q2.set 3 _
  have q4 : Blk (((((w.setCell ⟨g, 0, none⟩ (.int .i64 id)).setCell ⟨g, 1, none⟩ (.bool qr)).setCell ⟨g, 2, none⟩ (.int .i64 op)).setCell ⟨g, 3, none⟩ (.bool aa)).setCell ⟨g, 4, none⟩ (.bool tc)) g (headV id qr op aa tc rd' ra' z' rc') t := q3.set 4 _
  have q5 : Blk ((((((w.setCell ⟨g, 0, none⟩ (.int .i64 id)).setCell ⟨g, 1, none⟩ (.bool qr)).setCell ⟨g, 2, none⟩ (.int .i64 op)).setCell ⟨g, 3, none⟩ (.bool aa)).setCell ⟨g, 4, none⟩ (.bool tc)).setCell ⟨g, 5, none⟩ (.bool rd)) g (headV id qr op aa tc rd ra' z' rc') t := q4.set 5 _
  have q6 : Blk (((((((w.setCell ⟨g, 0, none⟩ (.int .i64 id)).setCell ⟨g, 1, none⟩ (.bool qr)).setCell ⟨g, 2, none⟩ (.int .i64 op)).setCell ⟨g, 3, none⟩ (.bool aa)).setCell ⟨g, 4, none⟩ (.bool tc)).setCell ⟨g, 5, none⟩ (.bool rd)).setCell ⟨g, 6, none⟩ (.bool ra)) g (headV id qr op aa tc rd ra z' rc') t := q5.set 6 _
  have q7 : Blk ((((((((w.setCell ⟨g, 0, none⟩ (.int .i64 id)).setCell ⟨g, 1, none⟩ (.bool qr)).setCell ⟨g, 2, none⟩ (.int .i64 op)).setCell ⟨g, 3, none⟩ (.bool aa)).setCell ⟨g, 4, none⟩ (.bool tc)).setCell ⟨g, 5, none⟩ (.bool rd)).setCell ⟨g, 6, none⟩ (.bool ra)).setCell ⟨g, 7, none⟩ (.int .i64 z)) g (headV id qr op aa tc rd ra z rc') t := q6.set 7 _
  have q8 : Blk (((((((((w.setCell ⟨g, 0, none⟩ (.int .i64 id)).setCell ⟨g, 1, none⟩ (.bool qr)).setCell ⟨g, 2, none⟩ (.int .i64 op)).setCell ⟨g, 3, none⟩ (.bool aa)).setCell ⟨g, 4, none⟩ (.bool tc)).setCell ⟨g, 5, none⟩ (.bool rd)).setCell ⟨g, 6, none⟩ (.bool ra)).setCell ⟨g, 7, none⟩ (.int .i64 z)).setCell ⟨g, 8, none⟩ (.int .i64 rc)) g (headV id qr op aa tc rd ra z rc) t := q7.set 8 _
  exact q8
theorem put9_other {w : World} {g b : Nat} {C : Array Value} {t : TypeId} (k : Blk w b C t) (h : b ≠ g) (id : Int) (qr : Bool) (op : Int) (aa tc rd ra : Bool) (z rc : Int) :
    Blk (((((((((w.setCell ⟨g, 0, none⟩ (.int .i64 id)).setCell ⟨g, 1, none⟩ (.bool qr)).setCell ⟨g, 2, none⟩ (.int .i64 op)).setCell ⟨g, 3, none⟩ (.bool aa)).setCell ⟨g, 4, none⟩ (.bool tc)).setCell ⟨g, 5, none⟩ (.bool rd)).setCell ⟨g, 6, none⟩ (.bool ra)).setCell ⟨g, 7, none⟩ (.int .i64 z)).setCell ⟨g, 8, none⟩ (.int .i64 rc)) b C t :=
  ((((((((k.other h 0 _).other h 1 _).other h 2 _).other h 3 _).other h 4 _).other h 5 _).other h 6 _).other h 7 _).other h 8 _
theorem put9_below {w0 w : World} {g : Nat} (k : Below w0.heap.size w0 w) (h : w0.heap.size ≤ g) (id : Int) (qr : Bool) (op : Int) (aa tc rd ra : Bool) (z rc : Int) :
    Below w0.heap.size w0 (((((((((w.setCell ⟨g, 0, none⟩ (.int .i64 id)).setCell ⟨g, 1, none⟩ (.bool qr)).setCell ⟨g, 2, none⟩ (.int .i64 op)).setCell ⟨g, 3, none⟩ (.bool aa)).setCell ⟨g, 4, none⟩ (.bool tc)).setCell ⟨g, 5, none⟩ (.bool rd)).setCell ⟨g, 6, none⟩ (.bool ra)).setCell ⟨g, 7, none⟩ (.int .i64 z)).setCell ⟨g, 8, none⟩ (.int .i64 rc)) :=
  ((((((((k.setCell (p := ⟨g, 0, none⟩) h _).setCell (p := ⟨g, 1, none⟩) h _).setCell (p := ⟨g, 2, none⟩) h _).setCell (p := ⟨g, 3, none⟩) h _).setCell (p := ⟨g, 4, none⟩) h _).setCell (p := ⟨g, 5, none⟩) h _).setCell (p := ⟨g, 6, none⟩) h _).setCell (p := ⟨g, 7, none⟩) h _).setCell (p := ⟨g, 8, none⟩) h _

/-- The header of a word. -/
def headW (id x : Int) : Array Value := headV id (x / 32768 % 2 == 1) (x / 2048 % 16) (x / 1024 % 2 == 1) (x / 512 % 2 == 1) (x / 256 % 2 == 1) (x / 128 % 2 == 1) (x / 16 % 8) (x / 1 % 16)

set_option maxRecDepth 20000 in
set_option maxHeartbeats 8000000 in
theorem hsplit_any (x : Int) (w : World) (hx : 0 ≤ x) (h1 : x < 65536) :
    Calls Try.prog 29 #[.int .u16 x] w fun e w' => e = .returned (.agg (headW 0 x)) ∧ Below w.heap.size w w' := by
  unfold headW
  obtain ⟨Q, hQ⟩ : ∃ v, (x / 32768 % 2 == 1) = v := ⟨_, rfl⟩
  obtain ⟨O, hO⟩ : ∃ v, x / 2048 % 16 = v := ⟨_, rfl⟩
  obtain ⟨A, hA⟩ : ∃ v, (x / 1024 % 2 == 1) = v := ⟨_, rfl⟩
  obtain ⟨T, hT⟩ : ∃ v, (x / 512 % 2 == 1) = v := ⟨_, rfl⟩
  obtain ⟨D, hD⟩ : ∃ v, (x / 256 % 2 == 1) = v := ⟨_, rfl⟩
  obtain ⟨R, hR⟩ : ∃ v, (x / 128 % 2 == 1) = v := ⟨_, rfl⟩
  obtain ⟨Z, hZ⟩ : ∃ v, x / 16 % 8 = v := ⟨_, rfl⟩
  obtain ⟨C, hC⟩ : ∃ v, x / 1 % 16 = v := ⟨_, rfl⟩
  rw [hQ, hO, hA, hT, hD, hR, hZ, hC]
  have HQ : Hid ((x / 32768 % 2 == 1) = Q) := hQ
  have HO : Hid (x / 2048 % 16 = O) := hO
  have HA : Hid ((x / 1024 % 2 == 1) = A) := hA
  have HT : Hid ((x / 512 % 2 == 1) = T) := hT
  have HD : Hid ((x / 256 % 2 == 1) = D) := hD
  have HR : Hid ((x / 128 % 2 == 1) = R) := hR
  have HZ : Hid (x / 16 % 8 = Z) := hZ
  have HC : Hid (x / 1 % 16 = C) := hC
  clear hQ hO hA hT hD hR hZ hC
  have hmf : ∀ (fn : Fn) (first cap : Array Value) (w : World), (Instr.makeFunc fn first cap).run Try.prog w = .ok (.func fn first cap) w := fun _ _ _ _ => rfl
  have j : SAt w ((((w.alloc (.cells #[.int .u16 x] 80)).alloc (.cells headZ 29)).alloc (.cells #[takeF w.heap.size] 96)).alloc (.cells headZ 29)) w.heap.size (w.heap.size + 1) (w.heap.size + 1 + 1) (w.heap.size + 1 + 1 + 1) headZ x 0 := by
    have z1 : (w.alloc (.cells #[.int .u16 x] 80)).heap.size = w.heap.size + 1 := by simp
    have z2 : ((w.alloc (.cells #[.int .u16 x] 80)).alloc (.cells headZ 29)).heap.size = w.heap.size + 1 + 1 := by simp
    have z3 : (((w.alloc (.cells #[.int .u16 x] 80)).alloc (.cells headZ 29)).alloc (.cells #[takeF w.heap.size] 96)).heap.size = w.heap.size + 1 + 1 + 1 := by simp
    have zx : x * 2 ^ 0 % 65536 = x := by omega
    refine ⟨?_, ?_, ?_, ?_, lay (lay (lay (lay (Below.refl _ _) _) _) _) _, by omega, by omega⟩
    · rw [zx]; exact (((Blk.new w _ _).alloc _).alloc _).alloc _
    · have := ((Blk.new (w.alloc (.cells #[.int .u16 x] 80)) headZ 29).alloc (.cells #[takeF w.heap.size] 96)).alloc (.cells headZ 29)
      rw [z1] at this; exact this
    · have := (Blk.new ((w.alloc (.cells #[.int .u16 x] 80)).alloc (.cells headZ 29)) #[takeF w.heap.size] 96).alloc (.cells headZ 29)
      rw [z2] at this; exact this
    · have := Blk.new (((w.alloc (.cells #[.int .u16 x] 80)).alloc (.cells headZ 29)).alloc (.cells #[takeF w.heap.size] 96)) headZ 29
      rw [z3] at this; exact this
  have t0 : True := trivial
  have t1 : True := trivial
  have t2 : True := trivial
  have t3 : True := trivial
  have t4 : True := trivial
  have t5 : True := trivial
  have t6 : True := trivial
  have t7 : True := trivial
  go_enter Try.func29, Try.ntmps29
  go_wp2_with (first
    | (go_at_call 48; have _t := t0; go_must (refine (sFlag j 32768 Q (by decide) rfl hx HQ.out).mono ?_); rintro e w1 ⟨rfl, j1⟩; replace j := j1; clear j1 _t t0; obtain ⟨c0, c1, c2, c3, c4, c5, c6, c7, c8⟩ := Blk.nine j.h; obtain ⟨e0, e1, e2, e3, e4, e5, e6, e7, e8⟩ := Blk.open9 j.h; have ct : w1.cell? ⟨w.heap.size + 1 + 1, 0, none⟩ = some (.func (.func 47) #[] #[.pointer (some ⟨w.heap.size, 0, none⟩)]) := j.take.cell 0)
    | (go_at_call 47; have _t := t1; go_must (refine (sTake (SAt.put j 1 (.bool Q) (headV 0 Q 0 false false false false 0 0) rfl) 4 4 2048 16 4096 O rfl (.inr (.inr ⟨rfl, rfl, rfl⟩)) (by decide) rfl hx HO.out).mono ?_); rintro e w1 ⟨rfl, j1⟩; replace j := j1; clear j1 _t t1; obtain ⟨c0, c1, c2, c3, c4, c5, c6, c7, c8⟩ := Blk.nine j.h; obtain ⟨e0, e1, e2, e3, e4, e5, e6, e7, e8⟩ := Blk.open9 j.h; have ct : w1.cell? ⟨w.heap.size + 1 + 1, 0, none⟩ = some (.func (.func 47) #[] #[.pointer (some ⟨w.heap.size, 0, none⟩)]) := j.take.cell 0)
    | (go_at_call 48; have _t := t2; go_must (refine (sFlag (SAt.put j 2 (.int .i64 O) (headV 0 Q O false false false false 0 0) rfl) 1024 A (by decide) rfl hx HA.out).mono ?_); rintro e w1 ⟨rfl, j1⟩; replace j := j1; clear j1 _t t2; obtain ⟨c0, c1, c2, c3, c4, c5, c6, c7, c8⟩ := Blk.nine j.h; obtain ⟨e0, e1, e2, e3, e4, e5, e6, e7, e8⟩ := Blk.open9 j.h; have ct : w1.cell? ⟨w.heap.size + 1 + 1, 0, none⟩ = some (.func (.func 47) #[] #[.pointer (some ⟨w.heap.size, 0, none⟩)]) := j.take.cell 0)
    | (go_at_call 48; have _t := t3; go_must (refine (sFlag (SAt.put j 3 (.bool A) (headV 0 Q O A false false false 0 0) rfl) 512 T (by decide) rfl hx HT.out).mono ?_); rintro e w1 ⟨rfl, j1⟩; replace j := j1; clear j1 _t t3; obtain ⟨c0, c1, c2, c3, c4, c5, c6, c7, c8⟩ := Blk.nine j.h; obtain ⟨e0, e1, e2, e3, e4, e5, e6, e7, e8⟩ := Blk.open9 j.h; have ct : w1.cell? ⟨w.heap.size + 1 + 1, 0, none⟩ = some (.func (.func 47) #[] #[.pointer (some ⟨w.heap.size, 0, none⟩)]) := j.take.cell 0)
    | (go_at_call 48; have _t := t4; go_must (refine (sFlag (SAt.put j 4 (.bool T) (headV 0 Q O A T false false 0 0) rfl) 256 D (by decide) rfl hx HD.out).mono ?_); rintro e w1 ⟨rfl, j1⟩; replace j := j1; clear j1 _t t4; obtain ⟨c0, c1, c2, c3, c4, c5, c6, c7, c8⟩ := Blk.nine j.h; obtain ⟨e0, e1, e2, e3, e4, e5, e6, e7, e8⟩ := Blk.open9 j.h; have ct : w1.cell? ⟨w.heap.size + 1 + 1, 0, none⟩ = some (.func (.func 47) #[] #[.pointer (some ⟨w.heap.size, 0, none⟩)]) := j.take.cell 0)
    | (go_at_call 48; have _t := t5; go_must (refine (sFlag (SAt.put j 5 (.bool D) (headV 0 Q O A T D false 0 0) rfl) 128 R (by decide) rfl hx HR.out).mono ?_); rintro e w1 ⟨rfl, j1⟩; replace j := j1; clear j1 _t t5; obtain ⟨c0, c1, c2, c3, c4, c5, c6, c7, c8⟩ := Blk.nine j.h; obtain ⟨e0, e1, e2, e3, e4, e5, e6, e7, e8⟩ := Blk.open9 j.h; have ct : w1.cell? ⟨w.heap.size + 1 + 1, 0, none⟩ = some (.func (.func 47) #[] #[.pointer (some ⟨w.heap.size, 0, none⟩)]) := j.take.cell 0)
    | (go_at_call 47; have _t := t6; go_must (refine (sTake (SAt.put j 6 (.bool R) (headV 0 Q O A T D R 0 0) rfl) 3 3 16 8 8192 Z rfl (.inr (.inl ⟨rfl, rfl, rfl⟩)) (by decide) rfl hx HZ.out).mono ?_); rintro e w1 ⟨rfl, j1⟩; replace j := j1; clear j1 _t t6; obtain ⟨c0, c1, c2, c3, c4, c5, c6, c7, c8⟩ := Blk.nine j.h; obtain ⟨e0, e1, e2, e3, e4, e5, e6, e7, e8⟩ := Blk.open9 j.h; have ct : w1.cell? ⟨w.heap.size + 1 + 1, 0, none⟩ = some (.func (.func 47) #[] #[.pointer (some ⟨w.heap.size, 0, none⟩)]) := j.take.cell 0)
    | (go_at_call 47; have _t := t7; go_must (refine (sTake (SAt.put j 7 (.int .i64 Z) (headV 0 Q O A T D R Z 0) rfl) 4 4 1 16 4096 C rfl (.inr (.inr ⟨rfl, rfl, rfl⟩)) (by decide) rfl hx HC.out).mono ?_); rintro e w1 ⟨rfl, j1⟩; replace j := j1; clear j1 _t t7; obtain ⟨c0, c1, c2, c3, c4, c5, c6, c7, c8⟩ := Blk.nine j.h; obtain ⟨e0, e1, e2, e3, e4, e5, e6, e7, e8⟩ := Blk.open9 j.h; have ct : w1.cell? ⟨w.heap.size + 1 + 1, 0, none⟩ = some (.func (.func 47) #[] #[.pointer (some ⟨w.heap.size, 0, none⟩)]) := j.take.cell 0; obtain ⟨r0, r1, r2, r3, r4, r5, r6, r7, r8⟩ := Blk.nine j.res; obtain ⟨f0, f1, f2, f3, f4, f5, f6, f7, f8⟩ := Blk.open9 j.res; have hne := j.ne.2.2.1))
  have j9 := SAt.put j 8 (.int .i64 C) (headV 0 Q O A T D R Z C) rfl
  have q := Blk.put9 j9.res 0 Q O A T D R Z C
  have qb := put9_below j9.below j9.new.2.1 0 Q O A T D R Z C
  revert q qb
  generalize ((((((((((w1.setCell ⟨w.heap.size + 1 + 1 + 1, 8, none⟩ (.int .i64 C)).setCell ⟨w.heap.size + 1, 0, none⟩ (.int .i64 0)).setCell ⟨w.heap.size + 1, 1, none⟩ (.bool Q)).setCell ⟨w.heap.size + 1, 2, none⟩ (.int .i64 O)).setCell ⟨w.heap.size + 1, 3, none⟩ (.bool A)).setCell ⟨w.heap.size + 1, 4, none⟩ (.bool T)).setCell ⟨w.heap.size + 1, 5, none⟩ (.bool D)).setCell ⟨w.heap.size + 1, 6, none⟩ (.bool R)).setCell ⟨w.heap.size + 1, 7, none⟩ (.int .i64 Z)).setCell ⟨w.heap.size + 1, 8, none⟩ (.int .i64 C)) = W
  intro q qb
  obtain ⟨q0, q1, q2, q3, q4, q5, q6, q7, q8⟩ := Blk.nine q
  refine bodyPost_ret (v := .agg (headV 0 Q O A T D R Z C)) (by simp [results, Try.results29, go_sem, q0, q1, q2, q3, q4, q5, q6, q7, q8, headV]) rfl ⟨rfl, qb⟩

end Go.Proofs.Ytdogjbblnjjaaab
