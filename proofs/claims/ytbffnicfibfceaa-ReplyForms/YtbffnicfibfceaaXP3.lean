/- Writers and names: plain facts for the laws. -/
import Derived.Test.YtbffnicfibfceaaXP2
import Derived.Test.YtbffnicfibfceaaXP1
import Derived.Deep.WholeRow
import Derived.Deep.RegionHeld3
import Derived.Laws.EntriesVeiled
namespace Go.Proofs.Ytbffnicfibfceaa
open Go.RowKit
open Pl

theorem bel_same {P : Program} {f : FuncId} {args : Array Value} {w : World} {n : Bel w} {v : Value}
    (h : Calls P f args n.to fun e w' => e = .returned v ∧ w' = n.to) : Calls P f args n.to fun e w'' => e = .returned v ∧ ∃ m : Bel w, w'' = m.to :=
  h.mono fun _ _ ⟨he, hw⟩ => ⟨he, n, hw⟩

/-- Where the root ends a name, all of it is written out. -/
theorem spl_root {n : List UInt8} {E : Nat} (hn : NAt n E) (h : E < n.length) (h0 : n[E].toNat = 0) : E + 1 = n.length ∧ n.take E ++ [0] = n := by
  refine ⟨nat_zero hn h h0, ?_⟩
  rw [← nat_root hn h h0, List.take_append_drop]
/-- A name in which nothing stands that was written before. -/
theorem spl_fresh {n : List UInt8} (h : isName n = true) : splN [] n = (n.length - 1, [0]) := by
  rcases splN_end h [] with ⟨hl, h0, h2⟩ | ⟨q, hq, _⟩
  · have := (spl_root (splN_at h []) hl h0).1
    exact Prod.ext (by simp only; omega) h2
  · simp [plc] at hq
theorem siz_fresh {n : List UInt8} (h : isName n = true) : sizW [] n = n.length := by
  have := name_ne h
  unfold sizW; rw [spl_fresh h]; simp; omega
theorem out_fresh {n : List UInt8} (h : isName n = true) (B : List UInt8) : outW B [] n = B ++ n := by
  have h1 := spl_fresh h
  rcases splN_end h [] with ⟨hl, h0, h2⟩ | ⟨q, hq, _⟩
  · have := (spl_root (splN_at h []) hl h0).2
    unfold outW
    rw [h2, this]
  · simp [plc] at hq

/-- Bytes of nought. -/
def zerosB (n : Nat) : ByteArray := ⟨(List.replicate n (0 : UInt8)).toArray⟩
theorem zerosB_size (n : Nat) : (zerosB n).size = n := by unfold zerosB; rw [toArr_size]; simp
theorem zeros_row {w : World} {base n : Nat} {v : Value} (h : w.ownsRow base 5 1 v n (madeCells (Value.int .u8 0).cells (n * 1)).toList) : w.ownsRow base 5 1 v n ((zerosB n).data.toList.map bv) := by
  rw [Nat.mul_one, show (Value.int .u8 0).cells = #[.int .u8 0] from rfl, made_zero] at h
  simpa [zerosB] using h

theorem refMay_at (s : ByteArray) (b : Bool) (w : World) (hs : s.size ≤ maxLen) (h : isName s.data.toList = b) :
    Calls Try.prog 31 #[.string s] w fun e w' => e = .returned (.bool b) ∧ Below w.heap.size w w' := by rw [← h]; exact refMay_any s w hs

/-- What a Writer's Name answers, where it is known what it leaves. -/
theorem nam_fresh {B n : List UInt8} (h : isName n = true) (hf : B.length + n.length ≤ 4096) : namE B [] n = 0 ∧ namB B [] n = B ++ n := by
  obtain ⟨h1, h2, _⟩ := nam_yes (B := B) (ms := []) h (by rw [siz_fresh h]; exact hf)
  exact ⟨h1, by rw [h2, out_fresh h]⟩
theorem nam_full {B n : List UInt8} (h : isName n = true) (hf : ¬ B.length + n.length ≤ 4096) : namE B [] n = 501 ∧ namB B [] n = B := by
  obtain ⟨h1, h2, _⟩ := nam_long (B := B) (ms := []) h (by rw [siz_fresh h]; exact hf)
  exact ⟨h1, h2⟩

/-- A name that was written before, and is not the root, is a pointer. -/
theorem spl_hit {ms : Marks} {n : List UInt8} {q : Nat} (hn : isName n = true) (h1 : n ≠ [0]) (h : plc ms n = some q) : splN ms n = (0, ptrB q) := by
  have hl := name_ne hn
  have h0 : n[0].toNat ≠ 0 := fun e => h1 (by have := nat_root (nat_start hn) hl e; simpa using this)
  exact (w_hit (w_start hn ms) hl h0 (by simpa using h)).1
theorem nam_hit {B : List UInt8} {ms : Marks} {n : List UInt8} {q : Nat} (hn : isName n = true) (h1 : n ≠ [0]) (h : plc ms n = some q) (hf : B.length + 2 ≤ 4096) : namE B ms n = 0 ∧ namB B ms n = B ++ ptrB q ∧ namM B ms n = ms := by
  have hs := spl_hit hn h1 h
  obtain ⟨a, b, c⟩ := nam_yes (B := B) (ms := ms) hn (by unfold sizW; rw [hs]; simpa [ptrB] using hf)
  refine ⟨a, by rw [b]; unfold outW; rw [hs]; simp, ?_⟩
  rw [c]
  unfold marW newM
  rw [hs, sts_end _ _ (Nat.le_refl _)]
  simp [mkM]
theorem nam_root {B : List UInt8} {ms : Marks} (hf : B.length + 1 ≤ 4096) : namE B ms [0] = 0 ∧ namB B ms [0] = B ++ [0] ∧ namM B ms [0] = ms := by
  have hn : isName [0] = true := by decide
  have hs : splN ms [0] = (0, [0]) := (w_zero (w_start hn ms) (by decide) (by decide)).1
  obtain ⟨a, b, c⟩ := nam_yes (B := B) (ms := ms) hn (by unfold sizW; rw [hs]; exact hf)
  refine ⟨a, by rw [b]; unfold outW; rw [hs]; simp, ?_⟩
  rw [c]
  unfold marW newM
  rw [hs, sts_end _ _ (Nat.le_refl _)]
  simp [mkM]

section
variable {e : List UInt8} (a c : UInt8)
theorem share_name (he : isName e = true) (h2 : e.length ≤ 200) : isName (2 :: c :: a :: e) = true := by
  have hl : Labs [2, c, a] := labs_lab (by decide) (by decide) rfl
  have := hl e
  unfold isName nm
  rw [if_neg (by simp; omega)]
  show (nmS 0 ([2, c, a] ++ e)).isSome = true
  rw [this]
  exact (name_some he).2
theorem share_len (he : isName e = true) (h1 : e ≠ [0]) : 3 ≤ e.length := by
  have hl := name_ne he
  have h0 : e[0].toNat ≠ 0 := fun h => h1 (by have := nat_root (nat_start he) hl h; simpa using this)
  have := nat_step (nat_start he) hl h0
  omega
theorem share_first (he : isName e = true) (h1 : e ≠ [0]) (h2 : e.length ≤ 200) (d : UInt8) (hd : d ≠ c) (b : UInt8) : plc (newM 0 (2 :: c :: a :: e) (splN [] (2 :: c :: a :: e)).1) (2 :: d :: b :: e) = none ∧ plc (newM 0 (2 :: c :: a :: e) (splN [] (2 :: c :: a :: e)).1) e = some 3 := by
  have hn := share_name a c he h2
  have h3 := share_len he h1
  rw [spl_fresh hn]
  obtain ⟨E, hE⟩ : ∃ E, E = (2 :: c :: a :: e).length - 1 := ⟨_, rfl⟩
  have hE5 : 5 ≤ E := by rw [hE]; simp; omega
  have hs : sts (2 :: c :: a :: e).length (2 :: c :: a :: e) 0 E = 0 :: 3 :: sts (e.length + 1) (2 :: c :: a :: e) (3 + 1 + ((2 :: c :: a :: e).getD 3 0).toNat) E := by
    show sts (e.length + 1 + 1 + 1) _ 0 E = _
    rw [sts, if_pos (by omega)]
    have e1 : 0 + 1 + ((2 :: c :: a :: e).getD 0 0).toNat = 3 := rfl
    rw [e1, sts, if_pos (by omega)]
  simp only [← hE]
  unfold newM
  rw [hs]
  have hne : ∀ x : List UInt8, x.length ≤ e.length → x ≠ 2 :: d :: b :: e := fun x hx h => by have := congrArg List.length h; simp at this; omega
  constructor
  · apply plc_none
    intro q hq
    simp only [mkM, List.mem_map, Prod.mk.injEq] at hq
    obtain ⟨p, hp, hq, _⟩ := hq
    rcases List.mem_cons.1 hp with rfl | hp
    · simp at hq; exact hd hq.1.symm
    · have hp3 : 3 ≤ p := by
        rcases List.mem_cons.1 hp with rfl | hp
        · exact Nat.le_refl _
        · have hge : ∀ (f : Nat) (n : List UInt8) (p0 e : Nat), ∀ x ∈ sts f n p0 e, p0 ≤ x := by
            intro f
            induction f with
            | zero => intro n p0 e x hx; simp [sts] at hx
            | succ f ih =>
              intro n p0 e x hx
              rw [sts] at hx
              split at hx
              · rcases List.mem_cons.1 hx with rfl | hx
                · exact Nat.le_refl _
                · have := ih _ _ _ _ hx; omega
              · simp at hx
          have := hge _ _ _ _ p hp
          omega
      exact hne _ (by rw [List.length_drop]; simp; omega) hq
  · unfold mkM
    rw [List.map_cons, List.map_cons, plc, if_neg (fun h => by have := congrArg List.length h; simp at this; omega), plc, if_pos (by simp)]
theorem share_second (he : isName e = true) (h1 : e ≠ [0]) (h2 : e.length ≤ 200) (d b : UInt8) (ms : Marks) (hp : plc ms (2 :: d :: b :: e) = none) (h3 : plc ms e = some 3) : splN ms (2 :: d :: b :: e) = (3, ptrB 3) := by
  have hn := share_name b d he h2
  have w0 := w_start hn ms
  have w1 := (w_miss w0 (by simp) (by show ¬ ((2 : UInt8).toNat = 0); decide) (by simpa using hp)).1
  have e1 : 0 + 1 + ((2 :: d :: b :: e)[0]).toNat = 3 := rfl
  rw [e1] at w1
  have hl := name_ne he
  have h0 : e[0].toNat ≠ 0 := fun h => h1 (by have := nat_root (nat_start he) hl h; simpa using this)
  exact (w_hit w1 (by simp; omega) (by simpa using h0) (by simpa using h3)).1
end

end Go.Proofs.Ytbffnicfibfceaa

/- A header as values; what fits and may of package head give. -/
namespace Go.Proofs.Ytbffnicfibfceaa
open Go.RowKit


/-- An api.Head. -/
def headV (id : Int) (qr : Bool) (op : Int) (aa tc rd ra : Bool) (z rc : Int) : Array Value := #[.int .i64 id, .bool qr, .int .i64 op, .bool aa, .bool tc, .bool rd, .bool ra, .int .i64 z, .int .i64 rc]
/-- Four counts. -/
def cntV (a b c d : Int) : Array Value := #[.int .i64 a, .int .i64 b, .int .i64 c, .int .i64 d]
/-- Is x from 0 up, and less than p? -/
def fitI (p x : Int) : Bool := decide (0 ≤ x) && decide (x < p)
/-- May a header with these numbers be written? -/
def mayH (id op z rc a b c d : Int) : Bool := fitI 65536 id && fitI 16 op && fitI 8 z && fitI 16 rc && fitI 65536 a && fitI 65536 b && fitI 65536 c && fitI 65536 d
theorem fit_iff {p x : Int} : fitI p x = true ↔ 0 ≤ x ∧ x < p := by unfold fitI; simp

theorem size3 : Try.t3.size = 1 := by kernel_rfl
theorem idx4 (a b c d : Int) (k : Nat) (hk : k < 4) (u : World) : (Instr.index 48 (.agg (cntV a b c d)) (.int .i64 (k : Int))).run Try.prog u = .ok (.int .i64 ([a, b, c, d].getD k 0)) u := by
  have : k = 0 ∨ k = 1 ∨ k = 2 ∨ k = 3 := by omega
  rcases this with rfl | rfl | rfl | rfl <;> simp [cntV, Instr.index, run_underlying Try.underlying48, asIntOf, go_sem, part, sizeOf, size3]

theorem mayH_count {id op z rc a b c d : Int} {k : Nat} (hk : k < 4) (h : fitI 65536 ([a, b, c, d].getD k 0) = false) : mayH id op z rc a b c d = false := by
  have : k = 0 ∨ k = 1 ∨ k = 2 ∨ k = 3 := by omega
  unfold mayH
  rcases this with rfl | rfl | rfl | rfl <;> simp only [List.getD_cons_zero, List.getD_cons_succ] at h <;> simp [h]
theorem mayH_rest {id op z rc a b c d : Int} (h : ∀ j, j < 4 → fitI 65536 ([a, b, c, d].getD j 0) = true) : mayH id op z rc a b c d = (fitI 65536 id && fitI 16 op && fitI 8 z && fitI 16 rc) := by
  have h0 := h 0 (by decide)
  have h1 := h 1 (by decide)
  have h2 := h 2 (by decide)
  have h3 := h 3 (by decide)
  simp only [List.getD_cons_zero, List.getD_cons_succ] at h0 h1 h2 h3
  unfold mayH
  simp [h0, h1, h2, h3]

end Go.Proofs.Ytbffnicfibfceaa

/- What join of package head gives, for a header that may be written. -/
namespace Go.Proofs.Ytbffnicfibfceaa
open Go.RowKit

theorem wraps_u16 (n : Int) (h₀ : 0 ≤ n) (h₁ : n < 2 ^ 16) : IntKind.u16.wrap n = n := by
  have : IntKind.u16.wrap n = n % 65536 := by simp [IntKind.wrap, IntKind.bits, IntKind.signed]
  rw [this]; omega

/-- A flag as a number. -/
def bI (b : Bool) : Int := if b then 1 else 0
theorem bI_lt (b : Bool) : 0 ≤ bI b ∧ bI b < 2 := by cases b <;> decide
/-- The flags and the small numbers of a header as one number. -/
def wordH (qr : Bool) (op : Int) (aa tc rd ra : Bool) (z rc : Int) : Int := 32768 * bI qr + 2048 * op + 1024 * bI aa + 512 * bI tc + 256 * bI rd + 128 * bI ra + 16 * z + rc

theorem pow_steps {k n : Nat} {q v x : Int} (hn : (n = 1 ∧ q = 2) ∨ (n = 3 ∧ q = 8) ∨ (n = 4 ∧ q = 16)) (hk : k + n ≤ 16) (h0 : 0 ≤ v) (h1 : v < 2 ^ k) (x0 : 0 ≤ x) (x1 : x < q) : v * q + q ≤ 65536 ∧ 0 ≤ v * q + x ∧ v * q + x < 2 ^ (k + n) := by
  have e : (2 : Int) ^ (k + n) = 2 ^ k * q := by
    rw [Int.pow_add]
    rcases hn with ⟨rfl, rfl⟩ | ⟨rfl, rfl⟩ | ⟨rfl, rfl⟩ <;> rfl
  have l : (2 : Int) ^ (k + n) ≤ 2 ^ 16 := by
    have : (2 : Nat) ^ (k + n) ≤ 2 ^ 16 := Nat.pow_le_pow_right (by decide) hk
    exact_mod_cast this
  rw [e] at l ⊢
  have l2 : (2 : Int) ^ 16 = 65536 := by decide
  rw [l2] at l
  generalize (2 : Int) ^ k = p at *
  rcases hn with ⟨rfl, rfl⟩ | ⟨rfl, rfl⟩ | ⟨rfl, rfl⟩ <;> omega

end Go.Proofs.Ytbffnicfibfceaa

/- What Put of package head gives, for every argument. -/
namespace Go.Proofs.Ytbffnicfibfceaa
open Go.RowKit

/-- The bytes of a header so far. -/
def putS (id v a b c d : Int) : Nat → ByteArray
  | 0 => be2 id ++ be2 v
  | 1 => be2 id ++ be2 v ++ be2 a
  | 2 => be2 id ++ be2 v ++ be2 a ++ be2 b
  | 3 => be2 id ++ be2 v ++ be2 a ++ be2 b ++ be2 c
  | _ => be2 id ++ be2 v ++ be2 a ++ be2 b ++ be2 c ++ be2 d
theorem size2 (x : Int) : (be2 x).size = 2 := rfl
theorem putS_next (id v a b c d : Int) (k : Nat) (hk : k < 4) : putS id v a b c d k ++ be2 ([a, b, c, d].getD k 0) = putS id v a b c d (k + 1) := by
  have : k = 0 ∨ k = 1 ∨ k = 2 ∨ k = 3 := by omega
  rcases this with rfl | rfl | rfl | rfl <;> rfl
theorem putS_size (id v a b c d : Int) (k : Nat) : (putS id v a b c d k).size ≤ 12 := by
  match k with
  | 0 | 1 | 2 | 3 | k + 4 => simp [putS, ByteArray.size_append, size2]

theorem mayH_iff {id op z rc a b c d : Int} : mayH id op z rc a b c d = true ↔ fitI 65536 id = true ∧ fitI 16 op = true ∧ fitI 8 z = true ∧ fitI 16 rc = true ∧ fitI 65536 a = true ∧ fitI 65536 b = true ∧ fitI 65536 c = true ∧ fitI 65536 d = true := by
  unfold mayH; simp [and_assoc]
theorem word_lt {qr : Bool} {op : Int} {aa tc rd ra : Bool} {z rc : Int} (ho : fitI 16 op = true) (hz : fitI 8 z = true) (hr : fitI 16 rc = true) : 0 ≤ wordH qr op aa tc rd ra z rc ∧ wordH qr op aa tc rd ra z rc < 65536 := by
  have O := fit_iff.1 ho
  have Z := fit_iff.1 hz
  have R := fit_iff.1 hr
  have := bI_lt qr
  have := bI_lt aa
  have := bI_lt tc
  have := bI_lt rd
  have := bI_lt ra
  unfold wordH
  omega

end Go.Proofs.Ytbffnicfibfceaa

/- What split of package head gives, for every argument. -/
namespace Go.Proofs.Ytbffnicfibfceaa
open Go.RowKit

theorem take_any (n q p v : Int) (g : Nat) (w : World) (hg : Blk w g #[.int .u16 v] 86) (hn : (n = 1 ∧ q = 2 ∧ p = 32768) ∨ (n = 3 ∧ q = 8 ∧ p = 8192) ∨ (n = 4 ∧ q = 16 ∧ p = 4096)) (h0 : 0 ≤ v) (h1 : v < 65536) :
    Calls Try.prog 51 #[.int .u64 n, .pointer (some ⟨g, 0, none⟩)] w fun e w' => e = .returned (.int .i64 (v / p)) ∧ w' = w.setCell ⟨g, 0, none⟩ (.int .u16 (v * q % 65536)) := by
  have c0 : w.cell? ⟨g, 0, none⟩ = some (.int .u16 v) := hg.cell 0
  have f0 := hg.frozen 0
  rcases hn with ⟨rfl, rfl, rfl⟩ | ⟨rfl, rfl, rfl⟩ | ⟨rfl, rfl, rfl⟩
  all_goals
    go_enter Try.func51, Try.ntmps51
    go_wp2
    go_ret
    exact ⟨rfl, rfl⟩

/-- The function value take. -/
def takeF (g : Nat) : Value := .func (.func 51) #[] #[.pointer (some ⟨g, 0, none⟩)]

theorem flagOf_any (v : Int) (g gt : Nat) (w : World) (hg : Blk w g #[.int .u16 v] 86) (ht : Blk w gt #[takeF g] 100) (h0 : 0 ≤ v) (h1 : v < 65536) :
    Calls Try.prog 52 #[.pointer (some ⟨gt, 0, none⟩)] w fun e w' => e = .returned (.bool (v / 32768 == 1)) ∧ w' = w.setCell ⟨g, 0, none⟩ (.int .u16 (v * 2 % 65536)) := by
  have c0 : w.cell? ⟨gt, 0, none⟩ = some (.func (.func 51) #[] #[.pointer (some ⟨g, 0, none⟩)]) := ht.cell 0
  go_enter Try.func52, Try.ntmps52
  go_wp2_with (go_at_call 51; go_must (refine (take_any 1 2 32768 v g _ hg (.inl ⟨rfl, rfl, rfl⟩) h0 h1).mono ?_); rintro e w1 ⟨rfl, hw⟩)
  go_ret
  exact ⟨rfl, rfl⟩

/-- An empty api.Head. -/
def headZ : Array Value := headV 0 false 0 false false false false 0 0
/-- The nine cells of an api.Head. -/
theorem Blk.nine {w : World} {g : Nat} {id : Int} {qr : Bool} {op : Int} {aa tc rd ra : Bool} {z rc : Int} {t : TypeId} (k : Blk w g (headV id qr op aa tc rd ra z rc) t) :
    w.cell? ⟨g, 0, none⟩ = some (.int .i64 id) ∧ w.cell? ⟨g, 1, none⟩ = some (.bool qr) ∧ w.cell? ⟨g, 2, none⟩ = some (.int .i64 op) ∧ w.cell? ⟨g, 3, none⟩ = some (.bool aa) ∧ w.cell? ⟨g, 4, none⟩ = some (.bool tc) ∧ w.cell? ⟨g, 5, none⟩ = some (.bool rd) ∧ w.cell? ⟨g, 6, none⟩ = some (.bool ra) ∧ w.cell? ⟨g, 7, none⟩ = some (.int .i64 z) ∧ w.cell? ⟨g, 8, none⟩ = some (.int .i64 rc) :=
  ⟨k.cell 0, k.cell 1, k.cell 2, k.cell 3, k.cell 4, k.cell 5, k.cell 6, k.cell 7, k.cell 8⟩
theorem Blk.open9 {w : World} {g : Nat} {C : Array Value} {t : TypeId} (k : Blk w g C t) :
    w.frozen? ⟨g, 0, none⟩ = false ∧ w.frozen? ⟨g, 1, none⟩ = false ∧ w.frozen? ⟨g, 2, none⟩ = false ∧ w.frozen? ⟨g, 3, none⟩ = false ∧ w.frozen? ⟨g, 4, none⟩ = false ∧ w.frozen? ⟨g, 5, none⟩ = false ∧ w.frozen? ⟨g, 6, none⟩ = false ∧ w.frozen? ⟨g, 7, none⟩ = false ∧ w.frozen? ⟨g, 8, none⟩ = false :=
  ⟨k.frozen 0, k.frozen 1, k.frozen 2, k.frozen 3, k.frozen 4, k.frozen 5, k.frozen 6, k.frozen 7, k.frozen 8⟩

/-- What split holds while it goes on: the word without its first k bits, the function take, the header so far, its result's own place. -/
structure SAt (w0 w : World) (g gr gt gh : Nat) (H : Array Value) (x : Int) (k : Nat) : Prop where
  word : Blk w g #[.int .u16 (x * 2 ^ k % 65536)] 86
  res : Blk w gr headZ 23
  take : Blk w gt #[takeF g] 100
  h : Blk w gh H 23
  below : Below w0.heap.size w0 w
  ne : (gr ≠ g ∧ gt ≠ g ∧ gh ≠ g) ∧ (g ≠ gh ∧ gr ≠ gh ∧ gt ≠ gh)
  new : w0.heap.size ≤ g ∧ w0.heap.size ≤ gr ∧ w0.heap.size ≤ gh

theorem SAt.step {w0 w w' : World} {g gr gt gh : Nat} {H : Array Value} {x : Int} {k : Nat} (j : SAt w0 w g gr gt gh H x k) (m : Nat) (q : Int) (hq : q = 2 ^ m) (hw : w' = w.setCell ⟨g, 0, none⟩ (.int .u16 (x * 2 ^ k % 65536 * q % 65536))) : SAt w0 w' g gr gt gh H x (k + m) := by
  subst hw
  have e : x * 2 ^ k % 65536 * q % 65536 = x * 2 ^ (k + m) % 65536 := by
    rw [hq, Int.pow_add, ← Int.mul_assoc, Int.mul_emod (x * 2 ^ k % 65536), Int.emod_emod_of_dvd _ (Int.dvd_refl _), ← Int.mul_emod]
  have b := j.word.set 0 (.int .u16 (x * 2 ^ k % 65536 * q % 65536))
  rw [e] at b
  exact ⟨e ▸ b, j.res.other j.ne.1.1 0 _, j.take.other j.ne.1.2.1 0 _, j.h.other j.ne.1.2.2 0 _, j.below.setCell j.new.1 _, j.ne, j.new⟩

theorem SAt.put {w0 w : World} {g gr gt gh : Nat} {H : Array Value} {x : Int} {k : Nat} (j : SAt w0 w g gr gt gh H x k) (i : Nat) (v : Value) (H' : Array Value) (hH : H.setIfInBounds i v = H') : SAt w0 (w.setCell ⟨gh, i, none⟩ v) g gr gt gh H' x k :=
  ⟨j.word.other j.ne.2.1 i _, j.res.other j.ne.2.2.1 i _, j.take.other j.ne.2.2.2 i _, hH ▸ j.h.set i _, j.below.setCell j.new.2.2 _, j.ne, j.new⟩

theorem top_bits (x : Int) (k : Nat) (d q p : Int) (hd0 : 0 ≤ d) (hq0 : 0 ≤ q) (hp0 : 0 ≤ p) (hd : d * 2 ^ k = p) (hp : p * q = 65536) (h0 : 0 ≤ x) : x * 2 ^ k % 65536 / p = x / d % q := by
  obtain ⟨x, rfl⟩ := Int.eq_ofNat_of_zero_le h0
  obtain ⟨d, rfl⟩ := Int.eq_ofNat_of_zero_le hd0
  obtain ⟨q, rfl⟩ := Int.eq_ofNat_of_zero_le hq0
  obtain ⟨p, rfl⟩ := Int.eq_ofNat_of_zero_le hp0
  have hd' : d * 2 ^ k = p := by exact_mod_cast hd
  have hp' : p * q = 65536 := by
    have := congrArg Int.toNat hp
    rwa [← Int.natCast_mul, Int.toNat_natCast] at this
  have key : x * 2 ^ k % 65536 / p = x / d % q := by
    rw [← hp', ← hd', show d * 2 ^ k * q = d * q * 2 ^ k from Nat.mul_right_comm _ _ _, Nat.mul_mod_mul_right, Nat.mul_div_mul_right _ _ (Nat.two_pow_pos k), Nat.mod_mul_right_div_self]
  have key2 := congrArg (fun n : Nat => (n : Int)) key
  simp only [Int.natCast_ediv, Int.natCast_emod, Int.natCast_mul, Int.natCast_pow] at key2
  exact key2

theorem sTake {w0 w : World} {g gr gt gh : Nat} {H : Array Value} {x : Int} {k : Nat} (j : SAt w0 w g gr gt gh H x k) (n : Int) (m : Nat) (d q p y : Int) (hn : n = (m : Int)) (hm : (m = 1 ∧ q = 2 ∧ p = 32768) ∨ (m = 3 ∧ q = 8 ∧ p = 8192) ∨ (m = 4 ∧ q = 16 ∧ p = 4096)) (hd0 : 0 ≤ d) (hd : d * 2 ^ k = p) (h0 : 0 ≤ x) (hy : x / d % q = y) :
    Calls Try.prog 51 #[.int .u64 n, .pointer (some ⟨g, 0, none⟩)] w fun e w' => e = .returned (.int .i64 y) ∧ SAt w0 w' g gr gt gh H x (k + m) := by
  have hn2 : (n = 1 ∧ q = 2 ∧ p = 32768) ∨ (n = 3 ∧ q = 8 ∧ p = 8192) ∨ (n = 4 ∧ q = 16 ∧ p = 4096) := by omega
  have hq : q = 2 ^ m := by rcases hm with ⟨rfl, rfl, _⟩ | ⟨rfl, rfl, _⟩ | ⟨rfl, rfl, _⟩ <;> rfl
  have hp : p * q = 65536 := by rcases hm with ⟨_, rfl, rfl⟩ | ⟨_, rfl, rfl⟩ | ⟨_, rfl, rfl⟩ <;> rfl
  rw [← hy, ← top_bits x k d q p hd0 (by omega) (by omega) hd hp h0]
  exact (take_any n q p _ g w j.word hn2 (by omega) (by omega)).mono fun e w' ⟨he, hw⟩ => ⟨he, j.step m q hq hw⟩

theorem sFlag {w0 w : World} {g gr gt gh : Nat} {H : Array Value} {x : Int} {k : Nat} (j : SAt w0 w g gr gt gh H x k) (d : Int) (b : Bool) (hd0 : 0 ≤ d) (hd : d * 2 ^ k = 32768) (h0 : 0 ≤ x) (hb : (x / d % 2 == 1) = b) :
    Calls Try.prog 52 #[.pointer (some ⟨gt, 0, none⟩)] w fun e w' => e = .returned (.bool b) ∧ SAt w0 w' g gr gt gh H x (k + 1) := by
  rw [← hb, ← top_bits x k d 2 32768 hd0 (by omega) (by omega) hd rfl h0]
  exact (flagOf_any _ g gt w j.word j.take (by omega) (by omega)).mono fun e w' ⟨he, hw⟩ => ⟨he, j.step 1 2 rfl hw⟩

/-- A header stored cell by cell. -/
theorem Blk.put9 {w : World} {g : Nat} {id' : Int} {qr' : Bool} {op' : Int} {aa' tc' rd' ra' : Bool} {z' rc' : Int} {t : TypeId} (k : Blk w g (headV id' qr' op' aa' tc' rd' ra' z' rc') t) (id : Int) (qr : Bool) (op : Int) (aa tc rd ra : Bool) (z rc : Int) :
    Blk (((((((((w.setCell ⟨g, 0, none⟩ (.int .i64 id)).setCell ⟨g, 1, none⟩ (.bool qr)).setCell ⟨g, 2, none⟩ (.int .i64 op)).setCell ⟨g, 3, none⟩ (.bool aa)).setCell ⟨g, 4, none⟩ (.bool tc)).setCell ⟨g, 5, none⟩ (.bool rd)).setCell ⟨g, 6, none⟩ (.bool ra)).setCell ⟨g, 7, none⟩ (.int .i64 z)).setCell ⟨g, 8, none⟩ (.int .i64 rc)) g (headV id qr op aa tc rd ra z rc) t := by
  have q0 : Blk (w.setCell ⟨g, 0, none⟩ (.int .i64 id)) g (headV id qr' op' aa' tc' rd' ra' z' rc') t := k.set 0 _
  have q1 : Blk ((w.setCell ⟨g, 0, none⟩ (.int .i64 id)).setCell ⟨g, 1, none⟩ (.bool qr)) g (headV id qr op' aa' tc' rd' ra' z' rc') t := q0.set 1 _
  have q2 : Blk (((w.setCell ⟨g, 0, none⟩ (.int .i64 id)).setCell ⟨g, 1, none⟩ (.bool qr)).setCell ⟨g, 2, none⟩ (.int .i64 op)) g (headV id qr op aa' tc' rd' ra' z' rc') t := q1.set 2 _
  have q3 : Blk ((((w.setCell ⟨g, 0, none⟩ (.int .i64 id)).setCell ⟨g, 1, none⟩ (.bool qr)).setCell ⟨g, 2, none⟩ (.int .i64 op)).setCell ⟨g, 3, none⟩ (.bool aa)) g (headV id qr op aa tc' rd' ra' z' rc') t := q2.set 3 _
  have q4 : Blk (((((w.setCell ⟨g, 0, none⟩ (.int .i64 id)).setCell ⟨g, 1, none⟩ (.bool qr)).setCell ⟨g, 2, none⟩ (.int .i64 op)).setCell ⟨g, 3, none⟩ (.bool aa)).setCell ⟨g, 4, none⟩ (.bool tc)) g (headV id qr op aa tc rd' ra' z' rc') t := q3.set 4 _
  have q5 : Blk ((((((w.setCell ⟨g, 0, none⟩ (.int .i64 id)).setCell ⟨g, 1, none⟩ (.bool qr)).setCell ⟨g, 2, none⟩ (.int .i64 op)).setCell ⟨g, 3, none⟩ (.bool aa)).setCell ⟨g, 4, none⟩ (.bool tc)).setCell ⟨g, 5, none⟩ (.bool rd)) g (headV id qr op aa tc rd ra' z' rc') t := q4.set 5 _
  have q6 : Blk (((((((w.setCell ⟨g, 0, none⟩ (.int .i64 id)).setCell ⟨g, 1, none⟩ (.bool qr)).setCell ⟨g, 2, none⟩ (.int .i64 op)).setCell ⟨g, 3, none⟩ (.bool aa)).setCell ⟨g, 4, none⟩ (.bool tc)).setCell ⟨g, 5, none⟩ (.bool rd)).setCell ⟨g, 6, none⟩ (.bool ra)) g (headV id qr op aa tc rd ra z' rc') t := q5.set 6 _
  have q7 : Blk ((((((((w.setCell ⟨g, 0, none⟩ (.int .i64 id)).setCell ⟨g, 1, none⟩ (.bool qr)).setCell ⟨g, 2, none⟩ (.int .i64 op)).setCell ⟨g, 3, none⟩ (.bool aa)).setCell ⟨g, 4, none⟩ (.bool tc)).setCell ⟨g, 5, none⟩ (.bool rd)).setCell ⟨g, 6, none⟩ (.bool ra)).setCell ⟨g, 7, none⟩ (.int .i64 z)) g (headV id qr op aa tc rd ra z rc') t := q6.set 7 _
  have q8 : Blk (((((((((w.setCell ⟨g, 0, none⟩ (.int .i64 id)).setCell ⟨g, 1, none⟩ (.bool qr)).setCell ⟨g, 2, none⟩ (.int .i64 op)).setCell ⟨g, 3, none⟩ (.bool aa)).setCell ⟨g, 4, none⟩ (.bool tc)).setCell ⟨g, 5, none⟩ (.bool rd)).setCell ⟨g, 6, none⟩ (.bool ra)).setCell ⟨g, 7, none⟩ (.int .i64 z)).setCell ⟨g, 8, none⟩ (.int .i64 rc)) g (headV id qr op aa tc rd ra z rc) t := q7.set 8 _
  exact q8
theorem put9_other {w : World} {g b : Nat} {C : Array Value} {t : TypeId} (k : Blk w b C t) (h : b ≠ g) (id : Int) (qr : Bool) (op : Int) (aa tc rd ra : Bool) (z rc : Int) :
    Blk (((((((((w.setCell ⟨g, 0, none⟩ (.int .i64 id)).setCell ⟨g, 1, none⟩ (.bool qr)).setCell ⟨g, 2, none⟩ (.int .i64 op)).setCell ⟨g, 3, none⟩ (.bool aa)).setCell ⟨g, 4, none⟩ (.bool tc)).setCell ⟨g, 5, none⟩ (.bool rd)).setCell ⟨g, 6, none⟩ (.bool ra)).setCell ⟨g, 7, none⟩ (.int .i64 z)).setCell ⟨g, 8, none⟩ (.int .i64 rc)) b C t :=
  ((((((((k.other h 0 _).other h 1 _).other h 2 _).other h 3 _).other h 4 _).other h 5 _).other h 6 _).other h 7 _).other h 8 _
theorem put9_below {w0 w : World} {g : Nat} (k : Below w0.heap.size w0 w) (h : w0.heap.size ≤ g) (id : Int) (qr : Bool) (op : Int) (aa tc rd ra : Bool) (z rc : Int) :
    Below w0.heap.size w0 (((((((((w.setCell ⟨g, 0, none⟩ (.int .i64 id)).setCell ⟨g, 1, none⟩ (.bool qr)).setCell ⟨g, 2, none⟩ (.int .i64 op)).setCell ⟨g, 3, none⟩ (.bool aa)).setCell ⟨g, 4, none⟩ (.bool tc)).setCell ⟨g, 5, none⟩ (.bool rd)).setCell ⟨g, 6, none⟩ (.bool ra)).setCell ⟨g, 7, none⟩ (.int .i64 z)).setCell ⟨g, 8, none⟩ (.int .i64 rc)) :=
  ((((((((k.setCell (p := ⟨g, 0, none⟩) h _).setCell (p := ⟨g, 1, none⟩) h _).setCell (p := ⟨g, 2, none⟩) h _).setCell (p := ⟨g, 3, none⟩) h _).setCell (p := ⟨g, 4, none⟩) h _).setCell (p := ⟨g, 5, none⟩) h _).setCell (p := ⟨g, 6, none⟩) h _).setCell (p := ⟨g, 7, none⟩) h _).setCell (p := ⟨g, 8, none⟩) h _

/-- The header of a word. -/
def headW (id x : Int) : Array Value := headV id (x / 32768 % 2 == 1) (x / 2048 % 16) (x / 1024 % 2 == 1) (x / 512 % 2 == 1) (x / 256 % 2 == 1) (x / 128 % 2 == 1) (x / 16 % 8) (x / 1 % 16)

set_option maxRecDepth 20000 in
set_option maxHeartbeats 8000000 in
theorem hsplit_any (x : Int) (w : World) (hx : 0 ≤ x) (h1 : x < 65536) :
    Calls Try.prog 38 #[.int .u16 x] w fun e w' => e = .returned (.agg (headW 0 x)) ∧ Below w.heap.size w w' := by
  unfold headW
  obtain ⟨Q, hQ⟩ : ∃ v, (x / 32768 % 2 == 1) = v := ⟨_, rfl⟩
  obtain ⟨O, hO⟩ : ∃ v, x / 2048 % 16 = v := ⟨_, rfl⟩
  obtain ⟨A, hA⟩ : ∃ v, (x / 1024 % 2 == 1) = v := ⟨_, rfl⟩
  obtain ⟨T, hT⟩ : ∃ v, (x / 512 % 2 == 1) = v := ⟨_, rfl⟩
  obtain ⟨D, hD⟩ : ∃ v, (x / 256 % 2 == 1) = v := ⟨_, rfl⟩
  obtain ⟨R, hR⟩ : ∃ v, (x / 128 % 2 == 1) = v := ⟨_, rfl⟩
  obtain ⟨Z, hZ⟩ : ∃ v, x / 16 % 8 = v := ⟨_, rfl⟩
  obtain ⟨C, hC⟩ : ∃ v, x / 1 % 16 = v := ⟨_, rfl⟩
  rw [hQ, hO, hA, hT, hD, hR, hZ, hC]
  have HQ : Hid ((x / 32768 % 2 == 1) = Q) := hQ
  have HO : Hid (x / 2048 % 16 = O) := hO
  have HA : Hid ((x / 1024 % 2 == 1) = A) := hA
  have HT : Hid ((x / 512 % 2 == 1) = T) := hT
  have HD : Hid ((x / 256 % 2 == 1) = D) := hD
  have HR : Hid ((x / 128 % 2 == 1) = R) := hR
  have HZ : Hid (x / 16 % 8 = Z) := hZ
  have HC : Hid (x / 1 % 16 = C) := hC
  clear hQ hO hA hT hD hR hZ hC
  have hmf : ∀ (fn : Fn) (first cap : Array Value) (w : World), (Instr.makeFunc fn first cap).run Try.prog w = .ok (.func fn first cap) w := fun _ _ _ _ => rfl
  have j : SAt w ((((w.alloc (.cells #[.int .u16 x] 86)).alloc (.cells headZ 23)).alloc (.cells #[takeF w.heap.size] 100)).alloc (.cells headZ 23)) w.heap.size (w.heap.size + 1) (w.heap.size + 1 + 1) (w.heap.size + 1 + 1 + 1) headZ x 0 := by
    have z1 : (w.alloc (.cells #[.int .u16 x] 86)).heap.size = w.heap.size + 1 := by simp
    have z2 : ((w.alloc (.cells #[.int .u16 x] 86)).alloc (.cells headZ 23)).heap.size = w.heap.size + 1 + 1 := by simp
    have z3 : (((w.alloc (.cells #[.int .u16 x] 86)).alloc (.cells headZ 23)).alloc (.cells #[takeF w.heap.size] 100)).heap.size = w.heap.size + 1 + 1 + 1 := by simp
    have zx : x * 2 ^ 0 % 65536 = x := by omega
    refine ⟨?_, ?_, ?_, ?_, lay (lay (lay (lay (Below.refl _ _) _) _) _) _, by omega, by omega⟩
    · rw [zx]; exact (((Blk.new w _ _).alloc _).alloc _).alloc _
    · have := ((Blk.new (w.alloc (.cells #[.int .u16 x] 86)) headZ 23).alloc (.cells #[takeF w.heap.size] 100)).alloc (.cells headZ 23)
      rw [z1] at this; exact this
    · have := (Blk.new ((w.alloc (.cells #[.int .u16 x] 86)).alloc (.cells headZ 23)) #[takeF w.heap.size] 100).alloc (.cells headZ 23)
      rw [z2] at this; exact this
    · have := Blk.new (((w.alloc (.cells #[.int .u16 x] 86)).alloc (.cells headZ 23)).alloc (.cells #[takeF w.heap.size] 100)) headZ 23
      rw [z3] at this; exact this
  have t0 : True := trivial
  have t1 : True := trivial
  have t2 : True := trivial
  have t3 : True := trivial
  have t4 : True := trivial
  have t5 : True := trivial
  have t6 : True := trivial
  have t7 : True := trivial
  go_enter Try.func38, Try.ntmps38
  go_wp2_with (first
    | (go_at_call 52; have _t := t0; go_must (refine (sFlag j 32768 Q (by decide) rfl hx HQ.out).mono ?_); rintro e w1 ⟨rfl, j1⟩; replace j := j1; clear j1 _t t0; obtain ⟨c0, c1, c2, c3, c4, c5, c6, c7, c8⟩ := Blk.nine j.h; obtain ⟨e0, e1, e2, e3, e4, e5, e6, e7, e8⟩ := Blk.open9 j.h; have ct : w1.cell? ⟨w.heap.size + 1 + 1, 0, none⟩ = some (.func (.func 51) #[] #[.pointer (some ⟨w.heap.size, 0, none⟩)]) := j.take.cell 0)
    | (go_at_call 51; have _t := t1; go_must (refine (sTake (SAt.put j 1 (.bool Q) (headV 0 Q 0 false false false false 0 0) rfl) 4 4 2048 16 4096 O rfl (.inr (.inr ⟨rfl, rfl, rfl⟩)) (by decide) rfl hx HO.out).mono ?_); rintro e w1 ⟨rfl, j1⟩; replace j := j1; clear j1 _t t1; obtain ⟨c0, c1, c2, c3, c4, c5, c6, c7, c8⟩ := Blk.nine j.h; obtain ⟨e0, e1, e2, e3, e4, e5, e6, e7, e8⟩ := Blk.open9 j.h; have ct : w1.cell? ⟨w.heap.size + 1 + 1, 0, none⟩ = some (.func (.func 51) #[] #[.pointer (some ⟨w.heap.size, 0, none⟩)]) := j.take.cell 0)
    | (go_at_call 52; have _t := t2; go_must (refine (sFlag (SAt.put j 2 (.int .i64 O) (headV 0 Q O false false false false 0 0) rfl) 1024 A (by decide) rfl hx HA.out).mono ?_); rintro e w1 ⟨rfl, j1⟩; replace j := j1; clear j1 _t t2; obtain ⟨c0, c1, c2, c3, c4, c5, c6, c7, c8⟩ := Blk.nine j.h; obtain ⟨e0, e1, e2, e3, e4, e5, e6, e7, e8⟩ := Blk.open9 j.h; have ct : w1.cell? ⟨w.heap.size + 1 + 1, 0, none⟩ = some (.func (.func 51) #[] #[.pointer (some ⟨w.heap.size, 0, none⟩)]) := j.take.cell 0)
    | (go_at_call 52; have _t := t3; go_must (refine (sFlag (SAt.put j 3 (.bool A) (headV 0 Q O A false false false 0 0) rfl) 512 T (by decide) rfl hx HT.out).mono ?_); rintro e w1 ⟨rfl, j1⟩; replace j := j1; clear j1 _t t3; obtain ⟨c0, c1, c2, c3, c4, c5, c6, c7, c8⟩ := Blk.nine j.h; obtain ⟨e0, e1, e2, e3, e4, e5, e6, e7, e8⟩ := Blk.open9 j.h; have ct : w1.cell? ⟨w.heap.size + 1 + 1, 0, none⟩ = some (.func (.func 51) #[] #[.pointer (some ⟨w.heap.size, 0, none⟩)]) := j.take.cell 0)
    | (go_at_call 52; have _t := t4; go_must (refine (sFlag (SAt.put j 4 (.bool T) (headV 0 Q O A T false false 0 0) rfl) 256 D (by decide) rfl hx HD.out).mono ?_); rintro e w1 ⟨rfl, j1⟩; replace j := j1; clear j1 _t t4; obtain ⟨c0, c1, c2, c3, c4, c5, c6, c7, c8⟩ := Blk.nine j.h; obtain ⟨e0, e1, e2, e3, e4, e5, e6, e7, e8⟩ := Blk.open9 j.h; have ct : w1.cell? ⟨w.heap.size + 1 + 1, 0, none⟩ = some (.func (.func 51) #[] #[.pointer (some ⟨w.heap.size, 0, none⟩)]) := j.take.cell 0)
    | (go_at_call 52; have _t := t5; go_must (refine (sFlag (SAt.put j 5 (.bool D) (headV 0 Q O A T D false 0 0) rfl) 128 R (by decide) rfl hx HR.out).mono ?_); rintro e w1 ⟨rfl, j1⟩; replace j := j1; clear j1 _t t5; obtain ⟨c0, c1, c2, c3, c4, c5, c6, c7, c8⟩ := Blk.nine j.h; obtain ⟨e0, e1, e2, e3, e4, e5, e6, e7, e8⟩ := Blk.open9 j.h; have ct : w1.cell? ⟨w.heap.size + 1 + 1, 0, none⟩ = some (.func (.func 51) #[] #[.pointer (some ⟨w.heap.size, 0, none⟩)]) := j.take.cell 0)
    | (go_at_call 51; have _t := t6; go_must (refine (sTake (SAt.put j 6 (.bool R) (headV 0 Q O A T D R 0 0) rfl) 3 3 16 8 8192 Z rfl (.inr (.inl ⟨rfl, rfl, rfl⟩)) (by decide) rfl hx HZ.out).mono ?_); rintro e w1 ⟨rfl, j1⟩; replace j := j1; clear j1 _t t6; obtain ⟨c0, c1, c2, c3, c4, c5, c6, c7, c8⟩ := Blk.nine j.h; obtain ⟨e0, e1, e2, e3, e4, e5, e6, e7, e8⟩ := Blk.open9 j.h; have ct : w1.cell? ⟨w.heap.size + 1 + 1, 0, none⟩ = some (.func (.func 51) #[] #[.pointer (some ⟨w.heap.size, 0, none⟩)]) := j.take.cell 0)
    | (go_at_call 51; have _t := t7; go_must (refine (sTake (SAt.put j 7 (.int .i64 Z) (headV 0 Q O A T D R Z 0) rfl) 4 4 1 16 4096 C rfl (.inr (.inr ⟨rfl, rfl, rfl⟩)) (by decide) rfl hx HC.out).mono ?_); rintro e w1 ⟨rfl, j1⟩; replace j := j1; clear j1 _t t7; obtain ⟨c0, c1, c2, c3, c4, c5, c6, c7, c8⟩ := Blk.nine j.h; obtain ⟨e0, e1, e2, e3, e4, e5, e6, e7, e8⟩ := Blk.open9 j.h; have ct : w1.cell? ⟨w.heap.size + 1 + 1, 0, none⟩ = some (.func (.func 51) #[] #[.pointer (some ⟨w.heap.size, 0, none⟩)]) := j.take.cell 0; obtain ⟨r0, r1, r2, r3, r4, r5, r6, r7, r8⟩ := Blk.nine j.res; obtain ⟨f0, f1, f2, f3, f4, f5, f6, f7, f8⟩ := Blk.open9 j.res; have hne := j.ne.2.2.1))
  have j9 := SAt.put j 8 (.int .i64 C) (headV 0 Q O A T D R Z C) rfl
  have q := Blk.put9 j9.res 0 Q O A T D R Z C
  have qb := put9_below j9.below j9.new.2.1 0 Q O A T D R Z C
  revert q qb
  generalize ((((((((((w1.setCell ⟨w.heap.size + 1 + 1 + 1, 8, none⟩ (.int .i64 C)).setCell ⟨w.heap.size + 1, 0, none⟩ (.int .i64 0)).setCell ⟨w.heap.size + 1, 1, none⟩ (.bool Q)).setCell ⟨w.heap.size + 1, 2, none⟩ (.int .i64 O)).setCell ⟨w.heap.size + 1, 3, none⟩ (.bool A)).setCell ⟨w.heap.size + 1, 4, none⟩ (.bool T)).setCell ⟨w.heap.size + 1, 5, none⟩ (.bool D)).setCell ⟨w.heap.size + 1, 6, none⟩ (.bool R)).setCell ⟨w.heap.size + 1, 7, none⟩ (.int .i64 Z)).setCell ⟨w.heap.size + 1, 8, none⟩ (.int .i64 C)) = W
  intro q qb
  obtain ⟨q0, q1, q2, q3, q4, q5, q6, q7, q8⟩ := Blk.nine q
  refine bodyPost_ret (v := .agg (headV 0 Q O A T D R Z C)) (by simp [results, Try.results38, go_sem, q0, q1, q2, q3, q4, q5, q6, q7, q8, headV]) rfl ⟨rfl, qb⟩

end Go.Proofs.Ytbffnicfibfceaa
