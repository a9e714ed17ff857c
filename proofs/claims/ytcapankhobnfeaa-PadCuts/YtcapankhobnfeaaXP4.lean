/- What awake gives: true. -/
import Derived.Test.YtcapankhobnfeaaXP3
import Derived.ChangeSlices
import Derived.SliceStrings
import Derived.Carry
import Derived.ProofKit
import Derived.OpenShut
import Derived.ShutString
import Derived.Test.YtcapankhobnfeaaXP2
import Derived.Test.YtcapankhobnfeaaXP1
namespace Go.Proofs.Ytcapankhobnfeaa
open Go.RowKit

theorem eq4' (n : Nat) (a b c d a' b' c' d' : Int) (u : World) : (Op.equalIn (n + 2) 81 (.agg #[.int .i64 a, .int .i64 b, .int .i64 c, .int .i64 d]) (.agg #[.int .i64 a', .int .i64 b', .int .i64 c', .int .i64 d'])).run Try.prog u = .ok ((a == a') && (b == b') && (c == c') && (d == d')) u := by
  have hi : ∀ (x y : Int) (u : World), (Op.equalIn (n + 1) 3 (.int .i64 x) (.int .i64 y)).run Try.prog u = .ok (x == y) u := fun x y u => run_equalIn_int u n 3 .i64 .i64 x y Try.underlying3
  rw [Op.equalIn]
  simp only [Sem.run_bind, run_underlying Try.underlying81, Result.andThen_ok, Std.Legacy.Range.forIn_eq_forIn_range', Std.Legacy.Range.size, List.range', List.forIn_cons, List.forIn_nil]
  cases h1 : a == a' <;> cases h2 : b == b' <;> cases h3 : c == c' <;> cases h4 : d == d' <;> simp [go_sem, part, sizeOf, size3, hi, h1, h2, h3, h4]
/-- Whether two rows of four counts are the same. -/
theorem eq4 (a b c d a' b' c' d' : Int) (u : World) : (Op.equalIn 10000 81 (.agg #[.int .i64 a, .int .i64 b, .int .i64 c, .int .i64 d]) (.agg #[.int .i64 a', .int .i64 b', .int .i64 c', .int .i64 d'])).run Try.prog u = .ok ((a == a') && (b == b') && (c == c') && (d == d')) u := eq4' 9998 a b c d a' b' c' d' u

theorem max9 {n : Nat} (h : n ≤ 100) : n ≤ maxLen := by unfold maxLen; omega

/-- The bytes of the header that awake puts. -/
def awS : ByteArray := ⟨#[1, 2, 145, 83, 0, 1, 0, 2, 0, 3, 0, 4]⟩
theorem aw1 (w : World) : Calls Try.prog 56 #[.agg (headV 258 true 2 false false true false 5 3), .agg (cntV 1 2 3 4)] w fun e w' => e = .returned (.tuple #[.string awS, .int .i64 0]) ∧ Below w.heap.size w w' := by
  have h := put_yes 258 true 2 false false true false 5 3 1 2 3 4 w (by decide)
  rw [show putS 258 (wordH true 2 false false true false 5 3) 1 2 3 4 4 = awS from by apply ByteArray.ext; decide] at h
  exact h
theorem aw3 (w : World) : Calls Try.prog 56 #[.agg (headV 0 false 16 false false false false 0 0), .agg (cntV 0 0 0 0)] w fun e w' => e = .returned (.tuple #[.string ⟨#[]⟩, .int .i64 600]) ∧ Below w.heap.size w w' := put_no 0 false 16 false false false false 0 0 0 0 0 0 w (by decide)
end Go.Proofs.Ytcapankhobnfeaa

/- Headers there and back, plainly; an api.Head as it comes in. -/
namespace Go.Proofs.Ytcapankhobnfeaa
open Go.ChangeShapes Go.WideShapes Go.ChangeAt Go.RowKit
open Go.ChangeMaps (open_string shut_string)


theorem bI_beq (q : Bool) : (bI q == 1) = q := by cases q <;> rfl
theorem bI_bit (y : Int) : bI (y % 2 == 1) = y % 2 := by
  have : y % 2 = 0 ∨ y % 2 = 1 := by omega
  rcases this with h | h <;> rw [h] <;> rfl

/-- The word of a header's parts has just these parts. -/
theorem head_back (id : Int) (qr : Bool) (op : Int) (aa tc rd ra : Bool) (z rc : Int) (ho : fitI 16 op = true) (hz : fitI 8 z = true) (hr : fitI 16 rc = true) :
    headW id (wordH qr op aa tc rd ra z rc) = headV id qr op aa tc rd ra z rc := by
  have O := fit_iff.1 ho
  have Z := fit_iff.1 hz
  have R := fit_iff.1 hr
  have q1 := bI_lt qr
  have q2 := bI_lt aa
  have q3 := bI_lt tc
  have q4 := bI_lt rd
  have q5 := bI_lt ra
  obtain ⟨v, hv⟩ : ∃ v, v = wordH qr op aa tc rd ra z rc := ⟨_, rfl⟩
  rw [← hv]
  unfold wordH at hv
  have e1 : v / 32768 % 2 = bI qr := by omega
  have e2 : v / 2048 % 16 = op := by omega
  have e3 : v / 1024 % 2 = bI aa := by omega
  have e4 : v / 512 % 2 = bI tc := by omega
  have e5 : v / 256 % 2 = bI rd := by omega
  have e6 : v / 128 % 2 = bI ra := by omega
  have e7 : v / 16 % 8 = z := by omega
  have e8 : v / 1 % 16 = rc := by omega
  unfold headW
  rw [e1, e2, e3, e4, e5, e6, e7, e8, bI_beq, bI_beq, bI_beq, bI_beq, bI_beq]
/-- The parts of a word make it. -/
theorem word_back (v : Int) (h0 : 0 ≤ v) (h1 : v < 65536) : wordH (v / 32768 % 2 == 1) (v / 2048 % 16) (v / 1024 % 2 == 1) (v / 512 % 2 == 1) (v / 256 % 2 == 1) (v / 128 % 2 == 1) (v / 16 % 8) (v / 1 % 16) = v := by
  unfold wordH
  rw [bI_bit, bI_bit, bI_bit, bI_bit, bI_bit]
  omega

theorem list12 (id v a b c d : Int) : (putS id v a b c d 4).data.toList = [oct id 256, oct id 1, oct v 256, oct v 1, oct a 256, oct a 1, oct b 256, oct b 1, oct c 256, oct c 1, oct d 256, oct d 1] := by
  show (be2 id ++ be2 v ++ be2 a ++ be2 b ++ be2 c ++ be2 d).data.toList = _
  rw [app_list, app_list, app_list, app_list, app_list]
  rfl
theorem val_of {s : ByteArray} {k : Nat} {a b : UInt8} {rest : List UInt8} (h : s.data.toList.drop k = a :: b :: rest) : val s k 2 = two a b := by
  obtain ⟨_, e0⟩ := drop_get h 0 (by simp)
  obtain ⟨h1, e1⟩ := drop_get h 1 (by simp)
  have f0 : s[k] = a := e0
  rw [val_two s k (by omega), f0, e1]
  rfl
theorem oct_two (a b : UInt8) : oct (two a b) 256 = a ∧ oct (two a b) 1 = b := by
  have := a.toNat_lt
  have := b.toNat_lt
  have e1 : (two a b) / 256 % 256 = (a.toNat : Int) := by unfold two; omega
  have e2 : (two a b) / 1 % 256 = (b.toNat : Int) := by unfold two; omega
  unfold oct
  rw [e1, e2]
  exact ⟨by simp, by simp⟩
/-- What was put is told. -/
theorem put_vals (id v a b c d : Int) (s : ByteArray) : val (putS id v a b c d 4 ++ s) 0 2 = id % 65536 ∧ val (putS id v a b c d 4 ++ s) 2 2 = v % 65536 ∧ val (putS id v a b c d 4 ++ s) 4 2 = a % 65536 ∧ val (putS id v a b c d 4 ++ s) 6 2 = b % 65536 ∧ val (putS id v a b c d 4 ++ s) 8 2 = c % 65536 ∧ val (putS id v a b c d 4 ++ s) 10 2 = d % 65536 := by
  have hl : (putS id v a b c d 4 ++ s).data.toList = [oct id 256, oct id 1, oct v 256, oct v 1, oct a 256, oct a 1, oct b 256, oct b 1, oct c 256, oct c 1, oct d 256, oct d 1] ++ s.data.toList := by rw [app_list, list12]
  rw [← two_be id, ← two_be v, ← two_be a, ← two_be b, ← two_be c, ← two_be d]
  exact ⟨val_of (by rw [hl]; rfl), val_of (by rw [hl]; rfl), val_of (by rw [hl]; rfl), val_of (by rw [hl]; rfl), val_of (by rw [hl]; rfl), val_of (by rw [hl]; rfl)⟩
/-- What was told is put. -/
theorem put_back (s : ByteArray) (h : 12 ≤ s.size) : putS (val s 0 2) (val s 2 2) (val s 4 2) (val s 6 2) (val s 8 2) (val s 10 2) 4 = s.extract 0 12 := by
  have hlen : 12 ≤ s.data.toList.length := by rw [data_len]; exact h
  obtain ⟨l, hl⟩ : ∃ l, s.data.toList = l := ⟨_, rfl⟩
  rw [hl] at hlen
  match l, hlen, hl with
  | x0 :: x1 :: x2 :: x3 :: x4 :: x5 :: x6 :: x7 :: x8 :: x9 :: x10 :: x11 :: r, _, hl =>
    have v0 : val s 0 2 = two x0 x1 := val_of (by rw [hl]; rfl)
    have v1 : val s 2 2 = two x2 x3 := val_of (by rw [hl]; rfl)
    have v2 : val s 4 2 = two x4 x5 := val_of (by rw [hl]; rfl)
    have v3 : val s 6 2 = two x6 x7 := val_of (by rw [hl]; rfl)
    have v4 : val s 8 2 = two x8 x9 := val_of (by rw [hl]; rfl)
    have v5 : val s 10 2 = two x10 x11 := val_of (by rw [hl]; rfl)
    apply ByteArray.ext
    apply Array.toList_inj.1
    rw [v0, v1, v2, v3, v4, v5, list12, ext_to, hl, (oct_two x0 x1).1, (oct_two x0 x1).2, (oct_two x2 x3).1, (oct_two x2 x3).2, (oct_two x4 x5).1, (oct_two x4 x5).2, (oct_two x6 x7).1, (oct_two x6 x7).2, (oct_two x8 x9).1, (oct_two x8 x9).2, (oct_two x10 x11).1, (oct_two x10 x11).2]
    rfl

theorem int_cells : Try.prog.cellsOf 3 = 1 := by kernel_rfl
theorem bool_cells : Try.prog.cellsOf 4 = 1 := by kernel_rfl
theorem head_cells : Try.prog.cellsOf 25 = 9 := by kernel_rfl

set_option maxRecDepth 100000 in
/-- An api.Head as it comes in. -/
theorem open_head {H : Type} {enc : TypeId × Value → H} {W : World} {r : Reach} {b0 : Nat} {v : Value} {d : DataW H} {p : List MemPlace} (hval : Value.okWide Try.prog W r b0 25 v) (h0 : DataW.Trod enc Try.prog W 0 (fun _ => true) true 25 v d p) :
    ∃ (id : Int) (qr : Bool) (op : Int) (aa tc rd ra : Bool) (z rc : Int), v = .agg (headV id qr op aa tc rd ra z rc) ∧ p = [] := by
  obtain ⟨cs, rfl, hsz⟩ := okWide_struct Try.underlying25 hval
  obtain ⟨fuel, hf⟩ := h0
  obtain ⟨xs, n, _, hx, hl, hlen, hfs⟩ := DataW.trod_struct Try.underlying25 hf
  obtain ⟨l, rfl⟩ : ∃ l : List Value, cs = l.toArray := ⟨cs.toList, by simp⟩
  have hl9 : l.length = 9 := by rw [head_cells] at hsz; simpa using hsz
  match l, hl9 with
  | [c0, c1, c2, c3, c4, c5, c6, c7, c8], _ =>
  match xs, hlen with
  | [y0, y1, y2, y3, y4, y5, y6, y7, y8], _ =>
    have t0 := hfs 0 _ rfl
    have t1 := hfs 1 _ rfl
    have t2 := hfs 2 _ rfl
    have t3 := hfs 3 _ rfl
    have t4 := hfs 4 _ rfl
    have t5 := hfs 5 _ rfl
    have t6 := hfs 6 _ rfl
    have t7 := hfs 7 _ rfl
    have t8 := hfs 8 _ rfl
    simp [bool_cells, int_cells, Value.cells] at t0 t1 t2 t3 t4 t5 t6 t7 t8
    obtain ⟨id, e0, x0, _⟩ := DataW.trod_int Try.underlying3 t0
    obtain ⟨qr, e1, x1⟩ := DataW.trod_bool Try.underlying4 t1
    obtain ⟨op, e2, x2, _⟩ := DataW.trod_int Try.underlying3 t2
    obtain ⟨aa, e3, x3⟩ := DataW.trod_bool Try.underlying4 t3
    obtain ⟨tc, e4, x4⟩ := DataW.trod_bool Try.underlying4 t4
    obtain ⟨rd, e5, x5⟩ := DataW.trod_bool Try.underlying4 t5
    obtain ⟨ra, e6, x6⟩ := DataW.trod_bool Try.underlying4 t6
    obtain ⟨z, e7, x7, _⟩ := DataW.trod_int Try.underlying3 t7
    obtain ⟨rc, e8, x8, _⟩ := DataW.trod_int Try.underlying3 t8
    simp at e0 e1 e2 e3 e4 e5 e6 e7 e8
    subst e0 e1 e2 e3 e4 e5 e6 e7 e8
    refine ⟨id, qr, op, aa, tc, rd, ra, z, rc, rfl, ?_⟩
    have := (Prod.mk.inj hx).2
    rw [this, x0, x1, x2, x3, x4, x5, x6, x7, x8]
    rfl

end Go.Proofs.Ytcapankhobnfeaa

/- Rows of strings that come in; rows beside a Writer. -/
namespace Go.Proofs.Ytcapankhobnfeaa
open Go.ChangeShapes Go.WideShapes Go.ChangeAt Go.RowKit
open Go.ChangeMaps (open_string shut_string)
open Pl


/-- No block of a Writer is a row of another type. -/
theorem CW.apart {w : World} {g k : Nat} {v m : Value} {B : List UInt8} {ms : Marks} {c : Array Value} {t : TypeId} {f : Nat × Nat} (h : CW w g v m B ms) (hk : w.heap[k]? = some (Obj.cells c t f)) (h1 : t ≠ 5) (h2 : t ≠ 140) : ¬ own g v m k := by
  rintro (rfl | e | e)
  · have := h.blk
    unfold Blk at this
    rw [hk] at this
    simp at this
    exact h2 this.2.1
  · rcases h.row.2 with ⟨h3, _⟩ | ⟨g', cap, cur, h3, _, hg, _⟩
    · rw [h3] at e; simp [Value.ownBlock] at e
    · rw [h3] at e
      simp [Value.ownBlock] at e
      subst e
      rw [hk] at hg
      simp at hg
      exact h1 hg.2.1
  · rcases h.map with ⟨h3, _⟩ | ⟨b', D, h3, ⟨es, clock, hb, _⟩, _⟩
    · rw [h3] at e; simp at e
    · rw [h3] at e
      simp at e
      subst e
      rw [hk] at hb
      simp at hb
/-- A Writer lies as it lay where a row of another type has grown. -/
theorem Holds.grown {w0 w w' : World} {g base e z n : Nat} {B : List UInt8} {ms : Marks} {v : Value} {xs : List Value} (h : Holds w0 w g B ms) (ho : w.ownsRow base e z v n xs) (hb : w0.heap.size ≤ base) (h1 : e ≠ 5) (h2 : e ≠ 140) (hg : w.grownBy w' v.ownBlock) : Holds w0 w' g B ms := by
  obtain ⟨u, m, a1, a2, a3, a4⟩ := h
  have hd : ∀ k, own g u m k → ¬ v.ownBlock = some k := fun k hk e => by
    rcases ho.2 with ⟨h3, _⟩ | ⟨g', cap, cur, h3, _, hgg, _⟩
    · rw [h3] at e; simp [Value.ownBlock] at e
    · rw [h3] at e
      simp [Value.ownBlock] at e
      subst e
      exact a1.apart hgg h1 h2 hk
  refine ⟨u, m, a1.turn (S := fun k => v.ownBlock = some k) (Turn.of_grown hg (fun _ hk => hk)) hd, a2, a3, a4.grown hg a4.size (fun k hk => Nat.le_trans hb (ho.lt k hk).1)⟩
theorem Holds.alloc {w0 w : World} {g : Nat} {B : List UInt8} {ms : Marks} (h : Holds w0 w g B ms) (o : Obj) : Holds w0 (w.alloc o) g B ms := h.below ((Below.refl _ _).alloc (Nat.le_refl _) o)
theorem one_cell (w : World) (x : ByteArray) : ∀ j (hj : j < [x].length), (w.alloc (.cells #[.string x] 9)).cell? ((⟨w.heap.size, 0, none⟩ : Addr).add j) = some (.string [x][j]) := by
  intro j hj
  have := World.news_of_block (heap_alloc_new w (.cells #[.string x] 9)) j (.string [x][j])
  have hj0 : j = 0 := by simpa using hj
  subst hj0
  exact this (by simp)
theorem row_some {w : World} {base e z n c : Nat} {y : Option Addr} {xs : List Value} (h : w.ownsRow base e z (.slice y n c) n xs) (hn : 0 < n) : ∃ g, y = some ⟨g, 0, none⟩ := by
  rcases h.2 with ⟨_, h2⟩ | ⟨g, cap, cur, h1, _⟩
  · omega
  · simp at h1; exact ⟨g, h1.1⟩
theorem str_beq (a b : ByteArray) : (a.toList == b.toList) = decide (a = b) := by
  rw [ByteArray.toList_eq, ByteArray.toList_eq, Bool.eq_iff_iff]
  simp only [beq_iff_eq, decide_eq_true_eq]
  exact ⟨fun h => by apply ByteArray.ext; apply Array.ext'; exact h, fun h => by rw [h]⟩

/-- The names that fit: what is written takes this many bytes. -/
theorem nam_fits {B : List UInt8} {ms : Marks} {n : List UInt8} (hn : isName n = true) (hB : B.length + 255 ≤ 4096) : namE B ms n = 0 ∧ (namB B ms n).length = B.length + sizW ms n ∧ namB B ms n = outW B ms n ∧ namM B ms n = marW B ms n := by
  have h1 := splN_size hn ms
  have h2 := (name_some hn).1
  obtain ⟨a, b, c⟩ := nam_yes (B := B) (ms := ms) hn (by omega)
  exact ⟨a, by rw [b, outW_len hn], b, c⟩
theorem siz_le {ms : Marks} {n : List UInt8} (hn : isName n = true) : 1 ≤ sizW ms n ∧ sizW ms n ≤ n.length := by
  refine ⟨?_, splN_size hn ms⟩
  unfold sizW
  rcases splN_end hn ms with ⟨_, _, h⟩ | ⟨q, _, h⟩
  · rw [h]; simp
  · rw [h]; simp [ptrB]
/-- A name that is not the root has a place behind its writing. -/
theorem mar_has {B : List UInt8} {ms : Marks} {n : List UInt8} (hn : isName n = true) (h0 : n ≠ [0]) : ∃ q, plc (marW B ms n) n = some q := by
  cases hp : plc ms n with
  | some q => exact ⟨q, plc_keep hp⟩
  | none =>
    have hl := name_ne hn
    have h0' : n[0].toNat ≠ 0 := fun e => h0 (by have := nat_root (nat_start hn) hl e; simpa using this)
    obtain ⟨_, hlt⟩ := w_miss (w_start hn ms) hl h0' (by simpa using hp)
    refine ⟨B.length + 0, ?_⟩
    unfold marW newM
    rw [plc_app, hp]
    obtain ⟨f, hf⟩ : ∃ f, n.length = f + 1 := ⟨n.length - 1, by omega⟩
    rw [hf, sts, if_pos hlt]
    simp [mkM, plc]

end Go.Proofs.Ytcapankhobnfeaa

/- Names that were written are read again: plain facts on bytes, with no word of the program. -/
namespace Go.Proofs.Ytcapankhobnfeaa.Pl

/-- The bytes from p on read as r, in at most so many steps; b: the place behind. -/
def Rd (l : List UInt8) : Nat → Nat → Nat → List UInt8 → Nat → Prop
  | 0, _, _, _, _ => False
  | d + 1, p, g, r, b => p < l.length ∧
    (((l.getD p 0).toNat = 0 ∧ r = [0] ∧ b = p + 1) ∨
     ((l.getD p 0).toNat ≠ 0 ∧ (l.getD p 0).toNat ≤ 63 ∧ p + 1 + (l.getD p 0).toNat ≤ l.length ∧ ∃ r', r = (l.drop p).take (1 + (l.getD p 0).toNat) ++ r' ∧ Rd l d (p + 1 + (l.getD p 0).toNat) g r' b) ∨
     (191 < (l.getD p 0).toNat ∧ p + 2 ≤ l.length ∧ ptrAt l p < g ∧ b = p + 2 ∧ ∃ b', Rd l d (ptrAt l p) (ptrAt l p) r b'))

theorem rd_gives {l : List UInt8} : ∀ (d p g : Nat) (r : List UInt8) (b : Nat) (o : List UInt8) (x : Option Nat) (R : Option (List UInt8 × Nat)), Rd l d p g r b → o.length + r.length ≤ 255 → RAt l p g o x R → R = some (o ++ r, x.getD b) := by
  intro d
  induction d with
  | zero => intro p g r b o x R h; exact absurd h (by simp [Rd])
  | succ d ih =>
    intro p g r b o x R h hl hr
    obtain ⟨hp, h⟩ := h
    rw [getD_get hp] at h
    rcases h with ⟨h0, rfl, rfl⟩ | ⟨h0, h1, h2, r', rfl, h3⟩ | ⟨h0, h1, h2, rfl, b', h3⟩
    · exact r_zero hr hp h0 (by simp at hl; omega)
    · have hll := lab_len (l := l) (p := p) h2
      rw [List.length_append, hll] at hl
      have := ih _ _ _ _ _ _ _ h3 (by rw [List.length_append, hll]; omega) (r_lab hr hp h0 h1 h2 (by omega))
      rw [this, List.append_assoc]
    · have := ih _ _ _ _ _ _ _ h3 hl (r_ptr hr hp h0 h1 h2)
      rw [this]; rfl

theorem rd_name {l : List UInt8} {d p : Nat} {r : List UInt8} {b : Nat} (h : Rd l d p p r b) (hl : r.length ≤ 255) : nameOf l p = some (r, b) := by
  have := rd_gives d p p r b [] none _ h (by simpa using hl) (r_start l p)
  simpa using this

theorem getD_app {l e : List UInt8} {p : Nat} (h : p < l.length) : (l ++ e).getD p 0 = l.getD p 0 := by
  rw [List.getD_eq_getElem?_getD, List.getD_eq_getElem?_getD, List.getElem?_append_left h]
theorem take_app {l e : List UInt8} {p k : Nat} (h : p + k ≤ l.length) : ((l ++ e).drop p).take k = (l.drop p).take k := by
  rw [List.drop_append_of_le_length (by omega), List.take_append_of_le_length (by rw [List.length_drop]; omega)]
theorem ptr_mono {l e : List UInt8} {p : Nat} (h : p + 2 ≤ l.length) : ptrAt (l ++ e) p = ptrAt l p := by
  unfold ptrAt; rw [getD_app (by omega), getD_app (by omega)]
theorem rd_app {l : List UInt8} (e : List UInt8) : ∀ (d p g : Nat) (r : List UInt8) (b : Nat), Rd l d p g r b → Rd (l ++ e) d p g r b := by
  intro d
  induction d with
  | zero => intro p g r b h; exact h
  | succ d ih =>
    intro p g r b h
    obtain ⟨hp, h⟩ := h
    refine ⟨by rw [List.length_append]; omega, ?_⟩
    rw [getD_app hp]
    rcases h with h | ⟨h0, h1, h2, r', rfl, h3⟩ | ⟨h0, h1, h2, rfl, b', h3⟩
    · exact .inl h
    · exact .inr (.inl ⟨h0, h1, by rw [List.length_append]; omega, r', by rw [take_app (by omega)], ih _ _ _ _ h3⟩)
    · rw [ptr_mono h1]
      exact .inr (.inr ⟨h0, by rw [List.length_append]; omega, h2, rfl, b', ih _ _ _ _ h3⟩)
theorem rd_g {l : List UInt8} : ∀ (d p g g' : Nat) (r : List UInt8) (b : Nat), g ≤ g' → Rd l d p g r b → Rd l d p g' r b := by
  intro d
  induction d with
  | zero => intro p g g' r b _ h; exact h
  | succ d ih =>
    intro p g g' r b hg h
    obtain ⟨hp, h⟩ := h
    refine ⟨hp, ?_⟩
    rcases h with h | ⟨h0, h1, h2, r', rfl, h3⟩ | ⟨h0, h1, h2, rfl, b', h3⟩
    · exact .inl h
    · exact .inr (.inl ⟨h0, h1, h2, r', rfl, ih _ _ _ _ _ hg h3⟩)
    · exact .inr (.inr ⟨h0, h1, by omega, rfl, b', h3⟩)

/-- The first e bytes of n stand in l at P. -/
def Copied (l : List UInt8) (P : Nat) (n : List UInt8) (e : Nat) : Prop := e ≤ n.length ∧ P + e ≤ l.length ∧ (l.drop P).take e = n.take e
theorem copied_at {l : List UInt8} {P : Nat} {n : List UInt8} {e p k : Nat} (h : Copied l P n e) (hp : p + k ≤ e) : (l.drop (P + p)).take k = (n.drop p).take k := by
  have h1 := congrArg (fun x => (x.drop p).take k) h.2.2
  simp only [List.drop_take, List.drop_drop, List.take_take] at h1
  rw [show min k (e - p) = k from by omega] at h1
  exact h1
theorem copied_get {l : List UInt8} {P : Nat} {n : List UInt8} {e p : Nat} (h : Copied l P n e) (hp : p < e) : l.getD (P + p) 0 = n.getD p 0 := by
  have h1 := copied_at (p := p) (k := 1) h (by omega)
  have hl := h.2.1
  have hn := h.1
  rw [drop_at l (P + p) (by omega), drop_at n p (by omega)] at h1
  simp only [List.take_succ_cons, List.take_zero, List.cons.injEq, and_true] at h1
  rw [getD_get (by omega), getD_get (by omega), h1]

/-- Labels that stand somewhere, and an end that reads as the rest: the whole name is read. -/
theorem rd_labels {l : List UInt8} {P g b e : Nat} {n : List UInt8} {ms : Marks} (hc : Copied l P n e) {d0 : Nat} (he : Rd l d0 (P + e) g (n.drop e) b) : ∀ (f p : Nat), n.length ≤ f + p → NAt n p → (spl f ms n p).1 = e → ∃ d, Rd l d (P + p) g (n.drop p) b := by
  intro f
  induction f with
  | zero => intro p hf hn; have := nat_lt hn; omega
  | succ f ih =>
    intro p hf hn hs
    have hp := nat_lt hn
    rw [spl, getD_get hp] at hs
    by_cases h0 : n[p].toNat = 0
    · rw [if_pos h0] at hs
      simp only at hs
      subst hs
      exact ⟨d0, he⟩
    · rw [if_neg h0] at hs
      cases hq : plc ms (n.drop p) with
      | some q =>
        rw [hq] at hs
        simp only at hs
        subst hs
        exact ⟨d0, he⟩
      | none =>
        rw [hq] at hs
        simp only at hs
        obtain ⟨h1, h2, h3⟩ := nat_step hn hp h0
        obtain ⟨d, hd⟩ := ih (p + 1 + n[p].toNat) (by omega) h3 hs
        have hge := spl_ge f ms n (p + 1 + n[p].toNat)
        rw [hs] at hge
        have hgd : l.getD (P + p) 0 = n[p] := by rw [copied_get hc (by omega), getD_get hp]
        have hcl := hc.2.1
        refine ⟨d + 1, by omega, .inr (.inl ?_)⟩
        rw [hgd]
        refine ⟨h0, h1, by omega, n.drop (p + 1 + n[p].toNat), ?_, by rw [show P + p + 1 + n[p].toNat = P + (p + 1 + n[p].toNat) from by omega]; exact hd⟩
        rw [copied_at hc (by omega)]
        have := List.take_append_drop (1 + n[p].toNat) (n.drop p)
        rw [List.drop_drop, show p + (1 + n[p].toNat) = p + 1 + n[p].toNat from by omega] at this
        exact this.symm

theorem ptr_here (a r : List UInt8) (q : Nat) (hq : q < 16384) : ptrAt (a ++ (ptrB q ++ r)) a.length = q := by
  unfold ptrAt
  have h0 : (a ++ (ptrB q ++ r)).getD a.length 0 = UInt8.ofNat (192 + q / 256) := by rw [List.getD_eq_getElem?_getD, List.getElem?_append_right (by omega)]; simp [ptrB]
  have h1 : (a ++ (ptrB q ++ r)).getD (a.length + 1) 0 = UInt8.ofNat (q % 256) := by rw [List.getD_eq_getElem?_getD, List.getElem?_append_right (by omega)]; simp [ptrB]
  rw [h0, h1, toNat_of (by omega), toNat_of (by omega)]
  omega
/-- A pointer to what reads as r reads as r. -/
theorem rd_ptr {a r t : List UInt8} {q d b g : Nat} (hq : q < 16384) (hg : q < g) (h : Rd (a ++ (ptrB q ++ t)) d q q r b) : Rd (a ++ (ptrB q ++ t)) (d + 1) a.length g r (a.length + 2) := by
  refine ⟨by simp [ptrB], .inr (.inr ?_)⟩
  have h0 : (a ++ (ptrB q ++ t)).getD a.length 0 = UInt8.ofNat (192 + q / 256) := by rw [List.getD_eq_getElem?_getD, List.getElem?_append_right (by omega)]; simp [ptrB]
  rw [h0, toNat_of (by omega), ptr_here a t q hq]
  exact ⟨by omega, by simp [ptrB], hg, rfl, b, h⟩
theorem rd_zero {a t : List UInt8} {g : Nat} : Rd (a ++ (0 :: t)) 1 a.length g [0] (a.length + 1) := by
  refine ⟨by simp, .inl ?_⟩
  rw [List.getD_eq_getElem?_getD, List.getElem?_append_right (by omega)]
  simp

/-- A name that stands whole. -/
theorem rd_whole {n : List UInt8} (hn : isName n = true) (a t : List UInt8) (g : Nat) : ∃ d, Rd (a ++ (n ++ t)) d a.length g n (a.length + n.length) := by
  have hl := name_ne hn
  have hat := splN_at hn []
  rcases splN_end hn [] with ⟨h1, h0, h2⟩ | ⟨q, hq, _⟩
  · obtain ⟨E, hE⟩ : ∃ E, E = (splN [] n).1 := ⟨_, rfl⟩
    simp only [← hE] at h1 h0 hat
    have hz := nat_zero hat h1 h0
    have hr := nat_root hat h1 h0
    have hn2 : n = n.take E ++ [0] := by rw [← hr, List.take_append_drop]
    have hend : Rd (a ++ (n ++ t)) 1 (a.length + E) g (n.drop E) (a.length + n.length) := by
      have e1 : a ++ (n ++ t) = (a ++ n.take E) ++ (0 :: t) := by
        have : n ++ t = n.take E ++ [0] ++ t := by rw [← hn2]
        rw [this]; simp
      have e2 : (a ++ n.take E).length = a.length + E := by rw [List.length_append, List.length_take]; omega
      have := rd_zero (a := a ++ n.take E) (t := t) (g := g)
      rw [e2] at this
      rw [e1, hr, ← hz]
      exact this
    have hc : Copied (a ++ (n ++ t)) a.length n E := by
      refine ⟨by omega, by simp; omega, ?_⟩
      rw [List.drop_left, List.take_append_of_le_length (by omega)]
    obtain ⟨d, hd⟩ := rd_labels (ms := []) hc hend n.length 0 (by omega) (nat_start hn) hE.symm
    exact ⟨d, by simpa using hd⟩
  · simp [plc] at hq
theorem name_whole {n : List UInt8} (hn : isName n = true) (a t : List UInt8) : nameOf (a ++ (n ++ t)) a.length = some (n, a.length + n.length) := by
  obtain ⟨d, hd⟩ := rd_whole hn a t a.length
  exact rd_name hd (name_some hn).1
/-- A pointer to a name that stands whole at the head. -/
theorem name_ptr0 {n : List UInt8} (hn : isName n = true) (u t : List UInt8) : nameOf (n ++ u ++ (ptrB 0 ++ t)) (n.length + u.length) = some (n, n.length + u.length + 2) := by
  obtain ⟨d, hd⟩ := rd_whole hn [] (u ++ (ptrB 0 ++ t)) 0
  have hl := name_ne hn
  have e : (n ++ u).length = n.length + u.length := by rw [List.length_append]
  have h2 : Rd (n ++ u ++ (ptrB 0 ++ t)) d 0 0 n n.length := by
    have : n ++ u ++ (ptrB 0 ++ t) = [] ++ (n ++ (u ++ (ptrB 0 ++ t))) := by simp
    rw [this]
    simpa using hd
  have h3 := rd_ptr (a := n ++ u) (t := t) (q := 0) (g := n.length + u.length) (by decide) (by omega) h2
  rw [e] at h3
  exact rd_name h3 (name_some hn).1

end Go.Proofs.Ytcapankhobnfeaa.Pl

/- What a Writer has written is read again: plain facts on bytes, with no word of the program. -/
namespace Go.Proofs.Ytcapankhobnfeaa.Pl

/-- Each rest reads at its place asx itself. -/
def MInv (B : List UInt8) (ms : Marks) : Prop := ∀ r q, (r, q) ∈ ms → q < B.length ∧ ∃ d b, Rd B d q q r b

theorem sts_spl {ms : Marks} {n : List UInt8} {E : Nat} : ∀ (f p q : Nat), n.length ≤ f + p → NAt n p → (spl f ms n p).1 = E → q ∈ sts f n p E → ∃ f', n.length ≤ f' + q ∧ NAt n q ∧ (spl f' ms n q).1 = E := by
  intro f
  induction f with
  | zero => intro p q _ _ _ hq; simp [sts] at hq
  | succ f ih =>
    intro p q hf hn hs hq
    have hp := nat_lt hn
    rw [sts] at hq
    split at hq
    · rename_i hlt
      rcases List.mem_cons.1 hq with rfl | hq
      · exact ⟨f + 1, hf, hn, hs⟩
      · rw [getD_get hp] at hq
        rw [spl, getD_get hp] at hs
        by_cases h0 : n[p].toNat = 0
        · rw [if_pos h0] at hs; simp only at hs; omega
        · rw [if_neg h0] at hs
          cases hpl : plc ms (n.drop p) with
          | some x => rw [hpl] at hs; simp only at hs; omega
          | none =>
            rw [hpl] at hs
            exact ih _ _ (by omega) (nat_step hn hp h0).2.2 hs hq
    · simp at hq

theorem write_end {B : List UInt8} {ms : Marks} {n : List UInt8} (hn : isName n = true) (hm : MInv B ms) (hB : B.length ≤ 16384) (g : Nat) (hg : B.length ≤ g) : ∃ d, Rd (outW B ms n) d (B.length + (splN ms n).1) g (n.drop (splN ms n).1) (B.length + sizW ms n) := by
  have hat := splN_at hn ms
  have hlt := nat_lt hat
  have hl : (B ++ n.take (splN ms n).1).length = B.length + (splN ms n).1 := by rw [List.length_append, List.length_take]; omega
  rcases splN_end hn ms with ⟨h1, h0, h2⟩ | ⟨q, hq, h2⟩
  · have hr := nat_root hat h1 h0
    have e : outW B ms n = (B ++ n.take (splN ms n).1) ++ (0 :: []) := by unfold outW; rw [h2]; simp
    have := rd_zero (a := B ++ n.take (splN ms n).1) (t := []) (g := g)
    rw [hl] at this
    refine ⟨1, ?_⟩
    rw [e, hr]
    unfold sizW
    rw [h2]
    exact this
  · obtain ⟨hqB, d, b, hd⟩ := hm _ _ (plc_mem hq)
    have e : outW B ms n = (B ++ n.take (splN ms n).1) ++ (ptrB q ++ []) := by unfold outW; rw [h2]; simp
    have hd2 : Rd ((B ++ n.take (splN ms n).1) ++ (ptrB q ++ [])) d q q (n.drop (splN ms n).1) b := by
      have := rd_app (n.take (splN ms n).1 ++ (ptrB q ++ [])) d q q _ b hd
      rw [← List.append_assoc] at this
      exact this
    have := rd_ptr (a := B ++ n.take (splN ms n).1) (t := []) (g := g) (by omega) (by omega) hd2
    rw [hl] at this
    refine ⟨d + 1, ?_⟩
    rw [e]
    unfold sizW
    rw [h2]
    exact this
theorem write_copied {B : List UInt8} {ms : Marks} {n : List UInt8} (hn : isName n = true) : Copied (outW B ms n) B.length n (splN ms n).1 := by
  have hlt := nat_lt (splN_at hn ms)
  refine ⟨by omega, ?_, ?_⟩
  · unfold outW; rw [List.length_append, List.length_append, List.length_take]; omega
  · unfold outW; rw [List.drop_left, List.take_append_of_le_length (by rw [List.length_take]; omega), List.take_take, Nat.min_self]
theorem write_rest {B : List UInt8} {ms : Marks} {n : List UInt8} (hn : isName n = true) (hm : MInv B ms) (hB : B.length ≤ 16384) (q : Nat) (hq : q ∈ sts n.length n 0 (splN ms n).1) : ∃ d, Rd (outW B ms n) d (B.length + q) (B.length + q) (n.drop q) (B.length + sizW ms n) := by
  obtain ⟨f', h1, h2, h3⟩ := sts_spl n.length 0 q (by omega) (nat_start hn) rfl hq
  obtain ⟨d0, he⟩ := write_end hn hm hB (B.length + q) (by omega)
  exact rd_labels (write_copied hn) he f' q h1 h2 h3
theorem write_name {B : List UInt8} {ms : Marks} {n : List UInt8} (hn : isName n = true) (hm : MInv B ms) (hB : B.length ≤ 16384) : ∃ d, Rd (outW B ms n) d B.length B.length n (B.length + sizW ms n) := by
  obtain ⟨d0, he⟩ := write_end hn hm hB B.length (Nat.le_refl _)
  obtain ⟨d, hd⟩ := rd_labels (ms := ms) (write_copied hn) he n.length 0 (by omega) (nat_start hn) rfl
  exact ⟨d, by simpa using hd⟩
theorem write_inv {B : List UInt8} {ms : Marks} {n : List UInt8} (hn : isName n = true) (hm : MInv B ms) (hB : B.length ≤ 16384) : MInv (outW B ms n) (marW B ms n) := by
  intro r q hq
  have hlt := nat_lt (splN_at hn ms)
  unfold marW at hq
  rcases List.mem_append.1 hq with hq | hq
  · obtain ⟨h1, d, b, hd⟩ := hm r q hq
    refine ⟨by unfold outW; rw [List.length_append]; omega, d, b, ?_⟩
    unfold outW
    exact rd_app _ d q q r b hd
  · simp only [newM, mkM, List.mem_map, Prod.mk.injEq] at hq
    obtain ⟨p, hp, rfl, rfl⟩ := hq
    obtain ⟨d, hd⟩ := write_rest hn hm hB p hp
    have := (splN_miss hn ms p hp).2.1
    refine ⟨by unfold outW; rw [List.length_append, List.length_append, List.length_take]; omega, d, _, hd⟩

/-- Names were written at 'asx', one behind the other. -/
def Bk (B : List UInt8) (ms : Marks) (asx : List Nat) (ks : List (List UInt8)) : Prop :=
  MInv B ms ∧ asx.length = ks.length ∧ ∀ i, i < ks.length → isName (ks.getD i []) = true ∧ ∃ d, Rd B d (asx.getD i 0) (asx.getD i 0) (ks.getD i []) ((asx ++ [B.length]).getD (i + 1) 0)
theorem bk_start (B : List UInt8) : Bk B [] [] [] := ⟨fun r q h => by simp at h, rfl, fun i h => by simp at h⟩
theorem getD_lt {α : Type} (a b : List α) (i : Nat) (d : α) (h : i < a.length) : (a ++ b).getD i d = a.getD i d := by
  rw [List.getD_eq_getElem?_getD, List.getD_eq_getElem?_getD, List.getElem?_append_left h]
theorem getD_at {α : Type} (a b : List α) (i : Nat) (d : α) (h : i = a.length) : (a ++ b).getD i d = b.getD 0 d := by
  rw [List.getD_eq_getElem?_getD, List.getD_eq_getElem?_getD, List.getElem?_append_right (by omega), h, Nat.sub_self]
theorem bk_next {B : List UInt8} {ms : Marks} {asx : List Nat} {ks : List (List UInt8)} {n : List UInt8} (h : Bk B ms asx ks) (hn : isName n = true) (hB : B.length ≤ 16384) (hl : (outW B ms n).length = B.length + sizW ms n) : Bk (outW B ms n) (marW B ms n) (asx ++ [B.length]) (ks ++ [n]) := by
  obtain ⟨h1, h2, h3⟩ := h
  refine ⟨write_inv hn h1 hB, by simp [h2], fun i hi => ?_⟩
  rw [List.length_append] at hi
  by_cases e : i < ks.length
  · obtain ⟨a, d, b⟩ := h3 i e
    rw [getD_lt ks _ i _ e, getD_lt asx _ i _ (by omega), getD_lt (asx ++ [B.length]) _ (i + 1) _ (by rw [List.length_append]; simp; omega)]
    refine ⟨a, d, ?_⟩
    unfold outW
    exact rd_app _ _ _ _ _ _ b
  · have ei : i = ks.length := by simp at hi; omega
    rw [getD_at ks _ i _ ei, getD_at asx _ i _ (by omega), getD_at (asx ++ [B.length]) _ (i + 1) _ (by rw [List.length_append]; simp; omega)]
    obtain ⟨d, hd⟩ := write_name hn h1 hB
    refine ⟨hn, d, ?_⟩
    rw [hl]
    exact hd
theorem bk_read {B : List UInt8} {ms : Marks} {asx : List Nat} {ks : List (List UInt8)} (h : Bk B ms asx ks) {i : Nat} (hi : i < ks.length) : nameOf B (asx.getD i 0) = some (ks.getD i [], (asx ++ [B.length]).getD (i + 1) 0) := by
  obtain ⟨h1, d, h2⟩ := h.2.2 i hi
  exact rd_name h2 (name_some h1).1

end Go.Proofs.Ytcapankhobnfeaa.Pl

/- Messages, plainly: which may be, how they are written, how they are read. -/
namespace Go.Proofs.Ytcapankhobnfeaa
open Go.RowKit
open Pl

/-- A question. -/
structure Qn where
  n : ByteArray
  t : Int
  c : Int
/-- A record. -/
structure Rc where
  n : ByteArray
  t : Int
  c : Int
  l : Int
  d : ByteArray
/-- A header. -/
structure Hd where
  id : Int
  qr : Bool
  op : Int
  aa : Bool
  tc : Bool
  rd : Bool
  ra : Bool
  z : Int
  rc : Int
/-- A message. -/
structure Ms where
  h : Hd
  qs : List Qn
  an : List Rc
  ns : List Rc
  ar : List Rc

/-- Which may be. -/
def mayQ (q : Qn) : Bool := isName q.n.data.toList && (decide (1 ≤ q.t) && decide (q.t ≤ 65535)) && inB 65535 q.c
def mayR (r : Rc) : Bool := isName r.n.data.toList && inB 65535 r.c && inB 4294967295 r.l && mayD r.t r.d.data.toList
def mayHd (h : Hd) : Bool := mayH h.id h.op h.z h.rc 0 0 0 0
def few {α : Type} (f : α → Bool) (xs : List α) : Bool := decide (xs.length ≤ 64) && xs.all f
def mayM (m : Ms) : Bool := mayHd m.h && (few mayQ m.qs && few mayR m.an && few mayR m.ns && few mayR m.ar)

/-- What is written so far: the bytes, the rests. -/
abbrev St := List UInt8 × Marks
def stN (st : St) (n : ByteArray) : Option St := if namE st.1 st.2 n.data.toList = 0 then some (namB st.1 st.2 n.data.toList, namM st.1 st.2 n.data.toList) else none
def stR (st : St) (s : ByteArray) : Option St := if rawE st.1 s = 0 then some (rawB st.1 s, st.2) else none
/-- What stands behind a name. -/
def qB (q : Qn) : ByteArray := be2 q.t ++ be2 q.c
def rB (r : Rc) : ByteArray := be2 r.t ++ be2 r.c ++ be4 r.l ++ be2 (r.d.size : Int)
def stQ (st : St) (q : Qn) : Option St := (stN st q.n).bind fun a => stR a (qB q)
def stC (st : St) (r : Rc) : Option St := (stN st r.n).bind fun a => stR a (rB r ++ r.d)
def stAll {α : Type} (f : St → α → Option St) (o : Option St) (xs : List α) : Option St := xs.foldl (fun o x => o.bind fun a => f a x) o
def headS (m : Ms) : ByteArray := putS m.h.id (wordH m.h.qr m.h.op m.h.aa m.h.tc m.h.rd m.h.ra m.h.z m.h.rc) (m.qs.length : Int) (m.an.length : Int) (m.ns.length : Int) (m.ar.length : Int) 4
def putSt (m : Ms) : Option St := stAll stC (stAll stC (stAll stC (stAll stQ (some ((headS m).data.toList, [])) m.qs) m.an) m.ns) m.ar
/-- What Put gives. -/
def stV : Option St → Value
  | some st => .tuple #[.string ⟨st.1.toArray⟩, .int .i64 0]
  | none => .tuple #[.string ⟨#[]⟩, .int .i64 701]
def putV (m : Ms) : Value := if mayM m = true then stV (putSt m) else .tuple #[.string ⟨#[]⟩, .int .i64 700]

theorem stAll_none {α : Type} (f : St → α → Option St) (xs : List α) : stAll f none xs = none := by
  unfold stAll
  induction xs with
  | nil => rfl
  | cons x xs ih => exact ih
theorem stAll_cons {α : Type} (f : St → α → Option St) (o : Option St) (x : α) (xs : List α) : stAll f o (x :: xs) = stAll f (o.bind fun a => f a x) xs := rfl
theorem stAll_app {α : Type} (f : St → α → Option St) (o : Option St) (a b : List α) : stAll f o (a ++ b) = stAll f (stAll f o a) b := by unfold stAll; rw [List.foldl_append]
theorem stAll_snoc {α : Type} (f : St → α → Option St) (o : Option St) (xs : List α) (k : Nat) (h : k < xs.length) : stAll f o (xs.take (k + 1)) = (stAll f o (xs.take k)).bind fun a => f a xs[k] := by
  rw [List.take_succ_eq_append_getElem h, stAll_app]; rfl

/-- How it is read. -/
def getQ (s : ByteArray) (p : Nat) : Option (Qn × Nat) := match nameOf s.data.toList p with
  | none => none
  | some (n, a) => if a + 4 ≤ s.size ∧ val s a 2 ≠ 0 then some (⟨⟨n.toArray⟩, val s a 2, val s (a + 2) 2⟩, a + 4) else none
def getR (s : ByteArray) (p : Nat) : Option (Rc × Nat) := match nameOf s.data.toList p with
  | none => none
  | some (n, a) => if a + 10 + (val s (a + 8) 2).toNat ≤ s.size then
      (match dataOf s.data.toList (a + 10) (val s (a + 8) 2).toNat (val s a 2) with
       | none => none
       | some d => some (⟨⟨n.toArray⟩, val s a 2, val s (a + 2) 2, val s (a + 4) 4, ⟨d.toArray⟩⟩, a + 10 + (val s (a + 8) 2).toNat)) else none
/-- So many, one behind the other. -/
def getAll {α : Type} (f : Nat → Option (α × Nat)) (p : Nat) : Nat → Option (List α × Nat)
  | 0 => some ([], p)
  | k + 1 => match getAll f p k with
    | none => none
    | some (xs, a) => match f a with
      | none => none
      | some (x, b) => some (xs ++ [x], b)
theorem getAll_none {α : Type} {f : Nat → Option (α × Nat)} {p j : Nat} (h : getAll f p j = none) : ∀ k, j ≤ k → getAll f p k = none := by
  intro k
  induction k with
  | zero => intro hk; rw [show (0 : Nat) = j from by omega]; exact h
  | succ k ih =>
    intro hk
    by_cases e : j = k + 1
    · rw [← e]; exact h
    · rw [getAll, ih (by omega)]
theorem getAll_next {α : Type} {f : Nat → Option (α × Nat)} {p k a b : Nat} {xs : List α} {x : α} (h : getAll f p k = some (xs, a)) (hf : f a = some (x, b)) : getAll f p (k + 1) = some (xs ++ [x], b) := by rw [getAll, h]; simp only [hf]
theorem getAll_stop {α : Type} {f : Nat → Option (α × Nat)} {p k a : Nat} {xs : List α} (h : getAll f p k = some (xs, a)) (hf : f a = none) : getAll f p (k + 1) = none := by rw [getAll, h]; simp only [hf]
theorem getAll_len {α : Type} {f : Nat → Option (α × Nat)} {p : Nat} : ∀ {k a : Nat} {xs : List α}, getAll f p k = some (xs, a) → xs.length = k := by
  intro k
  induction k with
  | zero => intro a xs h; simp [getAll] at h; rw [h.1]; rfl
  | succ k ih =>
    intro a xs h
    rw [getAll] at h
    cases h1 : getAll f p k with
    | none => rw [h1] at h; simp at h
    | some z =>
      obtain ⟨ys, b⟩ := z
      rw [h1] at h
      simp only at h
      cases h2 : f b with
      | none => rw [h2] at h; simp at h
      | some z =>
        obtain ⟨x, c⟩ := z
        rw [h2] at h
        simp at h
        rw [← h.1, List.length_append, ih h1]; rfl

/-- The header that stands in s. -/
def hdOf (s : ByteArray) : Hd := ⟨val s 0 2, val s 2 2 / 32768 % 2 == 1, val s 2 2 / 2048 % 16, val s 2 2 / 1024 % 2 == 1, val s 2 2 / 512 % 2 == 1, val s 2 2 / 256 % 2 == 1, val s 2 2 / 128 % 2 == 1, val s 2 2 / 16 % 8, val s 2 2 / 1 % 16⟩
/-- The counts that stand in s. -/
def cnt (s : ByteArray) (i : Nat) : Nat := (val s (4 + 2 * i) 2).toNat
/-- One part, if there are not too many. -/
def part {α : Type} (f : Nat → Option (α × Nat)) (k p : Nat) : Option (List α × Nat) := if k ≤ 64 then getAll f p k else none
/-- The four parts, and the place behind them. -/
def parts (s : ByteArray) : Option ((List Qn × List Rc × List Rc × List Rc) × Nat) :=
  match part (getQ s) (cnt s 0) 12 with
  | none => none
  | some (qs, a) => match part (getR s) (cnt s 1) a with
    | none => none
    | some (an, b) => match part (getR s) (cnt s 2) b with
      | none => none
      | some (ns, c) => match part (getR s) (cnt s 3) c with
        | none => none
        | some (ar, d) => some ((qs, an, ns, ar), d)
def getM (s : ByteArray) : Option Ms :=
  if 12 ≤ s.size then match parts s with
    | none => none
    | some ((qs, an, ns, ar), d) => if d = s.size then some ⟨hdOf s, qs, an, ns, ar⟩ else none
  else none

theorem arr_list (s : ByteArray) : (⟨s.data.toList.toArray⟩ : ByteArray) = s := by cases s; simp
theorem list_arr (l : List UInt8) : (⟨l.toArray⟩ : ByteArray).data.toList = l := by simp

end Go.Proofs.Ytcapankhobnfeaa

/- Messages there and back, plainly: what was written is read; what is cut is not; what was read may be. -/
namespace Go.Proofs.Ytcapankhobnfeaa
open Go.RowKit
open Pl

/-- What is read of a text is read of each longer one. -/
theorem rn_more {l e : List UInt8} : ∀ (f p g : Nat) (o : List UInt8) (x : Option Nat) (R : List UInt8 × Nat), rn f l p g o x = some R → rn f (l ++ e) p g o x = some R := by
  intro f
  induction f with
  | zero => intro p g o x R h; simp [rn] at h
  | succ f ih =>
    intro p g o x R h
    rw [rn] at h ⊢
    split at h
    · rename_i hp
      rw [if_pos (by rw [List.length_append]; omega), getD_app hp]
      split at h
      · rename_i h0; rw [if_pos h0]; exact h
      · rename_i h0
        rw [if_neg h0]
        split at h
        · rename_i h1
          rw [if_pos h1]
          split at h
          · rename_i h2
            rw [ptr_mono h2.1, if_pos ⟨by rw [List.length_append]; omega, h2.2⟩]
            exact ih _ _ _ _ _ h
          · simp at h
        · rename_i h1
          rw [if_neg h1]
          split at h
          · simp at h
          · rename_i h2
            rw [if_neg (by rw [List.length_append]; omega), take_app (by omega)]
            exact ih _ _ _ _ _ h
    · simp at h
theorem name_more {l : List UInt8} (e : List UInt8) {p : Nat} {R : List UInt8 × Nat} (h : nameOf l p = some R) : nameOf (l ++ e) p = some R := rn_more _ _ _ _ _ _ h
theorem data_more {l : List UInt8} (e : List UInt8) {p n : Nat} {t : Int} {d : List UInt8} (hp : p + n ≤ l.length) (h : dataOf l p n t = some d) : dataOf (l ++ e) p n t = some d := by
  by_cases h1 : t = 2 ∨ t = 5 ∨ t = 12
  · rw [data_n h1] at h ⊢
    cases hn : nameOf l p with
    | none => rw [hn] at h; simp [dtN] at h
    | some z => rw [hn] at h; rw [name_more e hn]; exact h
  · by_cases h2 : t = 15
    · subst h2
      rw [data_15] at h ⊢
      split at h
      · simp at h
      · rename_i h3
        rw [if_neg h3, take_app (by omega)]
        cases hn : nameOf l (p + 2) with
        | none => rw [hn] at h; simp [dtN] at h
        | some z => rw [hn] at h; rw [name_more e hn]; exact h
    · by_cases h3 : t = 6
      · subst h3
        rw [data_6] at h ⊢
        cases hn : nameOf l p with
        | none => rw [hn] at h; simp [dtS] at h
        | some z =>
          obtain ⟨r, b⟩ := z
          rw [hn] at h; rw [name_more e hn]
          rw [dtS] at h ⊢
          cases hn2 : nameOf l b with
          | none => rw [hn2] at h; simp [dtS2] at h
          | some z =>
            obtain ⟨r2, b2⟩ := z
            rw [hn2] at h; rw [name_more e hn2]
            rw [dtS2] at h ⊢
            split at h
            · rename_i h4
              rw [if_pos h4, take_app (by omega)]; exact h
            · simp at h
      · rw [data_o h1 h2 h3] at h ⊢
        rw [take_app hp]; exact h
theorem val_more (s e : ByteArray) (k : Nat) : ∀ n, k + n ≤ s.size → val (s ++ e) k n = val s k n := by
  intro n
  induction n with
  | zero => intro _; rfl
  | succ n ih =>
    intro h
    rw [val, val, ih (by omega), app_list, getD_app (by rw [data_len]; omega)]
theorem size_app (s e : ByteArray) : (s ++ e).size = s.size + e.size := ByteArray.size_append
theorem getQ_more {s : ByteArray} (e : ByteArray) {p : Nat} {R : Qn × Nat} (h : getQ s p = some R) : getQ (s ++ e) p = some R := by
  unfold getQ at h ⊢
  rw [app_list]
  cases hn : nameOf s.data.toList p with
  | none => rw [hn] at h; simp at h
  | some z =>
    obtain ⟨n, a⟩ := z
    rw [hn] at h; rw [name_more _ hn]
    simp only at h ⊢
    split at h
    · rename_i h1
      rw [val_more s e _ _ (by omega), val_more s e _ _ (by omega), if_pos ⟨by rw [size_app]; omega, h1.2⟩]; exact h
    · simp at h
theorem getR_more {s : ByteArray} (e : ByteArray) {p : Nat} {R : Rc × Nat} (h : getR s p = some R) : getR (s ++ e) p = some R := by
  unfold getR at h ⊢
  rw [app_list]
  cases hn : nameOf s.data.toList p with
  | none => rw [hn] at h; simp at h
  | some z =>
    obtain ⟨n, a⟩ := z
    rw [hn] at h; rw [name_more _ hn]
    simp only at h ⊢
    split at h
    · rename_i h1
      rw [val_more s e _ _ (by omega), val_more s e _ _ (by omega), val_more s e _ _ (by omega), val_more s e _ _ (by omega), if_pos (by rw [size_app]; omega)]
      cases hd : dataOf s.data.toList (a + 10) (val s (a + 8) 2).toNat (val s a 2) with
      | none => rw [hd] at h; simp at h
      | some d => rw [hd] at h; rw [data_more _ (by rw [data_len]; exact h1) hd]; exact h
    · simp at h
theorem getAll_more {α : Type} {f g : Nat → Option (α × Nat)} (hfg : ∀ p R, f p = some R → g p = some R) {p : Nat} : ∀ {k : Nat} {R : List α × Nat}, getAll f p k = some R → getAll g p k = some R := by
  intro k
  induction k with
  | zero => intro R h; exact h
  | succ k ih =>
    intro R h
    rw [getAll] at h ⊢
    cases h1 : getAll f p k with
    | none => rw [h1] at h; simp at h
    | some z =>
      obtain ⟨xs, a⟩ := z
      rw [h1] at h; rw [ih h1]
      simp only at h ⊢
      cases h2 : f a with
      | none => rw [h2] at h; simp at h
      | some y => rw [h2] at h; rw [hfg _ _ h2]; exact h
theorem part_more {α : Type} {f g : Nat → Option (α × Nat)} (hfg : ∀ p R, f p = some R → g p = some R) {k p : Nat} {R : List α × Nat} (h : part f k p = some R) : part g k p = some R := by
  unfold part at h ⊢
  split at h
  · rename_i hk; rw [if_pos hk]; exact getAll_more hfg h
  · simp at h
theorem cnt_more {s : ByteArray} (e : ByteArray) (h : 12 ≤ s.size) (i : Nat) (hi : i < 4) : cnt (s ++ e) i = cnt s i := by
  unfold cnt; rw [val_more s e _ _ (by omega)]
theorem parts_more {s : ByteArray} (e : ByteArray) (h12 : 12 ≤ s.size) {R : (List Qn × List Rc × List Rc × List Rc) × Nat} (h : parts s = some R) : parts (s ++ e) = some R := by
  unfold parts at h ⊢
  rw [cnt_more e h12 0 (by decide), cnt_more e h12 1 (by decide), cnt_more e h12 2 (by decide), cnt_more e h12 3 (by decide)]
  cases h0 : part (getQ s) (cnt s 0) 12 with
  | none => rw [h0] at h; simp at h
  | some z =>
    obtain ⟨qs, a⟩ := z
    rw [h0] at h; rw [part_more (fun _ _ => getQ_more e) h0]
    simp only at h ⊢
    cases h1 : part (getR s) (cnt s 1) a with
    | none => rw [h1] at h; simp at h
    | some z =>
      obtain ⟨an, b⟩ := z
      rw [h1] at h; rw [part_more (fun _ _ => getR_more e) h1]
      simp only at h ⊢
      cases h2 : part (getR s) (cnt s 2) b with
      | none => rw [h2] at h; simp at h
      | some z =>
        obtain ⟨ns, c⟩ := z
        rw [h2] at h; rw [part_more (fun _ _ => getR_more e) h2]
        simp only at h ⊢
        cases h3 : part (getR s) (cnt s 3) c with
        | none => rw [h3] at h; simp at h
        | some z => rw [h3] at h; rw [part_more (fun _ _ => getR_more e) h3]; exact h
/-- What has something behind it is no message. -/
theorem get_behind {s e : ByteArray} {m m' : Ms} (he : 0 < e.size) (h : getM (s ++ e) = some m) : getM s ≠ some m' := by
  intro h2
  unfold getM at h h2
  split at h2
  · rename_i h12
    cases hp : parts s with
    | none => rw [hp] at h2; simp at h2
    | some z =>
      obtain ⟨⟨qs, an, ns, ar⟩, d⟩ := z
      rw [hp] at h2
      rw [if_pos (by rw [size_app]; omega), parts_more e h12 hp] at h
      simp only at h h2
      split at h2
      · rename_i hd
        rw [if_neg (by rw [size_app]; omega)] at h
        simp at h
      · simp at h2
  · simp at h2
/-- A message that is cut is none. -/
theorem get_cut {t : ByteArray} {m : Ms} (h : getM t = some m) {k : Nat} (hk : k < t.size) : getM (t.extract 0 k) = none := by
  cases hc : getM (t.extract 0 k) with
  | none => rfl
  | some m' =>
    have e : t.extract 0 k ++ t.extract k t.size = t := by
      apply ByteArray.ext
      apply Array.toList_inj.1
      rw [app_list, ext_to, ext_from, List.take_append_drop]
    rw [← e] at h
    exact absurd hc (get_behind (by simp; omega) h)

/-- Data that was read may be. -/
theorem data_may {l : List UInt8} {p n : Nat} {t : Int} {d : List UInt8} (hp : p + n ≤ l.length) (h : dataOf l p n t = some d) : mayD t d = true := by
  by_cases h1 : t = 2 ∨ t = 5 ∨ t = 12
  · rw [data_n h1] at h
    cases hn : nameOf l p with
    | none => rw [hn] at h; simp [dtN] at h
    | some z =>
      obtain ⟨r, b⟩ := z
      rw [hn, dtN] at h
      split at h
      · simp at h; subst h
        rw [may_n h1]; exact (nameOf_some hn).1
      · simp at h
  · by_cases h2 : t = 15
    · subst h2
      rw [data_15] at h
      split at h
      · simp at h
      · rename_i h3
        cases hn : nameOf l (p + 2) with
        | none => rw [hn] at h; simp [dtN] at h
        | some z =>
          obtain ⟨r, b⟩ := z
          rw [hn, dtN] at h
          split at h
          · simp at h; subst h
            have hr := (nameOf_some hn).1
            have hl := name_ne hr
            have h2l : ((l.drop p).take 2).length = 2 := by rw [List.length_take, List.length_drop]; omega
            obtain ⟨T, hT⟩ : ∃ T, T = (l.drop p).take 2 := ⟨_, rfl⟩
            rw [← hT] at h2l ⊢
            rw [may_15, List.drop_append_of_le_length (by omega), List.drop_of_length_le (by omega), List.nil_append, hr, List.length_append]
            simp; omega
          · simp at h
    · by_cases h3 : t = 6
      · subst h3
        rw [data_6] at h
        cases hn : nameOf l p with
        | none => rw [hn] at h; simp [dtS] at h
        | some z =>
          obtain ⟨r, b⟩ := z
          rw [hn, dtS] at h
          cases hn2 : nameOf l b with
          | none => rw [hn2] at h; simp [dtS2] at h
          | some z =>
            obtain ⟨r2, b2⟩ := z
            rw [hn2, dtS2] at h
            split at h
            · simp at h; subst h
              rw [may_6, soa_names (nameOf_some hn).1 (nameOf_some hn2).1, if_pos (by rw [List.length_take, List.length_drop]; omega)]; rfl
            · simp at h
      · rw [data_o h1 h2 h3] at h
        split at h
        · rename_i h4; simp at h; rw [← h]; exact h4
        · simp at h
theorem may_top {t : Int} {l : List UInt8} (h : mayD t l = true) : 1 ≤ t ∧ t ≤ 65535 ∧ l.length ≤ 65535 := by
  refine ⟨?_, ?_, ?_⟩
  · by_cases h1 : t < 1
    · rw [may_none (.inl h1)] at h; simp at h
    · omega
  · by_cases h1 : 65535 < t
    · rw [may_none (.inr h1)] at h; simp at h
    · omega
  · by_cases h1 : 65535 < l.length
    · rw [may_long t h1] at h; simp at h
    · omega
theorem val2_in (s : ByteArray) (k : Nat) : inB 65535 (val s k 2) = true := by
  have := val_lt s k 2
  simp only [inB, decide_eq_true_eq]
  omega
theorem val4_in (s : ByteArray) (k : Nat) : inB 4294967295 (val s k 4) = true := by
  have := val_lt s k 4
  simp only [inB, decide_eq_true_eq]
  omega
theorem getQ_may {s : ByteArray} {p a : Nat} {q : Qn} (h : getQ s p = some (q, a)) : mayQ q = true ∧ a ≤ s.size ∧ p ≤ a := by
  unfold getQ at h
  cases hn : nameOf s.data.toList p with
  | none => rw [hn] at h; simp at h
  | some z =>
    obtain ⟨n, b⟩ := z
    rw [hn] at h
    simp only at h
    split at h
    · rename_i h1
      simp at h
      obtain ⟨rfl, rfl⟩ := h
      have h2 := nameOf_some hn
      have h3 := val_lt s b 2
      refine ⟨?_, h1.1, by omega⟩
      unfold mayQ
      rw [list_arr, h2.1, val2_in]
      simp; omega
    · simp at h
theorem getR_may {s : ByteArray} {p a : Nat} {r : Rc} (h : getR s p = some (r, a)) : mayR r = true ∧ a ≤ s.size ∧ p ≤ a := by
  unfold getR at h
  cases hn : nameOf s.data.toList p with
  | none => rw [hn] at h; simp at h
  | some z =>
    obtain ⟨n, b⟩ := z
    rw [hn] at h
    simp only at h
    split at h
    · rename_i h1
      cases hd : dataOf s.data.toList (b + 10) (val s (b + 8) 2).toNat (val s b 2) with
      | none => rw [hd] at h; simp at h
      | some d =>
        rw [hd] at h
        simp at h
        obtain ⟨rfl, rfl⟩ := h
        have h2 := nameOf_some hn
        refine ⟨?_, h1, by omega⟩
        unfold mayR
        simp only
        rw [h2.1, val2_in, val4_in, data_may (by rw [data_len]; exact h1) hd]; rfl
    · simp at h
theorem getAll_may {α : Type} {f : Nat → Option (α × Nat)} {g : α → Bool} {N : Nat} (hf : ∀ p x a, f p = some (x, a) → g x = true ∧ a ≤ N ∧ p ≤ a) {p : Nat} : ∀ {k a : Nat} {xs : List α}, getAll f p k = some (xs, a) → xs.all g = true ∧ (p ≤ N → a ≤ N) ∧ p ≤ a := by
  intro k
  induction k with
  | zero => intro a xs h; simp [getAll] at h; obtain ⟨rfl, rfl⟩ := h; simp
  | succ k ih =>
    intro a xs h
    rw [getAll] at h
    cases h1 : getAll f p k with
    | none => rw [h1] at h; simp at h
    | some z =>
      obtain ⟨ys, b⟩ := z
      rw [h1] at h
      simp only at h
      cases h2 : f b with
      | none => rw [h2] at h; simp at h
      | some y =>
        obtain ⟨x, c⟩ := y
        rw [h2] at h
        simp at h
        obtain ⟨rfl, rfl⟩ := h
        have := ih h1
        have h3 := hf _ _ _ h2
        refine ⟨by rw [List.all_append, this.1]; simp [h3.1], fun _ => h3.2.1, by omega⟩
theorem part_may {α : Type} {f : Nat → Option (α × Nat)} {g : α → Bool} {N : Nat} (hf : ∀ p x a, f p = some (x, a) → g x = true ∧ a ≤ N ∧ p ≤ a) {p k a : Nat} {xs : List α} (h : part f k p = some (xs, a)) : few g xs = true ∧ xs.length = k := by
  unfold part at h
  split at h
  · rename_i hk
    have h1 := getAll_len h
    refine ⟨?_, h1⟩
    unfold few
    rw [(getAll_may hf h).1, h1]; simpa using hk
  · simp at h
theorem hd_may (s : ByteArray) : mayHd (hdOf s) = true := by
  unfold mayHd hdOf
  rw [mayH_iff]
  have h1 := val_lt s 0 2
  have h2 := val_lt s 2 2
  simp only [fit_iff]
  simp
  omega
/-- What was read may be. -/
theorem get_may {s : ByteArray} {m : Ms} (h : getM s = some m) : mayM m = true := by
  unfold getM at h
  split at h
  · cases hp : parts s with
    | none => rw [hp] at h; simp at h
    | some z =>
      obtain ⟨⟨qs, an, ns, ar⟩, d⟩ := z
      rw [hp] at h
      simp only at h
      split at h
      · simp at h
        subst h
        unfold parts at hp
        cases h0 : part (getQ s) (cnt s 0) 12 with
        | none => rw [h0] at hp; simp at hp
        | some z =>
          obtain ⟨qs', a⟩ := z
          rw [h0] at hp
          simp only at hp
          cases h1 : part (getR s) (cnt s 1) a with
          | none => rw [h1] at hp; simp at hp
          | some z =>
            obtain ⟨an', b⟩ := z
            rw [h1] at hp
            simp only at hp
            cases h2 : part (getR s) (cnt s 2) b with
            | none => rw [h2] at hp; simp at hp
            | some z =>
              obtain ⟨ns', c⟩ := z
              rw [h2] at hp
              simp only at hp
              cases h3 : part (getR s) (cnt s 3) c with
              | none => rw [h3] at hp; simp at hp
              | some z =>
                obtain ⟨ar', e⟩ := z
                rw [h3] at hp
                simp at hp
                obtain ⟨⟨rfl, rfl, rfl, rfl⟩, rfl⟩ := hp
                unfold mayM
                simp only
                rw [hd_may, (part_may (N := s.size) (fun _ _ _ => getQ_may) h0).1, (part_may (N := s.size) (fun _ _ _ => getR_may) h1).1, (part_may (N := s.size) (fun _ _ _ => getR_may) h2).1, (part_may (N := s.size) (fun _ _ _ => getR_may) h3).1]; rfl
      · simp at h
  · simp at h

end Go.Proofs.Ytcapankhobnfeaa

/- Messages there and back, plainly: what was written is read. -/
namespace Go.Proofs.Ytcapankhobnfeaa
open Go.RowKit
open Pl

/-- A state in which each rest reads at its place as itself. -/
def OkS (st : St) : Prop := MInv st.1 st.2 ∧ st.1.length ≤ 4096

theorem minv_app {B : List UInt8} {ms : Marks} (h : MInv B ms) (e : List UInt8) : MInv (B ++ e) ms := fun r q hq => by
  obtain ⟨h1, d, b, h2⟩ := h r q hq
  exact ⟨by rw [List.length_append]; omega, d, b, rd_app e _ _ _ _ _ h2⟩

theorem stN_ok {st st' : St} {n : ByteArray} (hn : isName n.data.toList = true) (h : stN st n = some st') : st'.1 = outW st.1 st.2 n.data.toList ∧ st'.2 = marW st.1 st.2 n.data.toList ∧ st'.1.length = st.1.length + sizW st.2 n.data.toList ∧ st'.1.length ≤ 4096 := by
  unfold stN at h
  by_cases hf : st.1.length + sizW st.2 n.data.toList ≤ 4096
  · obtain ⟨h1, h2, h3⟩ := nam_yes (B := st.1) (ms := st.2) hn hf
    rw [h1, if_pos rfl, h2, h3] at h
    simp at h
    subst h
    refine ⟨rfl, rfl, outW_len hn, ?_⟩
    rw [outW_len hn]; exact hf
  · obtain ⟨h1, h2, h3⟩ := nam_long (B := st.1) (ms := st.2) hn hf
    rw [h1] at h
    simp at h
theorem stR_ok {st st' : St} {s : ByteArray} (h : stR st s = some st') : st'.1 = st.1 ++ s.data.toList ∧ st'.2 = st.2 ∧ st'.1.length ≤ 4096 := by
  unfold stR rawE rawB at h
  by_cases hf : st.1.length + s.size ≤ 4096
  · rw [if_pos hf, if_pos rfl, if_pos hf] at h
    simp at h
    subst h
    exact ⟨rfl, rfl, by rw [List.length_append, data_len]; exact hf⟩
  · rw [if_neg hf] at h
    simp at h

theorem outW_pre (B : List UInt8) (ms : Marks) (n : List UInt8) : ∃ x, outW B ms n = B ++ x := ⟨_, rfl⟩
/-- A name that was written is read. -/
theorem name_back {st st' : St} {n : ByteArray} (hn : isName n.data.toList = true) (ho : OkS st) (h : stN st n = some st') : OkS st' ∧ (∃ x, st'.1 = st.1 ++ x) ∧ ∀ y, nameOf (st'.1 ++ y) st.1.length = some (n.data.toList, st'.1.length) := by
  obtain ⟨h1, h2, h3, h4⟩ := stN_ok hn h
  have hB : st.1.length ≤ 16384 := by have := ho.2; omega
  refine ⟨⟨by rw [h1, h2]; exact write_inv hn ho.1 hB, h4⟩, by rw [h1]; exact outW_pre _ _ _, fun y => ?_⟩
  obtain ⟨d, hd⟩ := write_name hn ho.1 hB
  rw [h3, h1]
  exact rd_name (rd_app y _ _ _ _ _ hd) (name_some hn).1

theorem be2_list (x : Int) : (be2 x).data.toList = [oct x 256, oct x 1] := rfl
theorem be4_list (x : Int) : (be4 x).data.toList = [oct x 16777216, oct x 65536, oct x 256, oct x 1] := rfl
theorem val4_of {s : ByteArray} {k : Nat} {a b c d : UInt8} {rest : List UInt8} (h : s.data.toList.drop k = a :: b :: c :: d :: rest) : val s k 4 = four a b c d := by
  obtain ⟨_, e0⟩ := drop_get h 0 (by simp)
  obtain ⟨_, e1⟩ := drop_get h 1 (by simp)
  obtain ⟨_, e2⟩ := drop_get h 2 (by simp)
  obtain ⟨h3, e3⟩ := drop_get h 3 (by simp)
  have f0 : s[k] = a := e0
  rw [val_four s k (by omega), f0, e1, e2, e3]
  rfl
theorem in16 {x : Int} (h : inB 65535 x = true) : x % 65536 = x := by simp only [inB, decide_eq_true_eq] at h; omega
theorem in32 {x : Int} (h : inB 4294967295 x = true) : x % 4294967296 = x := by simp only [inB, decide_eq_true_eq] at h; omega

/-- A question that was written is read. -/
theorem q_back {st st' : St} {q : Qn} (hq : mayQ q = true) (ho : OkS st) (h : stQ st q = some st') : OkS st' ∧ (∃ x, st'.1 = st.1 ++ x) ∧ ∀ y, getQ ⟨(st'.1 ++ y).toArray⟩ st.1.length = some (q, st'.1.length) := by
  unfold mayQ at hq
  simp only [Bool.and_eq_true, decide_eq_true_eq] at hq
  obtain ⟨⟨hn, ht⟩, hc⟩ := hq
  unfold stQ at h
  cases h1 : stN st q.n with
  | none => rw [h1] at h; simp at h
  | some a =>
    rw [h1] at h
    simp only [Option.bind_some] at h
    obtain ⟨o1, ⟨x, p1⟩, r1⟩ := name_back hn ho h1
    obtain ⟨e1, e2, e3⟩ := stR_ok h
    refine ⟨⟨by rw [e1, e2]; exact minv_app o1.1 _, e3⟩, ⟨x ++ (qB q).data.toList, by rw [e1, p1, List.append_assoc]⟩, fun y => ?_⟩
    have hl : st'.1.length = a.1.length + 4 := by rw [e1, List.length_append]; rfl
    obtain ⟨s, hs⟩ : ∃ s : ByteArray, s = ⟨(st'.1 ++ y).toArray⟩ := ⟨_, rfl⟩
    have hsl : s.data.toList = a.1 ++ ([oct q.t 256, oct q.t 1, oct q.c 256, oct q.c 1] ++ y) := by
      rw [hs, list_arr, e1]
      unfold qB
      rw [app_list, be2_list, be2_list]
      simp
    have hsz : a.1.length + 4 ≤ s.size := by rw [← data_len, hsl]; simp
    rw [← hs]
    unfold getQ
    rw [hsl, r1]
    simp only
    have v1 : val s a.1.length 2 = q.t := by
      rw [val_of (s := s) (k := a.1.length) (a := oct q.t 256) (b := oct q.t 1) (rest := [oct q.c 256, oct q.c 1] ++ y) (by rw [hsl, List.drop_left]; rfl), two_be]; omega
    have v2 : val s (a.1.length + 2) 2 = q.c := by
      rw [val_of (s := s) (k := a.1.length + 2) (a := oct q.c 256) (b := oct q.c 1) (rest := y) (by rw [hsl, ← List.drop_drop, List.drop_left]; rfl), two_be, in16 hc]
    rw [v1, v2, if_pos ⟨hsz, by omega⟩, hl, arr_list]

/-- Data that stands as it is is read. -/
theorem data_whole {t : Int} {d : List UInt8} (h : mayD t d = true) (a y : List UInt8) : dataOf (a ++ (d ++ y)) a.length d.length t = some d := by
  by_cases h1 : t = 2 ∨ t = 5 ∨ t = 12
  · rw [may_n h1] at h
    rw [data_n h1, name_whole h, dtN, if_pos rfl]; rfl
  · by_cases h2 : t = 15
    · subst h2
      rw [may_15] at h
      simp only [Bool.and_eq_true, decide_eq_true_eq] at h
      have e1 : a ++ (d ++ y) = (a ++ d.take 2) ++ (d.drop 2 ++ y) := by
        rw [List.append_assoc, ← List.append_assoc (d.take 2), List.take_append_drop]
      have e2 : (a ++ d.take 2).length = a.length + 2 := by rw [List.length_append, List.length_take]; omega
      have hn := name_whole h.2 (a ++ d.take 2) y
      rw [e2, ← e1] at hn
      rw [data_15, if_neg (by omega), hn, dtN, if_pos (by rw [List.length_drop]; omega), List.drop_left, List.take_append_of_le_length (by omega), List.take_append_drop]
    · by_cases h3 : t = 6
      · subst h3
        rw [may_6] at h
        obtain ⟨⟨i, j⟩, hs⟩ := Option.isSome_iff_exists.1 h
        obtain ⟨c1, c2, c3⟩ := soa_some hs
        have k1 := cut_some c1
        have k2 := cut_some c2
        rw [List.length_drop] at k2
        have e1 : a ++ (d ++ y) = a ++ (d.take i ++ (d.drop i ++ y)) := by rw [← List.append_assoc (d.take i), List.take_append_drop]
        have l1 : (d.take i).length = i := by rw [List.length_take]; omega
        have hn := name_whole k1.2.2.2 a (d.drop i ++ y)
        rw [← e1, l1] at hn
        have e2 : a ++ (d ++ y) = (a ++ d.take i) ++ ((d.drop i).take j ++ ((d.drop i).drop j ++ y)) := by
          rw [← List.append_assoc ((d.drop i).take j), List.take_append_drop, List.append_assoc, ← List.append_assoc (d.take i), List.take_append_drop]
        have l2 : (a ++ d.take i).length = a.length + i := by rw [List.length_append, l1]
        have l3 : ((d.drop i).take j).length = j := by rw [List.length_take, List.length_drop]; omega
        have hn2 := name_whole k2.2.2.2 (a ++ d.take i) ((d.drop i).drop j ++ y)
        rw [← e2, l2, l3] at hn2
        rw [data_6, hn, dtS, hn2, dtS2, if_pos (by omega)]
        have e3 : (a ++ (d ++ y)).drop (a.length + i + j) = (d.drop i).drop j ++ y := by
          rw [Nat.add_assoc, ← List.drop_drop, List.drop_left, List.drop_append_of_le_length (by omega), List.drop_drop]
        have l4 : ((d.drop i).drop j).length = 20 := by rw [List.length_drop, List.length_drop]; omega
        rw [e3, List.take_append_of_le_length (by omega), List.take_of_length_le (l := (d.drop i).drop j) (by omega), List.take_append_drop, List.take_append_drop]
      · rw [data_o h1 h2 h3, List.drop_left, List.take_left, if_pos h]

/-- A record that was written is read. -/
theorem r_back {st st' : St} {r : Rc} (hr : mayR r = true) (ho : OkS st) (h : stC st r = some st') : OkS st' ∧ (∃ x, st'.1 = st.1 ++ x) ∧ ∀ y, getR ⟨(st'.1 ++ y).toArray⟩ st.1.length = some (r, st'.1.length) := by
  unfold mayR at hr
  simp only [Bool.and_eq_true] at hr
  obtain ⟨⟨⟨hn, hc⟩, hl⟩, hd⟩ := hr
  have ht := may_top hd
  rw [data_len] at ht
  unfold stC at h
  cases h1 : stN st r.n with
  | none => rw [h1] at h; simp at h
  | some a =>
    rw [h1] at h
    simp only [Option.bind_some] at h
    obtain ⟨o1, ⟨x, p1⟩, r1⟩ := name_back hn ho h1
    obtain ⟨e1, e2, e3⟩ := stR_ok h
    refine ⟨⟨by rw [e1, e2]; exact minv_app o1.1 _, e3⟩, ⟨x ++ (rB r ++ r.d).data.toList, by rw [e1, p1, List.append_assoc]⟩, fun y => ?_⟩
    have hrl : (rB r).data.toList = [oct r.t 256, oct r.t 1, oct r.c 256, oct r.c 1, oct r.l 16777216, oct r.l 65536, oct r.l 256, oct r.l 1, oct (r.d.size : Int) 256, oct (r.d.size : Int) 1] := by
      unfold rB
      rw [app_list, app_list, app_list, be2_list, be2_list, be2_list, be4_list]; rfl
    have hle : st'.1.length = a.1.length + 10 + r.d.size := by rw [e1, List.length_append, app_list, List.length_append, hrl, data_len]; simp; omega
    obtain ⟨s, hs⟩ : ∃ s : ByteArray, s = ⟨(st'.1 ++ y).toArray⟩ := ⟨_, rfl⟩
    have hsl : s.data.toList = a.1 ++ ((rB r).data.toList ++ (r.d.data.toList ++ y)) := by
      rw [hs, list_arr, e1, app_list]; simp
    have hsz : a.1.length + 10 + r.d.size ≤ s.size := by rw [← data_len s, hsl, List.length_append, List.length_append, List.length_append, hrl, data_len]; simp; omega
    rw [← hs]
    unfold getR
    have v1 : val s a.1.length 2 = r.t := by
      rw [val_of (s := s) (k := a.1.length) (by rw [hsl, List.drop_left, hrl]; rfl), two_be]; omega
    have v2 : val s (a.1.length + 2) 2 = r.c := by
      rw [val_of (s := s) (k := a.1.length + 2) (by rw [hsl, ← List.drop_drop, List.drop_left, hrl]; rfl), two_be, in16 hc]
    have v3 : val s (a.1.length + 4) 4 = r.l := by
      rw [val4_of (s := s) (k := a.1.length + 4) (by rw [hsl, ← List.drop_drop, List.drop_left, hrl]; rfl), four_be, in32 hl]
    have v4 : val s (a.1.length + 8) 2 = (r.d.size : Int) := by
      rw [val_of (s := s) (k := a.1.length + 8) (by rw [hsl, ← List.drop_drop, List.drop_left, hrl]; rfl), two_be]; omega
    have hdt : dataOf s.data.toList (a.1.length + 10) r.d.size r.t = some r.d.data.toList := by
      have := data_whole hd (a.1 ++ (rB r).data.toList) y
      rw [List.length_append, hrl, data_len, ← hrl, List.append_assoc, ← hsl] at this
      exact this
    have hnm : nameOf s.data.toList st.1.length = some (r.n.data.toList, a.1.length) := by rw [hsl]; exact r1 _
    rw [hnm]
    simp only
    rw [v1, v2, v3, v4]
    simp only [Int.toNat_natCast]
    rw [if_pos hsz, hdt]
    simp only
    rw [hle, arr_list, arr_list]

theorem getAll_cons {α : Type} {f : Nat → Option (α × Nat)} {p a : Nat} {x : α} (hf : f p = some (x, a)) : ∀ {k b : Nat} {xs : List α}, getAll f a k = some (xs, b) → getAll f p (k + 1) = some (x :: xs, b) := by
  intro k
  induction k with
  | zero => intro b xs h; simp [getAll] at h; obtain ⟨rfl, rfl⟩ := h; simp [getAll, hf]
  | succ k ih =>
    intro b xs h
    rw [getAll] at h
    cases h1 : getAll f a k with
    | none => rw [h1] at h; simp at h
    | some z =>
      obtain ⟨ys, c⟩ := z
      rw [h1] at h
      simp only at h
      cases h2 : f c with
      | none => rw [h2] at h; simp at h
      | some z =>
        obtain ⟨y, e⟩ := z
        rw [h2] at h
        simp at h
        obtain ⟨rfl, rfl⟩ := h
        exact getAll_next (ih h1) h2
theorem all_back {α : Type} {f : St → α → Option St} {get : ByteArray → Nat → Option (α × Nat)} {may : α → Bool} (H : ∀ st x st', may x = true → OkS st → f st x = some st' → OkS st' ∧ (∃ e, st'.1 = st.1 ++ e) ∧ ∀ y, get ⟨(st'.1 ++ y).toArray⟩ st.1.length = some (x, st'.1.length)) :
    ∀ (xs : List α) (st st' : St), xs.all may = true → OkS st → stAll f (some st) xs = some st' → OkS st' ∧ (∃ e, st'.1 = st.1 ++ e) ∧ ∀ y, getAll (get ⟨(st'.1 ++ y).toArray⟩) st.1.length xs.length = some (xs, st'.1.length) := by
  intro xs
  induction xs with
  | nil => intro st st' _ ho h; simp [stAll] at h; subst h; exact ⟨ho, ⟨[], by simp⟩, fun y => rfl⟩
  | cons x xs ih =>
    intro st st' hm ho h
    rw [stAll_cons, Option.bind_some] at h
    simp only [List.all_cons, Bool.and_eq_true] at hm
    cases h1 : f st x with
    | none => rw [h1, stAll_none] at h; simp at h
    | some a =>
      rw [h1] at h
      obtain ⟨o1, ⟨e1, p1⟩, r1⟩ := H st x a hm.1 ho h1
      obtain ⟨o2, ⟨e2, p2⟩, r2⟩ := ih a st' hm.2 o1 h
      refine ⟨o2, ⟨e1 ++ e2, by rw [p2, p1, List.append_assoc]⟩, fun y => ?_⟩
      refine getAll_cons (x := x) (a := a.1.length) ?_ (r2 y)
      rw [p2, List.append_assoc]
      exact r1 _

theorem few_iff {α : Type} {f : α → Bool} {xs : List α} (h : few f xs = true) : xs.length ≤ 64 ∧ xs.all f = true := by
  unfold few at h
  simpa using h
theorem hd_back {m : Ms} (hm : mayHd m.h = true) (e : ByteArray) : hdOf (headS m ++ e) = m.h := by
  unfold mayHd at hm
  rw [mayH_iff] at hm
  obtain ⟨h1, h2, h3, h4, _⟩ := hm
  have hb := head_back m.h.id m.h.qr m.h.op m.h.aa m.h.tc m.h.rd m.h.ra m.h.z m.h.rc h2 h3 h4
  have hw := word_lt (qr := m.h.qr) (aa := m.h.aa) (tc := m.h.tc) (rd := m.h.rd) (ra := m.h.ra) h2 h3 h4
  obtain ⟨p0, p1, _⟩ := put_vals m.h.id (wordH m.h.qr m.h.op m.h.aa m.h.tc m.h.rd m.h.ra m.h.z m.h.rc) (m.qs.length : Int) (m.an.length : Int) (m.ns.length : Int) (m.ar.length : Int) e
  have i1 := fit_iff.1 h1
  unfold hdOf headS
  rw [p0, p1, show m.h.id % 65536 = m.h.id from by omega, Int.emod_eq_of_lt hw.1 hw.2]
  unfold headW headV at hb
  simp only [Array.mk.injEq, List.cons.injEq, Value.int.injEq, Value.bool.injEq, true_and, and_true] at hb
  obtain ⟨a1, a2, a3, a4, a5, a6, a7, a8⟩ := hb
  rw [a1, a2, a3, a4, a5, a6, a7, a8]
theorem cnt_back (m : Ms) (h0 : m.qs.length ≤ 64) (h1 : m.an.length ≤ 64) (h2 : m.ns.length ≤ 64) (h3 : m.ar.length ≤ 64) (e : ByteArray) : cnt (headS m ++ e) 0 = m.qs.length ∧ cnt (headS m ++ e) 1 = m.an.length ∧ cnt (headS m ++ e) 2 = m.ns.length ∧ cnt (headS m ++ e) 3 = m.ar.length := by
  obtain ⟨_, _, p0, p1, p2, p3⟩ := put_vals m.h.id (wordH m.h.qr m.h.op m.h.aa m.h.tc m.h.rd m.h.ra m.h.z m.h.rc) (m.qs.length : Int) (m.an.length : Int) (m.ns.length : Int) (m.ar.length : Int) e
  unfold cnt headS
  simp only [Nat.mul_zero, Nat.add_zero, Nat.mul_one]
  rw [p0, p1, p2, p3]
  omega
theorem headS_len (m : Ms) : (headS m).data.toList.length = 12 := by unfold headS; rw [list12]; rfl

/-- A message that was written is read, and is not too long. -/
theorem there_back {m : Ms} {st : St} (hm : mayM m = true) (h : putSt m = some st) : getM ⟨st.1.toArray⟩ = some m ∧ st.1.length ≤ 4096 ∧ 12 ≤ st.1.length := by
  unfold mayM at hm
  simp only [Bool.and_eq_true] at hm
  obtain ⟨hh, ⟨⟨h0, h1⟩, h2⟩, h3⟩ := hm
  have f0 := few_iff h0
  have f1 := few_iff h1
  have f2 := few_iff h2
  have f3 := few_iff h3
  unfold putSt at h
  have ho : OkS ((headS m).data.toList, []) := ⟨fun r q hq => by simp at hq, by rw [headS_len]; decide⟩
  cases a0 : stAll stQ (some ((headS m).data.toList, [])) m.qs with
  | none => rw [a0, stAll_none, stAll_none, stAll_none] at h; simp at h
  | some s0 =>
  obtain ⟨o0, ⟨e0, p0⟩, r0⟩ := all_back (get := getQ) (fun st x st' => q_back) _ _ _ f0.2 ho a0
  rw [a0] at h
  cases a1 : stAll stC (some s0) m.an with
  | none => rw [a1, stAll_none, stAll_none] at h; simp at h
  | some s1 =>
  obtain ⟨o1, ⟨e1, p1⟩, r1⟩ := all_back (get := getR) (fun st x st' => r_back) _ _ _ f1.2 o0 a1
  rw [a1] at h
  cases a2 : stAll stC (some s1) m.ns with
  | none => rw [a2, stAll_none] at h; simp at h
  | some s2 =>
  obtain ⟨o2, ⟨e2, p2⟩, r2⟩ := all_back (get := getR) (fun st x st' => r_back) _ _ _ f2.2 o1 a2
  rw [a2] at h
  obtain ⟨o3, ⟨e3, p3⟩, r3⟩ := all_back (get := getR) (fun st x st' => r_back) _ _ _ f3.2 o2 h
  have c0 : st.1 = s0.1 ++ (e1 ++ (e2 ++ e3)) := by rw [p3, p2, p1]; simp
  have c1 : st.1 = s1.1 ++ (e2 ++ e3) := by rw [p3, p2]; simp
  have hl : 12 ≤ st.1.length := by rw [c0, p0, List.length_append, List.length_append, headS_len]; omega
  refine ⟨?_, o3.2, hl⟩
  have q0 := r0 (e1 ++ (e2 ++ e3))
  have q1 := r1 (e2 ++ e3)
  have q2 := r2 e3
  have q3 := r3 []
  rw [← c0] at q0
  rw [← c1] at q1
  rw [← p3] at q2
  rw [List.append_nil] at q3
  simp only at q0
  rw [headS_len] at q0
  obtain ⟨T, hT⟩ : ∃ T : ByteArray, T = ⟨st.1.toArray⟩ := ⟨_, rfl⟩
  rw [← hT] at q0 q1 q2 q3 ⊢
  have hTs : T = headS m ++ ⟨(e0 ++ (e1 ++ (e2 ++ e3))).toArray⟩ := by
    apply ByteArray.ext
    apply Array.toList_inj.1
    rw [app_list, list_arr, hT, list_arr, c0, p0]; simp
  have hTz : T.size = st.1.length := by rw [← data_len, hT, list_arr]
  obtain ⟨n0, n1, n2, n3⟩ := cnt_back m f0.1 f1.1 f2.1 f3.1 ⟨(e0 ++ (e1 ++ (e2 ++ e3))).toArray⟩
  rw [← hTs] at n0 n1 n2 n3
  unfold getM parts part
  rw [if_pos (by omega), n0, n1, n2, n3, if_pos f0.1, q0]
  simp only
  rw [if_pos f1.1, q1]
  simp only
  rw [if_pos f2.1, q2]
  simp only
  rw [if_pos f3.1, q3]
  simp only
  rw [if_pos hTz.symm]
  rw [hTs, hd_back hh]

end Go.Proofs.Ytcapankhobnfeaa

/- Questions and records in rows; what within, mayQuestion and mayRecord give. -/
namespace Go.Proofs.Ytcapankhobnfeaa
open Go.RowKit
open Pl

/-- Questions and records as cells. -/
def qV (q : Qn) : List Value := [.string q.n, .int .i64 q.t, .int .i64 q.c]
def rV (r : Rc) : List Value := [.string r.n, .int .i64 r.t, .int .i64 r.c, .int .i64 r.l, .string r.d]
def qC (qs : List Qn) : List Value := qs.flatMap qV
def rC (rs : List Rc) : List Value := rs.flatMap rV

theorem flat_len {α : Type} {f : α → List Value} {z : Nat} (hz : ∀ x, (f x).length = z) (xs : List α) : (xs.flatMap f).length = xs.length * z := by
  induction xs with
  | nil => simp
  | cons x xs ih => rw [List.flatMap_cons, List.length_append, hz, ih, List.length_cons, Nat.succ_mul]; omega
theorem flat_get {α : Type} {f : α → List Value} {z : Nat} (hz : ∀ x, (f x).length = z) : ∀ (xs : List α) (k : Nat) (hk : k < xs.length) (i : Nat), i < z → (xs.flatMap f)[k * z + i]? = (f xs[k])[i]? := by
  intro xs
  induction xs with
  | nil => intro k hk; simp at hk
  | cons x xs ih =>
    intro k hk i hi
    rw [List.flatMap_cons]
    cases k with
    | zero => rw [Nat.zero_mul, Nat.zero_add, List.getElem?_append_left (by rw [hz]; exact hi)]; rfl
    | succ k =>
      rw [List.getElem?_append_right (by rw [hz, Nat.succ_mul]; omega), hz, show (k + 1) * z + i - z = k * z + i from by rw [Nat.succ_mul]; omega]
      exact ih k (by simpa using hk) i hi
theorem qC_len (qs : List Qn) : (qC qs).length = qs.length * 3 := flat_len (f := qV) (z := 3) (fun _ => rfl) qs
theorem rC_len (rs : List Rc) : (rC rs).length = rs.length * 5 := flat_len (f := rV) (z := 5) (fun _ => rfl) rs
theorem qC_app (a b : List Qn) : qC (a ++ b) = qC a ++ qC b := by simp [qC]
theorem rC_app (a b : List Rc) : rC (a ++ b) = rC a ++ rC b := by simp [rC]
theorem qC_one (a : List Qn) : ∀ u ∈ qC a, u.oneCell' = true := by
  intro u hu
  simp only [qC, List.mem_flatMap] at hu
  obtain ⟨m, _, hu⟩ := hu
  simp [qV] at hu
  rcases hu with rfl | rfl | rfl <;> rfl
theorem rC_one (a : List Rc) : ∀ u ∈ rC a, u.oneCell' = true := by
  intro u hu
  simp only [rC, List.mem_flatMap] at hu
  obtain ⟨m, _, hu⟩ := hu
  simp [rV] at hu
  rcases hu with rfl | rfl | rfl | rfl | rfl <;> rfl

/-- A row that is read: so many elements, their cells. -/
def Row (w : World) (v : Value) (n : Nat) (xs : List Value) : Prop :=
  (v = .slice none 0 0 ∧ n = 0) ∨ ∃ (g o : Nat) (p : Option Nat) (cap : Nat), v = .slice (some ⟨g, o, p⟩) n cap ∧ (0 < n → p = none) ∧ ∀ j u, xs[j]? = some u → w.cell? ⟨g, o + j, none⟩ = some u
theorem Row.below {w w' : World} {v : Value} {n : Nat} {xs : List Value} (h : Row w v n xs) (hb : Below w.heap.size w w') : Row w' v n xs := by
  rcases h with h | ⟨g, o, p, cap, hv, hp, hc⟩
  · exact .inl h
  · exact .inr ⟨g, o, p, cap, hv, hp, fun j u hu => by have h1 := hc j u hu; rw [hb.cell (World.block_lt_of_cell? _ _ h1)]; exact h1⟩
theorem Row.of_own {w : World} {base e z n : Nat} {v : Value} {xs : List Value} (h : w.ownsRow base e z v n xs) : Row w v n xs := by
  rcases h.2 with ⟨h1, h2⟩ | ⟨g, cap, cur, h1, rest⟩
  · exact .inl ⟨h1, h2⟩
  · refine .inr ⟨g, 0, none, cap, h1, fun _ => rfl, fun j u hu => ?_⟩
    have hj : j < n * z := by have := (List.getElem?_eq_some_iff.1 hu).1; rw [← h.1]; exact this
    subst h1
    rw [Nat.zero_add, h.cellAt j hj, hu]
/-- A row of questions, of records: no string is too long. -/
def QRow (w : World) (v : Value) (qs : List Qn) : Prop := Row w v qs.length (qC qs) ∧ qs.length ≤ maxLen ∧ ∀ q ∈ qs, q.n.size ≤ maxLen
def RRow (w : World) (v : Value) (rs : List Rc) : Prop := Row w v rs.length (rC rs) ∧ rs.length ≤ maxLen ∧ ∀ r ∈ rs, r.n.size ≤ maxLen ∧ r.d.size ≤ maxLen
theorem QRow.below {w w' : World} {v : Value} {qs : List Qn} (h : QRow w v qs) (hb : Below w.heap.size w w') : QRow w' v qs := ⟨h.1.below hb, h.2⟩
theorem RRow.below {w w' : World} {v : Value} {rs : List Rc} (h : RRow w v rs) (hb : Below w.heap.size w w') : RRow w' v rs := ⟨h.1.below hb, h.2⟩

theorem within_as (x lo hi : Int) (b : Bool) (w : World) (h : (decide (lo ≤ x) && decide (x ≤ hi)) = b) :
    Calls Try.prog 94 #[.int .i64 x, .int .i64 lo, .int .i64 hi] w fun e w' => e = .returned (.bool b) ∧ w' = w := by
  by_cases h1 : lo ≤ x
  · have HR : Hid (b = decide (x ≤ hi)) := by unfold Hid; rw [← h]; simp [h1]
    clear h
    go_enter Try.func94, Try.ntmps94
    go_wp2
    go_ret
    exact ⟨ret_bool HR.out.symm, rfl⟩
  · have h1' : decide (lo ≤ x) = false := by simpa using h1
    have HR : Hid (b = false) := by unfold Hid; rw [← h]; simp [h1']
    clear h
    go_enter Try.func94, Try.ntmps94
    go_wp2
    go_ret
    exact ⟨ret_bool HR.out.symm, rfl⟩
theorem may_at (s : ByteArray) (b : Bool) (w : World) (hs : s.size ≤ maxLen) (h : isName s.data.toList = b) :
    Calls Try.prog 47 #[.string s] w fun e w' => e = .returned (.bool b) ∧ w' = w := may_as s b w hs h
theorem within0_as (x hi : Int) (b : Bool) (w : World) (h : inB hi x = b) :
    Calls Try.prog 94 #[.int .i64 x, .int .i64 0, .int .i64 hi] w fun e w' => e = .returned (.bool b) ∧ w' = w :=
  within_as x 0 hi b w (by rw [← h]; unfold inB; rw [Bool.eq_iff_iff]; simp)

set_option maxRecDepth 20000 in
theorem mayQuestion_any (q : Qn) (w : World) (hs : q.n.size ≤ maxLen) :
    Calls Try.prog 77 #[.agg #[.string q.n, .int .i64 q.t, .int .i64 q.c]] w fun e w' => e = .returned (.bool (mayQ q)) ∧ Below w.heap.size w w' := by
  obtain ⟨n, t, c⟩ := q
  simp only at hs ⊢
  obtain ⟨b1, h1⟩ : ∃ b, isName n.data.toList = b := ⟨_, rfl⟩
  obtain ⟨b2, h2⟩ : ∃ b, (decide ((1 : Int) ≤ t) && decide (t ≤ 65535)) = b := ⟨_, rfl⟩
  obtain ⟨b3, h3⟩ : ∃ b, inB 65535 c = b := ⟨_, rfl⟩
  have HR : Hid (mayQ ⟨n, t, c⟩ = (b1 && b2 && b3)) := by unfold Hid mayQ; rw [h1, h2, h3]
  have hb : Below w.heap.size w (w.alloc (.cells #[.string n, .int .i64 t, .int .i64 c] 46)) := lay (Below.refl _ _) _
  have k1 := fun u => may_at n b1 u hs h1
  have k2 := fun u => within_as t 1 65535 b2 u h2
  have k3 := fun u => within0_as c 65535 b3 u h3
  clear h1 h2 h3 hs
  have t1 : True := trivial
  cases b1 with
  | false =>
    go_enter Try.func77, Try.ntmps77
    go_wp2_with (go_at_call 47; go_must (refine (k1 _).mono ?_); rintro e w' ⟨rfl, hw⟩; obtain rfl := hw.symm)
    go_ret
    exact ⟨ret_bool (by rw [HR.out]; rfl), hb⟩
  | true =>
    cases b2 with
    | false =>
      go_enter Try.func77, Try.ntmps77
      go_wp2_with (first
        | (go_at_call 47; go_must (refine (k1 _).mono ?_); rintro e w' ⟨rfl, hw⟩; obtain rfl := hw.symm)
        | (go_at_call 94; go_must (refine (k2 _).mono ?_); rintro e w' ⟨rfl, hw⟩; obtain rfl := hw.symm))
      go_ret
      exact ⟨ret_bool (by rw [HR.out]; rfl), hb⟩
    | true =>
      go_enter Try.func77, Try.ntmps77
      go_wp2_with (first
        | (go_at_call 47; go_must (refine (k1 _).mono ?_); rintro e w' ⟨rfl, hw⟩; obtain rfl := hw.symm)
        | (go_at_call 94; have _t := t1; go_must (refine (k2 _).mono ?_); rintro e w' ⟨rfl, hw⟩; obtain rfl := hw.symm; clear t1 _t)
        | (go_at_call 94; go_must (refine (k3 _).mono ?_); rintro e w' ⟨rfl, hw⟩; obtain rfl := hw.symm))
      go_ret
      exact ⟨ret_bool (by rw [HR.out]; rfl), hb⟩

set_option maxRecDepth 20000 in
theorem mayRecord_any (r : Rc) (w : World) (hs : r.n.size ≤ maxLen) (hd : r.d.size ≤ maxLen) :
    Calls Try.prog 79 #[.agg #[.string r.n, .int .i64 r.t, .int .i64 r.c, .int .i64 r.l, .string r.d]] w fun e w' => e = .returned (.bool (mayR r)) ∧ Below w.heap.size w w' := by
  obtain ⟨n, t, c, l, d⟩ := r
  simp only at hs hd ⊢
  obtain ⟨b1, h1⟩ : ∃ b, isName n.data.toList = b := ⟨_, rfl⟩
  obtain ⟨b2, h2⟩ : ∃ b, inB 65535 c = b := ⟨_, rfl⟩
  obtain ⟨b3, h3⟩ : ∃ b, inB 4294967295 l = b := ⟨_, rfl⟩
  obtain ⟨b4, h4⟩ : ∃ b, mayD t d.data.toList = b := ⟨_, rfl⟩
  have HR : Hid (mayR ⟨n, t, c, l, d⟩ = (b1 && b2 && b3 && b4)) := by unfold Hid mayR; rw [h1, h2, h3, h4]
  have hb : Below w.heap.size w (w.alloc (.cells #[.string n, .int .i64 t, .int .i64 c, .int .i64 l, .string d] 54)) := lay (Below.refl _ _) _
  have k1 := fun u => may_at n b1 u hs h1
  have k2 := fun u => within0_as c 65535 b2 u h2
  have k3 := fun u => within0_as l 4294967295 b3 u h3
  have k4 := fun u => may4_at t d b4 u hd h4
  clear h1 h2 h3 h4 hs hd
  have t1 : True := trivial
  cases b1 with
  | false =>
    go_enter Try.func79, Try.ntmps79
    go_wp2_with (go_at_call 47; go_must (refine (k1 _).mono ?_); rintro e w' ⟨rfl, hw⟩; obtain rfl := hw.symm)
    go_ret
    exact ⟨ret_bool (by rw [HR.out]; rfl), hb⟩
  | true =>
    cases b2 with
    | false =>
      go_enter Try.func79, Try.ntmps79
      go_wp2_with (first
        | (go_at_call 47; go_must (refine (k1 _).mono ?_); rintro e w' ⟨rfl, hw⟩; obtain rfl := hw.symm)
        | (go_at_call 94; go_must (refine (k2 _).mono ?_); rintro e w' ⟨rfl, hw⟩; obtain rfl := hw.symm))
      go_ret
      exact ⟨ret_bool (by rw [HR.out]; rfl), hb⟩
    | true =>
      cases b3 with
      | false =>
        go_enter Try.func79, Try.ntmps79
        go_wp2_with (first
          | (go_at_call 47; go_must (refine (k1 _).mono ?_); rintro e w' ⟨rfl, hw⟩; obtain rfl := hw.symm)
          | (go_at_call 94; have _t := t1; go_must (refine (k2 _).mono ?_); rintro e w' ⟨rfl, hw⟩; obtain rfl := hw.symm; clear t1 _t)
          | (go_at_call 94; go_must (refine (k3 _).mono ?_); rintro e w' ⟨rfl, hw⟩; obtain rfl := hw.symm))
        go_ret
        exact ⟨ret_bool (by rw [HR.out]; rfl), hb⟩
      | true =>
        go_enter Try.func79, Try.ntmps79
        go_wp2_with (first
          | (go_at_call 47; go_must (refine (k1 _).mono ?_); rintro e w' ⟨rfl, hw⟩; obtain rfl := hw.symm)
          | (go_at_call 94; have _t := t1; go_must (refine (k2 _).mono ?_); rintro e w' ⟨rfl, hw⟩; obtain rfl := hw.symm; clear t1 _t)
          | (go_at_call 94; go_must (refine (k3 _).mono ?_); rintro e w' ⟨rfl, hw⟩; obtain rfl := hw.symm)
          | (go_at_call 95; go_must (refine (k4 _).mono ?_); rintro e w4 ⟨rfl, b4⟩; replace hb := next hb (below_drew b4)))
        go_ret
        exact ⟨ret_bool (by rw [HR.out]; simp), hb⟩

end Go.Proofs.Ytcapankhobnfeaa
