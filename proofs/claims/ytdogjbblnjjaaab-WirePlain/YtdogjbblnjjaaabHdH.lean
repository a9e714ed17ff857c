/- Headers there and back, plainly; an api.Head as it comes in. -/
import Derived.Test.YtdogjbblnjjaaabHdG
import Derived.ChangeSlices
import Derived.SliceStrings
import Derived.Carry
import Derived.ProofKit
import Derived.OpenShut
import Derived.ShutString
namespace Go.Proofs.Ytdogjbblnjjaaab
open Go.ChangeShapes Go.WideShapes Go.ChangeAt Go.RowKit
open Go.ChangeMaps (open_string shut_string)


theorem bI_beq (q : Bool) : (bI q == 1) = q := by cases q <;> rfl
theorem bI_bit (y : Int) : bI (y % 2 == 1) = y % 2 := by
  have : y % 2 = 0 ∨ y % 2 = 1 := by omega
  rcases this with h | h <;> rw [h] <;> rfl

/-- The word of a header's parts has just these parts. -/
theorem head_back (id : Int) (qr : Bool) (op : Int) (aa tc rd ra : Bool) (z rc : Int) (ho : fitI 16 op = true) (hz : fitI 8 z = true) (hr : fitI 16 rc = true) :
    headW id (wordH qr op aa tc rd ra z rc) = headV id qr op aa tc rd ra z rc := by
  have O := fit_iff.1 ho
  have Z := fit_iff.1 hz
  have R := fit_iff.1 hr
  have q1 := bI_lt qr
  have q2 := bI_lt aa
  have q3 := bI_lt tc
  have q4 := bI_lt rd
  have q5 := bI_lt ra
  obtain ⟨v, hv⟩ : ∃ v, v = wordH qr op aa tc rd ra z rc := ⟨_, rfl⟩
  rw [← hv]
  unfold wordH at hv
  have e1 : v / 32768 % 2 = bI qr := by omega
  have e2 : v / 2048 % 16 = op := by omega
  have e3 : v / 1024 % 2 = bI aa := by omega
  have e4 : v / 512 % 2 = bI tc := by omega
  have e5 : v / 256 % 2 = bI rd := by omega
  have e6 : v / 128 % 2 = bI ra := by omega
  have e7 : v / 16 % 8 = z := by omega
  have e8 : v / 1 % 16 = rc := by omega
  unfold headW
  rw [e1, e2, e3, e4, e5, e6, e7, e8, bI_beq, bI_beq, bI_beq, bI_beq, bI_beq]
/-- The parts of a word make it. -/
theorem word_back (v : Int) (h0 : 0 ≤ v) (h1 : v < 65536) : wordH (v / 32768 % 2 == 1) (v / 2048 % 16) (v / 1024 % 2 == 1) (v / 512 % 2 == 1) (v / 256 % 2 == 1) (v / 128 % 2 == 1) (v / 16 % 8) (v / 1 % 16) = v := by
  unfold wordH
  rw [bI_bit, bI_bit, bI_bit, bI_bit, bI_bit]
  omega

theorem list12 (id v a b c d : Int) : (putS id v a b c d 4).data.toList = [oct id 256, oct id 1, oct v 256, oct v 1, oct a 256, oct a 1, oct b 256, oct b 1, oct c 256, oct c 1, oct d 256, oct d 1] := by
  show (be2 id ++ be2 v ++ be2 a ++ be2 b ++ be2 c ++ be2 d).data.toList = _
  rw [app_list, app_list, app_list, app_list, app_list]
  rfl
theorem val_of {s : ByteArray} {k : Nat} {a b : UInt8} {rest : List UInt8} (h : s.data.toList.drop k = a :: b :: rest) : val s k 2 = two a b := by
  obtain ⟨_, e0⟩ := drop_get h 0 (by simp)
  obtain ⟨h1, e1⟩ := drop_get h 1 (by simp)
  have f0 : s[k] = a := e0
  rw [val_two s k (by omega), f0, e1]
  rfl
theorem oct_two (a b : UInt8) : oct (two a b) 256 = a ∧ oct (two a b) 1 = b := by
  have := a.toNat_lt
  have := b.toNat_lt
  have e1 : (two a b) / 256 % 256 = (a.toNat : Int) := by unfold two; omega
  have e2 : (two a b) / 1 % 256 = (b.toNat : Int) := by unfold two; omega
  unfold oct
  rw [e1, e2]
  exact ⟨by simp, by simp⟩
/-- What was put is told. -/
theorem put_vals (id v a b c d : Int) (s : ByteArray) : val (putS id v a b c d 4 ++ s) 0 2 = id % 65536 ∧ val (putS id v a b c d 4 ++ s) 2 2 = v % 65536 ∧ val (putS id v a b c d 4 ++ s) 4 2 = a % 65536 ∧ val (putS id v a b c d 4 ++ s) 6 2 = b % 65536 ∧ val (putS id v a b c d 4 ++ s) 8 2 = c % 65536 ∧ val (putS id v a b c d 4 ++ s) 10 2 = d % 65536 := by
  have hl : (putS id v a b c d 4 ++ s).data.toList = [oct id 256, oct id 1, oct v 256, oct v 1, oct a 256, oct a 1, oct b 256, oct b 1, oct c 256, oct c 1, oct d 256, oct d 1] ++ s.data.toList := by rw [app_list, list12]
  rw [← two_be id, ← two_be v, ← two_be a, ← two_be b, ← two_be c, ← two_be d]
  exact ⟨val_of (by rw [hl]; rfl), val_of (by rw [hl]; rfl), val_of (by rw [hl]; rfl), val_of (by rw [hl]; rfl), val_of (by rw [hl]; rfl), val_of (by rw [hl]; rfl)⟩
/-- What was told is put. -/
theorem put_back (s : ByteArray) (h : 12 ≤ s.size) : putS (val s 0 2) (val s 2 2) (val s 4 2) (val s 6 2) (val s 8 2) (val s 10 2) 4 = s.extract 0 12 := by
  have hlen : 12 ≤ s.data.toList.length := by rw [data_len]; exact h
  obtain ⟨l, hl⟩ : ∃ l, s.data.toList = l := ⟨_, rfl⟩
  rw [hl] at hlen
  match l, hlen, hl with
  | x0 :: x1 :: x2 :: x3 :: x4 :: x5 :: x6 :: x7 :: x8 :: x9 :: x10 :: x11 :: r, _, hl =>
    have v0 : val s 0 2 = two x0 x1 := val_of (by rw [hl]; rfl)
    have v1 : val s 2 2 = two x2 x3 := val_of (by rw [hl]; rfl)
    have v2 : val s 4 2 = two x4 x5 := val_of (by rw [hl]; rfl)
    have v3 : val s 6 2 = two x6 x7 := val_of (by rw [hl]; rfl)
    have v4 : val s 8 2 = two x8 x9 := val_of (by rw [hl]; rfl)
    have v5 : val s 10 2 = two x10 x11 := val_of (by rw [hl]; rfl)
    apply ByteArray.ext
    apply Array.toList_inj.1
    rw [v0, v1, v2, v3, v4, v5, list12, ext_to, hl, (oct_two x0 x1).1, (oct_two x0 x1).2, (oct_two x2 x3).1, (oct_two x2 x3).2, (oct_two x4 x5).1, (oct_two x4 x5).2, (oct_two x6 x7).1, (oct_two x6 x7).2, (oct_two x8 x9).1, (oct_two x8 x9).2, (oct_two x10 x11).1, (oct_two x10 x11).2]
    rfl

theorem int_cells : Try.prog.cellsOf 3 = 1 := by kernel_rfl
theorem bool_cells : Try.prog.cellsOf 4 = 1 := by kernel_rfl
theorem head_cells : Try.prog.cellsOf 29 = 9 := by kernel_rfl

set_option maxRecDepth 100000 in
/-- An api.Head as it comes in. -/
theorem open_head {H : Type} {enc : TypeId × Value → H} {W : World} {r : Reach} {b0 : Nat} {v : Value} {d : DataW H} {p : List MemPlace} (hval : Value.okWide Try.prog W r b0 29 v) (h0 : DataW.Trod enc Try.prog W 0 (fun _ => true) true 29 v d p) :
    ∃ (id : Int) (qr : Bool) (op : Int) (aa tc rd ra : Bool) (z rc : Int), v = .agg (headV id qr op aa tc rd ra z rc) ∧ p = [] := by
  obtain ⟨cs, rfl, hsz⟩ := okWide_struct Try.underlying29 hval
  obtain ⟨fuel, hf⟩ := h0
  obtain ⟨xs, n, _, hx, hl, hlen, hfs⟩ := DataW.trod_struct Try.underlying29 hf
  obtain ⟨l, rfl⟩ : ∃ l : List Value, cs = l.toArray := ⟨cs.toList, by simp⟩
  have hl9 : l.length = 9 := by rw [head_cells] at hsz; simpa using hsz
  match l, hl9 with
  | [c0, c1, c2, c3, c4, c5, c6, c7, c8], _ =>
  match xs, hlen with
  | [y0, y1, y2, y3, y4, y5, y6, y7, y8], _ =>
    have t0 := hfs 0 _ rfl
    have t1 := hfs 1 _ rfl
    have t2 := hfs 2 _ rfl
    have t3 := hfs 3 _ rfl
    have t4 := hfs 4 _ rfl
    have t5 := hfs 5 _ rfl
    have t6 := hfs 6 _ rfl
    have t7 := hfs 7 _ rfl
    have t8 := hfs 8 _ rfl
    simp [bool_cells, int_cells, Value.cells] at t0 t1 t2 t3 t4 t5 t6 t7 t8
    obtain ⟨id, e0, x0, _⟩ := DataW.trod_int Try.underlying3 t0
    obtain ⟨qr, e1, x1⟩ := DataW.trod_bool Try.underlying4 t1
    obtain ⟨op, e2, x2, _⟩ := DataW.trod_int Try.underlying3 t2
    obtain ⟨aa, e3, x3⟩ := DataW.trod_bool Try.underlying4 t3
    obtain ⟨tc, e4, x4⟩ := DataW.trod_bool Try.underlying4 t4
    obtain ⟨rd, e5, x5⟩ := DataW.trod_bool Try.underlying4 t5
    obtain ⟨ra, e6, x6⟩ := DataW.trod_bool Try.underlying4 t6
    obtain ⟨z, e7, x7, _⟩ := DataW.trod_int Try.underlying3 t7
    obtain ⟨rc, e8, x8, _⟩ := DataW.trod_int Try.underlying3 t8
    simp at e0 e1 e2 e3 e4 e5 e6 e7 e8
    subst e0 e1 e2 e3 e4 e5 e6 e7 e8
    refine ⟨id, qr, op, aa, tc, rd, ra, z, rc, rfl, ?_⟩
    have := (Prod.mk.inj hx).2
    rw [this, x0, x1, x2, x3, x4, x5, x6, x7, x8]
    rfl

end Go.Proofs.Ytdogjbblnjjaaab
