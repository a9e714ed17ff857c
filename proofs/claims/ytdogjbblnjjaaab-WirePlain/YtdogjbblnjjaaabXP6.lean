/- What Put of package head gives, for every argument. -/
import Derived.Test.YtdogjbblnjjaaabXP5
namespace Go.Proofs.Ytdogjbblnjjaaab
open Go.RowKit

/-- The bytes of a header so far. -/
def putS (id v a b c d : Int) : Nat → ByteArray
  | 0 => be2 id ++ be2 v
  | 1 => be2 id ++ be2 v ++ be2 a
  | 2 => be2 id ++ be2 v ++ be2 a ++ be2 b
  | 3 => be2 id ++ be2 v ++ be2 a ++ be2 b ++ be2 c
  | _ => be2 id ++ be2 v ++ be2 a ++ be2 b ++ be2 c ++ be2 d
theorem size2 (x : Int) : (be2 x).size = 2 := rfl
theorem putS_next (id v a b c d : Int) (k : Nat) (hk : k < 4) : putS id v a b c d k ++ be2 ([a, b, c, d].getD k 0) = putS id v a b c d (k + 1) := by
  have : k = 0 ∨ k = 1 ∨ k = 2 ∨ k = 3 := by omega
  rcases this with rfl | rfl | rfl | rfl <;> rfl
theorem putS_size (id v a b c d : Int) (k : Nat) : (putS id v a b c d k).size ≤ 12 := by
  match k with
  | 0 | 1 | 2 | 3 | k + 4 => simp [putS, ByteArray.size_append, size2]

theorem mayHead_as (id : Int) (qr : Bool) (op : Int) (aa tc rd ra : Bool) (z rc a b c d : Int) (m : Bool) (w : World) (h : mayH id op z rc a b c d = m) :
    Calls Try.prog 34 #[.agg #[.int .i64 id, .bool qr, .int .i64 op, .bool aa, .bool tc, .bool rd, .bool ra, .int .i64 z, .int .i64 rc], .agg #[.int .i64 a, .int .i64 b, .int .i64 c, .int .i64 d]] w fun e w' => e = .returned (.bool m) ∧ Below w.heap.size w w' :=
  h ▸ mayHead_any id qr op aa tc rd ra z rc a b c d w

theorem mayH_iff {id op z rc a b c d : Int} : mayH id op z rc a b c d = true ↔ fitI 65536 id = true ∧ fitI 16 op = true ∧ fitI 8 z = true ∧ fitI 16 rc = true ∧ fitI 65536 a = true ∧ fitI 65536 b = true ∧ fitI 65536 c = true ∧ fitI 65536 d = true := by
  unfold mayH; simp [and_assoc]
theorem word_lt {qr : Bool} {op : Int} {aa tc rd ra : Bool} {z rc : Int} (ho : fitI 16 op = true) (hz : fitI 8 z = true) (hr : fitI 16 rc = true) : 0 ≤ wordH qr op aa tc rd ra z rc ∧ wordH qr op aa tc rd ra z rc < 65536 := by
  have O := fit_iff.1 ho
  have Z := fit_iff.1 hz
  have R := fit_iff.1 hr
  have := bI_lt qr
  have := bI_lt aa
  have := bI_lt tc
  have := bI_lt rd
  have := bI_lt ra
  unfold wordH
  omega

set_option maxRecDepth 20000 in
set_option maxHeartbeats 4000000 in
theorem put_no (id : Int) (qr : Bool) (op : Int) (aa tc rd ra : Bool) (z rc a b c d : Int) (w : World) (h : mayH id op z rc a b c d = false) :
    Calls Try.prog 16 #[.agg (headV id qr op aa tc rd ra z rc), .agg (cntV a b c d)] w fun e w' => e = .returned (.tuple #[.string ⟨#[]⟩, .int .i64 600]) ∧ Below w.heap.size w w' := by
  have hb := lay (lay (Below.refl w.heap.size w) (.cells #[.int .i64 id, .bool qr, .int .i64 op, .bool aa, .bool tc, .bool rd, .bool ra, .int .i64 z, .int .i64 rc] 29)) (.cells #[.int .i64 a, .int .i64 b, .int .i64 c, .int .i64 d] 47)
  unfold headV cntV
  go_enter Try.func16, Try.ntmps16
  go_wp2_with (go_at_call 34; go_must (refine (mayHead_as id qr op aa tc rd ra z rc a b c d false _ h).mono ?_); rintro e w1 ⟨rfl, b1⟩; replace hb := next hb b1; clear b1)
  go_ret2
  exact ⟨rfl, hb⟩

set_option maxRecDepth 20000 in
set_option maxHeartbeats 4000000 in
theorem put_yes (id : Int) (qr : Bool) (op : Int) (aa tc rd ra : Bool) (z rc a b c d : Int) (w : World) (h : mayH id op z rc a b c d = true) :
    Calls Try.prog 16 #[.agg (headV id qr op aa tc rd ra z rc), .agg (cntV a b c d)] w fun e w' => e = .returned (.tuple #[.string (putS id (wordH qr op aa tc rd ra z rc) a b c d 4), .int .i64 0]) ∧ Below w.heap.size w w' := by
  obtain ⟨hid, ho, hz, hr, -⟩ := mayH_iff.1 h
  have hi := idx4 a b c d
  have hw := word_lt (qr := qr) (aa := aa) (tc := tc) (rd := rd) (ra := ra) ho hz hr
  have hj := fun u => join_any id qr op aa tc rd ra z rc u ho hz hr
  obtain ⟨v, hv⟩ : ∃ v, v = wordH qr op aa tc rd ra z rc := ⟨_, rfl⟩
  rw [← hv] at hw ⊢
  simp only [← hv] at hj
  clear hv
  have hb := lay (lay (Below.refl w.heap.size w) (.cells #[.int .i64 id, .bool qr, .int .i64 op, .bool aa, .bool tc, .bool rd, .bool ra, .int .i64 z, .int .i64 rc] 29)) (.cells #[.int .i64 a, .int .i64 b, .int .i64 c, .int .i64 d] 47)
  have kh := (Blk.new w #[.int .i64 id, .bool qr, .int .i64 op, .bool aa, .bool tc, .bool rd, .bool ra, .int .i64 z, .int .i64 rc] 29).alloc (.cells #[.int .i64 a, .int .i64 b, .int .i64 c, .int .i64 d] 47)
  have kc := Blk.new (w.alloc (.cells #[.int .i64 id, .bool qr, .int .i64 op, .bool aa, .bool tc, .bool rd, .bool ra, .int .i64 z, .int .i64 rc] 29)) #[.int .i64 a, .int .i64 b, .int .i64 c, .int .i64 d] 47
  have es : (w.alloc (.cells #[.int .i64 id, .bool qr, .int .i64 op, .bool aa, .bool tc, .bool rd, .bool ra, .int .i64 z, .int .i64 rc] 29)).heap.size = w.heap.size + 1 := by simp
  rw [es] at kc
  clear es
  unfold headV at hj ⊢
  unfold cntV at hi ⊢
  go_enter Try.func16, Try.ntmps16
  go_wp2_with (go_at_call 34; go_must (refine (mayHead_as id qr op aa tc rd ra z rc a b c d true _ h).mono ?_); rintro e w1 ⟨rfl, b1⟩; replace kh := kh.below b1; replace kc := kc.below b1; replace hb := next hb b1; clear b1)
  have q0 : ∀ n : Bel w1, n.to.cell? ⟨w.heap.size, 0, none⟩ = some (.int .i64 id) := fun n => (kh.below n.h).cell 0
  have q1 : ∀ n : Bel w1, n.to.cell? ⟨w.heap.size, 1, none⟩ = some (.bool qr) := fun n => (kh.below n.h).cell 1
  have q2 : ∀ n : Bel w1, n.to.cell? ⟨w.heap.size, 2, none⟩ = some (.int .i64 op) := fun n => (kh.below n.h).cell 2
  have q3 : ∀ n : Bel w1, n.to.cell? ⟨w.heap.size, 3, none⟩ = some (.bool aa) := fun n => (kh.below n.h).cell 3
  have q4 : ∀ n : Bel w1, n.to.cell? ⟨w.heap.size, 4, none⟩ = some (.bool tc) := fun n => (kh.below n.h).cell 4
  have q5 : ∀ n : Bel w1, n.to.cell? ⟨w.heap.size, 5, none⟩ = some (.bool rd) := fun n => (kh.below n.h).cell 5
  have q6 : ∀ n : Bel w1, n.to.cell? ⟨w.heap.size, 6, none⟩ = some (.bool ra) := fun n => (kh.below n.h).cell 6
  have q7 : ∀ n : Bel w1, n.to.cell? ⟨w.heap.size, 7, none⟩ = some (.int .i64 z) := fun n => (kh.below n.h).cell 7
  have q8 : ∀ n : Bel w1, n.to.cell? ⟨w.heap.size, 8, none⟩ = some (.int .i64 rc) := fun n => (kh.below n.h).cell 8
  have s0 : (be2 id).size + (be2 v).size ≤ 1000 := by rw [size2, size2]; decide
  have wv : IntKind.i64.wrap v = v := by rw [IntKind.wrap_i64]; omega
  refine wp_region_bel (by kernel_rfl) (by kernel_rfl) (fun _ => ?_)
  repeat (go_big_quiet_step (first
    | (go_at_call_of 35 (#[Value.int IntKind.i64 id]); exact bel_lays (put16_any _ _))
    | (go_at_call 36; go_must (exact bel_lays (hj _)))
    | (go_at_call 35; go_must (exact bel_lays (put16_any v _)))))
  refine wpQuiet_nil ?_
  intro wn hwn
  have hbn := bel_out hwn
  clear q0 q1 q2 q3 q4 q5 q6 q7 q8 hwn
  replace kc := kc.below hbn
  replace hb := next hb hbn
  have c0 : wn.cell? ⟨w.heap.size + 1, 0, none⟩ = some (.int .i64 a) := kc.cell 0
  have c1 : wn.cell? ⟨w.heap.size + 1, 1, none⟩ = some (.int .i64 b) := kc.cell 1
  have c2 : wn.cell? ⟨w.heap.size + 1, 2, none⟩ = some (.int .i64 c) := kc.cell 2
  have c3 : wn.cell? ⟨w.heap.size + 1, 3, none⟩ = some (.int .i64 d) := kc.cell 3
  go_wp2
  go_loopw [6, 22] (fun s i wr => ∃ k : Nat, k ≤ 4 ∧ s = .string (putS id v a b c d k) ∧ i = .int .i64 (k : Int) ∧ Below w.heap.size w wr) (fun _ i _ => 4 - (intOf i).toNat)
  case atStart => exact ⟨0, by decide, rfl, rfl, hb⟩
  case round =>
    clear hb kh kc c0 c1 c2 c3 hbn
    obtain ⟨k, hk, rfl, rfl, hb⟩ := hrel
    by_cases h4 : k < 4
    · replace hi := hi k h4
      have HN : Hid (putS id v a b c d k ++ be2 ([a, b, c, d].getD k 0) = putS id v a b c d (k + 1)) := putS_next id v a b c d k h4
      have hz : (putS id v a b c d k).size + (be2 ([a, b, c, d].getD k 0)).size ≤ 1000 := by
        have := putS_size id v a b c d k
        rw [size2]; omega
      obtain ⟨x, hx⟩ : ∃ x, x = [a, b, c, d].getD k 0 := ⟨_, rfl⟩
      rw [← hx] at hi HN hz
      obtain ⟨S, hS⟩ : ∃ S, S = putS id v a b c d k := ⟨_, rfl⟩
      rw [← hS] at hz HN ⊢
      have h4' : (k : Int) < 4 := by omega
      clear hx hS
      go_wp2_with (go_at_call 35; go_must (refine (put16_any x _).mono ?_); rintro e w2 ⟨rfl, b2⟩; replace hb := next hb b2; clear b2)
      go_roundw
      case rel => exact ⟨k + 1, by omega, by rw [HN.out], by go_num, hb⟩
      case measure => simp [intOf]; omega
    · have h4' : k = 4 := by omega
      subst h4'
      go_wp2
      go_ret2
      exact ⟨rfl, hb⟩

end Go.Proofs.Ytdogjbblnjjaaab
