/- What the document's Be gives. -/
import Derived.Test.YtehldafdjldpbaaOctD
import Derived.Laws.MakeOwn
namespace Go.Proofs.Ytehldafdjldpbaa
open Go.RowKit

theorem info5 : (Try.prog.info? 5).map (fun i => (i.zero, i.size, i.bytes)) = some (some (.int .u8 0), 1, 1) := by kernel_rfl
theorem below_of {w w' : World} (h : w.grownBy w' none) : Below w.heap.size w w' := ⟨h.os, h.tape, h.output, h.size, fun k hk => h.block k hk (by simp)⟩

theorem made_zero (n : Nat) : madeCells #[.int .u8 0] n = ((List.replicate n (0 : UInt8)).map bv).toArray := by
  apply Array.ext
  · simp [madeCells]
  · intro i h1 h2
    simp [madeCells, bv, Nat.mod_one]

/-- The last j bytes of a number of n bytes, zeros ahead of them. -/
def beL (x : Int) (n j : Nat) : List UInt8 := (List.range n).map fun p => if n - j ≤ p then oct x (256 ^ (n - 1 - p)) else 0
theorem beL_len (x : Int) (n j : Nat) : (beL x n j).length = n := by simp [beL]
theorem beL_zero (x : Int) (n : Nat) : beL x n 0 = List.replicate n 0 := by
  apply List.ext_getElem (by simp [beL])
  intro i h1 h2
  have : i < n := by simpa [beL] using h1
  simp only [beL, List.getElem_map, List.getElem_range, List.getElem_replicate]
  rw [if_neg (by omega)]
theorem beL_set (x : Int) (n j q : Nat) (h : q + 1 + j = n) : (beL x n j).set q (oct x (256 ^ j)) = beL x n (j + 1) := by
  apply List.ext_getElem (by simp [beL])
  intro i h1 h2
  have hi : i < n := by simpa [beL] using h2
  rw [List.getElem_set]
  simp only [beL, List.getElem_map, List.getElem_range]
  split
  · rename_i e
    subst e
    rw [if_pos (by omega), show n - 1 - q = j from by omega]
  · by_cases hj : n - j ≤ i
    · rw [if_pos hj, if_pos (by omega)]
    · rw [if_neg hj, if_neg (by omega)]
theorem beL_two (x : Int) : beL x 2 2 = [oct x 256, oct x 1] := by
  simp [beL, List.range_succ]
theorem beL_four (x : Int) : beL x 4 4 = [oct x 16777216, oct x 65536, oct x 256, oct x 1] := by
  simp [beL, List.range_succ]

theorem set_cells (l : List UInt8) (i : Nat) (b : UInt8) : (l.map bv).set i (.int .u8 (b.toNat : Int)) = (l.set i b).map bv := by
  rw [List.map_set]; rfl

theorem wraps_u64 (n : Int) (h₀ : 0 ≤ n) (h₁ : n < 2 ^ 64) : IntKind.u64.wrap n = n := by
  have : IntKind.u64.wrap n = n % 18446744073709551616 := by simp [IntKind.wrap, IntKind.bits, IntKind.signed]
  rw [this]; omega

theorem u64_byte (x u : Int) (j : Nat) (hj : j ≤ 4) (hu : u = x % 18446744073709551616 / 256 ^ j) : bits .and .u64 u 255 = ((oct x (256 ^ j)).toNat : Int) := by
  have hd : j = 0 ∨ j = 1 ∨ j = 2 ∨ j = 3 ∨ j = 4 := by omega
  have h0 : 0 ≤ u ∧ u < 18446744073709551616 := by
    rcases hd with rfl | rfl | rfl | rfl | rfl <;> subst hu <;> omega
  have := bits_mask .u64 64 (by decide) wraps_u64 8 (by decide) u h0.1 (by omega)
  rw [oct_nat]
  have h2 : bits .and .u64 u 255 = u % 256 := by simpa using this
  rw [h2]
  rcases hd with rfl | rfl | rfl | rfl | rfl <;> subst hu <;> omega

/-- A row of bytes that the call owns becomes a string. -/
theorem wpList_string (w : World) {ops : Array Oper} {rest : List Oper} {o : Oper} {a : Act} {Q : Exit → Act → World → Prop} (hgd : o.guard = none) (x : Operand)
    (ho : o.op = .convert 54 9 x) (base n : Nat) (v : Value) (l : List UInt8) (hx : a.eval x = v) (hown : w.ownsRow base 5 1 v n (l.map bv))
    (h : wpList Try.prog ops Q rest (a.put o.dst (.string ⟨l.toArray⟩)) w) : wpList Try.prog ops Q (o :: rest) a w := by
  refine wpList_plain hgd fun K hK => ?_
  have hln : l.length = n := by simpa using hown.1
  have hr : (convert 54 9 v).run Try.prog w = .ok (.string ⟨l.toArray⟩) w := by
    rcases hown.2 with ⟨rfl, rfl⟩ | ⟨g, cap, cur, rfl, hb, hg, hnc, hm, hcs, htake⟩
    · have hl : l = [] := List.eq_nil_of_length_eq_zero hln
      subst hl
      exact run_convert_bytes_nil w 54 5 Try.underlying54 Try.underlying5 0 0 9 Try.underlying9
    · subst hln
      refine run_convert_bytes_back w 54 9 5 ⟨g, 0, none⟩ cap l Try.underlying54 Try.underlying5 Try.underlying9 fun j hj => ?_
      refine World.news_of_block hg j _ ?_
      have : (cur.toList.take (l.length * 1))[j]? = (l.map bv)[j]? := by rw [htake]
      rw [List.getElem?_take_of_lt (by omega)] at this
      rw [this]
      simp [hj, bv]
  unfold Oper.wp execOp
  simp only [ho, hx, Sem.run_bind, hr, Result.andThen_ok, Sem.run_pure]
  exact hK _ _ h

theorem be_any (x : Int) (n : Nat) (w : World) (hn : n ≤ 4) :
    Calls Try.prog 26 #[.int .i64 x, .int .i64 (n : Int)] w fun e w' => e = .returned (.string ⟨(beL x n n).toArray⟩) ∧ Below w.heap.size w w' := by
  obtain ⟨i0, hi, hz0, hz1, hz2⟩ := info_parts info5
  have hb : Below w.heap.size w w := Below.refl _ _
  obtain ⟨U, hU⟩ : ∃ U, U = IntKind.u64.wrap x := ⟨_, rfl⟩
  have hU2 : Hid (U = x % 18446744073709551616) := by
    have : IntKind.u64.wrap x = x % 18446744073709551616 := by simp [IntKind.wrap, IntKind.bits, IntKind.signed]
    unfold Hid; rw [hU, this]
  have hU3 := hU.symm
  clear hU
  go_enter Try.func26, Try.ntmps26
  go_wp2_with (at_make; refine wpList_make_full _ rfl _ _ 54 rfl w.heap.size 5 i0 (.int .u8 0) 1 Try.underlying54 hi hz0 hz1 .i64 .i64 _ _ n rfl rfl rfl rfl (by rw [hz2]; omega) (by unfold maxLen; omega) hb.size ?_; intro w2 hown hgrow; replace hb := next hb (below_of hgrow); clear hgrow)
  obtain ⟨g, hg⟩ : ∃ g, g = w.heap.size := ⟨_, rfl⟩
  rw [← hg] at hown ⊢
  have hgw : w.heap.size ≤ g := (hg ▸ Nat.le_refl _)
  have HG : Hid (g = w.heap.size) := hg
  clear hg
  go_loopw [6, 7] (fun u i wr => ∃ (j : Nat) (v y : Int), j ≤ n ∧ Hid (v = (n : Int) - 1 - j) ∧ Hid (y = x % 18446744073709551616 / 256 ^ j) ∧ 0 ≤ y ∧ y < 18446744073709551616 ∧ u = .int .u64 y ∧ i = .int .i64 v ∧ wr.ownsRow w.heap.size 5 1 (.slice (some ⟨g, 0, none⟩) n n) n ((beL x n j).map bv) ∧ Below w.heap.size w wr) (fun _ i _ => (intOf i + 1).toNat)
  case atStart =>
    refine ⟨0, (n : Int) - 1, U, Nat.zero_le _, by unfold Hid; omega, by unfold Hid; rw [hU2.out]; simp, by rw [hU2.out]; omega, by rw [hU2.out]; omega, rfl, rfl, ?_, hb⟩
    rw [beL_zero]
    have := hown
    rw [← HG.out]
    rw [Nat.mul_one, show (Value.int .u8 0).cells = #[.int .u8 0] from rfl, made_zero] at this
    simpa using this
  case round =>
    clear hown hb
    obtain ⟨j, v, y, hj, hv, hy, hy0, hy1, rfl, rfl, hown, hb⟩ := hrel
    by_cases hjn : j < n
    · obtain ⟨q, hq⟩ : ∃ q : Nat, q + 1 + j = n := ⟨n - 1 - j, by omega⟩
      have hvq : v = (q : Int) := by rw [hv.out]; omega
      subst hvq
      have hqn : q < n := by omega
      have hand := u64_byte x y j (by omega) hy.out
      have HS : Hid ((beL x n j).set q (oct x (256 ^ j)) = beL x n (j + 1)) := beL_set x n j q hq
      obtain ⟨c, hc⟩ : ∃ c : UInt8, c = oct x (256 ^ j) := ⟨_, rfl⟩
      rw [← hc] at hand HS
      have hc8 := c.toNat_lt
      have hst := hown.stored q (.int .u8 (c.toNat : Int))
      have hcell : ∃ v, wr.cell? ⟨g, q, none⟩ = some v := by
        rw [hown.cellAt q (by omega)]
        exact ⟨_, List.getElem?_eq_getElem (by simp [beL_len]; omega)⟩
      obtain ⟨v0, hcell⟩ := hcell
      have hfro := hown.frozenAt q
      have HST : Hid ((wr.setCell ⟨g, q, none⟩ (.int .u8 (c.toNat : Int))).ownsRow w.heap.size 5 1 (.slice (some ⟨g, 0, none⟩) n n) n ((beL x n (j + 1)).map bv)) := by
        have h3 := hst.1
        rw [set_cells, HS.out] at h3
        exact h3
      have HB : Hid (Below w.heap.size w (wr.setCell ⟨g, q, none⟩ (.int .u8 (c.toNat : Int)))) := hb.grown hst.2 hb.size (fun q e => by have := Option.some.inj e; omega)
      have HY : Hid (y / 256 = x % 18446744073709551616 / 256 ^ (j + 1)) := by
        unfold Hid; rw [hy.out, Int.pow_succ, Int.ediv_ediv_of_nonneg (Int.pow_nonneg (by decide))]
      have HQ : Hid (q + 1 + j = n) := hq
      clear hst hc hq hown hb
      go_wp2
      go_roundw
      case rel => exact ⟨j + 1, (q : Int) - 1, y / 256, by omega, by unfold Hid; have := HQ.out; omega, HY, by omega, by omega, by go_num, by go_num, HST.out, HB.out⟩
      case measure => simp [intOf]
    · have hjn : j = n := by omega
      have HJ : Hid (j = n) := hjn
      have hv2 : decide (0 ≤ v) = false := by rw [hv.out]; simp; omega
      rw [HJ.out] at hown
      clear hjn hj
      go_wp2_with (refine wpList_string _ rfl (.tmp 26) rfl w.heap.size n _ (beL x n n) rfl hown ?_)
      go_ret
      exact ⟨rfl, hb⟩

theorem be_two (x : Int) (w : World) : Calls Try.prog 26 #[.int .i64 x, .int .i64 2] w fun e w' => e = .returned (.string (be2 x)) ∧ Below w.heap.size w w' := by
  have := be_any x 2 w (by decide)
  rw [beL_two] at this
  exact this
theorem be_four (x : Int) (w : World) : Calls Try.prog 26 #[.int .i64 x, .int .i64 4] w fun e w' => e = .returned (.string (be4 x)) ∧ Below w.heap.size w w' := by
  have := be_any x 4 w (by decide)
  rw [beL_four] at this
  exact this

end Go.Proofs.Ytehldafdjldpbaa
