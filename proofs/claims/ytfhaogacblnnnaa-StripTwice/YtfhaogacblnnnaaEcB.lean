/- What Has gives: is one of Code 8 among the options? -/
import Derived.Test.YtfhaogacblnnnaaEcA
namespace Go.Proofs.Ytfhaogacblnnnaa
open Go.RowKit

set_option maxRecDepth 20000 in
theorem has_any (o : Ot) (v : Value) (w : World) (h : Row w v o.os.length (oC o.os)) (hm : o.os.length ≤ maxLen) :
    Calls Try.prog 11 #[.agg (optC o v)] w fun e w' => e = .returned (.bool (hasE o.os)) ∧ Below w.heap.size w w' := by
  obtain ⟨s, ee, vv, b, z, os⟩ := o
  simp only at h hm ⊢
  obtain ⟨n, hn⟩ : ∃ n, n = os.length := ⟨_, rfl⟩
  obtain ⟨x, c, hv⟩ := row_slice h
  rw [← hn] at hv
  subst hv
  have HR : Hid (Row w (.slice x n c) os.length (oC os)) := h
  have HM : Hid (os.length ≤ maxLen) := hm
  have k0 := Blk.new w #[.int .i64 s, .int .i64 ee, .int .i64 vv, .bool b, .int .i64 z, .slice x n c] 24
  have hb := lay (Below.refl w.heap.size w) (.cells #[.int .i64 s, .int .i64 ee, .int .i64 vv, .bool b, .int .i64 z, .slice x n c] 24)
  have c5 : _ = some (Value.slice x n c) := k0.cell 5
  obtain ⟨R, hR⟩ : ∃ R, R = hasE os := ⟨_, rfl⟩
  have HRR : Hid (hasE os = R) := hR.symm
  rw [← hR]
  unfold optC
  simp only
  clear h hm hn hR
  go_enter Try.func11, Try.ntmps11
  go_wp2
  go_region_held3 (fun u => u.cell? ⟨w.heap.size, 5, none⟩ = some (.slice x n c)) (first | (simp only [World.cell?_drew, c5]; done) | (simp only [c6]; done))
    (first
    | (go_at_call 19; go_must (refine (ofCode_any _).mono ?_); rintro e w1 ⟨g, rfl, hg, _, b1⟩; have k1 := (k0.drew ⟨1, rfl⟩).below b1; have c6 : w1.cell? ⟨w.heap.size, 5, none⟩ = some (.slice x n c) := k1.cell 5; replace hb := next (next hb (below_drew ⟨1, rfl⟩)) b1)
    | (go_at_call 21; go_must (refine (contains_any _ os _ _ (HR.out.below hb) HM.out hg).mono ?_); rintro e w2 ⟨rfl, b2⟩; rw [HRR.out]; have c6 : w2.cell? ⟨w.heap.size, 5, none⟩ = some (.slice x n c) := (k1.below b2).cell 5; replace hb := next hb b2))
  all_goals go_wp2
  go_ret
  exact ⟨rfl, hb⟩

end Go.Proofs.Ytfhaogacblnnnaa
