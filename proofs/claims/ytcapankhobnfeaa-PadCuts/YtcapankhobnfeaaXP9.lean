/- What Query gives. -/
import Derived.Test.YtcapankhobnfeaaXP8
namespace Go.Proofs.Ytcapankhobnfeaa
open Go.RowKit
open Pl

/-- The folded name. -/
def fdB (n : ByteArray) : ByteArray := ⟨(foldR n.data.toList).toArray⟩
/-- The message of a query. -/
def qM (id : Int) (n : ByteArray) (t : Int) : Ms := ⟨⟨id, false, 0, false, false, false, false, 0, 0⟩, [⟨fdB n, t, 1⟩], [], [], []⟩
def queT (id : Int) (n : ByteArray) (t : Int) : ByteArray := if qE 128 (qM id n t) = 0 then qT 128 (qM id n t) else ⟨#[]⟩
def queE (id : Int) (n : ByteArray) (t : Int) : Int := if qE 128 (qM id n t) = 0 then 0 else 1000
theorem fd_size (n : ByteArray) : (fdB n).size ≤ 255 := by
  unfold fdB
  rw [bytes_size]
  cases h : isName n.data.toList with
  | false => rw [foldR_no h]; decide
  | true => rw [foldR_yes h, fold_len]; exact (name_some h).1

/-- What lies ahead of the closure's call. -/
theorem pre_que {w2 : World} {g : Nat} {id t : Int} {n : ByteArray} {T : ByteArray} {E : Int} (KG : Blk w2 g #[.int .i64 128] 3) (hT : qT 128 (qM id n t) = T) (hE : qE 128 (qM id n t) = E) :
    Calls Try.prog 45 #[.agg #[.int .i64 id, .bool false, .int .i64 0, .bool false, .bool false, .bool false, .bool false, .int .i64 0, .int .i64 0, .slice (some ⟨w2.heap.size, 0, none⟩) 1 1, .slice none 0 0, .slice none 0 0, .slice none 0 0], .pointer (some ⟨g, 0, none⟩)] (w2.alloc (.cells #[.string (fdB n), .int .i64 t, .int .i64 1] 46)) fun e w' => e = .returned (.tuple #[.string T, .int .i64 E]) ∧ Below w2.heap.size w2 w' := by
  have hb2 := lay (Below.refl w2.heap.size w2) (.cells #[.string (fdB n), .int .i64 t, .int .i64 1] 46)
  have k := Blk.new w2 #[.string (fdB n), .int .i64 t, .int .i64 1] 46
  have hq : QRow (w2.alloc (.cells #[.string (fdB n), .int .i64 t, .int .i64 1] 46)) (.slice (some ⟨w2.heap.size, 0, none⟩) 1 1) (qM id n t).qs := qrow_lit (q := ⟨fdB n, t, 1⟩) k (by have := fd_size n; simp only; omega)
  refine (pad1_any (qM id n t) 128 g _ _ _ _ T E _ hq (RRow.nil _) (RRow.nil _) (RRow.nil _) (by simp [qM]) (KG.alloc _) (by omega) (by omega) hT hE).mono ?_
  rintro e w' ⟨rfl, b⟩
  exact ⟨rfl, next hb2 b⟩

set_option maxRecDepth 20000 in
set_option maxHeartbeats 1000000 in
theorem query_any (id : Int) (n : ByteArray) (t : Int) (T : ByteArray) (E : Int) (w : World) (hn : n.size ≤ maxLen) (hT : queT id n t = T) (hE : queE id n t = E) :
    Calls Try.prog 9 #[.int .i64 id, .agg #[.string n, .int .i64 t]] w fun e w' => e = .returned (.tuple #[.string T, .int .i64 E]) ∧ Below w.heap.size w w' := by
  obtain ⟨T0, hT0⟩ : ∃ T0, qT 128 (qM id n t) = T0 := ⟨_, rfl⟩
  obtain ⟨E0, hE0⟩ : ∃ E0, qE 128 (qM id n t) = E0 := ⟨_, rfl⟩
  have KC : ∀ (w2 : World) (g : Nat), Hid (Blk w2 g #[.int .i64 128] 3) → _ := fun w2 g KG => pre_que KG.out hT0 hE0
  have KF := fun u => fold_any n u hn
  unfold queT at hT
  unfold queE at hE
  rw [hT0, hE0] at hT
  rw [hE0] at hE
  obtain ⟨F, hF⟩ : ∃ F, F = fdB n := ⟨_, rfl⟩
  change ∀ u, Calls Try.prog 26 #[.string n] u fun e w' => e = .returned (.string (fdB n)) ∧ Below u.heap.size u w' at KF
  rw [← hF] at KF KC
  clear hT0 hE0 hF hn
  have KB := Blk.new w #[.string n, .int .i64 t] 23
  have hb := lay (Below.refl w.heap.size w) (.cells #[.string n, .int .i64 t] 23)
  have KT := fun u => padTo_any 128 u
  unfold padF at KT
  have HTE : Hid ((if E0 = 0 then T0 else ⟨#[]⟩) = T ∧ (if E0 = 0 then (0 : Int) else 1000) = E) := ⟨hT, hE⟩
  clear hT hE
  go_enter Try.func9, Try.ntmps9
  go_wp2_with (go_at_call 25; go_must (refine (KT _).mono ?_); rintro e w1 ⟨rfl, KG, b1⟩; rw [World.size_alloc] at KG; replace KB := KB.below b1; replace hb := next hb b1; clear b1)
  have c0 : w1.cell? ⟨w.heap.size, 0, none⟩ = some (.string n) := KB.cell 0
  have c1 : w1.cell? ⟨w.heap.size, 1, none⟩ = some (.int .i64 t) := KB.cell 1
  go_region_held3 (fun u => u.cell? ⟨w.heap.size, 0, none⟩ = some (.string n) ∧ u.cell? ⟨w.heap.size, 1, none⟩ = some (.int .i64 t))
    (first | (simp only [World.cell?_drew, c0, c1, and_self]; done) | (simp only [a0, a1, and_self]; done) | (simp only [b0, b1, and_self]; done) | (simp only [e0, e1, and_self]; done))
    (first
      | (go_at_call 26; refine (KF _).mono ?_; rintro e w2 ⟨rfl, bb2⟩; have KB2 := KB.past bb2 rfl; have KG2 := KG.past bb2 rfl; have hb2 := next_drew hb bb2 rfl; have a0 : w2.cell? ⟨w.heap.size, 0, none⟩ = some (.string n) := KB2.cell 0; have a1 : w2.cell? ⟨w.heap.size, 1, none⟩ = some (.int .i64 t) := KB2.cell 1; have b0 : (w2.alloc (.cells #[.string F, .int .i64 t, .int .i64 1] 46)).cell? ⟨w.heap.size, 0, none⟩ = some (.string n) := (KB2.alloc _).cell 0; have b1 : (w2.alloc (.cells #[.string F, .int .i64 t, .int .i64 1] 46)).cell? ⟨w.heap.size, 1, none⟩ = some (.int .i64 t) := (KB2.alloc _).cell 1; clear bb2)
      | (go_at_call 45; refine (KC _ _ KG2).mono ?_; rintro e w3 ⟨rfl, bb3⟩; have KB3 := KB2.below bb3; have hb3 := next hb2 bb3; have e0 : w3.cell? ⟨w.heap.size, 0, none⟩ = some (.string n) := KB3.cell 0; have e1 : w3.cell? ⟨w.heap.size, 1, none⟩ = some (.int .i64 t) := KB3.cell 1; clear bb3))
  obtain ⟨hT, hE⟩ := HTE.out
  by_cases hz : E0 = 0
  · rw [if_pos hz] at hT hE
    subst hz
    go_wp2
    go_ret2
    exact ⟨by rw [← hT, ← hE]; rfl, hb3⟩
  · rw [if_neg hz] at hT hE
    go_wp2
    go_ret2
    exact ⟨by rw [← hT, ← hE]; rfl, hb3⟩

end Go.Proofs.Ytcapankhobnfeaa
