/- What the document's GetOpt gives. -/
import Derived.Test.YtcapankhobnfeaaXOpO
import Derived.Test.YtcapankhobnfeaaXOpF
import Derived.Deep.RegionLaw
namespace Go.Proofs.Ytcapankhobnfeaa
open Go.RowKit

theorem wideO_as (x : Int) (b : Bool) (w : World) (h : fitO 4294967296 x = b) : Calls Try.prog 43 #[.int .i64 x] w fun e w' => e = .returned (.bool b) ∧ w' = w := by
  subst h
  by_cases h0 : 0 ≤ x
  · by_cases h1 : x ≤ 4294967295
    · rw [fitO_iff.2 ⟨h0, by omega⟩]
      go_enter Try.func43, Try.ntmps43
      go_wp2
      go_ret
      exact ⟨rfl, rfl⟩
    · rw [show fitO 4294967296 x = false from by unfold fitO; simp; omega]
      have h2 : decide (x ≤ 4294967295) = false := by simpa using h1
      clear h1
      go_enter Try.func43, Try.ntmps43
      go_wp2
      go_ret
      exact ⟨rfl, rfl⟩
  · rw [show fitO 4294967296 x = false from by unfold fitO; simp; omega]
    have h2 : decide (0 ≤ x) = false := by simpa using h0
    clear h0
    go_enter Try.func43, Try.ntmps43
    go_wp2
    go_ret
    exact ⟨rfl, rfl⟩

theorem num2_yes (s : ByteArray) (k : Nat) (x : Int) (w : World) (hx : x = (k : Int)) (hs : s.size ≤ maxLen) (h : k + 2 ≤ s.size) :
    Calls Try.prog 44 #[.string s, .int .i64 x, .int .i64 2] w fun e w' => e = .returned (.tuple #[.int .i64 (two s[k] s[k + 1]), .int .i64 (x + 2), .int .i64 0]) ∧ w' = w := by
  subst hx
  have := refNum_yes s k 2 w hs (by decide) h
  rw [val_two s k h] at this
  exact this
theorem num2_no (s : ByteArray) (x : Int) (w : World) (hs : s.size ≤ maxLen) (h : x < 0 ∨ (s.size : Int) < x + 2) :
    Calls Try.prog 44 #[.string s, .int .i64 x, .int .i64 2] w fun e w' => e = .returned (.tuple #[.int .i64 0, .int .i64 0, .int .i64 300]) ∧ w' = w := refNum_no s x 2 w hs (by decide) (by simpa using h)
theorem num2_any (s : ByteArray) (x : Int) (w : World) (hs : s.size ≤ maxLen) : Calls Try.prog 44 #[.string s, .int .i64 x, .int .i64 2] w fun e w' => ∃ a b c : Int, e = .returned (.tuple #[.int .i64 a, .int .i64 b, .int .i64 c]) ∧ w' = w := by
  by_cases h : x < 0 ∨ (s.size : Int) < x + 2
  · exact (num2_no s x w hs h).mono fun _ _ ⟨h1, h2⟩ => ⟨_, _, _, h1, h2⟩
  · obtain ⟨k, rfl⟩ := Int.eq_ofNat_of_zero_le (a := x) (by omega)
    exact (num2_yes s k _ w rfl hs (by omega)).mono fun _ _ ⟨h1, h2⟩ => ⟨_, _, _, h1, h2⟩

/-- What of a record is wrong first. -/
theorem recs_no {r : Rc} (h : mayRc r = false) : (r.n.toList == [0]) = false ∨ ((r.n.toList == [0]) = true ∧ ((r.t == 41) = false ∨ ((r.t == 41) = true ∧ (fitO 65536 r.c = false ∨ (fitO 65536 r.c = true ∧ (fitO 4294967296 r.l = false ∨ (fitO 4294967296 r.l = true ∧ 65535 < r.d.size))))))) := by
  unfold mayRc at h
  rw [← root_as] at h
  cases h1 : (r.n.toList == [0]) with
  | false => exact .inl rfl
  | true =>
    refine .inr ⟨rfl, ?_⟩
    cases h2 : (r.t == 41) with
    | false => exact .inl rfl
    | true =>
      refine .inr ⟨rfl, ?_⟩
      cases h3 : fitO 65536 r.c with
      | false => exact .inl rfl
      | true =>
        refine .inr ⟨rfl, ?_⟩
        cases h4 : fitO 4294967296 r.l with
        | false => exact .inl rfl
        | true =>
          rw [h1, h2, h3, h4] at h
          simp at h
          exact .inr ⟨rfl, h⟩

set_option maxRecDepth 20000 in
set_option maxHeartbeats 2000000 in
theorem refGet_recs (n : ByteArray) (t c l : Int) (d : ByteArray) (w : World) (hd : d.size ≤ maxLen) (h : mayRc ⟨n, t, c, l, d⟩ = false) :
    Calls Try.prog 21 #[.agg (rrC ⟨n, t, c, l, d⟩)] w fun e w' => e = .returned (.tuple #[.agg (optC otZ (.slice none 0 0)), .int .i64 800]) ∧ Below w.heap.size w w' := by
  obtain ⟨KA, KB, hb⟩ := get_blks w ⟨n, t, c, l, d⟩
  obtain ⟨q0, q1, q2, q3, q4, q5⟩ := KB.six
  have hn := recs_no h
  clear h KA KB
  simp only at hn
  unfold maxLen at hd
  unfold optC rrC otZ at *
  simp only at *
  have nn : ∀ b, (n.toList == [0]) = b → (n.toList != [0]) = !b := fun b h => by rw [bne, h]
  have nt : ∀ b, (t == 41) = b → (t != 41) = !b := fun b h => by rw [bne, h]
  rcases hn with h1 | ⟨h1, h2 | ⟨h2, h3 | ⟨h3, h4 | ⟨h4, h5⟩⟩⟩⟩
  · replace nn := nn _ h1
    simp only [Bool.not_false] at nn
    clear nt
    go_enter Try.func21, Try.ntmps21
    go_wp2
    refine bodyPost_ret (v := .tuple #[.agg #[.int .i64 0, .int .i64 0, .int .i64 0, .bool false, .int .i64 0, .slice none 0 0], .int .i64 800]) (by simp [results, Try.results21, go_sem, q0, q1, q2, q3, q4, q5]) rfl ⟨rfl, hb⟩
  · replace nn := nn _ h1
    replace nt := nt _ h2
    simp only [Bool.not_false, Bool.not_true] at nn nt
    go_enter Try.func21, Try.ntmps21
    go_wp2
    refine bodyPost_ret (v := .tuple #[.agg #[.int .i64 0, .int .i64 0, .int .i64 0, .bool false, .int .i64 0, .slice none 0 0], .int .i64 800]) (by simp [results, Try.results21, go_sem, q0, q1, q2, q3, q4, q5]) rfl ⟨rfl, hb⟩
  · replace nn := nn _ h1
    replace nt := nt _ h2
    simp only [Bool.not_true] at nn nt
    have K1 := fun u => shortO_as c _ u h3
    go_enter Try.func21, Try.ntmps21
    go_wp2_with (go_at_call 27; go_must (refine (K1 _).mono ?_); rintro e w' ⟨rfl, hw⟩; obtain rfl := hw.symm)
    refine bodyPost_ret (v := .tuple #[.agg #[.int .i64 0, .int .i64 0, .int .i64 0, .bool false, .int .i64 0, .slice none 0 0], .int .i64 800]) (by simp [results, Try.results21, go_sem, q0, q1, q2, q3, q4, q5]) rfl ⟨rfl, hb⟩
  · replace nn := nn _ h1
    replace nt := nt _ h2
    simp only [Bool.not_true] at nn nt
    have K1 := fun u => shortO_as c _ u h3
    have K2 := fun u => wideO_as l _ u h4
    go_enter Try.func21, Try.ntmps21
    go_wp2_with (first
      | (go_at_call 27; go_must (refine (K1 _).mono ?_); rintro e w' ⟨rfl, hw⟩; obtain rfl := hw.symm)
      | (go_at_call 43; go_must (refine (K2 _).mono ?_); rintro e w' ⟨rfl, hw⟩; obtain rfl := hw.symm))
    refine bodyPost_ret (v := .tuple #[.agg #[.int .i64 0, .int .i64 0, .int .i64 0, .bool false, .int .i64 0, .slice none 0 0], .int .i64 800]) (by simp [results, Try.results21, go_sem, q0, q1, q2, q3, q4, q5]) rfl ⟨rfl, hb⟩
  · replace nn := nn _ h1
    replace nt := nt _ h2
    simp only [Bool.not_true] at nn nt
    have K1 := fun u => shortO_as c _ u h3
    have K2 := fun u => wideO_as l _ u h4
    have h5' : (65535 : Int) < (d.size : Int) := by omega
    go_enter Try.func21, Try.ntmps21
    go_wp2_with (first
      | (go_at_call 27; go_must (refine (K1 _).mono ?_); rintro e w' ⟨rfl, hw⟩; obtain rfl := hw.symm)
      | (go_at_call 43; go_must (refine (K2 _).mono ?_); rintro e w' ⟨rfl, hw⟩; obtain rfl := hw.symm))
    refine bodyPost_ret (v := .tuple #[.agg #[.int .i64 0, .int .i64 0, .int .i64 0, .bool false, .int .i64 0, .slice none 0 0], .int .i64 800]) (by simp [results, Try.results21, go_sem, q0, q1, q2, q3, q4, q5]) rfl ⟨rfl, hb⟩

/-- What GetOpt holds: the argument, the answer, the OPT that grows and its row. -/
structure GQ (w w' : World) (r : Rc) (O : Ot) (y : Option Addr) (n cap : Nat) : Prop where
  ka : Blk w' w.heap.size (rrC r) 54
  kb : Blk w' (w.heap.size + 1) (optC otZ (.slice none 0 0)) 50
  kc : Blk w' (w.heap.size + 1 + 1) (optC O (.slice y n cap)) 50
  row : w'.ownsRow w.heap.size 56 2 (.slice y n cap) O.os.length (oC O.os)
  bel : Below w.heap.size w w'
theorem GQ.below {w a b : World} {r : Rc} {O : Ot} {y : Option Addr} {n cap : Nat} (h : GQ w a r O y n cap) (hb : Below a.heap.size a b) : GQ w b r O y n cap :=
  ⟨h.ka.below hb, h.kb.below hb, h.kc.below hb, own_past h.row hb, next h.bel hb⟩
theorem gb_new (w : World) (r : Rc) (O : Ot) (hO : O.os = []) : GQ w ((((w.alloc (.cells (rrC r) 54)).alloc (.cells (optC otZ (.slice none 0 0)) 50)).alloc (.cells (optC O (.slice none 0 0)) 50))) r O none 0 0 := by
  obtain ⟨KA, KB, hb⟩ := get_blks w r
  have h3 := Blk.new ((w.alloc (.cells (rrC r) 54)).alloc (.cells (optC otZ (.slice none 0 0)) 50)) (optC O (.slice none 0 0)) 50
  rw [show ((w.alloc (.cells (rrC r) 54)).alloc (.cells (optC otZ (.slice none 0 0)) 50)).heap.size = w.heap.size + 1 + 1 from by simp] at h3
  exact ⟨KA.alloc _, KB.alloc _, h3, by rw [hO]; exact World.ownsRow_nil _ _ _ _, lay hb _⟩
/-- An option is appended, and the field stored. -/
theorem GQ.app {w a b : World} {r : Rc} {O : Ot} {y y' : Option Addr} {n cap n' cap' : Nat} {o : On} (h : GQ w a r O y n cap) (own' : b.ownsRow w.heap.size 56 2 (.slice y' n' cap') (O.os.length + 1) (oC O.os ++ oV o)) (grow : a.grownBy b (Value.slice y n cap).ownBlock) :
    GQ w (b.setCell ⟨w.heap.size + 1 + 1, 5, none⟩ (.slice y' n' cap')) r ⟨O.s, O.e, O.v, O.b, O.z, O.os ++ [o]⟩ y' n' cap' := by
  have k1 := h.ka.grown grow (own_sep h.row h.ka (by decide))
  have k2 := h.kb.grown grow (own_sep h.row h.kb (by decide))
  have k3 := h.kc.grown grow (own_sep h.row h.kc (by decide))
  have ts : Turn (fun k => k = w.heap.size + 1 + 1) b (b.setCell ⟨w.heap.size + 1 + 1, 5, none⟩ (.slice y' n' cap')) := Turn.of_set (S := fun k => k = w.heap.size + 1 + 1) b (p := ⟨w.heap.size + 1 + 1, 5, none⟩) rfl _
  refine ⟨k1.other (by omega) 5 _, k2.other (by omega) 5 _, k3.set 5 _, ?_, ?_⟩
  · show World.ownsRow _ _ _ _ _ (O.os ++ [o]).length (oC (O.os ++ [o]))
    rw [List.length_append, oC_app, show oC [o] = oV o from by simp [oC]]
    exact ts.row own' (fun k hk e => own_sep own' k3 (by decide) (by rw [hk, e]))
  · exact (h.bel.grown grow h.bel.size (fun k e => (h.row.lt k e).1)).setCell (by show w.heap.size ≤ w.heap.size + 1 + 1; omega) _
theorem GQ.cell {w a b : World} {r : Rc} {O : Ot} {y : Option Addr} {n cap : Nat} (h : GQ w a r O y n cap) (grow : a.grownBy b (Value.slice y n cap).ownBlock) : b.cell? ⟨w.heap.size + 1 + 1, 5, none⟩ = some (.slice y n cap) ∧ b.frozen? ⟨w.heap.size + 1 + 1, 5, none⟩ = false :=
  ⟨(h.kc.grown grow (own_sep h.row h.kc (by decide))).cell 5, (h.kc.grown grow (own_sep h.row h.kc (by decide))).frozen 5⟩

end Go.Proofs.Ytcapankhobnfeaa
