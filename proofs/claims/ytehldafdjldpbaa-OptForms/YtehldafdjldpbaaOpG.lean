/- What Find of package opt gives. -/
import Derived.Test.YtehldafdjldpbaaOpF
namespace Go.Proofs.Ytehldafdjldpbaa
open Go.RowKit

theorem optL_snoc (a : List Rc) (r : Rc) : optL (a ++ [r]) = optL a ++ (if r.t == 41 then [r] else []) := by
  unfold optL
  rw [List.filter_append]
  cases h : (r.t == 41) <;> simp [h]
theorem fin_other {rs : List Rc} {k : Nat} (hk : k < rs.length) (h : (rs[k].t == 41) = false) : finO (rs.take (k + 1)) = finO (rs.take k) ∧ finN (rs.take (k + 1)) = finN (rs.take k) := by
  unfold finO finN
  rw [List.take_succ_eq_append_getElem hk, optL_snoc, h]
  simp
theorem fin_first {rs : List Rc} {k : Nat} (hk : k < rs.length) (h : (rs[k].t == 41) = true) (h0 : finN (rs.take k) = 0) : finO (rs.take (k + 1)) = getO rs[k] ∧ finN (rs.take (k + 1)) = 1 := by
  unfold finN at h0
  have h1 := List.eq_nil_of_length_eq_zero h0
  unfold finO finN
  rw [List.take_succ_eq_append_getElem hk, optL_snoc, h, h1]
  simp
theorem fin_next {rs : List Rc} {k : Nat} (hk : k < rs.length) (h : (rs[k].t == 41) = true) (h0 : finN (rs.take k) ≠ 0) : finO (rs.take (k + 1)) = finO (rs.take k) ∧ finN (rs.take (k + 1)) = finN (rs.take k) + 1 := by
  unfold finN at h0
  unfold finO finN
  rw [List.take_succ_eq_append_getElem hk, optL_snoc, h]
  cases hl : optL (rs.take k) with
  | nil => rw [hl] at h0; simp at h0
  | cons a l => simp
theorem finN_le (rs : List Rc) (k : Nat) : finN (rs.take k) ≤ k := by
  unfold finN optL
  exact Nat.le_trans (List.length_filter_le _ _) (by rw [List.length_take]; omega)

theorem find_blks (w : World) (M : Array Value) : Blk (((w.alloc (.cells M 32)).alloc (.cells (optC otZ (.slice none 0 0)) 24)).alloc (.cells (optC otZ (.slice none 0 0)) 24)) (w.heap.size + 1) (optC otZ (.slice none 0 0)) 24 ∧ Blk (((w.alloc (.cells M 32)).alloc (.cells (optC otZ (.slice none 0 0)) 24)).alloc (.cells (optC otZ (.slice none 0 0)) 24)) (w.heap.size + 1 + 1) (optC otZ (.slice none 0 0)) 24 ∧ Below w.heap.size w (((w.alloc (.cells M 32)).alloc (.cells (optC otZ (.slice none 0 0)) 24)).alloc (.cells (optC otZ (.slice none 0 0)) 24)) := by
  have h2 := Blk.new (w.alloc (.cells M 32)) (optC otZ (.slice none 0 0)) 24
  have h3 := Blk.new ((w.alloc (.cells M 32)).alloc (.cells (optC otZ (.slice none 0 0)) 24)) (optC otZ (.slice none 0 0)) 24
  rw [show (w.alloc (.cells M 32)).heap.size = w.heap.size + 1 from by simp] at h2
  rw [show ((w.alloc (.cells M 32)).alloc (.cells (optC otZ (.slice none 0 0)) 24)).heap.size = w.heap.size + 1 + 1 from by simp] at h3
  exact ⟨h2.alloc _, h3, lay (lay (lay (Below.refl _ _) _) _) _⟩

/-- What Find holds: the answer's block, the first one's block and its row. -/
structure FA (w w' : World) (g1 g2 : Nat) (O : Ot) (y : Option Addr) (n cap : Nat) : Prop where
  res : Blk w' g1 (optC otZ (.slice none 0 0)) 24
  fst : Blk w' g2 (optC O (.slice y n cap)) 24
  row : w'.ownsRow w.heap.size 52 2 (.slice y n cap) O.os.length (oC O.os)
  bel : Below w.heap.size w w'
  n1 : w.heap.size < g1
  n2 : g1 < g2
theorem FA.below {w a b : World} {g1 g2 : Nat} {O : Ot} {y : Option Addr} {n cap : Nat} (h : FA w a g1 g2 O y n cap) (hb : Below a.heap.size a b) : FA w b g1 g2 O y n cap :=
  ⟨h.res.below hb, h.fst.below hb, own_past h.row hb, next h.bel hb, h.n1, h.n2⟩
theorem FA.lay {w a : World} {g1 g2 : Nat} {O : Ot} {y : Option Addr} {n cap : Nat} (h : FA w a g1 g2 O y n cap) (o : Obj) : FA w (a.alloc o) g1 g2 O y n cap := h.below ((Below.refl _ _).alloc (Nat.le_refl _) o)
theorem FA.put {w a : World} {g1 g2 : Nat} {O O' : Ot} {y y' : Option Addr} {n cap n' cap' : Nat} (h : FA w a g1 g2 O y n cap) (hr : a.ownsRow w.heap.size 52 2 (.slice y' n' cap') O'.os.length (oC O'.os)) : FA w (set6 a g2 O' (.slice y' n' cap')) g1 g2 O' y' n' cap' := by
  have ht := set6_turn a g2 O' (.slice y' n' cap')
  exact ⟨ht.blk h.res (by have := h.n2; omega), set6_blk h.fst, ht.row hr (fun k hk e => own_sep hr h.fst (by decide) (by rw [hk, e])), set6_below h.bel (by have := h.n1; have := h.n2; omega) h.bel.size _ _, h.n1, h.n2⟩

set_option maxRecDepth 20000 in
set_option maxHeartbeats 1000000 in
theorem optFind_any (h : Hd) (v0 v1 v2 v : Value) (rs : List Rc) (w : World) (hr : RRow w v rs) : Calls Try.prog 13 #[.agg (msgC h v0 v1 v2 v)] w (GetOP w (finO rs) (finN rs : Int)) := by
  obtain ⟨n, hn⟩ : ∃ n, n = rs.length := ⟨_, rfl⟩
  have hmax := hr.2.1
  rw [← hn] at hmax
  unfold maxLen at hmax
  have HN : Hid (n = rs.length) := hn
  obtain ⟨x, c, hv⟩ := row_slice hr.1
  rw [← hn] at hv
  subst hv
  have HR : Hid (RRow w (.slice x n c) rs) := hr
  clear hr hn
  obtain ⟨KB, KC, hb⟩ := find_blks w (msgC h v0 v1 v2 (.slice x n c))
  have HF : Hid (FA w _ (w.heap.size + 1) (w.heap.size + 1 + 1) otZ none 0 0) := ⟨KB, KC, World.ownsRow_nil _ _ _ _, hb, by omega, by omega⟩
  obtain ⟨g1, hg1⟩ : ∃ g, g = w.heap.size + 1 := ⟨_, rfl⟩
  unfold msgC at *
  clear KB KC hb
  go_enter Try.func13, Try.ntmps13
  go_wp2
  go_loopw [5, 11] (fun cn i wr => ∃ (k m q cap : Nat) (y : Option Addr), k ≤ n ∧ m ≤ k ∧ cn = .int .i64 (m : Int) ∧ i = .int .i64 (k : Int) ∧ Hid (m = finN (rs.take k)) ∧ Hid (FA w wr (w.heap.size + 1) (w.heap.size + 1 + 1) (finO (rs.take k)) y q cap)) (fun _ i _ => n - (intOf i).toNat)
  case atStart => exact ⟨0, 0, 0, 0, none, Nat.zero_le _, Nat.zero_le _, rfl, rfl, rfl, HF⟩
  case round =>
    clear HF
    obtain ⟨k, m, q, cap, y, hk, hmk, rfl, rfl, HM, HF⟩ := hrel
    by_cases hkn : k < n
    · have hkm : k < rs.length := by have := HN.out; omega
      obtain ⟨g, o, cp, hx, hc⟩ := row_at (HR.out.below HF.out.bel).1 (by omega)
      simp only [Value.slice.injEq] at hx
      obtain ⟨rfl, -, rfl⟩ := hx
      obtain ⟨d0, d1, d2, d3, d4⟩ := r_cells hc hkm
      have hmax2 := (HR.out.2.2 _ (List.getElem_mem hkm)).2
      have F1 : Hid ((rs[k].t == 41) = false → finO (rs.take (k + 1)) = finO (rs.take k) ∧ finN (rs.take (k + 1)) = finN (rs.take k)) := fin_other hkm
      have F2 : Hid ((rs[k].t == 41) = true → finN (rs.take k) = 0 → finO (rs.take (k + 1)) = getO rs[k] ∧ finN (rs.take (k + 1)) = 1) := fin_first hkm
      have F3 : Hid ((rs[k].t == 41) = true → finN (rs.take k) ≠ 0 → finO (rs.take (k + 1)) = finO (rs.take k) ∧ finN (rs.take (k + 1)) = finN (rs.take k) + 1) := fin_next hkm
      have K1 := fun u => optGet_any rs[k] u hmax2
      obtain ⟨r, hr⟩ : ∃ r, r = rs[k] := ⟨_, rfl⟩
      simp only [← hr] at d0 d1 d2 d3 d4 F1 F2 F3 K1
      obtain ⟨rn, rt, rc, rl, rd⟩ := r
      simp only at d0 d1 d2 d3 d4 F1 F2 F3
      unfold rrC at K1
      simp only at K1
      have hk1 : k + 1 ≤ n := hkn
      clear hc hr hmax2
      cases ht : (rt == 41) with
      | false =>
        have FF := F1.out ht
        have FFH : Hid _ := FF
        clear F1 F2 F3 K1 FF
        go_wp2
        go_roundw
        case rel => exact ⟨k + 1, m, q, cap, y, hk1, by omega, rfl, by go_num, by unfold Hid; rw [FFH.out.2]; exact HM.out, by unfold Hid; rw [FFH.out.1]; exact HF.out.lay _⟩
        case measure => simp [intOf]; omega
      | true =>
        by_cases hm0 : m = 0
        · have FFH : Hid _ := F2.out ht (by rw [← HM.out]; exact hm0)
          clear F1 F2 F3
          subst hm0
          have HK : Hid (∀ u, Calls Try.prog 11 _ u (GetOP u (getO ⟨rn, rt, rc, rl, rd⟩) (getE ⟨rn, rt, rc, rl, rd⟩))) := K1
          obtain ⟨O, hO⟩ : ∃ O, O = getO ⟨rn, rt, rc, rl, rd⟩ := ⟨_, rfl⟩
          obtain ⟨E, hE⟩ : ∃ E, E = getE ⟨rn, rt, rc, rl, rd⟩ := ⟨_, rfl⟩
          rw [← hO] at K1 FFH
          rw [← hE] at K1
          clear hO hE HK
          obtain ⟨O1, O2, O3, O4, O5, O6⟩ := O
          unfold GetOP optC at K1
          simp only at K1
          go_wp2_with (go_at_call 11; go_must (refine (K1 _).mono ?_); rintro e w1 ⟨y1, q1, cap1, rfl, own1, b1⟩; have HF1 : Hid (FA w w1 (w.heap.size + 1) (w.heap.size + 1 + 1) (finO (rs.take k)) y q cap) := (HF.out.lay _).below b1; have OWN1 : Hid (w1.ownsRow w.heap.size 52 2 (.slice y1 q1 cap1) O6.length (oC O6)) := own_base own1 (HF.out.lay _).bel.size; obtain ⟨f0, f1, f2, f3, f4, f5⟩ := HF1.out.fst.six; obtain ⟨e0, e1, e2, e3, e4, e5⟩ := HF1.out.fst.open6; clear b1 own1)
          have HF2 : Hid (FA w (set6 w1 (w.heap.size + 1 + 1) ⟨O1, O2, O3, O4, O5, O6⟩ (.slice y1 q1 cap1)) (w.heap.size + 1) (w.heap.size + 1 + 1) ⟨O1, O2, O3, O4, O5, O6⟩ y1 q1 cap1) := HF1.out.put OWN1.out
          go_roundw
          case rel => exact ⟨k + 1, 1, q1, cap1, y1, hk1, by omega, rfl, by go_num, by unfold Hid; rw [FFH.out.2], by unfold Hid; rw [FFH.out.1]; exact HF2.out⟩
          case measure => simp [intOf]; omega
        · have FFH : Hid _ := F3.out ht (by rw [← HM.out]; exact hm0)
          have hm0' : ((m : Int) == 0) = false := by simpa using hm0
          clear F1 F2 F3 K1 hm0
          go_wp2
          go_roundw
          case rel => exact ⟨k + 1, m + 1, q, cap, y, hk1, by omega, by go_num, by go_num, by unfold Hid; rw [FFH.out.2, ← HM.out], by unfold Hid; rw [FFH.out.1]; exact HF.out.lay _⟩
          case measure => simp [intOf]; omega
    · have hkn' : decide (k < n) = false := by simpa using hkn
      have hall : rs.take k = rs := List.take_of_length_le (by have := HN.out; omega)
      rw [hall] at HM HF
      obtain ⟨O, hO⟩ : ∃ O, O = finO rs := ⟨_, rfl⟩
      have HO : Hid (finO rs = O) := hO.symm
      rw [← hO] at HF
      have HM' : Hid ((finN rs : Int) = (m : Int)) := by unfold Hid; rw [HM.out]
      clear hall hO HM
      obtain ⟨O1, O2, O3, O4, O5, O6⟩ := O
      obtain ⟨f0, f1, f2, f3, f4, f5⟩ := HF.out.fst.six
      obtain ⟨k0, k1, k2, k3, k4, k5⟩ := HF.out.res.six
      obtain ⟨e0, e1, e2, e3, e4, e5⟩ := HF.out.res.open6
      simp only at f0 f1 f2 f3 f4 f5
      go_wp2
      have qt := set6_turn wr (w.heap.size + 1) ⟨O1, O2, O3, O4, O5, O6⟩ (.slice y q cap)
      have qq := set6_blk (o := ⟨O1, O2, O3, O4, O5, O6⟩) (v := .slice y q cap) HF.out.res
      have qb := set6_below HF.out.bel (Nat.le_succ _) HF.out.bel.size ⟨O1, O2, O3, O4, O5, O6⟩ (.slice y q cap)
      have qo := qt.row HF.out.row (fun k hk e => own_sep HF.out.row HF.out.res (by decide) (by rw [hk, e]))
      change bodyPost Try.prog Try.f13 _ _ _ (set6 wr (w.heap.size + 1) ⟨O1, O2, O3, O4, O5, O6⟩ (.slice y q cap))
      clear qt
      revert qq qb qo
      generalize set6 wr (w.heap.size + 1) ⟨O1, O2, O3, O4, O5, O6⟩ (.slice y q cap) = W
      intro qq qb qo
      obtain ⟨q0, q1, q2, q3, q4, q5⟩ := qq.six
      refine bodyPost_ret (v := .tuple #[.agg (optC ⟨O1, O2, O3, O4, O5, O6⟩ (.slice y q cap)), .int .i64 (m : Int)]) (by simp [results, Try.results13, go_sem, q0, q1, q2, q3, q4, q5, optC]) rfl ?_
      rw [HM'.out, HO.out]
      exact ⟨_, _, _, rfl, qo, qb⟩

end Go.Proofs.Ytehldafdjldpbaa
