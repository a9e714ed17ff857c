/- What the document's FindOpt gives. -/
import Derived.Test.YtcapankhobnfeaaXOpR
import Derived.Test.YtcapankhobnfeaaXOpG
namespace Go.Proofs.Ytcapankhobnfeaa
open Go.RowKit

/-- What FindOpt holds: the message besides. -/
structure FB (w w' : World) (M : Array Value) (O : Ot) (y : Option Addr) (n cap : Nat) : Prop where
  f : FA w w' (w.heap.size + 1) (w.heap.size + 1 + 1) O y n cap
  msg : Blk w' w.heap.size M 29
theorem FB.below {w a b : World} {M : Array Value} {O : Ot} {y : Option Addr} {n cap : Nat} (h : FB w a M O y n cap) (hb : Below a.heap.size a b) : FB w b M O y n cap := ⟨h.f.below hb, h.msg.below hb⟩
theorem FB.lay {w a : World} {M : Array Value} {O : Ot} {y : Option Addr} {n cap : Nat} (h : FB w a M O y n cap) (o : Obj) : FB w (a.alloc o) M O y n cap := h.below ((Below.refl _ _).alloc (Nat.le_refl _) o)
theorem FB.put {w a : World} {M : Array Value} {O O' : Ot} {y y' : Option Addr} {n cap n' cap' : Nat} (h : FB w a M O y n cap) (hr : a.ownsRow w.heap.size 56 2 (.slice y' n' cap') O'.os.length (oC O'.os)) : FB w (set6 a (w.heap.size + 1 + 1) O' (.slice y' n' cap')) M O' y' n' cap' :=
  ⟨h.f.put hr, (set6_turn a (w.heap.size + 1 + 1) O' (.slice y' n' cap')).blk h.msg (by omega)⟩

set_option maxRecDepth 20000 in
set_option maxHeartbeats 2000000 in
theorem refFind_any (h : Hd) (v0 v1 v2 v : Value) (rs : List Rc) (w : World) (hr : RRow w v rs) : Calls Try.prog 22 #[.agg (msgC h v0 v1 v2 v)] w (GetOP w (finO rs) (finN rs : Int)) := by
  obtain ⟨n, hn⟩ : ∃ n, n = rs.length := ⟨_, rfl⟩
  have hmax := hr.2.1
  rw [← hn] at hmax
  unfold maxLen at hmax
  have HN : Hid (n = rs.length) := hn
  obtain ⟨x, c, hv⟩ := row_slice hr.1
  rw [← hn] at hv
  subst hv
  have HR : Hid (RRow w (.slice x n c) rs) := hr
  clear hr hn
  obtain ⟨KB, KC, hb⟩ := find_blks w (msgC h v0 v1 v2 (.slice x n c))
  have HF : Hid (FB w _ (msgC h v0 v1 v2 (.slice x n c)) otZ none 0 0) := ⟨⟨KB, KC, World.ownsRow_nil _ _ _ _, hb, by omega, by omega⟩, ((Blk.new w _ _).alloc _).alloc _⟩
  obtain ⟨M, hM⟩ : ∃ M, M = msgC h v0 v1 v2 (.slice x n c) := ⟨_, rfl⟩
  have HM12 : Hid (M[12]? = some (.slice x n c)) := by unfold Hid; rw [hM]; rfl
  have HF' : Hid (FB w (((w.alloc (.cells (msgC h v0 v1 v2 (.slice x n c)) 29)).alloc (.cells (optC otZ (.slice none 0 0)) 50)).alloc (.cells (optC otZ (.slice none 0 0)) 50)) M otZ none 0 0) := by unfold Hid; rw [hM]; exact HF.out
  clear KB KC hb HF hM
  unfold msgC at HF' ⊢
  go_enter Try.func22, Try.ntmps22
  go_wp2
  go_loopw [4, 6] (fun cn i wr => ∃ (k m q cap : Nat) (y : Option Addr), k ≤ n ∧ m ≤ k ∧ cn = .int .i64 (m : Int) ∧ i = .int .i64 (k : Int) ∧ Hid (m = finN (rs.take k)) ∧ Hid (FB w wr M (finO (rs.take k)) y q cap)) (fun _ i _ => n - (intOf i).toNat)
  case atStart => exact ⟨0, 0, 0, 0, none, Nat.zero_le _, Nat.zero_le _, rfl, rfl, rfl, HF'⟩
  case round =>
    clear HF'
    obtain ⟨k, m, q, cap, y, hk, hmk, rfl, rfl, HM, HF⟩ := hrel
    have a12 : wr.cell? ⟨w.heap.size, 12, none⟩ = some (.slice x n c) := (HF.out.msg.cell 12).trans HM12.out
    by_cases hkn : k < n
    · have hkn' : (k : Int) < (n : Int) := by omega
      have hkm : k < rs.length := by have := HN.out; omega
      obtain ⟨g, o, cp, hx, hc⟩ := row_at (HR.out.below HF.out.f.bel).1 (by omega)
      simp only [Value.slice.injEq] at hx
      obtain ⟨rfl, -, rfl⟩ := hx
      obtain ⟨d0, d1, d2, d3, d4⟩ := r_cells hc hkm
      have hmax2 := (HR.out.2.2 _ (List.getElem_mem hkm)).2
      have F1 : Hid ((rs[k].t == 41) = false → finO (rs.take (k + 1)) = finO (rs.take k) ∧ finN (rs.take (k + 1)) = finN (rs.take k)) := fin_other hkm
      have F2 : Hid ((rs[k].t == 41) = true → finN (rs.take k) = 0 → finO (rs.take (k + 1)) = getO rs[k] ∧ finN (rs.take (k + 1)) = 1) := fin_first hkm
      have F3 : Hid ((rs[k].t == 41) = true → finN (rs.take k) ≠ 0 → finO (rs.take (k + 1)) = finO (rs.take k) ∧ finN (rs.take (k + 1)) = finN (rs.take k) + 1) := fin_next hkm
      have K1 := fun u => refGetO_any rs[k] u hmax2
      obtain ⟨r, hr⟩ : ∃ r, r = rs[k] := ⟨_, rfl⟩
      simp only [← hr] at d0 d1 d2 d3 d4 F1 F2 F3 K1
      obtain ⟨rn, rt, rc, rl, rd⟩ := r
      simp only at d0 d1 d2 d3 d4 F1 F2 F3
      unfold rrC at K1
      simp only at K1
      have hk1 : k + 1 ≤ n := hkn
      clear hc hr hmax2
      cases ht : (rt == 41) with
      | false =>
        have FFH : Hid _ := F1.out ht
        clear F1 F2 F3 K1
        go_wp2
        go_roundw
        case rel => exact ⟨k + 1, m, q, cap, y, hk1, by omega, rfl, by go_num, by unfold Hid; rw [FFH.out.2]; exact HM.out, by unfold Hid; rw [FFH.out.1]; exact HF.out⟩
        case measure => simp [intOf]; omega
      | true =>
        by_cases hm0 : m = 0
        · have FFH : Hid _ := F2.out ht (by rw [← HM.out]; exact hm0)
          clear F1 F2 F3
          subst hm0
          obtain ⟨O, hO⟩ : ∃ O, O = getO ⟨rn, rt, rc, rl, rd⟩ := ⟨_, rfl⟩
          obtain ⟨E, hE⟩ : ∃ E, E = getE ⟨rn, rt, rc, rl, rd⟩ := ⟨_, rfl⟩
          rw [← hO] at K1 FFH
          rw [← hE] at K1
          clear hO hE
          obtain ⟨O1, O2, O3, O4, O5, O6⟩ := O
          unfold GetOP optC at K1
          simp only at K1
          go_wp2_with (go_at_call 21; go_must (refine (K1 _).mono ?_); rintro e w1 ⟨y1, q1, cap1, rfl, own1, b1⟩; have HF1 : Hid (FB w (w1.alloc (.cells #[.int .i64 O1, .int .i64 O2, .int .i64 O3, .bool O4, .int .i64 O5, .slice y1 q1 cap1] 50)) M (finO (rs.take k)) y q cap) := (HF.out.below b1).lay _; have OWN1 : Hid ((w1.alloc (.cells #[.int .i64 O1, .int .i64 O2, .int .i64 O3, .bool O4, .int .i64 O5, .slice y1 q1 cap1] 50)).ownsRow w.heap.size 56 2 (.slice y1 q1 cap1) O6.length (oC O6)) := own_base (own1.alloc _) HF.out.f.bel.size; obtain ⟨f0, f1, f2, f3, f4, f5⟩ := HF1.out.f.fst.six; obtain ⟨e0, e1, e2, e3, e4, e5⟩ := HF1.out.f.fst.open6; clear b1 own1)
          have HF2 : Hid (FB w (set6 (w1.alloc (.cells #[.int .i64 O1, .int .i64 O2, .int .i64 O3, .bool O4, .int .i64 O5, .slice y1 q1 cap1] 50)) (w.heap.size + 1 + 1) ⟨O1, O2, O3, O4, O5, O6⟩ (.slice y1 q1 cap1)) M ⟨O1, O2, O3, O4, O5, O6⟩ y1 q1 cap1) := HF1.out.put OWN1.out
          go_roundw
          case rel => exact ⟨k + 1, 1, q1, cap1, y1, hk1, by omega, rfl, by go_num, by unfold Hid; rw [FFH.out.2], by unfold Hid; rw [FFH.out.1]; exact HF2.out⟩
          case measure => simp [intOf]; omega
        · have FFH : Hid _ := F3.out ht (by rw [← HM.out]; exact hm0)
          have hm0' : ((m : Int) == 0) = false := by simpa using hm0
          clear F1 F2 F3 K1 hm0
          go_wp2
          go_roundw
          case rel => exact ⟨k + 1, m + 1, q, cap, y, hk1, by omega, by go_num, by go_num, by unfold Hid; rw [FFH.out.2, ← HM.out], by unfold Hid; rw [FFH.out.1]; exact HF.out⟩
          case measure => simp [intOf]; omega
    · have hkn' : decide (k < n) = false := by simpa using hkn
      have hall : rs.take k = rs := List.take_of_length_le (by have := HN.out; omega)
      rw [hall] at HM HF
      obtain ⟨O, hO⟩ : ∃ O, O = finO rs := ⟨_, rfl⟩
      have HO : Hid (finO rs = O) := hO.symm
      rw [← hO] at HF
      have HM' : Hid ((finN rs : Int) = (m : Int)) := by unfold Hid; rw [HM.out]
      clear hall hO HM
      obtain ⟨O1, O2, O3, O4, O5, O6⟩ := O
      obtain ⟨f0, f1, f2, f3, f4, f5⟩ := HF.out.f.fst.six
      obtain ⟨k0, k1, k2, k3, k4, k5⟩ := HF.out.f.res.six
      obtain ⟨e0, e1, e2, e3, e4, e5⟩ := HF.out.f.res.open6
      simp only at f0 f1 f2 f3 f4 f5
      go_wp2
      have qt := set6_turn wr (w.heap.size + 1) ⟨O1, O2, O3, O4, O5, O6⟩ (.slice y q cap)
      have qq := set6_blk (o := ⟨O1, O2, O3, O4, O5, O6⟩) (v := .slice y q cap) HF.out.f.res
      have qb := set6_below HF.out.f.bel (Nat.le_succ _) HF.out.f.bel.size ⟨O1, O2, O3, O4, O5, O6⟩ (.slice y q cap)
      have qo := qt.row HF.out.f.row (fun k hk e => own_sep HF.out.f.row HF.out.f.res (by decide) (by rw [hk, e]))
      change bodyPost Try.prog Try.f22 _ _ _ (set6 wr (w.heap.size + 1) ⟨O1, O2, O3, O4, O5, O6⟩ (.slice y q cap))
      clear qt
      revert qq qb qo
      generalize set6 wr (w.heap.size + 1) ⟨O1, O2, O3, O4, O5, O6⟩ (.slice y q cap) = W
      intro qq qb qo
      obtain ⟨q0, q1, q2, q3, q4, q5⟩ := qq.six
      refine bodyPost_ret (v := .tuple #[.agg (optC ⟨O1, O2, O3, O4, O5, O6⟩ (.slice y q cap)), .int .i64 (m : Int)]) (by simp [results, Try.results22, go_sem, q0, q1, q2, q3, q4, q5, optC]) rfl ?_
      rw [HM'.out, HO.out]
      exact ⟨_, _, _, rfl, qo, qb⟩

end Go.Proofs.Ytcapankhobnfeaa
