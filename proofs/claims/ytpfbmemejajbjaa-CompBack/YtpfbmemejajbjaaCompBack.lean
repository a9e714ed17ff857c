/- CompBack holds: for every row of strings and every string, names that were written are read again, each at its place. -/
import Derived.Test.YtpfbmemejajbjaaCpN
import Derived.Test.YtpfbmemejajbjaaCpO
namespace Go.Proofs.Ytpfbmemejajbjaa.compBack
open Go.ChangeShapes Go.WideShapes Go.ChangeAt Go.RowKit
open Go.ChangeMaps (open_string shut_string)
open Pl

theorem row_below {w w' : World} {base e z n : Nat} {v : Value} {xs : List Value} (h : w.ownsRow base e z v n xs) (hb : Below w.heap.size w w') : w'.ownsRow base e z v n xs := Turn.row (S := fun _ => False) (Turn.of_below hb) h (fun _ _ => id)
/-- Rows of two types do not lie in one block. -/
theorem row_apart {w : World} {b1 b2 e1 e2 z1 z2 n1 n2 : Nat} {v1 v2 : Value} {xs ys : List Value} (h1 : w.ownsRow b1 e1 z1 v1 n1 xs) (h2 : w.ownsRow b2 e2 z2 v2 n2 ys) (hne : e1 ≠ e2) : v2.ownBlock = none ∨ v2.ownBlock ≠ v1.ownBlock := by
  rcases h2.2 with ⟨a, _⟩ | ⟨g, cap, cur, a, _, hg, _⟩
  · rw [a]; exact .inl rfl
  · refine .inr fun e => ?_
    rcases h1.2 with ⟨b, _⟩ | ⟨g', cap', cur', b, _, hg', _⟩
    · rw [a, b] at e; simp [Value.ownBlock] at e
    · rw [a, b] at e
      simp [Value.ownBlock] at e
      subst e
      rw [hg] at hg'
      simp at hg'
      exact hne hg'.2.symm

theorem ap39 {w : World} {b1 b2 n1 n2 : Nat} {v1 v2 : Value} {xs ys : List Value} (h1 : w.ownsRow b1 9 1 v1 n1 xs) (h2 : w.ownsRow b2 3 1 v2 n2 ys) : v2.ownBlock = none ∨ v2.ownBlock ≠ v1.ownBlock := row_apart h1 h2 (by decide)
theorem ap93 {w : World} {b1 b2 n1 n2 : Nat} {v1 v2 : Value} {xs ys : List Value} (h1 : w.ownsRow b1 3 1 v1 n1 xs) (h2 : w.ownsRow b2 9 1 v2 n2 ys) : v2.ownBlock = none ∨ v2.ownBlock ≠ v1.ownBlock := row_apart h1 h2 (by decide)
theorem holds9 {w0 w w' : World} {g n : Nat} {B : List UInt8} {ms : Marks} {v : Value} {xs : List Value} (h : Holds w0 w g B ms) (ho : w.ownsRow w0.heap.size 9 1 v n xs) (hg : w.grownBy w' v.ownBlock) : Holds w0 w' g B ms := h.grown ho (Nat.le_refl _) (by decide) (by decide) hg
theorem holds3 {w0 w w' : World} {g n : Nat} {B : List UInt8} {ms : Marks} {v : Value} {xs : List Value} (h : Holds w0 w g B ms) (ho : w.ownsRow w0.heap.size 3 1 v n xs) (hg : w.grownBy w' v.ownBlock) : Holds w0 w' g B ms := h.grown ho (Nat.le_refl _) (by decide) (by decide) hg
theorem beside3 {w w' : World} {base n : Nat} {v : Value} {xs : List Value} (h : Beside w w') (ho : w.ownsRow base 3 1 v n xs) : w'.ownsRow base 3 1 v n xs := h.row ho (by decide) (by decide)
theorem beside9 {w w' : World} {base n : Nat} {v : Value} {xs : List Value} (h : Beside w w') (ho : w.ownsRow base 9 1 v n xs) : w'.ownsRow base 9 1 v n xs := h.row ho (by decide) (by decide)

/-- What is held at the loop's head: a Writer, the places and the names that it has written. -/
def Bs (w wr : World) (g : Nat) (av kv : Value) (n : Nat) (qs : List Nat) (ks : List ByteArray) (B : List UInt8) (ms : Marks) (j : Nat) : Prop :=
  wr.ownsRow w.heap.size 3 1 av n (qs.map iv) ∧ wr.ownsRow w.heap.size 9 1 kv n (ks.map Value.string) ∧ (n = 0 → kv = .slice none 0 0) ∧ qs.length = n ∧ ks.length = n ∧ Holds w wr g B ms ∧ B.length ≤ 500 + 255 * j ∧ Bk B ms qs (ks.map fun k => k.data.toList)

section
variable {w wr wq : World} {g n j j' : Nat} {av kv : Value} {qs : List Nat} {ks : List ByteArray} {B : List UInt8} {ms : Marks}
theorem Bs.below (h : Bs w wr g av kv n qs ks B ms j) (hb : Below wr.heap.size wr wq) (hj : j ≤ j') : Bs w wq g av kv n qs ks B ms j' := by
  obtain ⟨h1, h2, h3, h4, h5, h6, h7, h8⟩ := h
  exact ⟨row_below h1 hb, row_below h2 hb, h3, h4, h5, h6.below hb, by omega, h8⟩
theorem Bs.out (h : Bs w wr g av kv n qs ks B ms j) : Below w.heap.size w wr := h.2.2.2.2.2.1.out
theorem Bs.holds (h : Bs w wr g av kv n qs ks B ms j) : Holds w wr g B ms := h.2.2.2.2.2.1
end
theorem map_snoc (qs : List Nat) (p : Nat) : (qs ++ [p]).map iv = qs.map iv ++ [.int .i64 (p : Int)] := by simp [iv]
theorem row_int {w : World} {base n g c : Nat} {qs : List Nat} (h : w.ownsRow base 3 1 (.slice (some ⟨g, 0, none⟩) n c) n (qs.map iv)) (k : Nat) (hk : k < n) : w.cell? ⟨g, k, none⟩ = some (.int .i64 (qs.getD k 0 : Int)) := by
  have hl : k < qs.length := by have := h.1; simp at this; omega
  rw [h.cellAt k (by omega), List.getElem?_map, List.getElem?_eq_getElem hl, List.getD_eq_getElem?_getD, List.getElem?_eq_getElem hl]
  rfl
theorem row_str {w : World} {base n g c : Nat} {ks : List ByteArray} (h : w.ownsRow base 9 1 (.slice (some ⟨g, 0, none⟩) n c) n (ks.map Value.string)) (k : Nat) (hk : k < n) : w.cell? ⟨g, k, none⟩ = some (.string (ks.getD k ⟨#[]⟩)) := by
  have hl : k < ks.length := by have := h.1; simp at this; omega
  rw [h.cellAt k (by omega), List.getElem?_map, List.getElem?_eq_getElem hl, List.getD_eq_getElem?_getD, List.getElem?_eq_getElem hl]
  rfl

set_option maxRecDepth 20000 in
set_option maxHeartbeats 4000000 in
theorem walk0 (x0 : Option Addr) (N cap0 M : Nat) (ns : List ByteArray) (s : ByteArray) (w : World) (hN : N ≤ maxLen) (hM : M = min N 12) (hc : ∀ i, i < N → ∃ ad, x0 = some ad ∧ w.cell? (ad.add i) = some (.string (ns.getD i ⟨#[]⟩))) (hsz : ∀ i, i < N → (ns.getD i ⟨#[]⟩).size ≤ maxLen) (hs : s.size ≤ maxLen) :
    Calls Try.prog 5 #[.slice x0 N cap0, .string s] w fun e w' => e = .returned (.bool true) ∧ Below w.heap.size w w' := by
  unfold maxLen at hN
  have hsl := data_len s
  have hb : Below w.heap.size w w := Below.refl _ _
  by_cases h500 : (500 : Int) < (s.size : Int)
  · unfold maxLen at hs
    go_enter Try.func5, Try.ntmps5
    go_wp2_with (first
      | (go_at_call 14; go_must (refine (awake_any _).mono ?_); rintro e w0 ⟨rfl, b0⟩; replace hb := next hb b0; clear b0))
    go_ret
    exact ⟨rfl, hb⟩
  have h500' : decide ((500 : Int) < (s.size : Int)) = false := by simpa using h500
  have hs5 : s.size ≤ 500 := by omega
  have HC : Hid (∀ i, i < M → ∃ ad, x0 = some ad ∧ ∀ u, Below w.heap.size w u → u.cell? (ad.add i) = some (.string (ns.getD i ⟨#[]⟩))) := fun i hi => by
    obtain ⟨ad, h0, h1⟩ := hc i (by omega)
    refine ⟨ad, h0, fun u hu => ?_⟩
    rw [hu.cell (World.block_lt_of_cell? _ _ h1), h1]
  have HSZ : Hid (∀ i, i < M → (ns.getD i ⟨#[]⟩).size ≤ maxLen) := fun i hi => hsz i (by omega)
  have hMN : M ≤ N := by omega
  have hM12 : M ≤ 12 := by omega
  have HE : Hid (∀ j, j ≤ M → ¬ j < M → decide (j < N) = false ∨ (j < N ∧ decide ((j : Int) < 12) = false)) := fun j h1 h2 => by
    by_cases h3 : j < N
    · exact .inr ⟨h3, by simp; omega⟩
    · exact .inl (by simp; omega)
  have HRW : Hid (rawE [] s = 0 ∧ rawB [] s = s.data.toList) := by unfold Hid rawE rawB; rw [if_pos (by simp; omega), if_pos (by simp; omega)]; exact ⟨rfl, rfl⟩
  have HSL : Hid (s.data.toList.length ≤ 500) := by unfold Hid; omega
  clear hc hM hsz h500 hsl
  go_enter Try.func5, Try.ntmps5
  go_wp2_with (first
    | (go_at_call 14; go_must (refine (awake_any _).mono ?_); rintro e w0 ⟨rfl, b0⟩; replace hb := next hb b0; clear b0)
    | (go_at_call 15; go_must (refine (new_h w _ hb).mono ?_); rintro e w1 ⟨g, rfl, h1, _⟩; have H1 : Hid (Holds w w1 g [] []) := h1; clear h1 hb)
    | (go_at_call 16; go_must (refine (raw_k s hs H1.out HRW.out.1 HRW.out.2).mono ?_); rintro e w2 ⟨rfl, h1, _⟩; have H2 : Hid (Holds w w2 g s.data.toList []) := h1; clear h1 H1))
  go_loopw [6, 7, 8] (fun av kv i wr => ∃ (j n c1 c2 : Nat) (y1 y2 : Option Addr) (qs : List Nat) (ks : List ByteArray) (B : List UInt8) (ms : Marks), j ≤ M ∧ n ≤ j ∧ av = .slice y1 n c1 ∧ kv = .slice y2 n c2 ∧ i = .int .i64 (j : Int) ∧ Hid (Bs w wr g (.slice y1 n c1) (.slice y2 n c2) n qs ks B ms j)) (fun _ _ i _ => M - (intOf i).toNat)
  case atStart => exact ⟨0, 0, 0, 0, none, none, [], [], _, [], Nat.zero_le _, Nat.le_refl _, rfl, rfl, rfl, World.ownsRow_nil _ _ _ _, World.ownsRow_nil _ _ _ _, fun _ => rfl, rfl, rfl, H2.out, by have := HSL.out; omega, bk_start _⟩
  case round =>
    clear H2
    obtain ⟨j, n, c1, c2, y1, y2, qs, ks, B, ms, hj, hnj, rfl, rfl, rfl, HT⟩ := hrel
    by_cases hjM : j < M
    · obtain ⟨ad, rfl, hcu⟩ := HC.out j hjM
      have HCU : Hid (∀ u, Below w.heap.size w u → u.cell? (ad.add j) = some (.string (ns.getD j ⟨#[]⟩))) := hcu
      have hjN : j < N := by omega
      have hj12 : (j : Int) < 12 := by omega
      have hn12 : n ≤ 12 := by omega
      have hcell := hcu wr HT.out.out
      have hxs := HSZ.out j hjM
      obtain ⟨x, hx⟩ : ∃ x, ns.getD j ⟨#[]⟩ = x := ⟨_, rfl⟩
      rw [hx] at hcell hxs HCU
      have HXS : Hid (x.size ≤ maxLen) := hxs
      clear hx hxs hcu
      cases hnm : isName x.data.toList with
      | false =>
        have HNM : Hid (isName x.data.toList = false) := hnm
        clear hnm
        go_wp2_with (first
          | (go_at_call 22; go_must (refine (refMay_at x false _ HXS.out HNM.out).mono ?_); rintro e w1 ⟨rfl, b1⟩))
        go_roundw
        case rel => exact ⟨j + 1, n, c1, c2, y1, y2, qs, ks, B, ms, by omega, by omega, rfl, rfl, by go_num, HT.out.below b1 (by omega)⟩
        case measure => simp [intOf]; omega
      | true =>
        have HNM : Hid (isName x.data.toList = true) := hnm
        have hB : B.length ≤ 500 + 255 * j := HT.out.2.2.2.2.2.2.1
        obtain ⟨a1, a2, a3, a4⟩ := nam_fits (B := B) (ms := ms) hnm (by omega)
        have hsz := siz_le (ms := ms) hnm
        have hx255 := (name_some hnm).1
        have hxl := data_len x
        obtain ⟨z, hz⟩ : ∃ z, z = sizW ms x.data.toList := ⟨_, rfl⟩
        obtain ⟨LB, hLB⟩ : ∃ LB, LB = B.length := ⟨_, rfl⟩
        obtain ⟨Z1, hZ1⟩ : ∃ Z : ByteArray, Z.data.toList = B := ⟨⟨B.toArray⟩, rfl⟩
        obtain ⟨Z2, hZ2⟩ : ∃ Z : ByteArray, Z.data.toList = outW B ms x.data.toList := ⟨⟨(outW B ms x.data.toList).toArray⟩, rfl⟩
        have s1 : (Z1.size : Int) = (LB : Int) := by rw [← data_len, hZ1, hLB]
        have s2 : (Z2.size : Int) = (LB : Int) + (z : Int) := by rw [← data_len, hZ2, ← a3, a2, hLB, hz]; omega
        have hLB2 : LB ≤ 500 + 255 * j := by omega
        rw [← hz] at hsz
        have hz2 : z ≤ 255 := by omega
        have q1 : IntKind.i64.wrap ((LB : Int) + (z : Int) - (LB : Int)) = (z : Int) := by rw [IntKind.wrap_i64]; omega
        have q2 : decide ((x.size : Int) < (z : Int)) = false := by simp; omega
        have q3 : decide (x.size < z) = false := by simp; omega
        have hn1000 : n + 1 ≤ 1000 := by omega
        have q4 : IntKind.i64.wrap ((n : Int) + 1 - 1) = (n : Int) := by rw [IntKind.wrap_i64]; omega
        have HL : Hid ((outW B ms x.data.toList).length = B.length + sizW ms x.data.toList) := by unfold Hid; rw [← a3, a2]
        have HZL : Hid (LB = B.length ∧ B.length ≤ 16384 ∧ z ≤ 255 ∧ z = sizW ms x.data.toList) := ⟨hLB, by omega, hz2, hz⟩
        have HA : Hid (namE B ms x.data.toList = 0 ∧ namB B ms x.data.toList = outW B ms x.data.toList ∧ namM B ms x.data.toList = marW B ms x.data.toList) := ⟨a1, a3, a4⟩
        have HZ1 : Hid (Z1.data.toList = B) := hZ1
        have HZ2 : Hid (Z2.data.toList = outW B ms x.data.toList) := hZ2
        clear a1 a2 a3 a4 hnm hz hLB hZ1 hZ2 hB hx255 hxl
        go_wp2_with (first
          | (go_at_call 22; go_must (refine (refMay_at x true _ HXS.out HNM.out).mono ?_); rintro e w1 ⟨rfl, b1⟩; have HT1 : Hid (Bs w w1 g (.slice y1 n c1) (.slice y2 n c2) n qs ks B ms j) := HT.out.below b1 (Nat.le_refl _); clear b1 HT hcell)
          | (go_at_call 20; have _t := HZ1; go_must (refine (all_k HT1.out.holds HZ1.out).mono ?_); rintro e w' ⟨rfl, hw'⟩; obtain rfl := hw'.symm; clear _t HZ1)
          | (at_builtin; refine wpList_appI rfl (.tmp 40) (.tmp 44) rfl w1 [.int .i64 (LB : Int)] rfl w.heap.size (.slice y1 n c1) n _ rfl HT1.out.1 rfl (by simp) (by simp) (by simp; omega) HT1.out.out.size ?_; intro ga ca w2 own2 grow2 at2 lt2; have A2 : Hid (w2.ownsRow w.heap.size 3 1 (.slice (some ⟨ga, 0, none⟩) (n + 1) ca) (n + 1) ((qs ++ [LB]).map iv)) := (by rw [map_snoc]; exact own2); have K2 : Hid (w2.ownsRow w.heap.size 9 1 (.slice y2 n c2) n (ks.map Value.string)) := HT1.out.2.1.kept grow2 (ap93 HT1.out.1 HT1.out.2.1); have H2 : Hid (Holds w w2 g B ms) := holds3 HT1.out.holds HT1.out.1 grow2; have hcell2 := HCU.out w2 H2.out.out; clear own2 grow2 at2 lt2)
          | (at_builtin; (refine wpList_appS _ rfl (.tmp 46) (.tmp 51) rfl w.heap.size (.slice y2 n c2) n ks rfl (K2.out.alloc (Obj.cells #[Value.string x] 9)) HT1.out.2.2.1 (some ⟨w2.heap.size, 0, none⟩) 1 1 [x] rfl rfl (.inr ⟨_, rfl, one_cell w2 x⟩) hn1000 (lay H2.out.out (Obj.cells #[Value.string x] 9)).size ?_); intro v3 w3 own3 nil3 grow3 at3; obtain ⟨y3, k3, rfl⟩ := row_shape own3; have A3 : Hid (w3.ownsRow w.heap.size 3 1 (.slice (some ⟨ga, 0, none⟩) (n + 1) ca) (n + 1) ((qs ++ [LB]).map iv)) := (A2.out.alloc (Obj.cells #[Value.string x] 9)).kept grow3 (ap39 (K2.out.alloc (Obj.cells #[Value.string x] 9)) (A2.out.alloc (Obj.cells #[Value.string x] 9))); have K3 : Hid (w3.ownsRow w.heap.size 9 1 (.slice y3 (n + 1) k3) (n + 1) ((ks ++ [x]).map Value.string)) := own3; have H3 : Hid (Holds w w3 g B ms) := holds9 (H2.out.alloc (Obj.cells #[Value.string x] 9)) (K2.out.alloc (Obj.cells #[Value.string x] 9)) grow3; have hcell3 := HCU.out w3 H3.out.out; clear own3 nil3 grow3 at3 A2 K2 H2 hcell2)
          | (go_at_call 18; go_must (refine (name_k x HXS.out H3.out HA.out.1 HA.out.2.1 HA.out.2.2).mono ?_); rintro e w4 ⟨rfl, h4, be4⟩; have H4 : Hid (Holds w w4 g (outW B ms x.data.toList) (marW B ms x.data.toList)) := h4; have A4 : Hid (w4.ownsRow w.heap.size 3 1 (.slice (some ⟨ga, 0, none⟩) (n + 1) ca) (n + 1) ((qs ++ [LB]).map iv)) := beside3 be4 A3.out; have K4 : Hid (w4.ownsRow w.heap.size 9 1 (.slice y3 (n + 1) k3) (n + 1) ((ks ++ [x]).map Value.string)) := beside9 be4 K3.out; clear h4 be4 A3 K3 H3 hcell3))
        have HQL : Hid (qs.length = n) := HT1.out.2.2.2.1
        have cat : w4.cell? ⟨ga, n, none⟩ = some (.int .i64 (LB : Int)) := by
          have := row_int A4.out n (by omega)
          rw [getD_at qs [LB] n 0 HQL.out.symm] at this
          exact this
        have hcell4 := HCU.out w4 H4.out.out
        have hgen : ∃ W, W = w4 := ⟨_, rfl⟩
        go_quiet (first
          | (go_at_call 13; exact Calls.quiet_of_same (num_any _ _))
          | (go_at_call 20; exact Calls.quiet_of_same (all_k (H4.out.below (below_drew ⟨_, rfl⟩)) HZ2.out)))
        go_wp2
        go_roundw
        case rel =>
          refine ⟨j + 1, n + 1, ca, k3, some ⟨ga, 0, none⟩, y3, qs ++ [LB], ks ++ [x], outW B ms x.data.toList, marW B ms x.data.toList, by omega, by omega, rfl, rfl, by go_num, ?_⟩
          obtain ⟨hz1, hz3, hz4, hz5⟩ := HZL.out
          have hT := HT1.out
          refine ⟨row_below A4.out (below_drew ⟨_, rfl⟩), row_below K4.out (below_drew ⟨_, rfl⟩), fun e => by omega, by rw [List.length_append, HQL.out]; rfl, by rw [List.length_append, hT.2.2.2.2.1]; rfl, H4.out.below (below_drew ⟨_, rfl⟩), by rw [HL.out]; have := hT.2.2.2.2.2.2.1; omega, ?_⟩
          have := bk_next hT.2.2.2.2.2.2.2 HNM.out hz3 HL.out
          rw [hz1, List.map_append]
          exact this
        case measure => simp [intOf]; omega
    · have he := HE.out j hj hjM
      have hn12 : n ≤ 12 := by omega
      have hB : B.length ≤ 500 + 255 * j := HT.out.2.2.2.2.2.2.1
      obtain ⟨LB, hLB⟩ : ∃ LB, LB = B.length := ⟨_, rfl⟩
      obtain ⟨Z, hZ⟩ : ∃ Z : ByteArray, Z.data.toList = B := ⟨⟨B.toArray⟩, rfl⟩
      have s1 : (Z.size : Int) = (LB : Int) := by rw [← data_len, hZ, hLB]
      have hZs : Z.size ≤ 140737488355328 := by rw [← data_len, hZ]; omega
      have HZ : Hid (Z.data.toList = B) := hZ
      have HLB : Hid (LB = B.length) := hLB
      have hLBn : LB ≤ 10000 := by omega
      clear hjM hj hnj hZ hLB hB
      rcases he with he | ⟨he, he2⟩
      all_goals
        go_wp2_with (first
          | (go_at_call 20; go_must (refine (all_k HT.out.holds HZ.out).mono ?_); rintro e w' ⟨rfl, hw'⟩; obtain rfl := hw'.symm)
          | (at_builtin; refine wpList_appI rfl (.tmp 82) (.tmp 85) rfl wr [.int .i64 (LB : Int)] rfl w.heap.size (.slice y1 n c1) n _ rfl HT.out.1 rfl (by simp) (by simp) (by simp; omega) HT.out.out.size ?_; intro ga ca w2 own2 grow2 at2 lt2; have A2 : Hid (w2.ownsRow w.heap.size 3 1 (.slice (some ⟨ga, 0, none⟩) (n + 1) ca) (n + 1) ((qs ++ [LB]).map iv)) := (by rw [map_snoc]; exact own2); have K2 : Hid (w2.ownsRow w.heap.size 9 1 (.slice y2 n c2) n (ks.map Value.string)) := HT.out.2.1.kept grow2 (ap93 HT.out.1 HT.out.2.1); have H2 : Hid (Holds w w2 g B ms) := holds3 HT.out.holds HT.out.1 grow2; clear own2 grow2 at2 lt2))
        go_loopw [11] (fun i wq => ∃ p : Nat, p ≤ n ∧ i = .int .i64 (p : Int) ∧ Hid (Below w2.heap.size w2 wq)) (fun i _ => n - (intOf i).toNat)
        case atStart => exact ⟨0, Nat.zero_le _, rfl, Below.refl _ _⟩
        case round =>
          obtain ⟨p, hp, rfl, HB⟩ := hrel
          by_cases hpn : p < n
          · obtain ⟨gk, rfl⟩ := row_some K2.out (by omega)
            have hpn' : (p : Int) < (n : Int) := by omega
            have hpn1 : (p : Int) < (n : Int) + 1 := by omega
            have hpn2 : (p : Int) + 1 < (n : Int) + 1 := by omega
            have HKL : Hid (ks.length = n) := HT.out.2.2.2.2.1
            have HQL : Hid (qs.length = n) := HT.out.2.2.2.1
            have hks : p < ks.length := by have := HKL.out; omega
            have hrd := bk_read HT.out.2.2.2.2.2.2.2 (i := p) (by rw [List.length_map]; exact hks)
            obtain ⟨K, hK⟩ : ∃ K, K = ks.getD p ⟨#[]⟩ := ⟨_, rfl⟩
            have hkk : (ks.map fun k => k.data.toList).getD p [] = K.data.toList := by
              rw [hK, List.getD_eq_getElem?_getD, List.getElem?_map, List.getD_eq_getElem?_getD, List.getElem?_eq_getElem hks]; rfl
            rw [hkk, ← HZ.out] at hrd
            obtain ⟨b, hb⟩ : ∃ b, b = (qs ++ [LB]).getD (p + 1) 0 := ⟨_, rfl⟩
            obtain ⟨a, ha⟩ : ∃ a, a = qs.getD p 0 := ⟨_, rfl⟩
            have hb' : (qs ++ [Z.data.toList.length]).getD (p + 1) 0 = b := by rw [hb, HLB.out, HZ.out]
            rw [hb', ← ha] at hrd
            have HRD : Hid (nameOf Z.data.toList a = some (K.data.toList, b)) := hrd
            have hcall : ∀ u, Calls Try.prog 9 #[.string Z, .int .i64 (a : Int)] u fun e w' => e = .returned (.tuple #[.string K, .int .i64 (b : Int), .int .i64 0]) ∧ Below u.heap.size u w' := fun u => cName_as Z a _ u hZs HRD.out
            have ck : ∀ u, Below w2.heap.size w2 u → u.cell? ⟨gk, p, none⟩ = some (.string K) := fun u hu => by rw [hK]; exact row_str (row_below K2.out hu) p hpn
            have ca1 : ∀ u, Below w2.heap.size w2 u → u.cell? ⟨ga, p, none⟩ = some (.int .i64 (a : Int)) := fun u hu => by
              have := row_int (row_below A2.out hu) p (by omega)
              rw [getD_lt qs [LB] p 0 (by have := HQL.out; omega), ← ha] at this
              exact this
            have ca2 : ∀ u, Below w2.heap.size w2 u → u.cell? ⟨ga, p + 1, none⟩ = some (.int .i64 (b : Int)) := fun u hu => by
              have := row_int (row_below A2.out hu) (p + 1) (by omega)
              rw [← hb] at this
              exact this
            have HCK : Hid (∀ u, Below w2.heap.size w2 u → u.cell? ⟨gk, p, none⟩ = some (.string K) ∧ u.cell? ⟨ga, p + 1, none⟩ = some (.int .i64 (b : Int))) := fun u hu => ⟨ck u hu, ca2 u hu⟩
            have c0 := ca1 wr HB.out
            clear hrd hkk hK hb hb' ha ck ca1 ca2
            go_wp2_with (first
              | (go_at_call 9; go_must (refine (hcall _).mono ?_); rintro e w5 ⟨rfl, b5⟩; have HB5 : Hid (Below w2.heap.size w2 w5) := next HB.out b5; obtain ⟨d1, d2⟩ := HCK.out w5 HB5.out; clear b5)
              | (go_at_call 13; refine (num_any _ _).mono ?_; rintro e w' ⟨rfl, hw'⟩; obtain rfl := hw'.symm))
            go_roundw
            case rel => exact ⟨p + 1, by omega, by go_num, HB5⟩
            case measure => simp [intOf]; omega
          · have hpn' : decide (p < n) = false := by simpa using hpn
            go_wp2
            go_ret
            exact ⟨rfl, next H2.out.out HB.out⟩

theorem walk (v : Value) (ps : List ByteArray) (s : ByteArray) (hs : s.size ≤ maxLen) (w : World) (h : SRow w v ps) : Calls Try.prog 5 #[v, .string s] w fun e w' => e = .returned (.bool true) ∧ Below w.heap.size w w' := by
  obtain ⟨⟨rfl, rfl⟩ | ⟨a, cap, rfl, hc⟩, hm, hz⟩ := h
  · exact walk0 none 0 0 0 [] s w (Nat.zero_le _) (by decide) (fun i hi => by omega) (fun i hi => by omega) hs
  · exact walk0 (some a) ps.length cap _ ps s w hm rfl (fun i hi => ⟨a, rfl, hc i hi⟩) hz hs

theorem own : ownKnob Try.prog.godebug = none := by kernel_rfl
theorem laidOut : laidOutB Try.prog = true := by kernel_rfl
theorem cells9 : Try.prog.cellsOf 9 = 1 := by kernel_rfl

set_option maxRecDepth 100000 in
theorem lifted (os : Os) (started : os.Started) (H : Type) (enc : TypeId × Value → H) :
    ReturnsInHanded {} Try.checked os 5 .any (Rows.compBackSpec.pre6 enc Try.prog Try.f5 Rows.compBackRow.domain false) (Rows.compBackSpec.post enc Try.prog Try.f5 false true false false) := by
  refine returnsInHanded_of_change (C := Try.checked) own started (by kernel_rfl) Try.func5
    (ChangeSpec.witness6 (enc := enc) (C := Try.checked) false ⟨#[], #[.slice none 0 0, .string ByteArray.empty], []⟩ 8 (by kernel_rfl) (by kernel_rfl) (by kernel_rfl) (by kernel_rfl)) ?_
  intro W base args ds gs before hval0 hW _ _
  have hval : ∀ (j : Nat) t v, Try.f5.params[j]? = some t → args[j]? = some v → Value.okWide Try.prog W .any base t v := hval0
  have hW' := hW
  obtain ⟨p, q, hA0, hV, rfl, hfz, hnd⟩ := hW
  have hA : DataW.TrodAll enc Try.prog W 0 (fun _ => true) true Try.f5.params.toList args.toList ds p := hA0
  rw [Try.params5] at hA hval
  obtain ⟨v0, vs0, d0, ds0, p0, q0, hargs, rfl, rfl, h0, r0⟩ := trodAll_cons hA
  obtain ⟨v1, vs1, d1, ds1, p1, q1, rfl, rfl, rfl, h1, r1⟩ := trodAll_cons r0
  obtain ⟨rfl, rfl, rfl⟩ := trodAll_nil r1
  obtain rfl : args = #[v0, v1] := by cases args; simp_all
  obtain ⟨rfl, rfl⟩ := trodVars_none hV
  obtain ⟨a0, h0k, d0k, w0⟩ := open_srow (hval 0 34 v0 rfl rfl) h0
  obtain ⟨a1, rfl, rfl, rfl, w1⟩ := open_string Try.underlying9 (hval 1 9 v1 rfl rfl) h1
  have hlt0 : ∀ x ∈ p0, x.block < W.heap.size := fun x hx => by
    have := hW'.lt x (by simp [hx])
    simpa using this
  clear hA0 hval0
  simp only [List.append_nil] at hW'
  refine (walk v0 a0 a1 w1 W w0).mono fun e W' ⟨he, bel⟩ => ?_
  subst he
  exact ⟨_, rfl, _, _, _, [], _, [], hW', trodAll_mk1 (shut_bool Try.underlying4 _), (trodAll_cons_mk (Below.trod laidOut (by kernel_rfl) (of_decide_eq_true (by kernel_rfl)) h0k bel hlt0) (trodAll_cons_mk (shut_string Try.underlying9 w1) trodAll_mk0)), rfl, bel.frame _, fun h => by cases h⟩

/-- The statement. -/
theorem proved : Rows.CompBackSaid :=
  OpenClaim.holds_of_wide 5 Try.f5 rfl rfl rfl rfl rfl rfl rfl ⟨rfl, rfl, rfl, rfl, rfl⟩ rfl rfl rfl rfl rfl (by kernel_rfl) Try.func5 (by kernel_rfl)
    (of_decide_eq_true (by kernel_rfl)) (by unfold Func.isWrapper; first | (rw [if_pos (by decide +kernel)]; kernel_rfl) | (rw [if_neg (by decide +kernel)]; exact ⟨rfl, rfl⟩))
    (fun os started H enc _ => lifted os started H enc)
#print axioms proved


end Go.Proofs.Ytpfbmemejajbjaa.compBack
