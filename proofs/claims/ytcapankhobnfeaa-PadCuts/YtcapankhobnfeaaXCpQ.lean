/- What Name of the document's Writer gives. -/
import Derived.Test.YtcapankhobnfeaaXCpP
import Derived.Test.YtcapankhobnfeaaXCpK
namespace Go.Proofs.Ytcapankhobnfeaa
open Go.RowKit
open Pl

theorem be2_ptr (q : Nat) (h : q < 16384) : be2 ((49152 : Int) + (q : Int)) = ⟨(ptrB q).toArray⟩ := by
  unfold be2 ptrB oct
  rw [show (((49152 : Int) + (q : Int)) / 256 % 256).toNat = 192 + q / 256 from by omega, show (((49152 : Int) + (q : Int)) / 1 % 256).toNat = q % 256 from by omega]

/-- The document's Writer, its rests stored anew. -/
theorem RW.marked {w w1 : World} {h : Nat} {O : ByteArray} {v v1 : Value} {ms nm : Marks} {N : Nat} (a : RW w h O v ms) (own1 : w1.ownsRow 0 130 2 v1 N (mkC ms ++ mkC nm)) (grow1 : w.grownBy w1 v.ownBlock)
    (at1 : v1.ownBlock = v.ownBlock ∨ ∃ g, v1.ownBlock = some g ∧ w.heap.size ≤ g) : RW (w1.setCell ⟨h, 1, none⟩ v1) h O v1 (ms ++ nm) ∧ Turn (own2 h v) w (w1.setCell ⟨h, 1, none⟩ v1) ∧ ∀ k, own2 h v1 k → own2 h v k ∨ w.heap.size ≤ k := by
  have hN : N = (ms ++ nm).length := by have := own1.1; rw [← mkC_app, mkC_len] at this; omega
  subst hN
  have hblk := (a.1.grown grow1 a.sep).set 1 v1
  rw [set1] at hblk
  have t1 : Turn (own2 h v) w w1 := Turn.of_grown grow1 (fun k hk => .inr hk)
  have t2 : Turn (own2 h v) w (w1.setCell ⟨h, 1, none⟩ v1) := t1.trans (Turn.of_set (S := own2 h v) w1 (p := ⟨h, 1, none⟩) (.inl rfl) v1) (fun _ hi => .inl hi)
  have ts : Turn (fun k => k = h) w1 (w1.setCell ⟨h, 1, none⟩ v1) := Turn.of_set (S := fun k => k = h) w1 (p := ⟨h, 1, none⟩) rfl v1
  have hg1 : ∀ k, v1.ownBlock = some k → k ≠ h := fun k hk e => by
    subst e
    rcases at1 with h1 | ⟨g, h1, h2⟩
    · rw [h1] at hk; exact a.sep hk.symm
    · rw [h1] at hk
      have := a.1.lt
      have e := Option.some.inj hk
      omega
  refine ⟨⟨hblk, ?_⟩, t2, fun k hk => ?_⟩
  · have := ts.row own1 hg1
    rw [mkC_app]; exact this
  · rcases hk with rfl | hk
    · exact .inl (.inl rfl)
    · rcases at1 with h1 | ⟨g, h1, h2⟩
      · exact .inl (.inr (by rw [← h1]; exact hk))
      · rw [h1] at hk
        have e := Option.some.inj hk
        exact .inr (by omega)
/-- .. both. -/
theorem rleft_all {w W W' w5 : World} {h : Nat} {O' : ByteArray} {v v5 : Value} {ms nm : Marks} {B : List UInt8} {N : Nat} (b0 : Below w.heap.size w W) (r1 : RW W' h O' v ms) (t1 : Turn (own2 h v) W W') (hO : O'.data.toList = B) (own5 : w5.ownsRow 0 130 2 v5 N (mkC ms ++ mkC nm)) (grow5 : W'.grownBy w5 v.ownBlock)
    (at5 : v5.ownBlock = v.ownBlock ∨ ∃ g, v5.ownBlock = some g ∧ W'.heap.size ≤ g) : RLeft h v w (w5.setCell ⟨h, 1, none⟩ v5) B (ms ++ nm) := by
  obtain ⟨m1, m2, m3⟩ := r1.marked own5 grow5 at5
  have s1 := b0.size
  have s2 := t1.size
  refine ⟨O', v5, m1, hO, (Turn.of_below (S := own2 h v) b0).trans (t1.trans m2 (fun i hi => .inl hi)) (fun i hi => .inl hi), fun k hk => ?_⟩
  rcases m3 k hk with h | h
  · exact .inl h
  · exact .inr (by omega)

theorem rwName_no (h : Nat) (O : ByteArray) (v : Value) (B : List UInt8) (ms : Marks) (s : ByteArray) (w : World) (hO : O.data.toList = B) (hs : s.size ≤ maxLen) (hn : isName s.data.toList = false) (a : RW w h O v ms) :
    Calls Try.prog 52 #[.pointer (some ⟨h, 0, none⟩), .string s] w fun e w' => e = .returned (.int .i64 500) ∧ RLeft h v w w' B ms := by
  go_enter Try.func52, Try.ntmps52
  go_wp2_with (go_at_call 24; go_must (refine (refMay_at s false _ hs hn).mono ?_); rintro e w1 ⟨rfl, b1⟩)
  go_ret
  exact ⟨rfl, O, v, a.below b1, hO, Turn.of_below b1, fun k hk => .inl hk⟩

/-- One rest, laid anew. -/
theorem mark_cell (w : World) (L : ByteArray) (r : List UInt8) (b : Nat) (x : Int) (hx : (b : Int) = x) (hL : L.data.toList = r) :
    ∀ j u, (mkC [(r, b)])[j]? = some u → (w.alloc (Obj.cells #[.string L, .int .i64 x] 130)).cell? ((⟨w.heap.size, 0, none⟩ : Addr).add j) = some u := by
  have e : mkC [(r, b)] = [.string L, .int .i64 x] := by
    show [Value.string ⟨r.toArray⟩, .int .i64 (b : Int)] = _
    rw [mk_of hL, hx]
  rw [e]
  intro j u hu
  have := World.news_of_block (heap_alloc_new w (.cells #[.string L, .int .i64 x] 130)) j u
  exact this hu
/-- A row of rests, as it is read. -/
theorem marks_src {w : World} {base n c : Nat} {y : Option Addr} {ms : Marks} (h : w.ownsRow base 130 2 (.slice y n c) n (mkC ms)) : n = 0 ∨ ∃ ad, y = some ad ∧ ∀ j u, (mkC ms)[j]? = some u → w.cell? (ad.add j) = some u := by
  by_cases hn : 0 < n
  · obtain ⟨g, rfl⟩ := row_some h hn
    refine .inr ⟨_, rfl, fun j u hu => ?_⟩
    have hl := h.1
    have hj : j < (mkC ms).length := by
      rcases Nat.lt_or_ge j (mkC ms).length with h1 | h1
      · exact h1
      · rw [List.getElem?_eq_none h1] at hu; cases hu
    have := h.cellAt j (by omega)
    rw [hu] at this
    rw [show (⟨g, 0, none⟩ : Addr).add j = ⟨g, j, none⟩ from by unfold Addr.add; split <;> simp_all]; exact this
  · exact .inl (by omega)
theorem row_stored {u wr : World} {h n base : Nat} {fv : Value} {xs : List Value} (bu : Below wr.heap.size wr u) (ho : wr.ownsRow base 130 2 fv n xs) (hlt : h < base) (x : Value) : (u.setCell ⟨h, 0, none⟩ x).ownsRow base 130 2 fv n xs := by
  have h1 : u.ownsRow base 130 2 fv n xs := Turn.row (S := fun _ => False) (Turn.of_below bu) ho (fun _ _ => id)
  exact Turn.row (S := fun k => k = h) (Turn.of_set (S := fun k => k = h) u (p := ⟨h, 0, none⟩) rfl _) h1 (fun k hk e => by have := (h1.lt k hk).1; omega)
theorem row_num {w : World} {v : Value} {n k : Nat} {xs : List Value} (h : w.ownsRow 0 130 2 v n xs) (e : k = n) : w.ownsRow 0 130 2 v k xs := by rw [e]; exact h
/-- At the end: what is answered, what is left. -/
theorem rw_fin {w u : World} {h : Nat} {O T2 : ByteArray} {v : Value} {B n : List UInt8} {ms : Marks} {R : Nat × List UInt8} {done : List Nat} {LB : Nat} (hn : isName n = true) (hO : O.data.toList = B) (hLB : LB = B.length) (hR : R = splN ms n) (hT : T2.data.toList = n.take R.1 ++ R.2) (hat : R.1 ≤ n.length) (hdn : sts n.length n 0 R.1 = done) (hb : Below w.heap.size w u) (hrw : RW u h O v ms) :
    (LB + T2.size ≤ 4096 → namE B ms n = 0 ∧ ∀ v5 w5 N, w5.ownsRow 0 130 2 v5 N (mkC ms ++ mkC (mkM LB n done)) → (u.setCell ⟨h, 0, none⟩ (.string (O ++ T2))).grownBy w5 v.ownBlock → (v5.ownBlock = v.ownBlock ∨ ∃ g, v5.ownBlock = some g ∧ (u.setCell ⟨h, 0, none⟩ (.string (O ++ T2))).heap.size ≤ g) → RLeft h v w (w5.setCell ⟨h, 1, none⟩ v5) (namB B ms n) (namM B ms n)) ∧
    (¬ LB + T2.size ≤ 4096 → namE B ms n = 501 ∧ RLeft h v w u (namB B ms n) (namM B ms n)) := by
  have hz : T2.size = sizW ms n := by
    rw [← data_len, hT, List.length_append, List.length_take, hR]
    rw [hR] at hat
    unfold sizW
    omega
  rw [hz, hLB]
  refine ⟨fun hf => ?_, fun hf => ?_⟩
  · obtain ⟨e1, e2, e3⟩ := nam_yes hn hf
    rw [e1, e2, e3]
    refine ⟨rfl, fun v5 w5 N o5 g5 a5 => ?_⟩
    obtain ⟨r1, t1⟩ := hrw.stored (O' := O ++ T2)
    unfold marW newM
    rw [← hR, hdn]
    exact rleft_all hb r1 t1 (by rw [app_list, hO, hT]; unfold outW; rw [hR]) o5 g5 a5
  · obtain ⟨e1, e2, e3⟩ := nam_long hn hf
    rw [e1, e2, e3]
    exact ⟨rfl, O, v, hrw, hO, Turn.of_below hb, fun k hk => .inl hk⟩

/-- What is held while a name is written. -/
def NmI (w wr : World) (ms : Marks) (n : List UInt8) (LB : Nat) (R : Nat × List UInt8) (p fn : Nat) (fv : Value) (T L : ByteArray) (done : List Nat) : Prop :=
  WAt ms n p R done ∧ T.data.toList = n.take p ∧ L.data.toList = n.drop p ∧ done.length = fn ∧ wr.ownsRow w.heap.size 130 2 fv fn (mkC (mkM LB n done)) ∧ Below w.heap.size w wr

set_option maxRecDepth 20000 in
set_option maxHeartbeats 2000000 in
theorem rwName_yes (h : Nat) (O : ByteArray) (v : Value) (B : List UInt8) (ms : Marks) (s : ByteArray) (w : World) (hO : O.data.toList = B) (hf : Fine B ms) (hn : isName s.data.toList = true) (a : RW w h O v ms) :
    Calls Try.prog 52 #[.pointer (some ⟨h, 0, none⟩), .string s] w fun e w' => e = .returned (.int .i64 (namE B ms s.data.toList)) ∧ RLeft h v w w' (namB B ms s.data.toList) (namM B ms s.data.toList) := by
  have hs := name_size hn
  have hsm : s.size ≤ maxLen := by unfold maxLen; omega
  have hl := data_len s
  obtain ⟨vy, vc, hv⟩ := row_shape a.2
  obtain ⟨vn, hvn⟩ : ∃ vn, vn = ms.length := ⟨_, rfl⟩
  rw [← hvn] at hv
  subst hv
  have HA : Hid (RW w h O (.slice vy vn vc) ms) := a
  have HVR : Hid (vn = ms.length) := hvn
  have HNM : Hid (isName s.data.toList = true) := hn
  have HO : Hid (O.data.toList = B) := hO
  have hOs : O.size = B.length := by rw [← data_len, hO]
  have hB := hf.1
  have hml := hf.2.1
  have HQ : Hid (∀ r q, plc ms r = some q → q < 16384) := fun r q hq => by have := hf.2.2 r q hq; omega
  have HSZ : Hid (sizW ms s.data.toList ≤ 255) := by have := splN_size hn ms; unfold Hid; omega
  obtain ⟨R, hR⟩ : ∃ R, R = splN ms s.data.toList := ⟨_, rfl⟩
  have HR : Hid (R = splN ms s.data.toList) := hR
  have HST : Hid (WAt ms s.data.toList 0 R []) := by unfold Hid; rw [hR]; exact w_start hn ms
  obtain ⟨LB, hLB⟩ : ∃ LB, LB = B.length := ⟨_, rfl⟩
  have hOi : (O.size : Int) = (LB : Int) := by omega
  have hOn : O.size = LB := by omega
  have hLB4 : LB ≤ 4096 := by omega
  have hvn5 : vn ≤ 5000 := by omega
  have HLB : Hid (LB = B.length) := hLB
  clear a hn hO hvn hf hOs hB hml hR hLB
  go_enter Try.func52, Try.ntmps52
  go_wp2_with (go_at_call 24; go_must (refine (refMay_at s true _ hsm HNM.out).mono ?_); rintro e w1 ⟨rfl, b1⟩)
  go_loopw [5, 6, 7] (fun o l fr wr => ∃ (p fn fc : Nat) (fy : Option Addr) (T L : ByteArray) (done : List Nat), o = .string T ∧ l = .string L ∧ fr = .slice fy fn fc ∧ p ≤ 255 ∧ T.size = p ∧ L.size = s.size - p ∧ Hid (NmI w wr ms s.data.toList LB R p fn (.slice fy fn fc) T L done)) (fun _ l _ _ => lenOf l)
  case atStart =>
    exact ⟨0, 0, 0, none, ⟨#[]⟩, s, [], rfl, rfl, rfl, by decide, rfl, by omega, HST.out, rfl, rfl, rfl, World.ownsRow_nil _ _ _ _, b1⟩
  case round =>
    clear HST b1
    obtain ⟨p, fn, fc, fy, T, L, done, rfl, rfl, rfl, hp5, hTs, hLs, HI⟩ := hrel
    obtain ⟨hw, hT, hL, hd, hrow, hb⟩ := HI.out
    have HB : Hid (Below w.heap.size w wr) := hb
    have HROW : Hid (wr.ownsRow w.heap.size 130 2 (.slice fy fn fc) fn (mkC (mkM LB s.data.toList done))) := hrow
    have hpl := nat_lt hw.1
    have hps : p < s.size := by omega
    have hdl : fn ≤ 255 := by
      have h1 : done.length ≤ (sts s.data.toList.length s.data.toList 0 R.1).length := by
        obtain ⟨_, f, _, _, h4⟩ := hw
        rw [h4, List.length_append]; omega
      have h2 := sts_len s.data.toList.length s.data.toList 0 R.1
      have h3 : R.1 ≤ 255 := by have := HSZ.out; rw [HR.out]; unfold sizW at this; omega
      omega
    have HRW : Hid (RW wr h O (.slice vy vn vc) ms) := HA.out.below hb
    have c0 : wr.cell? ⟨h, 0, none⟩ = some (.string O) := HRW.out.1.cell 0
    have c1 : wr.cell? ⟨h, 1, none⟩ = some (.slice vy vn vc) := HRW.out.1.cell 1
    have f0 := HRW.out.1.frozen 0
    by_cases h0 : s[p].toNat = 0
    · obtain ⟨hR2, hdn⟩ := w_zero hw hpl h0
      have hroot := nat_root hw.1 hpl h0
      have ht : (L.toList == [0]) = true := by rw [ByteArray.toList_eq, hL, hroot]; rfl
      have ht' : (L.toList != [0]) = false := by simp only [bne, ht, Bool.not_true]
      obtain ⟨T2, hT2⟩ : ∃ T2, T2 = T ++ L := ⟨_, rfl⟩
      have hT2l : T2.data.toList = s.data.toList.take R.1 ++ R.2 := by rw [hT2, app_list, hT, hL, hroot, hR2]
      have hL1 : L.size = 1 := by rw [← data_len, hL, hroot]; rfl
      have hT2s : T2.size = p + 1 := by rw [hT2, ByteArray.size_append, hTs, hL1]
      have hT2n := hT2.symm
      have hadd : T.size + L.size ≤ 100000 := by omega
      have hR1 : R.1 = p := by rw [hR2]
      have HFIN := @rw_fin w wr h O T2 (.slice vy vn vc) B s.data.toList ms R done LB HNM.out HO.out HLB.out HR.out hT2l (by rw [hR1]; omega) (by rw [hR1]; exact hdn) HB.out HRW.out
      have HDL : Hid ((mkM LB s.data.toList done).length = fn) := by unfold Hid mkM; rw [List.length_map]; exact hd
      by_cases hfit : LB + T2.size ≤ 4096
      · obtain ⟨HE, HF⟩ := HFIN.1 hfit
        have HEE : Hid (namE B ms s.data.toList = 0) := HE
        have HFF : Hid _ := HF
        have hfit' : decide ((4096 : Int) < (LB : Int) + ((p : Int) + 1)) = false := by rw [hT2s] at hfit; simp; omega
        have hlong : O.size + T2.size ≤ 100000 := by omega
        have HROW1 : Hid ((wr.setCell ⟨h, 0, none⟩ (.string (O ++ T2))).ownsRow w.heap.size 130 2 (.slice fy fn fc) fn (mkC (mkM LB s.data.toList done))) := Turn.row (S := fun k => k = h) (Turn.of_set (S := fun k => k = h) wr (p := ⟨h, 0, none⟩) rfl _) hrow (fun k hk e => by have := (hrow.lt k hk).1; have := HA.out.1.lt; omega)
        have HRW1 : Hid (RW (wr.setCell ⟨h, 0, none⟩ (.string (O ++ T2))) h (O ++ T2) (.slice vy vn vc) ms) := HRW.out.stored.1
        have HOW1 : Hid ((wr.setCell ⟨h, 0, none⟩ (.string (O ++ T2))).ownsRow 0 130 2 (.slice vy vn vc) vn (mkC ms)) := by unfold Hid; have := HRW1.out.2; rw [← HVR.out] at this; exact this
        have d1 : (wr.setCell ⟨h, 0, none⟩ (.string (O ++ T2))).cell? ⟨h, 1, none⟩ = some (.slice vy vn vc) := HRW1.out.1.cell 1
        clear hroot hT2 hL HFIN HF HE hT2l hR2 hR1 hdn hw hT hd hrow hb HI h0 hfit
        go_wp2_with (at_builtin; refine wpList_appM _ rfl (.tmp 82) (.tmp 83) rfl 0 (.slice vy vn vc) vn _ rfl HOW1.out fy fn fc (mkM LB s.data.toList done) rfl HDL.out (marks_src HROW1.out) (by omega) (Nat.zero_le _) ?_; intro v5 w5 own5 grow5 at5; obtain ⟨y5, k5, rfl⟩ := row_shape own5; have HL : Hid _ := HFF.out _ _ _ own5 grow5 at5; have c5 : w5.cell? ⟨h, 1, none⟩ = some (.slice vy vn vc) := (HRW1.out.1.grown grow5 HRW1.out.sep).cell 1; have f5 : w5.frozen? ⟨h, 1, none⟩ = false := (HRW1.out.1.grown grow5 HRW1.out.sep).frozen 1; clear own5 grow5 at5)
        go_ret
        rw [HEE.out]
        exact ⟨rfl, HL.out⟩
      · obtain ⟨HE, HF⟩ := HFIN.2 hfit
        have HEE : Hid (namE B ms s.data.toList = 501) := HE
        have HFF : Hid _ := HF
        have hfit' : (4096 : Int) < (LB : Int) + ((p : Int) + 1) := by rw [hT2s] at hfit; omega
        clear hroot hT2 hL HFIN HF HE hT2l hR2 hR1 hdn hw hT hd hrow hb HI h0 hfit
        go_wp2
        go_ret
        rw [HEE.out]
        exact ⟨rfl, HFF.out⟩
    · have hne := nat_not_root hpl h0
      have ht : (L.toList == [0]) = false := by rw [ByteArray.toList_eq, hL]; simpa using hne
      have ht' : (L.toList != [0]) = true := by simp only [bne, ht, Bool.not_false]
      cases hpq : plc ms (s.data.toList.drop p) with
      | some q =>
        obtain ⟨hR2, hdn⟩ := w_hit hw hpl h0 hpq
        have hq := HQ.out _ _ hpq
        obtain ⟨T2, hT2⟩ : ∃ T2, T2 = T ++ be2 ((49152 : Int) + (q : Int)) := ⟨_, rfl⟩
        have hT2l : T2.data.toList = s.data.toList.take R.1 ++ R.2 := by rw [hT2, app_list, hT, be2_ptr q hq, hR2]
        have hbs : (be2 ((49152 : Int) + (q : Int))).size = 2 := rfl
        have hT2s : T2.size = p + 2 := by rw [hT2, ByteArray.size_append, hTs, hbs]
        have hT2n := hT2.symm
        have HPL : Hid (plc ms L.data.toList = some q) := by unfold Hid; rw [hL]; exact hpq
        have hadd : T.size + (be2 ((49152 : Int) + (q : Int))).size ≤ 100000 := by omega
        obtain ⟨BB, hBB⟩ : ∃ BB, BB = be2 ((49152 : Int) + (q : Int)) := ⟨_, rfl⟩
        have HBE : Hid (∀ u, Calls Try.prog 53 #[.int .i64 ((49152 : Int) + (q : Int)), .int .i64 2] u fun e w' => e = .returned (.string BB) ∧ Below u.heap.size u w') := fun u => by rw [hBB]; exact be_two _ u
        have hplc := fun u (hu : RW u h O (.slice vy vn vc) ms) => rPlace_as h O (.slice vy vn vc) ms L (some q) u (by rw [← HVR.out]; exact hvn5) hu HPL.out
        unfold plI at hplc
        have HPC : Hid (∀ u, RW u h O (.slice vy vn vc) ms → Calls Try.prog 72 #[.pointer (some ⟨h, 0, none⟩), .string L] u fun e w' => e = .returned (.int .i64 (q : Int)) ∧ w' = u) := hplc
        rw [← hBB] at hT2n hadd
        have hq0 : (0 : Int) ≤ (q : Int) := by omega
        have hBs : BB.size = 2 := by rw [hBB]; exact hbs
        have hR1 : R.1 = p := by rw [hR2]
        have HFIN := fun u hbu hru => @rw_fin w u h O T2 (.slice vy vn vc) B s.data.toList ms R done LB HNM.out HO.out HLB.out HR.out hT2l (by rw [hR1]; omega) (by rw [hR1]; exact hdn) hbu hru
        have HDL : Hid ((mkM LB s.data.toList done).length = fn) := by unfold Hid mkM; rw [List.length_map]; exact hd
        by_cases hfit : LB + T2.size ≤ 4096
        · have HEE : Hid (namE B ms s.data.toList = 0) := ((HFIN wr HB.out HRW.out).1 hfit).1
          have HF1 := fun u hbu hru => ((HFIN u hbu hru).1 hfit).2
          have HFF : Hid _ := HF1
          clear HF1
          have hfit' : decide ((4096 : Int) < (LB : Int) + ((p : Int) + 2)) = false := by rw [hT2s] at hfit; simp; omega
          have hlong : O.size + T2.size ≤ 100000 := by omega
          clear hpq hT2 hplc hne hL hbs hBB HFIN hT2l hR2 hR1 hdn hw hT hd hrow hb HI h0 hfit
          go_wp2_with (first
            | (go_at_call 72; go_must (refine (HPC.out _ HRW.out).mono ?_); rintro e w' ⟨rfl, hw'⟩; obtain rfl := hw'.symm)
            | (go_at_call 53; go_must (refine (HBE.out _).mono ?_); rintro e u ⟨rfl, bu⟩; have HBU : Hid (Below w.heap.size w u) := next HB.out bu; have HRU : Hid (RW u h O (.slice vy vn vc) ms) := HRW.out.below bu; have HROW1 : Hid ((u.setCell ⟨h, 0, none⟩ (.string (O ++ T2))).ownsRow w.heap.size 130 2 (.slice fy fn fc) fn (mkC (mkM LB s.data.toList done))) := row_stored bu HROW.out HA.out.1.lt _; have HRW1 : Hid (RW (u.setCell ⟨h, 0, none⟩ (.string (O ++ T2))) h (O ++ T2) (.slice vy vn vc) ms) := HRU.out.stored.1; have HOW1 : Hid ((u.setCell ⟨h, 0, none⟩ (.string (O ++ T2))).ownsRow 0 130 2 (.slice vy vn vc) vn (mkC ms)) := row_num HRW1.out.2 HVR.out; have d1 : (u.setCell ⟨h, 0, none⟩ (.string (O ++ T2))).cell? ⟨h, 1, none⟩ = some (.slice vy vn vc) := HRW1.out.1.cell 1; have d0 : u.cell? ⟨h, 0, none⟩ = some (.string O) := HRU.out.1.cell 0; have e0 := HRU.out.1.frozen 0; clear bu)
            | (at_builtin; refine wpList_appM _ rfl (.tmp 82) (.tmp 83) rfl 0 (.slice vy vn vc) vn _ rfl HOW1.out fy fn fc (mkM LB s.data.toList done) rfl HDL.out (marks_src HROW1.out) (by omega) (Nat.zero_le _) ?_; intro v5 w5 own5 grow5 at5; obtain ⟨y5, k5, rfl⟩ := row_shape own5; have HL : Hid _ := HFF.out _ HBU.out HRU.out _ _ _ own5 grow5 at5; have c5 : w5.cell? ⟨h, 1, none⟩ = some (.slice vy vn vc) := (HRW1.out.1.grown grow5 HRW1.out.sep).cell 1; have f5 : w5.frozen? ⟨h, 1, none⟩ = false := (HRW1.out.1.grown grow5 HRW1.out.sep).frozen 1; clear own5 grow5 at5))
          go_ret
          rw [HEE.out]
          exact ⟨rfl, HL.out⟩
        · have HEE : Hid (namE B ms s.data.toList = 501) := ((HFIN wr HB.out HRW.out).2 hfit).1
          have HF1 := fun u hbu hru => ((HFIN u hbu hru).2 hfit).2
          have HFF : Hid _ := HF1
          clear HF1
          have hfit' : (4096 : Int) < (LB : Int) + ((p : Int) + 2) := by rw [hT2s] at hfit; omega
          clear hpq hT2 hplc hne hL hbs hBB HFIN hT2l hR2 hR1 hdn hw hT hd hrow hb HI h0 hfit
          go_wp2_with (first
            | (go_at_call 72; go_must (refine (HPC.out _ HRW.out).mono ?_); rintro e w' ⟨rfl, hw'⟩; obtain rfl := hw'.symm)
            | (go_at_call 53; go_must (refine (HBE.out _).mono ?_); rintro e u ⟨rfl, bu⟩; have HBU : Hid (Below w.heap.size w u) := next HB.out bu; have HRU : Hid (RW u h O (.slice vy vn vc) ms) := HRW.out.below bu; have d0 : u.cell? ⟨h, 0, none⟩ = some (.string O) := HRU.out.1.cell 0; clear bu))
          go_ret
          rw [HEE.out]
          exact ⟨rfl, HFF.out _ HBU.out HRU.out⟩
      | none =>
        obtain ⟨hw2, hlt⟩ := w_miss hw hpl h0 hpq
        have hst := nat_step hw.1 hpl h0
        have HPL : Hid (plc ms L.data.toList = none) := by unfold Hid; rw [hL]; exact hpq
        have hplc := rPlace_as h O (.slice vy vn vc) ms L none wr (by rw [← HVR.out]; exact hvn5) HRW.out HPL.out
        unfold plI at hplc
        have hL0 : 0 < L.size := by omega
        have hLc : L[0]'hL0 = s[p] := by
          have h1 : L.data.toList[0]'(by rw [data_len]; exact hL0) = s.data.toList[p] := by simp only [hL, List.getElem_drop, Nat.add_zero]
          exact h1
        obtain ⟨c, hc⟩ : ∃ c, c = s[p].toNat := ⟨_, rfl⟩
        have i0 := idx L 0 0 rfl hL0
        rw [hLc, ← hc] at i0
        have hc63 : c ≤ 63 := by rw [hc]; exact hst.1
        have hcL : 1 + c ≤ L.size := by have : p + 1 + s[p].toNat < s.data.toList.length := hst.2.1; omega
        have k1 := cut_to L (1 + c) (1 + (c : Int)) (by omega) hcL
        have k2 := cut_rest L (1 + c) (1 + (c : Int)) (by omega) hcL
        obtain ⟨D1, hD1⟩ : ∃ D, D = L.extract 0 (1 + c) := ⟨_, rfl⟩
        obtain ⟨D2, hD2⟩ : ∃ D, D = L.extract (1 + c) L.size := ⟨_, rfl⟩
        have z1 : D1.size = 1 + c := by rw [hD1]; simp; omega
        have z2 : D2.size = L.size - (1 + c) := by rw [hD2]; simp
        have hadd : T.size + D1.size ≤ 100000 := by omega
        have HN : Hid (T.data.toList ++ D1.data.toList = s.data.toList.take (p + 1 + c) ∧ D2.data.toList = s.data.toList.drop (p + 1 + c)) := by
          unfold Hid
          constructor
          · rw [hT, hD1, ext_to, hL, show p + 1 + c = p + (1 + c) from by omega]
            exact List.take_add.symm
          · rw [hD2, ext_from, hL, List.drop_drop, show p + (1 + c) = p + 1 + c from by omega]
        have HW2 : Hid (WAt ms s.data.toList (p + 1 + c) R (done ++ [p])) := by rw [hc]; exact hw2
        have HLL : Hid (L.data.toList = s.data.toList.drop p) := hL
        have HD : Hid (done.length = fn) := hd
        have hat : (LB : Int) + (p : Int) ≤ 16383 := by omega
        rw [← hD1] at k1
        rw [← hD2] at k2
        have hm1 : decide ((0 : Int) ≤ -1) = false := by decide
        have HPC : Hid (Calls Try.prog 72 #[.pointer (some ⟨h, 0, none⟩), .string L] wr fun e w' => e = .returned (.int .i64 (-1)) ∧ w' = wr) := hplc
        clear hpq hplc hw2 hst hLc hc hD1 hD2 hne hL hT hw hd hrow hb HI h0
        have hbn : ((LB + p : Nat) : Int) = (LB : Int) + (p : Int) := by omega
        have hfn : fn + 1 ≤ 10000 := by omega
        have hsz := (HB.out.alloc HB.out.size (Obj.cells #[Value.string L, Value.int .i64 ((LB : Int) + (p : Int))] 130)).size
        go_wp2_with (first
          | (go_at_call 72; go_must (refine HPC.out.mono ?_); rintro e w' ⟨rfl, hw'⟩; obtain rfl := hw'.symm)
          | (at_builtin; refine wpList_appM _ rfl (.tmp 37) (.tmp 41) rfl w.heap.size (.slice fy fn fc) fn _ rfl (HROW.out.alloc (Obj.cells #[Value.string L, Value.int .i64 ((LB : Int) + (p : Int))] 130)) (some ⟨wr.heap.size, 0, none⟩) 1 1 [(s.data.toList.drop p, LB + p)] rfl rfl (.inr ⟨_, rfl, mark_cell wr L _ (LB + p) _ hbn HLL.out⟩) hfn hsz ?_; intro v5 w5 own5 grow5 at5; obtain ⟨y5, k5, rfl⟩ := row_shape own5; have OWN5 : Hid (w5.ownsRow w.heap.size 130 2 (.slice y5 (fn + 1) k5) (fn + 1) (mkC (mkM LB s.data.toList done) ++ mkC [(s.data.toList.drop p, LB + p)])) := own5; have GROW5 : Hid ((wr.alloc (Obj.cells #[Value.string L, Value.int .i64 ((LB : Int) + (p : Int))] 130)).grownBy w5 (Value.slice fy fn fc).ownBlock) := grow5; clear own5 grow5 at5))
        refine ⟨⟨p + 1 + c, fn + 1, k5, y5, T ++ D1, D2, done ++ [p], rfl, rfl, rfl, by omega, by rw [ByteArray.size_append, hTs, z1]; omega, by omega, HW2.out, by rw [app_list]; exact HN.out.1, HN.out.2, by rw [List.length_append, HD.out]; rfl, ?_, ?_⟩, ?_⟩
        · rw [mkM_snoc, mkC_app]; exact OWN5.out
        · exact (HB.out.alloc HB.out.size _).grown GROW5.out hsz (fun k e => (HROW.out.lt k e).1)
        · simp only [lenOf]; omega

/-- What Name of the document's Writer gives, for every argument. -/
theorem rwName_any (h : Nat) (O : ByteArray) (v : Value) (B : List UInt8) (ms : Marks) (s : ByteArray) (w : World) (hO : O.data.toList = B) (hf : Fine B ms) (hs : s.size ≤ maxLen) (a : RW w h O v ms) :
    Calls Try.prog 52 #[.pointer (some ⟨h, 0, none⟩), .string s] w fun e w' => e = .returned (.int .i64 (namE B ms s.data.toList)) ∧ RLeft h v w w' (namB B ms s.data.toList) (namM B ms s.data.toList) := by
  cases hn : isName s.data.toList with
  | false => obtain ⟨h1, h2, h3⟩ := nam_no (B := B) (ms := ms) hn; rw [h1, h2, h3]; exact rwName_no h O v B ms s w hO hs hn a
  | true => exact rwName_yes h O v B ms s w hO hf hn a

end Go.Proofs.Ytcapankhobnfeaa
