/- What Name of the document's Writer gives. -/
import Derived.Test.YtbffnicfibfceaaXP13
import Derived.Test.YtbffnicfibfceaaXP8
import Derived.Deep.RegionHeld3
namespace Go.Proofs.Ytbffnicfibfceaa
open Go.RowKit
open Pl

theorem be2_ptr (q : Nat) (h : q < 16384) : be2 ((49152 : Int) + (q : Int)) = ⟨(ptrB q).toArray⟩ := by
  unfold be2 ptrB oct
  rw [show (((49152 : Int) + (q : Int)) / 256 % 256).toNat = 192 + q / 256 from by omega, show (((49152 : Int) + (q : Int)) / 1 % 256).toNat = q % 256 from by omega]

/-- The document's Writer, its rests stored anew. -/
theorem RW.marked {w w1 : World} {h : Nat} {O : ByteArray} {v v1 : Value} {ms nm : Marks} {N : Nat} (a : RW w h O v ms) (own1 : w1.ownsRow 0 80 2 v1 N (mkC ms ++ mkC nm)) (grow1 : w.grownBy w1 v.ownBlock)
    (at1 : v1.ownBlock = v.ownBlock ∨ ∃ g, v1.ownBlock = some g ∧ w.heap.size ≤ g) : RW (w1.setCell ⟨h, 1, none⟩ v1) h O v1 (ms ++ nm) ∧ Turn (own2 h v) w (w1.setCell ⟨h, 1, none⟩ v1) ∧ ∀ k, own2 h v1 k → own2 h v k ∨ w.heap.size ≤ k := by
  have hN : N = (ms ++ nm).length := by have := own1.1; rw [← mkC_app, mkC_len] at this; omega
  subst hN
  have hblk := (a.1.grown grow1 a.sep).set 1 v1
  rw [set1] at hblk
  have t1 : Turn (own2 h v) w w1 := Turn.of_grown grow1 (fun k hk => .inr hk)
  have t2 : Turn (own2 h v) w (w1.setCell ⟨h, 1, none⟩ v1) := t1.trans (Turn.of_set (S := own2 h v) w1 (p := ⟨h, 1, none⟩) (.inl rfl) v1) (fun _ hi => .inl hi)
  have ts : Turn (fun k => k = h) w1 (w1.setCell ⟨h, 1, none⟩ v1) := Turn.of_set (S := fun k => k = h) w1 (p := ⟨h, 1, none⟩) rfl v1
  have hg1 : ∀ k, v1.ownBlock = some k → k ≠ h := fun k hk e => by
    subst e
    rcases at1 with h1 | ⟨g, h1, h2⟩
    · rw [h1] at hk; exact a.sep hk.symm
    · rw [h1] at hk
      have := a.1.lt
      have e := Option.some.inj hk
      omega
  refine ⟨⟨hblk, ?_⟩, t2, fun k hk => ?_⟩
  · have := ts.row own1 hg1
    rw [mkC_app]; exact this
  · rcases hk with rfl | hk
    · exact .inl (.inl rfl)
    · rcases at1 with h1 | ⟨g, h1, h2⟩
      · exact .inl (.inr (by rw [← h1]; exact hk))
      · rw [h1] at hk
        have e := Option.some.inj hk
        exact .inr (by omega)
/-- .. both. -/
theorem rleft_all {w W W' w5 : World} {h : Nat} {O' : ByteArray} {v v5 : Value} {ms nm : Marks} {B : List UInt8} {N : Nat} (b0 : Below w.heap.size w W) (r1 : RW W' h O' v ms) (t1 : Turn (own2 h v) W W') (hO : O'.data.toList = B) (own5 : w5.ownsRow 0 80 2 v5 N (mkC ms ++ mkC nm)) (grow5 : W'.grownBy w5 v.ownBlock)
    (at5 : v5.ownBlock = v.ownBlock ∨ ∃ g, v5.ownBlock = some g ∧ W'.heap.size ≤ g) : RLeft h v w (w5.setCell ⟨h, 1, none⟩ v5) B (ms ++ nm) := by
  obtain ⟨m1, m2, m3⟩ := r1.marked own5 grow5 at5
  have s1 := b0.size
  have s2 := t1.size
  refine ⟨O', v5, m1, hO, (Turn.of_below (S := own2 h v) b0).trans (t1.trans m2 (fun i hi => .inl hi)) (fun i hi => .inl hi), fun k hk => ?_⟩
  rcases m3 k hk with h | h
  · exact .inl h
  · exact .inr (by omega)

theorem rwName_no (h : Nat) (O : ByteArray) (v : Value) (B : List UInt8) (ms : Marks) (s : ByteArray) (w : World) (hO : O.data.toList = B) (hs : s.size ≤ maxLen) (hn : isName s.data.toList = false) (a : RW w h O v ms) :
    Calls Try.prog 17 #[.pointer (some ⟨h, 0, none⟩), .string s] w fun e w' => e = .returned (.int .i64 500) ∧ RLeft h v w w' B ms := by
  go_enter Try.func17, Try.ntmps17
  go_wp2_with (go_at_call 31; go_must (refine (refMay_at s false _ hs hn).mono ?_); rintro e w1 ⟨rfl, b1⟩)
  go_ret
  exact ⟨rfl, O, v, a.below b1, hO, Turn.of_below b1, fun k hk => .inl hk⟩

/-- One rest, laid anew. -/
theorem mark_cell (w : World) (L : ByteArray) (r : List UInt8) (b : Nat) (x : Int) (hx : (b : Int) = x) (hL : L.data.toList = r) :
    ∀ j u, (mkC [(r, b)])[j]? = some u → (w.alloc (Obj.cells #[.string L, .int .i64 x] 80)).cell? ((⟨w.heap.size, 0, none⟩ : Addr).add j) = some u := by
  have e : mkC [(r, b)] = [.string L, .int .i64 x] := by
    show [Value.string ⟨r.toArray⟩, .int .i64 (b : Int)] = _
    rw [mk_of hL, hx]
  rw [e]
  intro j u hu
  have := World.news_of_block (heap_alloc_new w (.cells #[.string L, .int .i64 x] 80)) j u
  exact this hu
/-- A row of rests, as it is read. -/
theorem marks_src {w : World} {base n c : Nat} {y : Option Addr} {ms : Marks} (h : w.ownsRow base 80 2 (.slice y n c) n (mkC ms)) : n = 0 ∨ ∃ ad, y = some ad ∧ ∀ j u, (mkC ms)[j]? = some u → w.cell? (ad.add j) = some u := by
  by_cases hn : 0 < n
  · obtain ⟨g, rfl⟩ := row_some h hn
    refine .inr ⟨_, rfl, fun j u hu => ?_⟩
    have hl := h.1
    have hj : j < (mkC ms).length := by
      rcases Nat.lt_or_ge j (mkC ms).length with h1 | h1
      · exact h1
      · rw [List.getElem?_eq_none h1] at hu; cases hu
    have := h.cellAt j (by omega)
    rw [hu] at this
    rw [show (⟨g, 0, none⟩ : Addr).add j = ⟨g, j, none⟩ from by unfold Addr.add; split <;> simp_all]; exact this
  · exact .inl (by omega)
theorem row_stored {u wr : World} {h n base : Nat} {fv : Value} {xs : List Value} (bu : Below wr.heap.size wr u) (ho : wr.ownsRow base 80 2 fv n xs) (hlt : h < base) (x : Value) : (u.setCell ⟨h, 0, none⟩ x).ownsRow base 80 2 fv n xs := by
  have h1 : u.ownsRow base 80 2 fv n xs := Turn.row (S := fun _ => False) (Turn.of_below bu) ho (fun _ _ => id)
  exact Turn.row (S := fun k => k = h) (Turn.of_set (S := fun k => k = h) u (p := ⟨h, 0, none⟩) rfl _) h1 (fun k hk e => by have := (h1.lt k hk).1; omega)
theorem row_num {w : World} {v : Value} {n k : Nat} {xs : List Value} (h : w.ownsRow 0 80 2 v n xs) (e : k = n) : w.ownsRow 0 80 2 v k xs := by rw [e]; exact h
/-- At the end: what is answered, what is left. -/
theorem rw_fin {w u : World} {h : Nat} {O T2 : ByteArray} {v : Value} {B n : List UInt8} {ms : Marks} {R : Nat × List UInt8} {done : List Nat} {LB : Nat} (hn : isName n = true) (hO : O.data.toList = B) (hLB : LB = B.length) (hR : R = splN ms n) (hT : T2.data.toList = n.take R.1 ++ R.2) (hat : R.1 ≤ n.length) (hdn : sts n.length n 0 R.1 = done) (hb : Below w.heap.size w u) (hrw : RW u h O v ms) :
    (LB + T2.size ≤ 4096 → namE B ms n = 0 ∧ ∀ v5 w5 N, w5.ownsRow 0 80 2 v5 N (mkC ms ++ mkC (mkM LB n done)) → (u.setCell ⟨h, 0, none⟩ (.string (O ++ T2))).grownBy w5 v.ownBlock → (v5.ownBlock = v.ownBlock ∨ ∃ g, v5.ownBlock = some g ∧ (u.setCell ⟨h, 0, none⟩ (.string (O ++ T2))).heap.size ≤ g) → RLeft h v w (w5.setCell ⟨h, 1, none⟩ v5) (namB B ms n) (namM B ms n)) ∧
    (¬ LB + T2.size ≤ 4096 → namE B ms n = 501 ∧ RLeft h v w u (namB B ms n) (namM B ms n)) := by
  have hz : T2.size = sizW ms n := by
    rw [← data_len, hT, List.length_append, List.length_take, hR]
    rw [hR] at hat
    unfold sizW
    omega
  rw [hz, hLB]
  refine ⟨fun hf => ?_, fun hf => ?_⟩
  · obtain ⟨e1, e2, e3⟩ := nam_yes hn hf
    rw [e1, e2, e3]
    refine ⟨rfl, fun v5 w5 N o5 g5 a5 => ?_⟩
    obtain ⟨r1, t1⟩ := hrw.stored (O' := O ++ T2)
    unfold marW newM
    rw [← hR, hdn]
    exact rleft_all hb r1 t1 (by rw [app_list, hO, hT]; unfold outW; rw [hR]) o5 g5 a5
  · obtain ⟨e1, e2, e3⟩ := nam_long hn hf
    rw [e1, e2, e3]
    exact ⟨rfl, O, v, hrw, hO, Turn.of_below hb, fun k hk => .inl hk⟩

/-- What is held while a name is written. -/
def NmI (w wr : World) (ms : Marks) (n : List UInt8) (LB : Nat) (R : Nat × List UInt8) (p fn : Nat) (fv : Value) (T L : ByteArray) (done : List Nat) : Prop :=
  WAt ms n p R done ∧ T.data.toList = n.take p ∧ L.data.toList = n.drop p ∧ done.length = fn ∧ wr.ownsRow w.heap.size 80 2 fv fn (mkC (mkM LB n done)) ∧ Below w.heap.size w wr

set_option maxRecDepth 20000 in
set_option maxHeartbeats 2000000 in
theorem rwName_yes (h : Nat) (O : ByteArray) (v : Value) (B : List UInt8) (ms : Marks) (s : ByteArray) (w : World) (hO : O.data.toList = B) (hf : Fine B ms) (hn : isName s.data.toList = true) (a : RW w h O v ms) :
    Calls Try.prog 17 #[.pointer (some ⟨h, 0, none⟩), .string s] w fun e w' => e = .returned (.int .i64 (namE B ms s.data.toList)) ∧ RLeft h v w w' (namB B ms s.data.toList) (namM B ms s.data.toList) := by
  have hs := name_size hn
  have hsm : s.size ≤ maxLen := by unfold maxLen; omega
  have hl := data_len s
  obtain ⟨vy, vc, hv⟩ := row_shape a.2
  obtain ⟨vn, hvn⟩ : ∃ vn, vn = ms.length := ⟨_, rfl⟩
  rw [← hvn] at hv
  subst hv
  have HA : Hid (RW w h O (.slice vy vn vc) ms) := a
  have HVR : Hid (vn = ms.length) := hvn
  have HNM : Hid (isName s.data.toList = true) := hn
  have HO : Hid (O.data.toList = B) := hO
  have hOs : O.size = B.length := by rw [← data_len, hO]
  have hB := hf.1
  have hml := hf.2.1
  have HQ : Hid (∀ r q, plc ms r = some q → q < 16384) := fun r q hq => by have := hf.2.2 r q hq; omega
  have HSZ : Hid (sizW ms s.data.toList ≤ 255) := by have := splN_size hn ms; unfold Hid; omega
  obtain ⟨R, hR⟩ : ∃ R, R = splN ms s.data.toList := ⟨_, rfl⟩
  have HR : Hid (R = splN ms s.data.toList) := hR
  have HST : Hid (WAt ms s.data.toList 0 R []) := by unfold Hid; rw [hR]; exact w_start hn ms
  obtain ⟨LB, hLB⟩ : ∃ LB, LB = B.length := ⟨_, rfl⟩
  have hOi : (O.size : Int) = (LB : Int) := by omega
  have hOn : O.size = LB := by omega
  have hLB4 : LB ≤ 4096 := by omega
  have hvn5 : vn ≤ 5000 := by omega
  have HLB : Hid (LB = B.length) := hLB
  clear a hn hO hvn hf hOs hB hml hR hLB
  go_enter Try.func17, Try.ntmps17
  go_wp2_with (go_at_call 31; go_must (refine (refMay_at s true _ hsm HNM.out).mono ?_); rintro e w1 ⟨rfl, b1⟩)
  go_loopw [5, 6, 7] (fun o l fr wr => ∃ (p fn fc : Nat) (fy : Option Addr) (T L : ByteArray) (done : List Nat), o = .string T ∧ l = .string L ∧ fr = .slice fy fn fc ∧ p ≤ 255 ∧ T.size = p ∧ L.size = s.size - p ∧ Hid (NmI w wr ms s.data.toList LB R p fn (.slice fy fn fc) T L done)) (fun _ l _ _ => lenOf l)
  case atStart =>
    exact ⟨0, 0, 0, none, ⟨#[]⟩, s, [], rfl, rfl, rfl, by decide, rfl, by omega, HST.out, rfl, rfl, rfl, World.ownsRow_nil _ _ _ _, b1⟩
  case round =>
    clear HST b1
    obtain ⟨p, fn, fc, fy, T, L, done, rfl, rfl, rfl, hp5, hTs, hLs, HI⟩ := hrel
    obtain ⟨hw, hT, hL, hd, hrow, hb⟩ := HI.out
    have HB : Hid (Below w.heap.size w wr) := hb
    have HROW : Hid (wr.ownsRow w.heap.size 80 2 (.slice fy fn fc) fn (mkC (mkM LB s.data.toList done))) := hrow
    have hpl := nat_lt hw.1
    have hps : p < s.size := by omega
    have hdl : fn ≤ 255 := by
      have h1 : done.length ≤ (sts s.data.toList.length s.data.toList 0 R.1).length := by
        obtain ⟨_, f, _, _, h4⟩ := hw
        rw [h4, List.length_append]; omega
      have h2 := sts_len s.data.toList.length s.data.toList 0 R.1
      have h3 : R.1 ≤ 255 := by have := HSZ.out; rw [HR.out]; unfold sizW at this; omega
      omega
    have HRW : Hid (RW wr h O (.slice vy vn vc) ms) := HA.out.below hb
    have c0 : wr.cell? ⟨h, 0, none⟩ = some (.string O) := HRW.out.1.cell 0
    have c1 : wr.cell? ⟨h, 1, none⟩ = some (.slice vy vn vc) := HRW.out.1.cell 1
    have f0 := HRW.out.1.frozen 0
    by_cases h0 : s[p].toNat = 0
    · obtain ⟨hR2, hdn⟩ := w_zero hw hpl h0
      have hroot := nat_root hw.1 hpl h0
      have ht : (L.toList == [0]) = true := by rw [ByteArray.toList_eq, hL, hroot]; rfl
      have ht' : (L.toList != [0]) = false := by simp only [bne, ht, Bool.not_true]
      obtain ⟨T2, hT2⟩ : ∃ T2, T2 = T ++ L := ⟨_, rfl⟩
      have hT2l : T2.data.toList = s.data.toList.take R.1 ++ R.2 := by rw [hT2, app_list, hT, hL, hroot, hR2]
      have hL1 : L.size = 1 := by rw [← data_len, hL, hroot]; rfl
      have hT2s : T2.size = p + 1 := by rw [hT2, ByteArray.size_append, hTs, hL1]
      have hT2n := hT2.symm
      have hadd : T.size + L.size ≤ 100000 := by omega
      have hR1 : R.1 = p := by rw [hR2]
      have HFIN := @rw_fin w wr h O T2 (.slice vy vn vc) B s.data.toList ms R done LB HNM.out HO.out HLB.out HR.out hT2l (by rw [hR1]; omega) (by rw [hR1]; exact hdn) HB.out HRW.out
      have HDL : Hid ((mkM LB s.data.toList done).length = fn) := by unfold Hid mkM; rw [List.length_map]; exact hd
      by_cases hfit : LB + T2.size ≤ 4096
      · obtain ⟨HE, HF⟩ := HFIN.1 hfit
        have HEE : Hid (namE B ms s.data.toList = 0) := HE
        have HFF : Hid _ := HF
        have hfit' : decide ((4096 : Int) < (LB : Int) + ((p : Int) + 1)) = false := by rw [hT2s] at hfit; simp; omega
        have hlong : O.size + T2.size ≤ 100000 := by omega
        have HROW1 : Hid ((wr.setCell ⟨h, 0, none⟩ (.string (O ++ T2))).ownsRow w.heap.size 80 2 (.slice fy fn fc) fn (mkC (mkM LB s.data.toList done))) := Turn.row (S := fun k => k = h) (Turn.of_set (S := fun k => k = h) wr (p := ⟨h, 0, none⟩) rfl _) hrow (fun k hk e => by have := (hrow.lt k hk).1; have := HA.out.1.lt; omega)
        have HRW1 : Hid (RW (wr.setCell ⟨h, 0, none⟩ (.string (O ++ T2))) h (O ++ T2) (.slice vy vn vc) ms) := HRW.out.stored.1
        have HOW1 : Hid ((wr.setCell ⟨h, 0, none⟩ (.string (O ++ T2))).ownsRow 0 80 2 (.slice vy vn vc) vn (mkC ms)) := by unfold Hid; have := HRW1.out.2; rw [← HVR.out] at this; exact this
        have d1 : (wr.setCell ⟨h, 0, none⟩ (.string (O ++ T2))).cell? ⟨h, 1, none⟩ = some (.slice vy vn vc) := HRW1.out.1.cell 1
        clear hroot hT2 hL HFIN HF HE hT2l hR2 hR1 hdn hw hT hd hrow hb HI h0 hfit
        go_wp2_with (at_builtin; refine wpList_appM _ rfl (.tmp 82) (.tmp 83) rfl 0 (.slice vy vn vc) vn _ rfl HOW1.out fy fn fc (mkM LB s.data.toList done) rfl HDL.out (marks_src HROW1.out) (by omega) (Nat.zero_le _) ?_; intro v5 w5 own5 grow5 at5; obtain ⟨y5, k5, rfl⟩ := row_shape own5; have HL : Hid _ := HFF.out _ _ _ own5 grow5 at5; have c5 : w5.cell? ⟨h, 1, none⟩ = some (.slice vy vn vc) := (HRW1.out.1.grown grow5 HRW1.out.sep).cell 1; have f5 : w5.frozen? ⟨h, 1, none⟩ = false := (HRW1.out.1.grown grow5 HRW1.out.sep).frozen 1; clear own5 grow5 at5)
        go_ret
        rw [HEE.out]
        exact ⟨rfl, HL.out⟩
      · obtain ⟨HE, HF⟩ := HFIN.2 hfit
        have HEE : Hid (namE B ms s.data.toList = 501) := HE
        have HFF : Hid _ := HF
        have hfit' : (4096 : Int) < (LB : Int) + ((p : Int) + 1) := by rw [hT2s] at hfit; omega
        clear hroot hT2 hL HFIN HF HE hT2l hR2 hR1 hdn hw hT hd hrow hb HI h0 hfit
        go_wp2
        go_ret
        rw [HEE.out]
        exact ⟨rfl, HFF.out⟩
    · have hne := nat_not_root hpl h0
      have ht : (L.toList == [0]) = false := by rw [ByteArray.toList_eq, hL]; simpa using hne
      have ht' : (L.toList != [0]) = true := by simp only [bne, ht, Bool.not_false]
      cases hpq : plc ms (s.data.toList.drop p) with
      | some q =>
        obtain ⟨hR2, hdn⟩ := w_hit hw hpl h0 hpq
        have hq := HQ.out _ _ hpq
        obtain ⟨T2, hT2⟩ : ∃ T2, T2 = T ++ be2 ((49152 : Int) + (q : Int)) := ⟨_, rfl⟩
        have hT2l : T2.data.toList = s.data.toList.take R.1 ++ R.2 := by rw [hT2, app_list, hT, be2_ptr q hq, hR2]
        have hbs : (be2 ((49152 : Int) + (q : Int))).size = 2 := rfl
        have hT2s : T2.size = p + 2 := by rw [hT2, ByteArray.size_append, hTs, hbs]
        have hT2n := hT2.symm
        have HPL : Hid (plc ms L.data.toList = some q) := by unfold Hid; rw [hL]; exact hpq
        have hadd : T.size + (be2 ((49152 : Int) + (q : Int))).size ≤ 100000 := by omega
        obtain ⟨BB, hBB⟩ : ∃ BB, BB = be2 ((49152 : Int) + (q : Int)) := ⟨_, rfl⟩
        have HBE : Hid (∀ u, Calls Try.prog 18 #[.int .i64 ((49152 : Int) + (q : Int)), .int .i64 2] u fun e w' => e = .returned (.string BB) ∧ Below u.heap.size u w') := fun u => by rw [hBB]; exact be_two _ u
        have hplc := fun u (hu : RW u h O (.slice vy vn vc) ms) => rPlace_as h O (.slice vy vn vc) ms L (some q) u (by rw [← HVR.out]; exact hvn5) hu HPL.out
        unfold plI at hplc
        have HPC : Hid (∀ u, RW u h O (.slice vy vn vc) ms → Calls Try.prog 35 #[.pointer (some ⟨h, 0, none⟩), .string L] u fun e w' => e = .returned (.int .i64 (q : Int)) ∧ w' = u) := hplc
        rw [← hBB] at hT2n hadd
        have hq0 : (0 : Int) ≤ (q : Int) := by omega
        have hBs : BB.size = 2 := by rw [hBB]; exact hbs
        have hR1 : R.1 = p := by rw [hR2]
        have HFIN := fun u hbu hru => @rw_fin w u h O T2 (.slice vy vn vc) B s.data.toList ms R done LB HNM.out HO.out HLB.out HR.out hT2l (by rw [hR1]; omega) (by rw [hR1]; exact hdn) hbu hru
        have HDL : Hid ((mkM LB s.data.toList done).length = fn) := by unfold Hid mkM; rw [List.length_map]; exact hd
        by_cases hfit : LB + T2.size ≤ 4096
        · have HEE : Hid (namE B ms s.data.toList = 0) := ((HFIN wr HB.out HRW.out).1 hfit).1
          have HF1 := fun u hbu hru => ((HFIN u hbu hru).1 hfit).2
          have HFF : Hid _ := HF1
          clear HF1
          have hfit' : decide ((4096 : Int) < (LB : Int) + ((p : Int) + 2)) = false := by rw [hT2s] at hfit; simp; omega
          have hlong : O.size + T2.size ≤ 100000 := by omega
          clear hpq hT2 hplc hne hL hbs hBB HFIN hT2l hR2 hR1 hdn hw hT hd hrow hb HI h0 hfit
          go_wp2_with (first
            | (go_at_call 35; go_must (refine (HPC.out _ HRW.out).mono ?_); rintro e w' ⟨rfl, hw'⟩; obtain rfl := hw'.symm)
            | (go_at_call 18; go_must (refine (HBE.out _).mono ?_); rintro e u ⟨rfl, bu⟩; have HBU : Hid (Below w.heap.size w u) := next HB.out bu; have HRU : Hid (RW u h O (.slice vy vn vc) ms) := HRW.out.below bu; have HROW1 : Hid ((u.setCell ⟨h, 0, none⟩ (.string (O ++ T2))).ownsRow w.heap.size 80 2 (.slice fy fn fc) fn (mkC (mkM LB s.data.toList done))) := row_stored bu HROW.out HA.out.1.lt _; have HRW1 : Hid (RW (u.setCell ⟨h, 0, none⟩ (.string (O ++ T2))) h (O ++ T2) (.slice vy vn vc) ms) := HRU.out.stored.1; have HOW1 : Hid ((u.setCell ⟨h, 0, none⟩ (.string (O ++ T2))).ownsRow 0 80 2 (.slice vy vn vc) vn (mkC ms)) := row_num HRW1.out.2 HVR.out; have d1 : (u.setCell ⟨h, 0, none⟩ (.string (O ++ T2))).cell? ⟨h, 1, none⟩ = some (.slice vy vn vc) := HRW1.out.1.cell 1; have d0 : u.cell? ⟨h, 0, none⟩ = some (.string O) := HRU.out.1.cell 0; have e0 := HRU.out.1.frozen 0; clear bu)
            | (at_builtin; refine wpList_appM _ rfl (.tmp 82) (.tmp 83) rfl 0 (.slice vy vn vc) vn _ rfl HOW1.out fy fn fc (mkM LB s.data.toList done) rfl HDL.out (marks_src HROW1.out) (by omega) (Nat.zero_le _) ?_; intro v5 w5 own5 grow5 at5; obtain ⟨y5, k5, rfl⟩ := row_shape own5; have HL : Hid _ := HFF.out _ HBU.out HRU.out _ _ _ own5 grow5 at5; have c5 : w5.cell? ⟨h, 1, none⟩ = some (.slice vy vn vc) := (HRW1.out.1.grown grow5 HRW1.out.sep).cell 1; have f5 : w5.frozen? ⟨h, 1, none⟩ = false := (HRW1.out.1.grown grow5 HRW1.out.sep).frozen 1; clear own5 grow5 at5))
          go_ret
          rw [HEE.out]
          exact ⟨rfl, HL.out⟩
        · have HEE : Hid (namE B ms s.data.toList = 501) := ((HFIN wr HB.out HRW.out).2 hfit).1
          have HF1 := fun u hbu hru => ((HFIN u hbu hru).2 hfit).2
          have HFF : Hid _ := HF1
          clear HF1
          have hfit' : (4096 : Int) < (LB : Int) + ((p : Int) + 2) := by rw [hT2s] at hfit; omega
          clear hpq hT2 hplc hne hL hbs hBB HFIN hT2l hR2 hR1 hdn hw hT hd hrow hb HI h0 hfit
          go_wp2_with (first
            | (go_at_call 35; go_must (refine (HPC.out _ HRW.out).mono ?_); rintro e w' ⟨rfl, hw'⟩; obtain rfl := hw'.symm)
            | (go_at_call 18; go_must (refine (HBE.out _).mono ?_); rintro e u ⟨rfl, bu⟩; have HBU : Hid (Below w.heap.size w u) := next HB.out bu; have HRU : Hid (RW u h O (.slice vy vn vc) ms) := HRW.out.below bu; have d0 : u.cell? ⟨h, 0, none⟩ = some (.string O) := HRU.out.1.cell 0; clear bu))
          go_ret
          rw [HEE.out]
          exact ⟨rfl, HFF.out _ HBU.out HRU.out⟩
      | none =>
        obtain ⟨hw2, hlt⟩ := w_miss hw hpl h0 hpq
        have hst := nat_step hw.1 hpl h0
        have HPL : Hid (plc ms L.data.toList = none) := by unfold Hid; rw [hL]; exact hpq
        have hplc := rPlace_as h O (.slice vy vn vc) ms L none wr (by rw [← HVR.out]; exact hvn5) HRW.out HPL.out
        unfold plI at hplc
        have hL0 : 0 < L.size := by omega
        have hLc : L[0]'hL0 = s[p] := by
          have h1 : L.data.toList[0]'(by rw [data_len]; exact hL0) = s.data.toList[p] := by simp only [hL, List.getElem_drop, Nat.add_zero]
          exact h1
        obtain ⟨c, hc⟩ : ∃ c, c = s[p].toNat := ⟨_, rfl⟩
        have i0 := idx L 0 0 rfl hL0
        rw [hLc, ← hc] at i0
        have hc63 : c ≤ 63 := by rw [hc]; exact hst.1
        have hcL : 1 + c ≤ L.size := by have : p + 1 + s[p].toNat < s.data.toList.length := hst.2.1; omega
        have k1 := cut_to L (1 + c) (1 + (c : Int)) (by omega) hcL
        have k2 := cut_rest L (1 + c) (1 + (c : Int)) (by omega) hcL
        obtain ⟨D1, hD1⟩ : ∃ D, D = L.extract 0 (1 + c) := ⟨_, rfl⟩
        obtain ⟨D2, hD2⟩ : ∃ D, D = L.extract (1 + c) L.size := ⟨_, rfl⟩
        have z1 : D1.size = 1 + c := by rw [hD1]; simp; omega
        have z2 : D2.size = L.size - (1 + c) := by rw [hD2]; simp
        have hadd : T.size + D1.size ≤ 100000 := by omega
        have HN : Hid (T.data.toList ++ D1.data.toList = s.data.toList.take (p + 1 + c) ∧ D2.data.toList = s.data.toList.drop (p + 1 + c)) := by
          unfold Hid
          constructor
          · rw [hT, hD1, ext_to, hL, show p + 1 + c = p + (1 + c) from by omega]
            exact List.take_add.symm
          · rw [hD2, ext_from, hL, List.drop_drop, show p + (1 + c) = p + 1 + c from by omega]
        have HW2 : Hid (WAt ms s.data.toList (p + 1 + c) R (done ++ [p])) := by rw [hc]; exact hw2
        have HLL : Hid (L.data.toList = s.data.toList.drop p) := hL
        have HD : Hid (done.length = fn) := hd
        have hat : (LB : Int) + (p : Int) ≤ 16383 := by omega
        rw [← hD1] at k1
        rw [← hD2] at k2
        have hm1 : decide ((0 : Int) ≤ -1) = false := by decide
        have HPC : Hid (Calls Try.prog 35 #[.pointer (some ⟨h, 0, none⟩), .string L] wr fun e w' => e = .returned (.int .i64 (-1)) ∧ w' = wr) := hplc
        clear hpq hplc hw2 hst hLc hc hD1 hD2 hne hL hT hw hd hrow hb HI h0
        have hbn : ((LB + p : Nat) : Int) = (LB : Int) + (p : Int) := by omega
        have hfn : fn + 1 ≤ 10000 := by omega
        have hsz := (HB.out.alloc HB.out.size (Obj.cells #[Value.string L, Value.int .i64 ((LB : Int) + (p : Int))] 80)).size
        go_wp2_with (first
          | (go_at_call 35; go_must (refine HPC.out.mono ?_); rintro e w' ⟨rfl, hw'⟩; obtain rfl := hw'.symm)
          | (at_builtin; refine wpList_appM _ rfl (.tmp 37) (.tmp 41) rfl w.heap.size (.slice fy fn fc) fn _ rfl (HROW.out.alloc (Obj.cells #[Value.string L, Value.int .i64 ((LB : Int) + (p : Int))] 80)) (some ⟨wr.heap.size, 0, none⟩) 1 1 [(s.data.toList.drop p, LB + p)] rfl rfl (.inr ⟨_, rfl, mark_cell wr L _ (LB + p) _ hbn HLL.out⟩) hfn hsz ?_; intro v5 w5 own5 grow5 at5; obtain ⟨y5, k5, rfl⟩ := row_shape own5; have OWN5 : Hid (w5.ownsRow w.heap.size 80 2 (.slice y5 (fn + 1) k5) (fn + 1) (mkC (mkM LB s.data.toList done) ++ mkC [(s.data.toList.drop p, LB + p)])) := own5; have GROW5 : Hid ((wr.alloc (Obj.cells #[Value.string L, Value.int .i64 ((LB : Int) + (p : Int))] 80)).grownBy w5 (Value.slice fy fn fc).ownBlock) := grow5; clear own5 grow5 at5))
        refine ⟨⟨p + 1 + c, fn + 1, k5, y5, T ++ D1, D2, done ++ [p], rfl, rfl, rfl, by omega, by rw [ByteArray.size_append, hTs, z1]; omega, by omega, HW2.out, by rw [app_list]; exact HN.out.1, HN.out.2, by rw [List.length_append, HD.out]; rfl, ?_, ?_⟩, ?_⟩
        · rw [mkM_snoc, mkC_app]; exact OWN5.out
        · exact (HB.out.alloc HB.out.size _).grown GROW5.out hsz (fun k e => (HROW.out.lt k e).1)
        · simp only [lenOf]; omega

/-- What Name of the document's Writer gives, for every argument. -/
theorem rwName_any (h : Nat) (O : ByteArray) (v : Value) (B : List UInt8) (ms : Marks) (s : ByteArray) (w : World) (hO : O.data.toList = B) (hf : Fine B ms) (hs : s.size ≤ maxLen) (a : RW w h O v ms) :
    Calls Try.prog 17 #[.pointer (some ⟨h, 0, none⟩), .string s] w fun e w' => e = .returned (.int .i64 (namE B ms s.data.toList)) ∧ RLeft h v w w' (namB B ms s.data.toList) (namM B ms s.data.toList) := by
  cases hn : isName s.data.toList with
  | false => obtain ⟨h1, h2, h3⟩ := nam_no (B := B) (ms := ms) hn; rw [h1, h2, h3]; exact rwName_no h O v B ms s w hO hs hn a
  | true => exact rwName_yes h O v B ms s w hO hf hn a

end Go.Proofs.Ytbffnicfibfceaa

/- The document's Writer, alone: what Raw, Name, All and rr leave. -/
namespace Go.Proofs.Ytbffnicfibfceaa
open Go.RowKit
open Pl

/-- Rows of other types than the document's Writer's lie as they lay. -/
def Bew (w w' : World) : Prop := ∀ (k : Nat) (c : Array Value) (t : TypeId) (f : Nat × Nat), w.heap[k]? = some (Obj.cells c t f) → t ≠ 46 → t ≠ 80 → w'.heap[k]? = some (Obj.cells c t f)
theorem Bew.refl (w : World) : Bew w w := fun _ _ _ _ h _ _ => h
theorem Bew.trans {a b c : World} (h : Bew a b) (k : Bew b c) : Bew a c := fun i x t f hi h1 h2 => k i x t f (h i x t f hi h1 h2) h1 h2
theorem Bew.of_below {w w' : World} (h : Below w.heap.size w w') : Bew w w' := fun k c t f hk _ _ => by
  rw [h.block k (Array.getElem?_eq_some_iff.1 hk).1]; exact hk
theorem Bew.blk {w w' : World} {g : Nat} {C : Array Value} {t : TypeId} (h : Bew w w') (hb : Blk w g C t) (h1 : t ≠ 46) (h2 : t ≠ 80) : Blk w' g C t := h g C t (0, 0) hb h1 h2

/-- At h lies a Writer of the document's that was made since w0. -/
def RO (w0 w : World) (h : Nat) (B : List UInt8) (ms : Marks) : Prop := (∃ v, RW w h ⟨B.toArray⟩ v ms ∧ ∀ k, own2 h v k → w0.heap.size ≤ k) ∧ Fine B ms ∧ Below w0.heap.size w0 w
section
variable {w0 w w' : World} {h : Nat} {B B2 : List UInt8} {ms ms2 : Marks}
theorem RO.out (a : RO w0 w h B ms) : Below w0.heap.size w0 w := a.2.2
theorem RO.below (a : RO w0 w h B ms) (hb : Below w.heap.size w w') : RO w0 w' h B ms := by
  obtain ⟨⟨v, a1, a2⟩, a3, a4⟩ := a
  exact ⟨⟨v, a1.below hb, a2⟩, a3, next a4 hb⟩
theorem RW.kind {O : ByteArray} {v : Value} (a : RW w h O v ms) {k : Nat} (hk : own2 h v k) : ∃ c t f, w.heap[k]? = some (Obj.cells c t f) ∧ (t = 46 ∨ t = 80) := by
  rcases hk with rfl | hk
  · exact ⟨_, _, _, a.1, .inl rfl⟩
  · rcases a.2.2 with ⟨h3, _⟩ | ⟨g', cap, cur, h3, _, hg, _⟩
    · rw [h3] at hk; simp [Value.ownBlock] at hk
    · rw [h3] at hk
      simp [Value.ownBlock] at hk
      subst hk
      exact ⟨_, _, _, hg, .inr rfl⟩
theorem ro_left {v : Value} (a1 : RW w h ⟨B.toArray⟩ v ms) (a2 : ∀ k, own2 h v k → w0.heap.size ≤ k) (a4 : Below w0.heap.size w0 w) (hf : Fine B2 ms2) (hl : RLeft h v w w' B2 ms2) : RO w0 w' h B2 ms2 ∧ Bew w w' := by
  obtain ⟨O, v2, r1, r2, r3, r4⟩ := hl
  refine ⟨⟨⟨v2, ?_, fun k hk => ?_⟩, hf, Turn.below a4 r3 a4.size a2⟩, fun k c t f hk h1 h2 => ?_⟩
  · rw [← r2]; exact r1
  · rcases r4 k hk with e | e
    · exact a2 k e
    · exact Nat.le_trans a4.size e
  · rw [r3.block k (Array.getElem?_eq_some_iff.1 hk).1 (fun e => ?_)]
    · exact hk
    · obtain ⟨c', t', f', e1, e2⟩ := a1.kind e
      rw [e1] at hk
      simp at hk
      rcases e2 with e2 | e2
      · exact h1 (by rw [← hk.2.1]; exact e2)
      · exact h2 (by rw [← hk.2.1]; exact e2)
theorem rraw_o (s : ByteArray) (hs : s.size ≤ maxLen) (a : RO w0 w h B ms) :
    Calls Try.prog 16 #[.pointer (some ⟨h, 0, none⟩), .string s] w fun e w' => e = .returned (.int .i64 (rawE B s)) ∧ RO w0 w' h (rawB B s) ms ∧ Bew w w' := by
  obtain ⟨⟨v, a1, a2⟩, a3, a4⟩ := a
  exact (rRaw_any h _ v B ms s w (by simp) a3.1 hs a1).mono fun e w' ⟨he, hl⟩ => ⟨he, ro_left a1 a2 a4 (fine_raw a3 s) hl⟩
theorem rname_o (s : ByteArray) (hs : s.size ≤ maxLen) (a : RO w0 w h B ms) :
    Calls Try.prog 17 #[.pointer (some ⟨h, 0, none⟩), .string s] w fun e w' => e = .returned (.int .i64 (namE B ms s.data.toList)) ∧ RO w0 w' h (namB B ms s.data.toList) (namM B ms s.data.toList) ∧ Bew w w' := by
  obtain ⟨⟨v, a1, a2⟩, a3, a4⟩ := a
  exact (rwName_any h _ v B ms s w (by simp) a3 hs a1).mono fun e w' ⟨he, hl⟩ => ⟨he, ro_left a1 a2 a4 (fine_name a3 _) hl⟩
theorem rall_o (a : RO w0 w h B ms) : Calls Try.prog 20 #[.pointer (some ⟨h, 0, none⟩)] w fun e w' => e = .returned (.string ⟨B.toArray⟩) ∧ w' = w := by
  obtain ⟨⟨v, a1, _⟩, _⟩ := a
  exact rAll_any h _ v ms w a1
theorem ro_new (hb : Below w0.heap.size w0 w) : RO w0 (w.alloc (.cells #[.string ⟨#[]⟩, .slice none 0 0] 46)) w.heap.size [] [] := by
  refine ⟨⟨_, RW.new w, fun k hk => ?_⟩, fine_nil, lay hb _⟩
  rcases hk with rfl | hk
  · exact hb.size
  · simp [Value.ownBlock] at hk
end

/-- How a step ends: as o says. -/
def SO (w0 w' : World) (h : Nat) (b : Bool) (o : Option St) : Prop := (b = true ∧ ∃ B ms, o = some (B, ms) ∧ RO w0 w' h B ms) ∨ (b = false ∧ o = none ∧ Below w0.heap.size w0 w')
theorem so_name {w0 w' : World} {h : Nat} {B : List UInt8} {ms : Marks} {n : ByteArray} (a : RO w0 w' h (namB B ms n.data.toList) (namM B ms n.data.toList)) (f : St → Option St) (he : namE B ms n.data.toList ≠ 0) : SO w0 w' h false ((stN (B, ms) n).bind f) := by
  refine .inr ⟨rfl, ?_, a.out⟩
  unfold stN
  rw [if_neg he]; rfl
theorem so_raw {w0 w' : World} {h : Nat} {B : List UInt8} {ms : Marks} {s : ByteArray} (a : RO w0 w' h (rawB B s) ms) {b : Bool} (hb : b = (rawE B s == 0)) {o : Option St} (ho : o = stR (B, ms) s) : SO w0 w' h b o := by
  subst ho
  unfold stR
  by_cases he : rawE B s = 0
  · rw [if_pos he]
    exact .inl ⟨by rw [hb, he]; rfl, _, _, rfl, a⟩
  · rw [if_neg he]
    exact .inr ⟨by rw [hb]; simpa using he, rfl, a.out⟩

set_option maxRecDepth 20000 in
set_option maxHeartbeats 2000000 in
theorem rr_any {w0 w : World} {h : Nat} {B : List UInt8} {ms : Marks} (r : Rc) (hs : r.n.size ≤ maxLen) (hd : r.d.size ≤ 65535) (a : RO w0 w h B ms) :
    Calls Try.prog 19 #[.pointer (some ⟨h, 0, none⟩), .agg #[.string r.n, .int .i64 r.t, .int .i64 r.c, .int .i64 r.l, .string r.d]] w fun e w' => ∃ b, e = .returned (.bool b) ∧ SO w0 w' h b (stC (B, ms) r) ∧ Bew w w' := by
  obtain ⟨n, t, c, l, d⟩ := r
  simp only at hs hd ⊢
  have HA : Hid (RO w0 w h B ms) := a
  have KB := Blk.new w #[.string n, .int .i64 t, .int .i64 c, .int .i64 l, .string d] 54
  obtain ⟨X, hX⟩ : ∃ X, X = be2 t := ⟨_, rfl⟩
  obtain ⟨Y, hY⟩ : ∃ Y, Y = be2 c := ⟨_, rfl⟩
  obtain ⟨Z, hZ⟩ : ∃ Z, Z = be4 l := ⟨_, rfl⟩
  obtain ⟨U, hU⟩ : ∃ U, U = be2 (d.size : Int) := ⟨_, rfl⟩
  have sX : X.size = 2 := by rw [hX]; rfl
  have sY : Y.size = 2 := by rw [hY]; rfl
  have sZ : Z.size = 4 := by rw [hZ]; rfl
  have sU : U.size = 2 := by rw [hU]; rfl
  have HQ : Hid (rB ⟨n, t, c, l, d⟩ ++ d = X ++ Y ++ Z ++ U ++ d) := by unfold Hid rB; rw [hX, hY, hZ, hU]
  have HZ : Hid ((X ++ Y ++ Z ++ U ++ d).size ≤ maxLen) := by unfold Hid maxLen; simp only [ByteArray.size_append]; omega
  have k1 := fun u => be_two t u
  have k2 := fun u => be_two c u
  have k3 := fun u => be_four l u
  have k4 := fun u => be_two (d.size : Int) u
  rw [← hX] at k1
  rw [← hY] at k2
  rw [← hZ] at k3
  rw [← hU] at k4
  have z1 : ∀ u : World, (Op.stringOp .add X Y).run Try.prog u = .ok (.string (X ++ Y)) u := fun u => run_string_add_sum u X Y (by omega)
  have z2 : ∀ u : World, (Op.stringOp .add (X ++ Y) Z).run Try.prog u = .ok (.string (X ++ Y ++ Z)) u := fun u => run_string_add_sum u _ Z (by rw [ByteArray.size_append]; omega)
  have z3 : ∀ u : World, (Op.stringOp .add (X ++ Y ++ Z) U).run Try.prog u = .ok (.string (X ++ Y ++ Z ++ U)) u := fun u => run_string_add_sum u _ U (by rw [ByteArray.size_append, ByteArray.size_append]; omega)
  have z4 : ∀ u : World, (Op.stringOp .add (X ++ Y ++ Z ++ U) d).run Try.prog u = .ok (.string (X ++ Y ++ Z ++ U ++ d)) u := fun u => run_string_add_sum u _ d (by rw [ByteArray.size_append, ByteArray.size_append, ByteArray.size_append]; omega)
  clear a hX hY hZ hU sX sY sZ sU
  have t1 : True := trivial
  have t2 : True := trivial
  have t3 : True := trivial
  by_cases hE : namE B ms n.data.toList = 0
  · have HN : Hid (stC (B, ms) ⟨n, t, c, l, d⟩ = stR (namB B ms n.data.toList, namM B ms n.data.toList) (X ++ Y ++ Z ++ U ++ d)) := by
      unfold Hid stC stN
      rw [if_pos hE, HQ.out]; rfl
    have hk := rname_o (w0 := w0) (h := h) (B := B) (ms := ms) n hs (HA.out.below (lay (Below.refl _ _) (.cells #[.string n, .int .i64 t, .int .i64 c, .int .i64 l, .string d] 54)))
    rw [hE] at hk
    obtain ⟨EE, hEE⟩ : ∃ EE, rawE (namB B ms n.data.toList) (X ++ Y ++ Z ++ U ++ d) = EE := ⟨_, rfl⟩
    have HEE : Hid (rawE (namB B ms n.data.toList) (X ++ Y ++ Z ++ U ++ d) = EE) := hEE
    have kr : ∀ u, RO w0 u h (namB B ms n.data.toList) (namM B ms n.data.toList) → Calls Try.prog 16 #[.pointer (some ⟨h, 0, none⟩), .string (X ++ Y ++ Z ++ U ++ d)] u fun e w' => e = .returned (.int .i64 EE) ∧ RO w0 w' h (rawB (namB B ms n.data.toList) (X ++ Y ++ Z ++ U ++ d)) (namM B ms n.data.toList) ∧ Bew u w' := fun u hu => by rw [← hEE]; exact rraw_o _ HZ.out hu
    clear hE hEE
    go_enter Try.func19, Try.ntmps19
    go_wp2_with (go_at_call 17; go_must (refine hk.mono ?_); rintro e w1 ⟨rfl, h1, b1⟩; have H1 : Hid (RO w0 w1 h (namB B ms n.data.toList) (namM B ms n.data.toList)) := h1; have B1 : Hid (Bew w w1) := (Bew.of_below (lay (Below.refl _ _) _)).trans b1; replace KB := b1.blk KB (by decide) (by decide); have c1 : w1.cell? ⟨w.heap.size, 1, none⟩ = some (.int .i64 t) := KB.cell 1; have c2 : w1.cell? ⟨w.heap.size, 2, none⟩ = some (.int .i64 c) := KB.cell 2; have c3 : w1.cell? ⟨w.heap.size, 3, none⟩ = some (.int .i64 l) := KB.cell 3; have c4 : w1.cell? ⟨w.heap.size, 4, none⟩ = some (.string d) := KB.cell 4; clear h1 b1)
    go_region_held3 (fun u => u.cell? ⟨w.heap.size, 1, none⟩ = some (.int .i64 t) ∧ u.cell? ⟨w.heap.size, 2, none⟩ = some (.int .i64 c) ∧ u.cell? ⟨w.heap.size, 3, none⟩ = some (.int .i64 l) ∧ u.cell? ⟨w.heap.size, 4, none⟩ = some (.string d)) (first | (simp only [World.cell?_drew, c1, c2, c3, c4, and_self]; done))
      (first
        | (go_at_call 18; have _t := t1; refine (k1 _).mono ?_; rintro e w2 ⟨rfl, b2⟩; replace b2 := next (Below.refl _ _).drew b2; have KB2 := KB.below b2; have c1 : w2.cell? ⟨w.heap.size, 1, none⟩ = some (.int .i64 t) := KB2.cell 1; have c2 : w2.cell? ⟨w.heap.size, 2, none⟩ = some (.int .i64 c) := KB2.cell 2; have c3 : w2.cell? ⟨w.heap.size, 3, none⟩ = some (.int .i64 l) := KB2.cell 3; have c4 : w2.cell? ⟨w.heap.size, 4, none⟩ = some (.string d) := KB2.cell 4; clear _t t1)
        | (go_at_call 18; have _t := t2; refine (k2 _).mono ?_; rintro e w3 ⟨rfl, b3⟩; replace b3 := next b2 b3; have KB3 := KB.below b3; have c1 : w3.cell? ⟨w.heap.size, 1, none⟩ = some (.int .i64 t) := KB3.cell 1; have c2 : w3.cell? ⟨w.heap.size, 2, none⟩ = some (.int .i64 c) := KB3.cell 2; have c3 : w3.cell? ⟨w.heap.size, 3, none⟩ = some (.int .i64 l) := KB3.cell 3; have c4 : w3.cell? ⟨w.heap.size, 4, none⟩ = some (.string d) := KB3.cell 4; clear _t t2)
        | (go_at_call 18; have _t := t3; refine (k3 _).mono ?_; rintro e w4 ⟨rfl, b4⟩; replace b4 := next b3 b4; have KB4 := KB.below b4; have c1 : w4.cell? ⟨w.heap.size, 1, none⟩ = some (.int .i64 t) := KB4.cell 1; have c2 : w4.cell? ⟨w.heap.size, 2, none⟩ = some (.int .i64 c) := KB4.cell 2; have c3 : w4.cell? ⟨w.heap.size, 3, none⟩ = some (.int .i64 l) := KB4.cell 3; have c4 : w4.cell? ⟨w.heap.size, 4, none⟩ = some (.string d) := KB4.cell 4; clear _t t3)
        | (go_at_call 18; refine (k4 _).mono ?_; rintro e w5 ⟨rfl, b5⟩; replace b5 := next b4 b5; have KB5 := KB.below b5; have c1 : w5.cell? ⟨w.heap.size, 1, none⟩ = some (.int .i64 t) := KB5.cell 1; have c2 : w5.cell? ⟨w.heap.size, 2, none⟩ = some (.int .i64 c) := KB5.cell 2; have c3 : w5.cell? ⟨w.heap.size, 3, none⟩ = some (.int .i64 l) := KB5.cell 3; have c4 : w5.cell? ⟨w.heap.size, 4, none⟩ = some (.string d) := KB5.cell 4)
        | (go_at_call 16; refine (kr _ (H1.out.below b5)).mono ?_; rintro e w6 ⟨rfl, h6, b6⟩; have H6 : Hid (RO w0 w6 h (rawB (namB B ms n.data.toList) (X ++ Y ++ Z ++ U ++ d)) (namM B ms n.data.toList)) := h6; have B6 : Hid (Bew w w6) := (B1.out.trans (Bew.of_below b5)).trans b6; have KB6 := b6.blk KB5 (by decide) (by decide); have c1 : w6.cell? ⟨w.heap.size, 1, none⟩ = some (.int .i64 t) := KB6.cell 1; have c2 : w6.cell? ⟨w.heap.size, 2, none⟩ = some (.int .i64 c) := KB6.cell 2; have c3 : w6.cell? ⟨w.heap.size, 3, none⟩ = some (.int .i64 l) := KB6.cell 3; have c4 : w6.cell? ⟨w.heap.size, 4, none⟩ = some (.string d) := KB6.cell 4; clear h6 b6))
    go_wp2
    go_ret
    exact ⟨_, rfl, so_raw H6.out (by rw [HEE.out]) HN.out, B6.out⟩
  · have hE' : (namE B ms n.data.toList == 0) = false := by simpa using hE
    obtain ⟨EE, hEE⟩ : ∃ EE, namE B ms n.data.toList = EE := ⟨_, rfl⟩
    have HE : Hid (namE B ms n.data.toList ≠ 0) := hE
    have hk := rname_o (w0 := w0) (h := h) (B := B) (ms := ms) n hs (HA.out.below (lay (Below.refl _ _) (.cells #[.string n, .int .i64 t, .int .i64 c, .int .i64 l, .string d] 54)))
    rw [hEE] at hk hE'
    clear hE hEE
    go_enter Try.func19, Try.ntmps19
    go_wp2_with (go_at_call 17; go_must (refine hk.mono ?_); rintro e w1 ⟨rfl, h1, b1⟩; have H1 : Hid (RO w0 w1 h (namB B ms n.data.toList) (namM B ms n.data.toList)) := h1; have B1 : Hid (Bew w w1) := (Bew.of_below (lay (Below.refl _ _) _)).trans b1; clear h1 b1)
    go_ret
    exact ⟨_, rfl, so_name H1.out _ HE.out, B1.out⟩

end Go.Proofs.Ytbffnicfibfceaa
