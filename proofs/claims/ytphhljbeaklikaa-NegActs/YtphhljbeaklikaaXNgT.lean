/- Rows of what is not there: alike, written over; the program's Negs and the document's, side by side. -/
import Derived.Test.YtphhljbeaklikaaXNgS
import Derived.Laws.StructEq
namespace Go.Proofs.Ytphhljbeaklikaa
open Go.RowKit
open Pl
namespace Ng

theorem neg_same (a : ByteArray) (s t : Int) (u : World) : (binOp .neq 33 (.agg #[.string a, .int .i64 s, .int .i64 t]) (.agg #[.string a, .int .i64 s, .int .i64 t])).run Try.prog u = .ok (.bool false) u := by
  rw [run_neq_struct (P := Try.prog) (w := u) 33 #[.string a, .int .i64 s, .int .i64 t] #[.string a, .int .i64 s, .int .i64 t]]
  rw [show (10000 : Nat) = 9999 + 1 from rfl, run_equalIn_struct (P := Try.prog) u 9999 33 #[.string a, .int .i64 s, .int .i64 t] #[.string a, .int .i64 s, .int .i64 t] (by kernel_rfl) (by kernel_rfl)]
  go_simp

set_option maxRecDepth 20000 in
theorem sameN_yes {B1 B2 n : Nat} {w : World} {v u : Value} {M : List En} (h1 : w.ownsRow B1 33 3 v n (nC M)) (h2 : w.ownsRow B2 33 3 u n (nC M)) (hn : n ≤ 256) :
    Calls Try.prog 18 #[v, u] w fun e w' => e = .returned (.bool true) ∧ Below w.heap.size w w' := by
  obtain ⟨y, c, rfl⟩ := row_shape h1
  obtain ⟨y', c', rfl⟩ := row_shape h2
  have HL : Hid (n = M.length) := by have := h1.1; rw [nC_len] at this; unfold Hid; omega
  have H1 : Hid (w.ownsRow B1 33 3 (.slice y n c) n (nC M)) := h1
  have H2 : Hid (w.ownsRow B2 33 3 (.slice y' n c') n (nC M)) := h2
  have hne : ((n : Int) != (n : Int)) = false := by simp
  clear h1 h2
  go_enter Try.func18, Try.ntmps18
  go_wp2
  go_loopw [5] (fun i wr => ∃ k : Nat, k ≤ n ∧ i = .int .i64 (k : Int) ∧ Hid (Below w.heap.size w wr)) (fun i _ => n - (intOf i).toNat)
  case atStart => exact ⟨0, Nat.zero_le _, rfl, Below.refl _ _⟩
  case round =>
    obtain ⟨k, hk, rfl, HB⟩ := hrel
    by_cases hkn : k < n
    · have hkn' : (k : Int) < (n : Int) := by omega
      have hkM : k < M.length := by rw [← HL.out]; exact hkn
      have o1 := own_past H1.out HB.out
      have o2 := own_past H2.out HB.out
      obtain ⟨g, cap, e1, _, _⟩ := o1.form (by omega)
      obtain ⟨g', cap', e2, _, _⟩ := o2.form (by omega)
      simp only [Value.slice.injEq, true_and] at e1 e2
      obtain ⟨rfl, rfl⟩ := e1
      obtain ⟨rfl, rfl⟩ := e2
      obtain ⟨p, hp⟩ : ∃ p, p = M[k] := ⟨_, rfl⟩
      have ca : ∀ i, i < 3 → wr.cell? ⟨g, k * 3 + i, none⟩ = (nVc p)[i]? := fun i hi => by rw [o1.cellAt _ (by omega), nC_at hkM i hi, hp]
      have cb : ∀ i, i < 3 → wr.cell? ⟨g', k * 3 + i, none⟩ = (nVc p)[i]? := fun i hi => by rw [o2.cellAt _ (by omega), nC_at hkM i hi, hp]
      have a0 := ca 0 (by decide)
      have a1 := ca 1 (by decide)
      have a2 := ca 2 (by decide)
      have b0 := cb 0 (by decide)
      have b1 := cb 1 (by decide)
      have b2 := cb 2 (by decide)
      rw [Nat.add_zero] at a0 b0
      clear ca cb hp o1 o2
      obtain ⟨qn, qt, ql, qds, qr, qu⟩ := p
      simp only [nVc, List.getElem?_cons_succ, List.getElem?_cons_zero] at a0 a1 a2 b0 b1 b2
      have heq := fun u => neg_same qn qt qu u
      go_wp2
      go_region
      go_wp2
      have HB2 : Hid (Below w.heap.size w wr.drew) := next HB.out (Below.refl _ _).drew
      go_roundw
      case rel => exact ⟨k + 1, by omega, by go_num, HB2⟩
      case measure => simp [intOf]; omega
    · have hkn' : decide (k < n) = false := by simpa using hkn
      go_wp2
      go_ret
      exact ⟨rfl, HB.out⟩

/-- From the place j on each third cell's second is a number. -/
def NumsF (xs : List Value) (j n : Nat) : Prop := ∀ i, j ≤ i → i < n → ∃ z : Int, xs[i * 3 + 1]? = some (.int .i64 z)
theorem NumsF.set {xs : List Value} {j n : Nat} (h : NumsF xs j n) (v : Value) : NumsF (xs.set (j * 3 + 1) v) (j + 1) n := by
  intro i hi hn
  obtain ⟨z, h1⟩ := h i (by omega) hn
  exact ⟨z, by rw [List.getElem?_set_ne (by omega)]; exact h1⟩
theorem numsF_nC {M : List En} {n : Nat} (hn : n ≤ M.length) : NumsF (nC M) 0 n := fun i _ hi => ⟨(M[i]'(by omega)).t, by rw [nC_at (by omega) 1 (by decide)]; rfl⟩
set_option maxRecDepth 20000 in
theorem spoilN_any {B n cap : Nat} {y : Option Addr} {xs : List Value} {w : World} (hown : w.ownsRow B 33 3 (.slice y n cap) n xs) (hi : NumsF xs 0 n) (hn : n ≤ 256) :
    Calls Try.prog 20 #[.slice y n cap] w fun e w' => e = .returned (.tuple #[]) ∧ Turn (fun k => (Value.slice y n cap).ownBlock = some k) w w' := by
  have HT : Hid (Turn (fun k => (Value.slice y n cap).ownBlock = some k) w w) := Turn.refl _ _
  by_cases h0 : n = 0
  · subst h0
    clear hown hi
    go_enter Try.func20, Try.ntmps20
    go_wp2
    go_loopw [2] (fun i wr => i = .int .i64 0 ∧ wr = w) (fun _ _ => 0)
    case atStart => exact ⟨rfl, rfl⟩
    case round =>
      obtain ⟨rfl, rfl⟩ := hrel
      go_wp2
      go_end0
      exact ⟨rfl, HT.out⟩
  · obtain ⟨g, cap', e1, _, _⟩ := hown.form (by omega)
    simp only [Value.slice.injEq, true_and] at e1
    obtain ⟨rfl, rfl⟩ := e1
    have HS : Hid (w.ownsRow B 33 3 (.slice (some ⟨g, 0, none⟩) n cap) n xs ∧ NumsF xs 0 n ∧ Turn (fun k => (Value.slice (some ⟨g, 0, none⟩) n cap).ownBlock = some k) w w) := ⟨hown, hi, HT.out⟩
    clear hown hi HT
    go_enter Try.func20, Try.ntmps20
    go_wp2
    go_loopw [2] (fun i wr => ∃ (j : Nat) (xs' : List Value), j ≤ n ∧ i = .int .i64 (j : Int) ∧ Hid (wr.ownsRow B 33 3 (.slice (some ⟨g, 0, none⟩) n cap) n xs' ∧ NumsF xs' j n ∧ Turn (fun k => (Value.slice (some ⟨g, 0, none⟩) n cap).ownBlock = some k) w wr)) (fun i _ => n - (intOf i).toNat)
    case atStart => exact ⟨0, xs, Nat.zero_le _, rfl, HS⟩
    case round =>
      clear HS
      obtain ⟨j, xs', hj, rfl, HS⟩ := hrel
      by_cases hjn : j < n
      · have hjn' : (j : Int) < (n : Int) := by omega
        obtain ⟨z, ht⟩ := HS.out.2.1 j (Nat.le_refl _) hjn
        have c1 : wr.cell? ⟨g, j * 3 + 1, none⟩ = some (.int .i64 z) := by rw [HS.out.1.cellAt (j * 3 + 1) (by omega)]; exact ht
        have f1 := HS.out.1.frozenAt (j * 3 + 1)
        obtain ⟨Z, hZ⟩ : ∃ Z, bits .xor .i64 z 90 = Z := ⟨_, rfl⟩
        have HST : Hid ((wr.setCell ⟨g, j * 3 + 1, none⟩ (.int .i64 Z)).ownsRow B 33 3 (.slice (some ⟨g, 0, none⟩) n cap) n (xs'.set (j * 3 + 1) (.int .i64 Z)) ∧ NumsF (xs'.set (j * 3 + 1) (.int .i64 Z)) (j + 1) n ∧ Turn (fun k => (Value.slice (some ⟨g, 0, none⟩) n cap).ownBlock = some k) w (wr.setCell ⟨g, j * 3 + 1, none⟩ (.int .i64 Z))) :=
          ⟨(HS.out.1.stored _ _).1, HS.out.2.1.set _, HS.out.2.2.same (Turn.of_set (S := fun k => (Value.slice (some ⟨g, 0, none⟩) n cap).ownBlock = some k) wr (p := ⟨g, j * 3 + 1, none⟩) rfl _)⟩
        clear ht
        go_wp2
        go_roundw
        case rel => exact ⟨j + 1, _, by omega, by go_num, HST.out⟩
        case measure => simp [intOf]; omega
      · have hjn' : decide (j < n) = false := by simpa using hjn
        go_wp2
        go_end0
        exact ⟨rfl, HS.out.2.2⟩

theorem own_cells {w : World} {B e z n k : Nat} {v : Value} {xs : List Value} (h : w.ownsRow B e z v n xs) (hk : v.ownBlock = some k) : ∃ cur, Blk w k cur e := by
  rcases h.2 with ⟨h1, _⟩ | ⟨g', cap, cur, h1, _, hg, _⟩
  · rw [h1] at hk; simp [Value.ownBlock] at hk
  · rw [h1] at hk
    simp [Value.ownBlock] at hk
    subst hk
    exact ⟨cur, hg⟩
theorem blk_tag {w : World} {g : Nat} {C D : Array Value} {t u : TypeId} (h : Blk w g C t) (k : Blk w g D u) : t = u := by
  unfold Blk at h k
  rw [h] at k
  simp at k
  exact k.2
theorem foot_not {w : World} {gs most k : Nat} {mb : Option Nat} {L : List En} {C : Array Value} {t : TypeId} (h : St w gs most mb L) (hb : Blk w k C t) (ht : t ≠ 58) : ¬ foot gs mb k := by
  rintro (rfl | e)
  · exact ht (blk_tag hb h.blk)
  · rcases h.at' with ⟨e0, _⟩ | ⟨b, e1, hh⟩
    · rw [e0] at e; cases e
    · rw [e1] at e
      simp at e
      subst e
      obtain ⟨n, D, ⟨es, clock, hb', _⟩, _⟩ := hh.map
      unfold Blk at hb
      rw [hb] at hb'
      cases hb'
theorem rfoot_cells {B : Nat} {w : World} {gr most k : Nat} {V : Value} {M : List En} (h : RS B w gr most V M) (hk : rfoot gr V k) : ∃ C t, Blk w k C t ∧ t ≠ 58 ∧ k < w.heap.size := by
  rcases hk with rfl | e
  · exact ⟨_, _, h.blk, by decide, h.blk.lt⟩
  · obtain ⟨cur, hc⟩ := own_cells h.es e
    exact ⟨_, _, hc, by decide, hc.lt⟩
theorem RS.turn {S : Nat → Prop} {B : Nat} {w w' : World} {gr most : Nat} {V : Value} {M : List En} (h : RS B w gr most V M) (T : Turn S w w') (hs : ∀ k, rfoot gr V k → ¬ S k) : RS B w' gr most V M :=
  ⟨T.blk h.blk (hs _ (.inl rfl)), T.row h.es (fun k hk => hs k (.inr hk)), h.len, h.m1, h.m2, h.ok⟩

/-- The two, and that they hold the same. -/
structure SA (w0 w : World) (gs gr most : Nat) (mb : Option Nat) (V : Value) (F G : List En) : Prop where
  lw : LW w0 w gs most mb F
  rs : RS w0.heap.size w gr most V G
  hi : w0.heap.size ≤ gr
theorem SA.below {w0 w w' : World} {gs gr most : Nat} {mb : Option Nat} {V : Value} {F G : List En} (h : SA w0 w gs gr most mb V F G) (hb : Below w.heap.size w w') : SA w0 w' gs gr most mb V F G := ⟨h.lw.below hb, h.rs.below hb, h.hi⟩
/-- A block of the law's own is written. -/
theorem SA.own {w0 w w' : World} {gs gr most : Nat} {mb : Option Nat} {V : Value} {F G : List En} {S : Nat → Prop} (h : SA w0 w gs gr most mb V F G) (T : Turn S w w') (hS : ∀ k, S k → w0.heap.size ≤ k ∧ ¬ foot gs mb k ∧ ¬ rfoot gr V k) : SA w0 w' gs gr most mb V F G :=
  ⟨⟨h.lw.st.turn T (fun k hk e => (hS k e).2.1 hk), Turn.below h.lw.bel T h.lw.bel.size (fun i hi => (hS i hi).1), h.lw.new⟩, h.rs.turn T (fun k hk e => (hS k e).2.2 hk), h.hi⟩
theorem sa_put {w0 w : World} {gs gr most : Nat} {mb : Option Nat} {V : Value} {F G : List En} (h : SA w0 w gs gr most mb V F G) (n : ByteArray) (t u now : Int) (hn : n.size ≤ maxLen) (x : Int) (hx : errN (nE n t u) now = x) (F' : List En) (hF : putN most F (nE n t u) now = F') :
    Calls Try.prog 12 #[.pointer (some ⟨gs, 0, none⟩), .agg #[.string n, .int .i64 t, .int .i64 u], .int .i64 now] w fun e w' => e = .returned (.int .i64 x) ∧
      ∃ mb', SA w0 w' gs gr most mb' V F' G ∧ (∀ k C t, Blk w k C t → t ≠ 58 → Blk w' k C t) := by
  refine (lw_put h.lw n t u now hn x hx F' hF).mono ?_
  rintro e w' ⟨he, mb', lw, T, _⟩
  refine ⟨he, mb', ⟨lw, h.rs.turn T (fun k hk => ?_), h.hi⟩, fun k C t hb ht => T.blk hb (foot_not h.lw.st hb ht)⟩
  obtain ⟨C, t, hc, ht, _⟩ := rfoot_cells h.rs hk
  exact foot_not h.lw.st hc ht
theorem sa_rput {w0 w : World} {gs gr most : Nat} {mb : Option Nat} {V : Value} {F G : List En} (h : SA w0 w gs gr most mb V F G) (n : ByteArray) (t u now : Int) (hn : n.size ≤ maxLen) (x : Int) (hx : errN (nE n t u) now = x) (G' : List En) (hG : putN most G (nE n t u) now = G') :
    Calls Try.prog 13 #[.pointer (some ⟨gr, 0, none⟩), .agg #[.string n, .int .i64 t, .int .i64 u], .int .i64 now] w fun e w' => e = .returned (.int .i64 x) ∧
      ∃ V', SA w0 w' gs gr most mb V' F G' ∧ (∀ k C t, Blk w k C t → t ≠ 60 → Blk w' k C t) := by
  cases hm : mayN (nE n t u) now with
  | false =>
    have ex : x = 1400 := by rw [← hx]; unfold errN; rw [hm]; rfl
    have eG : G' = G := by rw [← hG]; unfold putN; rw [hm]; rfl
    subst ex eG
    refine (rput_no n t u now gr w hn hm).mono ?_
    rintro e w' ⟨he, hb⟩
    exact ⟨he, V, h.below hb, fun k C t hk _ => hk.below hb⟩
  | true =>
    have ex : x = 0 := by rw [← hx]; unfold errN; rw [hm]; rfl
    subst ex
    refine (rput_yes h.rs h.lw.bel.size n t u now hn hm).mono ?_
    rintro e w' ⟨he, V', rs, T, _⟩
    have hnf : ¬ foot gs mb gr := foot_not h.lw.st h.rs.blk (by decide)
    rw [hG] at rs
    exact ⟨he, V', ⟨h.lw.own T h.hi hnf, rs, h.hi⟩, fun k C t hk ht => T.blk hk (fun e => by subst e; exact ht (blk_tag hk h.rs.blk))⟩
/-- No entry has a type beyond 65,535, or below nothing. -/
theorem has_out {L : List En} (h : ∀ p ∈ L, OkE p) (n : ByteArray) (t now : Int) (ht : t < 0 ∨ 65535 < t) : hasN L n t now = false := by
  unfold hasN
  rw [List.any_eq_false]
  intro p hp
  have h1 := (h p hp).k.lo
  have h2 := (h p hp).k.hi
  have : sameK (fdB n) t p = false := by
    cases e : sameK (fdB n) t p with
    | false => rfl
    | true => have := (sameK_iff.1 e).2; omega
  rw [this]; simp

end Ng
end Go.Proofs.Ytphhljbeaklikaa
