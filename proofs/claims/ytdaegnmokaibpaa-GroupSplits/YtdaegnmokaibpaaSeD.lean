/- What with gives: a set and one record more. -/
import Derived.Test.YtdaegnmokaibpaaSeC
namespace Go.Proofs.Ytdaegnmokaibpaa
open Go.RowKit
open Pl

/-- A set as values. -/
def setC (n : ByteArray) (t l : Int) (v : Value) : Array Value := #[.string n, .int .i64 t, .int .i64 l, v]
theorem Blk.four' {w : World} {g : Nat} {a b c d : Value} {t : TypeId} (h : Blk w g #[a, b, c, d] t) :
    w.cell? ⟨g, 0, none⟩ = some a ∧ w.cell? ⟨g, 1, none⟩ = some b ∧ w.cell? ⟨g, 2, none⟩ = some c ∧ w.cell? ⟨g, 3, none⟩ = some d := ⟨h.cell 0, h.cell 1, h.cell 2, h.cell 3⟩
theorem Blk.open4' {w : World} {g : Nat} {C : Array Value} {t : TypeId} (h : Blk w g C t) :
    w.frozen? ⟨g, 0, none⟩ = false ∧ w.frozen? ⟨g, 1, none⟩ = false ∧ w.frozen? ⟨g, 2, none⟩ = false ∧ w.frozen? ⟨g, 3, none⟩ = false := ⟨h.frozen 0, h.frozen 1, h.frozen 2, h.frozen 3⟩
theorem Blk.five5 {w : World} {g : Nat} {a b c d e : Value} {t : TypeId} (h : Blk w g #[a, b, c, d, e] t) :
    w.cell? ⟨g, 0, none⟩ = some a ∧ w.cell? ⟨g, 1, none⟩ = some b ∧ w.cell? ⟨g, 2, none⟩ = some c ∧ w.cell? ⟨g, 3, none⟩ = some d ∧ w.cell? ⟨g, 4, none⟩ = some e := ⟨h.cell 0, h.cell 1, h.cell 2, h.cell 3, h.cell 4⟩

theorem own_sep4 {w : World} {B e z n g : Nat} {v : Value} {xs : List Value} {C : Array Value} {t : TypeId} (h : w.ownsRow B e z v n xs) (hk : Blk w g C t) (he : e ≠ t) : v.ownBlock ≠ some g := by
  intro e2
  rcases h.2 with ⟨h1, _⟩ | ⟨g', cap, cur, h1, _, hg', _⟩
  · rw [h1] at e2; simp [Value.ownBlock] at e2
  · rw [h1] at e2
    simp [Value.ownBlock] at e2
    subst e2
    unfold Blk at hk
    rw [hk] at hg'
    simp at hg'
    exact he hg'.2.symm
/-- Four cells are set. -/
def put4s (w : World) (g : Nat) (a b c d : Value) : World := (((w.setCell ⟨g, 0, none⟩ a).setCell ⟨g, 1, none⟩ b).setCell ⟨g, 2, none⟩ c).setCell ⟨g, 3, none⟩ d
theorem put4s_blk {w : World} {g : Nat} {a0 b0 c0 d0 : Value} {t : TypeId} (h : Blk w g #[a0, b0, c0, d0] t) (a b c d : Value) : Blk (put4s w g a b c d) g #[a, b, c, d] t := by
  have h1 := h.set 0 a
  have h2 := h1.set 1 b
  have h3 := h2.set 2 c
  have h4 := h3.set 3 d
  exact h4
theorem put4s_turn (w : World) (g : Nat) (a b c d : Value) : Turn (fun k => k = g) w (put4s w g a b c d) := by
  have T : ∀ (u : World) (i : Nat) (v : Value), Turn (fun k => k = g) u (u.setCell ⟨g, i, none⟩ v) := fun u i v => Turn.of_set (S := fun k => k = g) u (p := ⟨g, i, none⟩) rfl v
  exact (((T _ _ _).same (T _ _ _)).same (T _ _ _)).same (T _ _ _)
theorem with_end {w w2 : World} {B g M : Nat} {v v' : Value} {xs : List Value} {a0 b0 c0 d0 : Value} (hg : w.heap.size ≤ g) (hT : Turn (fun k => v.ownBlock = some k) w w2) (ho : w2.ownsRow B 9 1 v' M xs) (hk : Blk w2 g #[a0, b0, c0, d0] 25) (a b c d : Value) :
    (put4s w2 g a b c d).ownsRow B 9 1 v' M xs ∧ Turn (fun k => v.ownBlock = some k) w (put4s w2 g a b c d) ∧ Blk (put4s w2 g a b c d) g #[a, b, c, d] 25 := by
  refine ⟨(put4s_turn _ _ _ _ _ _).row ho (fun k hk' e => ?_), hT.trans (put4s_turn _ _ _ _ _ _) (fun i e => .inr (by rw [e]; exact hg)), put4s_blk hk a b c d⟩
  subst e
  rcases ho.2 with ⟨h1, _⟩ | ⟨g', cap, cur, h1, _, hg', _⟩
  · rw [h1] at hk'; simp [Value.ownBlock] at hk'
  · rw [h1] at hk'
    simp [Value.ownBlock] at hk'
    subst hk'
    unfold Blk at hk
    rw [hk] at hg'
    simp at hg'

set_option maxRecDepth 20000 in
set_option maxHeartbeats 1000000 in
theorem with_any {B : Nat} (n : ByteArray) (t l : Int) (v : Value) (ds : List ByteArray) (xn : ByteArray) (xt xc xl : Int) (xd : ByteArray) (w : World) (h : w.ownsRow B 9 1 v ds.length (tC ds)) (hr : Rises ds) (hm : ds.length ≤ 1000) (hd : xd.size ≤ 1000000) (hB : B ≤ w.heap.size) :
    Calls Try.prog 28 #[.agg #[.string n, .int .i64 t, .int .i64 l, v], .agg #[.string xn, .int .i64 xt, .int .i64 xc, .int .i64 xl, .string xd]] w fun e w' => ∃ v', e = .returned (.agg #[.string n, .int .i64 t, .int .i64 (min l xl), v']) ∧ w'.ownsRow B 9 1 v' (insB xd ds).length (tC (insB xd ds)) ∧ Turn (fun k => v.ownBlock = some k) w w' ∧ ∀ k, v'.ownBlock = some k → v.ownBlock = some k ∨ w.heap.size ≤ k := by
  obtain ⟨y, c, hv⟩ := row_shape h
  obtain ⟨N, hN⟩ : ∃ N, N = ds.length := ⟨_, rfl⟩
  rw [← hN] at hv
  subst hv
  have HN : Hid (N = ds.length) := hN
  obtain ⟨p, hp⟩ : ∃ p, p = posB xd ds := ⟨_, rfl⟩
  have HP : Hid (p = posB xd ds) := hp
  obtain ⟨is, his⟩ : ∃ is, is = decide (ds[posB xd ds]? = some xd) := ⟨_, rfl⟩
  have HIS : Hid (is = decide (ds[posB xd ds]? = some xd)) := his
  have HS : Hid (∀ u : World, u.ownsRow B 9 1 (.slice y N c) ds.length (tC ds) → Calls Try.prog 43 #[.slice y N c, .string xd] u fun e w' => e = .returned (.tuple #[.int .i64 (p : Int), .bool is]) ∧ ∃ q, w' = u.drewN q) := fun u hu => by
    have := search_any (.slice y N c) ds xd u (Row.of_own hu) hr hm
    rw [← his, ← hp] at this
    exact this
  have HOWN : Hid (w.ownsRow B 9 1 (.slice y N c) ds.length (tC ds)) := h
  have hlt : ∀ k, (Value.slice y N c).ownBlock = some k → B ≤ k ∧ k < w.heap.size := h.lt
  have HLT : Hid (∀ k, (Value.slice y N c).ownBlock = some k → B ≤ k ∧ k < w.heap.size) := hlt
  have hb0 : Below w.heap.size w (((w.alloc (.cells #[.string n, .int .i64 t, .int .i64 (min l xl), .slice y N c] 25)).alloc (.cells #[.string xn, .int .i64 xt, .int .i64 xc, .int .i64 xl, .string xd] 43)).alloc (.cells #[.string ⟨#[]⟩, .int .i64 0, .int .i64 0, .slice none 0 0] 25)) := lay (lay (lay (Below.refl _ _) _) _) _
  have HB0 : Hid (Below w.heap.size w (((w.alloc (.cells #[.string n, .int .i64 t, .int .i64 (min l xl), .slice y N c] 25)).alloc (.cells #[.string xn, .int .i64 xt, .int .i64 xc, .int .i64 xl, .string xd] 43)).alloc (.cells #[.string ⟨#[]⟩, .int .i64 0, .int .i64 0, .slice none 0 0] 25))) := hb0
  have HK0 : Hid (Blk (((w.alloc (.cells #[.string n, .int .i64 t, .int .i64 (min l xl), .slice y N c] 25)).alloc (.cells #[.string xn, .int .i64 xt, .int .i64 xc, .int .i64 xl, .string xd] 43)).alloc (.cells #[.string ⟨#[]⟩, .int .i64 0, .int .i64 0, .slice none 0 0] 25)) w.heap.size #[.string n, .int .i64 t, .int .i64 (min l xl), .slice y N c] 25) := ((Blk.new w _ _).alloc _).alloc _
  have HK1 : Hid (Blk (((w.alloc (.cells #[.string n, .int .i64 t, .int .i64 (min l xl), .slice y N c] 25)).alloc (.cells #[.string xn, .int .i64 xt, .int .i64 xc, .int .i64 xl, .string xd] 43)).alloc (.cells #[.string ⟨#[]⟩, .int .i64 0, .int .i64 0, .slice none 0 0] 25)) (w.heap.size + 1) #[.string xn, .int .i64 xt, .int .i64 xc, .int .i64 xl, .string xd] 43) := by
    have := (Blk.new (w.alloc (.cells #[.string n, .int .i64 t, .int .i64 (min l xl), .slice y N c] 25)) #[.string xn, .int .i64 xt, .int .i64 xc, .int .i64 xl, .string xd] 43).alloc (.cells #[.string ⟨#[]⟩, .int .i64 0, .int .i64 0, .slice none 0 0] 25)
    rw [World.size_alloc] at this
    exact this
  have HK2 : Hid (Blk (((w.alloc (.cells #[.string n, .int .i64 t, .int .i64 (min l xl), .slice y N c] 25)).alloc (.cells #[.string xn, .int .i64 xt, .int .i64 xc, .int .i64 xl, .string xd] 43)).alloc (.cells #[.string ⟨#[]⟩, .int .i64 0, .int .i64 0, .slice none 0 0] 25)) (w.heap.size + 1 + 1) #[.string ⟨#[]⟩, .int .i64 0, .int .i64 0, .slice none 0 0] 25) := by
    have := Blk.new ((w.alloc (.cells #[.string n, .int .i64 t, .int .i64 (min l xl), .slice y N c] 25)).alloc (.cells #[.string xn, .int .i64 xt, .int .i64 xc, .int .i64 xl, .string xd] 43)) #[.string ⟨#[]⟩, .int .i64 0, .int .i64 0, .slice none 0 0] 25
    rw [World.size_alloc, World.size_alloc] at this
    exact this
  have HO0 : Hid ((((w.alloc (.cells #[.string n, .int .i64 t, .int .i64 (min l xl), .slice y N c] 25)).alloc (.cells #[.string xn, .int .i64 xt, .int .i64 xc, .int .i64 xl, .string xd] 43)).alloc (.cells #[.string ⟨#[]⟩, .int .i64 0, .int .i64 0, .slice none 0 0] 25)).ownsRow B 9 1 (.slice y N c) ds.length (tC ds)) := own_past h hb0
  clear hN hp his h hlt hb0
  cases is with
  | true =>
    go_enter Try.func28, Try.ntmps28
    go_wp2_with (go_at_call 43; go_must (refine (HS.out _ HO0.out).mono ?_); rintro e w1 ⟨rfl, hq⟩; replace HK0 : Hid (Blk w1 w.heap.size #[.string n, .int .i64 t, .int .i64 (min l xl), .slice y N c] 25) := HK0.out.drew hq; replace HK2 : Hid (Blk w1 (w.heap.size + 1 + 1) #[.string ⟨#[]⟩, .int .i64 0, .int .i64 0, .slice none 0 0] 25) := HK2.out.drew hq; replace HO0 : Hid (w1.ownsRow B 9 1 (.slice y N c) ds.length (tC ds)) := own_past HO0.out (below_drew hq); replace HB0 : Hid (Below w.heap.size w w1) := next HB0.out (below_drew hq); obtain ⟨a0, a1, a2, a3⟩ := HK0.out.four'; obtain ⟨b0, b1, b2, b3⟩ := HK2.out.four'; obtain ⟨f0, f1, f2, f3⟩ := HK2.out.open4'; clear hq HS)
    have HE : Hid (insB xd ds = ds) := by unfold Hid; rw [insB_at, if_pos (of_decide_eq_true HIS.out.symm)]
    have HQ := with_end (Nat.le_trans (Nat.le_succ _) (Nat.le_succ _)) (Turn.of_below (S := fun k => (Value.slice y N c).ownBlock = some k) HB0.out) HO0.out HK2.out (.string n) (.int .i64 t) (.int .i64 (min l xl)) (.slice y N c)
    change bodyPost Try.prog Try.f28 _ _ _ (put4s w1 (w.heap.size + 1 + 1) (.string n) (.int .i64 t) (.int .i64 (min l xl)) (.slice y N c))
    revert HQ
    generalize put4s w1 (w.heap.size + 1 + 1) (.string n) (.int .i64 t) (.int .i64 (min l xl)) (.slice y N c) = W
    intro HQ
    obtain ⟨q1, q2, q3⟩ := HQ
    obtain ⟨r0, r1, r2, r3⟩ := q3.four'
    refine bodyPost_ret (v := .agg #[.string n, .int .i64 t, .int .i64 (min l xl), .slice y N c]) (by simp [results, Try.results28, go_sem, r0, r1, r2, r3]) rfl ?_
    exact ⟨_, rfl, by rw [HE.out]; exact q1, q2, fun k hk => .inl hk⟩
  | false =>
    have HPL : Hid (p ≤ ds.length) := by unfold Hid; rw [HP.out]; exact posB_le _ _
    have HE : Hid (insB xd ds = ds.take p ++ xd :: ds.drop p) := by unfold Hid; rw [insB_at, if_neg (of_decide_eq_false HIS.out.symm), ← HP.out]
    have HEL : Hid ((insB xd ds).length = ds.length + 1) := by have := HPL.out; unfold Hid; rw [HE.out]; simp; omega
    have HX0 : Hid (¬ (Value.slice y N c).ownBlock = some w.heap.size) := fun e => by have := (HLT.out _ e).2; omega
    have HX1 : Hid (¬ (Value.slice y N c).ownBlock = some (w.heap.size + 1)) := fun e => by have := (HLT.out _ e).2; omega
    have HX2 : Hid (¬ (Value.slice y N c).ownBlock = some (w.heap.size + 1 + 1)) := fun e => by have := (HLT.out _ e).2; omega
    have HNN : Hid (∀ {u : World} {u' : Option Nat}, Below w.heap.size w u → (∀ k, u' = some k → (Value.slice y N c).ownBlock = some k ∨ (u.alloc (.cells #[.string xd] 9)).heap.size ≤ k) → ∀ k, u' = some k → (Value.slice y N c).ownBlock = some k ∨ w.heap.size ≤ k) := fun hb hu k hk => (hu k hk).imp id (fun e => by have := hb.size; rw [World.size_alloc] at e; omega)
    have HI : Hid (∀ u : World, u.ownsRow B 9 1 (.slice y N c) ds.length (tC ds) → Below w.heap.size w u → Calls Try.prog 44 #[.slice y N c, .int .i64 (p : Int), .slice (some ⟨u.heap.size, 0, none⟩) 1 1] (u.alloc (.cells #[.string xd] 9)) fun e w' => ∃ v', e = .returned v' ∧ w'.ownsRow B 9 1 v' (ds.length + 1) (tC (ds.take p ++ xd :: ds.drop p)) ∧ Turn (fun k => (Value.slice y N c).ownBlock = some k) (u.alloc (.cells #[.string xd] 9)) w' ∧ ∀ k, v'.ownBlock = some k → (Value.slice y N c).ownBlock = some k ∨ (u.alloc (.cells #[.string xd] 9)).heap.size ≤ k) := fun u hu hb =>
      insert_any (.slice y N c) ds xd p u.heap.size _ (own_past hu (lay (Below.refl _ _) _)) HPL.out hm (Blk.new _ _ _) (fun e => by have := (HLT.out _ e).2; have := hb.size; omega) (by have := hb.size; rw [World.size_alloc]; omega)
    go_enter Try.func28, Try.ntmps28
    go_wp2_with (go_at_call 43; go_must (refine (HS.out _ HO0.out).mono ?_); rintro e w1 ⟨rfl, hq⟩; replace HK0 : Hid (Blk w1 w.heap.size #[.string n, .int .i64 t, .int .i64 (min l xl), .slice y N c] 25) := HK0.out.drew hq; replace HK1 : Hid (Blk w1 (w.heap.size + 1) #[.string xn, .int .i64 xt, .int .i64 xc, .int .i64 xl, .string xd] 43) := HK1.out.drew hq; replace HK2 : Hid (Blk w1 (w.heap.size + 1 + 1) #[.string ⟨#[]⟩, .int .i64 0, .int .i64 0, .slice none 0 0] 25) := HK2.out.drew hq; replace HO0 : Hid (w1.ownsRow B 9 1 (.slice y N c) ds.length (tC ds)) := own_past HO0.out (below_drew hq); replace HB0 : Hid (Below w.heap.size w w1) := next HB0.out (below_drew hq); clear hq HS)
    have a3 : w1.cell? ⟨w.heap.size, 3, none⟩ = some (.slice y N c) := HK0.out.cell 3
    have x4 : w1.cell? ⟨w.heap.size + 1, 4, none⟩ = some (.string xd) := HK1.out.cell 4
    have a3d : w1.drew.cell? ⟨w.heap.size, 3, none⟩ = some (.slice y N c) := a3
    have x4d : w1.drew.cell? ⟨w.heap.size + 1, 4, none⟩ = some (.string xd) := x4
    go_region_with
      (first
        | (go_at_call 35; go_must (refine (clone_any xd _ hd).mono ?_); rintro e w2 ⟨rfl, b2⟩; have B2 : Below w1.heap.size w1 w2 := next (below_drew ⟨1, rfl⟩) b2; replace HK0 : Hid (Blk w2 w.heap.size #[.string n, .int .i64 t, .int .i64 (min l xl), .slice y N c] 25) := HK0.out.below B2; replace HK1 : Hid (Blk w2 (w.heap.size + 1) #[.string xn, .int .i64 xt, .int .i64 xc, .int .i64 xl, .string xd] 43) := HK1.out.below B2; replace HK2 : Hid (Blk w2 (w.heap.size + 1 + 1) #[.string ⟨#[]⟩, .int .i64 0, .int .i64 0, .slice none 0 0] 25) := HK2.out.below B2; replace HO0 : Hid (w2.ownsRow B 9 1 (.slice y N c) ds.length (tC ds)) := own_past HO0.out B2; replace HB0 : Hid (Below w.heap.size w w2) := next HB0.out B2; have e3 : w2.cell? ⟨w.heap.size, 3, none⟩ = some (.slice y N c) := HK0.out.cell 3; have e4 : w2.cell? ⟨w.heap.size + 1, 4, none⟩ = some (.string xd) := HK1.out.cell 4; have g3 : (w2.alloc (.cells #[.string xd] 9)).cell? ⟨w.heap.size, 3, none⟩ = some (.slice y N c) := (HK0.out.alloc _).cell 3; have g4 : (w2.alloc (.cells #[.string xd] 9)).cell? ⟨w.heap.size + 1, 4, none⟩ = some (.string xd) := (HK1.out.alloc _).cell 4; clear b2 B2 a3 x4)
        | (go_at_call 44; go_must (refine (HI.out _ HO0.out HB0.out).mono ?_); rintro e w3 ⟨v3, rfl, o3, t3, n3⟩; obtain ⟨y3, c3, hv3⟩ := row_shape o3; subst hv3; have B3 : Below w2.heap.size w2 (w2.alloc (.cells #[.string xd] 9)) := lay (Below.refl _ _) _; replace HK0 : Hid (Blk w3 w.heap.size #[.string n, .int .i64 t, .int .i64 (min l xl), .slice y N c] 25) := t3.blk (HK0.out.alloc _) HX0.out; replace HK1 : Hid (Blk w3 (w.heap.size + 1) #[.string xn, .int .i64 xt, .int .i64 xc, .int .i64 xl, .string xd] 43) := t3.blk (HK1.out.alloc _) HX1.out; replace HK2 : Hid (Blk w3 (w.heap.size + 1 + 1) #[.string ⟨#[]⟩, .int .i64 0, .int .i64 0, .slice none 0 0] 25) := t3.blk (HK2.out.alloc _) HX2.out; have HO3 : Hid (w3.ownsRow B 9 1 (.slice y3 (ds.length + 1) c3) (ds.length + 1) (tC (ds.take p ++ xd :: ds.drop p))) := o3; have HT3 : Hid (Turn (fun k => (Value.slice y N c).ownBlock = some k) w w3) := (Turn.of_below (next HB0.out B3)).same t3; have HN3 : Hid (∀ k, (Value.slice y3 (ds.length + 1) c3).ownBlock = some k → (Value.slice y N c).ownBlock = some k ∨ w.heap.size ≤ k) := HNN.out HB0.out n3; have g3' : w3.cell? ⟨w.heap.size, 3, none⟩ = some (.slice y N c) := HK0.out.cell 3; have g4' : w3.cell? ⟨w.heap.size + 1, 4, none⟩ = some (.string xd) := HK1.out.cell 4; have f3 := HK0.out.frozen 3; clear B3 o3 t3 n3 e3 e4 g3 g4))
    all_goals
      (have kA : Blk (w3.setCell ⟨w.heap.size, 3, none⟩ (.slice y3 (ds.length + 1) c3)) w.heap.size #[.string n, .int .i64 t, .int .i64 (min l xl), .slice y3 (ds.length + 1) c3] 25 := HK0.out.set 3 _
       have kB : Blk (w3.setCell ⟨w.heap.size, 3, none⟩ (.slice y3 (ds.length + 1) c3)) (w.heap.size + 1 + 1) #[.string ⟨#[]⟩, .int .i64 0, .int .i64 0, .slice none 0 0] 25 := HK2.out.other (b := w.heap.size) (by omega) 3 _
       obtain ⟨a0, a1, a2, a4⟩ := kA.four'
       obtain ⟨b0, b1, b2, b3⟩ := kB.four'
       obtain ⟨f0, f1, f2, f4⟩ := kB.open4'
       have hT2 : Turn (fun k => (Value.slice y N c).ownBlock = some k) w (w3.setCell ⟨w.heap.size, 3, none⟩ (.slice y3 (ds.length + 1) c3)) := HT3.out.setNew (Nat.le_refl _) 3 _
       have hO2 : (w3.setCell ⟨w.heap.size, 3, none⟩ (.slice y3 (ds.length + 1) c3)).ownsRow B 9 1 (.slice y3 (ds.length + 1) c3) (ds.length + 1) (tC (ds.take p ++ xd :: ds.drop p)) := (Turn.of_set (S := fun k => k = w.heap.size) w3 (p := ⟨w.heap.size, 3, none⟩) rfl _).row HO3.out (fun k hk e => own_sep4 HO3.out HK0.out (by decide) (by rw [hk, e]))
       have HQ := with_end (Nat.le_trans (Nat.le_succ _) (Nat.le_succ _)) hT2 hO2 kB (.string n) (.int .i64 t) (.int .i64 (min l xl)) (.slice y3 (ds.length + 1) c3)
       have HQ' : Hid _ := HQ
       clear HQ hT2 hO2 kA kB
       go_wp2
       change bodyPost Try.prog Try.f28 _ _ _ (put4s (w3.setCell ⟨w.heap.size, 3, none⟩ (.slice y3 (ds.length + 1) c3)) (w.heap.size + 1 + 1) (.string n) (.int .i64 t) (.int .i64 (min l xl)) (.slice y3 (ds.length + 1) c3))
       revert HQ'
       generalize put4s (w3.setCell ⟨w.heap.size, 3, none⟩ (.slice y3 (ds.length + 1) c3)) (w.heap.size + 1 + 1) (.string n) (.int .i64 t) (.int .i64 (min l xl)) (.slice y3 (ds.length + 1) c3) = W
       intro HQ'
       obtain ⟨q1, q2, q3⟩ := HQ'.out
       obtain ⟨r0, r1, r2, r3⟩ := q3.four'
       refine bodyPost_ret (v := .agg #[.string n, .int .i64 t, .int .i64 (min l xl), .slice y3 (ds.length + 1) c3]) (by simp [results, Try.results28, go_sem, r0, r1, r2, r3]) rfl ?_
       exact ⟨_, rfl, by rw [HEL.out, HE.out]; exact q1, q2, HN3.out⟩)

end Go.Proofs.Ytdaegnmokaibpaa
