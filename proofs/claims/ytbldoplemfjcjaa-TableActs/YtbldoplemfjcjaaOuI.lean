/- What was asked, by its places, in memory of its own: told. -/
import Derived.Test.YtbldoplemfjcjaaOuH
namespace Go.Proofs.Ytbldoplemfjcjaa
open Go.RowKit
open Pl
namespace Ou

theorem aF_single (x : Ak) : aF [x] = akC x := by simp [aF]
theorem aF_map' (T : List Tn) (j : Nat) (h : j < T.length) : aF ((T.take (j + 1)).map (·.x)) = aF ((T.take j).map (·.x)) ++ akC T[j].x := by
  rw [List.take_succ_eq_append_getElem h, List.map_append, aF_app]
  simp [aF_single]
/-- How far a row is told. -/
structure TL (w0 w : World) (B : Nat) (v : Value) (n : Nat) (T : List Tn) (r : Value) (m : Nat) (A : List Value) : Prop where
  src : w.ownsRow B 73 9 v n (tF T)
  out : w.ownsRow w0.heap.size 35 8 r m A
  turn : Turn (fun k => v.ownBlock = some k) w0 w
  old : ∀ k, v.ownBlock = some k → k < w0.heap.size
theorem TL.below {w0 w w' : World} {B : Nat} {v : Value} {n : Nat} {T : List Tn} {r : Value} {m : Nat} {A : List Value} (h : TL w0 w B v n T r m A) (hb : Below w.heap.size w w') : TL w0 w' B v n T r m A :=
  ⟨own_past h.src hb, own_past h.out hb, h.turn.past hb, h.old⟩
theorem TL.app {w0 w w' : World} {B : Nat} {v : Value} {n : Nat} {T : List Tn} {r r' : Value} {m : Nat} {A A' : List Value} (h : TL w0 w B v n T r m A) (ho : w'.ownsRow w0.heap.size 35 8 r' (m + 1) A') (hg : w.grownBy w' r.ownBlock) : TL w0 w' B v n T r' (m + 1) A' := by
  have ht : Turn (fun k => r.ownBlock = some k) w w' := Turn.of_grown hg (fun _ e => e)
  refine ⟨ht.row h.src (fun k hk e => ?_), ho, h.turn.trans ht (fun i e => .inr (h.out.lt i e).1), h.old⟩
  have h1 := (h.out.lt k e).1
  have h2 := h.old k hk
  omega

set_option maxRecDepth 20000 in
set_option maxHeartbeats 2000000 in
theorem told_any {T xs : List Tn} (hT : Rise T) (hp : xs.Perm T) (hfew : T.length ≤ 1000) (B : Nat) (v : Value) (n : Nat) (hN : n = T.length) (w : World) (hown : w.ownsRow B 73 9 v n (tF xs)) (hfar : ∀ t ∈ T, Far t.x) :
    Calls Try.prog 33 #[v] w fun e w' => ∃ r, e = .returned r ∧ w'.ownsRow w.heap.size 35 8 r n (aF (T.map (·.x))) ∧ Turn (fun k => v.ownBlock = some k) w w' := by
  obtain ⟨i0, hi, hz0, hz1, hz2⟩ := info_parts infoA
  obtain ⟨y, c, rfl⟩ := row_shape hown
  have hsort := sort_any hT hp hfew B (.slice y n c) n hN w hown
  have HN : Hid (n = T.length) := hN
  have hn : n ≤ 1000 := by omega
  have HF : Hid (∀ t ∈ T, Far t.x) := hfar
  have HOLD : Hid (∀ k, (Value.slice y n c).ownBlock = some k → k < w.heap.size) := fun k hk => (hown.lt k hk).2
  clear hN hT hp hfew hown hfar
  go_enter Try.func33, Try.ntmps33
  go_wp2_with (first
    | (go_at_call 40; go_must (refine hsort.mono ?_); rintro e w1 ⟨rfl, own1, turn1⟩)
    | (at_make; refine wpList_make_own _ rfl _ _ 46 rfl w.heap.size 35 i0 _ 8 Try.underlying46 hi hz0 hz1 .i64 .i64 _ n rfl rfl rfl (by rw [hz2]; omega) (by unfold maxLen; omega) turn1.size ?_; intro w2 own2 grow2))
  have HS0 : Hid (TL w w2 B (.slice y n c) n T (.slice (some ⟨w1.heap.size, 0, none⟩) 0 n) 0 []) := ⟨own_past own1 (grown_below grow2), own2, turn1.past (grown_below grow2), HOLD.out⟩
  clear own1 turn1 own2 grow2 hsort
  go_loopw [3, 13] (fun r i wr => ∃ (j : Nat) (y1 : Option Addr) (c1 : Nat), j ≤ n ∧ r = .slice y1 j c1 ∧ i = .int .i64 (j : Int) ∧ Hid (TL w wr B (.slice y n c) n T (.slice y1 j c1) j (aF ((T.take j).map (·.x))))) (fun _ i _ => n - (intOf i).toNat)
  case atStart => exact ⟨0, _, _, Nat.zero_le _, rfl, rfl, HS0⟩
  case round =>
    obtain ⟨j, y1, c1, hj, rfl, rfl, HS⟩ := hrel
    clear HS0
    by_cases hjn : j < n
    · have hjn' : (j : Int) < (n : Int) := by omega
      have hju : j < T.length := by have := HN.out; omega
      obtain ⟨g, o, cap, hx, hc⟩ := row_at (Row.of_own HS.out.src) (by omega)
      simp only [Value.slice.injEq] at hx
      obtain ⟨rfl, -, rfl⟩ := hx
      obtain ⟨⟨tp, ⟨tj, ti, ta, tc, tg, tn, tt, tu⟩⟩, hp⟩ : ∃ p, p = T[j] := ⟨_, rfl⟩
      have hfl := fun i hi => tF_map T j hju i hi
      rw [← hp] at hfl
      have d0 := hc (j * 9 + 0) _ (hfl 0 (by omega))
      have d1 := hc (j * 9 + 1) _ (hfl 1 (by omega))
      have d2 := hc (j * 9 + 2) _ (hfl 2 (by omega))
      have d3 := hc (j * 9 + 3) _ (hfl 3 (by omega))
      have d4 := hc (j * 9 + 4) _ (hfl 4 (by omega))
      have d5 := hc (j * 9 + 5) _ (hfl 5 (by omega))
      have d6 := hc (j * 9 + 6) _ (hfl 6 (by omega))
      have d7 := hc (j * 9 + 7) _ (hfl 7 (by omega))
      have d8 := hc (j * 9 + 8) _ (hfl 8 (by omega))
      simp only [Nat.add_zero, ← Nat.add_assoc] at d0 d1 d2 d3 d4 d5 d6 d7 d8
      have hfar : Far (⟨tj, ti, ta, tc, tg, tn, tt, tu⟩ : Ak) := by have := HF.out _ (List.getElem_mem hju); rw [← hp] at this; exact this
      have HA : Hid (aF ((T.take (j + 1)).map (·.x)) = aF ((T.take j).map (·.x)) ++ akC (⟨tj, ti, ta, tc, tg, tn, tt, tu⟩ : Ak)) := by
        have := aF_map' T j hju
        rw [← hp] at this
        exact this
      clear hc hp hfl
      have hcp := fun u => copyOf_any tj ti ta tc tg tn tt tu u (by have := hfar.1; simp only at this; omega) (by have := hfar.2.1; simp only at this; omega) (by have := hfar.2.2; simp only at this; omega)
      have HS1 : Hid (TL w (wr.alloc (.cells #[.int .i64 (tp : Int), .int .i64 tj, .int .i64 ti, .int .i64 ta, .string tc, .string tg, .string tn, .int .i64 tt, .int .i64 tu] 73)) B (.slice (some ⟨g, o, none⟩) n c) n T (.slice y1 j c1) j (aF ((T.take j).map (·.x)))) := HS.out.below (lay (Below.refl _ _) _)
      go_wp2_with (first
        | (go_at_call 27; go_must (refine (hcp _).mono ?_); rintro e w4 ⟨rfl, b4⟩; have HS3 := HS1.out.below b4; have HS2 := HS3.below (lay (Below.refl _ _) (.cells #[.int .i64 tj, .int .i64 ti, .int .i64 ta, .string tc, .string tg, .string tn, .int .i64 tt, .int .i64 tu] 35)); have hown := HS2.out; have hsz := HS2.turn.size; have hrow2 := Row.of_blk (Blk.new w4 #[.int .i64 tj, .int .i64 ti, .int .i64 ta, .string tc, .string tg, .string tn, .int .i64 tt, .int .i64 tu] 35) (xs := akC (⟨tj, ti, ta, tc, tg, tn, tt, tu⟩ : Ak)) rfl 1 1)
        | (at_builtin; go_must (refine wpList_appG _ rfl (.tmp 17) (.tmp 21) 46 35 i0 _ 8 88 Try.underlying46 hi hz0 hz1 hz2 rfl (by decide) rfl w.heap.size (.slice y1 j c1) j (aF ((T.take j).map (·.x))) rfl hown _ 1 (akC (⟨tj, ti, ta, tc, tg, tn, tt, tu⟩ : Ak)) rfl hrow2 rfl (by rw [← aF_single]; exact aF_one _) (by omega) (by unfold maxLen; omega) hsz ?_); intro v3 w5 h1 h3 h4; obtain ⟨y3, c3, rfl⟩ := row_shape h1; have HS5 := HS2.app h1 h3))
      have HS6 : Hid (TL w w5 B (.slice (some ⟨g, o, none⟩) n c) n T (.slice y3 (j + 1) c3) (j + 1) (aF ((T.take (j + 1)).map (·.x)))) := by unfold Hid; rw [HA.out]; exact HS5
      clear HS5 HS3 HS2 HS1 HS hown hsz hrow2 h1 h3 h4 b4
      go_roundw
      case rel => exact ⟨j + 1, y3, c3, by omega, rfl, by go_num, HS6⟩
      case measure => simp [intOf]; omega
    · have hjn' : decide (j < n) = false := by simpa using hjn
      have HE : Hid (TL w wr B (.slice y n c) n T (.slice y1 j c1) j (aF (T.map (·.x))) ∧ j = n) := by
        have e : T.take j = T := List.take_of_length_le (by have := HN.out; omega)
        have := HS
        rw [e] at this
        exact ⟨this, by omega⟩
      clear HS
      go_wp2
      go_ret
      obtain ⟨he, hjn2⟩ := HE.out
      refine ⟨_, rfl, ?_, he.turn⟩
      have := he.out
      rw [hjn2] at this ⊢
      exact this

end Ou
end Go.Proofs.Ytbldoplemfjcjaa
