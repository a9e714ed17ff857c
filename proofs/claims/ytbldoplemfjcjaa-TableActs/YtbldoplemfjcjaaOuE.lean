/- A row of turns anew; what is left of a key. -/
import Derived.Test.YtbldoplemfjcjaaOuD
import Derived.Lib.SliceRun
import Derived.Deep.RegionHeldLaw
namespace Go.Proofs.Ytbldoplemfjcjaa
open Go.RowKit
open Pl
namespace Ou

theorem infoT : (Try.prog.info? 73).map (fun i => (i.zero, i.size, i.bytes)) = some (some (.agg #[.int .i64 0, .int .i64 0, .int .i64 0, .int .i64 0, .string ⟨#[]⟩, .string ⟨#[]⟩, .string ⟨#[]⟩, .int .i64 0, .int .i64 0]), 9, 96) := by kernel_rfl
theorem infoA : (Try.prog.info? 35).map (fun i => (i.zero, i.size, i.bytes)) = some (some (.agg #[.int .i64 0, .int .i64 0, .int .i64 0, .string ⟨#[]⟩, .string ⟨#[]⟩, .string ⟨#[]⟩, .int .i64 0, .int .i64 0]), 8, 88) := by kernel_rfl

set_option maxRecDepth 20000 in
theorem cloneT_any (v : Value) (xs : List Tn) (n : Nat) (w : World) (hN : n = xs.length) (h : Row w v n (tF xs)) (h0 : 0 < n) (hn : n ≤ 1000) :
    Calls Try.prog 38 #[v] w fun e w' => ∃ v', e = .returned v' ∧ w'.ownsRow w.heap.size 73 9 v' n (tF xs) ∧ Below w.heap.size w w' := by
  obtain ⟨i0, hi, hz0, hz1, hz2⟩ := info_parts infoT
  have hb := lay (Below.refl w.heap.size w) (.cells #[] 73)
  have h2 := h.below hb
  have hown := own_blk (B := w.heap.size) (z := 9) (n := 0) (xs := []) (Blk.new w #[] 73) (Nat.le_refl _) rfl rfl (Nat.zero_le _)
  have hl := tF_len xs
  rw [← hN] at hl
  have h1c := tF_one xs
  obtain ⟨g, o, cap, rfl, _⟩ := row_at h h0
  generalize tF xs = ys at h h2 hl h1c ⊢
  clear hN
  have hnil := fun u : World => Lib.run_eql_slice_nil (P := Try.prog) u 70 73 (some ⟨g, o, none⟩) n cap 0 0 Try.underlying70
  go_enter Try.func38, Try.ntmps38
  go_wp2_with (at_builtin; refine wpList_appG _ rfl (.tmp 5) (.tmp 6) 70 73 i0 _ 9 96 Try.underlying70 hi hz0 hz1 hz2 rfl (by decide) rfl w.heap.size _ 0 [] rfl hown _ n ys rfl h2 hl h1c (by omega) (by unfold maxLen; omega) hb.size ?_; intro v' w2 h1 h3 _)
  go_ret
  exact ⟨_, rfl, by simpa using h1, hb.grown h3 hb.size (fun j e => (hown.lt j e).1)⟩

/-- What becomes of a range that is under way. -/
def Kept (w w' : World) (b : Nat) (L L' : List Gr) (k : Ke) : Prop := ∀ r n D left cnt, w.ranges Try.prog 67 rE b r n D left cnt → MapOf D L → n ≤ 1000 → left (kyL k) = false → ∃ n' D' cnt', w'.ranges Try.prog 67 rE b r n' D' left cnt' ∧ MapOf D' L' ∧ n' ≤ 1001 ∧ cnt' ≤ cnt
theorem strike_none {left : Lit → Bool} {kl : Lit} (h : left kl = false) : (fun z => left z && !z.sameKey kl) = left := by
  funext z
  cases e : z.sameKey kl with
  | false => simp
  | true =>
    have := WideAt.sameKey_eq e
    subst this
    rw [h]; rfl
/-- delete, told of all that is asked. -/
theorem del_run {w : World} {b : Nat} {L : List Gr} {T T' : List Tn} (h : Hold w b L T) {k : Ke} (hk : OkK k) (hok : ∀ t ∈ T', OkA t.x) (hx : T'.filter (mt k) = []) (ho : ∀ l, l ≠ k → T'.filter (mt l) = T.filter (mt l)) (ty : TypeId) :
    ∃ w', (Builtin.delete_ #[59, 67] ty #[.map (some b), kyV k]).run Try.prog w = .ok (.tuple #[]) w' ∧ Hold w' b (delL L k) T' ∧ Turn (fun i => i = b) w w' ∧ Kept w w' b L (delL L k) k := by
  obtain ⟨n, D, hown, hm⟩ := h.map
  obtain ⟨w', hrun, hown', ht⟩ := hown.drop keyE Try.underlying59 (keyOf_e hk) ty
  have ht2 : Turn (fun i => i = b) w w' := Turn.of_grown ht.grown (fun _ e => (Option.some.inj e).symm)
  refine ⟨w', hrun, ⟨⟨_, _, hown', mapOf_del hm h.good hk⟩, h.good.del hok hx ho, fun g hg => ?_, h.apart.sublist List.filter_sublist⟩, ht2, ?_⟩
  · refine ht2.row (h.row g (List.mem_filter.1 hg).1) (fun i hi e => ?_)
    subst e
    obtain ⟨es, clock, hb⟩ := h.bmap
    rcases (h.row g (List.mem_filter.1 hg).1).2 with ⟨hv, _⟩ | ⟨g', cap, cur, hv, _, hh, _⟩
    · rw [hv] at hi; simp [Value.ownBlock] at hi
    · rw [hv] at hi
      simp [Value.ownBlock] at hi
      subst hi
      rw [hh] at hb; cases hb
  · intro r n2 D2 left cnt hr hm2 hn2 hl
    obtain ⟨w2, cnt2, hrun2, hr2, hc2, _⟩ := hr.drop keyE Try.underlying59 (keyOf_e hk) ty
    rw [hrun] at hrun2
    simp only [Result.ok.injEq, true_and] at hrun2
    subst hrun2
    rw [strike_none hl] at hr2
    exact ⟨n2, _, cnt2, hr2, mapOf_del hm2 h.good hk, by omega, hc2⟩
/-- A row is stored, told of all that is asked. -/
theorem put_run {w : World} {b : Nat} {L : List Gr} {T T' : List Tn} (h : Hold w b L T) (hfew : L.length ≤ 1000) {k : Ke} (hk : OkK k) {xs : List Tn} {v : Value} {B n : Nat} (hown : w.ownsRow B 73 9 v n (tF xs)) (hn : n = xs.length) (hok : ∀ t ∈ T', OkA t.x) (hx : xs = T'.filter (mt k)) (hne : xs ≠ []) (ho : ∀ l, l ≠ k → T'.filter (mt l) = T.filter (mt l))
    (hap : ∀ g ∈ L, g.k ≠ k → g.v.ownBlock ≠ v.ownBlock) :
    ∃ w', (Instr.mapUpdate 59 (.map (some b)) (kyV k) v).run Try.prog w = .ok () w' ∧ Hold w' b (setL L k xs v) T' ∧ Turn (fun i => i = b) w w' ∧ ((∃ g ∈ L, g.k = k) → Kept w w' b L (setL L k xs v) k) := by
  obtain ⟨D, ho1, hm⟩ := h.own
  obtain ⟨w', hrun, hown', ht⟩ := ho1.store keyE Try.underlying59 (by unfold maxLen; omega) (keyOf_e hk) (slice_of hown)
  have ht2 : Turn (fun i => i = b) w w' := Turn.of_grown ht.grown (fun _ e => (Option.some.inj e).symm)
  have hnb : ∀ {B' n' : Nat} {v' : Value} {ys : List Value}, w.ownsRow B' 73 9 v' n' ys → ∀ i, v'.ownBlock = some i → ¬ i = b := by
    intro B' n' v' ys hr i hi e
    subst e
    obtain ⟨es, clock, hb⟩ := h.bmap
    rcases hr.2 with ⟨hv, _⟩ | ⟨g', cap, cur, hv, _, hh, _⟩
    · rw [hv] at hi; simp [Value.ownBlock] at hi
    · rw [hv] at hi
      simp [Value.ownBlock] at hi
      subst hi
      rw [hh] at hb; cases hb
  refine ⟨w', hrun, ⟨⟨_, _, hown', mapOf_put hm h.good hk xs v⟩, h.good.put v hok hx hne ho, fun g hg => ?_, ?_⟩, ht2, ?_⟩
  · unfold setL at hg
    rcases List.mem_append.1 hg with hg | hg
    · exact ht2.row (h.row g (List.mem_filter.1 hg).1) (hnb (h.row g (List.mem_filter.1 hg).1))
    · simp at hg; subst hg
      have := ht2.row (own_base hown (Nat.zero_le _)) (hnb hown)
      rw [hn] at this
      exact this
  · unfold setL
    refine List.pairwise_append.2 ⟨h.apart.sublist List.filter_sublist, List.pairwise_singleton _ _, fun x hx y hy => ?_⟩
    simp at hy
    subst hy
    obtain ⟨h1, h2⟩ := List.mem_filter.1 hx
    exact hap x h1 (by simpa using h2)
  · rintro ⟨g, hg, e⟩ r n2 D2 left cnt hr hm2 hn2 hl
    obtain ⟨w2, hrun2, hr2, _⟩ := ranges_put hr keyE Try.underlying59 (by unfold maxLen; omega) (keyOf_e hk) (slice_of hown) (by rw [mapOf_has hm2 h.good hk]; exact List.any_eq_true.2 ⟨g, hg, by simpa using e⟩)
    rw [hrun] at hrun2
    simp only [Result.ok.injEq, true_and] at hrun2
    subst hrun2
    exact ⟨_, _, cnt, hr2, mapOf_put hm2 h.good hk xs v, by omega, Nat.le_refl _⟩

end Ou
end Go.Proofs.Ytbldoplemfjcjaa
