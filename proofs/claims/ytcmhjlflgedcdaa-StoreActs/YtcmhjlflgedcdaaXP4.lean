/- What sweep does: what is not live goes, and the entry of a name and a type. -/
import Derived.Test.YtcmhjlflgedcdaaXP3
import Derived.Laws.StructEq
import Derived.Laws.IdiomRangeMap
import Derived.Deep.RegionLaw
import Derived.Carry
namespace Go.Proofs.Ytcmhjlflgedcdaa
open Go.RowKit
open Pl

theorem key_eq (a b : ByteArray) (s t : Int) (v : Bool) (h : (decide (a = b) && decide (s = t)) = v) (u : World) : (binOp .eql 73 (.agg #[.string a, .int .i64 s]) (.agg #[.string b, .int .i64 t])).run Try.prog u = .ok (.bool v) u := by
  have h1 := run_eql_struct (P := Try.prog) (w := u) 73 #[.string a, .int .i64 s] #[.string b, .int .i64 t]
  rw [h1]
  rw [show (10000 : Nat) = 9999 + 1 from rfl, run_equalIn_struct (P := Try.prog) u 9999 73 #[.string a, .int .i64 s] #[.string b, .int .i64 t] (by kernel_rfl) (by kernel_rfl)]
  go_simp
  subst h
  by_cases h2 : a = b
  · subst h2
    by_cases h3 : s = t
    · simp [h3]
    · simp [h3]
  · have h4 : ¬ a.toList = b.toList := fun e => h2 (bytes_ext (by rw [ByteArray.toList_eq, ByteArray.toList_eq] at e; exact e))
    simp [h2, h4]

/-- delete, in a region that draws its order, while the map is ranged over. -/
theorem step_del_e (w : World) {ops : Array Oper} {o : Oper} {a : Act} {K : Act → World → Prop} {Q : Exit → Act → World → Prop} {E : Prop} (hgd : o.guard = none) (m x : Operand)
    (ho : o.op = .call { callee := .builtin .delete, args := #[m, x], argTypes := #[66, 73] }) (b r n cnt : Nat) (D : DataW Hc) (left : Lit → Bool) (kn : ByteArray) (kt : Int) (hm : a.eval m = .map (some b)) (hx : a.eval x = .agg #[.string kn, .int .i64 kt])
    (h : w.ranges Try.prog 73 rE b r n D left cnt) (hn : kn.size ≤ maxLen) (ht : (Lit.int .i64 kt).wf = true)
    (hK : ∀ w' cnt', w'.ranges Try.prog 73 rE b r n (D.del (kyL kn kt)) (fun z => left z && !z.sameKey (kyL kn kt)) cnt' → cnt' ≤ cnt → w.mapTurned w' b → K (a.put o.dst (.tuple #[])) w') :
    if Region.wanted o (yielded ops a.tmps) = true then Oper.wp Try.prog o a w K Q else E := by
  have hw : Region.wanted o (yielded ops a.tmps) = true := by simp [Region.wanted, hgd]
  rw [if_pos hw]
  obtain ⟨w', cnt', hrun, r1, r2, r3⟩ := h.drop keyE Try.underlying66 (keyOf_e hn ht) o.type
  have hrun2 : (Builtin.delete_ #[66, 73] o.type #[.map (some b), .agg #[.string kn, .int .i64 kt]]).run Try.prog w = .ok (.tuple #[]) w' := hrun
  unfold Oper.wp
  simp only [execOp, ho, resolve, invoke, builtin, Sem.run_bind, Sem.run_pure, Result.andThen_ok, List.map_toArray, List.map_cons, List.map_nil, hm, hx, hrun2]
  exact hK _ _ r1 r2 r3
/-- delete, in a region that draws its order. -/
theorem step_del_o (w : World) {ops : Array Oper} {o : Oper} {a : Act} {K : Act → World → Prop} {Q : Exit → Act → World → Prop} {E : Prop} (hgd : o.guard = none) (m x : Operand)
    (ho : o.op = .call { callee := .builtin .delete, args := #[m, x], argTypes := #[66, 73] }) (b n : Nat) (D : DataW Hc) (kn : ByteArray) (kt : Int) (hm : a.eval m = .map (some b)) (hx : a.eval x = .agg #[.string kn, .int .i64 kt])
    (h : w.ownsMap Try.prog 73 rE b n D) (hn : kn.size ≤ maxLen) (ht : (Lit.int .i64 kt).wf = true)
    (hK : ∀ w', w'.ownsMap Try.prog 73 rE b n (D.del (kyL kn kt)) → w.mapTurned w' b → K (a.put o.dst (.tuple #[])) w') :
    if Region.wanted o (yielded ops a.tmps) = true then Oper.wp Try.prog o a w K Q else E := by
  have hw : Region.wanted o (yielded ops a.tmps) = true := by simp [Region.wanted, hgd]
  rw [if_pos hw]
  obtain ⟨w', hrun, r1, r3⟩ := h.drop keyE Try.underlying66 (keyOf_e hn ht) o.type
  have hrun2 : (Builtin.delete_ #[66, 73] o.type #[.map (some b), .agg #[.string kn, .int .i64 kt]]).run Try.prog w = .ok (.tuple #[]) w' := hrun
  unfold Oper.wp
  simp only [execOp, ho, resolve, invoke, builtin, Sem.run_bind, Sem.run_pure, Result.andThen_ok, List.map_toArray, List.map_cons, List.map_nil, hm, hx, hrun2]
  exact hK _ r1 r3

/-- What stays. -/
def keepB (n : ByteArray) (t now : Int) (p : En × Value) : Bool := !sameK n t p.1 && decide (now < p.1.u)
def fltL (n : ByteArray) (t now : Int) (left : Lit → Bool) (L : List (En × Value)) : List (En × Value) := L.filter fun p => left (kyL p.1.n p.1.t) || keepB n t now p
def nextL (left : Lit → Bool) (p : En × Value) : Lit → Bool := fun x => left x && !x.sameKey (kyL p.1.n p.1.t)
theorem nextL_at {L : List (En × Value)} (hg : Good L) {p q : En × Value} (hp : p ∈ L) (hq : q ∈ L) (left : Lit → Bool) : nextL left p (kyL q.1.n q.1.t) = (left (kyL q.1.n q.1.t) && !sameK p.1.n p.1.t q.1) := by
  unfold nextL
  rw [same_ky (hg.ok q hq) (max_ok (hg.ok p hp).k) (wf_ok (hg.ok p hp).k)]
theorem flt_keep {L : List (En × Value)} (hg : Good L) {p : En × Value} (hp : p ∈ L) {n : ByteArray} {t now : Int} {left : Lit → Bool} (hk : keepB n t now p = true) : fltL n t now (nextL left p) L = fltL n t now left L := by
  unfold fltL
  refine List.filter_congr (fun q hq => ?_)
  rw [nextL_at hg hp hq]
  cases hs : sameK p.1.n p.1.t q.1 with
  | false => simp
  | true =>
    obtain rfl := hg.one hp hq hs
    rw [hk]; simp
theorem flt_drop {L : List (En × Value)} (hg : Good L) {p : En × Value} (hp : p ∈ L) {n : ByteArray} {t now : Int} {left : Lit → Bool} (hk : keepB n t now p = false) : (fltL n t now left L).filter (fun q => !sameK p.1.n p.1.t q.1) = fltL n t now (nextL left p) L := by
  unfold fltL
  rw [List.filter_filter]
  refine List.filter_congr (fun q hq => ?_)
  rw [nextL_at hg hp hq]
  cases hs : sameK p.1.n p.1.t q.1 with
  | false => simp
  | true =>
    obtain rfl := hg.one hp hq hs
    rw [hk]; simp
theorem flt_end {L : List (En × Value)} {n : ByteArray} {t now : Int} {left : Lit → Bool} (h : ∀ kl, left kl = false) : fltL n t now left L = L.filter (keepB n t now) := by
  unfold fltL
  refine List.filter_congr (fun q _ => ?_)
  rw [h]; rfl
theorem flt_start {D : DataW Hc} {L : List (En × Value)} (hm : MapOf D L) (hg : Good L) (n : ByteArray) (t now : Int) : fltL n t now (Maps.has D) L = L := by
  unfold fltL
  refine List.filter_eq_self.2 (fun q hq => ?_)
  rw [mapOf_has hm hg (max_ok (hg.ok q hq).k) (wf_ok (hg.ok q hq).k), List.any_eq_true.2 ⟨q, hq, sameK_iff.2 ⟨rfl, rfl⟩⟩]
  rfl

/-- A range over the map of a store, under way. -/
structure SWp (w0 w : World) (gs most b r : Nat) (L M : List (En × Value)) (left : Lit → Bool) (cnt : Nat) : Prop where
  rg : ∃ k D, w.ranges Try.prog 73 rE b r k D left cnt ∧ MapOf D M
  good : Good L
  dat : ∀ p ∈ L, w.ownsRow 0 9 1 p.2 p.1.ds.length (tC p.1.ds)
  blk : Blk w gs #[.int .i64 most, .map (some b)] 68
  turn : Turn (fun k => k = b) w0 w
  oldb : b < w0.heap.size
  oldg : gs < w0.heap.size
  oldd : ∀ p ∈ L, ∀ k, p.2.ownBlock = some k → k < w0.heap.size
  new : w0.heap.size ≤ r
theorem row_not_map {w : World} {b : Nat} {es : Array MapEntry} {clock : Nat} (hb : w.heap[b]? = some (.map es clock)) {base e z n : Nat} {v : Value} {xs : List Value} (h : w.ownsRow base e z v n xs) : ∀ k, v.ownBlock = some k → k ≠ b := by
  intro k hk e
  rcases h.2 with ⟨rfl, _⟩ | ⟨g, cap, cur, rfl, _, hgb, _⟩
  · simp [Value.ownBlock] at hk
  · have : g = k := by simpa [Value.ownBlock] using hk
    subst this; subst e
    rw [hgb] at hb; cases hb
theorem Blk.not_map {w : World} {b g : Nat} {es : Array MapEntry} {clock : Nat} (hb : w.heap[b]? = some (.map es clock)) {C : Array Value} {t : TypeId} (h : Blk w g C t) : g ≠ b := by
  intro e; subst e
  have h' : w.heap[g]? = some (.cells C t (0, 0)) := h
  rw [h'] at hb; cases hb
theorem SWp.below {w0 w w' : World} {gs most b r : Nat} {L M : List (En × Value)} {left : Lit → Bool} {cnt : Nat} (h : SWp w0 w gs most b r L M left cnt) (hb : Below w.heap.size w w') : SWp w0 w' gs most b r L M left cnt := by
  obtain ⟨k, D, hr, hm⟩ := h.rg
  exact ⟨⟨k, D, hr.kept (row := none) ⟨hb.os, hb.tape, hb.output, hb.size, fun k hk _ => hb.block k hk⟩ (by simp) (by simp), hm⟩, h.good, fun p hp => own_past (h.dat p hp) hb, h.blk.below hb, h.turn.past hb, h.oldb, h.oldg, h.oldd, h.new⟩
theorem SWp.moved {w0 w w' : World} {gs most b r : Nat} {L M : List (En × Value)} {left left' : Lit → Bool} {cnt cnt' k : Nat} {D : DataW Hc} (h : SWp w0 w gs most b r L M left cnt) (hr : w'.ranges Try.prog 73 rE b r k D left' cnt') (hm : MapOf D M) (hg : w.grownBy w' (some r)) : SWp w0 w' gs most b r L M left' cnt' := by
  have ht : Turn (fun k => k = r) w w' := Turn.of_grown hg (fun k e => (Option.some.inj e).symm)
  have hn := h.new
  exact ⟨⟨k, D, hr, hm⟩, h.good, fun p hp => ht.row (h.dat p hp) (fun k hk e => by have := h.oldd p hp k hk; omega), ht.blk h.blk (by have := h.oldg; omega), h.turn.trans ht (fun i hi => .inr (by omega)), h.oldb, h.oldg, h.oldd, h.new⟩
theorem SWp.struck {w0 w w' : World} {gs most b r : Nat} {L M N : List (En × Value)} {left left' : Lit → Bool} {cnt cnt' k : Nat} {D : DataW Hc} (h : SWp w0 w gs most b r L M left cnt) (hr : w'.ranges Try.prog 73 rE b r k D left' cnt') (hm : MapOf D N) (ht : w.mapTurned w' b) : SWp w0 w' gs most b r L N left' cnt' := by
  obtain ⟨k0, D0, hr0, _⟩ := h.rg
  obtain ⟨es, clock, hb, _⟩ := hr0.owns
  have ht2 : Turn (fun k => k = b) w w' := Turn.of_grown ht.grown (fun k e => (Option.some.inj e).symm)
  exact ⟨⟨k, D, hr, hm⟩, h.good, fun p hp => ht2.row (h.dat p hp) (fun k hk e => row_not_map hb (h.dat p hp) k hk e), ht2.blk h.blk (h.blk.not_map hb), h.turn.same ht2, h.oldb, h.oldg, h.oldd, h.new⟩
/-- A range begins. -/
theorem sw_start {w0 w w' : World} {gs most b : Nat} {L : List (En × Value)} {D : DataW Hc} (h : St w0 gs most (some b) L) (hb : Below w0.heap.size w0 w) (hm : MapOf D L) (hr : w'.ranges Try.prog 73 rE b w.heap.size L.length D (Maps.has D) (Maps.size D)) (hg : w.grownBy w' none) :
    SWp w0 w' gs most b w.heap.size L L (Maps.has D) (Maps.size D) := by
  have hb2 : Below w0.heap.size w0 w' := next hb (grown_below hg)
  have hs := h.below hb2
  have hl := h.lt
  rcases hs.at' with ⟨e, _⟩ | ⟨b', e, hh⟩
  · cases e
  · cases e
    exact ⟨⟨_, D, hr, hm⟩, hh.good, hh.dat, hs.blk, Turn.of_below hb2, hl b (.inr (.inl rfl)), hl gs (.inl rfl), fun p hp k hk => hl k (.inr (.inr ⟨p, hp, hk⟩)), hb.size⟩
theorem SWp.st {w0 w : World} {gs most b r : Nat} {L M : List (En × Value)} {left : Lit → Bool} {cnt : Nat} (h : SWp w0 w gs most b r L M left cnt) (hs : M.Sublist L) (h1 : 1 ≤ most) (h2 : most ≤ 256) (hl : L.length ≤ most) : St w gs most (some b) M := by
  obtain ⟨k, D, hr, hm⟩ := h.rg
  exact ⟨h.blk, h1, h2, Nat.le_trans hs.length_le hl, .inr ⟨b, rfl, ⟨k, D, hr.owns, hm⟩, h.good.sub hs, fun p hp => h.dat p (hs.subset hp)⟩⟩

theorem sw_struck {w0 w w' : World} {gs most b r : Nat} {L M N : List (En × Value)} {left : Lit → Bool} {cnt cnt' k : Nat} {D : DataW Hc} {p : En × Value} (h : SWp w0 w gs most b r L M (nextL left p) cnt) (hg : Good M) (hok : OkK p.1.n p.1.t) (hm : MapOf D M) (hN : M.filter (fun q => !sameK p.1.n p.1.t q.1) = N)
    (hr : w'.ranges Try.prog 73 rE b r k (D.del (kyL p.1.n p.1.t)) (fun z => nextL left p z && !z.sameKey (kyL p.1.n p.1.t)) cnt') (ht : w.mapTurned w' b) : SWp w0 w' gs most b r L N (nextL left p) cnt' := by
  have e : (fun z => nextL left p z && !z.sameKey (kyL p.1.n p.1.t)) = nextL left p := Maps.strike_twice left (kyL p.1.n p.1.t)
  rw [e] at hr
  have := mapOf_del hm hg (max_ok hok) (wf_ok hok)
  rw [hN] at this
  exact h.struck hr this ht

set_option maxRecDepth 20000 in
set_option maxHeartbeats 2000000 in
theorem sweep_any {w : World} {gs most : Nat} {mb : Option Nat} {L : List (En × Value)} (h : St w gs most mb L) (n : ByteArray) (t now : Int) (_hk : OkK n t) :
    Calls Try.prog 34 #[.pointer (some ⟨gs, 0, none⟩), .agg #[.string n, .int .i64 t], .int .i64 now] w fun e w' => e = .returned (.tuple #[]) ∧ St w' gs most mb (L.filter (keepB n t now)) ∧ Turn (fun k => mb = some k) w w' := by
  have hb1 : Below w.heap.size w (w.alloc (.cells #[.string n, .int .i64 t] 73)) := lay (Below.refl _ _) _
  have hs1 := h.below hb1
  have c1 : (w.alloc (.cells #[.string n, .int .i64 t] 73)).cell? ⟨gs, 1, none⟩ = some (.map mb) := hs1.blk.cell 1
  cases mb with
  | none =>
    have hL : L = [] := by
      rcases h.at' with ⟨_, e⟩ | ⟨b, e, _⟩
      · exact e
      · cases e
    subst hL
    have hrg := run_range_nilMap (P := Try.prog) (w.alloc (.cells #[.string n, .int .i64 t] 73)) 66 73 36 Try.underlying66
    have hnx : ∀ ty, (Instr.next (.pointer (some ⟨(w.alloc (.cells #[.string n, .int .i64 t] 73)).heap.size, 0, none⟩)) false ty).run Try.prog ((w.alloc (.cells #[.string n, .int .i64 t] 73)).alloc (.mapIter none 0 #[] 0)) = _ := fun ty => run_next_nilMap _ ty 0 0 #[]
    have e2 : (w.alloc (.cells #[.string n, .int .i64 t] 73)).heap.size = w.heap.size + 1 := by simp
    rw [e2] at hnx
    have HS : Hid (St ((w.alloc (.cells #[.string n, .int .i64 t] 73)).alloc (.mapIter none 0 #[] 0)) gs most none []) := h.below (lay hb1 _)
    have HT : Hid (Turn (fun k => (none : Option Nat) = some k) w ((w.alloc (.cells #[.string n, .int .i64 t] 73)).alloc (.mapIter none 0 #[] 0))) := Turn.of_below (lay hb1 _)
    clear h hs1 hb1
    go_enter Try.func34, Try.ntmps34
    go_wp2
    go_loopw [13] (fun _ wr => wr = (w.alloc (.cells #[.string n, .int .i64 t] 73)).alloc (.mapIter none 0 #[] 0)) (fun _ _ => 0)
    case atStart => exact rfl
    case round =>
      obtain rfl := hrel
      go_wp2
      go_end0
      exact ⟨rfl, HS.out, HT.out⟩
  | some b =>
    obtain ⟨hhold⟩ : Nonempty (Hold (w.alloc (.cells #[.string n, .int .i64 t] 73)) b L) := by
      rcases hs1.at' with ⟨e, _⟩ | ⟨b', e, hh⟩
      · cases e
      · cases e; exact ⟨hh⟩
    obtain ⟨D, hown, hm⟩ := hhold.own
    have hg := hhold.good
    have h1 := h.m1
    have h2 := h.m2
    have h3 := h.len
    have HST : Hid (∀ w', w'.ranges Try.prog 73 rE b (w.alloc (.cells #[.string n, .int .i64 t] 73)).heap.size L.length D (Maps.has D) (Maps.size D) → (w.alloc (.cells #[.string n, .int .i64 t] 73)).grownBy w' none → SWp w w' gs most b (w.alloc (.cells #[.string n, .int .i64 t] 73)).heap.size L (fltL n t now (Maps.has D) L) (Maps.has D) (Maps.size D) ∧ Blk w' w.heap.size #[.string n, .int .i64 t] 73) := fun w' hr hgr => ⟨by rw [flt_start hm hg]; exact sw_start h hb1 hm hr hgr, (Blk.new w _ _).below (grown_below hgr)⟩
    clear h hs1 hb1 hhold
    go_enter Try.func34, Try.ntmps34
    go_wp2_with (first
      | (at_range; refine wpList_range_own _ rfl _ 66 rfl 73 36 keyE Try.underlying66 rE b L.length D rfl hown ?_; intro w1 hr1 hg1 hs1; have HS1 := HST.out w1 hr1 hg1; clear hr1 hg1 hs1 HST)
      | go_in)
    go_frame
    have hrw : w.heap.size < (w.alloc (.cells #[.string n, .int .i64 t] 73)).heap.size := by simp
    generalize (w.alloc (.cells #[.string n, .int .i64 t] 73)).heap.size = r at HS1 hrw ⊢
    have HS : Hid (SWp w w1 gs most b r L (fltL n t now (Maps.has D) L) (Maps.has D) (Maps.size D) ∧ Blk w1 w.heap.size #[.string n, .int .i64 t] 73) := HS1
    clear HS1 hown hm c1
    go_loopw [13] (fun _ wr => ∃ (left : Lit → Bool) (cnt : Nat), Hid (SWp w wr gs most b r L (fltL n t now left L) left cnt ∧ Blk wr w.heap.size #[.string n, .int .i64 t] 73)) (fun _ wr => wr.rangeLeft b r)
    case atStart => exact ⟨_, _, HS⟩
    case round =>
      clear HS
      obtain ⟨left, cnt, HR⟩ := hrel
      obtain ⟨kk, D', hr', hm'⟩ := HR.out.1.rg
      go_wp2_with (first
        | (at_next; go_must (refine wpList_next_e _ rfl (.tmp 12) rfl b r kk cnt D' left (fltL n t now left L) rfl hr' hm' (hg.sub List.filter_sublist) ?_ ?_))
        | go_in)
      · intro _ hl0
        go_wp2
        go_end0
        refine ⟨rfl, ?_, ?_⟩
        · have := HR.out.1
          rw [flt_end hl0] at this
          exact this.st List.filter_sublist h1 h2 h3
        · exact HR.out.1.turn.more (fun k e => by rw [e])
      · intro pe pd w2 cnt2 hpm hlp hr2 hlt hg2 hsz2 hen
        obtain ⟨hpL, _⟩ := List.mem_filter.1 hpm
        have HK := HR.out
        have HM : Hid (SWp w w2 gs most b r L (fltL n t now left L) (nextL left (pe, pd)) cnt2 ∧ Blk w2 w.heap.size #[.string n, .int .i64 t] 73) := ⟨HK.1.moved hr2 hm' hg2, (Turn.of_grown (S := fun k => k = r) hg2 (fun k e => (Option.some.inj e).symm)).blk HK.2 (by omega)⟩
        have HLT : Hid (∀ c, wr.rangeLeft b r = c → c = cnt) := fun c hc => by rw [hr'.left_eq] at hc; exact hc.symm
        obtain ⟨y, c, hpd⟩ := row_shape (HK.1.dat _ hpL)
        have hok := (hg.ok _ hpL).k
        have HF1 : Hid (keepB n t now (pe, pd) = true → fltL n t now (nextL left (pe, pd)) L = fltL n t now left L) := fun hkk => flt_keep hg hpL hkk
        have HF2 : Hid (keepB n t now (pe, pd) = false → (fltL n t now left L).filter (fun q => !sameK pe.n pe.t q.1) = fltL n t now (nextL left (pe, pd)) L) := fun hkk => flt_drop hg hpL hkk
        clear HK hpm hlp hr2 hg2 hsz2 hpL hr' hm' HR
        unfold kyV eA at hen ⊢
        obtain ⟨pn, pt, pl, pds, pr, pu⟩ := pe
        simp only at hpd hok hen HF2 ⊢
        generalize pds.length = N at hpd
        subst hpd
        have c0 := HM.out.2.cell 0
        have c1 := HM.out.2.cell 1
        simp only [List.getElem?_toArray, List.getElem?_cons_succ, List.getElem?_cons_zero] at c0 c1
        have d0 : ∀ o o' : Obj, ((w2.alloc o).alloc o').cell? ⟨w.heap.size, 0, none⟩ = some (.string n) := fun o o' => ((HM.out.2.alloc o).alloc o').cell 0
        have d1 : ∀ o o' : Obj, ((w2.alloc o).alloc o').cell? ⟨w.heap.size, 1, none⟩ = some (.int .i64 t) := fun o o' => ((HM.out.2.alloc o).alloc o').cell 1
        cases hsame : sameK n t ⟨pn, pt, pl, pds, pr, pu⟩ with
        | true =>
          have hke := key_eq pn n pt t true (by have := sameK_iff.1 hsame; simp at this ⊢; exact this)
          have hkk : keepB n t now (⟨pn, pt, pl, pds, pr, pu⟩, .slice y N c) = false := by unfold keepB; rw [hsame]; rfl
          go_wp2
          have HW : Hid (SWp w ((w2.alloc (.cells #[.string pn, .int .i64 pt] 73)).alloc (.cells #[.string pn, .int .i64 pt, .int .i64 pl, .slice y N c, .int .i64 pr, .int .i64 pu] 36)) gs most b r L (fltL n t now left L) (nextL left (⟨pn, pt, pl, pds, pr, pu⟩, .slice y N c)) cnt2 ∧ Blk ((w2.alloc (.cells #[.string pn, .int .i64 pt] 73)).alloc (.cells #[.string pn, .int .i64 pt, .int .i64 pl, .slice y N c, .int .i64 pr, .int .i64 pu] 36)) w.heap.size #[.string n, .int .i64 t] 73) := ⟨HM.out.1.below (lay (lay (Below.refl _ _) _) _), HM.out.2.below (lay (lay (Below.refl _ _) _) _)⟩
          obtain ⟨k3, D3, hr3, hm3⟩ := (HW.out.1.below (Below.refl _ _).drew).rg
          have e1 : (((w2.alloc (.cells #[.string pn, .int .i64 pt] 73)).alloc (.cells #[.string pn, .int .i64 pt, .int .i64 pl, .slice y N c, .int .i64 pr, .int .i64 pu] 36))).cell? ⟨gs, 1, none⟩ = some (.map (some b)) := HW.out.1.blk.cell 1
          go_region_law ((refine step_del_e _ (by rfl) (.tmp 30) (.tmp 31) (by rfl) b r k3 cnt2 D3 _ pn pt (by rfl) (by rfl) hr3 (max_ok hok) (wf_ok hok) ?_; intro w4 cnt4 hr4 hle4 ht4))
          all_goals (have HN := sw_struck (HW.out.1.below (Below.refl _ _).drew) (hg.sub List.filter_sublist) hok hm3 (HF2.out hkk) hr4 ht4; have HBX := (Turn.of_grown (S := fun k => k = b) ht4.grown (fun k e => (Option.some.inj e).symm)).blk (HW.out.2.below (Below.refl _ _).drew) (fun e => by have := HN.oldb; omega); go_wp2; exact ⟨⟨_, _, HN, HBX⟩, by rw [hr4.left_eq, HLT.out _ rfl]; omega⟩)
        | false =>
          have hke := key_eq pn n pt t false (by cases hq : (decide (pn = n) && decide (pt = t)) with | false => rfl | true => (rw [show sameK n t ⟨pn, pt, pl, pds, pr, pu⟩ = true from hq] at hsame; cases hsame))
          have HB3 : Hid (Below w2.heap.size w2 ((w2.alloc (.cells #[.string pn, .int .i64 pt] 73)).alloc (.cells #[.string pn, .int .i64 pt, .int .i64 pl, .slice y N c, .int .i64 pr, .int .i64 pu] 36))) := lay (lay (Below.refl _ _) _) _
          have q0 : Blk ((w2.alloc (.cells #[.string pn, .int .i64 pt] 73)).alloc (.cells #[.string pn, .int .i64 pt, .int .i64 pl, .slice y N c, .int .i64 pr, .int .i64 pu] 36)) w2.heap.size #[.string pn, .int .i64 pt] 73 := (Blk.new w2 _ _).alloc _
          cases hlv : decide (now < pu) with
          | true =>
            have hkk : keepB n t now (⟨pn, pt, pl, pds, pr, pu⟩, .slice y N c) = true := by unfold keepB; rw [hsame]; simpa using hlv
            have hil := fun u => isLive_any pn pt pl pr pu now (.slice y N c) u rfl
            rw [hlv] at hil
            go_wp2_with (go_at_call 46; go_must (refine (hil _).mono ?_); rintro e w3 ⟨rfl, b3⟩)
            have HN := HM.out.1.below (next HB3.out b3)
            rw [← HF1.out hkk] at HN
            have HBX := HM.out.2.below (next HB3.out b3)
            have HL := HN.rg
            obtain ⟨k5, D5, hr5, _⟩ := HL
            go_roundw
            case rel => exact ⟨_, _, HN, HBX⟩
            case measure => rw [hr5.left_eq, HLT.out _ rfl]; omega
          | false =>
            have hkk : keepB n t now (⟨pn, pt, pl, pds, pr, pu⟩, .slice y N c) = false := by unfold keepB; rw [hsame]; simpa using hlv
            have hil := fun u => isLive_any pn pt pl pr pu now (.slice y N c) u rfl
            rw [hlv] at hil
            go_wp2_with (go_at_call 46; go_must (refine (hil _).mono ?_); rintro e w3 ⟨rfl, b3⟩; have q1 := (q0.below b3).cell 0; have q2 := (q0.below b3).cell 1; simp only [List.getElem?_toArray, List.getElem?_cons_succ, List.getElem?_cons_zero] at q1 q2)
            have HW : Hid (SWp w w3 gs most b r L (fltL n t now left L) (nextL left (⟨pn, pt, pl, pds, pr, pu⟩, .slice y N c)) cnt2 ∧ Blk w3 w.heap.size #[.string n, .int .i64 t] 73) := ⟨HM.out.1.below (next HB3.out b3), HM.out.2.below (next HB3.out b3)⟩
            obtain ⟨k3, D3, hr3, hm3⟩ := (HW.out.1.below (Below.refl _ _).drew).rg
            have e1 : (w3).cell? ⟨gs, 1, none⟩ = some (.map (some b)) := HW.out.1.blk.cell 1
            go_region_law ((refine step_del_e _ (by rfl) (.tmp 30) (.tmp 31) (by rfl) b r k3 cnt2 D3 _ pn pt (by rfl) (by rfl) hr3 (max_ok hok) (wf_ok hok) ?_; intro w4 cnt4 hr4 hle4 ht4))
            all_goals (have HN := sw_struck (HW.out.1.below (Below.refl _ _).drew) (hg.sub List.filter_sublist) hok hm3 (HF2.out hkk) hr4 ht4; have HBX := (Turn.of_grown (S := fun k => k = b) ht4.grown (fun k e => (Option.some.inj e).symm)).blk (HW.out.2.below (Below.refl _ _).drew) (fun e => by have := HN.oldb; omega); go_wp2; exact ⟨⟨_, _, HN, HBX⟩, by rw [hr4.left_eq, HLT.out _ rfl]; omega⟩)

end Go.Proofs.Ytcmhjlflgedcdaa

/- What dropOne does: the least goes. -/
namespace Go.Proofs.Ytcmhjlflgedcdaa
open Go.RowKit
open Pl

/-- The least of those that have come. -/
def Least (L : List (En × Value)) (left : Lit → Bool) (ln : ByteArray) (lt : Int) : Prop :=
  (ln = ⟨#[]⟩ ∧ lt = 0 ∧ ∀ p ∈ L, left (kyL p.1.n p.1.t) = true) ∨
  ∃ q ∈ L, q.1.n = ln ∧ q.1.t = lt ∧ left (kyL q.1.n q.1.t) = false ∧ ∀ p ∈ L, left (kyL p.1.n p.1.t) = false → sameK q.1.n q.1.t p.1 = false → ltE q.1 p.1 = true
theorem least_start {D : DataW Hc} {L : List (En × Value)} (hm : MapOf D L) (hg : Good L) : Least L (Maps.has D) ⟨#[]⟩ 0 :=
  .inl ⟨rfl, rfl, fun p hp => by rw [mapOf_has hm hg (max_ok (hg.ok p hp).k) (wf_ok (hg.ok p hp).k)]; exact List.any_eq_true.2 ⟨p, hp, sameK_iff.2 ⟨rfl, rfl⟩⟩⟩
theorem least_first {L : List (En × Value)} (hg : Good L) {left : Lit → Bool} (h : ∀ p ∈ L, left (kyL p.1.n p.1.t) = true) {p : En × Value} (hp : p ∈ L) : Least L (nextL left p) p.1.n p.1.t := by
  refine .inr ⟨p, hp, rfl, rfl, ?_, fun q hq hl hs => ?_⟩
  · rw [nextL_at hg hp hp, sameK_iff.2 ⟨rfl, rfl⟩]; simp
  · rw [nextL_at hg hp hq, h q hq, hs] at hl; simp at hl
theorem least_take {L : List (En × Value)} (hg : Good L) {left : Lit → Bool} {q p : En × Value} (hq : q ∈ L) (h : ∀ p ∈ L, left (kyL p.1.n p.1.t) = false → sameK q.1.n q.1.t p.1 = false → ltE q.1 p.1 = true) (hp : p ∈ L) (hlt : ltE p.1 q.1 = true) : Least L (nextL left p) p.1.n p.1.t := by
  refine .inr ⟨p, hp, rfl, rfl, ?_, fun x hx hl hs => ?_⟩
  · rw [nextL_at hg hp hp, sameK_iff.2 ⟨rfl, rfl⟩]; simp
  · rw [nextL_at hg hp hx, hs] at hl
    simp at hl
    cases hs2 : sameK q.1.n q.1.t x.1 with
    | true => rw [← hg.one hq hx hs2]; exact hlt
    | false => exact ltE_trans hlt (h x hx hl hs2)
theorem least_stay {L : List (En × Value)} (hg : Good L) {left : Lit → Bool} {q p : En × Value} (hq : q ∈ L) (hql : left (kyL q.1.n q.1.t) = false) (h : ∀ p ∈ L, left (kyL p.1.n p.1.t) = false → sameK q.1.n q.1.t p.1 = false → ltE q.1 p.1 = true) (hp : p ∈ L) (hlt : ltE p.1 q.1 = false) : Least L (nextL left p) q.1.n q.1.t := by
  refine .inr ⟨q, hq, rfl, rfl, ?_, fun x hx hl hs => ?_⟩
  · rw [nextL_at hg hp hq, hql]; rfl
  · rw [nextL_at hg hp hx] at hl
    cases hl2 : left (kyL x.1.n x.1.t) with
    | false => exact h x hx hl2 hs
    | true =>
      rw [hl2] at hl
      simp at hl
      obtain rfl := hg.one hp hx hl
      exact ltE_total (hg.ok p hp) (hg.ok q hq) hlt (sameK_symm hs)
theorem erase_pairs : ∀ {L : List (En × Value)} (_ : Dis (fstL L)) {i : Nat} (hi : i < L.length), L.filter (fun y => !sameK L[i].1.n L[i].1.t y.1) = L.eraseIdx i := by
  intro L
  induction L with
  | nil => intro _ i hi; simp at hi
  | cons a L ih =>
    intro hd i hi
    have hd2 := List.pairwise_cons.1 hd
    cases i with
    | zero =>
      have : sameK a.1.n a.1.t a.1 = true := sameK_iff.2 ⟨rfl, rfl⟩
      simp only [List.getElem_cons_zero, List.filter_cons, this, List.eraseIdx_cons_zero]
      simp only [Bool.not_true, Bool.false_eq_true, if_false]
      exact List.filter_eq_self.2 (fun y hy => by rw [hd2.1 y.1 (List.mem_map.2 ⟨y, hy, rfl⟩)]; rfl)
    | succ i =>
      simp only [List.getElem_cons_succ, List.filter_cons, List.eraseIdx_cons_succ]
      have hi' : i < L.length := by simp at hi; omega
      have : sameK L[i].1.n L[i].1.t a.1 = false := sameK_symm (hd2.1 _ (List.mem_map.2 ⟨L[i], List.getElem_mem _, rfl⟩))
      rw [this, Bool.not_false, if_pos rfl, ih hd2.2 hi']
theorem Good.fst {L : List (En × Value)} (h : Good L) : ∀ e ∈ fstL L, OkE e := fun e he => by obtain ⟨p, hp, rfl⟩ := List.mem_map.1 he; exact h.ok p hp
/-- In the end the least of all goes. -/
theorem least_end {L : List (En × Value)} (hg : Good L) {left : Lit → Bool} (hl : ∀ kl, left kl = false) {ln : ByteArray} {lt : Int} (h : Least L left ln lt) (h0 : 0 < L.length) : OkK ln lt ∧ L.filter (fun y => !sameK ln lt y.1) = L.eraseIdx (minP (fstL L)) := by
  rcases h with ⟨_, _, h⟩ | ⟨q, hq, rfl, rfl, _, h⟩
  · have := h L[0] (List.getElem_mem _)
    rw [hl] at this; cases this
  · obtain ⟨i, hi, rfl⟩ := List.getElem_of_mem hq
    have hlen : (fstL L).length = L.length := by unfold fstL; simp
    have hi' : i < (fstL L).length := by omega
    refine ⟨(hg.ok _ hq).k, ?_⟩
    rw [erase_pairs hg.dis hi]
    congr 1
    refine minP_eq hg.dis hg.fst hi' (fun j hj hne => ?_)
    have := h (L[j]'(by omega)) (List.getElem_mem _) (hl _) (by
      have := hg.dis.at hi' hj (fun e => hne e.symm)
      simpa [fstL] using this)
    simpa [fstL] using this
theorem atL_empty {L : List (En × Value)} (hg : Good L) : atL L ⟨#[]⟩ 0 = none := by
  cases h : atL L ⟨#[]⟩ 0 with
  | none => rfl
  | some p =>
    obtain ⟨h1, _, h3⟩ := atL_some h
    have := (hg.ok p h1).k.lo
    omega
/-- The box of the least is written. -/
theorem SWp.own {w0 w w' : World} {gs most b r : Nat} {L M : List (En × Value)} {left : Lit → Bool} {cnt g : Nat} (h : SWp w0 w gs most b r L M left cnt) (ht : Turn (fun k => k = g) w w') (hg : w0.heap.size ≤ g) (hr : g ≠ r) : SWp w0 w' gs most b r L M left cnt := by
  obtain ⟨k, D, hrg, hm⟩ := h.rg
  have hgr : w.grownBy w' (some g) := ⟨ht.os, ht.tape, ht.output, ht.size, fun k hk hne => ht.block k hk (fun e => hne (by rw [e]))⟩
  have := h.oldb
  have := h.oldg
  exact ⟨⟨k, D, hrg.kept hgr (fun e => by have := Option.some.inj e; omega) (fun e => by have := Option.some.inj e; omega), hm⟩, h.good, fun p hp => ht.row (h.dat p hp) (fun k hk e => by have := h.oldd p hp k hk; omega), ht.blk h.blk (by omega), h.turn.trans ht (fun i hi => .inr (by omega)), h.oldb, h.oldg, h.oldd, h.new⟩
theorem SWp.look {w0 w : World} {gs most b r : Nat} {L : List (En × Value)} {left : Lit → Bool} {cnt : Nat} (h : SWp w0 w gs most b r L L left cnt) {n : ByteArray} {t : Int} (hn : n.size ≤ maxLen) (ht : (Lit.int .i64 t).wf = true) :
    (Instr.lookup 66 (.map (some b)) (.agg #[.string n, .int .i64 t]) true).run Try.prog w = .ok (.tuple #[vL L n t, .bool (bL L n t)]) w := by
  obtain ⟨k, D, hr, hm⟩ := h.rg
  have : MapAt w (some b) L := .inr ⟨b, rfl, ⟨k, D, hr.owns, hm⟩, h.good, h.dat⟩
  exact this.look hn ht

set_option maxRecDepth 20000 in
set_option maxHeartbeats 4000000 in
theorem dropOne_any {w : World} {gs most b : Nat} {L : List (En × Value)} (h : St w gs most (some b) L) (h0 : 0 < L.length) :
    Calls Try.prog 35 #[.pointer (some ⟨gs, 0, none⟩)] w fun e w' => e = .returned (.tuple #[]) ∧ St w' gs most (some b) (L.eraseIdx (minP (fstL L))) ∧ Turn (fun k => k = b) w w' := by
  have hb1 : Below w.heap.size w (w.alloc (.cells #[.string ⟨#[]⟩, .int .i64 0] 73)) := lay (Below.refl _ _) _
  have hs1 := h.below hb1
  have c1 : (w.alloc (.cells #[.string ⟨#[]⟩, .int .i64 0] 73)).cell? ⟨gs, 1, none⟩ = some (.map (some b)) := hs1.blk.cell 1
  obtain ⟨hhold⟩ : Nonempty (Hold (w.alloc (.cells #[.string ⟨#[]⟩, .int .i64 0] 73)) b L) := by
    rcases hs1.at' with ⟨e, _⟩ | ⟨b', e, hh⟩
    · cases e
    · cases e; exact ⟨hh⟩
  obtain ⟨D, hown, hm⟩ := hhold.own
  have hg := hhold.good
  have h1 := h.m1
  have h2 := h.m2
  have h3 := h.len
  have HST : Hid (∀ w', w'.ranges Try.prog 73 rE b (w.alloc (.cells #[.string ⟨#[]⟩, .int .i64 0] 73)).heap.size L.length D (Maps.has D) (Maps.size D) → (w.alloc (.cells #[.string ⟨#[]⟩, .int .i64 0] 73)).grownBy w' none → SWp w w' gs most b (w.alloc (.cells #[.string ⟨#[]⟩, .int .i64 0] 73)).heap.size L L (Maps.has D) (Maps.size D) ∧ Blk w' w.heap.size #[.string ⟨#[]⟩, .int .i64 0] 73 ∧ Least L (Maps.has D) ⟨#[]⟩ 0) := fun w' hr hgr => ⟨sw_start h hb1 hm hr hgr, (Blk.new w _ _).below (grown_below hgr), least_start hm hg⟩
  clear h hs1 hb1 hhold
  go_enter Try.func35, Try.ntmps35
  go_wp2_with (first
    | (at_range; refine wpList_range_own _ rfl _ 66 rfl 73 36 keyE Try.underlying66 rE b L.length D rfl hown ?_; intro w1 hr1 hg1 hs1; have HS1 := HST.out w1 hr1 hg1; clear hr1 hg1 hs1 HST)
    | go_in)
  go_frame
  have hrw : w.heap.size < (w.alloc (.cells #[.string ⟨#[]⟩, .int .i64 0] 73)).heap.size := by simp
  generalize (w.alloc (.cells #[.string ⟨#[]⟩, .int .i64 0] 73)).heap.size = r at HS1 hrw ⊢
  have HS : Hid (SWp w w1 gs most b r L L (Maps.has D) (Maps.size D) ∧ Blk w1 w.heap.size #[.string ⟨#[]⟩, .int .i64 0] 73 ∧ Least L (Maps.has D) ⟨#[]⟩ 0) := HS1
  clear HS1 hown hm c1
  go_loopw [12] (fun _ wr => ∃ (left : Lit → Bool) (cnt : Nat) (ln : ByteArray) (lt : Int), Hid (SWp w wr gs most b r L L left cnt ∧ Blk wr w.heap.size #[.string ln, .int .i64 lt] 73 ∧ Least L left ln lt)) (fun _ wr => wr.rangeLeft b r)
  case atStart => exact ⟨_, _, _, _, HS⟩
  case round =>
    clear HS
    obtain ⟨left, cnt, ln, lt, HR⟩ := hrel
    obtain ⟨kk, D', hr', hm'⟩ := HR.out.1.rg
    go_wp2_with (first
      | (at_next; go_must (refine wpList_next_e _ rfl (.tmp 11) rfl b r kk cnt D' left L rfl hr' hm' hg ?_ ?_))
      | go_in)
    · intro _ hl0
      obtain ⟨hok, hfil⟩ := least_end hg hl0 HR.out.2.2 h0
      have HF : Hid (L.filter (fun y => !sameK ln lt y.1) = L.eraseIdx (minP (fstL L))) := hfil
      clear hfil
      have c1 : wr.cell? ⟨gs, 1, none⟩ = some (.map (some b)) := HR.out.1.blk.cell 1
      have d0 : wr.cell? ⟨w.heap.size, 0, none⟩ = some (.string ln) := HR.out.2.1.cell 0
      have d1 : wr.cell? ⟨w.heap.size, 1, none⟩ = some (.int .i64 lt) := HR.out.2.1.cell 1
      have hr9 := (hr'.kept (row := none) (w' := wr.drew) ⟨rfl, rfl, rfl, Nat.le_refl _, fun _ _ _ => rfl⟩ (by simp) (by simp))
      go_wp2
      go_region_law ((refine step_del_e _ (by rfl) (.tmp 52) (.tmp 53) (by rfl) b r kk cnt D' left ln lt (by rfl) (by rfl) hr9 (max_ok hok) (wf_ok hok) ?_; intro w4 cnt4 hr4 hle4 ht4))
      all_goals (have HQ := mapOf_del hm' hg (max_ok hok) (wf_ok hok); rw [HF.out] at HQ; have HN := (HR.out.1.below (Below.refl _ _).drew).struck hr4 HQ ht4; go_wp2; go_end0; exact ⟨rfl, HN.st (List.eraseIdx_sublist _ _) h1 h2 h3, HN.turn⟩)
    · intro pe pd w2 cnt2 hpL hlp hr2 hlt hg2 hsz2 hen
      have HK := HR.out
      have HM : Hid (SWp w w2 gs most b r L L (nextL left (pe, pd)) cnt2 ∧ Blk w2 w.heap.size #[.string ln, .int .i64 lt] 73) := ⟨HK.1.moved hr2 hm' hg2, (Turn.of_grown (S := fun k => k = r) hg2 (fun k e => (Option.some.inj e).symm)).blk HK.2.1 (by omega)⟩
      have HLT : Hid (∀ c, wr.rangeLeft b r = c → c = cnt) := fun c hc => by rw [hr'.left_eq] at hc; exact hc.symm
      obtain ⟨y, c, hpd⟩ := row_shape (HK.1.dat _ hpL)
      have hok := (hg.ok _ hpL).k
      have HLE : Hid (Least L left ln lt) := HK.2.2
      have HPL : Hid ((pe, pd) ∈ L) := hpL
      have HDAT : Hid (∀ p ∈ L, wr.ownsRow 0 9 1 p.2 p.1.ds.length (tC p.1.ds)) := HK.1.dat
      clear HK hlp hr2 hg2 hsz2 hpL hr' hm' HR
      unfold kyV eA at hen ⊢
      obtain ⟨pn, pt, pl, pds, pr, pu⟩ := pe
      simp only at hpd hok hen ⊢
      generalize pds.length = N at hpd
      subst hpd
      rcases HLE.out with ⟨rfl, rfl, hall⟩ | ⟨⟨⟨qn, qt, ql, qds, qr, qu⟩, qd⟩, hqL, rfl, rfl, hql, hq⟩
      · have HTAKE : Hid (Least L (nextL left (⟨pn, pt, pl, pds, pr, pu⟩, .slice y N c)) pn pt) := least_first hg hall HPL.out
        have hlk : Hid (∀ u, SWp w u gs most b r L L (nextL left (⟨pn, pt, pl, pds, pr, pu⟩, .slice y N c)) cnt2 → (Instr.lookup 66 (.map (some b)) (.agg #[.string ⟨#[]⟩, .int .i64 0]) true).run Try.prog u = .ok (.tuple #[.agg #[.string ⟨#[]⟩, .int .i64 0, .int .i64 0, .slice none 0 0, .int .i64 0, .int .i64 0], .bool false]) u) := fun u hu => by
          have := hu.look (n := ⟨#[]⟩) (t := 0) (by decide) (by decide)
          unfold vL bL at this
          rw [atL_empty hg] at this
          exact this
        clear hall HLE HPL HDAT
        go_wp2
        obtain ⟨W, hW⟩ : ∃ W, W = (w2.alloc (.cells #[.string pn, .int .i64 pt] 73)).alloc (.cells #[.string pn, .int .i64 pt, .int .i64 pl, .slice y N c, .int .i64 pr, .int .i64 pu] 36) := ⟨_, rfl⟩
        have hbW : Below w2.heap.size w2 W := by rw [hW]; exact lay (lay (Below.refl _ _) _) _
        have kK : Blk W w2.heap.size #[.string pn, .int .i64 pt] 73 := by rw [hW]; exact (Blk.new w2 _ _).alloc _
        have kE : Blk W (w2.heap.size + 1) #[.string pn, .int .i64 pt, .int .i64 pl, .slice y N c, .int .i64 pr, .int .i64 pu] 36 := by rw [hW]; have := Blk.new (w2.alloc (.cells #[.string pn, .int .i64 pt] 73)) #[.string pn, .int .i64 pt, .int .i64 pl, .slice y N c, .int .i64 pr, .int .i64 pu] 36; simpa using this
        have hWs : W.heap.size = w2.heap.size + 1 + 1 := by rw [hW]; simp
        rw [← hW]
        clear hW
        have HS := HM.out.1.below hbW
        have kB := HM.out.2.below hbW
        have c1 : W.cell? ⟨gs, 1, none⟩ = some (.map (some b)) := HS.blk.cell 1
        have c1' : ∀ o, (W.alloc o).cell? ⟨gs, 1, none⟩ = some (.map (some b)) := fun o => (HS.blk.alloc o).cell 1
        have d0 : W.cell? ⟨w.heap.size, 0, none⟩ = some (.string ⟨#[]⟩) := kB.cell 0
        have d1 : W.cell? ⟨w.heap.size, 1, none⟩ = some (.int .i64 0) := kB.cell 1
        have d0' : ∀ o, (W.alloc o).cell? ⟨w.heap.size, 0, none⟩ = some (.string ⟨#[]⟩) := fun o => (kB.alloc o).cell 0
        have d1' : ∀ o, (W.alloc o).cell? ⟨w.heap.size, 1, none⟩ = some (.int .i64 0) := fun o => (kB.alloc o).cell 1
        have l1 := hlk.out W.drew (HS.below (Below.refl _ _).drew)
        have l2 : ∀ o, (Instr.lookup 66 (.map (some b)) (.agg #[.string ⟨#[]⟩, .int .i64 0]) true).run Try.prog (W.alloc o).drew = _ := fun o => hlk.out _ (HS.below (((Below.refl _ _).alloc (Nat.le_refl _) o).drew))
        go_region
        obtain ⟨X, hX⟩ : ∃ X, X = (W.alloc (.cells #[.string ⟨#[]⟩, .int .i64 0, .int .i64 0, .slice none 0 0, .int .i64 0, .int .i64 0] 36)).drew := ⟨_, rfl⟩
        rw [← hX]
        have hbX : Below W.heap.size W X := by rw [hX]; exact ((Below.refl _ _).alloc (Nat.le_refl _) _).drew
        have kF : Blk X W.heap.size #[.string ⟨#[]⟩, .int .i64 0, .int .i64 0, .slice none 0 0, .int .i64 0, .int .i64 0] 36 := by rw [hX]; exact Blk.new W _ _
        rw [hWs] at kF
        clear hX c1 c1' d0 d1 d0' d1' l1 l2
        replace HS := HS.below hbX
        replace kB := kB.below hbX
        replace kK := kK.below hbX
        replace kE := kE.below hbX
        have f5 := kF.cell 5
        have e5 := kE.cell 5
        have k0 := kK.cell 0
        have k1 := kK.cell 1
        have b0 := kB.cell 0
        have b1 := kB.cell 1
        have g0 := kB.frozen 0
        have g1 := kB.frozen 1
        simp only [List.getElem?_toArray, List.getElem?_cons_succ, List.getElem?_cons_zero] at f5 e5 k0 k1 b0 b1
        clear kF kE
        go_wp2
        have t6 : Turn (fun k => k = w.heap.size) X ((X.setCell ⟨w.heap.size, 0, none⟩ (.string pn)).setCell ⟨w.heap.size, 1, none⟩ (.int .i64 pt)) := (Turn.of_set (S := fun k => k = w.heap.size) _ (p := ⟨w.heap.size, 0, none⟩) rfl _).same (Turn.of_set (S := fun k => k = w.heap.size) _ (p := ⟨w.heap.size, 1, none⟩) rfl _)
        have k6 : Blk ((X.setCell ⟨w.heap.size, 0, none⟩ (.string pn)).setCell ⟨w.heap.size, 1, none⟩ (.int .i64 pt)) w.heap.size #[.string pn, .int .i64 pt] 73 := (kB.set 0 _).set 1 _
        have HN := HS.own t6 (Nat.le_refl _) (by omega)
        have HL := HTAKE.out
        obtain ⟨k7, D7, hr7, _⟩ := HN.rg
        go_roundw
        case rel => exact ⟨_, _, _, _, ⟨HN, k6, HL⟩⟩
        case measure => rw [hr7.left_eq, HLT.out _ rfl]; omega
      · obtain ⟨qy, qc, hqd⟩ := row_shape (HDAT.out _ hqL)
        have hqk := (hg.ok _ hqL).k
        have HTAKE : Hid (ltE ⟨pn, pt, pl, pds, pr, pu⟩ ⟨qn, qt, ql, qds, qr, qu⟩ = true → Least L (nextL left (⟨pn, pt, pl, pds, pr, pu⟩, .slice y N c)) pn pt) := fun hx => least_take hg hqL hq HPL.out hx
        have HSTAY : Hid (ltE ⟨pn, pt, pl, pds, pr, pu⟩ ⟨qn, qt, ql, qds, qr, qu⟩ = false → Least L (nextL left (⟨pn, pt, pl, pds, pr, pu⟩, .slice y N c)) qn qt) := fun hx => least_stay hg hqL hql hq HPL.out hx
        have hlk : Hid (∀ u, SWp w u gs most b r L L (nextL left (⟨pn, pt, pl, pds, pr, pu⟩, .slice y N c)) cnt2 → (Instr.lookup 66 (.map (some b)) (.agg #[.string qn, .int .i64 qt]) true).run Try.prog u = .ok (.tuple #[eA ⟨qn, qt, ql, qds, qr, qu⟩ qd, .bool true]) u) := fun u hu => by
          have := hu.look (n := qn) (t := qt) (max_ok hqk) (wf_ok hqk)
          have ha := atL_mem hg hqL
          simp only at ha
          unfold vL bL at this
          rw [ha] at this
          exact this
        simp only at hqd hqk
        generalize qds.length = qN at hqd
        subst hqd
        unfold eA at hlk
        clear HLE HPL HDAT hqL hql hq
        by_cases hu1 : pu < qu
        · replace HTAKE := HTAKE.out (ltE_iff.2 (.inl hu1))
          replace HTAKE : Hid (Least L (nextL left (⟨pn, pt, pl, pds, pr, pu⟩, .slice y N c)) pn pt) := HTAKE
          go_wp2
          obtain ⟨W, hW⟩ : ∃ W, W = (w2.alloc (.cells #[.string pn, .int .i64 pt] 73)).alloc (.cells #[.string pn, .int .i64 pt, .int .i64 pl, .slice y N c, .int .i64 pr, .int .i64 pu] 36) := ⟨_, rfl⟩
          have hbW : Below w2.heap.size w2 W := by rw [hW]; exact lay (lay (Below.refl _ _) _) _
          have kK : Blk W w2.heap.size #[.string pn, .int .i64 pt] 73 := by rw [hW]; exact (Blk.new w2 _ _).alloc _
          have kE : Blk W (w2.heap.size + 1) #[.string pn, .int .i64 pt, .int .i64 pl, .slice y N c, .int .i64 pr, .int .i64 pu] 36 := by rw [hW]; have := Blk.new (w2.alloc (.cells #[.string pn, .int .i64 pt] 73)) #[.string pn, .int .i64 pt, .int .i64 pl, .slice y N c, .int .i64 pr, .int .i64 pu] 36; simpa using this
          have hWs : W.heap.size = w2.heap.size + 1 + 1 := by rw [hW]; simp
          rw [← hW]
          clear hW
          have HS := HM.out.1.below hbW
          have kB := HM.out.2.below hbW
          have c1 : W.cell? ⟨gs, 1, none⟩ = some (.map (some b)) := HS.blk.cell 1
          have c1' : ∀ o, (W.alloc o).cell? ⟨gs, 1, none⟩ = some (.map (some b)) := fun o => (HS.blk.alloc o).cell 1
          have d0 : W.cell? ⟨w.heap.size, 0, none⟩ = some (.string qn) := kB.cell 0
          have d1 : W.cell? ⟨w.heap.size, 1, none⟩ = some (.int .i64 qt) := kB.cell 1
          have d0' : ∀ o, (W.alloc o).cell? ⟨w.heap.size, 0, none⟩ = some (.string qn) := fun o => (kB.alloc o).cell 0
          have d1' : ∀ o, (W.alloc o).cell? ⟨w.heap.size, 1, none⟩ = some (.int .i64 qt) := fun o => (kB.alloc o).cell 1
          have l1 := hlk.out W.drew (HS.below (Below.refl _ _).drew)
          have l2 : ∀ o, (Instr.lookup 66 (.map (some b)) (.agg #[.string qn, .int .i64 qt]) true).run Try.prog (W.alloc o).drew = _ := fun o => hlk.out _ (HS.below (((Below.refl _ _).alloc (Nat.le_refl _) o).drew))
          go_region
          obtain ⟨X, hX⟩ : ∃ X, X = (W.alloc (.cells #[.string qn, .int .i64 qt, .int .i64 ql, .slice qy qN qc, .int .i64 qr, .int .i64 qu] 36)).drew := ⟨_, rfl⟩
          rw [← hX]
          have hbX : Below W.heap.size W X := by rw [hX]; exact ((Below.refl _ _).alloc (Nat.le_refl _) _).drew
          have kF : Blk X W.heap.size #[.string qn, .int .i64 qt, .int .i64 ql, .slice qy qN qc, .int .i64 qr, .int .i64 qu] 36 := by rw [hX]; exact Blk.new W _ _
          rw [hWs] at kF
          clear hX c1 c1' d0 d1 d0' d1' l1 l2
          replace HS := HS.below hbX
          replace kB := kB.below hbX
          replace kK := kK.below hbX
          replace kE := kE.below hbX
          have f5 := kF.cell 5
          have e5 := kE.cell 5
          have k0 := kK.cell 0
          have k1 := kK.cell 1
          have b0 := kB.cell 0
          have b1 := kB.cell 1
          have g0 := kB.frozen 0
          have g1 := kB.frozen 1
          simp only [List.getElem?_toArray, List.getElem?_cons_succ, List.getElem?_cons_zero] at f5 e5 k0 k1 b0 b1
          clear kF kE
          go_wp2
          have t6 : Turn (fun k => k = w.heap.size) X ((X.setCell ⟨w.heap.size, 0, none⟩ (.string pn)).setCell ⟨w.heap.size, 1, none⟩ (.int .i64 pt)) := (Turn.of_set (S := fun k => k = w.heap.size) _ (p := ⟨w.heap.size, 0, none⟩) rfl _).same (Turn.of_set (S := fun k => k = w.heap.size) _ (p := ⟨w.heap.size, 1, none⟩) rfl _)
          have k6 : Blk ((X.setCell ⟨w.heap.size, 0, none⟩ (.string pn)).setCell ⟨w.heap.size, 1, none⟩ (.int .i64 pt)) w.heap.size #[.string pn, .int .i64 pt] 73 := (kB.set 0 _).set 1 _
          have HN := HS.own t6 (Nat.le_refl _) (by omega)
          have HL := HTAKE.out
          obtain ⟨k7, D7, hr7, _⟩ := HN.rg
          go_roundw
          case rel => exact ⟨_, _, _, _, ⟨HN, k6, HL⟩⟩
          case measure => rw [hr7.left_eq, HLT.out _ rfl]; omega
        · have hu1' : decide (pu < qu) = false := by simpa using hu1
          by_cases hu2 : pu = qu
          · by_cases hu3 : cK pn pt qn qt < 0
            · replace HTAKE := HTAKE.out (ltE_iff.2 (.inr ⟨hu2, hu3⟩))
              replace HTAKE : Hid (Least L (nextL left (⟨pn, pt, pl, pds, pr, pu⟩, .slice y N c)) pn pt) := HTAKE
              have hu2' : (pu == qu) = true := by simpa using hu2
              clear hu2
              go_wp2
              obtain ⟨W, hW⟩ : ∃ W, W = (w2.alloc (.cells #[.string pn, .int .i64 pt] 73)).alloc (.cells #[.string pn, .int .i64 pt, .int .i64 pl, .slice y N c, .int .i64 pr, .int .i64 pu] 36) := ⟨_, rfl⟩
              have hbW : Below w2.heap.size w2 W := by rw [hW]; exact lay (lay (Below.refl _ _) _) _
              have kK : Blk W w2.heap.size #[.string pn, .int .i64 pt] 73 := by rw [hW]; exact (Blk.new w2 _ _).alloc _
              have kE : Blk W (w2.heap.size + 1) #[.string pn, .int .i64 pt, .int .i64 pl, .slice y N c, .int .i64 pr, .int .i64 pu] 36 := by rw [hW]; have := Blk.new (w2.alloc (.cells #[.string pn, .int .i64 pt] 73)) #[.string pn, .int .i64 pt, .int .i64 pl, .slice y N c, .int .i64 pr, .int .i64 pu] 36; simpa using this
              have hWs : W.heap.size = w2.heap.size + 1 + 1 := by rw [hW]; simp
              rw [← hW]
              clear hW
              have HS := HM.out.1.below hbW
              have kB := HM.out.2.below hbW
              have c1 : W.cell? ⟨gs, 1, none⟩ = some (.map (some b)) := HS.blk.cell 1
              have c1' : ∀ o, (W.alloc o).cell? ⟨gs, 1, none⟩ = some (.map (some b)) := fun o => (HS.blk.alloc o).cell 1
              have d0 : W.cell? ⟨w.heap.size, 0, none⟩ = some (.string qn) := kB.cell 0
              have d1 : W.cell? ⟨w.heap.size, 1, none⟩ = some (.int .i64 qt) := kB.cell 1
              have d0' : ∀ o, (W.alloc o).cell? ⟨w.heap.size, 0, none⟩ = some (.string qn) := fun o => (kB.alloc o).cell 0
              have d1' : ∀ o, (W.alloc o).cell? ⟨w.heap.size, 1, none⟩ = some (.int .i64 qt) := fun o => (kB.alloc o).cell 1
              have l1 := hlk.out W.drew (HS.below (Below.refl _ _).drew)
              have l2 : ∀ o, (Instr.lookup 66 (.map (some b)) (.agg #[.string qn, .int .i64 qt]) true).run Try.prog (W.alloc o).drew = _ := fun o => hlk.out _ (HS.below (((Below.refl _ _).alloc (Nat.le_refl _) o).drew))
              go_region
              obtain ⟨X, hX⟩ : ∃ X, X = (W.alloc (.cells #[.string qn, .int .i64 qt, .int .i64 ql, .slice qy qN qc, .int .i64 qr, .int .i64 qu] 36)).drew := ⟨_, rfl⟩
              rw [← hX]
              have hbX : Below W.heap.size W X := by rw [hX]; exact ((Below.refl _ _).alloc (Nat.le_refl _) _).drew
              have kF : Blk X W.heap.size #[.string qn, .int .i64 qt, .int .i64 ql, .slice qy qN qc, .int .i64 qr, .int .i64 qu] 36 := by rw [hX]; exact Blk.new W _ _
              rw [hWs] at kF
              clear hX c1 c1' d0 d1 d0' d1' l1 l2
              replace HS := HS.below hbX
              replace kB := kB.below hbX
              replace kK := kK.below hbX
              replace kE := kE.below hbX
              have f5 := kF.cell 5
              have e5 := kE.cell 5
              have k0 := kK.cell 0
              have k1 := kK.cell 1
              have b0 := kB.cell 0
              have b1 := kB.cell 1
              have g0 := kB.frozen 0
              have g1 := kB.frozen 1
              simp only [List.getElem?_toArray, List.getElem?_cons_succ, List.getElem?_cons_zero] at f5 e5 k0 k1 b0 b1
              clear kF kE
              go_wp2_with (first | (go_at_call 41; go_must (refine (order_d pn qn pt qt _ (max_ok hok) (max_ok hqk)).mono ?_); rintro e X2 ⟨rfl, bX2, _⟩; replace HS := HS.below bX2; replace kB := kB.below bX2; replace kK := kK.below bX2; clear f5 e5 k0 k1 b0 b1 g0 g1; have k0 := kK.cell 0; have k1 := kK.cell 1; have b0 := kB.cell 0; have b1 := kB.cell 1; have g0 := kB.frozen 0; have g1 := kB.frozen 1; simp only [List.getElem?_toArray, List.getElem?_cons_succ, List.getElem?_cons_zero] at k0 k1 b0 b1))
              have t6 : Turn (fun k => k = w.heap.size) X2 ((X2.setCell ⟨w.heap.size, 0, none⟩ (.string pn)).setCell ⟨w.heap.size, 1, none⟩ (.int .i64 pt)) := (Turn.of_set (S := fun k => k = w.heap.size) _ (p := ⟨w.heap.size, 0, none⟩) rfl _).same (Turn.of_set (S := fun k => k = w.heap.size) _ (p := ⟨w.heap.size, 1, none⟩) rfl _)
              have k6 : Blk ((X2.setCell ⟨w.heap.size, 0, none⟩ (.string pn)).setCell ⟨w.heap.size, 1, none⟩ (.int .i64 pt)) w.heap.size #[.string pn, .int .i64 pt] 73 := (kB.set 0 _).set 1 _
              have HN := HS.own t6 (Nat.le_refl _) (by omega)
              have HL := HTAKE.out
              obtain ⟨k7, D7, hr7, _⟩ := HN.rg
              go_roundw
              case rel => exact ⟨_, _, _, _, ⟨HN, k6, HL⟩⟩
              case measure => rw [hr7.left_eq, HLT.out _ rfl]; omega
            · replace HSTAY := HSTAY.out (by cases hx : ltE ⟨pn, pt, pl, pds, pr, pu⟩ ⟨qn, qt, ql, qds, qr, qu⟩ with | false => rfl | true => (have := ltE_iff.1 hx; simp only at this; omega))
              replace HSTAY : Hid (Least L (nextL left (⟨pn, pt, pl, pds, pr, pu⟩, .slice y N c)) qn qt) := HSTAY
              have hu2' : (pu == qu) = true := by simpa using hu2
              have hu3' : decide (cK pn pt qn qt < 0) = false := by simpa using hu3
              clear hu2 hu3
              go_wp2
              obtain ⟨W, hW⟩ : ∃ W, W = (w2.alloc (.cells #[.string pn, .int .i64 pt] 73)).alloc (.cells #[.string pn, .int .i64 pt, .int .i64 pl, .slice y N c, .int .i64 pr, .int .i64 pu] 36) := ⟨_, rfl⟩
              have hbW : Below w2.heap.size w2 W := by rw [hW]; exact lay (lay (Below.refl _ _) _) _
              have kK : Blk W w2.heap.size #[.string pn, .int .i64 pt] 73 := by rw [hW]; exact (Blk.new w2 _ _).alloc _
              have kE : Blk W (w2.heap.size + 1) #[.string pn, .int .i64 pt, .int .i64 pl, .slice y N c, .int .i64 pr, .int .i64 pu] 36 := by rw [hW]; have := Blk.new (w2.alloc (.cells #[.string pn, .int .i64 pt] 73)) #[.string pn, .int .i64 pt, .int .i64 pl, .slice y N c, .int .i64 pr, .int .i64 pu] 36; simpa using this
              have hWs : W.heap.size = w2.heap.size + 1 + 1 := by rw [hW]; simp
              rw [← hW]
              clear hW
              have HS := HM.out.1.below hbW
              have kB := HM.out.2.below hbW
              have c1 : W.cell? ⟨gs, 1, none⟩ = some (.map (some b)) := HS.blk.cell 1
              have c1' : ∀ o, (W.alloc o).cell? ⟨gs, 1, none⟩ = some (.map (some b)) := fun o => (HS.blk.alloc o).cell 1
              have d0 : W.cell? ⟨w.heap.size, 0, none⟩ = some (.string qn) := kB.cell 0
              have d1 : W.cell? ⟨w.heap.size, 1, none⟩ = some (.int .i64 qt) := kB.cell 1
              have d0' : ∀ o, (W.alloc o).cell? ⟨w.heap.size, 0, none⟩ = some (.string qn) := fun o => (kB.alloc o).cell 0
              have d1' : ∀ o, (W.alloc o).cell? ⟨w.heap.size, 1, none⟩ = some (.int .i64 qt) := fun o => (kB.alloc o).cell 1
              have l1 := hlk.out W.drew (HS.below (Below.refl _ _).drew)
              have l2 : ∀ o, (Instr.lookup 66 (.map (some b)) (.agg #[.string qn, .int .i64 qt]) true).run Try.prog (W.alloc o).drew = _ := fun o => hlk.out _ (HS.below (((Below.refl _ _).alloc (Nat.le_refl _) o).drew))
              go_region
              obtain ⟨X, hX⟩ : ∃ X, X = (W.alloc (.cells #[.string qn, .int .i64 qt, .int .i64 ql, .slice qy qN qc, .int .i64 qr, .int .i64 qu] 36)).drew := ⟨_, rfl⟩
              rw [← hX]
              have hbX : Below W.heap.size W X := by rw [hX]; exact ((Below.refl _ _).alloc (Nat.le_refl _) _).drew
              have kF : Blk X W.heap.size #[.string qn, .int .i64 qt, .int .i64 ql, .slice qy qN qc, .int .i64 qr, .int .i64 qu] 36 := by rw [hX]; exact Blk.new W _ _
              rw [hWs] at kF
              clear hX c1 c1' d0 d1 d0' d1' l1 l2
              replace HS := HS.below hbX
              replace kB := kB.below hbX
              replace kK := kK.below hbX
              replace kE := kE.below hbX
              have f5 := kF.cell 5
              have e5 := kE.cell 5
              have k0 := kK.cell 0
              have k1 := kK.cell 1
              have b0 := kB.cell 0
              have b1 := kB.cell 1
              have g0 := kB.frozen 0
              have g1 := kB.frozen 1
              simp only [List.getElem?_toArray, List.getElem?_cons_succ, List.getElem?_cons_zero] at f5 e5 k0 k1 b0 b1
              clear kF kE
              go_wp2_with (first | (go_at_call 41; go_must (refine (order_d pn qn pt qt _ (max_ok hok) (max_ok hqk)).mono ?_); rintro e X2 ⟨rfl, bX2, _⟩; replace HS := HS.below bX2; replace kB := kB.below bX2; replace kK := kK.below bX2; clear f5 e5 k0 k1 b0 b1 g0 g1; have k0 := kK.cell 0; have k1 := kK.cell 1; have b0 := kB.cell 0; have b1 := kB.cell 1; have g0 := kB.frozen 0; have g1 := kB.frozen 1; simp only [List.getElem?_toArray, List.getElem?_cons_succ, List.getElem?_cons_zero] at k0 k1 b0 b1))
              have HL := HSTAY.out
              obtain ⟨k7, D7, hr7, _⟩ := HS.rg
              go_roundw
              case rel => exact ⟨_, _, _, _, ⟨HS, kB, HL⟩⟩
              case measure => rw [hr7.left_eq, HLT.out _ rfl]; omega
          · replace HSTAY := HSTAY.out (by cases hx : ltE ⟨pn, pt, pl, pds, pr, pu⟩ ⟨qn, qt, ql, qds, qr, qu⟩ with | false => rfl | true => (have := ltE_iff.1 hx; simp only at this; omega))
            replace HSTAY : Hid (Least L (nextL left (⟨pn, pt, pl, pds, pr, pu⟩, .slice y N c)) qn qt) := HSTAY
            have hu2' : (pu == qu) = false := by simpa using hu2
            clear hu2
            go_wp2
            obtain ⟨W, hW⟩ : ∃ W, W = (w2.alloc (.cells #[.string pn, .int .i64 pt] 73)).alloc (.cells #[.string pn, .int .i64 pt, .int .i64 pl, .slice y N c, .int .i64 pr, .int .i64 pu] 36) := ⟨_, rfl⟩
            have hbW : Below w2.heap.size w2 W := by rw [hW]; exact lay (lay (Below.refl _ _) _) _
            have kK : Blk W w2.heap.size #[.string pn, .int .i64 pt] 73 := by rw [hW]; exact (Blk.new w2 _ _).alloc _
            have kE : Blk W (w2.heap.size + 1) #[.string pn, .int .i64 pt, .int .i64 pl, .slice y N c, .int .i64 pr, .int .i64 pu] 36 := by rw [hW]; have := Blk.new (w2.alloc (.cells #[.string pn, .int .i64 pt] 73)) #[.string pn, .int .i64 pt, .int .i64 pl, .slice y N c, .int .i64 pr, .int .i64 pu] 36; simpa using this
            have hWs : W.heap.size = w2.heap.size + 1 + 1 := by rw [hW]; simp
            rw [← hW]
            clear hW
            have HS := HM.out.1.below hbW
            have kB := HM.out.2.below hbW
            have c1 : W.cell? ⟨gs, 1, none⟩ = some (.map (some b)) := HS.blk.cell 1
            have c1' : ∀ o, (W.alloc o).cell? ⟨gs, 1, none⟩ = some (.map (some b)) := fun o => (HS.blk.alloc o).cell 1
            have d0 : W.cell? ⟨w.heap.size, 0, none⟩ = some (.string qn) := kB.cell 0
            have d1 : W.cell? ⟨w.heap.size, 1, none⟩ = some (.int .i64 qt) := kB.cell 1
            have d0' : ∀ o, (W.alloc o).cell? ⟨w.heap.size, 0, none⟩ = some (.string qn) := fun o => (kB.alloc o).cell 0
            have d1' : ∀ o, (W.alloc o).cell? ⟨w.heap.size, 1, none⟩ = some (.int .i64 qt) := fun o => (kB.alloc o).cell 1
            have l1 := hlk.out W.drew (HS.below (Below.refl _ _).drew)
            have l2 : ∀ o, (Instr.lookup 66 (.map (some b)) (.agg #[.string qn, .int .i64 qt]) true).run Try.prog (W.alloc o).drew = _ := fun o => hlk.out _ (HS.below (((Below.refl _ _).alloc (Nat.le_refl _) o).drew))
            go_region
            obtain ⟨X, hX⟩ : ∃ X, X = (W.alloc (.cells #[.string qn, .int .i64 qt, .int .i64 ql, .slice qy qN qc, .int .i64 qr, .int .i64 qu] 36)).drew := ⟨_, rfl⟩
            rw [← hX]
            have hbX : Below W.heap.size W X := by rw [hX]; exact ((Below.refl _ _).alloc (Nat.le_refl _) _).drew
            have kF : Blk X W.heap.size #[.string qn, .int .i64 qt, .int .i64 ql, .slice qy qN qc, .int .i64 qr, .int .i64 qu] 36 := by rw [hX]; exact Blk.new W _ _
            rw [hWs] at kF
            clear hX c1 c1' d0 d1 d0' d1' l1 l2
            replace HS := HS.below hbX
            replace kB := kB.below hbX
            replace kK := kK.below hbX
            replace kE := kE.below hbX
            have f5 := kF.cell 5
            have e5 := kE.cell 5
            have k0 := kK.cell 0
            have k1 := kK.cell 1
            have b0 := kB.cell 0
            have b1 := kB.cell 1
            have g0 := kB.frozen 0
            have g1 := kB.frozen 1
            simp only [List.getElem?_toArray, List.getElem?_cons_succ, List.getElem?_cons_zero] at f5 e5 k0 k1 b0 b1
            clear kF kE
            go_wp2
            have HL := HSTAY.out
            obtain ⟨k7, D7, hr7, _⟩ := HS.rg
            go_roundw
            case rel => exact ⟨_, _, _, _, ⟨HS, kB, HL⟩⟩
            case measure => rw [hr7.left_eq, HLT.out _ rfl]; omega

end Go.Proofs.Ytcmhjlflgedcdaa

/- What hold does: an entry is held, in memory of its own. -/
namespace Go.Proofs.Ytcmhjlflgedcdaa
open Go.RowKit
open Pl

theorem map_some (b : Nat) (u : World) : (binOp .eql 66 (.map (some b)) (.map none)).run Try.prog u = .ok (.bool false) u := by kernel_rfl
theorem map_none (u : World) : (binOp .eql 66 (.map none) (.map none)).run Try.prog u = .ok (.bool true) u := by kernel_rfl
theorem Row.turned {S : Nat → Prop} {w w' : World} {v : Value} {n : Nat} {xs : List Value} (h : Row w v n xs) (hn : 0 < n) (_hl : xs.length = n) (ht : Turn S w w') (hs : ∀ g o cap, v = .slice (some ⟨g, o, none⟩) n cap → ¬ S g) : Row w' v n xs := by
  obtain ⟨g, o, cap, rfl, hc⟩ := row_at h hn
  refine .inr ⟨g, o, none, cap, rfl, fun _ => rfl, fun j u hu => ?_⟩
  have h0 := hc j u hu
  have hlt : g < w.heap.size := by
    by_cases e : g < w.heap.size
    · exact e
    · have : w.heap[g]? = none := Array.getElem?_eq_none (by omega)
      simp [World.cell?, this] at h0
  rw [World.cell?_of_block (w := w) (ht.block g hlt (hs g o cap rfl))]
  exact h0
theorem row_block {w : World} {v : Value} {n : Nat} {xs : List Value} (h : Row w v n xs) (hn : 0 < n) (hl : xs.length = n) {g o cap : Nat} (e : v = .slice (some ⟨g, o, none⟩) n cap) : g < w.heap.size ∧ w.cell? ⟨g, o, none⟩ = some (xs[0]'(by omega)) := by
  obtain ⟨g', o', cap', e', hc⟩ := row_at h hn
  rw [e] at e'
  simp only [Value.slice.injEq, Option.some.injEq, Addr.mk.injEq, and_true, true_and] at e'
  obtain ⟨⟨rfl, rfl⟩, rfl⟩ := e'
  have h0 := hc 0 (xs[0]'(by omega)) (List.getElem?_eq_getElem (by omega))
  refine ⟨?_, h0⟩
  by_cases e : g < w.heap.size
  · exact e
  · have : w.heap[g]? = none := Array.getElem?_eq_none (by omega)
    simp [World.cell?, this] at h0
/-- A row of texts is no store's block, and no map. -/
theorem row_apart {w : World} {v : Value} {ds : List ByteArray} (h : Row w v ds.length (tC ds)) (h0 : 0 < ds.length) {gs most : Nat} {mb : Option Nat} (hb : Blk w gs #[.int .i64 most, .map mb] 68) : ∀ g o cap, v = .slice (some ⟨g, o, none⟩) ds.length cap → g < w.heap.size ∧ g ≠ gs := by
  intro g o cap e
  obtain ⟨h1, h2⟩ := row_block h h0 (tC_len ds) e
  refine ⟨h1, fun e' => ?_⟩
  subst e'
  rw [hb.cell o] at h2
  have ht : (tC ds)[0]'(by rw [tC_len]; exact h0) = .string ds[0] := by unfold tC; rw [List.getElem_map]
  rw [ht] at h2
  rcases o with _ | _ | o
  · simp at h2
  · simp at h2
  · simp at h2
theorem row_no_map {w : World} {v : Value} {n : Nat} {xs : List Value} (h : Row w v n xs) (hn : 0 < n) (hl : xs.length = n) {b : Nat} {es : Array MapEntry} {clock : Nat} (hb : w.heap[b]? = some (.map es clock)) : ∀ g o cap, v = .slice (some ⟨g, o, none⟩) n cap → g ≠ b := by
  intro g o cap e e'
  subst e'
  have := (row_block h hn hl e).2
  simp [World.cell?, hb] at this

/-- How far hold is. -/
structure HX (w0 w : World) (gs most b : Nat) (M : List (En × Value)) (v : Value) (ds : List ByteArray) (mb : Option Nat) : Prop where
  blk : Blk w gs #[.int .i64 most, .map (some b)] 68
  hold : Hold w b M
  src : Row w v ds.length (tC ds)
  pos : 0 < ds.length
  apart : ∀ g o cap, v = .slice (some ⟨g, o, none⟩) ds.length cap → g < w0.heap.size
  turn : Turn (fun k => k = gs ∨ mb = some k) w0 w
  far : w0.heap.size + 2 ≤ w.heap.size
  small : M.length ≤ 256
  oldg : gs < w0.heap.size
  oldd : ∀ p ∈ M, ∀ k, p.2.ownBlock = some k → k < w0.heap.size
  m1 : 1 ≤ most
  m2 : most ≤ 256
  isb : (mb = some b ∧ b < w0.heap.size) ∨ (mb = none ∧ w0.heap.size + 2 ≤ b)
theorem HX.below {w0 w w' : World} {gs most b : Nat} {M : List (En × Value)} {v : Value} {ds : List ByteArray} {mb : Option Nat} (h : HX w0 w gs most b M v ds mb) (hb : Below w.heap.size w w') : HX w0 w' gs most b M v ds mb :=
  ⟨h.blk.below hb, h.hold.turn (Turn.of_below (S := fun _ => False) hb) id (fun _ _ _ _ => id), h.src.below hb, h.pos, h.apart, h.turn.past hb, Nat.le_trans h.far hb.size, h.small, h.oldg, h.oldd, h.m1, h.m2, h.isb⟩
theorem HX.own {w0 w w' : World} {gs most b : Nat} {M : List (En × Value)} {v : Value} {ds : List ByteArray} {mb : Option Nat} {x : Nat} (h : HX w0 w gs most b M v ds mb) (ht : Turn (fun k => k = x) w w') (hx : w0.heap.size ≤ x ∧ x < w0.heap.size + 2) : HX w0 w' gs most b M v ds mb := by
  have h1 := h.oldg
  have h2 : b ≠ x := by rcases h.isb with ⟨_, h⟩ | ⟨_, h⟩ <;> omega
  exact ⟨ht.blk h.blk (by omega), h.hold.turn ht h2 (fun p hp k hk e => by have := h.oldd p hp k hk; omega), h.src.turned h.pos (tC_len ds) ht (fun g o cap e e' => by have := h.apart g o cap e; omega), h.pos, h.apart, h.turn.trans ht (fun i hi => .inr (by omega)), Nat.le_trans h.far ht.size, h.small, h.oldg, h.oldd, h.m1, h.m2, h.isb⟩
theorem HX.put {w0 w w' : World} {gs most b : Nat} {M : List (En × Value)} {v : Value} {ds : List ByteArray} {mb : Option Nat} {p : En × Value} {k : Nat} {D : DataW Hc} (h : HX w0 w gs most b M v ds mb) (ho : w'.ownsMap Try.prog 73 rE b k (D.put (kyL p.1.n p.1.t) (.held (hc p)))) (hm : MapOf D M) (ht : w.drew.mapTurned w' b)
    (hr : w.ownsRow 0 9 1 p.2 p.1.ds.length (tC p.1.ds)) (hp : OkE p.1) (hno : ∀ q ∈ M, sameK p.1.n p.1.t q.1 = false) (hle : M.length + 1 ≤ most) : St w' gs most (some b) (M ++ [p]) ∧ Turn (fun k => k = gs ∨ mb = some k) w0 w' := by
  have ht2 : Turn (fun k => k = b) w w' := (Turn.of_below (S := fun k => k = b) (Below.refl _ _).drew).same (Turn.of_grown ht.grown (fun k e => (Option.some.inj e).symm))
  obtain ⟨es, clock, hb, _⟩ := h.hold.map.choose_spec.choose_spec.1
  refine ⟨⟨ht2.blk h.blk (h.blk.not_map hb), h.m1, h.m2, by simp; omega, .inr ⟨b, rfl, ⟨k, _, ho, mapOf_put hm h.hold.good p hp hno⟩, h.hold.good.snoc hp hno, fun q hq => ?_⟩⟩, h.turn.trans ht2 (fun i hi => ?_)⟩
  · rcases List.mem_append.1 hq with hq | hq
    · exact ht2.row (h.hold.dat q hq) (fun k hk e => row_not_map hb (h.hold.dat q hq) k hk e)
    · simp at hq; subst hq
      exact ht2.row hr (fun k hk e => row_not_map hb hr k hk e)
  · rcases h.isb with ⟨e, _⟩ | ⟨_, e⟩
    · exact .inl (.inr (by rw [e, hi]))
    · exact .inr (by omega)

set_option maxRecDepth 20000 in
set_option maxHeartbeats 2000000 in
theorem hold_any {w : World} {gs most : Nat} {mb : Option Nat} {M : List (En × Value)} (h : St w gs most mb M) (n n0 : ByteArray) (t l r u : Int) (v : Value) (ds : List ByteArray) (hk : OkK n t) (hr : Row w v ds.length (tC ds)) (h0 : 0 < ds.length) (hl : ds.length ≤ 8796093022000) (hs : ∀ d ∈ ds, d.size ≤ 140737488351232)
    (hno : ∀ q ∈ M, sameK n t q.1 = false) (hle : M.length + 1 ≤ most) :
    Calls Try.prog 36 #[.pointer (some ⟨gs, 0, none⟩), .agg #[.string n, .int .i64 t], .agg #[.string n0, .int .i64 t, .int .i64 l, v, .int .i64 r, .int .i64 u]] w fun e w' => ∃ mb' d', e = .returned (.tuple #[]) ∧ St w' gs most mb' (M ++ [(⟨n, t, l, ds, r, u⟩, d')]) ∧ Turn (fun k => k = gs ∨ mb = some k) w w' ∧ (∀ k, mb' = some k → mb = some k ∨ w.heap.size ≤ k) ∧ (∀ k, d'.ownBlock = some k → w.heap.size ≤ k) := by
  obtain ⟨y, c, hv⟩ := row_slice hr
  obtain ⟨N, hN⟩ : ∃ N, N = ds.length := ⟨_, rfl⟩
  have HN : Hid (N = ds.length) := hN
  have HS : Hid (∀ d ∈ ds, d.size ≤ 140737488351232) := hs
  have HNO : Hid (∀ q ∈ M, sameK n t q.1 = false) := hno
  have HLE : Hid (M.length + 1 ≤ most) := hle
  rw [← hN] at hv
  subst hv
  have hN0 : 0 < N := by omega
  have hNl : N ≤ 8796093022000 := by omega
  have hgd := h.at'.good
  have hlt := h.lt
  have hap := row_apart hr h0 h.blk
  have HM1 := h.m1
  have HM2 := h.m2
  have HML := h.len
  clear hs hno hle hN
  cases mb with
  | some b =>
    obtain ⟨Wx, hW⟩ : ∃ W, W = (w.alloc (.cells #[.string n, .int .i64 t] 73)).alloc (.cells #[.string n, .int .i64 t, .int .i64 l, .slice y N c, .int .i64 r, .int .i64 u] 36) := ⟨_, rfl⟩
    have hbW : Below w.heap.size w Wx := by rw [hW]; exact lay (lay (Below.refl _ _) _) _
    have kb : Blk Wx w.heap.size #[.string n, .int .i64 t] 73 := by rw [hW]; exact (Blk.new w _ _).alloc _
    have ke : Blk Wx (w.heap.size + 1) #[.string n, .int .i64 t, .int .i64 l, .slice y N c, .int .i64 r, .int .i64 u] 36 := by rw [hW]; have := Blk.new (w.alloc (.cells #[.string n, .int .i64 t] 73)) #[.string n, .int .i64 t, .int .i64 l, .slice y N c, .int .i64 r, .int .i64 u] 36; simpa using this
    have hWs : Wx.heap.size = w.heap.size + 1 + 1 := by rw [hW]; simp
    have hsx := h.below hbW
    have HXx : Hid (HX w Wx gs most b M (.slice y N c) ds (some b)) := by
      rcases hsx.at' with ⟨e, _⟩ | ⟨b', e, hh⟩
      · cases e
      · cases e
        exact ⟨hsx.blk, hh, hr.below hbW, h0, fun g o cap e => (hap g o cap e).1, Turn.of_below hbW, by omega, by omega, hlt gs (.inl rfl), fun p hp k hk => hlt k (.inr (.inr ⟨p, hp, hk⟩)), HM1, HM2, .inl ⟨rfl, hlt b (.inr (.inl rfl))⟩⟩
    have hnil := map_some b
    have HMB : Hid (∀ k, some b = some k → some b = some k ∨ w.heap.size ≤ k) := fun k e => .inl e
    have c1 : ∀ o o' : Obj, ((w.alloc o).alloc o').cell? ⟨gs, 1, none⟩ = some (.map (some b)) := fun o o' => ((h.blk.alloc o).alloc o').cell 1
    clear h hr h0 hl hlt hap hgd hsx hbW hWs
    have hcp := copyOf_any n t l (.slice y N c) ds Wx (by have := hk.size; omega) HXx.out.src (by rw [← HN.out]; exact hN0) (by rw [← HN.out]; exact hNl) HS.out
    rw [← HN.out] at hcp
    rw [hW] at hcp
    go_enter Try.func36, Try.ntmps36
    go_wp2_with (go_at_call 38; go_must (refine hcp.mono ?_); go_must (rintro e w4 ⟨g, rfl, hown4, hg4, b4⟩); go_must (rw [← hW] at b4 hg4 hown4; have HX4 : Hid (HX w w4 gs most b M (.slice y N c) ds (some b)) := HXx.out.below b4; have ke4 := ke.below b4; have kb4 := kb.below b4; have HO4 : Hid (w4.ownsRow 0 9 1 (.slice (some ⟨g, 0, none⟩) N N) N (tC ds)) := own_base hown4 (Nat.zero_le _); have HG4 : Hid (w.heap.size + 2 ≤ g) := Nat.le_trans HXx.out.far hg4; clear hown4 hg4 b4 HXx ke kb; have e0 := ke4.cell 0; have e1 := ke4.cell 1; have e2 := ke4.cell 2; have e3 := ke4.cell 3; have f0 := ke4.frozen 0; have f1 := ke4.frozen 1; have f2 := ke4.frozen 2; have f3 := ke4.frozen 3; simp only [List.getElem?_toArray, List.getElem?_cons_succ, List.getElem?_cons_zero] at e0 e1 e2 e3))
    obtain ⟨Y, hY⟩ : ∃ Y, Y = ((((w4.setCell ⟨w.heap.size + 1, 0, none⟩ (.string n)).setCell ⟨w.heap.size + 1, 1, none⟩ (.int .i64 t)).setCell ⟨w.heap.size + 1, 2, none⟩ (.int .i64 l)).setCell ⟨w.heap.size + 1, 3, none⟩ (.slice (some ⟨g, 0, none⟩) N N)) := ⟨_, rfl⟩
    rw [← hY]
    have keY : Blk Y (w.heap.size + 1) #[.string n, .int .i64 t, .int .i64 l, .slice (some ⟨g, 0, none⟩) N N, .int .i64 r, .int .i64 u] 36 := by rw [hY]; exact (((ke4.set 0 _).set 1 _).set 2 _).set 3 _
    have tY : Turn (fun k => k = w.heap.size + 1) w4 Y := by
      have T : ∀ (x : World) (i : Nat) (v : Value), Turn (fun k => k = w.heap.size + 1) x (x.setCell ⟨w.heap.size + 1, i, none⟩ v) := fun x i v => Turn.of_set (S := fun k => k = w.heap.size + 1) x (p := ⟨w.heap.size + 1, i, none⟩) rfl v
      rw [hY]
      exact (((T _ _ _).same (T _ _ _)).same (T _ _ _)).same (T _ _ _)
    clear hY e0 e1 e2 e3 f0 f1 f2 f3
    have HXY := HX4.out.own tY (by omega)
    have kbY := tY.blk kb4 (by omega)
    have HOY : Hid (Y.ownsRow 0 9 1 (.slice (some ⟨g, 0, none⟩) N N) N (tC ds)) := tY.row HO4.out (fun k hk e => by simp [Value.ownBlock] at hk; have := HG4.out; omega)
    have hoo := HOY.out
    rw [HN.out] at hoo
    obtain ⟨D, hown, hm⟩ := (HXY.hold).own
    have hown2 : Y.drew.ownsMap Try.prog 73 rE b M.length D := hown.drew
    obtain ⟨Y2, hrun, hown3, hturn⟩ := hown2.store keyE Try.underlying66 (by have := HXY.small; unfold maxLen; omega) (keyOf_e (max_ok hk) (wf_ok hk)) (rE_mk (n, t, l, .slice (some ⟨g, 0, none⟩) N N, r, u))
    unfold kyV hA at hrun
    simp only at hrun
    have HY : Hid (St Y2 gs most (some b) (M ++ [(⟨n, t, l, ds, r, u⟩, .slice (some ⟨g, 0, none⟩) N N)]) ∧ Turn (fun k => k = gs ∨ (some b) = some k) w Y2) := HXY.put hown3 hm hturn (by rw [HN.out]; exact hoo) ⟨hk, by rw [← HN.out]; exact hNl, HS.out⟩ HNO.out HLE.out
    have c1 : Y.cell? ⟨gs, 1, none⟩ = some (.map (some b)) := HXY.blk.cell 1
    have d0 := kbY.cell 0
    have d1 := kbY.cell 1
    have e0 := keY.cell 0
    have e1 := keY.cell 1
    have e2 := keY.cell 2
    have e3 := keY.cell 3
    have e4 := keY.cell 4
    have e5 := keY.cell 5
    simp only [List.getElem?_toArray, List.getElem?_cons_succ, List.getElem?_cons_zero] at d0 d1 e0 e1 e2 e3 e4 e5
    go_region
    go_wp2
    go_end0
    exact ⟨some b, _, rfl, HY.out.1, HY.out.2, fun k e => HMB.out k e, fun k e => by simp [Value.ownBlock] at e; have := HG4.out; omega⟩
  | none =>
    have hM : M = [] := by
      rcases h.at' with ⟨_, e⟩ | ⟨b, e, _⟩
      · exact e
      · cases e
    subst hM
    have hmm := @run_makeMap Try.prog
    have hnil := map_none
    obtain ⟨W0, hW0⟩ : ∃ W, W = ((w.alloc (.cells #[.string n, .int .i64 t] 73)).alloc (.cells #[.string n0, .int .i64 t, .int .i64 l, .slice y N c, .int .i64 r, .int .i64 u] 36)).alloc (.map #[] 0) := ⟨_, rfl⟩
    have hb0 : Below w.heap.size w W0 := by rw [hW0]; exact lay (lay (lay (Below.refl _ _) _) _) _
    have kb0 : Blk W0 w.heap.size #[.string n, .int .i64 t] 73 := by rw [hW0]; exact ((Blk.new w _ _).alloc _).alloc _
    have ke0 : Blk W0 (w.heap.size + 1) #[.string n0, .int .i64 t, .int .i64 l, .slice y N c, .int .i64 r, .int .i64 u] 36 := by rw [hW0]; have := (Blk.new (w.alloc (.cells #[.string n, .int .i64 t] 73)) #[.string n0, .int .i64 t, .int .i64 l, .slice y N c, .int .i64 r, .int .i64 u] 36).alloc (.map #[] 0); simpa using this
    have hmade : W0.ownsMap Try.prog 73 rE (w.heap.size + 1 + 1) 0 (.map []) := by rw [hW0]; have := World.ownsMap_made ((w.alloc (.cells #[.string n, .int .i64 t] 73)).alloc (.cells #[.string n0, .int .i64 t, .int .i64 l, .slice y N c, .int .i64 r, .int .i64 u] 36)) Try.prog 73 rE; simpa using this
    have hgs := hlt gs (.inl rfl)
    have kg0 := h.blk.below hb0
    have hs0 : w.heap.size + 2 < W0.heap.size := by rw [hW0]; simp
    obtain ⟨Wm, hWm⟩ : ∃ W, W = W0.setCell ⟨gs, 1, none⟩ (.map (some (w.heap.size + 1 + 1))) := ⟨_, rfl⟩
    have tm : Turn (fun k => k = gs) W0 Wm := by rw [hWm]; exact Turn.of_set (S := fun k => k = gs) W0 (p := ⟨gs, 1, none⟩) rfl _
    have kgm : Blk Wm gs #[.int .i64 most, .map (some (w.heap.size + 1 + 1))] 68 := by rw [hWm]; exact kg0.set 1 _
    have kbm := tm.blk kb0 (by omega)
    have kem := tm.blk ke0 (by omega)
    have hmm2 := own_turn hmade tm (by omega)
    have hrm : Row Wm (.slice y N c) ds.length (tC ds) := (hr.below hb0).turned h0 (tC_len ds) tm (fun g o cap e e' => (hap g o cap e).2 e')
    have c0 := kg0.cell 1
    have g0 := kg0.frozen 1
    have z0 := kbm.cell 0
    have e0 := kem.cell 0
    have e1 := kem.cell 1
    have e2 := kem.cell 2
    have e3 := kem.cell 3
    have f0 := kem.frozen 0
    simp only [List.getElem?_toArray, List.getElem?_cons_succ, List.getElem?_cons_zero] at c0 z0 e0 e1 e2 e3
    obtain ⟨Wx, hWx⟩ : ∃ W, W = Wm.setCell ⟨w.heap.size + 1, 0, none⟩ (.string n) := ⟨_, rfl⟩
    have tx : Turn (fun k => k = w.heap.size + 1) Wm Wx := by rw [hWx]; exact Turn.of_set (S := fun k => k = w.heap.size + 1) Wm (p := ⟨w.heap.size + 1, 0, none⟩) rfl _
    have kb := tx.blk kbm (by omega)
    have ke : Blk Wx (w.heap.size + 1) #[.string n, .int .i64 t, .int .i64 l, .slice y N c, .int .i64 r, .int .i64 u] 36 := by rw [hWx]; exact kem.set 0 _
    have HXm : HX w Wm gs most (w.heap.size + 1 + 1) [] (.slice y N c) ds none := ⟨kgm, ⟨⟨0, _, hmm2, mapOf_nil⟩, hgd, fun p hp => by simp at hp⟩, hrm, h0, fun g o cap e => (hap g o cap e).1, (Turn.of_below hb0).trans tm (fun i hi => .inl (.inl hi)), by have := tm.size; omega, by simp, hgs, fun p hp => by simp at hp, HM1, HM2, .inr ⟨rfl, by omega⟩⟩
    have HXx : Hid (HX w Wx gs most (w.heap.size + 1 + 1) [] (.slice y N c) ds none) := HXm.own tx ⟨by omega, by omega⟩
    have HMB : Hid (∀ k, some (w.heap.size + 1 + 1) = some k → (none : Option Nat) = some k ∨ w.heap.size ≤ k) := fun k e => .inr (by have := Option.some.inj e; omega)
    have cg : ∀ o o' : Obj, ((w.alloc o).alloc o').cell? ⟨gs, 1, none⟩ = some (.map none) := fun o o' => ((h.blk.alloc o).alloc o').cell 1
    rw [hWm, hW0] at z0 e0 e1 e2 e3 f0
    rw [hW0] at c0 g0
    have hW := hWx
    rw [hWm, hW0] at hW
    generalize hbb : w.heap.size + 1 + 1 = b at HXx HMB
    clear hbb
    clear hWx hWm hW0 hmade hmm2 kg0 kgm kb0 ke0 kbm kem tm tx HXm hrm hb0 h hr h0 hl hlt hap hgd hs0 hgs
    have hcp := copyOf_any n t l (.slice y N c) ds Wx (by have := hk.size; omega) HXx.out.src (by rw [← HN.out]; exact hN0) (by rw [← HN.out]; exact hNl) HS.out
    rw [← HN.out] at hcp
    rw [hW] at hcp
    go_enter Try.func36, Try.ntmps36
    go_wp2_with (go_at_call 38; go_must (refine hcp.mono ?_); go_must (rintro e w4 ⟨g, rfl, hown4, hg4, b4⟩); go_must (rw [← hW] at b4 hg4 hown4; have HX4 : Hid (HX w w4 gs most b [] (.slice y N c) ds none) := HXx.out.below b4; have ke4 := ke.below b4; have kb4 := kb.below b4; have HO4 : Hid (w4.ownsRow 0 9 1 (.slice (some ⟨g, 0, none⟩) N N) N (tC ds)) := own_base hown4 (Nat.zero_le _); have HG4 : Hid (w.heap.size + 2 ≤ g) := Nat.le_trans HXx.out.far hg4; clear hown4 hg4 b4 HXx ke kb; have e0 := ke4.cell 0; have e1 := ke4.cell 1; have e2 := ke4.cell 2; have e3 := ke4.cell 3; have f0 := ke4.frozen 0; have f1 := ke4.frozen 1; have f2 := ke4.frozen 2; have f3 := ke4.frozen 3; simp only [List.getElem?_toArray, List.getElem?_cons_succ, List.getElem?_cons_zero] at e0 e1 e2 e3))
    obtain ⟨Y, hY⟩ : ∃ Y, Y = ((((w4.setCell ⟨w.heap.size + 1, 0, none⟩ (.string n)).setCell ⟨w.heap.size + 1, 1, none⟩ (.int .i64 t)).setCell ⟨w.heap.size + 1, 2, none⟩ (.int .i64 l)).setCell ⟨w.heap.size + 1, 3, none⟩ (.slice (some ⟨g, 0, none⟩) N N)) := ⟨_, rfl⟩
    rw [← hY]
    have keY : Blk Y (w.heap.size + 1) #[.string n, .int .i64 t, .int .i64 l, .slice (some ⟨g, 0, none⟩) N N, .int .i64 r, .int .i64 u] 36 := by rw [hY]; exact (((ke4.set 0 _).set 1 _).set 2 _).set 3 _
    have tY : Turn (fun k => k = w.heap.size + 1) w4 Y := by
      have T : ∀ (x : World) (i : Nat) (v : Value), Turn (fun k => k = w.heap.size + 1) x (x.setCell ⟨w.heap.size + 1, i, none⟩ v) := fun x i v => Turn.of_set (S := fun k => k = w.heap.size + 1) x (p := ⟨w.heap.size + 1, i, none⟩) rfl v
      rw [hY]
      exact (((T _ _ _).same (T _ _ _)).same (T _ _ _)).same (T _ _ _)
    clear hY e0 e1 e2 e3 f0 f1 f2 f3
    have HXY := HX4.out.own tY (by omega)
    have kbY := tY.blk kb4 (by omega)
    have HOY : Hid (Y.ownsRow 0 9 1 (.slice (some ⟨g, 0, none⟩) N N) N (tC ds)) := tY.row HO4.out (fun k hk e => by simp [Value.ownBlock] at hk; have := HG4.out; omega)
    have hoo := HOY.out
    rw [HN.out] at hoo
    obtain ⟨D, hown, hm⟩ := (HXY.hold).own
    have hown2 : Y.drew.ownsMap Try.prog 73 rE b ([] : List (En × Value)).length D := hown.drew
    obtain ⟨Y2, hrun, hown3, hturn⟩ := hown2.store keyE Try.underlying66 (by have := HXY.small; unfold maxLen; omega) (keyOf_e (max_ok hk) (wf_ok hk)) (rE_mk (n, t, l, .slice (some ⟨g, 0, none⟩) N N, r, u))
    unfold kyV hA at hrun
    simp only at hrun
    have HY : Hid (St Y2 gs most (some b) ([] ++ [(⟨n, t, l, ds, r, u⟩, .slice (some ⟨g, 0, none⟩) N N)]) ∧ Turn (fun k => k = gs ∨ none = some k) w Y2) := HXY.put hown3 hm hturn (by rw [HN.out]; exact hoo) ⟨hk, by rw [← HN.out]; exact hNl, HS.out⟩ HNO.out HLE.out
    have c1 : Y.cell? ⟨gs, 1, none⟩ = some (.map (some b)) := HXY.blk.cell 1
    have d0 := kbY.cell 0
    have d1 := kbY.cell 1
    have e0 := keY.cell 0
    have e1 := keY.cell 1
    have e2 := keY.cell 2
    have e3 := keY.cell 3
    have e4 := keY.cell 4
    have e5 := keY.cell 5
    simp only [List.getElem?_toArray, List.getElem?_cons_succ, List.getElem?_cons_zero] at d0 d1 e0 e1 e2 e3 e4 e5
    go_region
    go_wp2
    go_end0
    exact ⟨some b, _, rfl, HY.out.1, HY.out.2, fun k e => HMB.out k e, fun k e => by simp [Value.ownBlock] at e; have := HG4.out; omega⟩

end Go.Proofs.Ytcmhjlflgedcdaa
