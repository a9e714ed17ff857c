/- The program's store and the document's, side by side. -/
import Derived.Test.YtcmhjlflgedcdaaXP7
import Derived.Test.YtcmhjlflgedcdaaXSuD
namespace Go.Proofs.Ytcmhjlflgedcdaa
open Go.RowKit
open Pl

theorem own_take {w : World} {base e z n k g cap : Nat} {xs : List Value} (h : w.ownsRow base e z (.slice (some ⟨g, 0, none⟩) n cap) n xs) (hk : k ≤ n) : w.ownsRow base e z (.slice (some ⟨g, 0, none⟩) k cap) k (xs.take (k * z)) := by
  have hl := h.1
  have hz : k * z ≤ n * z := Nat.mul_le_mul_right z hk
  refine ⟨by rw [List.length_take]; omega, ?_⟩
  rcases h.2 with ⟨h1, _⟩ | ⟨g', cap', cur, h1, hb, hg, hnc, hcm, hcs, hx⟩
  · cases h1
  · simp only [Value.slice.injEq, true_and, Option.some.injEq, Addr.mk.injEq] at h1
    obtain ⟨⟨rfl, _⟩, rfl⟩ := h1
    exact .inr ⟨g, cap, cur, rfl, hb, hg, by omega, hcm, hcs, by rw [← hx, List.take_take, Nat.min_eq_left hz]⟩
theorem lendT_own (v : Value) (ds : List ByteArray) (w : World) (h : Row w v ds.length (tC ds)) (hn : ds.length ≤ 8796093022000) :
    Calls Try.prog 13 #[v] w fun e w' => ∃ g cap, e = .returned (.slice (some ⟨g, 0, none⟩) ds.length cap) ∧ ds.length + 2 ≤ cap ∧ Lies w' g (tC ds ++ tC mkT) ∧ w'.ownsRow w.heap.size 9 1 (.slice (some ⟨g, 0, none⟩) ds.length cap) ds.length (tC ds) ∧ Below w.heap.size w w' := by
  obtain ⟨i0, hi, hz0, hz1, hz2⟩ := info_parts info9'
  obtain ⟨N, hN⟩ : ∃ N, N = ds.length := ⟨_, rfl⟩
  have HN : Hid (N = ds.length) := hN
  obtain ⟨x, c, hv⟩ := row_slice h
  have hc := copyT_any v ds w h hn
  rw [← hN] at hv hn ⊢
  subst hv
  clear hN
  go_enter Try.func13, Try.ntmps13
  go_wp2_with (first
    | (go_at_call 30; go_must (refine hc.mono ?_); rintro e w1 ⟨v1, rfl, hown, hb⟩; rw [← HN.out] at hown)
    | (at_builtin; refine wpList_appG _ rfl (.tmp 5) (.tmp 6) 32 9 i0 _ 1 16 Try.underlying32 hi hz0 hz1 hz2 rfl (by decide) rfl w.heap.size _ N (tC ds) rfl (hown.alloc _) (.slice (some ⟨w1.heap.size, 0, none⟩) 2 2) 2 (tC mkT) rfl (Row.of_blk (Blk.new w1 #[.string ⟨#[126, 114, 111, 111, 109]⟩, .string ⟨#[126, 98, 101, 104, 105, 110, 100]⟩] 9) rfl 2 2) rfl (tC_one _) (by omega) (by unfold maxLen; omega) (lay hb _).size ?_; intro v2 w2 h1 h3 _; obtain ⟨g, cap, rfl, _, _⟩ := h1.form (by omega); obtain ⟨hl, hcap⟩ := lies_own h1; have hcap2 : N ≤ cap := (by omega); have HOT := own_take (k := N) h1 (by omega); have hb2 : Below w.heap.size w w2 := (lay hb _).grown h3 (lay hb _).size (fun j e => (hown.lt j e).1); clear h1 h3))
  go_ret
  refine ⟨g, cap, rfl, hcap, hl, ?_, hb2⟩
  rw [Nat.mul_one, List.take_append_of_le_length (by rw [tC_len, ← HN.out]; exact Nat.le_refl _), List.take_of_length_le (by rw [tC_len, ← HN.out]; exact Nat.le_refl _)] at HOT
  exact HOT

theorem own_cells {w : World} {B e z n k : Nat} {v : Value} {xs : List Value} (h : w.ownsRow B e z v n xs) (hk : v.ownBlock = some k) : ∃ cur, Blk w k cur e := by
  rcases h.2 with ⟨h1, _⟩ | ⟨g', cap, cur, h1, _, hg, _⟩
  · rw [h1] at hk; simp [Value.ownBlock] at hk
  · rw [h1] at hk
    simp [Value.ownBlock] at hk
    subst hk
    exact ⟨cur, hg⟩
theorem blk_tag {w : World} {g : Nat} {C D : Array Value} {t u : TypeId} (h : Blk w g C t) (k : Blk w g D u) : t = u := by
  unfold Blk at h k
  rw [h] at k
  simp at k
  exact k.2
theorem st_apart {w : World} {gs most k : Nat} {mb : Option Nat} {L : List (En × Value)} {C : Array Value} {t : TypeId} (h : St w gs most mb L) (hb : Blk w k C t) (ht : t ≠ 68) : ¬ (k = gs ∨ mb = some k) := by
  rintro (rfl | e)
  · exact ht (blk_tag hb h.blk)
  · rcases h.at' with ⟨e0, _⟩ | ⟨b, e1, hh⟩
    · rw [e0] at e; cases e
    · rw [e1] at e
      simp at e
      subst e
      obtain ⟨n, D, ⟨es, clock, hb', _⟩, _⟩ := hh.map
      unfold Blk at hb
      rw [hb] at hb'
      cases hb'
theorem foot_not {w : World} {gs most k : Nat} {mb : Option Nat} {L : List (En × Value)} {C : Array Value} {t : TypeId} (h : St w gs most mb L) (hb : Blk w k C t) (ht : t ≠ 68) (ht9 : t ≠ 9) : ¬ foot gs mb L k := by
  rintro (e | e | ⟨p, hp, e⟩)
  · exact st_apart h hb ht (.inl e)
  · exact st_apart h hb ht (.inr e)
  · obtain ⟨cur, hc⟩ := own_cells (h.at'.dat hp) e
    exact ht9 (blk_tag hb hc)
theorem rfoot_cells {B : Nat} {w : World} {gr most k : Nat} {V : Value} {M : List (En × Value)} (h : RS B w gr most V M) (hk : rfoot gr V M k) : ∃ C t, Blk w k C t ∧ t ≠ 68 ∧ k < w.heap.size := by
  rcases hk with rfl | e | ⟨p, hp, e⟩
  · exact ⟨_, _, h.blk, by decide, h.blk.lt⟩
  · obtain ⟨cur, hc⟩ := own_cells h.es.own e
    exact ⟨_, _, hc, by decide, hc.lt⟩
  · obtain ⟨cur, hc⟩ := own_cells (h.es.dat p hp) e
    exact ⟨_, _, hc, by decide, hc.lt⟩
theorem RS.turn {S : Nat → Prop} {B : Nat} {w w' : World} {gr most : Nat} {V : Value} {M : List (En × Value)} (h : RS B w gr most V M) (T : Turn S w w') (hs : ∀ k, rfoot gr V M k → ¬ S k) : RS B w' gr most V M :=
  ⟨T.blk h.blk (hs _ (.inl rfl)), ⟨T.row h.es.own (fun k hk => hs k (.inr (.inl hk))), fun p hp => T.row (h.es.dat p hp) (fun k hk => hs k (.inr (.inr ⟨p, hp, hk⟩)))⟩, h.len, h.m1, h.m2, h.ok⟩

/-- The two stores, and that they hold the same. -/
structure SA (w0 w : World) (gs gr most : Nat) (mb : Option Nat) (L : List (En × Value)) (V : Value) (M : List (En × Value)) (F G : List En) : Prop where
  lw : LW w0 w gs most mb L F
  rs : RS w0.heap.size w gr most V M
  fs : fstL M = G
  hi : w0.heap.size ≤ gr
theorem SA.below {w0 w w' : World} {gs gr most : Nat} {mb : Option Nat} {L : List (En × Value)} {V : Value} {M : List (En × Value)} {F G : List En} (h : SA w0 w gs gr most mb L V M F G) (hb : Below w.heap.size w w') : SA w0 w' gs gr most mb L V M F G := ⟨h.lw.below hb, h.rs.below hb, h.fs, h.hi⟩
/-- No block of the two. -/
def apart (gs gr : Nat) (mb : Option Nat) (L : List (En × Value)) (V : Value) (M : List (En × Value)) (k : Nat) : Prop := ¬ foot gs mb L k ∧ ¬ rfoot gr V M k
theorem SA.fresh {w0 w : World} {gs gr most : Nat} {mb : Option Nat} {L : List (En × Value)} {V : Value} {M : List (En × Value)} {F G : List En} (h : SA w0 w gs gr most mb L V M F G) {k : Nat} (hk : w.heap.size ≤ k) : apart gs gr mb L V M k :=
  ⟨fun e => by have := h.lw.st.lt k e; omega, fun e => by obtain ⟨_, _, _, _, h4⟩ := rfoot_cells h.rs e; omega⟩
/-- A block of the law's own is written. -/
theorem SA.own {w0 w w' : World} {gs gr most : Nat} {mb : Option Nat} {L : List (En × Value)} {V : Value} {M : List (En × Value)} {F G : List En} {S : Nat → Prop} (h : SA w0 w gs gr most mb L V M F G) (T : Turn S w w') (hS : ∀ k, S k → w0.heap.size ≤ k ∧ apart gs gr mb L V M k) : SA w0 w' gs gr most mb L V M F G :=
  ⟨⟨h.lw.st.turn T (fun k hk e => (hS k e).2.1 hk), h.lw.fs, h.lw.pos, Turn.below h.lw.bel T h.lw.bel.size (fun i hi => (hS i hi).1), h.lw.new⟩, h.rs.turn T (fun k hk e => (hS k e).2.2 hk), h.fs, h.hi⟩

theorem sa_put {w0 w : World} {gs gr most : Nat} {mb : Option Nat} {L : List (En × Value)} {V : Value} {M : List (En × Value)} {F G : List En} (h : SA w0 w gs gr most mb L V M F G) (n : ByteArray) (t l r u now : Int) (v : Value) (ds : List ByteArray) (hn : n.size ≤ maxLen) (hr : Row w v ds.length (tC ds)) (hl : ds.length ≤ 8796093022000) (hs : ∀ d ∈ ds, d.size ≤ 140737488351232)
    (x : Int) (hx : errP ⟨n, t, l, ds, r, u⟩ now = x) (F' : List En) (hF : putP most F ⟨n, t, l, ds, r, u⟩ now = F') :
    Calls Try.prog 14 #[.pointer (some ⟨gs, 0, none⟩), .agg #[.string n, .int .i64 t, .int .i64 l, v, .int .i64 r, .int .i64 u], .int .i64 now] w fun e w' => e = .returned (.int .i64 x) ∧
      ∃ mb' L', SA w0 w' gs gr most mb' L' V M F' G ∧ (∀ k C t, Blk w k C t → t ≠ 68 → Blk w' k C t) ∧ (∀ k, k < w.heap.size → apart gs gr mb L V M k → apart gs gr mb' L' V M k) ∧ w.heap.size ≤ w'.heap.size := by
  refine (put_k h.lw.st n t l r u now v ds hn hr hl hs x hx F F' h.lw.fs hF).mono ?_
  rintro e w' ⟨he, mb', L', s, f, T, ft⟩
  have T2 : Turn (foot gs mb L) w w' := T.more (fun k e => by rcases e with e | e; (· exact .inl e); (· exact .inr (.inl e)))
  refine ⟨he, mb', L', ⟨⟨s, f, by rw [← hF]; exact put_pos h.lw.pos, Turn.below h.lw.bel T2 h.lw.bel.size (fun i hi => h.lw.new i hi), fun k hk => ?_⟩, h.rs.turn T (fun k hk => ?_), h.fs, h.hi⟩, fun k C t hb ht => T.blk hb (st_apart h.lw.st hb ht), fun k hk ha => ⟨fun e => ?_, ha.2⟩, T.size⟩
  · rcases ft k hk with e | e
    · exact h.lw.new k e
    · have := h.lw.bel.size; omega
  · obtain ⟨C, t, hc, ht, _⟩ := rfoot_cells h.rs hk
    exact st_apart h.lw.st hc ht
  · rcases ft k e with e | e
    · exact ha.1 e
    · omega

theorem sa_rput {w0 w : World} {gs gr most : Nat} {mb : Option Nat} {L : List (En × Value)} {V : Value} {M : List (En × Value)} {F G : List En} (h : SA w0 w gs gr most mb L V M F G) (n : ByteArray) (t l r u now : Int) (y : Option Addr) (c N : Nat) (ds : List ByteArray) (hN : N = ds.length) (hn : n.size ≤ maxLen) (hr : Row w (.slice y N c) ds.length (tC ds)) (hl : ds.length ≤ 8796093022000) (hs : ∀ d ∈ ds, d.size ≤ 140737488351232)
    (x : Int) (hx : errP ⟨n, t, l, ds, r, u⟩ now = x) (G' : List En) (hG : putP most G ⟨n, t, l, ds, r, u⟩ now = G') :
    Calls Try.prog 15 #[.pointer (some ⟨gr, 0, none⟩), .agg #[.string n, .int .i64 t, .int .i64 l, .slice y N c, .int .i64 r, .int .i64 u], .int .i64 now] w fun e w' => e = .returned (.int .i64 x) ∧
      ∃ V' M', SA w0 w' gs gr most mb L V' M' F G' ∧ (∀ k C t, Blk w k C t → t ≠ 70 → Blk w' k C t) ∧ (∀ k, k < w.heap.size → apart gs gr mb L V M k → apart gs gr mb L V' M' k) ∧ w.heap.size ≤ w'.heap.size := by
  cases hm : mayE ⟨n, t, l, ds, r, u⟩ now with
  | false =>
    have ex : x = 1300 := by rw [← hx]; unfold errP; rw [hm]; rfl
    have eG : G' = G := by rw [← hG]; unfold putP; rw [hm]; rfl
    subst ex eG
    refine (rput_no n t l r u now y c N gr ds w hn hN hm).mono ?_
    rintro e w' ⟨he, hb⟩
    exact ⟨he, V, M, h.below hb, fun k C t hk _ => hk.below hb, fun k _ ha => ha, hb.size⟩
  | true =>
    have ex : x = 0 := by rw [← hx]; unfold errP; rw [hm]; rfl
    subst ex
    refine (rput_yes h.rs h.lw.bel.size n t l r u now y c N ds hn hN hr hl hs hm).mono ?_
    rintro e w' ⟨he, V', M', rs, hf, T, ft⟩
    have hnf : ¬ foot gs mb L gr := foot_not h.lw.st h.rs.blk (by decide) (by decide)
    refine ⟨he, V', M', ⟨h.lw.own T h.hi hnf, rs, by rw [hf, h.fs, hG], h.hi⟩, fun k C t hk ht => T.blk hk (fun e => by subst e; exact ht (blk_tag hk h.rs.blk)), fun k hk ha => ⟨ha.1, fun e => ?_⟩, T.size⟩
    rcases ft k e with e | e
    · exact ha.2 e
    · omega

/-- What Get tells, found or not. -/
def gE (o : Option En) (now : Int) : En := match o with | none => ⟨⟨#[]⟩, 0, 0, [], 0, 0⟩ | some p => ⟨p.n, p.t, wrap64 (p.u - now), p.ds, p.r, 0⟩
def gX (o : Option En) : Int := match o with | none => 1301 | some _ => 0
theorem sa_get {w0 w : World} {gs gr most : Nat} {mb : Option Nat} {L : List (En × Value)} {V : Value} {M : List (En × Value)} {F G : List En} (h : SA w0 w gs gr most mb L V M F G) (n : ByteArray) (t now : Int) (hn : n.size ≤ maxLen) (ht : (Lit.int .i64 t).wf = true) (a : En) (x : Int) (ha : gE (getP F n t now) now = a) (hx : gX (getP F n t now) = x) :
    Calls Try.prog 18 #[.pointer (some ⟨gs, 0, none⟩), .string n, .int .i64 t, .int .i64 now] w fun e w' => ∃ y c, e = .returned (.tuple #[.agg #[.string a.n, .int .i64 a.t, .int .i64 a.l, .slice y a.ds.length c], .int .i64 a.r, .int .i64 x]) ∧ w'.ownsRow w.heap.size 9 1 (.slice y a.ds.length c) a.ds.length (tC a.ds) ∧ Below w.heap.size w w' := by
  subst ha hx
  cases hg : getP F n t now with
  | none =>
    refine (h.lw.get_none n t now hn ht hg).mono ?_
    rintro e w' ⟨he, hb⟩
    exact ⟨none, 0, he, World.ownsRow_nil _ _ _ _, hb⟩
  | some p =>
    refine (h.lw.get_some n t now hn ht p hg).mono ?_
    rintro e w' ⟨g, he, ho, _, hb⟩
    exact ⟨_, _, he, ho, hb⟩
theorem sa_rget {w0 w : World} {gs gr most : Nat} {mb : Option Nat} {L : List (En × Value)} {V : Value} {M : List (En × Value)} {F G : List En} (h : SA w0 w gs gr most mb L V M F G) (n : ByteArray) (t now : Int) (hn : n.size ≤ maxLen) (a : En) (x : Int) (ha : gE (getP G n t now) now = a) (hx : gX (getP G n t now) = x) :
    Calls Try.prog 19 #[.pointer (some ⟨gr, 0, none⟩), .string n, .int .i64 t, .int .i64 now] w fun e w' => ∃ y c, e = .returned (.tuple #[.agg #[.string a.n, .int .i64 a.t, .int .i64 a.l, .slice y a.ds.length c], .int .i64 a.r, .int .i64 x]) ∧ w'.ownsRow w.heap.size 9 1 (.slice y a.ds.length c) a.ds.length (tC a.ds) ∧ Below w.heap.size w w' := by
  subst ha hx
  refine (rget_any h.rs n t now hn).mono ?_
  rw [h.fs]
  rintro e w' (⟨hg, he, hb⟩ | ⟨p, y, c, hg, he, ho, hb⟩)
  · rw [hg]
    exact ⟨none, 0, he, World.ownsRow_nil _ _ _ _, hb⟩
  · rw [hg]
    exact ⟨y, c, he, ho, hb⟩
theorem get_texts {w : World} {B gr most : Nat} {V : Value} {M : List (En × Value)} (h : RS B w gr most V M) (n : ByteArray) (t now : Int) : (gE (getP (fstL M) n t now) now).ds.length ≤ 8796093022000 ∧ ∀ d ∈ (gE (getP (fstL M) n t now) now).ds, d.size ≤ 140737488351232 := by
  cases hg : getP (fstL M) n t now with
  | none => exact ⟨Nat.zero_le _, fun d hd => by simp [gE] at hd⟩
  | some p =>
    have hm := List.mem_of_find?_eq_some hg
    obtain ⟨q, hq, rfl⟩ := List.mem_map.1 hm
    have := h.ok q hq
    exact ⟨this.len, this.siz⟩

end Go.Proofs.Ytcmhjlflgedcdaa
