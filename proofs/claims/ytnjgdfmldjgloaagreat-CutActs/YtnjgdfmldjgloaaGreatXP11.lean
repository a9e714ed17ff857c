/- What newCut makes: the cut's block, its hosts. -/
import Derived.Test.YtnjgdfmldjgloaaGreatXP10
namespace Go.Proofs.YtnjgdfmldjgloaaGreat
open Go.RowKit
open Pl
namespace Cu

def idxG (hs : List ByteArray) (g : Bn) : Nat := (posL (hs.map fdB) (fdB g.h)).toNat
def glB (hs : List ByteArray) (now : Int) (g : Bn) : Bd := ⟨idxG hs g, g.a, now + lastI g.u⟩
def glAdd (hs : List ByteArray) (now : Int) (bs : List Bd) (g : Bn) : List Bd := learnB bs (glB hs now g) now
def newBs (hs : List ByteArray) (gl : List Bn) (now : Int) : List Bd := gl.foldl (glAdd hs now) []
def newCt (d : Dg) (fr : ByteArray) (now : Int) : Ct := ⟨fdB d.c, d.hs.map fdB, fdB fr, now + lastI d.ttl, newBs d.hs d.gl now⟩
theorem mayD_parts {d : Dg} {fr : ByteArray} {now : Int} (h : mayD d fr now = true) : tellOk fr d.c = true ∧ hostsOk d.hs = true ∧ glueOk d.gl d.hs = true ∧ 0 ≤ now ∧ now ≤ 1099511627776 := by
  unfold mayD at h
  simp only [Bool.and_eq_true, decide_eq_true_eq] at h
  obtain ⟨⟨⟨⟨h1, h2⟩, h3⟩, h4⟩, h5⟩ := h
  exact ⟨h1, h2, h3, h4, h5⟩
theorem hosts_parts {hs : List ByteArray} (h : hostsOk hs = true) : 1 ≤ hs.length ∧ hs.length ≤ 8 ∧ ∀ x ∈ hs, isName x.data.toList = true := by
  unfold hostsOk at h
  simp only [Bool.and_eq_true, decide_eq_true_eq] at h
  refine ⟨h.1.1, h.1.2, fun x hx => ?_⟩
  obtain ⟨i, hi, rfl⟩ := List.getElem_of_mem hx
  have := List.all_eq_true.1 h.2 i (List.mem_range.2 hi)
  unfold hOk at this
  rw [List.getD_eq_getElem?_getD, List.getElem?_eq_getElem hi] at this
  simp only [Option.getD_some, Bool.and_eq_true] at this
  exact this.1
theorem fd_255 {n : ByteArray} (h : isName n.data.toList = true) : (fdB n).size ≤ 255 := by
  have := (name_some (fd_name h).1).1
  have e := data_len (fdB n)
  omega
theorem tell_parts {fr cn : ByteArray} (h : tellOk fr cn = true) : isName fr.data.toList = true ∧ isName cn.data.toList = true := by
  unfold tellOk at h
  simp only [Bool.and_eq_true] at h
  obtain ⟨h1, h2, _⟩ := above_iff.1 h.1
  exact ⟨h1, h2⟩
theorem same_fd {a b : ByteArray} (h : sameB a.data.toList b.data.toList = true) : fdB a = fdB b := by
  obtain ⟨h1, h2, h3⟩ := same_iff.1 h
  refine bytes_ext ?_
  rw [fdB_list, fdB_list]
  unfold foldR
  rw [if_pos h1, if_pos h2]
  exact (fold_inj h1 h2).2 h3
theorem glue_parts {gl : List Bn} {hs : List ByteArray} (h : glueOk gl hs = true) : gl.length ≤ 8 ∧ ∀ g ∈ gl, wideB g.a = true ∧ 0 ≤ posL (hs.map fdB) (fdB g.h) := by
  unfold glueOk at h
  simp only [Bool.and_eq_true, decide_eq_true_eq] at h
  refine ⟨h.1, fun g hg => ?_⟩
  have := List.all_eq_true.1 h.2 g hg
  unfold gOk at this
  simp only [Bool.and_eq_true] at this
  refine ⟨this.1, posL_mem.2 ?_⟩
  unfold hasB at this
  obtain ⟨x, hx, hs2⟩ := List.any_eq_true.1 this.2
  exact List.mem_map.2 ⟨x, hx, same_fd hs2⟩
theorem newBs_len (hs : List ByteArray) (now : Int) : ∀ (gl : List Bn) (bs : List Bd), (gl.foldl (glAdd hs now) bs).length ≤ bs.length + gl.length := by
  intro gl
  induction gl with
  | nil => intro bs; simp
  | cons g gl ih =>
    intro bs
    have h1 := ih (glAdd hs now bs g)
    have h2 := learn_len bs (glB hs now g) now
    unfold glAdd at h1 ⊢
    simp only [List.foldl_cons, List.length_cons]
    omega
/-- A host more. -/
theorem RawAt.host_app {w w1 w2 : World} {b : CB} {c : Ct} {xs : List (List Int)} (h : RawAt w b c xs) (hb1 : Below w.heap.size w w1) {v' : Value} {f : ByteArray}
    (ow : w2.ownsRow 0 9 1 v' (c.hs.length + 1) (tC c.hs ++ [.string f])) (hg : w1.grownBy w2 b.hv.ownBlock) (hv' : ∀ k, v'.ownBlock = some k → b.hv.ownBlock = some k ∨ w.heap.size ≤ k) :
    RawAt (w2.setCell ⟨b.g, 0, none⟩ v') { b with hv := v' } { c with hs := c.hs ++ [f] } xs ∧ Turn (foot b) w (w2.setCell ⟨b.g, 0, none⟩ v') ∧ ∀ k, foot { b with hv := v' } k → foot b k ∨ w.heap.size ≤ k := by
  obtain ⟨t1, t2, t3, t4⟩ := h.tags
  have h1 := h.below hb1
  have T2 : Turn (fun k => b.hv.ownBlock = some k) w1 w2 := Turn.of_grown hg (fun k e => e)
  have T3 : Turn (fun k => k = b.g) w2 (w2.setCell ⟨b.g, 0, none⟩ v') := Turn.of_set (S := fun k => k = b.g) w2 (p := ⟨b.g, 0, none⟩) rfl v'
  have hv'g : ∀ k, v'.ownBlock = some k → k ≠ b.g := fun k hk e => by
    subst e
    exact absurd (own_tag ow hk (T2.blk h1.blk t1)) (by decide)
  refine ⟨⟨?_, ?_, ?_, ?_, ?_⟩, ?_, ?_⟩
  · exact (T2.blk h1.blk t1).set 0 v'
  · show (w2.setCell _ _).ownsRow 0 9 1 v' (c.hs ++ [f]).length (tC (c.hs ++ [f]))
    rw [List.length_append, tC_app]
    exact T3.row ow (fun k hk e => hv'g k hk e)
  · exact T3.row (T2.row h1.held (fun k hk => own_far h1.held h1.hosts (by decide) k hk)) (fun k hk e => t2 (by rw [hk, e]))
  · exact T3.row (T2.row h1.til (fun k hk => own_far h1.til h1.hosts (by decide) k hk)) (fun k hk e => t3 (by rw [hk, e]))
  · exact (h1.lv.turn T2 (fun v hv k hk => h1.lv_far hv h1.hosts (by decide) k hk)).turn T3 (fun v hv k hk e => t4 v hv (by rw [hk, e]))
  · exact ((Turn.of_below hb1).trans T2 (fun i e => .inl (.inr e))).trans T3 (fun i e => .inl (.inl (.inl e)))
  · rintro k ((e | e | e | ⟨v, hv, e⟩) | e)
    · exact .inl (.inl (.inl e))
    · exact .inl (.inl (.inr (.inl e)))
    · exact .inl (.inl (.inr (.inr (.inl e))))
    · exact .inl (.inl (.inr (.inr (.inr ⟨v, hv, e⟩))))
    · rcases hv' k e with e | e
      · exact .inl (.inr e)
      · exact .inr e
/-- The box of a cut that is made. -/
theorem raw_new (w : World) (n fr : ByteArray) (u : Int) : RawAt (w.alloc (.cells #[.slice none 0 0, .string fr, .int .i64 u, .slice none 0 0, .slice none 0 0] 95)) ⟨w.heap.size, .slice none 0 0, .slice none 0 0, .slice none 0 0, []⟩ ⟨n, [], fr, u, []⟩ [] :=
  ⟨Blk.new w _ _, World.ownsRow_nil _ _ _ _, World.ownsRow_nil _ _ _ _, World.ownsRow_nil _ _ _ _, rfl, fun i v us hi => by simp at hi, fun i j v v' k hi => by simp at hi⟩

/-- How far newCut is with the hosts. -/
def NH (w wr : World) (D : Array Value) (g : Nat) (hv : Value) (c : Ct) : Prop :=
  RawAt wr ⟨g, hv, .slice none 0 0, .slice none 0 0, []⟩ c [] ∧ Below w.heap.size w wr ∧ (∀ k, foot ⟨g, hv, .slice none 0 0, .slice none 0 0, []⟩ k → w.heap.size < k) ∧ Blk wr w.heap.size D 39
theorem NH.below {w wr wn : World} {D : Array Value} {g : Nat} {hv : Value} {c : Ct} (h : NH w wr D g hv c) (hb : Below wr.heap.size wr wn) : NH w wn D g hv c := ⟨h.1.below hb, next h.2.1 hb, h.2.2.1, h.2.2.2.below hb⟩
theorem NH.step {w wr w2 w7 : World} {D : Array Value} {g : Nat} {hv v' : Value} {c : Ct} {f : ByteArray} {w1 : World} (h : NH w wr D g hv c) (hb1 : Below wr.heap.size wr w1) (ow : w7.ownsRow 0 9 1 v' (c.hs.length + 1) (tC c.hs ++ [.string f])) (hg : w1.grownBy w7 hv.ownBlock) (hv' : ∀ k, v'.ownBlock = some k → hv.ownBlock = some k ∨ wr.heap.size ≤ k) (_e : w2 = w2) : NH w (w7.setCell ⟨g, 0, none⟩ v') D g v' { c with hs := c.hs ++ [f] } := by
  obtain ⟨r1, r2, r3⟩ := h.1.host_app hb1 ow hg hv'
  have hz := h.2.1.size
  refine ⟨r1, Turn.below h.2.1 r2 h.2.1.size (fun i hi => Nat.le_of_lt (h.2.2.1 i hi)), fun k hk => ?_, r2.blk h.2.2.2 (fun e => by have := h.2.2.1 _ e; omega)⟩
  rcases r3 k hk with e | e
  · exact h.2.2.1 k e
  · have := h.2.2.2.lt; omega

/-- How far newCut is with the glue. -/
structure NG (w wr : World) (b : CB) (c : Ct) : Prop where
  cut : CutAt wr b c
  bel : Below w.heap.size w wr
  new : ∀ k, foot b k → w.heap.size < k
theorem NG.below {w wr wn : World} {b : CB} {c : Ct} (h : NG w wr b c) (hb : Below wr.heap.size wr wn) : NG w wn b c := ⟨h.cut.below hb, next h.bel hb, h.new⟩
theorem NG.step {w wr wn : World} {b b' : CB} {c c' : Ct} (h : NG w wr b c) (hc : CutAt wn b' c') (hv : b'.hv = b.hv) (ht : Turn (wfoot b) wr wn) (hn : ∀ k, wfoot b' k → wfoot b k ∨ wr.heap.size ≤ k) (hlt : w.heap.size < wr.heap.size) : NG w wn b' c' := by
  refine ⟨hc, Turn.below h.bel ht h.bel.size (fun i hi => Nat.le_of_lt (h.new i (.inl hi))), fun k hk => ?_⟩
  rcases hk with hk | hk
  · rcases hn k hk with e | e
    · exact h.new k (.inl e)
    · omega
  · rw [hv] at hk
    exact h.new k (.inr hk)

set_option maxRecDepth 20000 in
set_option maxHeartbeats 4000000 in
theorem newCut_any {w : World} {d : Dg} {hv gv : Value} (h : DIn w d hv gv) (fr : ByteArray) (now : Int) (hm : mayD d fr now = true) :
    Calls Tryz.prog 46 #[.agg (dV d hv gv), .string fr, .int .i64 now] w fun e w' => ∃ b, e = .returned (.pointer (some ⟨b.g, 0, none⟩)) ∧ NG w w' b (newCt d fr now) := by
  obtain ⟨m1, m2, m3, m4, m5⟩ := mayD_parts hm
  obtain ⟨hh1, hh8, hhn⟩ := hosts_parts m2
  obtain ⟨hg8, hgo⟩ := glue_parts m3
  obtain ⟨hfn, hcn⟩ := tell_parts m1
  obtain ⟨i9, hi9, hz90, hz91, hz92⟩ := info_parts info9
  obtain ⟨cn, hs, gl, ttl⟩ := d
  simp only at hh1 hh8 hhn hg8 hgo hfn hcn
  have HNEW : Hid (newCt ⟨cn, hs, gl, ttl⟩ fr now = ⟨fdB cn, hs.map fdB, fdB fr, now + lastI ttl, newBs hs gl now⟩) := rfl
  unfold dV
  simp only
  have HIN : Hid (DIn w ⟨cn, hs, gl, ttl⟩ hv gv) := h
  obtain ⟨xh, ch, hhv, _⟩ := h.hc
  obtain ⟨xg, cg, hgv, _⟩ := h.gr.src
  simp only at hhv hgv
  subst hhv hgv
  have hfs : fr.size ≤ maxLen := by have := (name_some hfn).1; have e := data_len fr; unfold maxLen; omega
  obtain ⟨T, hT⟩ : ∃ T, T = lastI ttl := ⟨_, rfl⟩
  have hT1 : 1 ≤ T := by rw [hT]; exact lastI_lo _
  have hT2 : T ≤ 86400 := by rw [hT]; exact lastI_hi _
  have hla := fun u => lasting_any ttl u
  rw [← hT] at hla HNEW
  obtain ⟨FR, hFR⟩ : ∃ FR, FR = fdB fr := ⟨_, rfl⟩
  have hff := fun u => fold_any fr u hfs
  rw [show (⟨(foldR fr.data.toList).toArray⟩ : ByteArray) = FR from hFR.symm] at hff
  rw [← hFR] at HNEW
  have hFR255 : FR.size ≤ 255 := by rw [hFR]; exact fd_255 hfn
  obtain ⟨NN, hNN⟩ : ∃ NN, NN = hs.length := ⟨_, rfl⟩
  obtain ⟨NL, hNL⟩ : ∃ NL, NL = gl.length := ⟨_, rfl⟩
  have HNN : Hid (NN = hs.length) := hNN
  have HNL : Hid (NL = gl.length) := hNL
  have hN8 : NN ≤ 8 := by omega
  have hL8 : NL ≤ 8 := by omega
  have HHN : Hid (∀ x ∈ hs, isName x.data.toList = true) := hhn
  have HGO : Hid (∀ g ∈ gl, wideB g.a = true ∧ 0 ≤ posL (hs.map fdB) (fdB g.h)) := hgo
  rw [← hNN, ← hNL] at HIN ⊢
  have k0 := Blk.new w #[.string cn, .slice xh NN ch, .slice xg NL cg, .int .i64 ttl] 39
  have hb0 : Below w.heap.size w (w.alloc (.cells #[.string cn, .slice xh NN ch, .slice xg NL cg, .int .i64 ttl] 39)) := lay (Below.refl _ _) _
  have HCN : Hid (isName cn.data.toList = true) := hcn
  obtain ⟨DV, hDV⟩ : ∃ DV : Array Value, DV = #[.string cn, .slice xh NN ch, .slice xg NL cg, .int .i64 ttl] := ⟨_, rfl⟩
  have HDV : Hid (DV = #[.string cn, .slice xh NN ch, .slice xg NL cg, .int .i64 ttl]) := hDV
  clear h hm m1 m2 m3 hh1 hh8 hhn hg8 hgo hfn hcn hfs hT hFR hNN hNL hDV
  obtain ⟨w1, hw1⟩ : ∃ w1, w1 = w.alloc (.cells #[.string cn, .slice xh NN ch, .slice xg NL cg, .int .i64 ttl] 39) := ⟨_, rfl⟩
  go_enter Tryz.func46, Tryz.ntmps46
  go_wp2
  rw [← hw1] at k0 hb0 ⊢
  clear hw1
  have HB1 : Hid (Below w.heap.size w w1) := hb0
  clear hb0
  refine wp_region_held_drew (S := fun u => Blk u w.heap.size #[.string cn, .slice xh NN ch, .slice xg NL cg, .int .i64 ttl] 39) (by kernel_rfl) k0 (fun hHeld => ?_)
  refine wpAnyH_take (i := 0) (v := .string fr) rfl (by kernel_rfl) (by kernel_rfl) (by kernel_rfl) (fun _ _ _ h => h) (Or.inl ⟨by rfl, ?_⟩) hHeld ?_
  · intro u hu
    go_simp
  simp only [Act.put, List.getElem_toArray, List.getElem_cons_zero, List.setIfInBounds_toArray, List.set_cons_zero, List.set_cons_succ]
  refine wpAnyH_take (i := 2) (v := .int .i64 now) rfl (by kernel_rfl) (by kernel_rfl) (by kernel_rfl) (fun _ _ _ h => h) (Or.inl ⟨by rfl, ?_⟩) hHeld ?_
  · intro u hu
    go_simp
  simp only [Act.put, List.getElem_toArray, List.getElem_cons_succ, List.getElem_cons_zero, List.setIfInBounds_toArray, List.set_cons_zero, List.set_cons_succ]
  refine wpAnyH_take (i := 3) (v := .pointer (some ⟨w.heap.size, 3, none⟩)) rfl (by kernel_rfl) (by kernel_rfl) (by kernel_rfl) (fun _ _ _ h => h) (Or.inl ⟨by rfl, ?_⟩) hHeld ?_
  · intro u hu
    go_simp
  simp only [Act.put, List.getElem_toArray, List.getElem_cons_succ, List.getElem_cons_zero, List.setIfInBounds_toArray, List.set_cons_zero, List.set_cons_succ]
  refine wpAnyH_take (i := 4) (v := .int .i64 ttl) rfl (by kernel_rfl) (by kernel_rfl) (by kernel_rfl) (fun _ _ _ h => h) (Or.inl ⟨by rfl, ?_⟩) hHeld ?_
  · intro u hu
    have a0 := hu.cell 3; simp only [List.getElem?_toArray, List.getElem?_cons_succ, List.getElem?_cons_zero] at a0
    go_simp
  simp only [Act.put, List.getElem_toArray, List.getElem_cons_succ, List.getElem_cons_zero, List.setIfInBounds_toArray, List.set_cons_zero, List.set_cons_succ]
  refine wpAnyH_ready (rs := [1]) (by kernel_rfl) (by simp) ?_
  refine AllReadyH.cons rfl (fun K hK => ?_) AllReadyH.nil
  go_simp
  refine (hff _).mono ?_
  rintro e w2 ⟨rfl, b2⟩
  replace hHeld := hHeld.below b2
  have HB2 : Hid (Below w.heap.size w w2) := next HB1.out.drew b2
  go_simp
  refine hK.out _ _ hHeld (fun hHeld => ?_)
  clear hK K b2
  refine wpAnyH_ready (rs := [5]) (by kernel_rfl) (by simp) ?_
  refine AllReadyH.cons rfl (fun K hK => ?_) AllReadyH.nil
  go_simp
  refine (hla _).mono ?_
  rintro e w' ⟨rfl, hw⟩
  obtain rfl := hw.symm
  go_simp
  refine hK.out _ _ hHeld (fun hHeld => ?_)
  clear hK K hw
  have hwr : IntKind.i64.wrap (now + T) = now + T := by rw [IntKind.wrap_i64]; omega
  have HB2x := hHeld
  refine wpAnyH_take (i := 6) (v := .int .i64 (IntKind.i64.wrap (now + T))) rfl (by kernel_rfl) (by kernel_rfl) (by kernel_rfl) (fun _ _ _ h => h) (Or.inl ⟨by rfl, ?_⟩) hHeld ?_
  · intro u hu
    go_simp
  simp only [Act.put, List.getElem_toArray, List.getElem_cons_succ, List.getElem_cons_zero, List.setIfInBounds_toArray, List.set_cons_zero, List.set_cons_succ]
  rw [hwr]
  refine wpAnyH_take (i := 7) (v := .agg #[.slice none 0 0, .string FR, .int .i64 (now + T), .slice none 0 0, .slice none 0 0]) rfl (by kernel_rfl) (by kernel_rfl) (by kernel_rfl) (fun _ _ _ h => h) (Or.inl ⟨by rfl, ?_⟩) hHeld ?_
  · intro u hu
    go_simp
  simp only [Act.put, List.getElem_toArray, List.getElem_cons_succ, List.getElem_cons_zero, List.setIfInBounds_toArray, List.set_cons_zero, List.set_cons_succ]
  refine wpAnyH_ready (rs := [8]) (by kernel_rfl) (by simp) ?_
  refine AllReadyH.cons rfl (fun K hK => ?_) AllReadyH.nil
  go_simp
  refine hK.out _ _ (hHeld.alloc _) (fun hHeld => ?_)
  clear hK K
  refine wpAnyH_take (i := 9) (v := .pointer (some ⟨w2.heap.size, 0, none⟩)) rfl (by kernel_rfl) (by kernel_rfl) (by kernel_rfl) (fun _ _ _ h => h) (Or.inl ⟨by rfl, ?_⟩) hHeld ?_
  · intro u hu
    go_simp
  simp only [Act.put, List.getElem_toArray, List.getElem_cons_succ, List.getElem_cons_zero, List.setIfInBounds_toArray, List.set_cons_zero, List.set_cons_succ]
  refine wpAnyH_done (by kernel_rfl) ?_ _
  have HN0 : Hid (NH w (w2.alloc (.cells #[.slice none 0 0, .string FR, .int .i64 (now + T), .slice none 0 0, .slice none 0 0] 95)) DV w2.heap.size (.slice none 0 0) ⟨fdB cn, [], FR, now + T, []⟩) := ⟨raw_new w2 _ _ _, lay HB2.out _, fun k hk => by
    rcases hk with (e | e | e | ⟨v, hv, e⟩) | e
    · have := k0.lt; have h2 := HB2x.lt; have e2 : k = w2.heap.size := e; omega
    · simp [Value.ownBlock] at e
    · simp [Value.ownBlock] at e
    · simp at hv
    · simp [Value.ownBlock] at e, by rw [HDV.out]; exact hHeld⟩
  obtain ⟨g, hg⟩ : ∃ g, g = w2.heap.size := ⟨_, rfl⟩
  obtain ⟨wa, hwa⟩ : ∃ wa, wa = w2.alloc (.cells #[.slice none 0 0, .string FR, .int .i64 (now + T), .slice none 0 0, .slice none 0 0] 95) := ⟨_, rfl⟩
  rw [← hwa, ← hg] at HN0
  rw [← hwa, ← hg]
  clear hHeld hwa hg HB2x k0
  have c1 : wa.cell? ⟨w.heap.size, 1, none⟩ = some (.slice xh NN ch) := by have := HN0.out.2.2.2.cell 1; rw [HDV.out] at this; exact this
  go_wp2
  go_loopw [25] (fun k wr => ∃ (j : Nat) (yv : Option Addr) (cv : Nat), j ≤ NN ∧ k = .int .i64 (j : Int) ∧ Hid (NH w wr DV g (.slice yv j cv) ⟨fdB cn, (hs.take j).map fdB, FR, now + T, []⟩)) (fun k _ => NN - (intOf k).toNat)
  case atStart => exact ⟨0, none, 0, Nat.zero_le _, rfl, HN0⟩
  case round =>
    obtain ⟨j, yv, cv, hj, rfl, HNH⟩ := hrel
    clear HN0 c1
    by_cases hjn : j < NN
    · have hjn' : (j : Int) < (NN : Int) := by omega
      have hju : j < hs.length := by have := HNN.out; omega
      obtain ⟨gh, oh, cap, hx, hc⟩ := row_at (HIN.out.hr.below HNH.out.2.1) (by show 0 < hs.length; omega)
      simp only [Value.slice.injEq] at hx
      obtain ⟨rfl, -, rfl⟩ := hx
      have d0 := hc j _ (tC_at' hju)
      obtain ⟨p, hp⟩ : ∃ p, p = hs[j] := ⟨_, rfl⟩
      rw [← hp] at d0
      have hpn : isName p.data.toList = true := by rw [hp]; exact HHN.out _ (List.getElem_mem _)
      have hps : p.size ≤ maxLen := by have := (name_some hpn).1; have e := data_len p; unfold maxLen; omega
      obtain ⟨FH, hFH⟩ : ∃ FH, FH = fdB p := ⟨_, rfl⟩
      have hfo := fun u => fold_any p u hps
      rw [show (⟨(foldR p.data.toList).toArray⟩ : ByteArray) = FH from hFH.symm] at hfo
      obtain ⟨HJ, hHJ⟩ : ∃ HJ, HJ = (hs.take j).map fdB := ⟨_, rfl⟩
      have HJL : Hid (HJ.length = j) := by unfold Hid; rw [hHJ, List.length_map, List.length_take]; omega
      have HJN : Hid ((hs.take (j + 1)).map fdB = HJ ++ [FH]) := by unfold Hid; rw [hHJ, hFH, hp, List.take_succ_eq_append_getElem hju, List.map_append]; rfl
      rw [← hHJ] at HNH
      have HND : Hid (NH w wr.drew DV g (.slice yv j cv) ⟨fdB cn, HJ, FR, now + T, []⟩) := HNH.out.below (Below.refl _ _).drew
      have HSTP : Hid (∀ w5 w7 v7, Below wr.drew.heap.size wr.drew w5 → w7.ownsRow 0 9 1 v7 (j + 1) (tC HJ ++ [.string FH]) → (w5.alloc (.cells #[.string FH] 9)).grownBy w7 (Value.slice yv j cv).ownBlock → (∀ k, v7.ownBlock = some k → (Value.slice yv j cv).ownBlock = some k ∨ wr.drew.heap.size ≤ k) → NH w (w7.setCell ⟨g, 0, none⟩ v7) DV g v7 ⟨fdB cn, (hs.take (j + 1)).map fdB, FR, now + T, []⟩) := fun w5 w7 v7 b5 ow gr ho => by
        rw [HJN.out]
        exact HND.out.step (w2 := w5) (f := FH) (c := ⟨fdB cn, HJ, FR, now + T, []⟩) (lay b5 _) (by show w7.ownsRow 0 9 1 v7 (HJ.length + 1) _; rw [HJL.out]; exact ow) gr ho rfl
      have q3 : wr.drew.cell? ⟨g, 0, none⟩ = some (.slice yv j cv) := HND.out.1.blk.cell 0
      clear hc hp hpn hFH hHJ HNH
      go_wp2
      refine wp_region_held_drew (S := fun _ => True) (by kernel_rfl) trivial (fun hHeld => ?_)
      refine wpAnyH_take (i := 0) (v := .pointer (some ⟨g, 0, none⟩)) rfl (by kernel_rfl) (by kernel_rfl) (by kernel_rfl) (fun _ _ _ h => h) (Or.inl ⟨by rfl, ?_⟩) hHeld ?_
      · intro u hu
        go_simp
      simp only [Act.put, List.getElem_toArray, List.getElem_cons_zero, List.setIfInBounds_toArray, List.set_cons_zero, List.set_cons_succ]
      refine wpAnyH_take (i := 1) (v := .pointer (some ⟨g, 0, none⟩)) rfl (by kernel_rfl) (by kernel_rfl) (by kernel_rfl) (fun _ _ _ h => h) (Or.inl ⟨by rfl, ?_⟩) hHeld ?_
      · intro u hu
        go_simp
      simp only [Act.put, List.getElem_toArray, List.getElem_cons_succ, List.getElem_cons_zero, List.setIfInBounds_toArray, List.set_cons_zero, List.set_cons_succ]
      refine wpAnyH_take (i := 2) (v := .pointer (some ⟨g, 0, none⟩)) rfl (by kernel_rfl) (by kernel_rfl) (by kernel_rfl) (fun _ _ _ h => h) (Or.inl ⟨by rfl, ?_⟩) hHeld ?_
      · intro u hu
        go_simp
      simp only [Act.put, List.getElem_toArray, List.getElem_cons_succ, List.getElem_cons_zero, List.setIfInBounds_toArray, List.set_cons_zero, List.set_cons_succ]
      refine wpAnyH_take (i := 3) (v := .pointer (some ⟨g, 0, none⟩)) rfl (by kernel_rfl) (by kernel_rfl) (by kernel_rfl) (fun _ _ _ h => h) (Or.inl ⟨by rfl, ?_⟩) hHeld ?_
      · intro u hu
        go_simp
      simp only [Act.put, List.getElem_toArray, List.getElem_cons_succ, List.getElem_cons_zero, List.setIfInBounds_toArray, List.set_cons_zero, List.set_cons_succ]
      refine wpAnyH_take (i := 5) (v := .string p) rfl (by kernel_rfl) (by kernel_rfl) (by kernel_rfl) (fun _ _ _ h => h) (Or.inl ⟨by rfl, ?_⟩) hHeld ?_
      · intro u hu
        go_simp
      simp only [Act.put, List.getElem_toArray, List.getElem_cons_succ, List.getElem_cons_zero, List.setIfInBounds_toArray, List.set_cons_zero, List.set_cons_succ]
      refine wpAnyH_ready (rs := [4, 6]) (by kernel_rfl) (by simp) ?_
      refine AllReadyH.cons rfl (fun K hK => ?_) (AllReadyH.cons rfl (fun K hK => ?_) AllReadyH.nil)
      · skip
        go_simp
        refine hK.out _ _ trivial (fun hHeld => ?_)
        clear hK K
        refine wpAnyH_ready (rs := [6]) (by kernel_rfl) (by simp) ?_
        refine AllReadyH.cons rfl (fun K hK => ?_) AllReadyH.nil
        go_simp
        refine (hfo _).mono ?_
        rintro e w5 ⟨rfl, b5⟩
        have HB5 : Hid (Below wr.drew.heap.size wr.drew w5) := b5
        have q4 : w5.cell? ⟨g, 0, none⟩ = some (.slice yv j cv) := ((HND.out.1.below b5).blk.cell 0)
        have q5 : (w5.alloc (.cells #[.string FH] 9)).cell? ⟨g, 0, none⟩ = some (.slice yv j cv) := ((HND.out.1.below (lay b5 _)).blk.cell 0)
        clear b5
        go_simp
        refine hK.out _ _ trivial (fun hHeld => ?_)
        clear hK K
        refine wpAnyH_ready (rs := [7]) (by kernel_rfl) (by simp) ?_
        refine AllReadyH.cons rfl (fun K hK => ?_) AllReadyH.nil
        go_simp
        refine hK.out _ _ trivial (fun hHeld => ?_)
        clear hK K
        have kX := Blk.new w5 #[.string FH] 9
        have hb6 : Below wr.drew.heap.size wr.drew (w5.alloc (.cells #[.string FH] 9)) := lay HB5.out _
        have hto6 : (w5.alloc (.cells #[.string FH] 9)).ownsRow 0 9 1 (.slice yv j cv) j (tC HJ) := by
          have := (HND.out.1.below hb6).hosts
          rw [HJL.out] at this
          exact this
        refine wpAnyH_ready (rs := [8]) (by kernel_rfl) (by simp) ?_
        refine AllReadyH.cons rfl (fun K hK => ?_) AllReadyH.nil
        refine step_appG _ rfl (.tmp 33) (.tmp 36) 36 9 i9 _ 1 16 Tryz.underlying36 hi9 hz90 hz91 hz92 rfl (by decide) rfl 0 _ j (tC HJ) rfl hto6 (.slice (some ⟨w5.heap.size, 0, none⟩) 1 1) 1 [.string FH] rfl (Row.of_blk kX rfl 1 1) rfl (by simp [Value.oneCell']) (by omega) (by unfold maxLen; omega) (Nat.zero_le _) ?_
        intro v7 w7 h1 h3 h4
        have HA8 := HSTP.out w5 w7 v7 HB5.out h1 h3 (fun k hk => (h4 k hk).imp id (fun h => by rw [World.size_alloc] at h; have := HB5.out.size; omega))
        have hblk7 := ((HND.out.1.below hb6).blk).grown h3 (fun e => (HND.out.1.below hb6).tags.1 e.symm)
        have q6 : w7.cell? ⟨g, 0, none⟩ = some (.slice yv j cv) := hblk7.cell 0
        have q7 : w7.frozen? ⟨g, 0, none⟩ = false := hblk7.frozen 0
        obtain ⟨y7, c7, rfl⟩ := row_shape h1
        have HA9 : Hid _ := HA8
        clear HA8 h1 h3 h4 hblk7 kX hto6
        refine hK.out _ _ trivial (fun hHeld => ?_)
        clear hK K
        simp only [Act.put, List.getElem_toArray, List.getElem_cons_succ, List.getElem_cons_zero, List.setIfInBounds_toArray, List.set_cons_zero, List.set_cons_succ]
        refine wpAnyH_take (i := 9) (v := .pointer (some ⟨g, 0, none⟩)) rfl (by kernel_rfl) (by kernel_rfl) (by kernel_rfl) (fun _ _ _ h => h) (Or.inl ⟨by rfl, ?_⟩) hHeld ?_
        · intro u hu
          go_simp
        simp only [Act.put, List.getElem_toArray, List.getElem_cons_succ, List.getElem_cons_zero, List.setIfInBounds_toArray, List.set_cons_zero, List.set_cons_succ]
        refine wpAnyH_take (i := 10) (v := .pointer (some ⟨g, 0, none⟩)) rfl (by kernel_rfl) (by kernel_rfl) (by kernel_rfl) (fun _ _ _ h => h) (Or.inl ⟨by rfl, ?_⟩) hHeld ?_
        · intro u hu
          go_simp
        simp only [Act.put, List.getElem_toArray, List.getElem_cons_succ, List.getElem_cons_zero, List.setIfInBounds_toArray, List.set_cons_zero, List.set_cons_succ]
        refine wpAnyH_ready (rs := [11]) (by kernel_rfl) (by simp) ?_
        refine AllReadyH.cons rfl (fun K hK => ?_) AllReadyH.nil
        go_simp
        refine hK.out _ _ trivial (fun hHeld => ?_)
        clear hK K
        refine wpAnyH_done (by kernel_rfl) ?_ _
        go_wp2
        go_roundw
        case rel => exact ⟨j + 1, y7, c7, by omega, by go_num, HA9⟩
        case measure => simp [intOf]; omega
      · skip
        go_simp
        refine (hfo _).mono ?_
        rintro e w5 ⟨rfl, b5⟩
        have HB5 : Hid (Below wr.drew.heap.size wr.drew w5) := b5
        have q4 : w5.cell? ⟨g, 0, none⟩ = some (.slice yv j cv) := ((HND.out.1.below b5).blk.cell 0)
        have q5 : (w5.alloc (.cells #[.string FH] 9)).cell? ⟨g, 0, none⟩ = some (.slice yv j cv) := ((HND.out.1.below (lay b5 _)).blk.cell 0)
        clear b5
        go_simp
        refine hK.out _ _ trivial (fun hHeld => ?_)
        clear hK K
        refine wpAnyH_ready (rs := [4, 7]) (by kernel_rfl) (by simp) ?_
        refine AllReadyH.cons rfl (fun K hK => ?_) (AllReadyH.cons rfl (fun K hK => ?_) AllReadyH.nil)
        · skip
          go_simp
          refine hK.out _ _ trivial (fun hHeld => ?_)
          clear hK K
          refine wpAnyH_ready (rs := [7]) (by kernel_rfl) (by simp) ?_
          refine AllReadyH.cons rfl (fun K hK => ?_) AllReadyH.nil
          go_simp
          refine hK.out _ _ trivial (fun hHeld => ?_)
          clear hK K
          have kX := Blk.new w5 #[.string FH] 9
          have hb6 : Below wr.drew.heap.size wr.drew (w5.alloc (.cells #[.string FH] 9)) := lay HB5.out _
          have hto6 : (w5.alloc (.cells #[.string FH] 9)).ownsRow 0 9 1 (.slice yv j cv) j (tC HJ) := by
            have := (HND.out.1.below hb6).hosts
            rw [HJL.out] at this
            exact this
          refine wpAnyH_ready (rs := [8]) (by kernel_rfl) (by simp) ?_
          refine AllReadyH.cons rfl (fun K hK => ?_) AllReadyH.nil
          refine step_appG _ rfl (.tmp 33) (.tmp 36) 36 9 i9 _ 1 16 Tryz.underlying36 hi9 hz90 hz91 hz92 rfl (by decide) rfl 0 _ j (tC HJ) rfl hto6 (.slice (some ⟨w5.heap.size, 0, none⟩) 1 1) 1 [.string FH] rfl (Row.of_blk kX rfl 1 1) rfl (by simp [Value.oneCell']) (by omega) (by unfold maxLen; omega) (Nat.zero_le _) ?_
          intro v7 w7 h1 h3 h4
          have HA8 := HSTP.out w5 w7 v7 HB5.out h1 h3 (fun k hk => (h4 k hk).imp id (fun h => by rw [World.size_alloc] at h; have := HB5.out.size; omega))
          have hblk7 := ((HND.out.1.below hb6).blk).grown h3 (fun e => (HND.out.1.below hb6).tags.1 e.symm)
          have q6 : w7.cell? ⟨g, 0, none⟩ = some (.slice yv j cv) := hblk7.cell 0
          have q7 : w7.frozen? ⟨g, 0, none⟩ = false := hblk7.frozen 0
          obtain ⟨y7, c7, rfl⟩ := row_shape h1
          have HA9 : Hid _ := HA8
          clear HA8 h1 h3 h4 hblk7 kX hto6
          refine hK.out _ _ trivial (fun hHeld => ?_)
          clear hK K
          simp only [Act.put, List.getElem_toArray, List.getElem_cons_succ, List.getElem_cons_zero, List.setIfInBounds_toArray, List.set_cons_zero, List.set_cons_succ]
          refine wpAnyH_take (i := 9) (v := .pointer (some ⟨g, 0, none⟩)) rfl (by kernel_rfl) (by kernel_rfl) (by kernel_rfl) (fun _ _ _ h => h) (Or.inl ⟨by rfl, ?_⟩) hHeld ?_
          · intro u hu
            go_simp
          simp only [Act.put, List.getElem_toArray, List.getElem_cons_succ, List.getElem_cons_zero, List.setIfInBounds_toArray, List.set_cons_zero, List.set_cons_succ]
          refine wpAnyH_take (i := 10) (v := .pointer (some ⟨g, 0, none⟩)) rfl (by kernel_rfl) (by kernel_rfl) (by kernel_rfl) (fun _ _ _ h => h) (Or.inl ⟨by rfl, ?_⟩) hHeld ?_
          · intro u hu
            go_simp
          simp only [Act.put, List.getElem_toArray, List.getElem_cons_succ, List.getElem_cons_zero, List.setIfInBounds_toArray, List.set_cons_zero, List.set_cons_succ]
          refine wpAnyH_ready (rs := [11]) (by kernel_rfl) (by simp) ?_
          refine AllReadyH.cons rfl (fun K hK => ?_) AllReadyH.nil
          go_simp
          refine hK.out _ _ trivial (fun hHeld => ?_)
          clear hK K
          refine wpAnyH_done (by kernel_rfl) ?_ _
          go_wp2
          go_roundw
          case rel => exact ⟨j + 1, y7, c7, by omega, by go_num, HA9⟩
          case measure => simp [intOf]; omega
        · skip
          go_simp
          refine hK.out _ _ trivial (fun hHeld => ?_)
          clear hK K
          refine wpAnyH_ready (rs := [4]) (by kernel_rfl) (by simp) ?_
          refine AllReadyH.cons rfl (fun K hK => ?_) AllReadyH.nil
          go_simp
          refine hK.out _ _ trivial (fun hHeld => ?_)
          clear hK K
          have kX := Blk.new w5 #[.string FH] 9
          have hb6 : Below wr.drew.heap.size wr.drew (w5.alloc (.cells #[.string FH] 9)) := lay HB5.out _
          have hto6 : (w5.alloc (.cells #[.string FH] 9)).ownsRow 0 9 1 (.slice yv j cv) j (tC HJ) := by
            have := (HND.out.1.below hb6).hosts
            rw [HJL.out] at this
            exact this
          refine wpAnyH_ready (rs := [8]) (by kernel_rfl) (by simp) ?_
          refine AllReadyH.cons rfl (fun K hK => ?_) AllReadyH.nil
          refine step_appG _ rfl (.tmp 33) (.tmp 36) 36 9 i9 _ 1 16 Tryz.underlying36 hi9 hz90 hz91 hz92 rfl (by decide) rfl 0 _ j (tC HJ) rfl hto6 (.slice (some ⟨w5.heap.size, 0, none⟩) 1 1) 1 [.string FH] rfl (Row.of_blk kX rfl 1 1) rfl (by simp [Value.oneCell']) (by omega) (by unfold maxLen; omega) (Nat.zero_le _) ?_
          intro v7 w7 h1 h3 h4
          have HA8 := HSTP.out w5 w7 v7 HB5.out h1 h3 (fun k hk => (h4 k hk).imp id (fun h => by rw [World.size_alloc] at h; have := HB5.out.size; omega))
          have hblk7 := ((HND.out.1.below hb6).blk).grown h3 (fun e => (HND.out.1.below hb6).tags.1 e.symm)
          have q6 : w7.cell? ⟨g, 0, none⟩ = some (.slice yv j cv) := hblk7.cell 0
          have q7 : w7.frozen? ⟨g, 0, none⟩ = false := hblk7.frozen 0
          obtain ⟨y7, c7, rfl⟩ := row_shape h1
          have HA9 : Hid _ := HA8
          clear HA8 h1 h3 h4 hblk7 kX hto6
          refine hK.out _ _ trivial (fun hHeld => ?_)
          clear hK K
          simp only [Act.put, List.getElem_toArray, List.getElem_cons_succ, List.getElem_cons_zero, List.setIfInBounds_toArray, List.set_cons_zero, List.set_cons_succ]
          refine wpAnyH_take (i := 9) (v := .pointer (some ⟨g, 0, none⟩)) rfl (by kernel_rfl) (by kernel_rfl) (by kernel_rfl) (fun _ _ _ h => h) (Or.inl ⟨by rfl, ?_⟩) hHeld ?_
          · intro u hu
            go_simp
          simp only [Act.put, List.getElem_toArray, List.getElem_cons_succ, List.getElem_cons_zero, List.setIfInBounds_toArray, List.set_cons_zero, List.set_cons_succ]
          refine wpAnyH_take (i := 10) (v := .pointer (some ⟨g, 0, none⟩)) rfl (by kernel_rfl) (by kernel_rfl) (by kernel_rfl) (fun _ _ _ h => h) (Or.inl ⟨by rfl, ?_⟩) hHeld ?_
          · intro u hu
            go_simp
          simp only [Act.put, List.getElem_toArray, List.getElem_cons_succ, List.getElem_cons_zero, List.setIfInBounds_toArray, List.set_cons_zero, List.set_cons_succ]
          refine wpAnyH_ready (rs := [11]) (by kernel_rfl) (by simp) ?_
          refine AllReadyH.cons rfl (fun K hK => ?_) AllReadyH.nil
          go_simp
          refine hK.out _ _ trivial (fun hHeld => ?_)
          clear hK K
          refine wpAnyH_done (by kernel_rfl) ?_ _
          go_wp2
          go_roundw
          case rel => exact ⟨j + 1, y7, c7, by omega, by go_num, HA9⟩
          case measure => simp [intOf]; omega
    · have hjn' : decide (j < NN) = false := by simpa using hjn
      have hjN : j = NN := by omega
      subst hjN
      have HG0 : Hid (NG w wr ⟨g, .slice yv j cv, .slice none 0 0, .slice none 0 0, []⟩ ⟨fdB cn, hs.map fdB, FR, now + T, (gl.take 0).foldl (glAdd hs now) []⟩) := by
        have h1 := HNH.out
        rw [show hs.take j = hs by rw [HNN.out, List.take_length]] at h1
        refine ⟨⟨h1.1, ⟨?_, hFR255, ?_, ?_, ?_, ?_⟩⟩, h1.2.1, h1.2.2.1⟩
        · exact ⟨(fd_name HCN.out).1, (fd_name HCN.out).2, by omega, by omega⟩
        · show (hs.map fdB).length ≤ 8
          rw [List.length_map, ← HNN.out]; exact hN8
        · intro x hx
          obtain ⟨y, hy, rfl⟩ := List.mem_map.1 hx
          exact fd_255 (HHN.out y hy)
        · simp
        · intro x hx; simp at hx
      have c2 : wr.cell? ⟨w.heap.size, 2, none⟩ = some (.slice xg NL cg) := by have := HNH.out.2.2.2.cell 2; rw [HDV.out] at this; exact this
      clear HNH
      go_wp2
      clear hjn hjn'
      go_loopw [44] (fun k wr => ∃ (j2 : Nat) (sv uv : Value) (ls : List Value), j2 ≤ NL ∧ k = .int .i64 (j2 : Int) ∧ Hid (NG w wr ⟨g, .slice yv j cv, sv, uv, ls⟩ ⟨fdB cn, hs.map fdB, FR, now + T, (gl.take j2).foldl (glAdd hs now) []⟩)) (fun k _ => NL - (intOf k).toNat)
      case atStart => exact ⟨0, _, _, _, Nat.zero_le _, rfl, HG0⟩
      case round =>
        clear HG0 c2
        obtain ⟨i, sv, uv, ls, hj2, rfl, HNG⟩ := hrel
        by_cases hjn : i < NL
        · have hjn' : (i : Int) < (NL : Int) := by omega
          have hju : i < gl.length := by have := HNL.out; omega
          obtain ⟨gg, og, cap, hx, hc⟩ := row_at (HIN.out.gr.below HNG.out.bel) (by show 0 < gl.length; omega)
          simp only [Value.slice.injEq] at hx
          obtain ⟨rfl, -, rfl⟩ := hx
          obtain ⟨⟨xc, xn, xa, xf, xu⟩, hp⟩ : ∃ p, p = gl[i] := ⟨_, rfl⟩
          have hfl := fun k hk => flat_get (f := bV) (z := 5) (fun _ => rfl) gl i hju k hk
          rw [← hp] at hfl
          have d0 := hc (i * 5 + 0) _ (hfl 0 (by omega))
          have d1 := hc (i * 5 + 1) _ (hfl 1 (by omega))
          have d2 := hc (i * 5 + 2) _ (hfl 2 (by omega))
          have d3 := hc (i * 5 + 3) _ (hfl 3 (by omega))
          have d4 := hc (i * 5 + 4) _ (hfl 4 (by omega))
          simp only [Nat.add_zero, ← Nat.add_assoc] at d0 d1 d2 d3 d4
          have hpl : xn.size ≤ maxLen := by have := HIN.out.gss _ (List.getElem_mem hju); rw [← hp] at this; exact this
          have hpo : 0 ≤ posL (hs.map fdB) (fdB xn) := by have := (HGO.out _ (List.getElem_mem hju)).2; rw [← hp] at this; exact this
          obtain ⟨P, hPl, hP, _⟩ := posL_lt hpo
          obtain ⟨FH, hFH⟩ : ∃ FH, FH = fdB xn := ⟨_, rfl⟩
          have hfo := fun u => fold_any xn u hpl
          rw [show (⟨(foldR xn.data.toList).toArray⟩ : ByteArray) = FH from hFH.symm] at hfo
          rw [← hFH] at hP
          obtain ⟨T2, hT2'⟩ : ∃ T2, T2 = lastI xu := ⟨_, rfl⟩
          have hU1 : 1 ≤ T2 := by rw [hT2']; exact lastI_lo _
          have hU2 : T2 ≤ 86400 := by rw [hT2']; exact lastI_hi _
          have hlg := fun u => lasting_any xu u
          rw [← hT2'] at hlg
          have HLB : Hid (learnB ((gl.take i).foldl (glAdd hs now) []) ⟨P, xa, now + T2⟩ now = (gl.take (i + 1)).foldl (glAdd hs now) []) := by
            unfold Hid
            rw [List.take_succ_eq_append_getElem hju, List.foldl_append, ← hp]
            simp only [List.foldl_cons, List.foldl_nil]
            unfold glAdd glB idxG
            rw [← hFH, hP, ← hT2']
            rfl
          have HLN : Hid (((gl.take i).foldl (glAdd hs now) []).length < 256) := by
            have := newBs_len hs now (gl.take i) []
            rw [List.length_take] at this
            simp only [List.length_nil] at this
            unfold Hid
            omega
          obtain ⟨Y, hY⟩ : ∃ Y, Y = wr.alloc (.cells #[.string xc, .string xn, .int .i64 xa, .string xf, .int .i64 xu] 65) := ⟨_, rfl⟩
          have KY : Hid (∀ u, Below Y.heap.size Y u → Blk u wr.heap.size #[.string xc, .string xn, .int .i64 xa, .string xf, .int .i64 xu] 65) := fun u hu => by
            refine Blk.below ?_ hu
            rw [hY]
            exact Blk.new wr _ _
          have HYN : Hid (∀ u, Below Y.heap.size Y u → NG w u ⟨g, .slice yv j cv, sv, uv, ls⟩ ⟨fdB cn, hs.map fdB, FR, now + T, (gl.take i).foldl (glAdd hs now) []⟩) := fun u hu => by
            refine (HNG.out.below ?_).below hu
            rw [hY]
            exact lay (Below.refl _ _) _
          obtain ⟨gY, hgY⟩ : ∃ gY, gY = wr.heap.size := ⟨_, rfl⟩
          have hix := fun u (hu : Below Y.heap.size Y u) => index_any (.slice yv j cv) (hs.map fdB) FH u (Row.of_own (HYN.out u hu).cut.raw.hosts) (by rw [List.length_map, ← HNN.out]; omega) (P : Int) hP
          rw [← hgY] at KY
          clear hc hfl hp hpo hP hFH hT2'
          go_wp2
          rw [← hY, ← hgY]
          have HLT : Hid ((∀ k, foot ⟨g, .slice yv j cv, sv, uv, ls⟩ k → k < gY) ∧ gY < Y.heap.size) := ⟨fun k hk => by rw [hgY]; exact HNG.out.cut.raw.lt k hk, (KY.out Y (Below.refl _ _)).lt⟩
          clear d0 d1 d2 d3 d4 hY hgY HNG
          go_cut [12] (fun z wx => ∃ q, z = .pointer (some ⟨q, 0, none⟩) ∧ Hid (Blk wx q #[.int .i64 (P : Int), .int .i64 xa] 98 ∧ Below Y.heap.size Y wx ∧ Y.heap.size ≤ q))
          case first =>
            refine wp_region_held_drew (S := fun u => Below Y.heap.size Y u) (by kernel_rfl) (Below.refl _ _).drew (fun hHeld => ?_)
            refine wpAnyH_take (i := 0) (v := .pointer (some ⟨g, 0, none⟩)) rfl (by kernel_rfl) (by kernel_rfl) (by kernel_rfl) (fun _ _ _ h => h) (Or.inl ⟨by rfl, ?_⟩) hHeld ?_
            · intro u hu
              go_simp
            simp only [Act.put, List.getElem_toArray, List.getElem_cons_zero, List.setIfInBounds_toArray, List.set_cons_zero, List.set_cons_succ]
            refine wpAnyH_take (i := 1) (v := .pointer (some ⟨g, 0, none⟩)) rfl (by kernel_rfl) (by kernel_rfl) (by kernel_rfl) (fun _ _ _ h => h) (Or.inl ⟨by rfl, ?_⟩) hHeld ?_
            · intro u hu
              go_simp
            simp only [Act.put, List.getElem_toArray, List.getElem_cons_succ, List.getElem_cons_zero, List.setIfInBounds_toArray, List.set_cons_zero, List.set_cons_succ]
            refine wpAnyH_take (i := 2) (v := .pointer (some ⟨g, 0, none⟩)) rfl (by kernel_rfl) (by kernel_rfl) (by kernel_rfl) (fun _ _ _ h => h) (Or.inl ⟨by rfl, ?_⟩) hHeld ?_
            · intro u hu
              go_simp
            simp only [Act.put, List.getElem_toArray, List.getElem_cons_succ, List.getElem_cons_zero, List.setIfInBounds_toArray, List.set_cons_zero, List.set_cons_succ]
            refine wpAnyH_take (i := 3) (v := .slice yv j cv) rfl (by kernel_rfl) (by kernel_rfl) (by kernel_rfl) (fun _ _ _ h => h) (Or.inl ⟨by rfl, ?_⟩) hHeld ?_
            · intro u hu
              have a0 : u.cell? ⟨g, 0, none⟩ = some (.slice yv j cv) := (HYN.out u hu).cut.raw.blk.cell 0
              go_simp
            simp only [Act.put, List.getElem_toArray, List.getElem_cons_succ, List.getElem_cons_zero, List.setIfInBounds_toArray, List.set_cons_zero, List.set_cons_succ]
            refine wpAnyH_take (i := 4) (v := .pointer (some ⟨gY, 1, none⟩)) rfl (by kernel_rfl) (by kernel_rfl) (by kernel_rfl) (fun _ _ _ h => h) (Or.inl ⟨by rfl, ?_⟩) hHeld ?_
            · intro u hu
              go_simp
            simp only [Act.put, List.getElem_toArray, List.getElem_cons_succ, List.getElem_cons_zero, List.setIfInBounds_toArray, List.set_cons_zero, List.set_cons_succ]
            refine wpAnyH_take (i := 5) (v := .string xn) rfl (by kernel_rfl) (by kernel_rfl) (by kernel_rfl) (fun _ _ _ h => h) (Or.inl ⟨by rfl, ?_⟩) hHeld ?_
            · intro u hu
              have a0 : u.cell? ⟨gY, 1, none⟩ = some (.string xn) := (KY.out u hu).cell 1
              go_simp
            simp only [Act.put, List.getElem_toArray, List.getElem_cons_succ, List.getElem_cons_zero, List.setIfInBounds_toArray, List.set_cons_zero, List.set_cons_succ]
            refine wpAnyH_take (i := 8) (v := .pointer (some ⟨gY, 2, none⟩)) rfl (by kernel_rfl) (by kernel_rfl) (by kernel_rfl) (fun _ _ _ h => h) (Or.inl ⟨by rfl, ?_⟩) hHeld ?_
            · intro u hu
              go_simp
            simp only [Act.put, List.getElem_toArray, List.getElem_cons_succ, List.getElem_cons_zero, List.setIfInBounds_toArray, List.set_cons_zero, List.set_cons_succ]
            refine wpAnyH_take (i := 9) (v := .int .i64 xa) rfl (by kernel_rfl) (by kernel_rfl) (by kernel_rfl) (fun _ _ _ h => h) (Or.inl ⟨by rfl, ?_⟩) hHeld ?_
            · intro u hu
              have a0 : u.cell? ⟨gY, 2, none⟩ = some (.int .i64 xa) := (KY.out u hu).cell 2
              go_simp
            simp only [Act.put, List.getElem_toArray, List.getElem_cons_succ, List.getElem_cons_zero, List.setIfInBounds_toArray, List.set_cons_zero, List.set_cons_succ]
            refine wpAnyH_ready (rs := [6, 11]) (by kernel_rfl) (by simp) ?_
            refine AllReadyH.cons rfl (fun K hK => ?_) (AllReadyH.cons rfl (fun K hK => ?_) AllReadyH.nil)
            · skip
              go_simp
              refine (hfo _).mono ?_
              rintro e w3 ⟨rfl, b3⟩
              replace hHeld := next hHeld b3
              clear b3
              go_simp
              refine hK.out _ _ hHeld (fun hHeld => ?_)
              clear hK K
              refine wpAnyH_ready (rs := [7, 11]) (by kernel_rfl) (by simp) ?_
              refine AllReadyH.cons rfl (fun K hK => ?_) (AllReadyH.cons rfl (fun K hK => ?_) AllReadyH.nil)
              · skip
                go_simp
                refine (hix _ hHeld).mono ?_
                rintro e w' ⟨rfl, hw⟩
                obtain rfl := hw.symm
                go_simp
                refine hK.out _ _ hHeld (fun hHeld => ?_)
                clear hK K hw
                refine wpAnyH_take (i := 10) (v := .agg #[.int .i64 (P : Int), .int .i64 xa]) rfl (by kernel_rfl) (by kernel_rfl) (by kernel_rfl) (fun _ _ _ h => h) (Or.inl ⟨by rfl, ?_⟩) hHeld ?_
                · intro u hu
                  go_simp
                simp only [Act.put, List.getElem_toArray, List.getElem_cons_succ, List.getElem_cons_zero, List.setIfInBounds_toArray, List.set_cons_zero, List.set_cons_succ]
                have hq3 := hHeld
                refine wpAnyH_ready (rs := [11]) (by kernel_rfl) (by simp) ?_
                refine AllReadyH.cons rfl (fun K hK => ?_) AllReadyH.nil
                go_simp
                refine hK.out _ _ (lay hHeld _) (fun hHeld => ?_)
                clear hK K
                refine wpAnyH_ready (rs := [12]) (by kernel_rfl) (by simp) ?_
                refine AllReadyH.cons rfl (fun K hK => ?_) AllReadyH.nil
                go_simp
                refine hK.out _ _ (lay hq3 _) (fun hHeld => ?_)
                clear hK K
                refine wpAnyH_done (by kernel_rfl) ?_ _
                go_wp2_with fail
                go_meet
                exact ⟨_, rfl, Blk.new w3 _ _, hHeld, hq3.size⟩
              · have hq3 := hHeld
                go_simp
                refine hK.out _ _ (lay hHeld _) (fun hHeld => ?_)
                clear hK K
                refine wpAnyH_ready (rs := [7]) (by kernel_rfl) (by simp) ?_
                refine AllReadyH.cons rfl (fun K hK => ?_) AllReadyH.nil
                go_simp
                refine (hix _ hHeld).mono ?_
                rintro e w' ⟨rfl, hw⟩
                obtain rfl := hw.symm
                go_simp
                refine hK.out _ _ hHeld (fun hHeld => ?_)
                clear hK K hw
                refine wpAnyH_take (i := 10) (v := .agg #[.int .i64 (P : Int), .int .i64 xa]) rfl (by kernel_rfl) (by kernel_rfl) (by kernel_rfl) (fun _ _ _ h => h) (Or.inl ⟨by rfl, ?_⟩) hHeld ?_
                · intro u hu
                  go_simp
                simp only [Act.put, List.getElem_toArray, List.getElem_cons_succ, List.getElem_cons_zero, List.setIfInBounds_toArray, List.set_cons_zero, List.set_cons_succ]
                refine wpAnyH_ready (rs := [12]) (by kernel_rfl) (by simp) ?_
                refine AllReadyH.cons rfl (fun K hK => ?_) AllReadyH.nil
                go_simp
                refine hK.out _ _ (lay hq3 _) (fun hHeld => ?_)
                clear hK K
                refine wpAnyH_done (by kernel_rfl) ?_ _
                go_wp2_with fail
                go_meet
                exact ⟨_, rfl, Blk.new w3 _ _, hHeld, hq3.size⟩
            · have hqY := Nat.le_refl Y.heap.size
              have hq : Blk (Y.drew.alloc (.cells #[.int .i64 0, .int .i64 0] 98)) Y.heap.size #[.int .i64 0, .int .i64 0] 98 := Blk.new Y.drew #[.int .i64 0, .int .i64 0] 98
              go_simp
              refine hK.out _ _ (lay hHeld _) (fun hHeld => ?_)
              clear hK K
              refine wpAnyH_ready (rs := [6]) (by kernel_rfl) (by simp) ?_
              refine AllReadyH.cons rfl (fun K hK => ?_) AllReadyH.nil
              go_simp
              refine (hfo _).mono ?_
              rintro e w3 ⟨rfl, b3⟩
              replace hHeld := next hHeld b3
              replace hq := hq.below b3
              clear b3
              go_simp
              refine hK.out _ _ hHeld (fun hHeld => ?_)
              clear hK K
              refine wpAnyH_ready (rs := [7]) (by kernel_rfl) (by simp) ?_
              refine AllReadyH.cons rfl (fun K hK => ?_) AllReadyH.nil
              go_simp
              refine (hix _ hHeld).mono ?_
              rintro e w' ⟨rfl, hw⟩
              obtain rfl := hw.symm
              go_simp
              refine hK.out _ _ hHeld (fun hHeld => ?_)
              clear hK K hw
              refine wpAnyH_take (i := 10) (v := .agg #[.int .i64 (P : Int), .int .i64 xa]) rfl (by kernel_rfl) (by kernel_rfl) (by kernel_rfl) (fun _ _ _ h => h) (Or.inl ⟨by rfl, ?_⟩) hHeld ?_
              · intro u hu
                go_simp
              simp only [Act.put, List.getElem_toArray, List.getElem_cons_succ, List.getElem_cons_zero, List.setIfInBounds_toArray, List.set_cons_zero, List.set_cons_succ]
              have z0 := hq.cell 0
              have z1 := hq.cell 1
              have z2 := hq.frozen 0
              have z3 := hq.frozen 1
              simp only [List.getElem?_toArray, List.getElem?_cons_zero, List.getElem?_cons_succ] at z0 z1
              refine wpAnyH_ready (rs := [12]) (by kernel_rfl) (by simp) ?_
              refine AllReadyH.cons rfl (fun K hK => ?_) AllReadyH.nil
              go_simp
              refine hK.out _ _ ((hHeld.setCell (p := ⟨_, 0, none⟩) hqY _).setCell (p := ⟨_, 1, none⟩) hqY _) (fun hHeld => ?_)
              clear hK K
              refine wpAnyH_done (by kernel_rfl) ?_ _
              go_wp2_with fail
              go_meet
              exact ⟨_, rfl, (hq.set 0 _).set 1 _, hHeld, hqY⟩
          case rest =>
            obtain ⟨q, rfl, HQ⟩ := hcut
            rename World => wx
            have HXN : Hid (∀ u, Below wx.heap.size wx u → NG w u ⟨g, .slice yv j cv, sv, uv, ls⟩ ⟨fdB cn, hs.map fdB, FR, now + T, (gl.take i).foldl (glAdd hs now) []⟩) := fun u hu => HYN.out u (next HQ.out.2.1 hu)
            have HXK : Hid (∀ u, Below wx.heap.size wx u → Blk u gY #[.string xc, .string xn, .int .i64 xa, .string xf, .int .i64 xu] 65) := fun u hu => KY.out u (next HQ.out.2.1 hu)
            have hwr2 : IntKind.i64.wrap (now + T2) = now + T2 := by rw [IntKind.wrap_i64]; omega
            have hdr : Below wx.heap.size wx wx.drew := (Below.refl _ _).drew
            have HLQ : Hid ((∀ k, foot ⟨g, .slice yv j cv, sv, uv, ls⟩ k → k < gY) ∧ gY < q ∧ w.heap.size < wx.drew.heap.size) := ⟨HLT.out.1, by have := HLT.out.2; have := HQ.out.2.2; omega, by
              have h1 := (HXN.out _ hdr).cut.raw.lt g (.inl (.inl rfl))
              have h2 := (HXN.out _ hdr).new g (.inl (.inl rfl))
              omega⟩
            clear KY HYN hix hfo HLT
            go_wp2
            refine wp_region_held_drew (S := fun u => Blk u q #[.int .i64 (P : Int), .int .i64 xa] 98 ∧ Blk u gY #[.string xc, .string xn, .int .i64 xa, .string xf, .int .i64 xu] 65) (by kernel_rfl) ⟨HQ.out.1.below hdr, HXK.out _ hdr⟩ (fun hHeld => ?_)
            refine wpAnyH_take (i := 0) (v := .pointer (some ⟨g, 0, none⟩)) rfl (by kernel_rfl) (by kernel_rfl) (by kernel_rfl) (fun _ _ _ h => h) (Or.inl ⟨by rfl, ?_⟩) hHeld ?_
            · intro u hu
              go_simp
            simp only [Act.put, List.getElem_toArray, List.getElem_cons_zero, List.setIfInBounds_toArray, List.set_cons_zero, List.set_cons_succ]
            refine wpAnyH_take (i := 1) (v := .agg #[.int .i64 (P : Int), .int .i64 xa]) rfl (by kernel_rfl) (by kernel_rfl) (by kernel_rfl) (fun _ _ _ h => h) (Or.inl ⟨by rfl, ?_⟩) hHeld ?_
            · intro u hu
              have a0 := hu.1.cell 0; have a1 := hu.1.cell 1; simp only [List.getElem?_toArray, List.getElem?_cons_succ, List.getElem?_cons_zero] at a0 a1; clear hu
              go_simp
            simp only [Act.put, List.getElem_toArray, List.getElem_cons_succ, List.getElem_cons_zero, List.setIfInBounds_toArray, List.set_cons_zero, List.set_cons_succ]
            refine wpAnyH_take (i := 2) (v := .int .i64 now) rfl (by kernel_rfl) (by kernel_rfl) (by kernel_rfl) (fun _ _ _ h => h) (Or.inl ⟨by rfl, ?_⟩) hHeld ?_
            · intro u hu
              go_simp
            simp only [Act.put, List.getElem_toArray, List.getElem_cons_succ, List.getElem_cons_zero, List.setIfInBounds_toArray, List.set_cons_zero, List.set_cons_succ]
            refine wpAnyH_take (i := 3) (v := .pointer (some ⟨gY, 4, none⟩)) rfl (by kernel_rfl) (by kernel_rfl) (by kernel_rfl) (fun _ _ _ h => h) (Or.inl ⟨by rfl, ?_⟩) hHeld ?_
            · intro u hu
              go_simp
            simp only [Act.put, List.getElem_toArray, List.getElem_cons_succ, List.getElem_cons_zero, List.setIfInBounds_toArray, List.set_cons_zero, List.set_cons_succ]
            refine wpAnyH_take (i := 4) (v := .int .i64 xu) rfl (by kernel_rfl) (by kernel_rfl) (by kernel_rfl) (fun _ _ _ h => h) (Or.inl ⟨by rfl, ?_⟩) hHeld ?_
            · intro u hu
              have a0 : u.cell? ⟨gY, 4, none⟩ = some (.int .i64 xu) := hu.2.cell 4; clear hu
              go_simp
            simp only [Act.put, List.getElem_toArray, List.getElem_cons_succ, List.getElem_cons_zero, List.setIfInBounds_toArray, List.set_cons_zero, List.set_cons_succ]
            refine wpAnyH_take (i := 8) (v := .int .i64 now) rfl (by kernel_rfl) (by kernel_rfl) (by kernel_rfl) (fun _ _ _ h => h) (Or.inl ⟨by rfl, ?_⟩) hHeld ?_
            · intro u hu
              go_simp
            simp only [Act.put, List.getElem_toArray, List.getElem_cons_succ, List.getElem_cons_zero, List.setIfInBounds_toArray, List.set_cons_zero, List.set_cons_succ]
            refine wpAnyH_ready (rs := [5]) (by kernel_rfl) (by simp) ?_
            refine AllReadyH.cons rfl (fun K hK => ?_) AllReadyH.nil
            go_simp
            refine (hlg _).mono ?_
            rintro e w' ⟨rfl, hw⟩
            obtain rfl := hw.symm
            go_simp
            refine hK.out _ _ hHeld (fun hHeld => ?_)
            clear hK K hw
            refine wpAnyH_take (i := 6) (v := .int .i64 (IntKind.i64.wrap (now + T2))) rfl (by kernel_rfl) (by kernel_rfl) (by kernel_rfl) (fun _ _ _ h => h) (Or.inl ⟨by rfl, ?_⟩) hHeld ?_
            · intro u hu
              go_simp
            simp only [Act.put, List.getElem_toArray, List.getElem_cons_succ, List.getElem_cons_zero, List.setIfInBounds_toArray, List.set_cons_zero, List.set_cons_succ]
            rw [hwr2]
            refine wpAnyH_take (i := 7) (v := .agg #[.int .i64 (P : Int), .int .i64 xa, .int .i64 (now + T2)]) rfl (by kernel_rfl) (by kernel_rfl) (by kernel_rfl) (fun _ _ _ h => h) (Or.inl ⟨by rfl, ?_⟩) hHeld ?_
            · intro u hu
              go_simp
            simp only [Act.put, List.getElem_toArray, List.getElem_cons_succ, List.getElem_cons_zero, List.setIfInBounds_toArray, List.set_cons_zero, List.set_cons_succ]
            refine wpAnyH_ready (rs := [9]) (by kernel_rfl) (by simp) ?_
            refine AllReadyH.cons rfl (fun K hK => ?_) AllReadyH.nil
            go_simp
            refine (learn_any (HXN.out _ hdr).cut ⟨P, xa, now + T2⟩ now hPl HLN.out).mono ?_
            rintro e w9 ⟨rfl, b9, hc9, hg9, hv9, ht9, hf9⟩
            replace hHeld : Blk w9 q #[.int .i64 (P : Int), .int .i64 xa] 98 ∧ Blk w9 gY #[.string xc, .string xn, .int .i64 xa, .string xf, .int .i64 xu] 65 := ⟨ht9.blk hHeld.1 (fun e => by have h1 := HLQ.out.1 q (.inl e); have h2 := HLQ.out.2.1; omega), ht9.blk hHeld.2 (fun e => by have h1 := HLQ.out.1 gY (.inl e); omega)⟩
            have h9 := (HXN.out _ hdr).step hc9 hv9 ht9 hf9 HLQ.out.2.2
            obtain ⟨g9, hvx, sv9, uv9, ls9⟩ := b9
            simp only at hg9 hv9
            subst hg9 hv9
            simp only [HLB.out] at h9
            have H9 : Hid _ := h9
            clear hc9 ht9 hf9 h9
            go_simp
            refine hK.out _ _ hHeld (fun hHeld => ?_)
            clear hK K
            refine wpAnyH_done (by kernel_rfl) ?_ _
            go_wp2
            go_roundw
            case rel => exact ⟨i + 1, _, _, _, by omega, by go_num, H9⟩
            case measure => simp [intOf]; omega
        · have hjn' : decide (i < NL) = false := by simpa using hjn
          have HE : Hid (NG w wr ⟨g, .slice yv j cv, sv, uv, ls⟩ (newCt ⟨cn, hs, gl, ttl⟩ fr now)) := by
            have h1 := HNG.out
            rw [show gl.take i = gl by rw [show i = gl.length by have := HNL.out; omega, List.take_length]] at h1
            unfold Hid
            rw [HNEW.out]
            exact h1
          clear HNG
          go_wp2
          go_ret
          exact ⟨⟨g, .slice yv j cv, sv, uv, ls⟩, rfl, HE.out⟩

end Cu
end Go.Proofs.YtnjgdfmldjgloaaGreat
