/- What awake of the laws of package store gives: true. -/
import Derived.Test.YtcmhjlflgedcdaaXP6
import Derived.Test.YtcmhjlflgedcdaaXP2
namespace Go.Proofs.Ytcmhjlflgedcdaa
open Go.RowKit
open Pl

def awD : List ByteArray := [⟨#[97, 98, 99, 100]⟩]
def aw1 : En := ⟨⟨#[1, 97, 0]⟩, 1, 5, awD, 3, 10⟩
def aw2 : En := ⟨⟨#[1, 98, 0]⟩, 1, 5, awD, 1, 20⟩
theorem awE1 : errP ⟨⟨#[1, 65, 0]⟩, 1, 5, awD, 3, 10⟩ 3 = 0 := by decide
theorem awP1 : putP 1 [] ⟨⟨#[1, 65, 0]⟩, 1, 5, awD, 3, 10⟩ 3 = [aw1] := by rfl
theorem awE2 : errP ⟨⟨#[1, 98, 0]⟩, 1, 5, awD, 1, 20⟩ 4 = 0 := by decide
theorem awP2 : putP 1 [aw1] ⟨⟨#[1, 98, 0]⟩, 1, 5, awD, 1, 20⟩ 4 = [aw2] := by rfl
theorem awE3 : errP ⟨⟨#[]⟩, 0, 0, [], 0, 0⟩ 4 = 1300 := by decide
theorem awP3 : putP 1 [aw2] ⟨⟨#[]⟩, 0, 0, [], 0, 0⟩ 4 = [aw2] := by rfl
theorem awG1 : getP [aw1] ⟨#[1, 97, 0]⟩ 1 4 = some aw1 := by rfl
theorem awG2 : getP [aw1] ⟨#[1, 97, 0]⟩ 1 10 = none := by rfl
theorem awA : (allP [aw2]).length = 1 := by rfl
theorem awPos1 : PosL [aw1] := fun e he => by simp at he; subst he; decide
theorem awPos2 : PosL [aw2] := fun e he => by simp at he; subst he; decide
theorem awS : ∀ d ∈ awD, d.size ≤ 140737488351232 := fun d hd => by unfold awD at hd; simp at hd; subst hd; decide
theorem row_d {w : World} {g : Nat} {d : ByteArray} (h : Blk w g #[.string d] 9) : Row w (.slice (some ⟨g, 0, none⟩) 1 1) 1 (tC [d]) := Row.of_blk h rfl 1 1

theorem get_aw1 {w : World} {gs most : Nat} {mb : Option Nat} {L : List (En × Value)} (h : St w gs most mb L) (hf : fstL L = [aw1]) :
    Calls Try.prog 18 #[.pointer (some ⟨gs, 0, none⟩), .string ⟨#[1, 97, 0]⟩, .int .i64 1, .int .i64 4] w fun e w' => ∃ g, e = .returned (.tuple #[.agg #[.string ⟨#[1, 97, 0]⟩, .int .i64 1, .int .i64 6, .slice (some ⟨g, 0, none⟩) 1 1], .int .i64 3, .int .i64 0]) ∧
      w'.ownsRow w.heap.size 9 1 (.slice (some ⟨g, 0, none⟩) 1 1) 1 (tC awD) ∧ w.heap.size ≤ g ∧ Below w.heap.size w w' :=
  by
  have e6 : wrap64 (aw1.u - 4) = 6 := by unfold wrap64; decide
  have := get_some h (by rw [hf]; exact awPos1) ⟨#[1, 97, 0]⟩ 1 4 (by decide) (by decide) aw1 (by rw [hf]; exact awG1)
  rw [e6] at this
  exact this

set_option maxRecDepth 20000 in
set_option maxHeartbeats 4000000 in
theorem awake_any (w : World) : Calls Try.prog 12 #[] w fun e w' => e = .returned (.bool true) ∧ Below w.heap.size w w' := by
  have t1 : True := trivial
  have t2 : True := trivial
  have t3 : True := trivial
  have t4 : True := trivial
  have t5 : True := trivial
  have t6 : True := trivial
  have t7 : True := trivial
  have t8 : True := trivial
  go_enter Try.func12, Try.ntmps12
  go_wp2_with (first
    | (go_at_call 9; have _t := t1; go_must (refine (new_yes 1 _ (by decide) (by decide)).mono ?_); rintro e w1 ⟨gs, rfl, s1, hg1, b1⟩; have HB1 : Hid (Below w.heap.size w w1) := b1; clear t1 b1)
    | (go_at_call 9; have _t := t2; go_must (refine (new_no 0 _ (by decide)).mono ?_); rintro e w' ⟨rfl, hw⟩; obtain rfl := hw.symm; clear t2)
    | (go_at_call 11; refine (num_any _ _).mono ?_; rintro e w' ⟨rfl, hw⟩; obtain rfl := hw.symm)
    | (go_at_call 25; have _t := t3; go_must (refine (set_any _ _ _ _).mono ?_); rintro e w2 ⟨g2, rfl, k2, hg2, b2⟩; have s2 := s1.below b2; have HB2 : Hid (Below w.heap.size w w2) := next HB1.out b2; have hp1 := put_k s2 ⟨#[1, 65, 0]⟩ 1 5 3 10 3 (.slice (some ⟨g2, 0, none⟩) 1 1) awD (by decide) (row_d k2) (by decide) awS 0 awE1 [] [aw1] rfl awP1; clear t3 b2 s1 HB1)
    | (go_at_call 14; have _t := t4; go_must (refine hp1.mono ?_); rintro e w3 ⟨rfl, mb3, L3, s3, f3, T3, ft3⟩; have HB3 : Hid (Below w.heap.size w w3) := Turn.below HB2.out T3 HB2.out.size (fun i e => by rcases e with e | e; (· rw [e]; exact hg1); (· cases e)); have HF3 : Hid (∀ k, foot gs mb3 L3 k → w.heap.size ≤ k) := (fun k hk => by rcases ft3 k hk with (e | e | ⟨p, hp, _⟩) | e; (· rw [e]; exact hg1); (· cases e); (· simp at hp); (· have := HB2.out.size; omega)); have hq1 := get_aw1 s3 f3; clear t4 hp1 s2 T3 ft3 HB2)
    | (go_at_call 18; have _t := t5; go_must (refine hq1.mono ?_); rintro e w4 ⟨g4, rfl, o4, hg4, b4⟩; have b4' := lay b4 (.cells #[.string ⟨#[1, 97, 0]⟩, .int .i64 1, .int .i64 6, .slice (some ⟨g4, 0, none⟩) 1 1] 34); have HB4 : Hid (Below w.heap.size w (w4.alloc (.cells #[.string ⟨#[1, 97, 0]⟩, .int .i64 1, .int .i64 6, .slice (some ⟨g4, 0, none⟩) 1 1] 34))) := next HB3.out b4'; have s4 := s3.below b4'; have k4 := Blk.new w4 #[.string ⟨#[1, 97, 0]⟩, .int .i64 1, .int .i64 6, .slice (some ⟨g4, 0, none⟩) 1 1] 34; have O4 := o4.alloc (.cells #[.string ⟨#[1, 97, 0]⟩, .int .i64 1, .int .i64 6, .slice (some ⟨g4, 0, none⟩) 1 1] 34); have HLT4 : Hid (∀ k, foot gs mb3 L3 k → k < w3.heap.size) := s3.lt; have hz4 := b4.size; have hq2 := get_none s4 (by rw [f3]; exact awPos1) ⟨#[1, 97, 0]⟩ 1 10 (by decide) (by decide) (by rw [f3]; exact awG2); clear t5 hq1 o4 b4 b4' s3)
    | (go_at_call 18; have _t := t6; go_must (refine hq2.mono ?_); rintro e w5 ⟨rfl, b5⟩; have b5' := lay b5 (.cells #[.string ⟨#[]⟩, .int .i64 0, .int .i64 0, .slice none 0 0] 34); have HB5 : Hid (Below w.heap.size w (w5.alloc (.cells #[.string ⟨#[]⟩, .int .i64 0, .int .i64 0, .slice none 0 0] 34))) := next HB4.out b5'; have s5 := s4.below b5'; have k5 := k4.below b5'; have O5 := own_past O4 b5'; clear t6 hq2 b5 b5' s4 k4 O4 HB4)
    | (go_at_call 25; have _t := t7; go_must (refine (set_any _ _ _ _).mono ?_); rintro e w6 ⟨g6, rfl, k6, hg6, b6⟩; have s6 := s5.below b6; have HB6 : Hid (Below w.heap.size w w6) := next HB5.out b6; have kx6 := k5.below b6; have O6 := own_past O5 b6; have h46 := kx6.lt; have h47 := (O6.lt g4 rfl).2; have hp2 := put_k s6 ⟨#[1, 98, 0]⟩ 1 5 1 20 4 (.slice (some ⟨g6, 0, none⟩) 1 1) awD (by decide) (row_d k6) (by decide) awS 0 awE2 [aw1] [aw2] f3 awP2; clear t7 b6 s5 HB5 k5 O5)
    | (go_at_call 14; have _t := t8; go_must (refine hp2.mono ?_); rintro e w7 ⟨rfl, mb7, L7, s7, f7, T7, ft7⟩; have HS7 : Hid (∀ k, (k = gs ∨ mb3 = some k) → w.heap.size ≤ k ∧ k < w3.heap.size) := (fun k e => by have h1 : foot gs mb3 L3 k := (by rcases e with e | e; (· exact .inl e); (· exact .inr (.inl e))); exact ⟨HF3.out k h1, HLT4.out k h1⟩); have HB7 : Hid (Below w.heap.size w w7) := Turn.below HB6.out T7 HB6.out.size (fun i e => (HS7.out i e).1); have kx7 := T7.blk kx6 (fun e => by have := HS7.out _ e; omega); have O7 := T7.row O6 (fun k hk e => by simp [Value.ownBlock] at hk; have := HS7.out _ e; omega); have HF7 : Hid (∀ k, foot gs mb7 L7 k → w.heap.size ≤ k ∧ (k < w3.heap.size ∨ w6.heap.size ≤ k)) := (fun k hk => by rcases ft7 k hk with e | e; (· exact ⟨HF3.out k e, .inl (HLT4.out k e)⟩); (· exact ⟨by have := HB6.out.size; omega, .inr e⟩)); have hp3 := put_k s7 ⟨#[]⟩ 0 0 0 0 4 (.slice none 0 0) [] (by decide) (Row.nil _ _) (by decide) (fun d hd => by simp at hd) 1300 awE3 [aw2] [aw2] f7 awP3; clear t8 hp2 s6 T7 ft7 HB6 kx6 O6 HF3 HLT4 HS7)
    | (go_at_call 14; go_must (refine hp3.mono ?_); rintro e w8 ⟨rfl, mb8, L8, s8, f8, T8, ft8⟩; have HS8 : Hid (∀ k, (k = gs ∨ mb7 = some k) → w.heap.size ≤ k ∧ (k < w3.heap.size ∨ w6.heap.size ≤ k)) := (fun k e => HF7.out k (by rcases e with e | e; (· exact .inl e); (· exact .inr (.inl e)))); have HB8 : Hid (Below w.heap.size w w8) := Turn.below HB7.out T8 HB7.out.size (fun i e => (HS8.out i e).1); have kx8 := T8.blk kx7 (fun e => by have := HS8.out _ e; omega); have O8 := T8.row O7 (fun k hk e => by simp [Value.ownBlock] at hk; have := HS8.out _ e; omega); clear hp3; have x0 := kx8.cell 0; have x1 := kx8.cell 1; have x2 := kx8.cell 2; have x3 := kx8.cell 3; simp only [List.getElem?_toArray, List.getElem?_cons_succ, List.getElem?_cons_zero] at x0 x1 x2 x3)
    | (go_at_call 20; go_must (refine (sameS_any ⟨#[1, 97, 0]⟩ 1 6 (.slice (some ⟨g4, 0, none⟩) 1 1) awD ⟨#[1, 97, 0]⟩ 1 6 (.slice (some ⟨w8.heap.size, 0, none⟩) 1 1) awD _ (Row.of_own (O8.alloc _)) (row_d (Blk.new w8 _ _)) (by decide) (by decide) true (by decide)).mono ?_); rintro e w9 ⟨rfl, b9⟩; have b9' := next ((Below.refl w8.heap.size w8).alloc (Nat.le_refl _) (.cells #[.string ⟨#[97, 98, 99, 100]⟩] 9)) b9; have HB9 : Hid (Below w.heap.size w w9) := next HB8.out b9'; have hal := all_any (s8.below b9') (by have := awPos2; rw [← f8] at this; exact this.pairs); clear b9 b9')
    | (go_at_call 22; go_must (refine hal.mono ?_); rintro e w10 ⟨v10, M10, rfl, es10, hf10, b10⟩; obtain ⟨y10, c10, rfl⟩ := row_shape es10.own; have hl10 : M10.length = 1 := (by rw [← fst_len, hf10, f8]; rfl); rw [hl10]; have HB10 : Hid (Below w.heap.size w w10) := next HB9.out b10; clear es10 hf10 b10))
  go_ret
  exact ⟨rfl, HB10.out⟩

end Go.Proofs.Ytcmhjlflgedcdaa

/- A store that a law made, and what else the law holds. -/
namespace Go.Proofs.Ytcmhjlflgedcdaa
open Go.RowKit
open Pl

structure LW (w0 w : World) (gs most : Nat) (mb : Option Nat) (L : List (En × Value)) (F : List En) : Prop where
  st : St w gs most mb L
  fs : fstL L = F
  pos : PosL F
  bel : Below w0.heap.size w0 w
  new : ∀ k, foot gs mb L k → w0.heap.size ≤ k
theorem LW.below {w0 w w' : World} {gs most : Nat} {mb : Option Nat} {L : List (En × Value)} {F : List En} (h : LW w0 w gs most mb L F) (hb : Below w.heap.size w w') : LW w0 w' gs most mb L F := ⟨h.st.below hb, h.fs, h.pos, next h.bel hb, h.new⟩
/-- Another block of the law's own is written. -/
theorem LW.own {w0 w w' : World} {gs most : Nat} {mb : Option Nat} {L : List (En × Value)} {F : List En} {g : Nat} (h : LW w0 w gs most mb L F) (ht : Turn (fun k => k = g) w w') (hg : w0.heap.size ≤ g) (hn : ¬ foot gs mb L g) : LW w0 w' gs most mb L F :=
  ⟨h.st.turn ht (fun k hk e => hn (by rw [← e]; exact hk)), h.fs, h.pos, ht.one_below h.bel hg, h.new⟩
theorem lw_new {w0 w : World} (hb : Below w0.heap.size w0 w) (m : Nat) (h1 : 1 ≤ m) (h2 : m ≤ 256) : Calls Try.prog 9 #[.int .i64 (m : Int)] w fun e w' => ∃ gs, e = .returned (.tuple #[.pointer (some ⟨gs, 0, none⟩), .int .i64 0]) ∧ LW w0 w' gs m none [] [] := by
  refine (new_yes m w h1 h2).mono ?_
  rintro e w' ⟨gs, rfl, s, hg, b⟩
  refine ⟨gs, rfl, s, rfl, fun e he => by simp at he, next hb b, ?_⟩
  rintro k (e | e | ⟨p, hp, _⟩)
  · have := hb.size; omega
  · cases e
  · simp at hp
theorem lw_put {w0 w : World} {gs most : Nat} {mb : Option Nat} {L : List (En × Value)} {F : List En} (h : LW w0 w gs most mb L F) (n : ByteArray) (t l r u now : Int) (v : Value) (ds : List ByteArray) (hn : n.size ≤ maxLen) (hr : Row w v ds.length (tC ds)) (hl : ds.length ≤ 8796093022000) (hs : ∀ d ∈ ds, d.size ≤ 140737488351232)
    (x : Int) (hx : errP ⟨n, t, l, ds, r, u⟩ now = x) (F' : List En) (hF : putP most F ⟨n, t, l, ds, r, u⟩ now = F') :
    Calls Try.prog 14 #[.pointer (some ⟨gs, 0, none⟩), .agg #[.string n, .int .i64 t, .int .i64 l, v, .int .i64 r, .int .i64 u], .int .i64 now] w fun e w' => e = .returned (.int .i64 x) ∧
      ∃ mb' L', LW w0 w' gs most mb' L' F' ∧ Turn (foot gs mb L) w w' ∧ (∀ k, foot gs mb' L' k → foot gs mb L k ∨ w.heap.size ≤ k) := by
  refine (put_k h.st n t l r u now v ds hn hr hl hs x hx F F' h.fs hF).mono ?_
  rintro e w' ⟨he, mb', L', s, f, T, ft⟩
  have T2 : Turn (foot gs mb L) w w' := T.more (fun k e => by rcases e with e | e; (· exact .inl e); (· exact .inr (.inl e)))
  refine ⟨he, mb', L', ⟨s, f, by rw [← hF]; exact put_pos h.pos, Turn.below h.bel T2 h.bel.size (fun i hi => h.new i hi), fun k hk => ?_⟩, T2, ft⟩
  rcases ft k hk with e | e
  · exact h.new k e
  · have := h.bel.size; omega
theorem LW.all {w0 w : World} {gs most : Nat} {mb : Option Nat} {L : List (En × Value)} {F : List En} (h : LW w0 w gs most mb L F) (N : Nat) (hN : F.length = N) : Calls Try.prog 22 #[.pointer (some ⟨gs, 0, none⟩)] w fun e w' => ∃ y c M, e = .returned (.slice y N c) ∧ ES w.heap.size w' (.slice y N c) M ∧ fstL M = allP F ∧ M.length = N ∧ LW w0 w' gs most mb L F ∧ Below w.heap.size w w' := by
  refine (all_any h.st (by have := h.pos; rw [← h.fs] at this; exact this.pairs)).mono ?_
  rintro e w' ⟨v, M, rfl, es, hf, b⟩
  have hl : M.length = N := by rw [← fst_len, hf, h.fs, all_len, hN]
  obtain ⟨y, c, rfl⟩ := row_shape es.own
  rw [hl] at es ⊢
  exact ⟨y, c, M, rfl, es, by rw [hf, h.fs], hl, h.below b, b⟩
theorem LW.get_none {w0 w : World} {gs most : Nat} {mb : Option Nat} {L : List (En × Value)} {F : List En} (h : LW w0 w gs most mb L F) (n : ByteArray) (t now : Int) (hn : n.size ≤ maxLen) (ht : (Lit.int .i64 t).wf = true) (hg : getP F n t now = none) :
    Calls Try.prog 18 #[.pointer (some ⟨gs, 0, none⟩), .string n, .int .i64 t, .int .i64 now] w fun e w' => e = .returned (.tuple #[.agg #[.string ⟨#[]⟩, .int .i64 0, .int .i64 0, .slice none 0 0], .int .i64 0, .int .i64 1301]) ∧ Below w.heap.size w w' :=
  Go.Proofs.Ytcmhjlflgedcdaa.get_none h.st (by rw [h.fs]; exact h.pos) n t now hn ht (by rw [h.fs]; exact hg)
theorem LW.get_some {w0 w : World} {gs most : Nat} {mb : Option Nat} {L : List (En × Value)} {F : List En} (h : LW w0 w gs most mb L F) (n : ByteArray) (t now : Int) (hn : n.size ≤ maxLen) (ht : (Lit.int .i64 t).wf = true) (p : En) (hg : getP F n t now = some p) :
    Calls Try.prog 18 #[.pointer (some ⟨gs, 0, none⟩), .string n, .int .i64 t, .int .i64 now] w fun e w' => ∃ g, e = .returned (.tuple #[.agg #[.string p.n, .int .i64 p.t, .int .i64 (wrap64 (p.u - now)), .slice (some ⟨g, 0, none⟩) p.ds.length p.ds.length], .int .i64 p.r, .int .i64 0]) ∧
      w'.ownsRow w.heap.size 9 1 (.slice (some ⟨g, 0, none⟩) p.ds.length p.ds.length) p.ds.length (tC p.ds) ∧ w.heap.size ≤ g ∧ Below w.heap.size w w' :=
  Go.Proofs.Ytcmhjlflgedcdaa.get_some h.st (by rw [h.fs]; exact h.pos) n t now hn ht p (by rw [h.fs]; exact hg)
/-- Names that may be, as they are held. -/
theorem fd_name {n : ByteArray} (h : isName n.data.toList = true) : isName (fdB n).data.toList = true ∧ foldL (fdB n).data.toList = (fdB n).data.toList ∧ fdB (fdB n) = fdB n := by
  have e1 : foldR n.data.toList = foldL n.data.toList := by unfold foldR; rw [if_pos h]
  have h1 : isName (fdB n).data.toList = true := by rw [fdB_list, e1, name_fold]; exact h
  have h2 : foldL (fdB n).data.toList = (fdB n).data.toList := by rw [fdB_list, e1, fold_twice]
  refine ⟨h1, h2, bytes_ext ?_⟩
  rw [fdB_list]
  unfold foldR
  rw [if_pos h1, h2]

end Go.Proofs.Ytcmhjlflgedcdaa

/- s[:k] and s[k:] of a row of the call's own, as rows: the result a letter. -/
namespace Go.Proofs.Ytcmhjlflgedcdaa
open Go.RowKit
open Pl

theorem elem_of {t e : TypeId} (h : Try.prog.underlying t = some (.slice e)) : Try.prog.underlying t = some (.slice (Try.prog.elem t)) := by
  rw [h]; simp [Program.elem, h]
theorem elem_is {t e : TypeId} (h : Try.prog.underlying t = some (.slice e)) : Try.prog.elem t = e := by simp [Program.elem, h]
theorem run_sliceTo {w : World} {t e : TypeId} {base size n k : Nat} {v : Value} {xs : List Value} (hu : Try.prog.underlying t = some (.slice e)) (hz : (sizeOf e).run Try.prog w = .ok size w) (hown : w.ownsRow base e size v n xs) (hk : k ≤ n) :
    ∃ v', (Instr.sliceAt t v none (some (.int .i64 (k : Int))) none).run Try.prog w = .ok v' w ∧ Row w v' k (xs.take (k * size)) := by
  rcases hown.2 with ⟨rfl, h0⟩ | ⟨g, cap, cur, rfl, hb, hg, hnc, hr⟩
  · have hk0 : k = 0 := by omega
    subst hk0
    refine ⟨.slice none 0 0, ?_, Row.nil _ _⟩
    rw [run_sliceAt_slice w t _ _ _ _ (elem_of hu), run_slice_h w t none 0 0 (elem_of hu) .i64 _ (by omega) (by omega), elem_is hu, hz]
    simp [Result.andThen, sliced]
  · refine ⟨.slice (some ⟨g, 0, none⟩) k cap, ?_, .inr ⟨g, 0, none, cap, rfl, fun _ => rfl, fun j u hj => ?_⟩⟩
    · rw [run_sliceAt_slice w t _ _ _ _ (elem_of hu), run_slice_h w t _ n cap (elem_of hu) .i64 _ (by omega) (by omega), elem_is hu, hz]
      simp [Result.andThen, sliced, Addr.add]
    · have h1 := (List.getElem?_eq_some_iff.1 hj).1
      rw [List.length_take] at h1
      have h2 : k * size ≤ n * size := Nat.mul_le_mul_right _ hk
      rw [Nat.zero_add, hown.cellAt j (by omega), ← hj, List.getElem?_take_of_lt (by omega)]
theorem run_sliceFrom {w : World} {t e : TypeId} {base size n k : Nat} {v : Value} {xs : List Value} (hu : Try.prog.underlying t = some (.slice e)) (hz : (sizeOf e).run Try.prog w = .ok size w) (hown : w.ownsRow base e size v n xs) (hk : k ≤ n) :
    ∃ v', (Instr.sliceAt t v (some (.int .i64 (k : Int))) none none).run Try.prog w = .ok v' w ∧ Row w v' (n - k) (xs.drop (k * size)) := by
  have hlen := hown.1
  rcases hown.2 with ⟨rfl, h0⟩ | ⟨g, cap, cur, rfl, hb, hg, hnc, hr⟩
  · have hk0 : k = 0 := by omega
    subst hk0
    subst h0
    refine ⟨.slice none 0 0, ?_, Row.nil _ _⟩
    rw [run_sliceAt_slice w t _ _ _ _ (elem_of hu), run_slice_l w t none 0 0 (elem_of hu) .i64 _ (by omega) (by omega), elem_is hu, hz]
    simp [Result.andThen, sliced]
  · refine ⟨.slice (if cap = k then some ⟨g, 0, none⟩ else some ⟨g, k * size, none⟩) (n - k) (cap - k), ?_, ?_⟩
    · rw [run_sliceAt_slice w t _ _ _ _ (elem_of hu), run_slice_l w t _ n cap (elem_of hu) .i64 _ (by omega) (by omega), elem_is hu, hz]
      simp [Result.andThen, sliced, Addr.add]
      split
      · rfl
      · split <;> simp_all
    · by_cases hc : cap = k
      · rw [if_pos hc]
        refine .inr ⟨g, 0, none, cap - k, rfl, fun _ => rfl, fun j u hj => ?_⟩
        have hnk : n = k := by omega
        rw [List.drop_of_length_le (by rw [hlen, hnk]; exact Nat.le_refl _)] at hj
        simp at hj
      · rw [if_neg hc]
        refine .inr ⟨g, k * size, none, cap - k, rfl, fun _ => rfl, fun j u hj => ?_⟩
        have h1 := (List.getElem?_eq_some_iff.1 hj).1
        rw [List.length_drop, hlen] at h1
        rw [hown.cellAt (k * size + j) (by omega), ← hj, List.getElem?_drop]
theorem wpList_sliceTo (w : World) {ops : Array Oper} {rest : List Oper} {o : Oper} {a : Act} {Q : Exit → Act → World → Prop} (hgd : o.guard = none) (s x : Operand) (t e : TypeId) (base size : Nat) (hu : Try.prog.underlying t = some (.slice e)) (hz : (sizeOf e).run Try.prog w = .ok size w)
    (ho : o.op = .slice t s none (some x) none) (v : Value) (n k : Nat) (xs : List Value) (hs : a.eval s = v) (hx : a.eval x = .int .i64 (k : Int)) (hown : w.ownsRow base e size v n xs) (hk : k ≤ n)
    (h : ∀ v', Row w v' k (xs.take (k * size)) → wpList Try.prog ops Q rest (a.put o.dst v') w) : wpList Try.prog ops Q (o :: rest) a w := by
  obtain ⟨v', hr, hrow⟩ := run_sliceTo hu hz hown hk
  refine wpList_plain hgd fun K hK => ?_
  unfold Oper.wp
  simp only [execOp, ho, hs, hx, Option.map, Sem.run_bind, hr, Result.andThen_ok, Sem.run_pure]
  exact hK _ _ (h v' hrow)
theorem wpList_sliceFrom (w : World) {ops : Array Oper} {rest : List Oper} {o : Oper} {a : Act} {Q : Exit → Act → World → Prop} (hgd : o.guard = none) (s x : Operand) (t e : TypeId) (base size : Nat) (hu : Try.prog.underlying t = some (.slice e)) (hz : (sizeOf e).run Try.prog w = .ok size w)
    (ho : o.op = .slice t s (some x) none none) (v : Value) (n k : Nat) (xs : List Value) (hs : a.eval s = v) (hx : a.eval x = .int .i64 (k : Int)) (hown : w.ownsRow base e size v n xs) (hk : k ≤ n)
    (h : ∀ v', Row w v' (n - k) (xs.drop (k * size)) → wpList Try.prog ops Q rest (a.put o.dst v') w) : wpList Try.prog ops Q (o :: rest) a w := by
  obtain ⟨v', hr, hrow⟩ := run_sliceFrom hu hz hown hk
  refine wpList_plain hgd fun K hK => ?_
  unfold Oper.wp
  simp only [execOp, ho, hs, hx, Option.map, Sem.run_bind, hr, Result.andThen_ok, Sem.run_pure]
  exact hK _ _ (h v' hrow)

end Go.Proofs.Ytcmhjlflgedcdaa

/- The document's store as it lies in memory; before, NewStore, and what Put refuses. -/
namespace Go.Proofs.Ytcmhjlflgedcdaa
open Go.RowKit
open Pl

theorem before_any (a b : ByteArray) (t u : Int) (w : World) (ha : a.size ≤ maxLen) (hb : b.size ≤ maxLen) (x : Bool) (hx : decide (cK a t b u < 0) = x) :
    Calls Try.prog 37 #[.string a, .int .i64 t, .string b, .int .i64 u] w fun e w' => e = .returned (.bool x) ∧ Below w.heap.size w w' := by
  have HX : Hid (decide (cmpN a.data.toList b.data.toList < 0 ∨ cmpN a.data.toList b.data.toList = 0 ∧ t < u) = x) := by
    unfold Hid
    rw [← hx, decide_eq_decide]
    exact cK_neg.symm
  have hc := fun v => refCompare_any a b v ha hb
  generalize cmpN a.data.toList b.data.toList = k at hc HX
  clear hx
  by_cases h1 : k < 0
  · have hx : x = true := by rw [← HX.out, decide_eq_true_eq]; exact .inl h1
    subst hx
    go_enter Try.func37, Try.ntmps37
    go_wp2_with (go_at_call 29; go_must (refine (hc _).mono ?_); rintro e w1 ⟨rfl, b1⟩)
    go_ret
    exact ⟨rfl, b1⟩
  · have h1' : decide (k < 0) = false := by simpa using h1
    by_cases h2 : k = 0
    · subst h2
      have hx : decide (t < u) = x := by rw [← HX.out]; simp
      clear HX h1
      subst hx
      go_enter Try.func37, Try.ntmps37
      go_wp2_with (go_at_call 29; go_must (refine (hc _).mono ?_); rintro e w1 ⟨rfl, b1⟩)
      go_ret
      exact ⟨rfl, b1⟩
    · have h2' : (k == 0) = false := by simpa using h2
      have hx : x = false := by rw [← HX.out, decide_eq_false_iff_not]; omega
      subst hx
      go_enter Try.func37, Try.ntmps37
      go_wp2_with (go_at_call 29; go_must (refine (hc _).mono ?_); rintro e w1 ⟨rfl, b1⟩)
      go_ret
      exact ⟨rfl, b1⟩

/-- The document's store. -/
structure RS (B : Nat) (w : World) (gr most : Nat) (V : Value) (M : List (En × Value)) : Prop where
  blk : Blk w gr #[.int .i64 most, V] 70
  es : ES B w V M
  len : M.length ≤ most
  m1 : 1 ≤ most
  m2 : most ≤ 256
  ok : ∀ p ∈ M, OkE p.1
theorem RS.below {B : Nat} {w w' : World} {gr most : Nat} {V : Value} {M : List (En × Value)} (h : RS B w gr most V M) (hb : Below w.heap.size w w') : RS B w' gr most V M := ⟨h.blk.below hb, h.es.below hb, h.len, h.m1, h.m2, h.ok⟩
theorem rnew_no (m : Int) (w : World) (h : m < 1 ∨ 256 < m) : Calls Try.prog 10 #[.int .i64 m] w fun e w' => e = .returned (.tuple #[.pointer none, .int .i64 1300]) ∧ w' = w := by
  by_cases h1 : m < 1
  · go_enter Try.func10, Try.ntmps10
    go_wp2
    go_ret2
    exact ⟨rfl, rfl⟩
  · have h1' : decide (m < 1) = false := by simpa using h1
    have h2 : 256 < m := by omega
    go_enter Try.func10, Try.ntmps10
    go_wp2
    go_ret2
    exact ⟨rfl, rfl⟩
theorem rnew_yes (m B : Nat) (w : World) (h1 : 1 ≤ m) (h2 : m ≤ 256) (hB : B ≤ w.heap.size) : Calls Try.prog 10 #[.int .i64 (m : Int)] w fun e w' => ∃ gr, e = .returned (.tuple #[.pointer (some ⟨gr, 0, none⟩), .int .i64 0]) ∧ RS B w' gr m (.slice none 0 0) [] ∧ w.heap.size ≤ gr ∧ Below w.heap.size w w' := by
  have h1' : decide ((m : Int) < 1) = false := by simp; omega
  have h2' : decide ((256 : Int) < (m : Int)) = false := by simp; omega
  have _ := hB
  go_enter Try.func10, Try.ntmps10
  go_wp2
  go_ret2
  exact ⟨_, rfl, ⟨Blk.new w _ _, ⟨World.ownsRow_nil _ _ _ _, fun p hp => by simp at hp⟩, Nat.zero_le _, h1, h2, fun p hp => by simp at hp⟩, Nat.le_refl _, lay (Below.refl _ _) _⟩

set_option maxRecDepth 20000 in
set_option maxHeartbeats 4000000 in
/-- What Put does not take. -/
theorem rput_no (n : ByteArray) (t l r u now : Int) (y : Option Addr) (c N gr : Nat) (ds : List ByteArray) (w : World) (hn : n.size ≤ maxLen) (hN : N = ds.length) (hm : mayE ⟨n, t, l, ds, r, u⟩ now = false) :
    Calls Try.prog 15 #[.pointer (some ⟨gr, 0, none⟩), .agg #[.string n, .int .i64 t, .int .i64 l, .slice y N c, .int .i64 r, .int .i64 u], .int .i64 now] w fun e w' => e = .returned (.int .i64 1300) ∧ Below w.heap.size w w' := by
  have hds : decide (ds ≠ []) = decide (¬ N = 0) := by rw [hN]; cases ds <;> simp
  have HB : Hid ((isName n.data.toList && decide (1 ≤ t) && decide (t ≤ 65535) && decide (¬ N = 0) && decide (1 ≤ r) && decide (r ≤ 3) && decide (now < u) && decide (0 ≤ now) && decide (now ≤ 1099511627776)) = false) := by
    unfold mayE at hm
    rw [hds] at hm
    exact hm
  clear hm hds hN
  have hb0 : Below w.heap.size w ((w.alloc (.cells #[.string n, .int .i64 t, .int .i64 l, .slice y N c, .int .i64 r, .int .i64 u] 36)).alloc (.cells #[.string n, .int .i64 t, .int .i64 l, .slice y N c] 34)) := lay (lay (Below.refl _ _) _) _
  have k4 := (Blk.new w #[.string n, .int .i64 t, .int .i64 l, .slice y N c, .int .i64 r, .int .i64 u] 36).alloc (.cells #[.string n, .int .i64 t, .int .i64 l, .slice y N c] 34)
  have k7 := Blk.new (w.alloc (.cells #[.string n, .int .i64 t, .int .i64 l, .slice y N c, .int .i64 r, .int .i64 u] 36)) #[.string n, .int .i64 t, .int .i64 l, .slice y N c] 34
  rw [World.size_alloc] at k7
  have hmay := fun v => refMay_any n v hn
  cases h0 : isName n.data.toList with
  | false =>
    rw [h0] at hmay
    go_enter Try.func15, Try.ntmps15
    go_wp2_with (go_at_call 24; go_must (refine (hmay _).mono ?_); rintro e w1 ⟨rfl, b1⟩; have K4 := k4.below b1; have K7 := k7.below b1; have B1 := next hb0 b1; have x4 := K4.cell 4; have x5 := K4.cell 5; have z1 := K7.cell 1; have z3 := K7.cell 3; simp only [List.getElem?_toArray, List.getElem?_cons_succ, List.getElem?_cons_zero] at x4 x5 z1 z3; clear K4 K7 b1)
    go_ret
    exact ⟨rfl, B1⟩
  | true =>
    rw [h0] at hmay HB
    clear h0
    by_cases cd0 : t < 1
    · have _h := cd0
      go_enter Try.func15, Try.ntmps15
      go_wp2_with (go_at_call 24; go_must (refine (hmay _).mono ?_); rintro e w1 ⟨rfl, b1⟩; have K4 := k4.below b1; have K7 := k7.below b1; have B1 := next hb0 b1; have x4 := K4.cell 4; have x5 := K4.cell 5; have z1 := K7.cell 1; have z3 := K7.cell 3; simp only [List.getElem?_toArray, List.getElem?_cons_succ, List.getElem?_cons_zero] at x4 x5 z1 z3; clear K4 K7 b1)
      go_ret
      exact ⟨rfl, B1⟩
    · have d0 : decide (t < 1) = false := by simp; omega
      by_cases cd1 : 65535 < t
      · have _h := cd1
        go_enter Try.func15, Try.ntmps15
        go_wp2_with (go_at_call 24; go_must (refine (hmay _).mono ?_); rintro e w1 ⟨rfl, b1⟩; have K4 := k4.below b1; have K7 := k7.below b1; have B1 := next hb0 b1; have x4 := K4.cell 4; have x5 := K4.cell 5; have z1 := K7.cell 1; have z3 := K7.cell 3; simp only [List.getElem?_toArray, List.getElem?_cons_succ, List.getElem?_cons_zero] at x4 x5 z1 z3; clear K4 K7 b1)
        go_ret
        exact ⟨rfl, B1⟩
      · have d1 : decide (65535 < t) = false := by simp; omega
        by_cases cd2 : N = 0
        · subst cd2
          go_enter Try.func15, Try.ntmps15
          go_wp2_with (go_at_call 24; go_must (refine (hmay _).mono ?_); rintro e w1 ⟨rfl, b1⟩; have K4 := k4.below b1; have K7 := k7.below b1; have B1 := next hb0 b1; have x4 := K4.cell 4; have x5 := K4.cell 5; have z1 := K7.cell 1; have z3 := K7.cell 3; simp only [List.getElem?_toArray, List.getElem?_cons_succ, List.getElem?_cons_zero] at x4 x5 z1 z3; clear K4 K7 b1)
          go_ret
          exact ⟨rfl, B1⟩
        · have d2 : ((N : Int) == 0) = false := by simp; omega
          by_cases cd3 : r < 1
          · have _h := cd3
            go_enter Try.func15, Try.ntmps15
            go_wp2_with (go_at_call 24; go_must (refine (hmay _).mono ?_); rintro e w1 ⟨rfl, b1⟩; have K4 := k4.below b1; have K7 := k7.below b1; have B1 := next hb0 b1; have x4 := K4.cell 4; have x5 := K4.cell 5; have z1 := K7.cell 1; have z3 := K7.cell 3; simp only [List.getElem?_toArray, List.getElem?_cons_succ, List.getElem?_cons_zero] at x4 x5 z1 z3; clear K4 K7 b1)
            go_ret
            exact ⟨rfl, B1⟩
          · have d3 : decide (r < 1) = false := by simp; omega
            by_cases cd4 : 3 < r
            · have _h := cd4
              go_enter Try.func15, Try.ntmps15
              go_wp2_with (go_at_call 24; go_must (refine (hmay _).mono ?_); rintro e w1 ⟨rfl, b1⟩; have K4 := k4.below b1; have K7 := k7.below b1; have B1 := next hb0 b1; have x4 := K4.cell 4; have x5 := K4.cell 5; have z1 := K7.cell 1; have z3 := K7.cell 3; simp only [List.getElem?_toArray, List.getElem?_cons_succ, List.getElem?_cons_zero] at x4 x5 z1 z3; clear K4 K7 b1)
              go_ret
              exact ⟨rfl, B1⟩
            · have d4 : decide (3 < r) = false := by simp; omega
              by_cases cd5 : u ≤ now
              · have _h := cd5
                go_enter Try.func15, Try.ntmps15
                go_wp2_with (go_at_call 24; go_must (refine (hmay _).mono ?_); rintro e w1 ⟨rfl, b1⟩; have K4 := k4.below b1; have K7 := k7.below b1; have B1 := next hb0 b1; have x4 := K4.cell 4; have x5 := K4.cell 5; have z1 := K7.cell 1; have z3 := K7.cell 3; simp only [List.getElem?_toArray, List.getElem?_cons_succ, List.getElem?_cons_zero] at x4 x5 z1 z3; clear K4 K7 b1)
                go_ret
                exact ⟨rfl, B1⟩
              · have d5 : decide (u ≤ now) = false := by simp; omega
                by_cases cd6 : now < 0
                · have _h := cd6
                  go_enter Try.func15, Try.ntmps15
                  go_wp2_with (go_at_call 24; go_must (refine (hmay _).mono ?_); rintro e w1 ⟨rfl, b1⟩; have K4 := k4.below b1; have K7 := k7.below b1; have B1 := next hb0 b1; have x4 := K4.cell 4; have x5 := K4.cell 5; have z1 := K7.cell 1; have z3 := K7.cell 3; simp only [List.getElem?_toArray, List.getElem?_cons_succ, List.getElem?_cons_zero] at x4 x5 z1 z3; clear K4 K7 b1)
                  go_ret
                  exact ⟨rfl, B1⟩
                · have d6 : decide (now < 0) = false := by simp; omega
                  have d7 : 1099511627776 < now := by
                    have h := HB.out
                    simp at h
                    omega
                  go_enter Try.func15, Try.ntmps15
                  go_wp2_with (go_at_call 24; go_must (refine (hmay _).mono ?_); rintro e w1 ⟨rfl, b1⟩; have K4 := k4.below b1; have K7 := k7.below b1; have B1 := next hb0 b1; have x4 := K4.cell 4; have x5 := K4.cell 5; have z1 := K7.cell 1; have z3 := K7.cell 3; simp only [List.getElem?_toArray, List.getElem?_cons_succ, List.getElem?_cons_zero] at x4 x5 z1 z3; clear K4 K7 b1)
                  go_ret
                  exact ⟨rfl, B1⟩

end Go.Proofs.Ytcmhjlflgedcdaa
