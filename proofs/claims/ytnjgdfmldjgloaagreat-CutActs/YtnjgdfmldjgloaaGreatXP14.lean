/- A Cuts that a law made; what awake of the laws of package cuts gives. -/
import Derived.Test.YtnjgdfmldjgloaaGreatXP13
namespace Go.Proofs.YtnjgdfmldjgloaaGreat
open Go.RowKit
open Pl
namespace Cu

/-- What is told of cuts, plainly. -/
def liveF (F : List Ct) (n : ByteArray) (now : Int) : Option Ct := match F.find? (fun c => decide (c.n = n)) with | some c => if now < c.u then some c else none | none => none
def hostsF (Hs : List ByteArray) (F : List Ct) (cn : ByteArray) (now : Int) : List ByteArray := if fdB cn = rootB then Hs else match liveF F (fdB cn) now with | some c => c.hs | none => []
def bindF (Hb : List Bn) (F : List Ct) (cn : ByteArray) (now : Int) : List Bn := if fdB cn = rootB then Hb else match liveF F (fdB cn) now with | some c => (liveB now c.bs).map (tellB (fdB cn) c) | none => []
def lvF (F : List Ct) (f : ByteArray) (now : Int) (k : Nat) : Bool := (liveF F (lastB f k) now).isSome
def deepF (F : List Ct) (n : ByteArray) (now : Int) : ByteArray := if isName n.data.toList then lastB (fdB n) (deepK (lvF F (fdB n) now) (labs (fdB n).data.toList).length) else rootB
theorem find_fst (L : List Pr) (n : ByteArray) : (fstC L).find? (fun c => decide (c.n = n)) = (atL L n).map Prod.fst := by
  unfold fstC atL
  induction L with
  | nil => rfl
  | cons p L ih =>
    rw [List.map_cons, List.find?_cons, List.find?_cons]
    show (match sameP n p with | true => some p.1 | false => _) = _
    cases sameP n p with
    | true => rfl
    | false => exact ih
theorem live_fst (L : List Pr) (n : ByteArray) (now : Int) : liveF (fstC L) n now = (liveAt L n now).map Prod.fst := by
  unfold liveF liveAt
  rw [find_fst]
  cases atL L n with
  | none => rfl
  | some p =>
    simp only [Option.map_some]
    split <;> rfl
theorem hosts_fst (Hs : List ByteArray) (L : List Pr) (cn : ByteArray) (now : Int) : hostsP Hs L cn now = hostsF Hs (fstC L) cn now := by
  unfold hostsP hostsF
  rw [live_fst]
  cases liveAt L (fdB cn) now <;> rfl
theorem bind_fst (Hb : List Bn) (L : List Pr) (cn : ByteArray) (now : Int) : bindP Hb L cn now = bindF Hb (fstC L) cn now := by
  unfold bindP bindF
  rw [live_fst]
  cases liveAt L (fdB cn) now <;> rfl
theorem deep_fst (L : List Pr) (n : ByteArray) (now : Int) : deepP L n now = deepF (fstC L) n now := by
  have e : lvOf L (fdB n) now = lvF (fstC L) (fdB n) now := by
    funext k
    unfold lvOf lvF
    rw [live_fst]
    cases liveAt L (lastB (fdB n) k) now <;> rfl
  unfold deepP deepF
  rw [e]

/-- A Cuts that a law made, beside blocks of the law's own (M). -/
structure LW (w0 w : World) (o : OB) (Hs : List ByteArray) (Hb : List Bn) (F : List Ct) (M : Nat → Prop) : Prop where
  ex : ∃ L, St w o Hs Hb L ∧ fstC L = F ∧ ∀ k, ofoot o L k → w0.heap.size ≤ k ∧ ¬ M k
  bel : Below w0.heap.size w0 w
  mb : ∃ b, o.mb = some b
  mlt : ∀ k, M k → w0.heap.size ≤ k ∧ k < w.heap.size
/-- What a call may turn. -/
def Far (w0 : World) (M : Nat → Prop) (k : Nat) : Prop := w0.heap.size ≤ k ∧ ¬ M k
theorem LW.below {w0 w w' : World} {o : OB} {Hs : List ByteArray} {Hb : List Bn} {F : List Ct} {M : Nat → Prop} (h : LW w0 w o Hs Hb F M) (hb : Below w.heap.size w w') : LW w0 w' o Hs Hb F M := by
  obtain ⟨L, hs, hf, hn⟩ := h.ex
  exact ⟨⟨L, hs.below hb, hf, hn⟩, next h.bel hb, h.mb, fun k hk => ⟨(h.mlt k hk).1, Nat.lt_of_lt_of_le (h.mlt k hk).2 hb.size⟩⟩
/-- The law writes its own blocks, and lays others. -/
theorem LW.step {w0 w w' : World} {o : OB} {Hs : List ByteArray} {Hb : List Bn} {F : List Ct} {M M' : Nat → Prop} (h : LW w0 w o Hs Hb F M) (ht : Turn M w w') (hM : ∀ k, M' k → (M k ∨ w.heap.size ≤ k) ∧ k < w'.heap.size) : LW w0 w' o Hs Hb F M' := by
  obtain ⟨L, hs, hf, hn⟩ := h.ex
  refine ⟨⟨L, hs.turn ht (fun k hk => (hn k hk).2), hf, fun k hk => ⟨(hn k hk).1, fun hk2 => ?_⟩⟩, Turn.below h.bel ht h.bel.size (fun i hi => (h.mlt i hi).1), h.mb, fun k hk => ⟨?_, (hM k hk).2⟩⟩
  · rcases (hM k hk2).1 with e | e
    · exact (hn k hk).2 e
    · have := hs.lt k hk; omega
  · rcases (hM k hk).1 with e | e
    · exact (h.mlt k e).1
    · exact Nat.le_trans h.bel.size e
theorem LW.more {w0 w w' : World} {o : OB} {Hs : List ByteArray} {Hb : List Bn} {F : List Ct} {M M' : Nat → Prop} (h : LW w0 w o Hs Hb F M) (hb : Below w.heap.size w w') (hM : ∀ k, M' k → (M k ∨ w.heap.size ≤ k) ∧ k < w'.heap.size) : LW w0 w' o Hs Hb F M' := h.step (Turn.of_below hb) hM
theorem lw_new {w0 w : World} {M : Nat → Prop} (hb : Below w0.heap.size w0 w) (hM : ∀ k, M k → w0.heap.size ≤ k ∧ k < w.heap.size) (v : Value) (hs : List Hn) (hr : Row w v hs.length (hnC hs)) (hss : ∀ x ∈ hs, x.h.size ≤ maxLen) (hok : hintsOk hs = true) :
    Calls Tryz.prog 5 #[v] w fun e w' => ∃ o, e = .returned (.tuple #[.pointer (some ⟨o.gs, 0, none⟩), .int .i64 0]) ∧ LW w0 w' o (hostsN hs) (bindsN hs) [] M ∧ Below w.heap.size w w' := by
  refine (new_yes v hs w hr hss hok).mono ?_
  rintro e w' ⟨gs, hv, bv, b, rfl, hx⟩
  refine ⟨⟨gs, hv, bv, some b⟩, rfl, ⟨⟨[], hx.st, rfl, fun k hk => ⟨Nat.le_trans hb.size (hx.new k hk), fun h => ?_⟩⟩, next hb hx.bel, ⟨b, rfl⟩, fun k hk => ⟨(hM k hk).1, Nat.lt_of_lt_of_le (hM k hk).2 hx.bel.size⟩⟩, hx.bel⟩
  have h1 := hx.new k hk
  have h2 := (hM k h).2
  omega
theorem LW.put {w0 w : World} {o : OB} {Hs : List ByteArray} {Hb : List Bn} {F : List Ct} {M : Nat → Prop} (h : LW w0 w o Hs Hb F M) {d : Dg} {hv gv : Value} (hd : DIn w d hv gv) (fr : ByteArray) (now : Int) (hf : fr.size ≤ maxLen) (x : Int) (hx : errC d fr now = x) (F' : List Ct) (hF : putC F d fr now = F') :
    Calls Tryz.prog 13 #[.pointer (some ⟨o.gs, 0, none⟩), .agg (dV d hv gv), .string fr, .int .i64 now] w fun e w' => e = .returned (.int .i64 x) ∧ LW w0 w' o Hs Hb F' M ∧ Turn (Far w0 M) w w' := by
  obtain ⟨L, hs, hfl, hn⟩ := h.ex
  obtain ⟨b, hmb⟩ := h.mb
  refine (put_any hs hmb hd fr now hf).mono ?_
  rintro e w' ⟨he, L', s, hf', T, ft⟩
  rw [hx] at he
  rw [hfl, hF] at hf'
  have T2 : Turn (Far w0 M) w w' := T.more (fun k e => hn k (.inr e))
  refine ⟨he, ⟨⟨L', s, hf', fun k hk => ?_⟩, Turn.below h.bel T2 h.bel.size (fun i hi => hi.1), ⟨b, hmb⟩, fun k hk => ⟨(h.mlt k hk).1, Nat.lt_of_lt_of_le (h.mlt k hk).2 T.size⟩⟩, T2⟩
  rcases ft k hk with e | e
  · exact hn k e
  · exact ⟨Nat.le_trans h.bel.size e, fun hm => by have := (h.mlt k hm).2; omega⟩
theorem LW.learn {w0 w : World} {o : OB} {Hs : List ByteArray} {Hb : List Bn} {F : List Ct} {M : Nat → Prop} (h : LW w0 w o Hs Hb F M) (host : ByteArray) (a u now : Int) (hh : host.size ≤ maxLen) (hlen : ∀ c ∈ F, c.bs.length < 256) (F' : List Ct) (hF : lrnC F host a u now = F') :
    Calls Tryz.prog 19 #[.pointer (some ⟨o.gs, 0, none⟩), .string host, .int .i64 a, .int .i64 u, .int .i64 now] w fun e w' => e = .returned (.tuple #[]) ∧ LW w0 w' o Hs Hb F' M ∧ Turn (Far w0 M) w w' := by
  obtain ⟨L, hs, hfl, hn⟩ := h.ex
  obtain ⟨b, hmb⟩ := h.mb
  refine (learnAll_any hs hmb host a u now hh (fun p hp => hlen p.1 (by rw [← hfl]; exact List.mem_map.2 ⟨p, hp, rfl⟩))).mono ?_
  rintro e w' ⟨he, L', s, hf', T, ft⟩
  rw [hfl, hF] at hf'
  have T2 : Turn (Far w0 M) w w' := T.more (fun k e => hn k e)
  refine ⟨he, ⟨⟨L', s, hf', fun k hk => ?_⟩, Turn.below h.bel T2 h.bel.size (fun i hi => hi.1), ⟨b, hmb⟩, fun k hk => ⟨(h.mlt k hk).1, Nat.lt_of_lt_of_le (h.mlt k hk).2 T.size⟩⟩, T2⟩
  rcases ft k hk with e | e
  · exact hn k e
  · exact ⟨Nat.le_trans h.bel.size e, fun hm => by have := (h.mlt k hm).2; omega⟩
theorem LW.deep {w0 w : World} {o : OB} {Hs : List ByteArray} {Hb : List Bn} {F : List Ct} {M : Nat → Prop} (h : LW w0 w o Hs Hb F M) (cn : ByteArray) (now : Int) (hn : cn.size ≤ maxLen) (x : ByteArray) (hx : deepF F cn now = x) :
    Calls Tryz.prog 24 #[.pointer (some ⟨o.gs, 0, none⟩), .string cn, .int .i64 now] w fun e w' => e = .returned (.string x) ∧ LW w0 w' o Hs Hb F M ∧ Below w.heap.size w w' := by
  obtain ⟨L, hs, hfl, _⟩ := h.ex
  refine (deepest_any hs cn now hn).mono ?_
  rintro e w' ⟨he, b⟩
  rw [deep_fst, hfl, hx] at he
  exact ⟨he, h.below b, b⟩
theorem LW.hosts {w0 w : World} {o : OB} {Hs : List ByteArray} {Hb : List Bn} {F : List Ct} {M : Nat → Prop} (h : LW w0 w o Hs Hb F M) (cn : ByteArray) (now : Int) (hn : cn.size ≤ maxLen) (X : List ByteArray) (hX : hostsF Hs F cn now = X) (N : Nat) (hN : X.length = N) :
    Calls Tryz.prog 23 #[.pointer (some ⟨o.gs, 0, none⟩), .string cn, .int .i64 now] w fun e w' => ∃ y c, e = .returned (.slice y N c) ∧ w'.ownsRow w.heap.size 9 1 (.slice y N c) N (tC X) ∧ LW w0 w' o Hs Hb F M ∧ Below w.heap.size w w' := by
  obtain ⟨L, hs, hfl, _⟩ := h.ex
  refine (hosts_any hs cn now hn).mono ?_
  rintro e w' ⟨v, he, ho, b⟩
  rw [hosts_fst, hfl, hX, hN] at ho
  obtain ⟨y, c, rfl⟩ := row_shape ho
  exact ⟨y, c, he, ho, h.below b, b⟩
theorem LW.binds {w0 w : World} {o : OB} {Hs : List ByteArray} {Hb : List Bn} {F : List Ct} {M : Nat → Prop} (h : LW w0 w o Hs Hb F M) (cn : ByteArray) (now : Int) (hn : cn.size ≤ maxLen) (X : List Bn) (hX : bindF Hb F cn now = X) (N : Nat) (hN : X.length = N) :
    Calls Tryz.prog 22 #[.pointer (some ⟨o.gs, 0, none⟩), .string cn, .int .i64 now] w fun e w' => ∃ y c, e = .returned (.slice y N c) ∧ w'.ownsRow w.heap.size 65 5 (.slice y N c) N (bC X) ∧ LW w0 w' o Hs Hb F M ∧ Below w.heap.size w w' := by
  obtain ⟨L, hs, hfl, _⟩ := h.ex
  refine (binds_any hs cn now hn).mono ?_
  rintro e w' ⟨v, he, ho, b⟩
  rw [bind_fst, hfl, hX, hN] at ho
  obtain ⟨y, c, rfl⟩ := row_shape ho
  exact ⟨y, c, he, ho, h.below b, b⟩

theorem hints_any (w : World) : Calls Tryz.prog 38 #[] w fun e w' => e = .returned (.slice (some ⟨w.heap.size, 0, none⟩) 2 2) ∧ w' = w.alloc (.cells #[.string ⟨#[1, 65, 0]⟩, .int .i64 1, .string ⟨#[1, 97, 0]⟩, .int .i64 2] 56) := by
  go_enter Tryz.func38, Tryz.ntmps38
  go_wp2
  go_ret
  exact ⟨rfl, rfl⟩
def hn2 : List Hn := [⟨⟨#[1, 65, 0]⟩, 1⟩, ⟨⟨#[1, 97, 0]⟩, 2⟩]
def Hs2 : List ByteArray := [⟨#[1, 97, 0]⟩]
def Hb2 : List Bn := [⟨rootB, ⟨#[1, 97, 0]⟩, 1, rootB, 0⟩, ⟨rootB, ⟨#[1, 97, 0]⟩, 2, rootB, 0⟩]
theorem hn2_ok : hintsOk hn2 = true := by decide
theorem hn2_hosts : hostsN hn2 = Hs2 := by rfl
theorem hn2_binds : bindsN hn2 = Hb2 := by rfl
/-- New(hints()). -/
theorem lw_hints {w0 w : World} {M : Nat → Prop} (hb : Below w0.heap.size w0 w) (hM : ∀ k, M k → w0.heap.size ≤ k ∧ k < w.heap.size) :
    Calls Tryz.prog 5 #[.slice (some ⟨w.heap.size, 0, none⟩) 2 2] (w.alloc (.cells #[.string ⟨#[1, 65, 0]⟩, .int .i64 1, .string ⟨#[1, 97, 0]⟩, .int .i64 2] 56)) fun e w' => ∃ o, e = .returned (.tuple #[.pointer (some ⟨o.gs, 0, none⟩), .int .i64 0]) ∧ LW w0 w' o Hs2 Hb2 [] M ∧ Below w.heap.size w w' := by
  have hb1 : Below w.heap.size w (w.alloc (.cells #[.string ⟨#[1, 65, 0]⟩, .int .i64 1, .string ⟨#[1, 97, 0]⟩, .int .i64 2] 56)) := lay (Below.refl _ _) _
  have h := lw_new (M := M) (next hb hb1) (fun k hk => ⟨(hM k hk).1, Nat.lt_of_lt_of_le (hM k hk).2 hb1.size⟩) (.slice (some ⟨w.heap.size, 0, none⟩) 2 2) hn2 (Row.of_blk (Blk.new w #[.string ⟨#[1, 65, 0]⟩, .int .i64 1, .string ⟨#[1, 97, 0]⟩, .int .i64 2] 56) rfl 2 2) (fun x hx => by
    unfold hn2 at hx
    simp at hx
    rcases hx with rfl | rfl <;> decide) hn2_ok
  rw [hn2_hosts, hn2_binds] at h
  refine h.mono ?_
  rintro e w' ⟨o, rfl, hw, b⟩
  exact ⟨o, rfl, hw, next hb1 b⟩
theorem new_nil (w : World) : Calls Tryz.prog 5 #[.slice none 0 0] w fun e w' => e = .returned (.tuple #[.pointer none, .int .i64 1500]) ∧ Below w.heap.size w w' := new_no _ [] w (Row.nil _ _) (by decide) (fun x hx => by simp at hx) (by decide)

def awD : Dg := ⟨⟨#[3, 67, 111, 109, 0]⟩, [⟨#[1, 110, 3, 99, 111, 109, 0]⟩], [⟨⟨#[]⟩, ⟨#[1, 78, 3, 99, 111, 109, 0]⟩, 7, ⟨#[]⟩, 9⟩], 5⟩
def awF : List Ct := [⟨⟨#[3, 99, 111, 109, 0]⟩, [⟨#[1, 110, 3, 99, 111, 109, 0]⟩], rootB, 15, [⟨0, 7, 19⟩]⟩]
theorem awE1 : errC awD ⟨#[0]⟩ 10 = 0 := by decide
theorem awP1 : putC [] awD ⟨#[0]⟩ 10 = awF := by rfl
theorem awE2 : errC awD ⟨#[3, 99, 111, 109, 0]⟩ 10 = 1500 := by decide
theorem awP2 : putC awF awD ⟨#[3, 99, 111, 109, 0]⟩ 10 = awF := by rfl
def awX : Bn := ⟨⟨#[3, 99, 111, 109, 0]⟩, ⟨#[1, 110, 3, 99, 111, 109, 0]⟩, 7, rootB, 19⟩
theorem awB1 : bindF Hb2 awF ⟨#[3, 99, 111, 109, 0]⟩ 11 = [awX] := by rfl
theorem awD1 : deepF awF ⟨#[1, 120, 3, 67, 79, 77, 0]⟩ 12 = ⟨#[3, 99, 111, 109, 0]⟩ := by rfl
theorem awD2 : deepF awF ⟨#[1, 120, 3, 99, 111, 109, 0]⟩ 15 = ⟨#[0]⟩ := by rfl
theorem awB2 : bindF Hb2 awF ⟨#[0]⟩ 99 = Hb2 := by rfl
theorem awH1 : hostsF Hs2 awF ⟨#[0]⟩ 0 = Hs2 := by rfl
/-- A delegation that lies in rows of its own. -/
theorem din_one {w : World} {x y : Nat} {cn h g c f : ByteArray} {a u t : Int} (kx : Blk w x #[.string h] 9) (ky : Blk w y #[.string c, .string g, .int .i64 a, .string f, .int .i64 u] 65) (h1 : cn.size ≤ 100000) (h2 : h.size ≤ 100000) (h3 : g.size ≤ 100000) :
    DIn w ⟨cn, [h], [⟨c, g, a, f, u⟩], t⟩ (.slice (some ⟨x, 0, none⟩) 1 1) (.slice (some ⟨y, 0, none⟩) 1 1) :=
  ⟨Row.of_blk kx rfl 1 1, ⟨_, 1, rfl, Nat.le_refl _⟩, Row.of_blk ky rfl 1 1, show 1 ≤ maxLen by decide, show 1 ≤ maxLen by decide, small100 h1, fun z hz => by simp at hz; subst hz; exact small100 h2, fun z hz => by simp at hz; subst hz; exact small100 h3⟩

theorem bn_eq (c h f : ByteArray) (a u : Int) (c' h' f' : ByteArray) (a' u' : Int) (v : Bool) (hv : (decide (c = c') && (decide (h = h') && (decide (a = a') && (decide (f = f') && decide (u = u'))))) = v) (U : World) : (binOp .eql 65 (.agg #[.string c, .string h, .int .i64 a, .string f, .int .i64 u]) (.agg #[.string c', .string h', .int .i64 a', .string f', .int .i64 u'])).run Tryz.prog U = .ok (.bool v) U := by
  have h1 := run_eql_struct (P := Tryz.prog) (w := U) 65 #[.string c, .string h, .int .i64 a, .string f, .int .i64 u] #[.string c', .string h', .int .i64 a', .string f', .int .i64 u']
  rw [h1]
  rw [show (10000 : Nat) = 9999 + 1 from rfl, run_equalIn_struct (P := Tryz.prog) U 9999 65 #[.string c, .string h, .int .i64 a, .string f, .int .i64 u] #[.string c', .string h', .int .i64 a', .string f', .int .i64 u'] (by kernel_rfl) (by kernel_rfl)]
  go_simp
  subst hv
  have hb : ∀ x y : ByteArray, (x.toList = y.toList) = (x = y) := fun x y => propext ⟨fun e => bytes_ext (by rw [ByteArray.toList_eq, ByteArray.toList_eq] at e; exact e), fun e => by rw [e]⟩
  simp only [hb]
  by_cases e1 : c = c' <;> by_cases e2 : h = h' <;> by_cases e3 : a = a' <;> by_cases e4 : f = f' <;> by_cases e5 : u = u' <;> simp [e1, e2, e3, e4, e5]
theorem three (w : World) (A B C : Array Value) (ta tb tc : TypeId) : Blk (((w.alloc (.cells A ta)).alloc (.cells B tb)).alloc (.cells C tc)) w.heap.size A ta ∧ Blk (((w.alloc (.cells A ta)).alloc (.cells B tb)).alloc (.cells C tc)) (w.heap.size + 1) B tb ∧ Blk (((w.alloc (.cells A ta)).alloc (.cells B tb)).alloc (.cells C tc)) (w.heap.size + 1 + 1) C tc ∧ Below w.heap.size w (((w.alloc (.cells A ta)).alloc (.cells B tb)).alloc (.cells C tc)) ∧ (((w.alloc (.cells A ta)).alloc (.cells B tb)).alloc (.cells C tc)).heap.size = w.heap.size + 1 + 1 + 1 := by
  have e1 : (w.alloc (.cells A ta)).heap.size = w.heap.size + 1 := by simp
  have e2 : ((w.alloc (.cells A ta)).alloc (.cells B tb)).heap.size = w.heap.size + 1 + 1 := by simp
  have k2 := Blk.new (w.alloc (.cells A ta)) B tb
  have k3 := Blk.new ((w.alloc (.cells A ta)).alloc (.cells B tb)) C tc
  rw [e1] at k2
  rw [e2] at k3
  exact ⟨((Blk.new w A ta).alloc _).alloc _, k2.alloc _, k3, lay (lay (lay (Below.refl _ _) _) _) _, by simp⟩
set_option maxRecDepth 20000 in
set_option maxHeartbeats 4000000 in
theorem awake_any (w : World) : Calls Tryz.prog 9 #[] w fun e w' => e = .returned (.bool true) ∧ Below w.heap.size w w' := by
  have t1 : True := trivial
  have t2 : True := trivial
  have t3 : True := trivial
  have t4 : True := trivial
  have t5 : True := trivial
  have t6 : True := trivial
  have t7 : True := trivial
  have t8 : True := trivial
  have hpn := obj_some
  have hbe := bn_eq ⟨#[3, 99, 111, 109, 0]⟩ ⟨#[1, 110, 3, 99, 111, 109, 0]⟩ ⟨#[0]⟩ 7 19 ⟨#[3, 99, 111, 109, 0]⟩ ⟨#[1, 110, 3, 99, 111, 109, 0]⟩ ⟨#[0]⟩ 7 19 true (by decide)
  have hnh := lw_hints (M := fun _ => False) (Below.refl w.heap.size w) (fun _ h => h.elim)
  go_enter Tryz.func9, Tryz.ntmps9
  have HW3 : Hid (∀ (o : OB) (w2 : World), LW w w2 o Hs2 Hb2 [] (fun _ => False) → ∃ M : Nat → Prop, M w2.heap.size ∧ M (w2.heap.size + 1) ∧ M (w2.heap.size + 1 + 1) ∧ LW w (((w2.alloc (.cells #[.string ⟨#[1, 110, 3, 99, 111, 109, 0]⟩] 9)).alloc (.cells #[.string ⟨#[]⟩, .string ⟨#[1, 78, 3, 99, 111, 109, 0]⟩, .int .i64 7, .string ⟨#[]⟩, .int .i64 9] 65)).alloc (.cells #[.string ⟨#[3, 67, 111, 109, 0]⟩, .slice (some ⟨w2.heap.size, 0, none⟩) 1 1, .slice (some ⟨w2.heap.size + 1, 0, none⟩) 1 1, .int .i64 5] 39)) o Hs2 Hb2 [] M) := fun o w2 s2 => by
    obtain ⟨_, _, _, h4, h5⟩ := three w2 #[.string ⟨#[1, 110, 3, 99, 111, 109, 0]⟩] #[.string ⟨#[]⟩, .string ⟨#[1, 78, 3, 99, 111, 109, 0]⟩, .int .i64 7, .string ⟨#[]⟩, .int .i64 9] #[.string ⟨#[3, 67, 111, 109, 0]⟩, .slice (some ⟨w2.heap.size, 0, none⟩) 1 1, .slice (some ⟨w2.heap.size + 1, 0, none⟩) 1 1, .int .i64 5] 9 65 39
    refine ⟨fun k => w2.heap.size ≤ k ∧ k < w2.heap.size + 1 + 1 + 1, ⟨Nat.le_refl _, by omega⟩, ⟨by omega, by omega⟩, ⟨by omega, by omega⟩, s2.more h4 (fun k hk => ⟨.inr hk.1, by rw [h5]; exact hk.2⟩)⟩
  go_wp2_with (first
    | (go_at_call 38; go_must (refine (hints_any _).mono ?_); rintro e w1 ⟨rfl, rfl⟩)
    | (go_at_call 5; have _t := t1; go_must (refine hnh.mono ?_); rintro e w1 ⟨o, rfl, s1, _⟩; clear t1 hnh)
    | (go_at_call 5; have _t := t2; go_must (refine (new_nil _).mono ?_); rintro e w2 ⟨rfl, b2⟩; have ho := hpn o.gs; obtain ⟨M, mx, my, mz, s3⟩ := HW3.out o w2 (s1.below b2); obtain ⟨kx, ky, kz, _, _⟩ := three w2 #[.string ⟨#[1, 110, 3, 99, 111, 109, 0]⟩] #[.string ⟨#[]⟩, .string ⟨#[1, 78, 3, 99, 111, 109, 0]⟩, .int .i64 7, .string ⟨#[]⟩, .int .i64 9] #[.string ⟨#[3, 67, 111, 109, 0]⟩, .slice (some ⟨w2.heap.size, 0, none⟩) 1 1, .slice (some ⟨w2.heap.size + 1, 0, none⟩) 1 1, .int .i64 5] 9 65 39; have hp1 := s3.put (din_one (cn := ⟨#[3, 67, 111, 109, 0]⟩) (t := 5) kx ky (by decide) (by decide) (by decide)) ⟨#[0]⟩ 10 (by decide) 0 awE1 awF awP1; have HMM : Hid (M w2.heap.size ∧ M (w2.heap.size + 1) ∧ M (w2.heap.size + 1 + 1)) := ⟨mx, my, mz⟩; clear t2 s1 b2 mx my mz HW3)
    | (go_at_call 8; refine (num_any _ _).mono ?_; rintro e w' ⟨rfl, hw⟩; obtain rfl := hw.symm)
    | (go_at_call 13; have _t := t3; go_must (refine hp1.mono ?_); rintro e w4 ⟨rfl, s4, T4⟩; have kx4 := T4.blk kx (fun h => h.2 HMM.out.1); have ky4 := T4.blk ky (fun h => h.2 HMM.out.2.1); have kz4 := T4.blk kz (fun h => h.2 HMM.out.2.2); have hp2 := s4.put (din_one (cn := ⟨#[3, 67, 111, 109, 0]⟩) (t := 5) kx4 ky4 (by decide) (by decide) (by decide)) ⟨#[3, 99, 111, 109, 0]⟩ 10 (by decide) 1500 awE2 awF awP2; have z0 := kz4.cell 0; have z1 := kz4.cell 1; have z2 := kz4.cell 2; have z3 := kz4.cell 3; simp only [List.getElem?_toArray, List.getElem?_cons_succ, List.getElem?_cons_zero] at z0 z1 z2 z3; clear t3 hp1 s3 T4 kx ky kz)
    | (go_at_call 13; have _t := t4; go_must (refine hp2.mono ?_); rintro e w5 ⟨rfl, s5, _⟩; clear t4 hp2 s4 kx4 ky4 kz4 z0 z1 z2 z3)
    | (go_at_call 22; have _t := t5; go_must (refine (s5.binds ⟨#[3, 99, 111, 109, 0]⟩ 11 (by decide) [awX] awB1 1 rfl).mono ?_); rintro e w6 ⟨y6, c6, rfl, o6, s6, _⟩; obtain ⟨g6, cp6, hy6, _, _⟩ := o6.form (by decide); simp only [Value.slice.injEq] at hy6; obtain ⟨rfl, _, rfl⟩ := hy6; have HO6 : Hid (w6.ownsRow _ 65 5 (.slice (some ⟨g6, 0, none⟩) 1 c6) 1 (bC [awX])) := o6; clear t5 s5 o6)
    | (go_at_call 24; have _t := t6; go_must (refine (s6.deep ⟨#[1, 120, 3, 67, 79, 77, 0]⟩ 12 (by decide) ⟨#[3, 99, 111, 109, 0]⟩ awD1).mono ?_); rintro e w7 ⟨rfl, s7, b7⟩; clear t6 s6)
    | (go_at_call 24; have _t := t7; go_must (refine (s7.deep ⟨#[1, 120, 3, 99, 111, 109, 0]⟩ 15 (by decide) ⟨#[0]⟩ awD2).mono ?_); rintro e w8 ⟨rfl, s8, b8⟩; have L8 := (lies_own (own_past (own_past HO6.out b7) b8)).1; have x0 : w8.cell? ⟨g6, 0, none⟩ = some (.string ⟨#[3, 99, 111, 109, 0]⟩) := L8 0 _ rfl; have x1 : w8.cell? ⟨g6, 1, none⟩ = some (.string ⟨#[1, 110, 3, 99, 111, 109, 0]⟩) := L8 1 _ rfl; have x2 : w8.cell? ⟨g6, 2, none⟩ = some (.int .i64 7) := L8 2 _ rfl; have x3 : w8.cell? ⟨g6, 3, none⟩ = some (.string ⟨#[0]⟩) := L8 3 _ rfl; have x4 : w8.cell? ⟨g6, 4, none⟩ = some (.int .i64 19) := L8 4 _ rfl; clear t7 s7 b7 b8 L8)
    | (go_at_call 22; have _t := t8; go_must (refine (s8.binds ⟨#[0]⟩ 99 (by decide) Hb2 awB2 2 rfl).mono ?_); rintro e w9 ⟨y9, c9, rfl, _, s9, _⟩; clear t8 s8 x0 x1 x2 x3 x4)
    | (go_at_call 23; go_must (refine (s9.hosts ⟨#[0]⟩ 0 (by decide) Hs2 awH1 1 rfl).mono ?_); rintro e w10 ⟨y10, c10, rfl, o10, s10, _⟩; have hst := sameT_any (.slice y10 1 c10) (.slice (some ⟨w10.heap.size, 0, none⟩) 1 1) Hs2 Hs2 (w10.alloc (.cells #[.string ⟨#[1, 97, 0]⟩] 9)) ((Row.of_own o10).below (lay (Below.refl _ _) _)) (Row.of_blk (Blk.new w10 #[.string ⟨#[1, 97, 0]⟩] 9) rfl 1 1) (by decide) (by decide) true (by decide); have HB11 : Hid (Below w.heap.size w (w10.alloc (.cells #[.string ⟨#[1, 97, 0]⟩] 9))) := lay s10.bel _; clear s9 o10 s10)
    | (go_at_call 27; go_must (refine hst.mono ?_); rintro e w12 ⟨rfl, b12⟩))
  go_ret
  exact ⟨rfl, next HB11.out b12⟩

end Cu
end Go.Proofs.YtnjgdfmldjgloaaGreat

/- What the laws of package cuts make: del; a Cuts that holds one. -/
namespace Go.Proofs.YtnjgdfmldjgloaaGreat
open Go.RowKit
open Pl
namespace Cu

def delG (a t : Int) : Bn := ⟨⟨#[]⟩, ⟨#[1, 72, 0]⟩, a, ⟨#[]⟩, t⟩
def delD (cn : ByteArray) (a t : Int) : Dg := ⟨cn, [⟨#[1, 104, 0]⟩], [delG a t], t⟩
theorem din_del {w : World} {X Y : Nat} {cn : ByteArray} {a t : Int} (kx : Blk w X #[.string ⟨#[1, 104, 0]⟩] 9) (ky : Blk w Y #[.string ⟨#[]⟩, .string ⟨#[1, 72, 0]⟩, .int .i64 a, .string ⟨#[]⟩, .int .i64 t] 65) (h1 : cn.size ≤ 100000) : DIn w (delD cn a t) (.slice (some ⟨X, 0, none⟩) 1 1) (.slice (some ⟨Y, 0, none⟩) 1 1) := din_one kx ky h1 (by decide) (by decide)
theorem no_may {d : Dg} {fr : ByteArray} {now : Int} (h : mayD d fr now = false) : errC d fr now = 1500 ∧ ∀ F, putC F d fr now = F := by
  unfold errC putC
  rw [h]
  exact ⟨rfl, fun _ => rfl⟩
theorem yes_may {d : Dg} {fr : ByteArray} {now : Int} (h : mayD d fr now = true) : errC d fr now = 0 := by
  unfold errC
  rw [h]
  rfl

/-- What a law holds that has boxed what del made: its places X, Y, Z. -/
structure Box (w w2 : World) (X Y Z : Nat) : Prop where
  xy : X ≠ Y
  xz : X ≠ Z
  yz : Y ≠ Z
  x : w2.heap.size ≤ X ∧ X < Z + 1
  y : w2.heap.size ≤ Y ∧ Y < Z + 1
  z : w2.heap.size ≤ Z ∧ Z < Z + 1
def boxM (w2 : World) (Z : Nat) (k : Nat) : Prop := w2.heap.size ≤ k ∧ k < Z + 1
theorem del_box {w w2 w3 : World} {o : OB} {Hs : List ByteArray} {Hb : List Bn} {F : List Ct} (s2 : LW w w2 o Hs Hb F (fun _ => False)) {X Y : Nat} {cn : ByteArray} {a t : Int} (kx : Blk w3 X #[.string ⟨#[1, 104, 0]⟩] 9) (ky : Blk w3 Y #[.string ⟨#[]⟩, .string ⟨#[1, 72, 0]⟩, .int .i64 a, .string ⟨#[]⟩, .int .i64 t] 65) (b3 : Below w2.heap.size w2 w3) (hX : w2.heap.size ≤ X) (hY : w2.heap.size ≤ Y) :
    Box w w2 X Y w3.heap.size ∧ LW w (w3.alloc (.cells #[.string cn, .slice (some ⟨X, 0, none⟩) 1 1, .slice (some ⟨Y, 0, none⟩) 1 1, .int .i64 t] 39)) o Hs Hb F (boxM w2 w3.heap.size) ∧ Blk (w3.alloc (.cells #[.string cn, .slice (some ⟨X, 0, none⟩) 1 1, .slice (some ⟨Y, 0, none⟩) 1 1, .int .i64 t] 39)) X #[.string ⟨#[1, 104, 0]⟩] 9 ∧ Blk (w3.alloc (.cells #[.string cn, .slice (some ⟨X, 0, none⟩) 1 1, .slice (some ⟨Y, 0, none⟩) 1 1, .int .i64 t] 39)) Y #[.string ⟨#[]⟩, .string ⟨#[1, 72, 0]⟩, .int .i64 a, .string ⟨#[]⟩, .int .i64 t] 65 ∧ Blk (w3.alloc (.cells #[.string cn, .slice (some ⟨X, 0, none⟩) 1 1, .slice (some ⟨Y, 0, none⟩) 1 1, .int .i64 t] 39)) w3.heap.size #[.string cn, .slice (some ⟨X, 0, none⟩) 1 1, .slice (some ⟨Y, 0, none⟩) 1 1, .int .i64 t] 39 := by
  have h1 := kx.lt
  have h2 := ky.lt
  have h3 := b3.size
  refine ⟨⟨fun e => ?_, by omega, by omega, ⟨hX, by omega⟩, ⟨hY, by omega⟩, ⟨h3, by omega⟩⟩, s2.more (lay b3 _) (fun k hk => ⟨.inr hk.1, ?_⟩), kx.alloc _, ky.alloc _, Blk.new w3 _ _⟩
  · subst e
    exact absurd (blk_tag kx ky) (by decide)
  · rw [World.size_alloc]
    exact hk.2
/-- The law writes a block of its own. -/
theorem LW.wrote {w0 w : World} {o : OB} {Hs : List ByteArray} {Hb : List Bn} {F : List Ct} {M : Nat → Prop} (h : LW w0 w o Hs Hb F M) {k : Nat} (hk : M k) (i : Nat) (v : Value) : LW w0 (w.setCell ⟨k, i, none⟩ v) o Hs Hb F M :=
  h.step (Turn.of_set (S := M) w (p := ⟨k, i, none⟩) hk v) (fun j hj => ⟨.inl hj, by rw [World.size_setCell]; exact (h.mlt j hj).2⟩)

end Cu
end Go.Proofs.YtnjgdfmldjgloaaGreat
