/- OptFinds' message as it grows. -/
import Derived.Test.YtehldafdjldpbaaOpI
namespace Go.Proofs.Ytehldafdjldpbaa.optFinds
open Go.RowKit

def aR : Rc := ⟨rootB, 1, 0, 0, ⟨#[97, 98, 99, 100]⟩⟩
/-- The i-th OPT record. -/
def rR (S : Int) (i : Nat) : Rc := ⟨rootB, 41, S + (i : Int), 0, ⟨#[]⟩⟩
theorem r_may {S : Int} (i : Nat) (h0 : 0 ≤ S) (h1 : S < 4096) (hi : i < 8) : mayOt ⟨S + (i : Int), 0, 0, false, 0, []⟩ = true := by
  unfold mayOt mayFl
  rw [fitO_iff.2 ⟨by show 0 ≤ S + (i : Int); omega, by show S + (i : Int) < 65536; omega⟩]
  show (true && fitO 256 0 && fitO 256 0 && fitO 32768 0 && mayOs []) = true
  decide
theorem r_put {S : Int} (i : Nat) (h0 : 0 ≤ S) (h1 : S < 4096) (hi : i < 8) : putOV ⟨S + (i : Int), 0, 0, false, 0, []⟩ = .tuple #[.agg #[.string ⟨#[0]⟩, .int .i64 41, .int .i64 (S + (i : Int)), .int .i64 0, .string ⟨#[]⟩], .int .i64 0] := by
  rw [putOV_yes (r_may i h0 h1 hi)]
  rfl
theorem r_get {S : Int} (h0 : 0 ≤ S) (h1 : S < 4096) : getO (rR S 0) = ⟨S, 0, 0, false, 0, []⟩ := by
  have h := (put_get (r_may 0 h0 h1 (by decide))).1
  have e : putO ⟨S + ((0 : Nat) : Int), 0, 0, false, 0, []⟩ = rR S 0 := by
    unfold putO
    rw [if_pos (r_may 0 h0 h1 (by decide))]
    rfl
  rw [e] at h
  rw [h]
  simp
theorem put_r {S : Int} (i : Nat) (u : World) (h0 : 0 ≤ S) (h1 : S < 4096) (hi : i < 8) : Calls Try.prog 9 #[.agg #[.int .i64 (S + (i : Int)), .int .i64 0, .int .i64 0, .bool false, .int .i64 0, .slice none 0 0]] u fun e w' => e = .returned (.tuple #[.agg #[.string ⟨#[0]⟩, .int .i64 41, .int .i64 (S + (i : Int)), .int .i64 0, .string ⟨#[]⟩], .int .i64 0]) ∧ Below u.heap.size u w' := by
  have := optPut_any ⟨S + (i : Int), 0, 0, false, 0, []⟩ (.slice none 0 0) u (ORow.nil u)
  rw [r_put i h0 h1 hi] at this
  exact this

/-- The message at g, the other record behind it, the rows. -/
structure MF (w w' : World) (g : Nat) (v1 v2 v3 : Value) (an ns ar : List Rc) : Prop where
  msg : Blk w' g (msgC hdZ (.slice none 0 0) v1 v2 v3) 32
  aa : Blk w' (g + 1) (rrC aR) 26
  o1 : w'.ownsRow (g + 2) 26 5 v1 an.length (rC an)
  o2 : w'.ownsRow (g + 2) 26 5 v2 ns.length (rC ns)
  o3 : w'.ownsRow (g + 2) 26 5 v3 ar.length (rC ar)
  d12 : ∀ k, v1.ownBlock = some k → v2.ownBlock ≠ some k
  d13 : ∀ k, v1.ownBlock = some k → v3.ownBlock ≠ some k
  d23 : ∀ k, v2.ownBlock = some k → v3.ownBlock ≠ some k
  bel : Below w.heap.size w w'
  n1 : w.heap.size ≤ g
theorem MF.below {w a b : World} {g : Nat} {v1 v2 v3 : Value} {an ns ar : List Rc} (h : MF w a g v1 v2 v3 an ns ar) (hb : Below a.heap.size a b) : MF w b g v1 v2 v3 an ns ar :=
  ⟨h.msg.below hb, h.aa.below hb, own_past h.o1 hb, own_past h.o2 hb, own_past h.o3 hb, h.d12, h.d13, h.d23, next h.bel hb, h.n1⟩
theorem MF.lt {w a : World} {g : Nat} {v1 v2 v3 : Value} {an ns ar : List Rc} (h : MF w a g v1 v2 v3 an ns ar) : g + 2 ≤ a.heap.size := by have := h.aa.lt; omega
theorem mf_new {w a : World} (hb : Below w.heap.size w a) : MF w ((a.alloc (.cells (msgC hdZ (.slice none 0 0) (.slice none 0 0) (.slice none 0 0) (.slice none 0 0)) 32)).alloc (.cells (rrC aR) 26)) a.heap.size (.slice none 0 0) (.slice none 0 0) (.slice none 0 0) [] [] [] := by
  have k := Blk.new (a.alloc (.cells (msgC hdZ (.slice none 0 0) (.slice none 0 0) (.slice none 0 0) (.slice none 0 0)) 32)) (rrC aR) 26
  rw [show (a.alloc (.cells (msgC hdZ (.slice none 0 0) (.slice none 0 0) (.slice none 0 0) (.slice none 0 0)) 32)).heap.size = a.heap.size + 1 from by simp] at k
  exact ⟨(Blk.new a _ _).alloc _, k, World.ownsRow_nil _ _ _ _, World.ownsRow_nil _ _ _ _, World.ownsRow_nil _ _ _ _, fun k e => by simp [Value.ownBlock] at e, fun k e => by simp [Value.ownBlock] at e, fun k e => by simp [Value.ownBlock] at e, lay (lay hb _) _, hb.size⟩
theorem MF.app1 {w a b : World} {g : Nat} {v1 v2 v3 v' : Value} {an ns ar rs : List Rc} {o : Obj} (h : MF w a g v1 v2 v3 an ns ar) (own' : b.ownsRow (g + 2) 26 5 v' (an.length + rs.length) (rC an ++ rC rs)) (grow : (a.alloc o).grownBy b v1.ownBlock) (hat : ∀ k, v'.ownBlock = some k → v1.ownBlock = some k ∨ (a.alloc o).heap.size ≤ k) :
    MF w (b.setCell ⟨g, 10, none⟩ v') g v' v2 v3 (an ++ rs) ns ar := by
  have ha := h.below ((Below.refl _ _).alloc (Nat.le_refl _) o)
  have hg : some g ≠ v1.ownBlock := fun e => by have := (ha.o1.lt g e.symm).1; omega
  have hg1 : some (g + 1) ≠ v1.ownBlock := fun e => by have := (ha.o1.lt (g + 1) e.symm).1; omega
  have ts : Turn (fun k => k = g) b (b.setCell ⟨g, 10, none⟩ v') := Turn.of_set (S := fun k => k = g) b (p := ⟨g, 10, none⟩) rfl v'
  have keep : ∀ {u : Value} {xs : List Value} {n : Nat}, (a.alloc o).ownsRow (g + 2) 26 5 u n xs → (∀ k, u.ownBlock = some k → v1.ownBlock ≠ some k) → (b.setCell ⟨g, 10, none⟩ v').ownsRow (g + 2) 26 5 u n xs := fun {u xs n} hu hd => by
    have h1 : b.ownsRow (g + 2) 26 5 u n xs := (Turn.of_grown (S := fun k => v1.ownBlock = some k) grow (fun k hk => hk)).row hu (fun k hk e => hd k hk e)
    exact ts.row h1 (fun k hk e => by have := (h1.lt k hk).1; omega)
  have far : ∀ {u : Value} {xs : List Value} {n : Nat}, (a.alloc o).ownsRow (g + 2) 26 5 u n xs → (∀ k, u.ownBlock = some k → v1.ownBlock ≠ some k) → ∀ k, u.ownBlock = some k → v'.ownBlock ≠ some k := fun {u xs n} hu hd k hk e => by
    rcases hat k e with h1 | h1
    · exact hd k hk h1
    · have := (hu.lt k hk).2; omega
  refine ⟨?_, ?_, by rw [List.length_append, rC_app]; exact ts.row own' (fun k hk e => by have := (own'.lt k hk).1; omega), keep ha.o2 (fun k hk e => h.d12 k e hk), keep ha.o3 (fun k hk e => h.d13 k e hk), (fun k hk e => far ha.o2 (fun k hk e => h.d12 k e hk) k e hk), (fun k hk e => far ha.o3 (fun k hk e => h.d13 k e hk) k e hk), h.d23, ?_, h.n1⟩
  · have k := (ha.msg.grown grow hg).set 10 v'
    exact k
  · exact (ha.aa.grown grow hg1).other (by omega) 10 v'
  · exact (ha.bel.grown grow ha.bel.size (fun k e => by have := (ha.o1.lt k e).1; have := h.n1; omega)).setCell (by show w.heap.size ≤ g; exact h.n1) v'

theorem MF.app2 {w a b : World} {g : Nat} {v1 v2 v3 v' : Value} {an ns ar rs : List Rc} {o : Obj} (h : MF w a g v1 v2 v3 an ns ar) (own' : b.ownsRow (g + 2) 26 5 v' (ns.length + rs.length) (rC ns ++ rC rs)) (grow : (a.alloc o).grownBy b v2.ownBlock) (hat : ∀ k, v'.ownBlock = some k → v2.ownBlock = some k ∨ (a.alloc o).heap.size ≤ k) :
    MF w (b.setCell ⟨g, 11, none⟩ v') g v1 v' v3 an (ns ++ rs) ar := by
  have ha := h.below ((Below.refl _ _).alloc (Nat.le_refl _) o)
  have hg : some g ≠ v2.ownBlock := fun e => by have := (ha.o2.lt g e.symm).1; omega
  have hg1 : some (g + 1) ≠ v2.ownBlock := fun e => by have := (ha.o2.lt (g + 1) e.symm).1; omega
  have ts : Turn (fun k => k = g) b (b.setCell ⟨g, 11, none⟩ v') := Turn.of_set (S := fun k => k = g) b (p := ⟨g, 11, none⟩) rfl v'
  have keep : ∀ {u : Value} {xs : List Value} {n : Nat}, (a.alloc o).ownsRow (g + 2) 26 5 u n xs → (∀ k, u.ownBlock = some k → v2.ownBlock ≠ some k) → (b.setCell ⟨g, 11, none⟩ v').ownsRow (g + 2) 26 5 u n xs := fun {u xs n} hu hd => by
    have h1 : b.ownsRow (g + 2) 26 5 u n xs := (Turn.of_grown (S := fun k => v2.ownBlock = some k) grow (fun k hk => hk)).row hu (fun k hk e => hd k hk e)
    exact ts.row h1 (fun k hk e => by have := (h1.lt k hk).1; omega)
  have far : ∀ {u : Value} {xs : List Value} {n : Nat}, (a.alloc o).ownsRow (g + 2) 26 5 u n xs → (∀ k, u.ownBlock = some k → v2.ownBlock ≠ some k) → ∀ k, u.ownBlock = some k → v'.ownBlock ≠ some k := fun {u xs n} hu hd k hk e => by
    rcases hat k e with h1 | h1
    · exact hd k hk h1
    · have := (hu.lt k hk).2; omega
  refine ⟨?_, ?_, keep ha.o1 (fun k hk e => h.d12 k hk e), by rw [List.length_append, rC_app]; exact ts.row own' (fun k hk e => by have := (own'.lt k hk).1; omega), keep ha.o3 (fun k hk e => h.d23 k e hk), far ha.o1 (fun k hk e => h.d12 k hk e), h.d13, (fun k hk e => far ha.o3 (fun k hk e => h.d23 k e hk) k e hk), ?_, h.n1⟩
  · have k := (ha.msg.grown grow hg).set 11 v'
    exact k
  · exact (ha.aa.grown grow hg1).other (by omega) 11 v'
  · exact (ha.bel.grown grow ha.bel.size (fun k e => by have := (ha.o2.lt k e).1; have := h.n1; omega)).setCell (by show w.heap.size ≤ g; exact h.n1) v'

theorem MF.app3 {w a b : World} {g : Nat} {v1 v2 v3 v' : Value} {an ns ar rs : List Rc} {o : Obj} (h : MF w a g v1 v2 v3 an ns ar) (own' : b.ownsRow (g + 2) 26 5 v' (ar.length + rs.length) (rC ar ++ rC rs)) (grow : (a.alloc o).grownBy b v3.ownBlock) (hat : ∀ k, v'.ownBlock = some k → v3.ownBlock = some k ∨ (a.alloc o).heap.size ≤ k) :
    MF w (b.setCell ⟨g, 12, none⟩ v') g v1 v2 v' an ns (ar ++ rs) := by
  have ha := h.below ((Below.refl _ _).alloc (Nat.le_refl _) o)
  have hg : some g ≠ v3.ownBlock := fun e => by have := (ha.o3.lt g e.symm).1; omega
  have hg1 : some (g + 1) ≠ v3.ownBlock := fun e => by have := (ha.o3.lt (g + 1) e.symm).1; omega
  have ts : Turn (fun k => k = g) b (b.setCell ⟨g, 12, none⟩ v') := Turn.of_set (S := fun k => k = g) b (p := ⟨g, 12, none⟩) rfl v'
  have keep : ∀ {u : Value} {xs : List Value} {n : Nat}, (a.alloc o).ownsRow (g + 2) 26 5 u n xs → (∀ k, u.ownBlock = some k → v3.ownBlock ≠ some k) → (b.setCell ⟨g, 12, none⟩ v').ownsRow (g + 2) 26 5 u n xs := fun {u xs n} hu hd => by
    have h1 : b.ownsRow (g + 2) 26 5 u n xs := (Turn.of_grown (S := fun k => v3.ownBlock = some k) grow (fun k hk => hk)).row hu (fun k hk e => hd k hk e)
    exact ts.row h1 (fun k hk e => by have := (h1.lt k hk).1; omega)
  have far : ∀ {u : Value} {xs : List Value} {n : Nat}, (a.alloc o).ownsRow (g + 2) 26 5 u n xs → (∀ k, u.ownBlock = some k → v3.ownBlock ≠ some k) → ∀ k, u.ownBlock = some k → v'.ownBlock ≠ some k := fun {u xs n} hu hd k hk e => by
    rcases hat k e with h1 | h1
    · exact hd k hk h1
    · have := (hu.lt k hk).2; omega
  refine ⟨?_, ?_, keep ha.o1 (fun k hk e => h.d13 k hk e), keep ha.o2 (fun k hk e => h.d23 k hk e), by rw [List.length_append, rC_app]; exact ts.row own' (fun k hk e => by have := (own'.lt k hk).1; omega), h.d12, far ha.o1 (fun k hk e => h.d13 k hk e), far ha.o2 (fun k hk e => h.d23 k hk e), ?_, h.n1⟩
  · have k := (ha.msg.grown grow hg).set 12 v'
    exact k
  · exact (ha.aa.grown grow hg1).other (by omega) 12 v'
  · exact (ha.bel.grown grow ha.bel.size (fun k e => by have := (ha.o3.lt k e).1; have := h.n1; omega)).setCell (by show w.heap.size ≤ g; exact h.n1) v'

theorem MF.cell1 {w a b : World} {g : Nat} {v1 v2 v3 : Value} {an ns ar : List Rc} {o : Obj} (h : MF w a g v1 v2 v3 an ns ar) (grow : (a.alloc o).grownBy b v1.ownBlock) : b.cell? ⟨g, 10, none⟩ = some v1 ∧ b.frozen? ⟨g, 10, none⟩ = false := by
  have ha := h.below ((Below.refl _ _).alloc (Nat.le_refl _) o)
  have hg : some g ≠ v1.ownBlock := fun e => by have := (ha.o1.lt g e.symm).1; omega
  exact ⟨(ha.msg.grown grow hg).cell 10, (ha.msg.grown grow hg).frozen 10⟩
theorem MF.cell2 {w a b : World} {g : Nat} {v1 v2 v3 : Value} {an ns ar : List Rc} {o : Obj} (h : MF w a g v1 v2 v3 an ns ar) (grow : (a.alloc o).grownBy b v2.ownBlock) : b.cell? ⟨g, 11, none⟩ = some v2 ∧ b.frozen? ⟨g, 11, none⟩ = false := by
  have ha := h.below ((Below.refl _ _).alloc (Nat.le_refl _) o)
  have hg : some g ≠ v2.ownBlock := fun e => by have := (ha.o2.lt g e.symm).1; omega
  exact ⟨(ha.msg.grown grow hg).cell 11, (ha.msg.grown grow hg).frozen 11⟩
theorem MF.cell3 {w a b : World} {g : Nat} {v1 v2 v3 : Value} {an ns ar : List Rc} {o : Obj} (h : MF w a g v1 v2 v3 an ns ar) (grow : (a.alloc o).grownBy b v3.ownBlock) : b.cell? ⟨g, 12, none⟩ = some v3 ∧ b.frozen? ⟨g, 12, none⟩ = false := by
  have ha := h.below ((Below.refl _ _).alloc (Nat.le_refl _) o)
  have hg : some g ≠ v3.ownBlock := fun e => by have := (ha.o3.lt g e.symm).1; omega
  exact ⟨(ha.msg.grown grow hg).cell 12, (ha.msg.grown grow hg).frozen 12⟩
/-- The same, and a record beside it. -/
structure MG (w w' : World) (g : Nat) (v1 v2 v3 : Value) (an ns ar : List Rc) (gr : Nat) (C : Array Value) : Prop where
  f : MF w w' g v1 v2 v3 an ns ar
  r : Blk w' gr C 26
  ng : g + 2 ≤ gr
  e1 : v1.ownBlock ≠ some gr
  e2 : v2.ownBlock ≠ some gr
  e3 : v3.ownBlock ≠ some gr
theorem mg_new {w a : World} {g : Nat} {v1 v2 v3 : Value} {an ns ar : List Rc} (h : MF w a g v1 v2 v3 an ns ar) (C : Array Value) : MG w (a.alloc (.cells C 26)) g v1 v2 v3 an ns ar a.heap.size C :=
  ⟨h.below ((Below.refl _ _).alloc (Nat.le_refl _) _), Blk.new a C 26, h.lt, fun e => by have := (h.o1.lt _ e).2; omega, fun e => by have := (h.o2.lt _ e).2; omega, fun e => by have := (h.o3.lt _ e).2; omega⟩
theorem lit_row {u : World} {C : Array Value} {t : TypeId} {xs : List Value} {m n : Nat} (hx : C.toList = xs) (hn : u.heap.size = n) : Row (u.alloc (.cells C t)) (.slice (some ⟨n, 0, none⟩) m m) m xs := by
  subst hn
  exact Row.of_blk (Blk.new u C t) hx m m
theorem MG.app1 {w a b : World} {g gr : Nat} {C : Array Value} {v1 v2 v3 v' : Value} {an ns ar rs : List Rc} {o : Obj} (h : MG w a g v1 v2 v3 an ns ar gr C) (own' : b.ownsRow (g + 2) 26 5 v' (an.length + rs.length) (rC an ++ rC rs)) (grow : (a.alloc o).grownBy b v1.ownBlock) (hat : ∀ k, v'.ownBlock = some k → v1.ownBlock = some k ∨ (a.alloc o).heap.size ≤ k) :
    MG w (b.setCell ⟨g, 10, none⟩ v') g v' v2 v3 (an ++ rs) ns ar gr C := by
  have hr := h.r.alloc o
  have he : v'.ownBlock ≠ some gr := fun e => by
    rcases hat gr e with h1 | h1
    · exact h.e1 h1
    · have := hr.lt; omega
  exact ⟨h.f.app1 own' grow hat, (hr.grown grow (fun e => h.e1 e.symm)).other (by have := h.ng; omega) 10 v', h.ng, he, h.e2, h.e3⟩
theorem MG.app2 {w a b : World} {g gr : Nat} {C : Array Value} {v1 v2 v3 v' : Value} {an ns ar rs : List Rc} {o : Obj} (h : MG w a g v1 v2 v3 an ns ar gr C) (own' : b.ownsRow (g + 2) 26 5 v' (ns.length + rs.length) (rC ns ++ rC rs)) (grow : (a.alloc o).grownBy b v2.ownBlock) (hat : ∀ k, v'.ownBlock = some k → v2.ownBlock = some k ∨ (a.alloc o).heap.size ≤ k) :
    MG w (b.setCell ⟨g, 11, none⟩ v') g v1 v' v3 an (ns ++ rs) ar gr C := by
  have hr := h.r.alloc o
  have he : v'.ownBlock ≠ some gr := fun e => by
    rcases hat gr e with h1 | h1
    · exact h.e2 h1
    · have := hr.lt; omega
  exact ⟨h.f.app2 own' grow hat, (hr.grown grow (fun e => h.e2 e.symm)).other (by have := h.ng; omega) 11 v', h.ng, h.e1, he, h.e3⟩
theorem MG.app3 {w a b : World} {g gr : Nat} {C : Array Value} {v1 v2 v3 v' : Value} {an ns ar rs : List Rc} {o : Obj} (h : MG w a g v1 v2 v3 an ns ar gr C) (own' : b.ownsRow (g + 2) 26 5 v' (ar.length + rs.length) (rC ar ++ rC rs)) (grow : (a.alloc o).grownBy b v3.ownBlock) (hat : ∀ k, v'.ownBlock = some k → v3.ownBlock = some k ∨ (a.alloc o).heap.size ≤ k) :
    MG w (b.setCell ⟨g, 12, none⟩ v') g v1 v2 v' an ns (ar ++ rs) gr C := by
  have hr := h.r.alloc o
  have he : v'.ownBlock ≠ some gr := fun e => by
    rcases hat gr e with h1 | h1
    · exact h.e3 h1
    · have := hr.lt; omega
  exact ⟨h.f.app3 own' grow hat, (hr.grown grow (fun e => h.e3 e.symm)).other (by have := h.ng; omega) 12 v', h.ng, h.e1, h.e2, he⟩

/-- The OPT records of the additionals. -/
def Rs (S : Int) (i : Nat) (ar : List Rc) : Prop := optL ar = (List.range i).map (rR S) ∧ ∀ r ∈ ar, r.n.size ≤ 100 ∧ r.d.size ≤ 100
theorem rs_nil (S : Int) : Rs S 0 [] := ⟨rfl, fun r h => by simp at h⟩
theorem rs_other {S : Int} {i : Nat} {ar : List Rc} (h : Rs S i ar) : Rs S i (ar ++ [aR]) := by
  refine ⟨?_, fun r hr => ?_⟩
  · rw [optL_snoc, h.1]; simp [aR]
  · rcases List.mem_append.1 hr with h1 | h1
    · exact h.2 r h1
    · simp at h1; subst h1; decide
theorem rs_next {S : Int} {i : Nat} {ar : List Rc} (h : Rs S i ar) : Rs S (i + 1) (ar ++ [rR S i, aR]) := by
  refine ⟨?_, fun r hr => ?_⟩
  · rw [show ar ++ [rR S i, aR] = (ar ++ [rR S i]) ++ [aR] from by simp, optL_snoc, optL_snoc, h.1, List.range_succ]
    simp [aR, rR]
  · rcases List.mem_append.1 hr with h1 | h1
    · exact h.2 r h1
    · simp at h1
      rcases h1 with rfl | rfl
      · exact ⟨by show rootB.size ≤ 100; decide, by show (ByteArray.mk #[]).size ≤ 100; decide⟩
      · decide
theorem rs_fin {S : Int} {k : Nat} {ar : List Rc} (h : Rs S k ar) (h0 : 0 ≤ S) (h1 : S < 4096) : finN ar = k ∧ finO ar = if k = 0 then otZ else ⟨S, 0, 0, false, 0, []⟩ := by
  unfold finN finO
  rw [h.1]
  refine ⟨by simp, ?_⟩
  cases k with
  | zero => simp
  | succ k =>
    rw [List.range_succ_eq_map]
    simp only [List.map_cons, Nat.succ_ne_zero, if_false]
    exact r_get h0 h1

end Go.Proofs.Ytehldafdjldpbaa.optFinds
