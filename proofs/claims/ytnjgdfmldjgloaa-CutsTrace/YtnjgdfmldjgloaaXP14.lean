/- What the laws of package cuts make: del; a Cuts that holds one. -/
import Derived.Test.YtnjgdfmldjgloaaXP13
namespace Go.Proofs.Ytnjgdfmldjgloaa
open Go.RowKit
open Pl
namespace Cu

def delG (a t : Int) : Bn := ⟨⟨#[]⟩, ⟨#[1, 72, 0]⟩, a, ⟨#[]⟩, t⟩
def delD (cn : ByteArray) (a t : Int) : Dg := ⟨cn, [⟨#[1, 104, 0]⟩], [delG a t], t⟩
theorem del_any (cn : ByteArray) (a t : Int) (w : World) : Calls Try.prog 22 #[.string cn, .int .i64 a, .int .i64 t] w fun e w' => ∃ X Y, e = .returned (.agg #[.string cn, .slice (some ⟨X, 0, none⟩) 1 1, .slice (some ⟨Y, 0, none⟩) 1 1, .int .i64 t]) ∧ Blk w' X #[.string ⟨#[1, 104, 0]⟩] 9 ∧ Blk w' Y #[.string ⟨#[]⟩, .string ⟨#[1, 72, 0]⟩, .int .i64 a, .string ⟨#[]⟩, .int .i64 t] 45 ∧ Below w.heap.size w w' ∧ w.heap.size ≤ X ∧ w.heap.size ≤ Y := by
  go_enter Try.func22, Try.ntmps22
  go_wp2
  obtain ⟨k0, k1, k2, hb, hz⟩ := three w #[.string cn, .slice (some ⟨w.heap.size + 1, 0, none⟩) 1 1, .slice (some ⟨w.heap.size + 1 + 1, 0, none⟩) 1 1, .int .i64 t] #[.string ⟨#[1, 104, 0]⟩] #[.string ⟨#[]⟩, .string ⟨#[1, 72, 0]⟩, .int .i64 a, .string ⟨#[]⟩, .int .i64 t] 33 9 45
  exact bodyPost_ret (ret_s rfl rfl k0 ⟨_, Try.underlying33⟩ (by kernel_rfl)) rfl ⟨_, _, rfl, k1, k2, hb, by omega, by omega⟩
theorem din_del {w : World} {X Y : Nat} {cn : ByteArray} {a t : Int} (kx : Blk w X #[.string ⟨#[1, 104, 0]⟩] 9) (ky : Blk w Y #[.string ⟨#[]⟩, .string ⟨#[1, 72, 0]⟩, .int .i64 a, .string ⟨#[]⟩, .int .i64 t] 45) (h1 : cn.size ≤ 100000) : DIn w (delD cn a t) (.slice (some ⟨X, 0, none⟩) 1 1) (.slice (some ⟨Y, 0, none⟩) 1 1) := din_one kx ky h1 (by decide) (by decide)
theorem no_may {d : Dg} {fr : ByteArray} {now : Int} (h : mayD d fr now = false) : errC d fr now = 1500 ∧ ∀ F, putC F d fr now = F := by
  unfold errC putC
  rw [h]
  exact ⟨rfl, fun _ => rfl⟩
theorem yes_may {d : Dg} {fr : ByteArray} {now : Int} (h : mayD d fr now = true) : errC d fr now = 0 := by
  unfold errC
  rw [h]
  rfl

/-- What a law holds that has boxed what del made: its places X, Y, Z. -/
structure Box (w w2 : World) (X Y Z : Nat) : Prop where
  xy : X ≠ Y
  xz : X ≠ Z
  yz : Y ≠ Z
  x : w2.heap.size ≤ X ∧ X < Z + 1
  y : w2.heap.size ≤ Y ∧ Y < Z + 1
  z : w2.heap.size ≤ Z ∧ Z < Z + 1
def boxM (w2 : World) (Z : Nat) (k : Nat) : Prop := w2.heap.size ≤ k ∧ k < Z + 1
theorem del_box {w w2 w3 : World} {o : OB} {Hs : List ByteArray} {Hb : List Bn} {F : List Ct} (s2 : LW w w2 o Hs Hb F (fun _ => False)) {X Y : Nat} {cn : ByteArray} {a t : Int} (kx : Blk w3 X #[.string ⟨#[1, 104, 0]⟩] 9) (ky : Blk w3 Y #[.string ⟨#[]⟩, .string ⟨#[1, 72, 0]⟩, .int .i64 a, .string ⟨#[]⟩, .int .i64 t] 45) (b3 : Below w2.heap.size w2 w3) (hX : w2.heap.size ≤ X) (hY : w2.heap.size ≤ Y) :
    Box w w2 X Y w3.heap.size ∧ LW w (w3.alloc (.cells #[.string cn, .slice (some ⟨X, 0, none⟩) 1 1, .slice (some ⟨Y, 0, none⟩) 1 1, .int .i64 t] 33)) o Hs Hb F (boxM w2 w3.heap.size) ∧ Blk (w3.alloc (.cells #[.string cn, .slice (some ⟨X, 0, none⟩) 1 1, .slice (some ⟨Y, 0, none⟩) 1 1, .int .i64 t] 33)) X #[.string ⟨#[1, 104, 0]⟩] 9 ∧ Blk (w3.alloc (.cells #[.string cn, .slice (some ⟨X, 0, none⟩) 1 1, .slice (some ⟨Y, 0, none⟩) 1 1, .int .i64 t] 33)) Y #[.string ⟨#[]⟩, .string ⟨#[1, 72, 0]⟩, .int .i64 a, .string ⟨#[]⟩, .int .i64 t] 45 ∧ Blk (w3.alloc (.cells #[.string cn, .slice (some ⟨X, 0, none⟩) 1 1, .slice (some ⟨Y, 0, none⟩) 1 1, .int .i64 t] 33)) w3.heap.size #[.string cn, .slice (some ⟨X, 0, none⟩) 1 1, .slice (some ⟨Y, 0, none⟩) 1 1, .int .i64 t] 33 := by
  have h1 := kx.lt
  have h2 := ky.lt
  have h3 := b3.size
  refine ⟨⟨fun e => ?_, by omega, by omega, ⟨hX, by omega⟩, ⟨hY, by omega⟩, ⟨h3, by omega⟩⟩, s2.more (lay b3 _) (fun k hk => ⟨.inr hk.1, ?_⟩), kx.alloc _, ky.alloc _, Blk.new w3 _ _⟩
  · subst e
    exact absurd (blk_tag kx ky) (by decide)
  · rw [World.size_alloc]
    exact hk.2
/-- The law writes a block of its own. -/
theorem LW.wrote {w0 w : World} {o : OB} {Hs : List ByteArray} {Hb : List Bn} {F : List Ct} {M : Nat → Prop} (h : LW w0 w o Hs Hb F M) {k : Nat} (hk : M k) (i : Nat) (v : Value) : LW w0 (w.setCell ⟨k, i, none⟩ v) o Hs Hb F M :=
  h.step (Turn.of_set (S := M) w (p := ⟨k, i, none⟩) hk v) (fun j hj => ⟨.inl hj, by rw [World.size_setCell]; exact (h.mlt j hj).2⟩)

end Cu
end Go.Proofs.Ytnjgdfmldjgloaa
