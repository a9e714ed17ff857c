/- A Cuts that a law made beside two rows of the law's own: texts and numbers. -/
import Derived.Test.YtnjgdfmldjgloaaXCwA
namespace Go.Proofs.Ytnjgdfmldjgloaa
open Go.RowKit
open Pl
namespace Cu

structure DW (w wr : World) (o : OB) (F : List Ct) (v1 : Value) (n1 : Nat) (xs1 : List Value) (v2 : Value) (n2 : Nat) (xs2 : List Value) : Prop where
  lw : LW w wr o Hs2 Hb2 F (fun k => v1.ownBlock = some k ∨ v2.ownBlock = some k)
  r1 : wr.ownsRow w.heap.size 9 1 v1 n1 xs1
  r2 : wr.ownsRow w.heap.size 3 1 v2 n2 xs2
theorem DW.below {w wr wn : World} {o : OB} {F : List Ct} {v1 v2 : Value} {n1 n2 : Nat} {xs1 xs2 : List Value} (h : DW w wr o F v1 n1 xs1 v2 n2 xs2) (hb : Below wr.heap.size wr wn) : DW w wn o F v1 n1 xs1 v2 n2 xs2 := ⟨h.lw.below hb, own_past h.r1 hb, own_past h.r2 hb⟩
theorem DW.start {w wr : World} {o : OB} {F : List Ct} (h : LW w wr o Hs2 Hb2 F (fun _ => False)) : DW w wr o F (.slice none 0 0) 0 [] (.slice none 0 0) 0 [] :=
  ⟨h.more (Below.refl _ _) (fun _ hk => by simp [Value.ownBlock] at hk), World.ownsRow_nil _ _ _ _, World.ownsRow_nil _ _ _ _⟩
theorem DW.turn {w wr wn : World} {o : OB} {F F' : List Ct} {v1 v2 : Value} {n1 n2 : Nat} {xs1 xs2 : List Value} (h : DW w wr o F v1 n1 xs1 v2 n2 xs2) (lw : LW w wn o Hs2 Hb2 F' (fun k => v1.ownBlock = some k ∨ v2.ownBlock = some k)) (ht : Turn (Far w (fun k => v1.ownBlock = some k ∨ v2.ownBlock = some k)) wr wn) : DW w wn o F' v1 n1 xs1 v2 n2 xs2 :=
  ⟨lw, ht.row h.r1 (fun _ hk e => e.2 (.inl hk)), ht.row h.r2 (fun _ hk e => e.2 (.inr hk))⟩
theorem DW.app1 {w wr wl w7 : World} {o : OB} {F : List Ct} {v1 v2 v' : Value} {n1 n2 m : Nat} {xs1 xs2 ys : List Value} (h : DW w wr o F v1 n1 xs1 v2 n2 xs2) (hb : Below wr.heap.size wr wl) (ow : w7.ownsRow w.heap.size 9 1 v' m ys) (hg : wl.grownBy w7 v1.ownBlock) (h4 : ∀ k, v'.ownBlock = some k → v1.ownBlock = some k ∨ wl.heap.size ≤ k) : DW w w7 o F v' m ys v2 n2 xs2 := by
  have hl := h.below hb
  have T : Turn (fun k => v1.ownBlock = some k) wl w7 := Turn.of_grown hg (fun k e => e)
  have hr2 := T.row hl.r2 (fun k hk e => own_far hl.r2 hl.r1 (by decide) k hk e)
  refine ⟨hl.lw.step (T.more (fun k e => .inl e)) (fun k hk => ?_), ow, hr2⟩
  rcases hk with hk | hk
  · exact ⟨(h4 k hk).imp .inl id, (ow.lt k hk).2⟩
  · exact ⟨.inl (.inr hk), (hr2.lt k hk).2⟩
theorem DW.app2 {w wr wl w7 : World} {o : OB} {F : List Ct} {v1 v2 v' : Value} {n1 n2 m : Nat} {xs1 xs2 ys : List Value} (h : DW w wr o F v1 n1 xs1 v2 n2 xs2) (hb : Below wr.heap.size wr wl) (ow : w7.ownsRow w.heap.size 3 1 v' m ys) (hg : wl.grownBy w7 v2.ownBlock) (h4 : ∀ k, v'.ownBlock = some k → v2.ownBlock = some k ∨ wl.heap.size ≤ k) : DW w w7 o F v1 n1 xs1 v' m ys := by
  have hl := h.below hb
  have T : Turn (fun k => v2.ownBlock = some k) wl w7 := Turn.of_grown hg (fun k e => e)
  have hr1 := T.row hl.r1 (fun k hk e => own_far hl.r1 hl.r2 (by decide) k hk e)
  refine ⟨hl.lw.step (T.more (fun k e => .inr e)) (fun k hk => ?_), hr1, ow⟩
  rcases hk with hk | hk
  · exact ⟨.inl (.inl hk), (hr1.lt k hk).2⟩
  · exact ⟨(h4 k hk).imp .inr id, (ow.lt k hk).2⟩
/-- Names and ends that were laid. -/
def namesD (Ls : List UInt8) : List ByteArray := (List.range Ls.length).map fun i => nK Ls (i + 1)
theorem namesD_len (Ls : List UInt8) : (namesD Ls).length = Ls.length := by simp [namesD]
theorem namesD_at (Ls : List UInt8) (i : Nat) (h : i < (namesD Ls).length) : (namesD Ls)[i] = nK Ls (i + 1) := by simp [namesD]
theorem namesD_snoc (Ls : List UInt8) (b : UInt8) : namesD (Ls ++ [b]) = namesD Ls ++ [nK (Ls ++ [b]) (Ls.length + 1)] := by
  unfold namesD
  rw [List.length_append, List.length_cons, List.length_nil, List.range_succ, List.map_append]
  congr 1
  refine List.map_congr_left (fun i hi => ?_)
  have := List.mem_range.1 hi
  exact nK_snoc (by omega)
theorem one_byte (j g : Nat) (u : World) (hj : j < 256) (hb : Blk u g #[.int .u8 (j : Int)] 5) : (convert 53 9 (.slice (some ⟨g, 0, none⟩) 1 1)).run Try.prog u = .ok (.string ⟨#[UInt8.ofNat j]⟩) u := by
  refine run_convert_bytes_back _ 53 9 5 ⟨g, 0, none⟩ 1 [UInt8.ofNat j] Try.underlying53 Try.underlying5 Try.underlying9 fun i hi => ?_
  have hj' : (UInt8.ofNat j).toNat = j := by rw [UInt8.toNat_ofNat']; omega
  have e : (⟨g, 0, none⟩ : Addr).add i = ⟨g, i, none⟩ := by unfold Addr.add; split <;> simp_all
  rw [e, hb.cell i]
  match i, hi with
  | 0, _ => simp [hj']
theorem name_more (b : UInt8) (Ls : List UInt8) : ((⟨#[1]⟩ : ByteArray) ++ ⟨#[b]⟩) ++ nK Ls Ls.length = nK (Ls ++ [b]) (Ls.length + 1) := by
  rw [nK_all, nK_full]
  refine bytes_ext ?_
  rw [ByteArray.data_append, ByteArray.data_append, Array.toList_append, Array.toList_append, nmB_list, nmB_list]
  unfold nmR
  rw [List.map_cons, enc_cons]
  rfl
theorem name_under (Ls : List UInt8) : (⟨#[1, 122]⟩ : ByteArray) ++ nK Ls Ls.length = nmB (122 :: Ls.reverse) := by
  rw [nK_full]
  refine bytes_ext ?_
  rw [ByteArray.data_append, Array.toList_append, nmB_list, nmB_list]
  unfold nmR
  rw [List.map_cons, enc_cons]
  rfl

end Cu
end Go.Proofs.Ytnjgdfmldjgloaa
