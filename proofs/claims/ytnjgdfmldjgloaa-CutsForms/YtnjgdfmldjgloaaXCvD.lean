/- CutsForms' ways 10 and 11: too many hosts, too much glue. -/
import Derived.Test.YtnjgdfmldjgloaaXCvB
namespace Go.Proofs.Ytnjgdfmldjgloaa
open Go.RowKit
open Pl
namespace Cu

/-- A row of the law's own within a boxed delegation, under way. -/
structure AX (w w2 wr : World) (o : OB) (Z : Nat) (DC : Array Value) (e : TypeId) (z : Nat) (v : Value) (n : Nat) (xs : List Value) (U : Nat) (UC : Array Value) (tu : TypeId) : Prop where
  lw : LW w wr o Hs2 Hb2 cfF (fun k => boxM w2 Z k ∨ v.ownBlock = some k)
  kz : Blk wr Z DC 33
  ku : Blk wr U UC tu
  row : wr.ownsRow w2.heap.size e z v n xs
  zz : w2.heap.size ≤ Z
  te : e ≠ 33
  tz : e ≠ tu
  tu' : tu ≠ 33
theorem ax_start {w w2 w4 : World} {o : OB} {X Y Z S U : Nat} {SC UC DC : Array Value} {e tu : TypeId} {z : Nat} {xs : List Value} (bx : Box w w2 X Y Z) (s4 : LW w w4 o Hs2 Hb2 cfF (boxM w2 Z)) (kz : Blk w4 Z DC 33) (ks : Blk w4 S SC e) (ku : Blk w4 U UC tu) (h1 : e ≠ 33) (h2 : e ≠ tu) (h3 : tu ≠ 33) (hS : w2.heap.size ≤ S) (hx : SC.toList = xs) (h1m : 1 ≤ maxLen) (hl : xs.length = 1 * z) (hb : boxM w2 Z S) :
    AX w w2 w4 o Z DC e z (.slice (some ⟨S, 0, none⟩) 1 1) 1 xs U UC tu :=
  ⟨s4.more (Below.refl _ _) (fun k hk => by
    rcases hk with hk | hk
    · exact ⟨.inl hk, (s4.mlt k hk).2⟩
    · simp [Value.ownBlock] at hk
      subst hk
      exact ⟨.inl hb, (s4.mlt _ hb).2⟩), kz, ku, own_blk ks hS hx hl h1m, bx.z.1, h1, h2, h3⟩
theorem AX.below {w w2 wr wn : World} {o : OB} {Z : Nat} {DC : Array Value} {e : TypeId} {z : Nat} {v : Value} {n : Nat} {xs : List Value} {U : Nat} {UC : Array Value} {tu : TypeId} (h : AX w w2 wr o Z DC e z v n xs U UC tu) (hb : Below wr.heap.size wr wn) : AX w w2 wn o Z DC e z v n xs U UC tu := ⟨h.lw.below hb, h.kz.below hb, h.ku.below hb, own_past h.row hb, h.zz, h.te, h.tz, h.tu'⟩
theorem AX.step {w w2 wr wl w7 : World} {o : OB} {Z : Nat} {DC : Array Value} {e : TypeId} {z : Nat} {v v' : Value} {n m : Nat} {xs ys : List Value} {U : Nat} {UC : Array Value} {tu : TypeId} (h : AX w w2 wr o Z DC e z v n xs U UC tu) (hb : Below wr.heap.size wr wl) (h1 : w7.ownsRow w2.heap.size e z v' m ys) (h3 : wl.grownBy w7 v.ownBlock) (h4 : ∀ k, v'.ownBlock = some k → v.ownBlock = some k ∨ wl.heap.size ≤ k) (i : Nat) :
    AX w w2 (w7.setCell ⟨Z, i, none⟩ v') o Z (DC.setIfInBounds i v') e z v' m ys U UC tu := by
  have hl := h.below hb
  have hZ : boxM w2 Z Z := ⟨h.zz, by omega⟩
  have ks7 : Blk w7 Z DC 33 := hl.kz.grown h3 (fun e' => h.te (own_tag hl.row e'.symm hl.kz))
  have ku7 : Blk w7 U UC tu := hl.ku.grown h3 (fun e' => h.tz (own_tag hl.row e'.symm hl.ku))
  have hne : Z ≠ U := fun e' => by
    subst e'
    exact h.tu' (blk_tag ku7 ks7)
  have hv' : ∀ k, v'.ownBlock = some k → k ≠ Z := fun k hk e' => by
    subst e'
    exact h.te (own_tag h1 hk ks7)
  have T : Turn (fun k => boxM w2 Z k ∨ v.ownBlock = some k) wr (w7.setCell ⟨Z, i, none⟩ v') :=
    ((Turn.of_below hb).trans (Turn.of_grown (S := fun k => v.ownBlock = some k) h3 (fun k e => e)) (fun i hi => .inl (.inr hi))).trans (Turn.of_set (S := fun k => k = Z) w7 (p := ⟨Z, i, none⟩) rfl v') (fun i e => .inl (.inl (by rw [e]; exact hZ)))
  have T3 : Turn (fun k => k = Z) w7 (w7.setCell ⟨Z, i, none⟩ v') := Turn.of_set (S := fun k => k = Z) w7 (p := ⟨Z, i, none⟩) rfl v'
  have hr := T3.row h1 (fun k hk e => hv' k hk e)
  refine ⟨h.lw.step T (fun k hk => ?_), ks7.set i v', ku7.other hne.symm i v', hr, h.zz, h.te, h.tz, h.tu'⟩
  rcases hk with hk | hk
  · exact ⟨.inl (.inl hk), Nat.lt_of_lt_of_le (h.lw.mlt k (.inl hk)).2 T.size⟩
  · refine ⟨?_, (hr.lt k hk).2⟩
    rcases h4 k hk with e | e
    · exact .inl (.inr e)
    · exact .inr (Nat.le_trans hb.size e)
theorem one_str (j g : Nat) (u : World) (hj : j < 256) (hb : Blk u g #[.int .u8 (j : Int)] 5) : (convert 53 9 (.slice (some ⟨g, 0, none⟩) 1 1)).run Try.prog u = .ok (.string ⟨#[UInt8.ofNat j]⟩) u := by
  refine run_convert_bytes_back _ 53 9 5 ⟨g, 0, none⟩ 1 [UInt8.ofNat j] Try.underlying53 Try.underlying5 Try.underlying9 fun i hi => ?_
  have hj' : (UInt8.ofNat j).toNat = j := by rw [UInt8.toNat_ofNat']; omega
  have e : (⟨g, 0, none⟩ : Addr).add i = ⟨g, i, none⟩ := by unfold Addr.add; split <;> simp_all
  rw [e, hb.cell i]
  match i, hi with
  | 0, _ => simp [hj']
theorem hosts_many {hs : List ByteArray} {c fr : ByteArray} {gl : List Bn} {t now : Int} (h : 8 < hs.length) : mayD ⟨c, hs, gl, t⟩ fr now = false := by
  unfold mayD hostsOk
  simp only
  rw [decide_eq_false (p := hs.length ≤ 8) (by omega)]
  simp
theorem glue_many {hs : List ByteArray} {c fr : ByteArray} {gl : List Bn} {t now : Int} (h : 8 < gl.length) : mayD ⟨c, hs, gl, t⟩ fr now = false := by
  unfold mayD glueOk
  simp only
  rw [decide_eq_false (p := gl.length ≤ 8) (by omega)]
  simp

set_option maxRecDepth 20000 in
set_option maxHeartbeats 4000000 in
theorem cf10 (which x U e : Int) (w : World) (hU : IntKind.u64.wrap which = U) (hm : U.tmod 14 = 10) (m63 : bits .and .i64 x 63 = e) (e0 : 0 ≤ e) (e1 : e < 64) :
    Calls Try.prog 5 #[.int .i64 which, .int .i64 x] w fun e w' => e = .returned (.bool true) ∧ Below w.heap.size w w' := by
  obtain ⟨i0, hi, hz0, hz1, hz2⟩ := info_parts info9
  have t1 : True := trivial
  go_enter Try.func5, Try.ntmps5
  go_wp2_with (first
    | (go_at_call 8; go_must (refine (awake_any _).mono ?_); rintro e w1 ⟨rfl, b1⟩)
    | (go_at_call 10; go_must (refine (hints_any _).mono ?_); rintro e wh ⟨rfl, rfl⟩)
    | (go_at_call 9; go_must (refine (lw_hints (M := fun _ => False) b1 (fun _ h => h.elim)).mono ?_); rintro e w2 ⟨o, rfl, s2, _⟩; clear b1)
    | (go_at_call 22; go_must (refine (del_any ⟨#[1, 97, 1, 98, 0]⟩ 5 9 _).mono ?_); rintro e w3 ⟨X, Y, rfl, kx, ky, b3, hX, hY⟩; obtain ⟨BX, s3, kxa, kya, kz⟩ := del_box (cn := ⟨#[1, 97, 1, 98, 0]⟩) s2 kx ky b3 hX hY; have hp1 := s3.put (din_del (cn := ⟨#[1, 97, 1, 98, 0]⟩) kxa kya (by decide)) ⟨#[1, 98, 0]⟩ 3 (by decide) 0 cfE1 cfF cfP1; clear hX hY kx ky b3 s2 s3)
    | (go_at_call 11; have _t := t1; go_must (refine hp1.mono ?_); rintro e w4 ⟨rfl, s4, T4⟩; have kx4 := T4.blk kxa (fun h => h.2 BX.x); have ky4 := T4.blk kya (fun h => h.2 BX.y); have kz4 := T4.blk kz (fun h => h.2 BX.z); have HAX : Hid (AX w w2 w4 o w3.heap.size #[.string ⟨#[1, 97, 1, 98, 0]⟩, (.slice (some ⟨X, 0, none⟩) 1 1), (.slice (some ⟨Y, 0, none⟩) 1 1), .int .i64 9] 9 1 (.slice (some ⟨X, 0, none⟩) 1 1) 1 [.string ⟨#[1, 104, 0]⟩] Y #[.string ⟨#[]⟩, .string ⟨#[1, 72, 0]⟩, .int .i64 5, .string ⟨#[]⟩, .int .i64 9] 45) := ax_start BX s4 kz4 kx4 ky4 (by decide) (by decide) (by decide) BX.x.1 rfl (by decide) rfl BX.x; clear t1 hp1 s4 T4 kxa kya kz kx4 ky4 kz4))
  generalize w3.heap.size = Z at HAX BX ⊢
  have HA0 : Hid (∃ HL : List ByteArray, HL.length = 1 + 0 ∧ (∀ x ∈ HL, x.size ≤ 10) ∧ AX w w2 w4 o Z #[.string ⟨#[1, 97, 1, 98, 0]⟩, .slice (some ⟨X, 0, none⟩) (1 + 0) 1, .slice (some ⟨Y, 0, none⟩) 1 1, .int .i64 9] 9 1 (.slice (some ⟨X, 0, none⟩) (1 + 0) 1) (1 + 0) (tC HL) Y #[.string ⟨#[]⟩, .string ⟨#[1, 72, 0]⟩, .int .i64 5, .string ⟨#[]⟩, .int .i64 9] 45) := ⟨[⟨#[1, 104, 0]⟩], rfl, fun x hx => by simp at hx; subst hx; decide, HAX.out⟩
  go_loopw [12] (fun k wr => ∃ (j : Nat) (y : Option Addr) (c : Nat), j ≤ 8 ∧ k = .int .i64 (j : Int) ∧ Hid (∃ HL : List ByteArray, HL.length = 1 + j ∧ (∀ x ∈ HL, x.size ≤ 10) ∧ AX w w2 wr o Z #[.string ⟨#[1, 97, 1, 98, 0]⟩, .slice y (1 + j) c, .slice (some ⟨Y, 0, none⟩) 1 1, .int .i64 9] 9 1 (.slice y (1 + j) c) (1 + j) (tC HL) Y #[.string ⟨#[]⟩, .string ⟨#[1, 72, 0]⟩, .int .i64 5, .string ⟨#[]⟩, .int .i64 9] 45)) (fun k _ => 8 - (intOf k).toNat)
  case atStart => exact ⟨0, _, _, by omega, rfl, HA0⟩
  case round =>
    clear HA0 HAX
    obtain ⟨j, y, c, hj, rfl, HX⟩ := hrel
    by_cases hjn : j < 8
    · have hjn' : (j : Int) < 8 := by omega
      obtain ⟨HL, hHL, hHS, hA⟩ := HX.out
      have HAA : Hid (AX w w2 wr o Z #[.string ⟨#[1, 97, 1, 98, 0]⟩, .slice y (1 + j) c, .slice (some ⟨Y, 0, none⟩) 1 1, .int .i64 9] 9 1 (.slice y (1 + j) c) (1 + j) (tC HL) Y #[.string ⟨#[]⟩, .string ⟨#[1, 72, 0]⟩, .int .i64 5, .string ⟨#[]⟩, .int .i64 9] 45) := hA
      have HHL : Hid (HL.length = 1 + j ∧ ∀ x ∈ HL, x.size ≤ 10) := ⟨hHL, hHS⟩
      have q1 : wr.cell? ⟨Z, 1, none⟩ = some (.slice y (1 + j) c) := hA.kz.cell 1
      have hw8 : IntKind.u8.wrap (j : Int) = (j : Int) := by
        have : IntKind.u8.wrap (j : Int) = (j : Int) % 256 := by simp [IntKind.wrap, IntKind.bits, IntKind.signed]
        rw [this]; omega
      obtain ⟨W1, hW1⟩ : ∃ W1, W1 = wr.alloc (.cells #[.int .u8 (j : Int)] 5) := ⟨_, rfl⟩
      have cv1 := one_str j wr.heap.size W1 (by omega) (by rw [hW1]; exact Blk.new wr _ _)
      obtain ⟨D1, hD1⟩ : ∃ D : ByteArray, D = ⟨#[UInt8.ofNat j]⟩ := ⟨_, rfl⟩
      have hs1 : D1.size = 1 := by rw [hD1]; rfl
      rw [← hD1] at cv1
      have zz1 : ∀ u : World, (Op.stringOp .add ⟨#[1]⟩ D1).run Try.prog u = .ok (.string (⟨#[1]⟩ ++ D1)) u := fun u => run_string_add_sum u _ D1 (by rw [hs1]; decide)
      obtain ⟨D2, hD2⟩ : ∃ D : ByteArray, (⟨#[1]⟩ : ByteArray) ++ D1 = D := ⟨_, rfl⟩
      rw [hD2] at zz1
      have hs2 : D2.size = 2 := by rw [← hD2, hD1]; rfl
      have zz2 : ∀ u : World, (Op.stringOp .add D2 ⟨#[0]⟩).run Try.prog u = .ok (.string (D2 ++ ⟨#[0]⟩)) u := fun u => run_string_add_sum u D2 _ (by rw [hs2]; decide)
      obtain ⟨D3, hD3⟩ : ∃ D : ByteArray, D2 ++ (⟨#[0]⟩ : ByteArray) = D := ⟨_, rfl⟩
      rw [hD3] at zz2
      have HS3 : Hid (D3.size ≤ 10) := by unfold Hid; rw [← hD3, ByteArray.size_append, hs2]; decide
      have hW1z : W1.heap.size = wr.heap.size + 1 := by rw [hW1]; simp
      have kX := Blk.new W1 #[.string D3] 9
      rw [hW1z] at kX
      have hbd : Below wr.heap.size wr (W1.alloc (.cells #[.string D3] 9)) := by rw [hW1]; exact lay (lay (Below.refl _ _) _) _
      have hAb := hA.below hbd
      have hto := hAb.row
      rw [hW1] at cv1 kX hto hbd
      have HBD : Hid (Below wr.heap.size wr ((wr.alloc (.cells #[.int .u8 (j : Int)] 5)).alloc (.cells #[.string D3] 9))) := hbd
      have HKG : Hid (Blk ((wr.alloc (.cells #[.int .u8 (j : Int)] 5)).alloc (.cells #[.string D3] 9)) Z #[.string ⟨#[1, 97, 1, 98, 0]⟩, .slice y (1 + j) c, .slice (some ⟨Y, 0, none⟩) 1 1, .int .i64 9] 33) := by rw [← hW1]; exact hAb.kz
      have hb9 : w2.heap.size ≤ ((wr.alloc (.cells #[.int .u8 (j : Int)] 5)).alloc (.cells #[.string D3] 9)).heap.size := by
        have h1 := hA.zz
        have h2 := hA.kz.lt
        have h3 := hbd.size
        omega
      clear hA hAb hbd hW1 hW1z hD1 hD2 hD3 hs1 hs2 HX hHL hHS
      go_wp2_with (at_builtin; refine wpList_appG _ rfl (.tmp 85) (.tmp 92) 30 9 i0 _ 1 16 Try.underlying30 hi hz0 hz1 hz2 rfl (by decide) rfl w2.heap.size _ (1 + j) (tC HL) rfl hto (.slice (some ⟨wr.heap.size + 1, 0, none⟩) 1 1) 1 [.string D3] rfl (Row.of_blk kX rfl 1 1) rfl (by simp [Value.oneCell']) (by omega) (by unfold maxLen; omega) hb9 ?_; intro v7 w7 h1 h3 h4; have hks := HKG.out.grown h3 (fun e => absurd (own_tag hto e.symm HKG.out) (by decide)); have q6 : w7.cell? ⟨Z, 1, none⟩ = some (.slice y (1 + j) c) := hks.cell 1; have q7 : w7.frozen? ⟨Z, 1, none⟩ = false := hks.frozen 1; obtain ⟨y7, c7, rfl⟩ := row_shape h1; have hA7 := HAA.out.step HBD.out h1 h3 h4 1; have HA7 : Hid _ := hA7; clear h1 h3 h4 hks hA7 hto)
      simp only [List.setIfInBounds_toArray, List.set_cons_zero, List.set_cons_succ] at HA7
      have HA8 : Hid (∃ HL' : List ByteArray, HL'.length = 1 + (j + 1) ∧ (∀ x ∈ HL', x.size ≤ 10) ∧ AX w w2 (w7.setCell ⟨Z, 1, none⟩ (.slice y7 (1 + j + 1) c7)) o Z #[.string ⟨#[1, 97, 1, 98, 0]⟩, .slice y7 (1 + (j + 1)) c7, .slice (some ⟨Y, 0, none⟩) 1 1, .int .i64 9] 9 1 (.slice y7 (1 + (j + 1)) c7) (1 + (j + 1)) (tC HL') Y #[.string ⟨#[]⟩, .string ⟨#[1, 72, 0]⟩, .int .i64 5, .string ⟨#[]⟩, .int .i64 9] 45) :=
        ⟨HL ++ [D3], by rw [List.length_append, HHL.out.1]; rfl, fun x hx => by
          rcases List.mem_append.1 hx with hx | hx
          · exact HHL.out.2 x hx
          · simp at hx; subst hx; exact HS3.out, by rw [tC_app]; exact HA7.out⟩
      clear HA7
      go_roundw
      case rel => exact ⟨j + 1, _, _, by omega, by go_num, HA8⟩
      case measure => simp [intOf]; omega
    · have hjn' : decide ((j : Int) < 8) = false := by simp; omega
      obtain ⟨HL, hHL, hHS, hA⟩ := HX.out
      have q0 := hA.kz.cell 0
      have q1 := hA.kz.cell 1
      have q2 := hA.kz.cell 2
      have q3 := hA.kz.cell 3
      simp only [List.getElem?_toArray, List.getElem?_cons_succ, List.getElem?_cons_zero] at q0 q1 q2 q3
      obtain ⟨yy, cc, hs2, hcap⟩ : ∃ yy cc, Value.slice y (1 + j) c = .slice yy HL.length cc ∧ HL.length ≤ cc := by
        obtain ⟨gg, cc, hs, _, _⟩ := hA.row.form (by omega)
        have hr9 := hA.row
        rw [hs] at hr9
        rw [hs, hHL]
        exact ⟨_, _, rfl, (lies_own hr9).2⟩
      have hno := no_may (fr := ⟨#[1, 98, 0]⟩) (now := 3) (hosts_many (c := ⟨#[1, 97, 1, 98, 0]⟩) (gl := [delG 5 9]) (t := 9) (hs := HL) (by omega))
      have hp2 := hA.lw.put (d := ⟨⟨#[1, 97, 1, 98, 0]⟩, HL, [delG 5 9], 9⟩) (hv := .slice y (1 + j) c) (gv := .slice (some ⟨Y, 0, none⟩) 1 1) ⟨by rw [hHL]; exact Row.of_own hA.row, ⟨yy, cc, hs2, hcap⟩, Row.of_blk hA.ku rfl 1 1, by show HL.length ≤ maxLen; unfold maxLen; omega, show 1 ≤ maxLen by decide, by show ByteArray.size ⟨#[1, 97, 1, 98, 0]⟩ ≤ maxLen; decide, fun z hz => by have := hHS z hz; unfold maxLen; omega, fun z hz => by simp at hz; subst hz; show ByteArray.size ⟨#[1, 72, 0]⟩ ≤ maxLen; decide⟩ ⟨#[1, 98, 0]⟩ 3 (by decide) 1500 hno.1 cfF (hno.2 _)
      clear hA HX hHL hHS hs2 hcap hno
      go_wp2_with (first
        | (go_at_call 11; go_must (refine hp2.mono ?_); rintro e w6 ⟨rfl, s6, _⟩; clear hp2 q0 q1 q2 q3)
        | (go_at_call 20; refine (num_any _ _).mono ?_; rintro e w' ⟨rfl, hw⟩; obtain rfl := hw.symm)
        | (go_at_call 18; go_must (refine (s6.binds ⟨#[1, 97, 1, 98, 0]⟩ 4 (by decide) [cfB] cfB1 1 rfl).mono ?_); rintro e w7 ⟨y7, c7, rfl, _, s7, _⟩; clear s6))
      go_ret
      exact ⟨rfl, s7.bel⟩

end Cu
end Go.Proofs.Ytnjgdfmldjgloaa
