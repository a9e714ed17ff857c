/- GroupSplits holds: of whatever picks as many sets come as unlike pairs of a name and a type, and none of their texts is lost. -/
import Derived.Test.YtdaegnmokaibpaaSeJ
import Derived.Test.YtdaegnmokaibpaaSeV
import Derived.Test.YtdaegnmokaibpaaFoC
import Derived.Test.YtdaegnmokaibpaaInA
import Derived.ProofKit
import Derived.OpenShut
import Derived.ShutString
namespace Go.Proofs.Ytdaegnmokaibpaa.groupSplits
open Go.ChangeShapes Go.WideShapes Go.ChangeAt Go.RowKit
open Go.ChangeMaps (open_string shut_string)
open Pl

/-- A block that the region lays, and what points at it. -/
def At (u : World) (C : Array Value) (ty : TypeId) (mk : Nat → Value) (b : Value) : Prop := ∃ g, b = mk g ∧ Blk u g C ty
theorem At.alloc {u : World} {C : Array Value} {ty : TypeId} {mk : Nat → Value} {b : Value} (h : At u C ty mk b) (o : Obj) : At (u.alloc o) C ty mk b := by
  obtain ⟨g, e, k⟩ := h
  exact ⟨g, e, k.alloc o⟩
def zN : Nat → Nat
  | 0 => 3
  | _ => 15
def zB : Nat → ByteArray
  | 0 => ⟨#[0, 0, 0]⟩
  | _ => ⟨#[0, 0, 0, 0, 0, 0, 0, 0, 0, 0, 0, 0, 0, 0, 0]⟩
theorem all26 {i : Nat} : Array.getD #[true, true, true, true, true, true, true, true, true, true, true, true, true, true, true, true, true, true, true, true, true, true, true, true, true, true] i true = true := by
  rw [Array.getD_eq_getD_getElem?]
  cases h : (#[true, true, true, true, true, true, true, true, true, true, true, true, true, true, true, true, true, true, true, true, true, true, true, true, true, true] : Array Bool)[i]? with
  | none => rfl
  | some b =>
    have hm := Array.mem_of_getElem? h
    simp at hm
    simpa using hm
theorem info5 : (Try.prog.info? 5).map (fun i => (i.zero, i.size, i.bytes)) = some (some (.int .u8 0), 1, 1) := by kernel_rfl
theorem make_any {t : Nat} (ht : t < 2) (u : World) : (Instr.makeSlice 55 (.int .i64 (zN t : Int)) (.int .i64 (zN t : Int))).run Try.prog u = .ok (.slice (some ⟨u.heap.size, 0, none⟩) (zN t) (zN t)) (u.alloc (.cells (madeCells #[Value.int .u8 0] (zN t)) 5)) := by
  obtain ⟨i0, hi, hz0, hz1, hz2⟩ := info_parts info5
  have hz : zN t ≤ 15 := by rcases lt2 ht with e | e <;> subst e <;> decide
  have := run_make (P := Try.prog) u 55 5 i0 _ Try.underlying55 hi hz0 .i64 .i64 (zN t : Int) (zN t : Int) (by omega) (by omega) (by rw [hz2]; omega) (by omega)
  rw [hz1, Int.toNat_natCast, Nat.mul_one] at this
  exact this
theorem add_any {t d : Nat} (ht : t < 2) (u : World) : (Op.stringOp .add (zB t) ⟨#[d.toUInt8]⟩).run Try.prog u = .ok (.string (daK t d)) u := by
  have e : zB t ++ ⟨#[d.toUInt8]⟩ = daK t d := by
    rcases lt2 ht with e | e <;> subst e <;> exact byte_ext (by rw [ByteArray.toList_eq, ByteArray.toList_eq]; simp [zB, daK])
  rw [← e]
  rcases lt2 ht with e | e <;> subst e
  · exact run_string_add_sum u _ _ (show 3 + 1 ≤ 9223372036854775807 by decide)
  · exact run_string_add_sum u _ _ (show 15 + 1 ≤ 9223372036854775807 by decide)
theorem made0 {n i : Nat} (h : i < n) : (madeCells #[Value.int .u8 0] n)[i]? = some (.int .u8 0) := by
  unfold madeCells
  rw [Array.getElem?_map, Array.getElem?_range, if_pos h]
  simp only [Option.map_some]
  show some ((#[Value.int .u8 0] : Array Value)[i % 1]!) = _
  rw [Nat.mod_one]
  rfl
theorem zero_str (u : World) (g : Nat) {t : Nat} (ht : t < 2) (hk : Blk u g (madeCells #[Value.int .u8 0] (zN t)) 5) : (convert 55 9 (.slice (some ⟨g, 0, none⟩) (zN t) (zN t))).run Try.prog u = .ok (.string (zB t)) u := by
  have e : zB t = ⟨(List.replicate (zN t) 0).toArray⟩ := by rcases lt2 ht with e | e <;> subst e <;> rfl
  rw [e]
  have := run_convert_bytes_back u 55 9 5 ⟨g, 0, none⟩ (zN t) (List.replicate (zN t) 0) Try.underlying55 Try.underlying5 Try.underlying9 (fun i hi => by
    have e : (⟨g, 0, none⟩ : Addr).add i = ⟨g, i, none⟩ := by unfold Addr.add; split <;> simp_all
    rw [List.length_replicate] at hi
    rw [e, hk.cell i, made0 (by omega)]
    simp)
  rw [List.length_replicate] at this
  exact this
theorem one_str (d : Nat) (u : World) (g : Nat) (hd : d < 256) (hk : Blk u g #[.int .u8 (d : Int)] 5) : (convert 55 9 (.slice (some ⟨g, 0, none⟩) 1 1)).run Try.prog u = .ok (.string ⟨#[d.toUInt8]⟩) u := by
  refine run_convert_bytes_back _ 55 9 5 ⟨g, 0, none⟩ 1 [d.toUInt8] Try.underlying55 Try.underlying5 Try.underlying9 fun i hi => ?_
  obtain rfl : i = 0 := by simp at hi; omega
  have e : (⟨g, 0, none⟩ : Addr).add 0 = ⟨g, 0, none⟩ := by unfold Addr.add; split <;> simp_all
  rw [e, hk.cell 0]
  have : d.toUInt8.toNat = d := by rw [Nat.toUInt8, UInt8.toNat_ofNat']; omega
  simp [this]
theorem own_sepT {w : World} {B g n cap : Nat} {y : Option Addr} {xs : List Value} {C : Array Value} {ty : TypeId} (h : w.ownsRow B 43 5 (.slice y n cap) n xs) (hk : Blk w g C ty) (hne : ty ≠ 43) : (Value.slice y n cap).ownBlock ≠ some g := by
  intro e
  rcases h.2 with ⟨h2, _⟩ | ⟨g', cap', cur, h2, _, hg, _⟩
  · rw [h2] at e; simp [Value.ownBlock] at e
  · rw [h2] at e
    simp [Value.ownBlock] at e
    subst e
    unfold Blk at hk
    rw [hk] at hg
    simp at hg
    exact hne hg.2

theorem set_bools (F : Nat → Bool) (N I : Nat) : (((List.range N).map (fun i => Value.bool (F i))).toArray).setIfInBounds I (.bool true) = ((List.range N).map (fun i => Value.bool (F i || decide (I = i)))).toArray := by
  rw [List.setIfInBounds_toArray]
  congr 1
  apply List.ext_getElem?
  intro i
  by_cases hi : i < N
  · by_cases e : I = i
    · subst e
      rw [List.getElem?_set_self (by simpa using hi), List.getElem?_map, List.getElem?_range hi]
      simp
    · rw [List.getElem?_set_ne e, List.getElem?_map, List.getElem?_map, List.getElem?_range hi]
      simp [e]
  · rw [List.getElem?_eq_none (by simp; omega), List.getElem?_eq_none (by simp; omega)]
theorem bools_at (F : Nat → Bool) {N i : Nat} (hi : i < N) : (((List.range N).map (fun i => Value.bool (F i))).toArray)[i]? = some (.bool (F i)) := by
  rw [List.getElem?_toArray, List.getElem?_map, List.getElem?_range hi]
  rfl
/-- How far GroupSplits is. -/
structure SAt (w : World) (gn gs gt : Nat) (u : World) (v : Value) (ts : List Pk) : Prop where
  nam : Blk u gn #[.string ⟨#[1, 97, 0]⟩, .string ⟨#[1, 65, 0]⟩, .string ⟨#[1, 98, 0]⟩, .string ⟨#[0]⟩] 9
  see : Blk u gs ((List.range 24).map (fun i => Value.bool (seenF ts i))).toArray 52
  the : Blk u gt ((List.range 6).map (fun i => Value.bool (thereF ts i))).toArray 54
  own : u.ownsRow w.heap.size 43 5 v ts.length (rC (ts.map recK))
  ins : ∀ p ∈ ts, InK p
  below : Below w.heap.size w u

set_option maxRecDepth 20000 in
set_option maxHeartbeats 4000000 in
theorem walk (v : Value) (ps : List Int) (w : World) (hrow : Row w v ps.length (iC ps) ∧ ps.length ≤ maxLen) :
    Calls Try.prog 7 #[v] w fun e w' => e = .returned (.bool true) ∧ Below w.heap.size w w' := by
  obtain ⟨i0, hi0, hz0, hz1, hz2⟩ := info_parts infoR'
  obtain ⟨hrow, hmx⟩ := hrow
  obtain ⟨n, hn⟩ : ∃ n, n = ps.length := ⟨_, rfl⟩
  obtain ⟨x, c, hv⟩ := row_slice hrow
  rw [← hn] at hv
  subst hv
  have HN : Hid (n = ps.length) := hn
  have HR : Hid (Row w (.slice x n c) ps.length (iC ps)) := hrow
  have hnm : n ≤ maxLen := by rw [hn]; exact hmx
  unfold maxLen at hnm
  have hb : Below w.heap.size w w := Below.refl _ _
  clear hrow hn hmx
  go_enter Try.func7, Try.ntmps7
  go_wp2_with (go_at_call 21; go_must (refine (awake_any _).mono ?_); rintro e w0 ⟨rfl, b0⟩; replace hb := next hb b0; clear b0)
  have KN : Hid (Blk (((w0.alloc (.cells #[.string ⟨#[1, 97, 0]⟩, .string ⟨#[1, 65, 0]⟩, .string ⟨#[1, 98, 0]⟩, .string ⟨#[0]⟩] 9)).alloc (.cells #[.bool false, .bool false, .bool false, .bool false, .bool false, .bool false, .bool false, .bool false, .bool false, .bool false, .bool false, .bool false, .bool false, .bool false, .bool false, .bool false, .bool false, .bool false, .bool false, .bool false, .bool false, .bool false, .bool false, .bool false] 52)).alloc (.cells #[.bool false, .bool false, .bool false, .bool false, .bool false, .bool false] 54)) w0.heap.size #[.string ⟨#[1, 97, 0]⟩, .string ⟨#[1, 65, 0]⟩, .string ⟨#[1, 98, 0]⟩, .string ⟨#[0]⟩] 9) := ((Blk.new w0 _ _).alloc _).alloc _
  have KS : Hid (Blk (((w0.alloc (.cells #[.string ⟨#[1, 97, 0]⟩, .string ⟨#[1, 65, 0]⟩, .string ⟨#[1, 98, 0]⟩, .string ⟨#[0]⟩] 9)).alloc (.cells #[.bool false, .bool false, .bool false, .bool false, .bool false, .bool false, .bool false, .bool false, .bool false, .bool false, .bool false, .bool false, .bool false, .bool false, .bool false, .bool false, .bool false, .bool false, .bool false, .bool false, .bool false, .bool false, .bool false, .bool false] 52)).alloc (.cells #[.bool false, .bool false, .bool false, .bool false, .bool false, .bool false] 54)) (w0.heap.size + 1) #[.bool false, .bool false, .bool false, .bool false, .bool false, .bool false, .bool false, .bool false, .bool false, .bool false, .bool false, .bool false, .bool false, .bool false, .bool false, .bool false, .bool false, .bool false, .bool false, .bool false, .bool false, .bool false, .bool false, .bool false] 52) := by
    have := (Blk.new (w0.alloc (.cells #[.string ⟨#[1, 97, 0]⟩, .string ⟨#[1, 65, 0]⟩, .string ⟨#[1, 98, 0]⟩, .string ⟨#[0]⟩] 9)) #[.bool false, .bool false, .bool false, .bool false, .bool false, .bool false, .bool false, .bool false, .bool false, .bool false, .bool false, .bool false, .bool false, .bool false, .bool false, .bool false, .bool false, .bool false, .bool false, .bool false, .bool false, .bool false, .bool false, .bool false] 52).alloc (.cells #[.bool false, .bool false, .bool false, .bool false, .bool false, .bool false] 54)
    rw [World.size_alloc] at this
    exact this
  have KT : Hid (Blk (((w0.alloc (.cells #[.string ⟨#[1, 97, 0]⟩, .string ⟨#[1, 65, 0]⟩, .string ⟨#[1, 98, 0]⟩, .string ⟨#[0]⟩] 9)).alloc (.cells #[.bool false, .bool false, .bool false, .bool false, .bool false, .bool false, .bool false, .bool false, .bool false, .bool false, .bool false, .bool false, .bool false, .bool false, .bool false, .bool false, .bool false, .bool false, .bool false, .bool false, .bool false, .bool false, .bool false, .bool false] 52)).alloc (.cells #[.bool false, .bool false, .bool false, .bool false, .bool false, .bool false] 54)) (w0.heap.size + 1 + 1) #[.bool false, .bool false, .bool false, .bool false, .bool false, .bool false] 54) := by
    have := Blk.new ((w0.alloc (.cells #[.string ⟨#[1, 97, 0]⟩, .string ⟨#[1, 65, 0]⟩, .string ⟨#[1, 98, 0]⟩, .string ⟨#[0]⟩] 9)).alloc (.cells #[.bool false, .bool false, .bool false, .bool false, .bool false, .bool false, .bool false, .bool false, .bool false, .bool false, .bool false, .bool false, .bool false, .bool false, .bool false, .bool false, .bool false, .bool false, .bool false, .bool false, .bool false, .bool false, .bool false, .bool false] 52)) #[.bool false, .bool false, .bool false, .bool false, .bool false, .bool false] 54
    rw [World.size_alloc, World.size_alloc] at this
    exact this
  have HB1 : Hid (Below w.heap.size w (((w0.alloc (.cells #[.string ⟨#[1, 97, 0]⟩, .string ⟨#[1, 65, 0]⟩, .string ⟨#[1, 98, 0]⟩, .string ⟨#[0]⟩] 9)).alloc (.cells #[.bool false, .bool false, .bool false, .bool false, .bool false, .bool false, .bool false, .bool false, .bool false, .bool false, .bool false, .bool false, .bool false, .bool false, .bool false, .bool false, .bool false, .bool false, .bool false, .bool false, .bool false, .bool false, .bool false, .bool false] 52)).alloc (.cells #[.bool false, .bool false, .bool false, .bool false, .bool false, .bool false] 54))) := lay (lay (lay hb _) _) _
  have HG : Hid (w.heap.size ≤ w0.heap.size) := hb.size
  obtain ⟨W1, hW1⟩ : ∃ z, z = ((w0.alloc (.cells #[.string ⟨#[1, 97, 0]⟩, .string ⟨#[1, 65, 0]⟩, .string ⟨#[1, 98, 0]⟩, .string ⟨#[0]⟩] 9)).alloc (.cells #[.bool false, .bool false, .bool false, .bool false, .bool false, .bool false, .bool false, .bool false, .bool false, .bool false, .bool false, .bool false, .bool false, .bool false, .bool false, .bool false, .bool false, .bool false, .bool false, .bool false, .bool false, .bool false, .bool false, .bool false] 52)).alloc (.cells #[.bool false, .bool false, .bool false, .bool false, .bool false, .bool false] 54) := ⟨_, rfl⟩
  rw [← hW1] at KN KS KT HB1 ⊢
  obtain ⟨gn, hgn⟩ : ∃ z, z = w0.heap.size := ⟨_, rfl⟩
  rw [← hgn] at KN KS KT HG ⊢
  obtain ⟨gs, hgs⟩ : ∃ z, z = gn + 1 := ⟨_, rfl⟩
  rw [← hgs] at KS KT ⊢
  obtain ⟨gt, hgt⟩ : ∃ z, z = gs + 1 := ⟨_, rfl⟩
  rw [← hgt] at KT ⊢
  have HGG : Hid (w.heap.size ≤ gn ∧ gn < gs ∧ gs < gt) := by have := HG.out; exact ⟨by omega, by omega, by omega⟩
  have HS0 : Hid (SAt w gn gs gt W1 (.slice none 0 0) []) := ⟨KN.out, KS.out, KT.out, World.ownsRow_nil _ _ _ _, fun p h => by simp at h, HB1.out⟩
  clear hW1 hgn hgs hgt HG KN KS KT HB1 hb
  go_loopw [4, 7] (fun av iv wr => ∃ (j c1 : Nat) (y : Option Addr) (ts : List Pk), av = .slice y j c1 ∧ iv = .int .i64 (j : Int) ∧ j ≤ n ∧ j ≤ 64 ∧ Hid (j = ts.length) ∧ Hid (SAt w gn gs gt wr (.slice y j c1) ts)) (fun _ i _ => 64 - (intOf i).toNat)
  case atStart => exact ⟨0, 0, none, [], rfl, rfl, Nat.zero_le _, Nat.zero_le _, rfl, HS0⟩
  case round =>
    clear HS0
    obtain ⟨j, c1, y, ts, rfl, rfl, hjn, hj4, HJ, HS⟩ := hrel
    have hm4 : ∀ X : Int, bits .and .i64 X 3 = X % 4 := fun X => mask X 2 (by decide)
    have hm2 : ∀ X : Int, bits .and .i64 X 1 = X % 2 := fun X => mask X 1 (by decide)
    by_cases hlt : j < n ∧ j < 64
    · obtain ⟨hj, h4⟩ := hlt
      have hj' : (j : Int) < (n : Int) := by omega
      have h4' : (j : Int) < 64 := by omega
      have hjm : j < ps.length := by have := HN.out; omega
      obtain ⟨gp, op, cp, hx, hc⟩ := row_at (HR.out.below HS.out.below) (by omega)
      simp only [Value.slice.injEq] at hx
      obtain ⟨rfl, -, rfl⟩ := hx
      have e0 := hc j _ (iC_at hjm)
      obtain ⟨p, hp⟩ : ∃ p, p = ps[j] := ⟨_, rfl⟩
      rw [← hp] at e0
      clear hc hp
      obtain ⟨k, hk⟩ : ∃ k : Nat, p % 4 = (k : Int) := ⟨(p % 4).toNat, by omega⟩
      obtain ⟨t, ht⟩ : ∃ t : Nat, p / 4 % 2 = (t : Int) := ⟨(p / 4 % 2).toNat, by omega⟩
      obtain ⟨d, hd⟩ : ∃ d : Nat, p / 8 % 4 = (d : Int) := ⟨(p / 8 % 4).toNat, by omega⟩
      have hk4 : k < 4 := by omega
      have ht2 : t < 2 := by omega
      have hd4 : d < 4 := by omega
      have hk4' : (k : Int) < 4 := by omega
      have ht2' : (t : Int) < 2 := by omega
      have hd4' : (d : Int) < 4 := by omega
      have hw8 : IntKind.u8.wrap (d : Int) = (d : Int) := by rcases lt4 hd4 with e | e | e | e <;> subst e <;> rfl
      have hnk : wr.cell? ⟨gn, k, none⟩ = some (.string (nmK k)) := by rcases lt4 hk4 with e | e | e | e <;> subst e <;> exact HS.out.nam.cell _
      have HNAM : Hid (Blk wr.drew gn #[.string ⟨#[1, 97, 0]⟩, .string ⟨#[1, 65, 0]⟩, .string ⟨#[1, 98, 0]⟩, .string ⟨#[0]⟩] 9) := HS.out.nam.drew ⟨1, rfl⟩
      have HSEE : Hid (Blk wr.drew gs ((List.range 24).map (fun i => Value.bool (seenF ts i))).toArray 52) := HS.out.see.drew ⟨1, rfl⟩
      have HTHE : Hid (Blk wr.drew gt ((List.range 6).map (fun i => Value.bool (thereF ts i))).toArray 54) := HS.out.the.drew ⟨1, rfl⟩
      have HO : Hid (wr.drew.ownsRow w.heap.size 43 5 (.slice y j c1) j (rC (ts.map recK))) := by
        have h0 := HS.out.own
        rw [← HJ.out] at h0
        exact h0.drew
      have HBW : Hid (Below w.heap.size w wr.drew) := HS.out.below.drew
      have HINS : Hid (∀ p ∈ ts, InK p) := HS.out.ins
      have hmk : Hid (∀ u : World, (Instr.makeSlice 55 (.int .i64 (zN t : Int)) (.int .i64 (zN t : Int))).run Try.prog u = .ok (.slice (some ⟨u.heap.size, 0, none⟩) (zN t) (zN t)) (u.alloc (.cells (madeCells #[Value.int .u8 0] (zN t)) 5))) := make_any ht2
      have hadd : Hid (∀ u : World, (Op.stringOp .add (zB t) ⟨#[d.toUInt8]⟩).run Try.prog u = .ok (.string (daK t d)) u) := add_any ht2
      clear HS hjm HR HN
      go_wp2
      -- region begins
      refine wp_region_held_drew (S := fun u => u.cell? ⟨gn, k, none⟩ = some (.string (nmK k))) (by kernel_rfl) (by rw [World.cell?_drew]; exact hnk) (fun hHeld => ?_)
      refine wpAnyH_take (i := 0) (v := .slice y j c1) rfl (by kernel_rfl) (by kernel_rfl) (by kernel_rfl) (fun _ _ _ h => h) (Or.inl ⟨by rfl, ?_⟩) hHeld ?_
      · intro u hu
        go_simp
      simp only [Act.put, List.getElem_toArray, List.getElem_cons_zero, List.setIfInBounds_toArray, List.set_cons_zero, List.set_cons_succ]
      refine wpAnyH_take (i := 1) (v := .slice (some ⟨gn, 0, none⟩) 4 4) rfl (by kernel_rfl) (by kernel_rfl) (by kernel_rfl) (fun _ _ _ h => h) (Or.inl ⟨by rfl, ?_⟩) hHeld ?_
      · intro u hu
        go_simp
      simp only [Act.put, List.getElem_toArray, List.getElem_cons_succ, List.getElem_cons_zero, List.setIfInBounds_toArray, List.set_cons_zero, List.set_cons_succ]
      refine wpAnyH_take (i := 2) (v := .int .i64 (k : Int)) rfl (by kernel_rfl) (by kernel_rfl) (by kernel_rfl) (fun _ _ _ h => h) (Or.inl ⟨by rfl, ?_⟩) hHeld ?_
      · intro u hu
        go_simp
      simp only [Act.put, List.getElem_toArray, List.getElem_cons_succ, List.getElem_cons_zero, List.setIfInBounds_toArray, List.set_cons_zero, List.set_cons_succ]
      refine wpAnyH_take (i := 3) (v := .pointer (some ⟨gn, k, none⟩)) rfl (by kernel_rfl) (by kernel_rfl) (by kernel_rfl) (fun _ _ _ h => h) (Or.inl ⟨by rfl, ?_⟩) hHeld ?_
      · intro u hu
        go_simp
      simp only [Act.put, List.getElem_toArray, List.getElem_cons_succ, List.getElem_cons_zero, List.setIfInBounds_toArray, List.set_cons_zero, List.set_cons_succ]
      refine wpAnyH_take (i := 4) (v := .string (nmK k)) rfl (by kernel_rfl) (by kernel_rfl) (by kernel_rfl) (fun _ _ _ h => h) (Or.inl ⟨by rfl, ?_⟩) hHeld ?_
      · intro u hu
        go_simp
      simp only [Act.put, List.getElem_toArray, List.getElem_cons_succ, List.getElem_cons_zero, List.setIfInBounds_toArray, List.set_cons_zero, List.set_cons_succ]
      refine wpAnyH_take (i := 6) (v := .int .i64 (t : Int)) rfl (by kernel_rfl) (by kernel_rfl) (by kernel_rfl) (fun _ _ _ h => h) (Or.inl ⟨by rfl, ?_⟩) hHeld ?_
      · intro u hu
        go_simp
      simp only [Act.put, List.getElem_toArray, List.getElem_cons_succ, List.getElem_cons_zero, List.setIfInBounds_toArray, List.set_cons_zero, List.set_cons_succ]
      refine wpAnyH_take (i := 10) (v := .int .i64 (t : Int)) rfl (by kernel_rfl) (by kernel_rfl) (by kernel_rfl) (fun _ _ _ h => h) (Or.inl ⟨by rfl, ?_⟩) hHeld ?_
      · intro u hu
        go_simp
      simp only [Act.put, List.getElem_toArray, List.getElem_cons_succ, List.getElem_cons_zero, List.setIfInBounds_toArray, List.set_cons_zero, List.set_cons_succ]
      refine wpAnyH_take (i := 15) (v := .int .i64 p) rfl (by kernel_rfl) (by kernel_rfl) (by kernel_rfl) (fun _ _ _ h => h) (Or.inl ⟨by rfl, ?_⟩) hHeld ?_
      · intro u hu
        go_simp
      simp only [Act.put, List.getElem_toArray, List.getElem_cons_succ, List.getElem_cons_zero, List.setIfInBounds_toArray, List.set_cons_zero, List.set_cons_succ]
      refine wpAnyH_take (i := 16) (v := .int .i64 (p / 8)) rfl (by kernel_rfl) (by kernel_rfl) (by kernel_rfl) (fun _ _ _ h => h) (Or.inl ⟨by rfl, ?_⟩) hHeld ?_
      · intro u hu
        go_simp
      simp only [Act.put, List.getElem_toArray, List.getElem_cons_succ, List.getElem_cons_zero, List.setIfInBounds_toArray, List.set_cons_zero, List.set_cons_succ]
      refine wpAnyH_take (i := 17) (v := .int .i64 (d : Int)) rfl (by kernel_rfl) (by kernel_rfl) (by kernel_rfl) (fun _ _ _ h => h) (Or.inl ⟨by rfl, ?_⟩) hHeld ?_
      · intro u hu
        go_simp
      simp only [Act.put, List.getElem_toArray, List.getElem_cons_succ, List.getElem_cons_zero, List.setIfInBounds_toArray, List.set_cons_zero, List.set_cons_succ]
      refine wpAnyH_take (i := 18) (v := .int .u8 (d : Int)) rfl (by kernel_rfl) (by kernel_rfl) (by kernel_rfl) (fun _ _ _ h => h) (Or.inl ⟨by rfl, ?_⟩) hHeld ?_
      · intro u hu
        go_simp
      simp only [Act.put, List.getElem_toArray, List.getElem_cons_succ, List.getElem_cons_zero, List.setIfInBounds_toArray, List.set_cons_zero, List.set_cons_succ]
      generalize wr.drew = W at HNAM HSEE HTHE HO HBW hHeld ⊢
      clear hHeld hnk
      refine wpAnyH_inv (fun l a u => (∃ (f5 f7 f8 f9 f11 f12 f13 f14 f19 f20 f21 f22 f23 : Bool) (b48 b50 b51 b52 b54 b55 b56 b57 b62 b63 b64 b65 b66 b67 : Value), l = #[true, true, true, true, true, f5, true, f7, f8, f9, true, f11, f12, f13, f14, true, true, true, true, f19, f20, f21, f22, f23, false, false] ∧ a = ⟨#[Value.slice (some ⟨gp, op, none⟩) n c, undef, Value.bool false, Value.slice (some ⟨gn, 0, none⟩) 4 4, Value.slice y j c1, Value.pointer (some ⟨gs, 0, none⟩), Value.pointer (some ⟨gt, 0, none⟩), Value.int IntKind.i64 (j : Int), Value.int IntKind.i64 p, Value.int IntKind.i64 (k : Int), Value.int IntKind.i64 (t : Int), u11, undef, undef, undef, undef, undef, undef, undef, undef, undef, Value.bool true, Value.bool false, Value.slice (some ⟨gn, 0, none⟩) 4 4, Value.int IntKind.i64 (j : Int), Value.slice (some ⟨gp, op, none⟩) n c, Value.int IntKind.i64 (n : Int), Value.bool true, Value.bool true, Value.int IntKind.i64 (j : Int), Value.bool true, Value.bool true, u32, u33, Value.slice (some ⟨gp, op, none⟩) n c, Value.int IntKind.i64 (j : Int), Value.pointer (some ⟨gp, op + j, none⟩), Value.int IntKind.i64 p, Value.int IntKind.i64 p, Value.int IntKind.i64 (k : Int), Value.int IntKind.i64 p, Value.int IntKind.i64 (p / 4), Value.int IntKind.i64 (t : Int), .slice y j c1, .slice (some ⟨gn, 0, none⟩) 4 4, .int .i64 (k : Int), .pointer (some ⟨gn, k, none⟩), .string (nmK k), b48, .int .i64 (t : Int), b50, b51, b52, .int .i64 (t : Int), b54, b55, b56, b57, .int .i64 p, .int .i64 (p / 8), .int .i64 (d : Int), .int .u8 (d : Int), b62, b63, b64, b65, b66, b67, u68, u69, u70, u71, u72, u73, u74, u75, u76, u77, u78, u79, u80, u81, u82, u83, undef, undef, undef, undef, undef, undef, undef, undef, undef, undef, undef, undef, undef, undef, undef, undef, undef, undef, undef, undef, undef, undef, undef, undef, undef, undef, undef, undef, undef, undef, undef, undef, undef, undef, undef, undef, undef, undef, undef, undef, undef, undef, undef, undef, undef, undef, undef, undef, undef, undef, undef, undef, undef, undef, undef, undef, undef, undef, undef, undef, undef, undef, undef, undef, undef, undef, undef, undef, undef, undef, undef, undef, undef, undef, undef, undef, undef, undef, undef, undef, undef], []⟩ ∧ Below W.heap.size W u ∧ Hid (f5 = true → At u #[.int .i64 1, .int .i64 28] 3 (fun g => .slice (some ⟨g, 0, none⟩) 2 2) b48) ∧ Hid (f7 = true → f5 = true ∧ At u #[.int .i64 1, .int .i64 28] 3 (fun g => .pointer (some ⟨g, t, none⟩)) b50) ∧ Hid (f8 = true → f7 = true ∧ b51 = .int .i64 (tyK t)) ∧ Hid (f9 = true → At u #[.int .i64 3, .int .i64 15] 3 (fun g => .slice (some ⟨g, 0, none⟩) 2 2) b52) ∧ Hid (f11 = true → f9 = true ∧ At u #[.int .i64 3, .int .i64 15] 3 (fun g => .pointer (some ⟨g, t, none⟩)) b54) ∧ Hid (f12 = true → f11 = true ∧ b55 = .int .i64 (zN t : Int)) ∧ Hid (f13 = true → f12 = true ∧ At u (madeCells #[Value.int .u8 0] (zN t)) 5 (fun g => .slice (some ⟨g, 0, none⟩) (zN t) (zN t)) b56) ∧ Hid (f14 = true → f13 = true ∧ b57 = .string (zB t)) ∧ Hid (f19 = true → At u #[.int .u8 (d : Int)] 5 (fun g => .slice (some ⟨g, 0, none⟩) 1 1) b62) ∧ Hid (f20 = true → f19 = true ∧ b63 = .string ⟨#[d.toUInt8]⟩) ∧ Hid (f21 = true → f14 = true ∧ f20 = true ∧ b64 = .string (daK t d)) ∧ Hid (f22 = true → f8 = true ∧ f21 = true ∧ b65 = .agg #[.string (nmK k), .int .i64 (tyK t), .int .i64 1, .int .i64 9, .string (daK t d)]) ∧ Hid (f23 = true → f22 = true ∧ At u #[.string (nmK k), .int .i64 (tyK t), .int .i64 1, .int .i64 9, .string (daK t d)] 43 (fun g => .slice (some ⟨g, 0, none⟩) 1 1) b66)) ∨ (∃ (b48 b50 b51 b52 b54 b55 b56 b57 b62 b63 b64 b65 b66 : Value) (y2 : Option Addr) (c2 : Nat), l = #[true, true, true, true, true, true, true, true, true, true, true, true, true, true, true, true, true, true, true, true, true, true, true, true, true, false] ∧ a = ⟨#[Value.slice (some ⟨gp, op, none⟩) n c, undef, Value.bool false, Value.slice (some ⟨gn, 0, none⟩) 4 4, Value.slice y j c1, Value.pointer (some ⟨gs, 0, none⟩), Value.pointer (some ⟨gt, 0, none⟩), Value.int IntKind.i64 (j : Int), Value.int IntKind.i64 p, Value.int IntKind.i64 (k : Int), Value.int IntKind.i64 (t : Int), u11, undef, undef, undef, undef, undef, undef, undef, undef, undef, Value.bool true, Value.bool false, Value.slice (some ⟨gn, 0, none⟩) 4 4, Value.int IntKind.i64 (j : Int), Value.slice (some ⟨gp, op, none⟩) n c, Value.int IntKind.i64 (n : Int), Value.bool true, Value.bool true, Value.int IntKind.i64 (j : Int), Value.bool true, Value.bool true, u32, u33, Value.slice (some ⟨gp, op, none⟩) n c, Value.int IntKind.i64 (j : Int), Value.pointer (some ⟨gp, op + j, none⟩), Value.int IntKind.i64 p, Value.int IntKind.i64 p, Value.int IntKind.i64 (k : Int), Value.int IntKind.i64 p, Value.int IntKind.i64 (p / 4), Value.int IntKind.i64 (t : Int), .slice y j c1, .slice (some ⟨gn, 0, none⟩) 4 4, .int .i64 (k : Int), .pointer (some ⟨gn, k, none⟩), .string (nmK k), b48, .int .i64 (t : Int), b50, b51, b52, .int .i64 (t : Int), b54, b55, b56, b57, .int .i64 p, .int .i64 (p / 8), .int .i64 (d : Int), .int .u8 (d : Int), b62, b63, b64, b65, b66, .slice y2 (j + 1) c2, u68, u69, u70, u71, u72, u73, u74, u75, u76, u77, u78, u79, u80, u81, u82, u83, undef, undef, undef, undef, undef, undef, undef, undef, undef, undef, undef, undef, undef, undef, undef, undef, undef, undef, undef, undef, undef, undef, undef, undef, undef, undef, undef, undef, undef, undef, undef, undef, undef, undef, undef, undef, undef, undef, undef, undef, undef, undef, undef, undef, undef, undef, undef, undef, undef, undef, undef, undef, undef, undef, undef, undef, undef, undef, undef, undef, undef, undef, undef, undef, undef, undef, undef, undef, undef, undef, undef, undef, undef, undef, undef, undef, undef, undef, undef, undef, undef], []⟩ ∧ Blk u gn #[.string ⟨#[1, 97, 0]⟩, .string ⟨#[1, 65, 0]⟩, .string ⟨#[1, 98, 0]⟩, .string ⟨#[0]⟩] 9 ∧ Blk u gs ((List.range 24).map (fun i => Value.bool (seenF ts i))).toArray 52 ∧ Blk u gt ((List.range 6).map (fun i => Value.bool (thereF ts i))).toArray 54 ∧ u.ownsRow w.heap.size 43 5 (.slice y2 (j + 1) c2) (j + 1) (rC (ts.map recK) ++ rV ⟨nmK k, tyK t, 1, 9, daK t d⟩) ∧ Below w.heap.size w u) ∨ (∃ (b48 b50 b51 b52 b54 b55 b56 b57 b62 b63 b64 b65 b66 : Value) (y2 : Option Addr) (c2 : Nat), l = #[true, true, true, true, true, true, true, true, true, true, true, true, true, true, true, true, true, true, true, true, true, true, true, true, true, true] ∧ a = ⟨#[Value.slice (some ⟨gp, op, none⟩) n c, undef, Value.bool false, Value.slice (some ⟨gn, 0, none⟩) 4 4, .slice y2 (j + 1) c2, Value.pointer (some ⟨gs, 0, none⟩), Value.pointer (some ⟨gt, 0, none⟩), Value.int IntKind.i64 (j : Int), Value.int IntKind.i64 p, Value.int IntKind.i64 (k : Int), Value.int IntKind.i64 (t : Int), u11, undef, undef, undef, undef, undef, undef, undef, undef, undef, Value.bool true, Value.bool false, Value.slice (some ⟨gn, 0, none⟩) 4 4, Value.int IntKind.i64 (j : Int), Value.slice (some ⟨gp, op, none⟩) n c, Value.int IntKind.i64 (n : Int), Value.bool true, Value.bool true, Value.int IntKind.i64 (j : Int), Value.bool true, Value.bool true, u32, u33, Value.slice (some ⟨gp, op, none⟩) n c, Value.int IntKind.i64 (j : Int), Value.pointer (some ⟨gp, op + j, none⟩), Value.int IntKind.i64 p, Value.int IntKind.i64 p, Value.int IntKind.i64 (k : Int), Value.int IntKind.i64 p, Value.int IntKind.i64 (p / 4), Value.int IntKind.i64 (t : Int), .slice y j c1, .slice (some ⟨gn, 0, none⟩) 4 4, .int .i64 (k : Int), .pointer (some ⟨gn, k, none⟩), .string (nmK k), b48, .int .i64 (t : Int), b50, b51, b52, .int .i64 (t : Int), b54, b55, b56, b57, .int .i64 p, .int .i64 (p / 8), .int .i64 (d : Int), .int .u8 (d : Int), b62, b63, b64, b65, b66, .slice y2 (j + 1) c2, u68, u69, u70, u71, u72, u73, u74, u75, u76, u77, u78, u79, u80, u81, u82, u83, undef, undef, undef, undef, undef, undef, undef, undef, undef, undef, undef, undef, undef, undef, undef, undef, undef, undef, undef, undef, undef, undef, undef, undef, undef, undef, undef, undef, undef, undef, undef, undef, undef, undef, undef, undef, undef, undef, undef, undef, undef, undef, undef, undef, undef, undef, undef, undef, undef, undef, undef, undef, undef, undef, undef, undef, undef, undef, undef, undef, undef, undef, undef, undef, undef, undef, undef, undef, undef, undef, undef, undef, undef, undef, undef, undef, undef, undef, undef, undef, undef], []⟩ ∧ Blk u gn #[.string ⟨#[1, 97, 0]⟩, .string ⟨#[1, 65, 0]⟩, .string ⟨#[1, 98, 0]⟩, .string ⟨#[0]⟩] 9 ∧ Blk u gs ((List.range 24).map (fun i => Value.bool (seenF ts i))).toArray 52 ∧ Blk u gt ((List.range 6).map (fun i => Value.bool (thereF ts i))).toArray 54 ∧ u.ownsRow w.heap.size 43 5 (.slice y2 (j + 1) c2) (j + 1) (rC (ts.map recK) ++ rV ⟨nmK k, tyK t, 1, 9, daK t d⟩) ∧ Below w.heap.size w u)) ?_ ?_ ?_ _ _ _ _ (by decide) (.inl ⟨false, false, false, false, false, false, false, false, false, false, false, false, false, u48, u50, u51, u52, u54, u55, u56, u57, u62, u63, u64, u65, u66, u67, rfl, rfl, Below.refl _ _, (fun h => by simp at h), (fun h => by simp at h), (fun h => by simp at h), (fun h => by simp at h), (fun h => by simp at h), (fun h => by simp at h), (fun h => by simp at h), (fun h => by simp at h), (fun h => by simp at h), (fun h => by simp at h), (fun h => by simp at h), (fun h => by simp at h), (fun h => by simp at h)⟩)
      · intro l a u hJ
        have key : ∀ {u : World}, Blk u gn #[.string ⟨#[1, 97, 0]⟩, .string ⟨#[1, 65, 0]⟩, .string ⟨#[1, 98, 0]⟩, .string ⟨#[0]⟩] 9 → u.cell? ⟨gn, k, none⟩ = some (.string (nmK k)) := fun hb => by rcases lt4 hk4 with e | e | e | e <;> subst e <;> exact hb.cell _
        rcases hJ with hJ | hJ | hJ
        · obtain ⟨f5, f7, f8, f9, f11, f12, f13, f14, f19, f20, f21, f22, f23, b48, b50, b51, b52, b54, b55, b56, b57, b62, b63, b64, b65, b66, b67, rfl, rfl, hbu, _⟩ := hJ
          exact key (HNAM.out.below hbu)
        · obtain ⟨b48, b50, b51, b52, b54, b55, b56, b57, b62, b63, b64, b65, b66, y2, c2, rfl, rfl, haft⟩ := hJ
          exact key haft.1
        · obtain ⟨b48, b50, b51, b52, b54, b55, b56, b57, b62, b63, b64, b65, b66, y2, c2, rfl, rfl, haft⟩ := hJ
          exact key haft.1
      · intro l a u hJ i hi o ho hall K hK
        have HK : Hid (∀ a' w', (fun l a u => (∃ (f5 f7 f8 f9 f11 f12 f13 f14 f19 f20 f21 f22 f23 : Bool) (b48 b50 b51 b52 b54 b55 b56 b57 b62 b63 b64 b65 b66 b67 : Value), l = #[true, true, true, true, true, f5, true, f7, f8, f9, true, f11, f12, f13, f14, true, true, true, true, f19, f20, f21, f22, f23, false, false] ∧ a = ⟨#[Value.slice (some ⟨gp, op, none⟩) n c, undef, Value.bool false, Value.slice (some ⟨gn, 0, none⟩) 4 4, Value.slice y j c1, Value.pointer (some ⟨gs, 0, none⟩), Value.pointer (some ⟨gt, 0, none⟩), Value.int IntKind.i64 (j : Int), Value.int IntKind.i64 p, Value.int IntKind.i64 (k : Int), Value.int IntKind.i64 (t : Int), u11, undef, undef, undef, undef, undef, undef, undef, undef, undef, Value.bool true, Value.bool false, Value.slice (some ⟨gn, 0, none⟩) 4 4, Value.int IntKind.i64 (j : Int), Value.slice (some ⟨gp, op, none⟩) n c, Value.int IntKind.i64 (n : Int), Value.bool true, Value.bool true, Value.int IntKind.i64 (j : Int), Value.bool true, Value.bool true, u32, u33, Value.slice (some ⟨gp, op, none⟩) n c, Value.int IntKind.i64 (j : Int), Value.pointer (some ⟨gp, op + j, none⟩), Value.int IntKind.i64 p, Value.int IntKind.i64 p, Value.int IntKind.i64 (k : Int), Value.int IntKind.i64 p, Value.int IntKind.i64 (p / 4), Value.int IntKind.i64 (t : Int), .slice y j c1, .slice (some ⟨gn, 0, none⟩) 4 4, .int .i64 (k : Int), .pointer (some ⟨gn, k, none⟩), .string (nmK k), b48, .int .i64 (t : Int), b50, b51, b52, .int .i64 (t : Int), b54, b55, b56, b57, .int .i64 p, .int .i64 (p / 8), .int .i64 (d : Int), .int .u8 (d : Int), b62, b63, b64, b65, b66, b67, u68, u69, u70, u71, u72, u73, u74, u75, u76, u77, u78, u79, u80, u81, u82, u83, undef, undef, undef, undef, undef, undef, undef, undef, undef, undef, undef, undef, undef, undef, undef, undef, undef, undef, undef, undef, undef, undef, undef, undef, undef, undef, undef, undef, undef, undef, undef, undef, undef, undef, undef, undef, undef, undef, undef, undef, undef, undef, undef, undef, undef, undef, undef, undef, undef, undef, undef, undef, undef, undef, undef, undef, undef, undef, undef, undef, undef, undef, undef, undef, undef, undef, undef, undef, undef, undef, undef, undef, undef, undef, undef, undef, undef, undef, undef, undef, undef], []⟩ ∧ Below W.heap.size W u ∧ Hid (f5 = true → At u #[.int .i64 1, .int .i64 28] 3 (fun g => .slice (some ⟨g, 0, none⟩) 2 2) b48) ∧ Hid (f7 = true → f5 = true ∧ At u #[.int .i64 1, .int .i64 28] 3 (fun g => .pointer (some ⟨g, t, none⟩)) b50) ∧ Hid (f8 = true → f7 = true ∧ b51 = .int .i64 (tyK t)) ∧ Hid (f9 = true → At u #[.int .i64 3, .int .i64 15] 3 (fun g => .slice (some ⟨g, 0, none⟩) 2 2) b52) ∧ Hid (f11 = true → f9 = true ∧ At u #[.int .i64 3, .int .i64 15] 3 (fun g => .pointer (some ⟨g, t, none⟩)) b54) ∧ Hid (f12 = true → f11 = true ∧ b55 = .int .i64 (zN t : Int)) ∧ Hid (f13 = true → f12 = true ∧ At u (madeCells #[Value.int .u8 0] (zN t)) 5 (fun g => .slice (some ⟨g, 0, none⟩) (zN t) (zN t)) b56) ∧ Hid (f14 = true → f13 = true ∧ b57 = .string (zB t)) ∧ Hid (f19 = true → At u #[.int .u8 (d : Int)] 5 (fun g => .slice (some ⟨g, 0, none⟩) 1 1) b62) ∧ Hid (f20 = true → f19 = true ∧ b63 = .string ⟨#[d.toUInt8]⟩) ∧ Hid (f21 = true → f14 = true ∧ f20 = true ∧ b64 = .string (daK t d)) ∧ Hid (f22 = true → f8 = true ∧ f21 = true ∧ b65 = .agg #[.string (nmK k), .int .i64 (tyK t), .int .i64 1, .int .i64 9, .string (daK t d)]) ∧ Hid (f23 = true → f22 = true ∧ At u #[.string (nmK k), .int .i64 (tyK t), .int .i64 1, .int .i64 9, .string (daK t d)] 43 (fun g => .slice (some ⟨g, 0, none⟩) 1 1) b66)) ∨ (∃ (b48 b50 b51 b52 b54 b55 b56 b57 b62 b63 b64 b65 b66 : Value) (y2 : Option Addr) (c2 : Nat), l = #[true, true, true, true, true, true, true, true, true, true, true, true, true, true, true, true, true, true, true, true, true, true, true, true, true, false] ∧ a = ⟨#[Value.slice (some ⟨gp, op, none⟩) n c, undef, Value.bool false, Value.slice (some ⟨gn, 0, none⟩) 4 4, Value.slice y j c1, Value.pointer (some ⟨gs, 0, none⟩), Value.pointer (some ⟨gt, 0, none⟩), Value.int IntKind.i64 (j : Int), Value.int IntKind.i64 p, Value.int IntKind.i64 (k : Int), Value.int IntKind.i64 (t : Int), u11, undef, undef, undef, undef, undef, undef, undef, undef, undef, Value.bool true, Value.bool false, Value.slice (some ⟨gn, 0, none⟩) 4 4, Value.int IntKind.i64 (j : Int), Value.slice (some ⟨gp, op, none⟩) n c, Value.int IntKind.i64 (n : Int), Value.bool true, Value.bool true, Value.int IntKind.i64 (j : Int), Value.bool true, Value.bool true, u32, u33, Value.slice (some ⟨gp, op, none⟩) n c, Value.int IntKind.i64 (j : Int), Value.pointer (some ⟨gp, op + j, none⟩), Value.int IntKind.i64 p, Value.int IntKind.i64 p, Value.int IntKind.i64 (k : Int), Value.int IntKind.i64 p, Value.int IntKind.i64 (p / 4), Value.int IntKind.i64 (t : Int), .slice y j c1, .slice (some ⟨gn, 0, none⟩) 4 4, .int .i64 (k : Int), .pointer (some ⟨gn, k, none⟩), .string (nmK k), b48, .int .i64 (t : Int), b50, b51, b52, .int .i64 (t : Int), b54, b55, b56, b57, .int .i64 p, .int .i64 (p / 8), .int .i64 (d : Int), .int .u8 (d : Int), b62, b63, b64, b65, b66, .slice y2 (j + 1) c2, u68, u69, u70, u71, u72, u73, u74, u75, u76, u77, u78, u79, u80, u81, u82, u83, undef, undef, undef, undef, undef, undef, undef, undef, undef, undef, undef, undef, undef, undef, undef, undef, undef, undef, undef, undef, undef, undef, undef, undef, undef, undef, undef, undef, undef, undef, undef, undef, undef, undef, undef, undef, undef, undef, undef, undef, undef, undef, undef, undef, undef, undef, undef, undef, undef, undef, undef, undef, undef, undef, undef, undef, undef, undef, undef, undef, undef, undef, undef, undef, undef, undef, undef, undef, undef, undef, undef, undef, undef, undef, undef, undef, undef, undef, undef, undef, undef], []⟩ ∧ Blk u gn #[.string ⟨#[1, 97, 0]⟩, .string ⟨#[1, 65, 0]⟩, .string ⟨#[1, 98, 0]⟩, .string ⟨#[0]⟩] 9 ∧ Blk u gs ((List.range 24).map (fun i => Value.bool (seenF ts i))).toArray 52 ∧ Blk u gt ((List.range 6).map (fun i => Value.bool (thereF ts i))).toArray 54 ∧ u.ownsRow w.heap.size 43 5 (.slice y2 (j + 1) c2) (j + 1) (rC (ts.map recK) ++ rV ⟨nmK k, tyK t, 1, 9, daK t d⟩) ∧ Below w.heap.size w u) ∨ (∃ (b48 b50 b51 b52 b54 b55 b56 b57 b62 b63 b64 b65 b66 : Value) (y2 : Option Addr) (c2 : Nat), l = #[true, true, true, true, true, true, true, true, true, true, true, true, true, true, true, true, true, true, true, true, true, true, true, true, true, true] ∧ a = ⟨#[Value.slice (some ⟨gp, op, none⟩) n c, undef, Value.bool false, Value.slice (some ⟨gn, 0, none⟩) 4 4, .slice y2 (j + 1) c2, Value.pointer (some ⟨gs, 0, none⟩), Value.pointer (some ⟨gt, 0, none⟩), Value.int IntKind.i64 (j : Int), Value.int IntKind.i64 p, Value.int IntKind.i64 (k : Int), Value.int IntKind.i64 (t : Int), u11, undef, undef, undef, undef, undef, undef, undef, undef, undef, Value.bool true, Value.bool false, Value.slice (some ⟨gn, 0, none⟩) 4 4, Value.int IntKind.i64 (j : Int), Value.slice (some ⟨gp, op, none⟩) n c, Value.int IntKind.i64 (n : Int), Value.bool true, Value.bool true, Value.int IntKind.i64 (j : Int), Value.bool true, Value.bool true, u32, u33, Value.slice (some ⟨gp, op, none⟩) n c, Value.int IntKind.i64 (j : Int), Value.pointer (some ⟨gp, op + j, none⟩), Value.int IntKind.i64 p, Value.int IntKind.i64 p, Value.int IntKind.i64 (k : Int), Value.int IntKind.i64 p, Value.int IntKind.i64 (p / 4), Value.int IntKind.i64 (t : Int), .slice y j c1, .slice (some ⟨gn, 0, none⟩) 4 4, .int .i64 (k : Int), .pointer (some ⟨gn, k, none⟩), .string (nmK k), b48, .int .i64 (t : Int), b50, b51, b52, .int .i64 (t : Int), b54, b55, b56, b57, .int .i64 p, .int .i64 (p / 8), .int .i64 (d : Int), .int .u8 (d : Int), b62, b63, b64, b65, b66, .slice y2 (j + 1) c2, u68, u69, u70, u71, u72, u73, u74, u75, u76, u77, u78, u79, u80, u81, u82, u83, undef, undef, undef, undef, undef, undef, undef, undef, undef, undef, undef, undef, undef, undef, undef, undef, undef, undef, undef, undef, undef, undef, undef, undef, undef, undef, undef, undef, undef, undef, undef, undef, undef, undef, undef, undef, undef, undef, undef, undef, undef, undef, undef, undef, undef, undef, undef, undef, undef, undef, undef, undef, undef, undef, undef, undef, undef, undef, undef, undef, undef, undef, undef, undef, undef, undef, undef, undef, undef, undef, undef, undef, undef, undef, undef, undef, undef, undef, undef, undef, undef], []⟩ ∧ Blk u gn #[.string ⟨#[1, 97, 0]⟩, .string ⟨#[1, 65, 0]⟩, .string ⟨#[1, 98, 0]⟩, .string ⟨#[0]⟩] 9 ∧ Blk u gs ((List.range 24).map (fun i => Value.bool (seenF ts i))).toArray 52 ∧ Blk u gt ((List.range 6).map (fun i => Value.bool (thereF ts i))).toArray 54 ∧ u.ownsRow w.heap.size 43 5 (.slice y2 (j + 1) c2) (j + 1) (rC (ts.map recK) ++ rV ⟨nmK k, tyK t, 1, 9, daK t d⟩) ∧ Below w.heap.size w u)) (l.setIfInBounds i true) a' w' → K a' w') := hK
        clear hK
        rcases hJ with hJ | hJ | hJ
        rotate_left
        · obtain ⟨b48, b50, b51, b52, b54, b55, b56, b57, b62, b63, b64, b65, b66, y2, c2, rfl, rfl, haft⟩ := hJ
          match i, hi, ho, hall, HK with
          | 0, hi, _, _, _ => exact absurd (show true = false from hi) (by decide)
          | 1, hi, _, _, _ => exact absurd (show true = false from hi) (by decide)
          | 2, hi, _, _, _ => exact absurd (show true = false from hi) (by decide)
          | 3, hi, _, _, _ => exact absurd (show true = false from hi) (by decide)
          | 4, hi, _, _, _ => exact absurd (show true = false from hi) (by decide)
          | 5, hi, _, _, _ => exact absurd (show true = false from hi) (by decide)
          | 6, hi, _, _, _ => exact absurd (show true = false from hi) (by decide)
          | 7, hi, _, _, _ => exact absurd (show true = false from hi) (by decide)
          | 8, hi, _, _, _ => exact absurd (show true = false from hi) (by decide)
          | 9, hi, _, _, _ => exact absurd (show true = false from hi) (by decide)
          | 10, hi, _, _, _ => exact absurd (show true = false from hi) (by decide)
          | 11, hi, _, _, _ => exact absurd (show true = false from hi) (by decide)
          | 12, hi, _, _, _ => exact absurd (show true = false from hi) (by decide)
          | 13, hi, _, _, _ => exact absurd (show true = false from hi) (by decide)
          | 14, hi, _, _, _ => exact absurd (show true = false from hi) (by decide)
          | 15, hi, _, _, _ => exact absurd (show true = false from hi) (by decide)
          | 16, hi, _, _, _ => exact absurd (show true = false from hi) (by decide)
          | 17, hi, _, _, _ => exact absurd (show true = false from hi) (by decide)
          | 18, hi, _, _, _ => exact absurd (show true = false from hi) (by decide)
          | 19, hi, _, _, _ => exact absurd (show true = false from hi) (by decide)
          | 20, hi, _, _, _ => exact absurd (show true = false from hi) (by decide)
          | 21, hi, _, _, _ => exact absurd (show true = false from hi) (by decide)
          | 22, hi, _, _, _ => exact absurd (show true = false from hi) (by decide)
          | 23, hi, _, _, _ => exact absurd (show true = false from hi) (by decide)
          | 24, hi, _, _, _ => exact absurd (show true = false from hi) (by decide)
          | 25, hi, ho, hall, HK =>
            simp at ho
            subst ho
            go_simp
            exact HK.out _ _ (.inr (.inr ⟨b48, b50, b51, b52, b54, b55, b56, b57, b62, b63, b64, b65, b66, y2, c2, rfl, rfl, haft⟩))
          | m + 26, hi, _, _, _ =>
            rw [Array.getD_eq_getD_getElem?, Array.getElem?_eq_none (by show 26 ≤ m + 26; omega)] at hi
            simp at hi
        · obtain ⟨b48, b50, b51, b52, b54, b55, b56, b57, b62, b63, b64, b65, b66, y2, c2, rfl, _⟩ := hJ
          rw [all26] at hi
          simp at hi
        obtain ⟨f5, f7, f8, f9, f11, f12, f13, f14, f19, f20, f21, f22, f23, b48, b50, b51, b52, b54, b55, b56, b57, b62, b63, b64, b65, b66, b67, rfl, rfl, hbu, F5, F7, F8, F9, F11, F12, F13, F14, F19, F20, F21, F22, F23⟩ := hJ
        match i, hi, ho, hall, HK with
        | 0, hi, _, _, _ => exact absurd (show true = false from hi) (by decide)
        | 1, hi, _, _, _ => exact absurd (show true = false from hi) (by decide)
        | 2, hi, _, _, _ => exact absurd (show true = false from hi) (by decide)
        | 3, hi, _, _, _ => exact absurd (show true = false from hi) (by decide)
        | 4, hi, _, _, _ => exact absurd (show true = false from hi) (by decide)
        | 5, hi, ho, hall, HK =>
          have hf : f5 = false := hi
          subst hf
          simp at ho
          subst ho
          go_simp
          exact HK.out _ _ (.inl ⟨true, f7, f8, f9, f11, f12, f13, f14, f19, f20, f21, f22, f23, .slice (some ⟨u.heap.size, 0, none⟩) 2 2, b50, b51, b52, b54, b55, b56, b57, b62, b63, b64, b65, b66, b67, rfl, rfl, lay hbu _, (fun _ => ⟨_, rfl, Blk.new u _ _⟩), (fun h => absurd (F7.out h).1 (by decide)), F8, (fun h => (F9.out h).alloc _), (fun h => ⟨(F11.out h).1, (F11.out h).2.alloc _⟩), F12, (fun h => ⟨(F13.out h).1, (F13.out h).2.alloc _⟩), F14, (fun h => (F19.out h).alloc _), F20, F21, F22, (fun h => ⟨(F23.out h).1, (F23.out h).2.alloc _⟩)⟩)
        | 6, hi, _, _, _ => exact absurd (show true = false from hi) (by decide)
        | 7, hi, ho, hall, HK =>
          have hf : f7 = false := hi
          subst hf
          simp at ho
          subst ho
          have e5 : f5 = true := hall ⟨5, .data⟩ (by simp) rfl
          obtain ⟨g5, r5, k5⟩ := (F5.out e5)
          subst r5
          go_simp
          exact HK.out _ _ (.inl ⟨_, true, f8, f9, f11, f12, f13, f14, f19, f20, f21, f22, f23, _, _, b51, b52, b54, b55, b56, b57, b62, b63, b64, b65, b66, b67, rfl, rfl, hbu, F5, (fun _ => ⟨e5, _, rfl, k5⟩), (fun h => absurd (F8.out h).1 (by decide)), F9, F11, F12, F13, F14, F19, F20, F21, F22, F23⟩)
        | 8, hi, ho, hall, HK =>
          have hf : f8 = false := hi
          subst hf
          simp at ho
          subst ho
          have e7 : f7 = true := hall ⟨7, .data⟩ (by simp) rfl
          obtain ⟨g7, r7, k7⟩ := (F7.out e7).2
          subst r7
          have c0 : u.cell? ⟨g7, t, none⟩ = some (.int .i64 (tyK t)) := by rcases lt2 ht2 with e | e <;> subst e <;> exact k7.cell _
          go_simp
          exact HK.out _ _ (.inl ⟨f5, _, true, f9, f11, f12, f13, f14, f19, f20, f21, f22, f23, b48, _, _, b52, b54, b55, b56, b57, b62, b63, b64, b65, b66, b67, rfl, rfl, hbu, F5, F7, (fun _ => ⟨e7, rfl⟩), F9, F11, F12, F13, F14, F19, F20, F21, (fun h => absurd (F22.out h).1 (by decide)), F23⟩)
        | 9, hi, ho, hall, HK =>
          have hf : f9 = false := hi
          subst hf
          simp at ho
          subst ho
          go_simp
          exact HK.out _ _ (.inl ⟨f5, f7, f8, true, f11, f12, f13, f14, f19, f20, f21, f22, f23, b48, b50, b51, .slice (some ⟨u.heap.size, 0, none⟩) 2 2, b54, b55, b56, b57, b62, b63, b64, b65, b66, b67, rfl, rfl, lay hbu _, (fun h => (F5.out h).alloc _), (fun h => ⟨(F7.out h).1, (F7.out h).2.alloc _⟩), F8, (fun _ => ⟨_, rfl, Blk.new u _ _⟩), (fun h => absurd (F11.out h).1 (by decide)), F12, (fun h => ⟨(F13.out h).1, (F13.out h).2.alloc _⟩), F14, (fun h => (F19.out h).alloc _), F20, F21, F22, (fun h => ⟨(F23.out h).1, (F23.out h).2.alloc _⟩)⟩)
        | 10, hi, _, _, _ => exact absurd (show true = false from hi) (by decide)
        | 11, hi, ho, hall, HK =>
          have hf : f11 = false := hi
          subst hf
          simp at ho
          subst ho
          have e9 : f9 = true := hall ⟨9, .data⟩ (by simp) rfl
          obtain ⟨g9, r9, k9⟩ := (F9.out e9)
          subst r9
          go_simp
          exact HK.out _ _ (.inl ⟨f5, f7, f8, _, true, f12, f13, f14, f19, f20, f21, f22, f23, b48, b50, b51, _, _, b55, b56, b57, b62, b63, b64, b65, b66, b67, rfl, rfl, hbu, F5, F7, F8, F9, (fun _ => ⟨e9, _, rfl, k9⟩), (fun h => absurd (F12.out h).1 (by decide)), F13, F14, F19, F20, F21, F22, F23⟩)
        | 12, hi, ho, hall, HK =>
          have hf : f12 = false := hi
          subst hf
          simp at ho
          subst ho
          have e11 : f11 = true := hall ⟨11, .data⟩ (by simp) rfl
          obtain ⟨g11, r11, k11⟩ := (F11.out e11).2
          subst r11
          have c0 : u.cell? ⟨g11, t, none⟩ = some (.int .i64 (zN t : Int)) := by rcases lt2 ht2 with e | e <;> subst e <;> exact k11.cell _
          go_simp
          exact HK.out _ _ (.inl ⟨f5, f7, f8, f9, _, true, f13, f14, f19, f20, f21, f22, f23, b48, b50, b51, b52, _, _, b56, b57, b62, b63, b64, b65, b66, b67, rfl, rfl, hbu, F5, F7, F8, F9, F11, (fun _ => ⟨e11, rfl⟩), (fun h => absurd (F13.out h).1 (by decide)), F14, F19, F20, F21, F22, F23⟩)
        | 13, hi, ho, hall, HK =>
          have hf : f13 = false := hi
          subst hf
          simp at ho
          subst ho
          have e12 : f12 = true := hall ⟨12, .data⟩ (by simp) rfl
          have r12 := (F12.out e12).2
          subst r12
          have c0 := hmk.out u
          go_simp
          exact HK.out _ _ (.inl ⟨f5, f7, f8, f9, f11, _, true, f14, f19, f20, f21, f22, f23, b48, b50, b51, b52, b54, _, .slice (some ⟨u.heap.size, 0, none⟩) (zN t) (zN t), b57, b62, b63, b64, b65, b66, b67, rfl, rfl, lay hbu _, (fun h => (F5.out h).alloc _), (fun h => ⟨(F7.out h).1, (F7.out h).2.alloc _⟩), F8, (fun h => (F9.out h).alloc _), (fun h => ⟨(F11.out h).1, (F11.out h).2.alloc _⟩), F12, (fun _ => ⟨e12, _, rfl, Blk.new u _ _⟩), (fun h => absurd (F14.out h).1 (by decide)), (fun h => (F19.out h).alloc _), F20, F21, F22, (fun h => ⟨(F23.out h).1, (F23.out h).2.alloc _⟩)⟩)
        | 14, hi, ho, hall, HK =>
          have hf : f14 = false := hi
          subst hf
          simp at ho
          subst ho
          have e13 : f13 = true := hall ⟨13, .data⟩ (by simp) rfl
          obtain ⟨g13, r13, k13⟩ := (F13.out e13).2
          subst r13
          have c0 := zero_str u g13 ht2 k13
          go_simp
          exact HK.out _ _ (.inl ⟨f5, f7, f8, f9, f11, f12, _, true, f19, f20, f21, f22, f23, b48, b50, b51, b52, b54, b55, _, _, b62, b63, b64, b65, b66, b67, rfl, rfl, hbu, F5, F7, F8, F9, F11, F12, F13, (fun _ => ⟨e13, rfl⟩), F19, F20, (fun h => absurd (F21.out h).1 (by decide)), F22, F23⟩)
        | 15, hi, _, _, _ => exact absurd (show true = false from hi) (by decide)
        | 16, hi, _, _, _ => exact absurd (show true = false from hi) (by decide)
        | 17, hi, _, _, _ => exact absurd (show true = false from hi) (by decide)
        | 18, hi, _, _, _ => exact absurd (show true = false from hi) (by decide)
        | 19, hi, ho, hall, HK =>
          have hf : f19 = false := hi
          subst hf
          simp at ho
          subst ho
          go_simp
          exact HK.out _ _ (.inl ⟨f5, f7, f8, f9, f11, f12, f13, f14, true, f20, f21, f22, f23, b48, b50, b51, b52, b54, b55, b56, b57, .slice (some ⟨u.heap.size, 0, none⟩) 1 1, b63, b64, b65, b66, b67, rfl, rfl, lay hbu _, (fun h => (F5.out h).alloc _), (fun h => ⟨(F7.out h).1, (F7.out h).2.alloc _⟩), F8, (fun h => (F9.out h).alloc _), (fun h => ⟨(F11.out h).1, (F11.out h).2.alloc _⟩), F12, (fun h => ⟨(F13.out h).1, (F13.out h).2.alloc _⟩), F14, (fun _ => ⟨_, rfl, Blk.new u _ _⟩), (fun h => absurd (F20.out h).1 (by decide)), F21, F22, (fun h => ⟨(F23.out h).1, (F23.out h).2.alloc _⟩)⟩)
        | 20, hi, ho, hall, HK =>
          have hf : f20 = false := hi
          subst hf
          simp at ho
          subst ho
          have e19 : f19 = true := hall ⟨19, .data⟩ (by simp) rfl
          obtain ⟨g19, r19, k19⟩ := (F19.out e19)
          subst r19
          have c0 := one_str d u g19 (by omega) k19
          go_simp
          exact HK.out _ _ (.inl ⟨f5, f7, f8, f9, f11, f12, f13, f14, _, true, f21, f22, f23, b48, b50, b51, b52, b54, b55, b56, b57, _, _, b64, b65, b66, b67, rfl, rfl, hbu, F5, F7, F8, F9, F11, F12, F13, F14, F19, (fun _ => ⟨e19, rfl⟩), (fun h => absurd (F21.out h).2.1 (by decide)), F22, F23⟩)
        | 21, hi, ho, hall, HK =>
          have hf : f21 = false := hi
          subst hf
          simp at ho
          subst ho
          have e14 : f14 = true := hall ⟨14, .data⟩ (by simp) rfl
          have r14 := (F14.out e14).2
          subst r14
          have e20 : f20 = true := hall ⟨20, .data⟩ (by simp) rfl
          have r20 := (F20.out e20).2
          subst r20
          have c0 := hadd.out u
          go_simp
          exact HK.out _ _ (.inl ⟨f5, f7, f8, f9, f11, f12, f13, _, f19, _, true, f22, f23, b48, b50, b51, b52, b54, b55, b56, _, b62, _, _, b65, b66, b67, rfl, rfl, hbu, F5, F7, F8, F9, F11, F12, F13, F14, F19, F20, (fun _ => ⟨e14, e20, rfl⟩), (fun h => absurd (F22.out h).2.1 (by decide)), F23⟩)
        | 22, hi, ho, hall, HK =>
          have hf : f22 = false := hi
          subst hf
          simp at ho
          subst ho
          have e8 : f8 = true := hall ⟨8, .data⟩ (by simp) rfl
          have r8 := (F8.out e8).2
          subst r8
          have e21 : f21 = true := hall ⟨21, .data⟩ (by simp) rfl
          have r21 := (F21.out e21).2.2
          subst r21
          go_simp
          exact HK.out _ _ (.inl ⟨f5, f7, _, f9, f11, f12, f13, f14, f19, f20, _, true, f23, b48, b50, _, b52, b54, b55, b56, b57, b62, b63, _, _, b66, b67, rfl, rfl, hbu, F5, F7, F8, F9, F11, F12, F13, F14, F19, F20, F21, (fun _ => ⟨e8, e21, rfl⟩), (fun h => absurd (F23.out h).1 (by decide))⟩)
        | 23, hi, ho, hall, HK =>
          have hf : f23 = false := hi
          subst hf
          simp at ho
          subst ho
          have e22 : f22 = true := hall ⟨22, .data⟩ (by simp) rfl
          have r22 := (F22.out e22).2.2
          subst r22
          go_simp
          exact HK.out _ _ (.inl ⟨f5, f7, f8, f9, f11, f12, f13, f14, f19, f20, f21, _, true, b48, b50, b51, b52, b54, b55, b56, b57, b62, b63, b64, _, .slice (some ⟨u.heap.size, 0, none⟩) 1 1, b67, rfl, rfl, lay hbu _, (fun h => (F5.out h).alloc _), (fun h => ⟨(F7.out h).1, (F7.out h).2.alloc _⟩), F8, (fun h => (F9.out h).alloc _), (fun h => ⟨(F11.out h).1, (F11.out h).2.alloc _⟩), F12, (fun h => ⟨(F13.out h).1, (F13.out h).2.alloc _⟩), F14, (fun h => (F19.out h).alloc _), F20, F21, F22, (fun _ => ⟨e22, _, rfl, Blk.new u _ _⟩)⟩)
        | 24, hi, ho, hall, HK =>
          simp at ho
          subst ho
          have e23 : f23 = true := hall ⟨23, .data⟩ (by simp) rfl
          obtain ⟨e22, g23, r23, k23⟩ := F23.out e23
          obtain ⟨e8, e21, r22⟩ := F22.out e22
          obtain ⟨e14, e20, r21⟩ := F21.out e21
          obtain ⟨e13, r14⟩ := F14.out e14
          obtain ⟨e12, q13⟩ := F13.out e13
          obtain ⟨e11, r12⟩ := F12.out e12
          obtain ⟨e9, q11⟩ := F11.out e11
          obtain ⟨e19, r20⟩ := F20.out e20
          obtain ⟨e7, r8⟩ := F8.out e8
          obtain ⟨e5, q7⟩ := F7.out e7
          subst e5 e7 e8 e9 e11 e12 e13 e14 e19 e20 e21 e22 e23 r23
          have ou : u.ownsRow w.heap.size 43 5 (.slice y j c1) j (rC (ts.map recK)) := own_past HO.out hbu
          have bu : Below w.heap.size w u := next HBW.out hbu
          refine step_appG _ (by rfl) (.tmp 43) (.tmp 66) 22 43 i0 _ 5 56 Try.underlying22 hi0 hz0 hz1 hz2 rfl (by decide) (by rfl) w.heap.size _ j (rC (ts.map recK)) (by rfl) ou _ 1 (rV ⟨nmK k, tyK t, 1, 9, daK t d⟩) (by rfl) (Row.of_blk k23 rfl 1 1) rfl (fun u hu => rC_one [⟨nmK k, tyK t, 1, 9, daK t d⟩] u (by simpa [rC] using hu)) (by omega) (by unfold maxLen; omega) bu.size ?_
          intro v3 w3 h1 h3 _
          obtain ⟨y3, c3, rfl⟩ := row_shape h1
          have sep : ∀ {g : Nat} {C : Array Value} {ty : TypeId}, Blk u g C ty → ty ≠ 43 → Blk w3 g C ty := fun hk hne => hk.grown h3 (fun e => own_sepT ou hk hne e.symm)
          exact HK.out _ _ (.inr (.inl ⟨b48, b50, b51, b52, b54, b55, b56, b57, b62, b63, b64, b65, _, y3, c3, rfl, rfl, sep (HNAM.out.below hbu) (by decide), sep (HSEE.out.below hbu) (by decide), sep (HTHE.out.below hbu) (by decide), h1, bu.grown h3 bu.size (fun k e => (ou.lt k e).1)⟩))
        | 25, hi, ho, hall, HK => exact absurd (show false = true from hall ⟨24, .data⟩ (by simp at ho; subst ho; simp) rfl) (by decide)
        | m + 26, hi, _, _, _ =>
          rw [Array.getD_eq_getD_getElem?, Array.getElem?_eq_none (by show 26 ≤ m + 26; omega)] at hi
          simp at hi
      · intro l a u hJ hr
        have hall : ∀ i, l.getD i true = true := ready_nil (by kernel_rfl) (by rcases hJ with ⟨f5, f7, f8, f9, f11, f12, f13, f14, f19, f20, f21, f22, f23, b48, b50, b51, b52, b54, b55, b56, b57, b62, b63, b64, b65, b66, b67, rfl, _⟩ | ⟨b48, b50, b51, b52, b54, b55, b56, b57, b62, b63, b64, b65, b66, y2, c2, rfl, _⟩ | ⟨b48, b50, b51, b52, b54, b55, b56, b57, b62, b63, b64, b65, b66, y2, c2, rfl, _⟩ <;> rfl) hr
        rcases hJ with hJ | hJ | hJ
        · obtain ⟨f5, f7, f8, f9, f11, f12, f13, f14, f19, f20, f21, f22, f23, b48, b50, b51, b52, b54, b55, b56, b57, b62, b63, b64, b65, b66, b67, rfl, _⟩ := hJ
          exact absurd (show false = true from hall 25) (by decide)
        · obtain ⟨b48, b50, b51, b52, b54, b55, b56, b57, b62, b63, b64, b65, b66, y2, c2, rfl, _⟩ := hJ
          exact absurd (show false = true from hall 25) (by decide)
        · obtain ⟨b48, b50, b51, b52, b54, b55, b56, b57, b62, b63, b64, b65, b66, y2, c2, rfl, rfl, haft⟩ := hJ
          clear hr hall
      -- region ends
          dsimp only
          obtain ⟨kn, ks, kt, ko, kb⟩ := haft
          obtain ⟨m, hm⟩ : ∃ m, m = mK k := ⟨_, rfl⟩
          have hm3 : m < 3 := by rw [hm]; exact mK_lt k
          have hm3' : (m : Int) < 3 := by omega
          have c4 : (u.alloc (.cells #[.int .i64 0, .int .i64 0, .int .i64 1, .int .i64 2] 3)).cell? ⟨u.heap.size, k, none⟩ = some (.int .i64 (m : Int)) := by
            rw [hm]; rcases lt4 hk4 with e | e | e | e <;> subst e <;> exact (Blk.new u _ _).cell _
          have q1 : (u.alloc (.cells #[.int .i64 0, .int .i64 0, .int .i64 1, .int .i64 2] 3)).cell? ⟨gt, m * 2 + t, none⟩ = some (.bool (thereF ts (m * 2 + t))) := by rw [(kt.alloc _).cell, bools_at _ (by omega)]
          have q2 : (u.alloc (.cells #[.int .i64 0, .int .i64 0, .int .i64 1, .int .i64 2] 3)).frozen? ⟨gt, m * 2 + t, none⟩ = false := (kt.alloc _).frozen _
          have hgst : gs ≠ gt ∧ gn ≠ gt ∧ gn ≠ gs := by have := HGG.out; omega
          have ks2 : Blk ((u.alloc (.cells #[.int .i64 0, .int .i64 0, .int .i64 1, .int .i64 2] 3)).setCell ⟨gt, m * 2 + t, none⟩ (.bool true)) gs ((List.range 24).map (fun i => Value.bool (seenF ts i))).toArray 52 := (ks.alloc _).other hgst.1 _ _
          have q3 : ((u.alloc (.cells #[.int .i64 0, .int .i64 0, .int .i64 1, .int .i64 2] 3)).setCell ⟨gt, m * 2 + t, none⟩ (.bool true)).cell? ⟨gs, m * 8 + t * 4 + d, none⟩ = some (.bool (seenF ts (m * 8 + t * 4 + d))) := by rw [ks2.cell, bools_at _ (by omega)]
          have q4 : ((u.alloc (.cells #[.int .i64 0, .int .i64 0, .int .i64 1, .int .i64 2] 3)).setCell ⟨gt, m * 2 + t, none⟩ (.bool true)).frozen? ⟨gs, m * 8 + t * 4 + d, none⟩ = false := ks2.frozen _
          have HSN : Hid (SAt w gn gs gt (((u.alloc (.cells #[.int .i64 0, .int .i64 0, .int .i64 1, .int .i64 2] 3)).setCell ⟨gt, m * 2 + t, none⟩ (.bool true)).setCell ⟨gs, m * 8 + t * 4 + d, none⟩ (.bool true)) (.slice y2 (j + 1) c2) (ts ++ [⟨k, t, d⟩])) := by
            have hg := HGG.out
            refine ⟨((kn.alloc _).other hgst.2.1 _ _).other hgst.2.2 _ _, ?_, ?_, ?_, ?_, ?_⟩
            · have h1 := ks2.set (m * 8 + t * 4 + d) (.bool true)
              rw [set_bools] at h1
              have e : (fun i => Value.bool (seenF (ts ++ [⟨k, t, d⟩]) i)) = (fun i => Value.bool (seenF ts i || decide (m * 8 + t * 4 + d = i))) := by
                funext i
                rw [seenF_snoc]
                simp only [← hm]
                rw [show (m * 2 + t) * 4 + d = m * 8 + t * 4 + d from by omega]
              rw [e]
              exact h1
            · have h1 := ((kt.alloc (.cells #[.int .i64 0, .int .i64 0, .int .i64 1, .int .i64 2] 3)).set (m * 2 + t) (.bool true)).other (Ne.symm hgst.1) (m * 8 + t * 4 + d) (.bool true)
              rw [set_bools] at h1
              have e : (fun i => Value.bool (thereF (ts ++ [⟨k, t, d⟩]) i)) = (fun i => Value.bool (thereF ts i || decide (m * 2 + t = i))) := by
                funext i
                rw [thereF_snoc]
                simp only [← hm]
              rw [e]
              exact h1
            · have T1 := Turn.of_set (S := fun i => i = gt) (u.alloc (.cells #[.int .i64 0, .int .i64 0, .int .i64 1, .int .i64 2] 3)) (p := ⟨gt, m * 2 + t, none⟩) rfl (.bool true)
              have T2 := Turn.of_set (S := fun i => i = gs) ((u.alloc (.cells #[.int .i64 0, .int .i64 0, .int .i64 1, .int .i64 2] 3)).setCell ⟨gt, m * 2 + t, none⟩ (.bool true)) (p := ⟨gs, m * 8 + t * 4 + d, none⟩) rfl (.bool true)
              have oa := ko.alloc (.cells #[.int .i64 0, .int .i64 0, .int .i64 1, .int .i64 2] 3)
              have ob := T1.row oa (fun i hi e => by subst e; exact own_sepT oa (kt.alloc _) (by decide) hi)
              have oc := T2.row ob (fun i hi e => by subst e; exact own_sepT ob ks2 (by decide) hi)
              rw [List.length_append, List.map_append, rC_app]
              have e : rC ([⟨k, t, d⟩].map recK) = rV ⟨nmK k, tyK t, 1, 9, daK t d⟩ := by simp [rC, recK]
              rw [e, ← HJ.out]
              exact oc
            · intro p hp
              rcases List.mem_append.1 hp with h | h
              · exact HINS.out p h
              · simp at h; subst h; exact ⟨hk4, ht2, hd4⟩
            · exact ((lay kb _).setCell (by show _ ≤ gt; omega) _).setCell (by show _ ≤ gs; omega) _
          clear ks2 kn ks kt ko kb hm hgst
          go_wp2
          go_roundw
          case rel => exact ⟨j + 1, c2, y2, ts ++ [⟨k, t, d⟩], rfl, by go_num, by omega, by omega, by unfold Hid; rw [List.length_append, ← HJ.out]; rfl, HSN⟩
          case measure => simp [intOf]; omega
    · have hrr : RRow wr (.slice y j c1) (ts.map recK) := by
        have h1 := Row.of_own HS.out.own
        refine ⟨by rw [List.length_map, HJ.out]; rw [HJ.out] at h1; exact h1, small100 (by rw [List.length_map, ← HJ.out]; omega), fun r hr => ?_⟩
        obtain ⟨q, hq, rfl⟩ := List.mem_map.1 hr
        obtain ⟨h1, h2, h3⟩ := HS.out.ins q hq
        obtain ⟨qk, qt, qd⟩ := q
        simp only at h1 h2 h3
        refine ⟨small100 (show (nmK qk).size ≤ 100000 from ?_), small100 (show (daK qt qd).size ≤ 100000 from ?_)⟩
        · rcases lt4 h1 with rfl | rfl | rfl | rfl <;> decide
        · rcases lt2 h2 with rfl | rfl
          · show 4 ≤ 100000; decide
          · show 16 ≤ 100000; decide
      have hbad : badG (ts.map recK) = false := by
        unfold badG
        rw [Bool.or_eq_false_iff, decide_eq_false_iff_not, List.any_eq_false]
        refine ⟨by rw [List.length_map, ← HJ.out]; omega, fun r hr => ?_⟩
        obtain ⟨q, hq, rfl⟩ := List.mem_map.1 hr
        rw [recK_ok (HS.out.ins q hq)]
        simp
      have G : Hid (Calls Try.prog 10 #[.slice y j c1] wr fun e w' => ∃ (K : Nat) (yq : Option Addr) (cq : Nat) (qs : List (Sn × Value)), e = .returned (.tuple #[.slice yq K cq, .int .i64 0]) ∧ (K = qs.length ∧ qs.map Prod.fst = grpS (ts.map recK)) ∧ GS wr.heap.size w' (.slice yq K cq) qs ∧ Below wr.heap.size wr w') :=
        (group_ok _ _ wr hrr hbad).mono fun e w' ⟨yq, cq, qs, h1, h2, h3, h4⟩ => ⟨qs.length, yq, cq, qs, h1, ⟨rfl, h2⟩, h3, h4⟩
      have HSEE : Hid (Blk wr gs ((List.range 24).map (fun i => Value.bool (seenF ts i))).toArray 52) := HS.out.see
      have HTHE : Hid (Blk wr gt ((List.range 6).map (fun i => Value.bool (thereF ts i))).toArray 54) := HS.out.the
      have HBX : Hid (Below w.heap.size w wr) := HS.out.below
      have HINS : Hid (∀ p ∈ ts, InK p) := HS.out.ins
      clear hrr hbad HS hm4 hm2
      by_cases hj : j < n
      · have hj' : (j : Int) < (n : Int) := by omega
        have h4 : decide ((j : Int) < 64) = false := by simp; omega
        clear hlt
        go_wp2_with (go_at_call 10; go_must (refine G.out.mono ?_); rintro e w3 ⟨K, yq, cq, qs, rfl, hK, hgs, b3⟩; have HKQ : Hid (K = qs.length ∧ qs.map Prod.fst = grpS (ts.map recK)) := hK; have HG3 : Hid (GS wr.heap.size w3 (.slice yq K cq) qs) := hgs; have HB3 : Hid (Below w.heap.size w w3) := next HBX.out b3; have CT : Hid (∀ {u : World}, Below w3.heap.size w3 u → ∀ i, i < 6 → u.cell? ⟨gt, i, none⟩ = some (.bool (thereF ts i))) := (fun h i hi => by rw [((HTHE.out.below b3).below h).cell, bools_at _ hi]); have CS : Hid (∀ {u : World}, Below w3.heap.size w3 u → ∀ i, i < 24 → u.cell? ⟨gs, i, none⟩ = some (.bool (seenF ts i))) := (fun h i hi => by rw [((HSEE.out.below b3).below h).cell, bools_at _ hi]); clear b3 hK hgs)
        have hK64 : K ≤ 64 := by
          have h1 := (grpS_good (ts.map recK)).1
          rw [← HKQ.out.2, List.length_map, List.length_map, ← HKQ.out.1, ← HJ.out] at h1
          omega
        clear G HTHE HSEE HBX
        go_loopw [14, 15, 16] (fun av bv mv wq => ∃ M D m : Nat, av = .int .i64 (M : Int) ∧ bv = .int .i64 (D : Int) ∧ mv = .int .i64 (m : Int) ∧ m ≤ 3 ∧ M ≤ 6 ∧ D ≤ 24 ∧ Hid (M = cnt (thereF ts) (m * 2) ∧ D = cnt (seenF ts) (m * 8)) ∧ Hid (Below w3.heap.size w3 wq)) (fun _ _ m _ => 3 - (intOf m).toNat)
        case atStart => exact ⟨0, 0, 0, rfl, rfl, rfl, Nat.zero_le _, Nat.zero_le _, Nat.zero_le _, ⟨rfl, rfl⟩, Below.refl _ _⟩
        case round =>
          obtain ⟨M, D, m, rfl, rfl, rfl, hm3, hM6, hD24, HMD, HB⟩ := hrel
          by_cases hm : m < 3
          · have hm' : (m : Int) < 3 := by omega
            go_wp2
            go_loopw [14, 15, 17] (fun av bv tv wq => ∃ M D t : Nat, av = .int .i64 (M : Int) ∧ bv = .int .i64 (D : Int) ∧ tv = .int .i64 (t : Int) ∧ t ≤ 2 ∧ M ≤ 6 ∧ D ≤ 24 ∧ Hid (M = cnt (thereF ts) (m * 2 + t) ∧ D = cnt (seenF ts) (m * 8 + t * 4)) ∧ Hid (Below w3.heap.size w3 wq)) (fun _ _ t _ => 2 - (intOf t).toNat)
            case atStart => exact ⟨M, D, 0, rfl, rfl, rfl, Nat.zero_le _, hM6, hD24, HMD, HB⟩
            case round =>
              clear HMD HB hM6 hD24
              obtain ⟨M, D, t, rfl, rfl, rfl, ht2, hM6, hD24, HMD, HB⟩ := hrel
              by_cases ht : t < 2
              · have ht' : (t : Int) < 2 := by omega
                have c0 := CT.out HB.out (m * 2 + t) (by omega)
                cases hT : thereF ts (m * 2 + t) with
                | true =>
                  rw [hT] at c0
                  have HTT : Hid (thereF ts (m * 2 + t) = true) := hT
                  clear hT
                  go_wp2
                  go_loopw [15, 18] (fun bv dv wq => ∃ D d : Nat, bv = .int .i64 (D : Int) ∧ dv = .int .i64 (d : Int) ∧ d ≤ 4 ∧ D ≤ 24 ∧ Hid (D = cnt (seenF ts) (m * 8 + t * 4 + d)) ∧ Hid (Below w3.heap.size w3 wq)) (fun _ d _ => 4 - (intOf d).toNat)
                  case atStart => exact ⟨D, 0, rfl, rfl, Nat.zero_le _, hD24, HMD.out.2, HB⟩
                  case round =>
                    have HMM : Hid (M = cnt (thereF ts) (m * 2 + t)) := HMD.out.1
                    clear HMD HB c0 hD24
                    obtain ⟨D, d, rfl, rfl, hd4, hD24, HD, HB⟩ := hrel
                    by_cases hd : d < 4
                    · have hd' : (d : Int) < 4 := by omega
                      have c1 := CS.out HB.out (m * 8 + t * 4 + d) (by omega)
                      cases hS : seenF ts (m * 8 + t * 4 + d) with
                      | true =>
                        rw [hS] at c1
                        have HD2 : Hid (D + 1 = cnt (seenF ts) (m * 8 + t * 4 + (d + 1))) := by unfold Hid; rw [← Nat.add_assoc, cnt, if_pos hS, ← HD.out]
                        have hD2 : D + 1 ≤ 24 := by have h1 := cnt_le (seenF ts) (m * 8 + t * 4 + (d + 1)); have h2 := HD2.out; omega
                        clear HD hS
                        go_wp2
                        go_roundw
                        case rel => exact ⟨D + 1, d + 1, by go_num, by go_num, by omega, hD2, HD2, HB⟩
                        case measure => simp [intOf]; omega
                      | false =>
                        rw [hS] at c1
                        have HD2 : Hid (D = cnt (seenF ts) (m * 8 + t * 4 + (d + 1))) := by unfold Hid; rw [← Nat.add_assoc, cnt, if_neg (by rw [hS]; simp), ← HD.out, Nat.add_zero]
                        clear HD hS
                        go_wp2
                        go_roundw
                        case rel => exact ⟨D, d + 1, rfl, by go_num, by omega, hD24, HD2, HB⟩
                        case measure => simp [intOf]; omega
                    · have hd' : decide ((d : Int) < 4) = false := by simp; omega
                      have hde : d = 4 := by omega
                      have HD2 : Hid (D = cnt (seenF ts) (m * 8 + (t + 1) * 4)) := by unfold Hid; rw [show m * 8 + (t + 1) * 4 = m * 8 + t * 4 + d from by omega]; exact HD.out
                      have HM2 : Hid (M + 1 = cnt (thereF ts) (m * 2 + (t + 1))) := by unfold Hid; rw [← Nat.add_assoc, cnt, HTT.out, ← HMM.out]; simp
                      have hM2 : M + 1 ≤ 6 := by have h1 := cnt_le (thereF ts) (m * 2 + (t + 1)); have h2 := HM2.out; omega
                      clear HD hde HMM
                      go_wp2
                      go_roundw
                      case rel => exact ⟨M + 1, D, t + 1, by go_num, rfl, by go_num, by omega, hM2, hD24, ⟨HM2.out, HD2.out⟩, HB⟩
                      case measure => simp [intOf]; omega
                | false =>
                  rw [hT] at c0
                  have HTT : Hid (thereF ts (m * 2 + t) = false) := hT
                  clear hT
                  go_wp2
                  go_loopw [15, 18] (fun bv dv wq => ∃ D d : Nat, bv = .int .i64 (D : Int) ∧ dv = .int .i64 (d : Int) ∧ d ≤ 4 ∧ D ≤ 24 ∧ Hid (D = cnt (seenF ts) (m * 8 + t * 4 + d)) ∧ Hid (Below w3.heap.size w3 wq)) (fun _ d _ => 4 - (intOf d).toNat)
                  case atStart => exact ⟨D, 0, rfl, rfl, Nat.zero_le _, hD24, HMD.out.2, HB⟩
                  case round =>
                    have HMM : Hid (M = cnt (thereF ts) (m * 2 + t)) := HMD.out.1
                    clear HMD HB c0 hD24
                    obtain ⟨D, d, rfl, rfl, hd4, hD24, HD, HB⟩ := hrel
                    by_cases hd : d < 4
                    · have hd' : (d : Int) < 4 := by omega
                      have c1 := CS.out HB.out (m * 8 + t * 4 + d) (by omega)
                      cases hS : seenF ts (m * 8 + t * 4 + d) with
                      | true =>
                        rw [hS] at c1
                        have HD2 : Hid (D + 1 = cnt (seenF ts) (m * 8 + t * 4 + (d + 1))) := by unfold Hid; rw [← Nat.add_assoc, cnt, if_pos hS, ← HD.out]
                        have hD2 : D + 1 ≤ 24 := by have h1 := cnt_le (seenF ts) (m * 8 + t * 4 + (d + 1)); have h2 := HD2.out; omega
                        clear HD hS
                        go_wp2
                        go_roundw
                        case rel => exact ⟨D + 1, d + 1, by go_num, by go_num, by omega, hD2, HD2, HB⟩
                        case measure => simp [intOf]; omega
                      | false =>
                        rw [hS] at c1
                        have HD2 : Hid (D = cnt (seenF ts) (m * 8 + t * 4 + (d + 1))) := by unfold Hid; rw [← Nat.add_assoc, cnt, if_neg (by rw [hS]; simp), ← HD.out, Nat.add_zero]
                        clear HD hS
                        go_wp2
                        go_roundw
                        case rel => exact ⟨D, d + 1, rfl, by go_num, by omega, hD24, HD2, HB⟩
                        case measure => simp [intOf]; omega
                    · have hd' : decide ((d : Int) < 4) = false := by simp; omega
                      have hde : d = 4 := by omega
                      have HD2 : Hid (D = cnt (seenF ts) (m * 8 + (t + 1) * 4)) := by unfold Hid; rw [show m * 8 + (t + 1) * 4 = m * 8 + t * 4 + d from by omega]; exact HD.out
                      have HM2 : Hid (M = cnt (thereF ts) (m * 2 + (t + 1))) := by unfold Hid; rw [← Nat.add_assoc, cnt, HTT.out, ← HMM.out]; simp
                      have hM2 : M ≤ 6 := by have h1 := cnt_le (thereF ts) (m * 2 + (t + 1)); have h2 := HM2.out; omega
                      clear HD hde HMM
                      go_wp2
                      go_roundw
                      case rel => exact ⟨M, D, t + 1, rfl, rfl, by go_num, by omega, hM2, hD24, ⟨HM2.out, HD2.out⟩, HB⟩
                      case measure => simp [intOf]; omega
              · have ht' : decide ((t : Int) < 2) = false := by simp; omega
                have HM2 : Hid (M = cnt (thereF ts) ((m + 1) * 2) ∧ D = cnt (seenF ts) ((m + 1) * 8)) := by
                  have h1 := HMD.out
                  rw [show m * 2 + t = (m + 1) * 2 from by omega, show m * 8 + t * 4 = (m + 1) * 8 from by omega] at h1
                  exact h1
                go_wp2
                go_roundw
                case rel => exact ⟨M, D, m + 1, rfl, rfl, by go_num, by omega, hM6, hD24, HM2, HB⟩
                case measure => simp [intOf]; omega
          · have hm' : decide ((m : Int) < 3) = false := by simp; omega
            have hme : m = 3 := by omega
            have HKM : Hid (K = M) := by
              have h1 := split_many HINS.out
              have h2 := HMD.out.1
              rw [hme] at h2
              unfold Hid
              rw [HKQ.out.1, h2, ← h1, ← HKQ.out.2, List.length_map]
            have HDD : Hid ((qs.map (fun q => q.1.ds.length)).sum = D) := by
              have h1 := split_datas HINS.out
              have h2 := HMD.out.2
              rw [hme] at h2
              unfold Hid
              rw [h2, ← h1, ← HKQ.out.2, List.map_map]
              rfl
            clear HMD hme CT CS
            go_wp2
            go_loopw [19, 20] (fun gv iv wq => ∃ G i : Nat, gv = .int .i64 (G : Int) ∧ iv = .int .i64 (i : Int) ∧ i ≤ K ∧ G ≤ 64 * i ∧ Hid (G = ((qs.take i).map (fun q => q.1.ds.length)).sum) ∧ Hid (Below w3.heap.size w3 wq)) (fun _ i _ => K - (intOf i).toNat)
            case atStart => exact ⟨0, 0, rfl, rfl, Nat.zero_le _, Nat.le_refl _, rfl, HB⟩
            case round =>
              clear HB
              obtain ⟨G, i, rfl, rfl, hiK, hG, HGS, HB⟩ := hrel
              by_cases hik : i < K
              · have hik' : (i : Int) < (K : Int) := by omega
                have hiq : i < qs.length := by have := HKQ.out.1; omega
                obtain ⟨gq, cap2, hv, _, _⟩ := HG3.out.own.form (by omega)
                simp only [Value.slice.injEq] at hv
                obtain ⟨rfl, -, rfl⟩ := hv
                have hmem : qs[i].1 ∈ grpS (ts.map recK) := by rw [← HKQ.out.2]; exact List.mem_map_of_mem (List.getElem_mem hiq)
                have hok : ∀ r ∈ ts.map recK, okR r = true := fun r hr => by obtain ⟨q, hq, rfl⟩ := List.mem_map.1 hr; exact recK_ok (HINS.out q hq)
                have hfacts := grp_facts hok hmem
                have httl := split_ttl hmem
                have hdl : qs[i].1.ds.length ≤ 64 := by
                  have h1 := ((grpS_good (ts.map recK)).2 _ hmem).2
                  rw [List.length_map, ← HJ.out] at h1
                  omega
                have HFOLD : Hid (∀ u : World, Calls Try.prog 23 #[.string qs[i].1.n] u fun e w' => e = .returned (.string qs[i].1.n) ∧ Below u.heap.size u w') := fun u => refFold_as _ _ u (by have := name_size hfacts.2.2.2.1; unfold maxLen; omega) (by
                  have := congrArg (fun z : ByteArray => z.data.toList) hfacts.2.2.1
                  simpa [foldB] using this)
                have C4 : Hid (∀ {u : World}, Below w3.heap.size w3 u → u.cell? ⟨gq, i * 4, none⟩ = some (.string qs[i].1.n) ∧ u.cell? ⟨gq, i * 4 + 2, none⟩ = some (.int .i64 9) ∧ u.cell? ⟨gq, i * 4 + 3, none⟩ = some qs[i].2) := fun h => by
                  have h4 := (own_four (HG3.out.below h).own hiq).1
                  rw [httl] at h4
                  exact ⟨h4.1, h4.2.2.1, h4.2.2.2⟩
                have HG2 : Hid (G + qs[i].1.ds.length = ((qs.take (i + 1)).map (fun q => q.1.ds.length)).sum) := by
                  unfold Hid
                  rw [List.take_succ_eq_append_getElem hiq, List.map_append, List.sum_append, ← HGS.out]
                  simp
                obtain ⟨ys, cs, hsv⟩ := row_shape (HG3.out.dat _ (List.getElem_mem hiq))
                rw [hsv] at C4
                obtain ⟨sn, hsn⟩ : ∃ z, z = qs[i].1.n := ⟨_, rfl⟩
                obtain ⟨L, hL⟩ : ∃ z, z = qs[i].1.ds.length := ⟨_, rfl⟩
                simp only [← hsn, ← hL] at C4 HFOLD HG2 hdl
                have a3 : wr.cell? ⟨gq, i * 4 + 3, none⟩ = some (.slice ys L cs) := (C4.out HB.out).2.2
                have e0 : ∀ nb : Bel wr, nb.to.cell? ⟨gq, i * 4, none⟩ = some (.string sn) := fun nb => (C4.out (next HB.out nb.h)).1
                have e2 : ∀ nb : Bel wr, nb.to.cell? ⟨gq, i * 4 + 2, none⟩ = some (.int .i64 9) := fun nb => (C4.out (next HB.out nb.h)).2.1
                clear hmem hok hfacts httl hsv hsn hL C4 HGS
                go_wp2
                refine wp_region_bel (by kernel_rfl) (by kernel_rfl) (fun _ => ?_)
                repeat (go_big_quiet_step ((go_at_call 23; go_must (exact bel_lays (HFOLD.out _)))))
                refine wpQuiet_nil ?_
                intro wn hwn
                have hbn := bel_out hwn
                replace HB : Hid (Below w3.heap.size w3 wn) := next HB.out hbn
                clear hwn hbn e0 e2 a3 HFOLD
                go_wp2
                go_roundw
                case rel => exact ⟨G + L, i + 1, by go_num, by go_num, by omega, by omega, HG2, HB⟩
                case measure => simp [intOf]; omega
              · have hik' : decide ((i : Int) < (K : Int)) = false := by simp; omega
                have hGD : G = D := by
                  have h1 := HGS.out
                  rw [List.take_of_length_le (by have := HKQ.out.1; omega), HDD.out] at h1
                  exact h1
                have hKM : K = M := HKM.out
                subst hGD hKM
                clear HGS HDD HKM
                go_wp2_with (go_at_call 16; refine (num_any _ _).mono ?_; rintro e w' ⟨rfl, hw⟩; obtain rfl := hw.symm)
                go_ret
                exact ⟨ret_bool (by simp), next HB3.out HB.out⟩
      · have hj' : decide ((j : Int) < (n : Int)) = false := by simp; omega
        clear hlt
        go_wp2_with (go_at_call 10; go_must (refine G.out.mono ?_); rintro e w3 ⟨K, yq, cq, qs, rfl, hK, hgs, b3⟩; have HKQ : Hid (K = qs.length ∧ qs.map Prod.fst = grpS (ts.map recK)) := hK; have HG3 : Hid (GS wr.heap.size w3 (.slice yq K cq) qs) := hgs; have HB3 : Hid (Below w.heap.size w w3) := next HBX.out b3; have CT : Hid (∀ {u : World}, Below w3.heap.size w3 u → ∀ i, i < 6 → u.cell? ⟨gt, i, none⟩ = some (.bool (thereF ts i))) := (fun h i hi => by rw [((HTHE.out.below b3).below h).cell, bools_at _ hi]); have CS : Hid (∀ {u : World}, Below w3.heap.size w3 u → ∀ i, i < 24 → u.cell? ⟨gs, i, none⟩ = some (.bool (seenF ts i))) := (fun h i hi => by rw [((HSEE.out.below b3).below h).cell, bools_at _ hi]); clear b3 hK hgs)
        have hK64 : K ≤ 64 := by
          have h1 := (grpS_good (ts.map recK)).1
          rw [← HKQ.out.2, List.length_map, List.length_map, ← HKQ.out.1, ← HJ.out] at h1
          omega
        clear G HTHE HSEE HBX
        go_loopw [14, 15, 16] (fun av bv mv wq => ∃ M D m : Nat, av = .int .i64 (M : Int) ∧ bv = .int .i64 (D : Int) ∧ mv = .int .i64 (m : Int) ∧ m ≤ 3 ∧ M ≤ 6 ∧ D ≤ 24 ∧ Hid (M = cnt (thereF ts) (m * 2) ∧ D = cnt (seenF ts) (m * 8)) ∧ Hid (Below w3.heap.size w3 wq)) (fun _ _ m _ => 3 - (intOf m).toNat)
        case atStart => exact ⟨0, 0, 0, rfl, rfl, rfl, Nat.zero_le _, Nat.zero_le _, Nat.zero_le _, ⟨rfl, rfl⟩, Below.refl _ _⟩
        case round =>
          obtain ⟨M, D, m, rfl, rfl, rfl, hm3, hM6, hD24, HMD, HB⟩ := hrel
          by_cases hm : m < 3
          · have hm' : (m : Int) < 3 := by omega
            go_wp2
            go_loopw [14, 15, 17] (fun av bv tv wq => ∃ M D t : Nat, av = .int .i64 (M : Int) ∧ bv = .int .i64 (D : Int) ∧ tv = .int .i64 (t : Int) ∧ t ≤ 2 ∧ M ≤ 6 ∧ D ≤ 24 ∧ Hid (M = cnt (thereF ts) (m * 2 + t) ∧ D = cnt (seenF ts) (m * 8 + t * 4)) ∧ Hid (Below w3.heap.size w3 wq)) (fun _ _ t _ => 2 - (intOf t).toNat)
            case atStart => exact ⟨M, D, 0, rfl, rfl, rfl, Nat.zero_le _, hM6, hD24, HMD, HB⟩
            case round =>
              clear HMD HB hM6 hD24
              obtain ⟨M, D, t, rfl, rfl, rfl, ht2, hM6, hD24, HMD, HB⟩ := hrel
              by_cases ht : t < 2
              · have ht' : (t : Int) < 2 := by omega
                have c0 := CT.out HB.out (m * 2 + t) (by omega)
                cases hT : thereF ts (m * 2 + t) with
                | true =>
                  rw [hT] at c0
                  have HTT : Hid (thereF ts (m * 2 + t) = true) := hT
                  clear hT
                  go_wp2
                  go_loopw [15, 18] (fun bv dv wq => ∃ D d : Nat, bv = .int .i64 (D : Int) ∧ dv = .int .i64 (d : Int) ∧ d ≤ 4 ∧ D ≤ 24 ∧ Hid (D = cnt (seenF ts) (m * 8 + t * 4 + d)) ∧ Hid (Below w3.heap.size w3 wq)) (fun _ d _ => 4 - (intOf d).toNat)
                  case atStart => exact ⟨D, 0, rfl, rfl, Nat.zero_le _, hD24, HMD.out.2, HB⟩
                  case round =>
                    have HMM : Hid (M = cnt (thereF ts) (m * 2 + t)) := HMD.out.1
                    clear HMD HB c0 hD24
                    obtain ⟨D, d, rfl, rfl, hd4, hD24, HD, HB⟩ := hrel
                    by_cases hd : d < 4
                    · have hd' : (d : Int) < 4 := by omega
                      have c1 := CS.out HB.out (m * 8 + t * 4 + d) (by omega)
                      cases hS : seenF ts (m * 8 + t * 4 + d) with
                      | true =>
                        rw [hS] at c1
                        have HD2 : Hid (D + 1 = cnt (seenF ts) (m * 8 + t * 4 + (d + 1))) := by unfold Hid; rw [← Nat.add_assoc, cnt, if_pos hS, ← HD.out]
                        have hD2 : D + 1 ≤ 24 := by have h1 := cnt_le (seenF ts) (m * 8 + t * 4 + (d + 1)); have h2 := HD2.out; omega
                        clear HD hS
                        go_wp2
                        go_roundw
                        case rel => exact ⟨D + 1, d + 1, by go_num, by go_num, by omega, hD2, HD2, HB⟩
                        case measure => simp [intOf]; omega
                      | false =>
                        rw [hS] at c1
                        have HD2 : Hid (D = cnt (seenF ts) (m * 8 + t * 4 + (d + 1))) := by unfold Hid; rw [← Nat.add_assoc, cnt, if_neg (by rw [hS]; simp), ← HD.out, Nat.add_zero]
                        clear HD hS
                        go_wp2
                        go_roundw
                        case rel => exact ⟨D, d + 1, rfl, by go_num, by omega, hD24, HD2, HB⟩
                        case measure => simp [intOf]; omega
                    · have hd' : decide ((d : Int) < 4) = false := by simp; omega
                      have hde : d = 4 := by omega
                      have HD2 : Hid (D = cnt (seenF ts) (m * 8 + (t + 1) * 4)) := by unfold Hid; rw [show m * 8 + (t + 1) * 4 = m * 8 + t * 4 + d from by omega]; exact HD.out
                      have HM2 : Hid (M + 1 = cnt (thereF ts) (m * 2 + (t + 1))) := by unfold Hid; rw [← Nat.add_assoc, cnt, HTT.out, ← HMM.out]; simp
                      have hM2 : M + 1 ≤ 6 := by have h1 := cnt_le (thereF ts) (m * 2 + (t + 1)); have h2 := HM2.out; omega
                      clear HD hde HMM
                      go_wp2
                      go_roundw
                      case rel => exact ⟨M + 1, D, t + 1, by go_num, rfl, by go_num, by omega, hM2, hD24, ⟨HM2.out, HD2.out⟩, HB⟩
                      case measure => simp [intOf]; omega
                | false =>
                  rw [hT] at c0
                  have HTT : Hid (thereF ts (m * 2 + t) = false) := hT
                  clear hT
                  go_wp2
                  go_loopw [15, 18] (fun bv dv wq => ∃ D d : Nat, bv = .int .i64 (D : Int) ∧ dv = .int .i64 (d : Int) ∧ d ≤ 4 ∧ D ≤ 24 ∧ Hid (D = cnt (seenF ts) (m * 8 + t * 4 + d)) ∧ Hid (Below w3.heap.size w3 wq)) (fun _ d _ => 4 - (intOf d).toNat)
                  case atStart => exact ⟨D, 0, rfl, rfl, Nat.zero_le _, hD24, HMD.out.2, HB⟩
                  case round =>
                    have HMM : Hid (M = cnt (thereF ts) (m * 2 + t)) := HMD.out.1
                    clear HMD HB c0 hD24
                    obtain ⟨D, d, rfl, rfl, hd4, hD24, HD, HB⟩ := hrel
                    by_cases hd : d < 4
                    · have hd' : (d : Int) < 4 := by omega
                      have c1 := CS.out HB.out (m * 8 + t * 4 + d) (by omega)
                      cases hS : seenF ts (m * 8 + t * 4 + d) with
                      | true =>
                        rw [hS] at c1
                        have HD2 : Hid (D + 1 = cnt (seenF ts) (m * 8 + t * 4 + (d + 1))) := by unfold Hid; rw [← Nat.add_assoc, cnt, if_pos hS, ← HD.out]
                        have hD2 : D + 1 ≤ 24 := by have h1 := cnt_le (seenF ts) (m * 8 + t * 4 + (d + 1)); have h2 := HD2.out; omega
                        clear HD hS
                        go_wp2
                        go_roundw
                        case rel => exact ⟨D + 1, d + 1, by go_num, by go_num, by omega, hD2, HD2, HB⟩
                        case measure => simp [intOf]; omega
                      | false =>
                        rw [hS] at c1
                        have HD2 : Hid (D = cnt (seenF ts) (m * 8 + t * 4 + (d + 1))) := by unfold Hid; rw [← Nat.add_assoc, cnt, if_neg (by rw [hS]; simp), ← HD.out, Nat.add_zero]
                        clear HD hS
                        go_wp2
                        go_roundw
                        case rel => exact ⟨D, d + 1, rfl, by go_num, by omega, hD24, HD2, HB⟩
                        case measure => simp [intOf]; omega
                    · have hd' : decide ((d : Int) < 4) = false := by simp; omega
                      have hde : d = 4 := by omega
                      have HD2 : Hid (D = cnt (seenF ts) (m * 8 + (t + 1) * 4)) := by unfold Hid; rw [show m * 8 + (t + 1) * 4 = m * 8 + t * 4 + d from by omega]; exact HD.out
                      have HM2 : Hid (M = cnt (thereF ts) (m * 2 + (t + 1))) := by unfold Hid; rw [← Nat.add_assoc, cnt, HTT.out, ← HMM.out]; simp
                      have hM2 : M ≤ 6 := by have h1 := cnt_le (thereF ts) (m * 2 + (t + 1)); have h2 := HM2.out; omega
                      clear HD hde HMM
                      go_wp2
                      go_roundw
                      case rel => exact ⟨M, D, t + 1, rfl, rfl, by go_num, by omega, hM2, hD24, ⟨HM2.out, HD2.out⟩, HB⟩
                      case measure => simp [intOf]; omega
              · have ht' : decide ((t : Int) < 2) = false := by simp; omega
                have HM2 : Hid (M = cnt (thereF ts) ((m + 1) * 2) ∧ D = cnt (seenF ts) ((m + 1) * 8)) := by
                  have h1 := HMD.out
                  rw [show m * 2 + t = (m + 1) * 2 from by omega, show m * 8 + t * 4 = (m + 1) * 8 from by omega] at h1
                  exact h1
                go_wp2
                go_roundw
                case rel => exact ⟨M, D, m + 1, rfl, rfl, by go_num, by omega, hM6, hD24, HM2, HB⟩
                case measure => simp [intOf]; omega
          · have hm' : decide ((m : Int) < 3) = false := by simp; omega
            have hme : m = 3 := by omega
            have HKM : Hid (K = M) := by
              have h1 := split_many HINS.out
              have h2 := HMD.out.1
              rw [hme] at h2
              unfold Hid
              rw [HKQ.out.1, h2, ← h1, ← HKQ.out.2, List.length_map]
            have HDD : Hid ((qs.map (fun q => q.1.ds.length)).sum = D) := by
              have h1 := split_datas HINS.out
              have h2 := HMD.out.2
              rw [hme] at h2
              unfold Hid
              rw [h2, ← h1, ← HKQ.out.2, List.map_map]
              rfl
            clear HMD hme CT CS
            go_wp2
            go_loopw [19, 20] (fun gv iv wq => ∃ G i : Nat, gv = .int .i64 (G : Int) ∧ iv = .int .i64 (i : Int) ∧ i ≤ K ∧ G ≤ 64 * i ∧ Hid (G = ((qs.take i).map (fun q => q.1.ds.length)).sum) ∧ Hid (Below w3.heap.size w3 wq)) (fun _ i _ => K - (intOf i).toNat)
            case atStart => exact ⟨0, 0, rfl, rfl, Nat.zero_le _, Nat.le_refl _, rfl, HB⟩
            case round =>
              clear HB
              obtain ⟨G, i, rfl, rfl, hiK, hG, HGS, HB⟩ := hrel
              by_cases hik : i < K
              · have hik' : (i : Int) < (K : Int) := by omega
                have hiq : i < qs.length := by have := HKQ.out.1; omega
                obtain ⟨gq, cap2, hv, _, _⟩ := HG3.out.own.form (by omega)
                simp only [Value.slice.injEq] at hv
                obtain ⟨rfl, -, rfl⟩ := hv
                have hmem : qs[i].1 ∈ grpS (ts.map recK) := by rw [← HKQ.out.2]; exact List.mem_map_of_mem (List.getElem_mem hiq)
                have hok : ∀ r ∈ ts.map recK, okR r = true := fun r hr => by obtain ⟨q, hq, rfl⟩ := List.mem_map.1 hr; exact recK_ok (HINS.out q hq)
                have hfacts := grp_facts hok hmem
                have httl := split_ttl hmem
                have hdl : qs[i].1.ds.length ≤ 64 := by
                  have h1 := ((grpS_good (ts.map recK)).2 _ hmem).2
                  rw [List.length_map, ← HJ.out] at h1
                  omega
                have HFOLD : Hid (∀ u : World, Calls Try.prog 23 #[.string qs[i].1.n] u fun e w' => e = .returned (.string qs[i].1.n) ∧ Below u.heap.size u w') := fun u => refFold_as _ _ u (by have := name_size hfacts.2.2.2.1; unfold maxLen; omega) (by
                  have := congrArg (fun z : ByteArray => z.data.toList) hfacts.2.2.1
                  simpa [foldB] using this)
                have C4 : Hid (∀ {u : World}, Below w3.heap.size w3 u → u.cell? ⟨gq, i * 4, none⟩ = some (.string qs[i].1.n) ∧ u.cell? ⟨gq, i * 4 + 2, none⟩ = some (.int .i64 9) ∧ u.cell? ⟨gq, i * 4 + 3, none⟩ = some qs[i].2) := fun h => by
                  have h4 := (own_four (HG3.out.below h).own hiq).1
                  rw [httl] at h4
                  exact ⟨h4.1, h4.2.2.1, h4.2.2.2⟩
                have HG2 : Hid (G + qs[i].1.ds.length = ((qs.take (i + 1)).map (fun q => q.1.ds.length)).sum) := by
                  unfold Hid
                  rw [List.take_succ_eq_append_getElem hiq, List.map_append, List.sum_append, ← HGS.out]
                  simp
                obtain ⟨ys, cs, hsv⟩ := row_shape (HG3.out.dat _ (List.getElem_mem hiq))
                rw [hsv] at C4
                obtain ⟨sn, hsn⟩ : ∃ z, z = qs[i].1.n := ⟨_, rfl⟩
                obtain ⟨L, hL⟩ : ∃ z, z = qs[i].1.ds.length := ⟨_, rfl⟩
                simp only [← hsn, ← hL] at C4 HFOLD HG2 hdl
                have a3 : wr.cell? ⟨gq, i * 4 + 3, none⟩ = some (.slice ys L cs) := (C4.out HB.out).2.2
                have e0 : ∀ nb : Bel wr, nb.to.cell? ⟨gq, i * 4, none⟩ = some (.string sn) := fun nb => (C4.out (next HB.out nb.h)).1
                have e2 : ∀ nb : Bel wr, nb.to.cell? ⟨gq, i * 4 + 2, none⟩ = some (.int .i64 9) := fun nb => (C4.out (next HB.out nb.h)).2.1
                clear hmem hok hfacts httl hsv hsn hL C4 HGS
                go_wp2
                refine wp_region_bel (by kernel_rfl) (by kernel_rfl) (fun _ => ?_)
                repeat (go_big_quiet_step ((go_at_call 23; go_must (exact bel_lays (HFOLD.out _)))))
                refine wpQuiet_nil ?_
                intro wn hwn
                have hbn := bel_out hwn
                replace HB : Hid (Below w3.heap.size w3 wn) := next HB.out hbn
                clear hwn hbn e0 e2 a3 HFOLD
                go_wp2
                go_roundw
                case rel => exact ⟨G + L, i + 1, by go_num, by go_num, by omega, by omega, HG2, HB⟩
                case measure => simp [intOf]; omega
              · have hik' : decide ((i : Int) < (K : Int)) = false := by simp; omega
                have hGD : G = D := by
                  have h1 := HGS.out
                  rw [List.take_of_length_le (by have := HKQ.out.1; omega), HDD.out] at h1
                  exact h1
                have hKM : K = M := HKM.out
                subst hGD hKM
                clear HGS HDD HKM
                go_wp2_with (go_at_call 16; refine (num_any _ _).mono ?_; rintro e w' ⟨rfl, hw⟩; obtain rfl := hw.symm)
                go_ret
                exact ⟨ret_bool (by simp), next HB3.out HB.out⟩

theorem own : ownKnob Try.prog.godebug = none := by kernel_rfl
theorem laidOut : laidOutB Try.prog = true := by kernel_rfl

set_option maxRecDepth 100000 in
theorem lifted (os : Os) (started : os.Started) (H : Type) (enc : TypeId × Value → H) :
    ReturnsInHanded {} Try.checked os 7 .any (Rows.groupSplitsSpec.pre6 enc Try.prog Try.f7 Rows.groupSplitsRow.domain false) (Rows.groupSplitsSpec.post enc Try.prog Try.f7 false true false false) := by
  refine returnsInHanded_of_change (C := Try.checked) own started (by kernel_rfl) Try.func7
    (ChangeSpec.witness6 (enc := enc) (C := Try.checked) false ⟨#[], #[.slice none 0 0], []⟩ 8 (by kernel_rfl) (by kernel_rfl) (by kernel_rfl) (by kernel_rfl)) ?_
  intro W base args ds gs before hval0 hW _ _
  have hval : ∀ (j : Nat) t v, Try.f7.params[j]? = some t → args[j]? = some v → Value.okWide Try.prog W .any base t v := hval0
  have hW' := hW
  obtain ⟨p, q, hA0, hV, rfl, hfz, hnd⟩ := hW
  have hA : DataW.TrodAll enc Try.prog W 0 (fun _ => true) true Try.f7.params.toList args.toList ds p := hA0
  rw [Try.params7] at hA hval
  obtain ⟨v0, vs0, d0, ds0, p0, q0, hargs, rfl, rfl, h0, r0⟩ := trodAll_cons hA
  obtain ⟨rfl, rfl, rfl⟩ := trodAll_nil r0
  obtain rfl : args = #[v0] := by cases args; simp_all
  obtain ⟨rfl, rfl⟩ := trodVars_none hV
  obtain ⟨a0, w0⟩ := open_irow (hval 0 49 v0 rfl rfl) h0
  have hlt0 : ∀ x ∈ p0, x.block < W.heap.size := fun x hx => by
    have := hW'.lt x (by simp [hx])
    simpa using this
  clear hA0 hval0
  simp only [List.append_nil] at hW'
  refine (walk v0 a0  W w0).mono fun e W' ⟨he, bel⟩ => ?_
  subst he
  exact ⟨_, rfl, _, _, _, [], _, [], hW', trodAll_mk1 (shut_bool Try.underlying4 _), (trodAll_cons_mk (Below.trod laidOut (by kernel_rfl) (of_decide_eq_true (by kernel_rfl)) h0 bel hlt0) trodAll_mk0), rfl, bel.frame _, fun h => by cases h⟩

/-- The statement. -/
theorem proved : Rows.GroupSplitsSaid :=
  OpenClaim.holds_of_wide 7 Try.f7 rfl rfl rfl rfl rfl rfl rfl ⟨rfl, rfl, rfl, rfl, rfl⟩ rfl rfl rfl rfl rfl (by kernel_rfl) Try.func7 (by kernel_rfl)
    (of_decide_eq_true (by kernel_rfl)) (by unfold Func.isWrapper; first | (rw [if_pos (by decide +kernel)]; kernel_rfl) | (rw [if_neg (by decide +kernel)]; exact ⟨rfl, rfl⟩))
    (fun os started H enc _ => lifted os started H enc)
#print axioms proved

end Go.Proofs.Ytdaegnmokaibpaa.groupSplits
