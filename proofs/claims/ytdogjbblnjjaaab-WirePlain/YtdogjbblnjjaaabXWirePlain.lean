/- WirePlain holds: for every name, data and number, a message whose names are not compressed is read, and is written no longer. -/
import Derived.Test.YtdogjbblnjjaaabXWpA
import Derived.ProofKit
import Derived.OpenShut
import Derived.ShutString
namespace Go.Proofs.Ytdogjbblnjjaaab.wirePlain
open Go.ChangeShapes Go.WideShapes Go.ChangeAt Go.RowKit
open Go.ChangeMaps (open_string shut_string)
open Pl

/-- What stands ahead of Put. -/
def plW (u : World) (C : Array Value) (n d : ByteArray) (K : Int) : World := (((u.alloc (.cells C 33)).alloc (.cells #[.string n, .int .i64 999, .int .i64 1] 38)).alloc (.cells #[.string n, .int .i64 999, .int .i64 1, .int .i64 K, .string d, .string n, .int .i64 999, .int .i64 1, .int .i64 K, .string d] 25)).alloc (.cells #[.int .i64 5, .bool false, .int .i64 0, .bool false, .bool false, .bool false, .bool false, .int .i64 0, .int .i64 0, .slice (some ⟨u.heap.size + 1, 0, none⟩) 1 1, .slice (some ⟨u.heap.size + 1 + 1, 0, none⟩) 2 2, .slice none 0 0, .slice none 0 0] 33)
theorem pl_new (u : World) (C : Array Value) (n d : ByteArray) (K : Int) (hn : n.size ≤ 100000) (hd : d.size ≤ 100000) : Below u.heap.size u (plW u C n d K) ∧ Blk (plW u C n d K) u.heap.size C 33 ∧ Blk (plW u C n d K) (u.heap.size + 1 + 1 + 1) #[.int .i64 5, .bool false, .int .i64 0, .bool false, .bool false, .bool false, .bool false, .int .i64 0, .int .i64 0, .slice (some ⟨u.heap.size + 1, 0, none⟩) 1 1, .slice (some ⟨u.heap.size + 1 + 1, 0, none⟩) 2 2, .slice none 0 0, .slice none 0 0] 33 ∧
    QRow (plW u C n d K) (.slice (some ⟨u.heap.size + 1, 0, none⟩) 1 1) [pQ n] ∧ RRow (plW u C n d K) (.slice (some ⟨u.heap.size + 1 + 1, 0, none⟩) 2 2) [pR n d K, pR n d K] := by
  unfold plW
  refine ⟨lay (lay (lay (lay (Below.refl _ _) _) _) _) _, (((Blk.new u _ _).alloc _).alloc _).alloc _, ?_, ?_, ?_⟩
  · have := Blk.new (((u.alloc (.cells C 33)).alloc (.cells #[.string n, .int .i64 999, .int .i64 1] 38)).alloc (.cells #[.string n, .int .i64 999, .int .i64 1, .int .i64 K, .string d, .string n, .int .i64 999, .int .i64 1, .int .i64 K, .string d] 25)) #[.int .i64 5, .bool false, .int .i64 0, .bool false, .bool false, .bool false, .bool false, .int .i64 0, .int .i64 0, .slice (some ⟨u.heap.size + 1, 0, none⟩) 1 1, .slice (some ⟨u.heap.size + 1 + 1, 0, none⟩) 2 2, .slice none 0 0, .slice none 0 0] 33
    rw [World.size_alloc, World.size_alloc, World.size_alloc] at this
    exact this
  · have := Blk.new (u.alloc (.cells C 33)) #[.string n, .int .i64 999, .int .i64 1] 38
    rw [World.size_alloc] at this
    exact qrow_lit (q := pQ n) ((this.alloc _).alloc _) hn
  · have := Blk.new ((u.alloc (.cells C 33)).alloc (.cells #[.string n, .int .i64 999, .int .i64 1] 38)) #[.string n, .int .i64 999, .int .i64 1, .int .i64 K, .string d, .string n, .int .i64 999, .int .i64 1, .int .i64 K, .string d] 25
    rw [World.size_alloc, World.size_alloc] at this
    exact rrow_two (r := pR n d K) (this.alloc _) hn hd

set_option maxRecDepth 20000 in
set_option maxHeartbeats 4000000 in
theorem w_yes (n d : ByteArray) (x : Int) (w : World) (hn : isName n.data.toList = true) (hd : d.size ≤ 300) :
    Calls Try.prog 3 #[.string n, .string d, .int .i64 x] w fun e w' => e = .returned (.bool true) ∧ Below w.heap.size w w' := by
  have hb : Below w.heap.size w w := Below.refl _ _
  have hns : n.size ≤ 255 := by have := (name_some hn).1; rw [data_len] at this; omega
  obtain ⟨K, hK⟩ : ∃ K, bits .and .i64 x 4294967295 = K := ⟨_, rfl⟩
  have hK0 : 0 ≤ K ∧ K ≤ 4294967295 := by rw [← hK, mask32]; omega
  obtain ⟨T2, hp, hT2⟩ := p_put (k := K) hn hd hK0
  have HP : Hid (putV ⟨⟨5, false, 0, false, false, false, false, 0, 0⟩, [pQ n], [pR n d K, pR n d K], [], []⟩ = .tuple #[.string T2, .int .i64 0]) := hp
  obtain ⟨hg, hTs⟩ := p_get (T := pS n ++ pO n d K ++ pO n d K) hn hd hK0 rfl (p_bytes n d K)
  obtain ⟨T, hT⟩ : ∃ T, T = pS n ++ pO n d K ++ pO n d K := ⟨_, rfl⟩
  rw [← hT] at hg hTs
  have HG : Hid (gM T = ⟨⟨5, false, 0, false, false, false, false, 0, 0⟩, [pQ n], [pR n d K, pR n d K], [], []⟩ ∧ gE T = 0) := g_some (m := pM n d K) (by omega) hg
  have hle : T2.size ≤ T.size := by omega
  have hTm : T.size ≤ maxLen := small100 (by omega)
  have HFEW : Hid _ := gM_few T
  rw [HG.out.1] at HFEW
  have hmay := fun u => refMay_at n true u (small100 (by omega)) hn
  have s6 : (p6 d K).size = 6 := by unfold p6; rw [toArr_size]; rfl
  have k6 : ∀ (u : World) (o : Obj), (convert 27 9 (.slice (some ⟨u.heap.size + 1, 0, none⟩) 6 6)).run Try.prog ((u.alloc o).alloc (.cells #[.int .u8 (K / 16777216), .int .u8 (K / 65536 % 256), .int .u8 (K / 256 % 256), .int .u8 (K % 256), .int .u8 ((d.size : Int) / 256), .int .u8 ((d.size : Int) % 256)] 5)) = .ok (.string (p6 d K)) ((u.alloc o).alloc (.cells #[.int .u8 (K / 16777216), .int .u8 (K / 65536 % 256), .int .u8 (K / 256 % 256), .int .u8 (K % 256), .int .u8 ((d.size : Int) / 256), .int .u8 ((d.size : Int) % 256)] 5)) := fun u o => by
    have := conv_lit [oct K 16777216, oct K 65536, oct K 256, oct K 1, oct (d.size : Int) 256, oct (d.size : Int) 1] (u.alloc o)
    simp only [List.map_cons, List.map_nil, bv, oct_nat, Int.ediv_one] at this
    rw [show K / 16777216 % 256 = K / 16777216 from by omega, show (d.size : Int) / 256 % 256 = (d.size : Int) / 256 from by omega, World.size_alloc] at this
    exact this
  obtain ⟨S, hS⟩ : ∃ S, S = pS n := ⟨_, rfl⟩
  obtain ⟨O, hO⟩ : ∃ O, O = pO n d K := ⟨_, rfl⟩
  obtain ⟨C6, hC6⟩ : ∃ C6, C6 = p6 d K := ⟨_, rfl⟩
  have lH : (⟨#[0, 5, 0, 0, 0, 1, 0, 2, 0, 0, 0, 0]⟩ : ByteArray).size = 12 := rfl
  have l4 : (⟨#[3, 231, 0, 1]⟩ : ByteArray).size = 4 := rfl
  have sS : S.size ≤ 1000 := by rw [hS]; unfold pS; rw [ByteArray.size_append, ByteArray.size_append, lH, l4]; omega
  have sO : O.size ≤ 1000 := by rw [hO]; unfold pO; rw [ByteArray.size_append, ByteArray.size_append, ByteArray.size_append, l4, s6]; omega
  have z1 : ∀ u : World, (Op.stringOp .add ⟨#[0, 5, 0, 0, 0, 1, 0, 2, 0, 0, 0, 0]⟩ n).run Try.prog u = .ok (.string (⟨#[0, 5, 0, 0, 0, 1, 0, 2, 0, 0, 0, 0]⟩ ++ n)) u := fun u => run_string_add_sum u _ _ (by rw [lH]; omega)
  have z2 : ∀ u : World, (Op.stringOp .add (⟨#[0, 5, 0, 0, 0, 1, 0, 2, 0, 0, 0, 0]⟩ ++ n) ⟨#[3, 231, 0, 1]⟩).run Try.prog u = .ok (.string S) u := fun u => by rw [hS]; exact run_string_add_sum u _ _ (by rw [ByteArray.size_append, lH, l4]; omega)
  have z3 : ∀ u : World, (Op.stringOp .add n ⟨#[3, 231, 0, 1]⟩).run Try.prog u = .ok (.string (n ++ ⟨#[3, 231, 0, 1]⟩)) u := fun u => run_string_add_sum u _ _ (by rw [l4]; omega)
  have z4 : ∀ u : World, (Op.stringOp .add (n ++ ⟨#[3, 231, 0, 1]⟩) C6).run Try.prog u = .ok (.string (n ++ ⟨#[3, 231, 0, 1]⟩ ++ C6)) u := fun u => run_string_add_sum u _ _ (by rw [ByteArray.size_append, l4, hC6, s6]; omega)
  have z5 : ∀ u : World, (Op.stringOp .add (n ++ ⟨#[3, 231, 0, 1]⟩ ++ C6) d).run Try.prog u = .ok (.string O) u := fun u => by rw [hO, hC6]; exact run_string_add_sum u _ _ (by rw [ByteArray.size_append, ByteArray.size_append, l4, s6]; omega)
  have z6 : ∀ u : World, (Op.stringOp .add S O).run Try.prog u = .ok (.string (S ++ O)) u := fun u => run_string_add_sum u _ _ (by omega)
  have z7 : ∀ u : World, (Op.stringOp .add (S ++ O) O).run Try.prog u = .ok (.string T) u := fun u => by rw [hT, ← hS, ← hO]; exact run_string_add_sum u _ _ (by rw [ByteArray.size_append]; omega)
  rw [← hC6] at k6
  have HD : Hid (d.size ≤ 100000) := by unfold Hid; omega
  have HN : Hid (n.size ≤ 100000) := by unfold Hid; omega
  clear hp hg hT hS hO hC6 s6 lH l4 hn hTs hT2
  have hd' : decide ((300 : Int) < (d.size : Int)) = false := by simp; omega
  go_enter Try.func3, Try.ntmps3
  go_wp2_with (first
    | (go_at_call 8; refine (num_any _ _).mono ?_; rintro e w' ⟨rfl, hw⟩; obtain rfl := hw.symm)
    | (go_at_call 4; go_must (refine (awake_any _).mono ?_); rintro e w0 ⟨rfl, bb⟩; replace hb := next hb bb; clear bb)
    | (go_at_call 5; go_must (refine (hmay _).mono ?_); rintro e w1 ⟨rfl, bb⟩; replace hb := next hb bb; have KR := Blk.new w1 #[.string n, .int .i64 999, .int .i64 1, .int .i64 K, .string d] 25; clear bb)
    | (go_at_call 6; go_must (refine (get_h T 5 false 0 false false false false 0 0 [pQ n] [pR n d K, pR n d K] [] [] 0 _ hTm HG.out).mono ?_); rintro e u2 ⟨y0, y1, y2, y3, n0, n1, n2, n3, k0, k1, k2, k3, rfl, oo, bb⟩; replace hb := next (lay (lay hb _) _) bb; replace KR := (KR.alloc _).below bb; have O2 : Hid (MR u2 (.slice y0 n0 k0) (.slice y1 n1 k1) (.slice y2 n2 k2) (.slice y3 n3 k3) ⟨⟨5, false, 0, false, false, false, false, 0, 0⟩, [pQ n], [pR n d K, pR n d K], [], []⟩) := oo.mr HFEW.out; have KX := Blk.new u2 #[.int .i64 5, .bool false, .int .i64 0, .bool false, .bool false, .bool false, .bool false, .int .i64 0, .int .i64 0, .slice y0 n0 k0, .slice y1 n1 k1, .slice y2 n2 k2, .slice y3 n3 k3] 33; have ltR := KR.lt; have r0 : u2.cell? ⟨w1.heap.size, 0, none⟩ = some (.string n) := KR.cell 0; have r1 : u2.cell? ⟨w1.heap.size, 1, none⟩ = some (.int .i64 999) := KR.cell 1; have r2 : u2.cell? ⟨w1.heap.size, 2, none⟩ = some (.int .i64 1) := KR.cell 2; have r3 : u2.cell? ⟨w1.heap.size, 3, none⟩ = some (.int .i64 K) := KR.cell 3; have r4 : u2.cell? ⟨w1.heap.size, 4, none⟩ = some (.string d) := KR.cell 4; clear oo bb)
    | (go_at_call 7; go_must (refine (put_h 5 false 0 false false false false 0 0 [pQ n] [pR n d K, pR n d K] [] [] T2 0 _ _ _ _ (plW u2 #[.int .i64 5, .bool false, .int .i64 0, .bool false, .bool false, .bool false, .bool false, .int .i64 0, .int .i64 0, .slice y0 n0 k0, .slice y1 n1 k1, .slice y2 n2 k2, .slice y3 n3 k3] n d K) HP.out (pl_new u2 #[.int .i64 5, .bool false, .int .i64 0, .bool false, .bool false, .bool false, .bool false, .int .i64 0, .int .i64 0, .slice y0 n0 k0, .slice y1 n1 k1, .slice y2 n2 k2, .slice y3 n3 k3] n d K HN.out HD.out).2.2.2.1 (pl_new u2 #[.int .i64 5, .bool false, .int .i64 0, .bool false, .bool false, .bool false, .bool false, .int .i64 0, .int .i64 0, .slice y0 n0 k0, .slice y1 n1 k1, .slice y2 n2 k2, .slice y3 n3 k3] n d K HN.out HD.out).2.2.2.2 (RRow.nil _) (RRow.nil _)).mono ?_); rintro e u3 ⟨rfl, bb⟩; have pn := pl_new u2 #[.int .i64 5, .bool false, .int .i64 0, .bool false, .bool false, .bool false, .bool false, .int .i64 0, .int .i64 0, .slice y0 n0 k0, .slice y1 n1 k1, .slice y2 n2 k2, .slice y3 n3 k3] n d K HN.out HD.out; have HB3 : Hid (Below w.heap.size w u3) := next (next hb pn.1) bb; have R0 : Hid (QRow u3 _ [pQ n]) := pn.2.2.2.1.below bb; have R1 : Hid (RRow u3 _ [pR n d K, pR n d K]) := pn.2.2.2.2.below bb; have O3 : Hid (MR u3 (.slice y0 n0 k0) (.slice y1 n1 k1) (.slice y2 n2 k2) (.slice y3 n3 k3) ⟨⟨5, false, 0, false, false, false, false, 0, 0⟩, [pQ n], [pR n d K, pR n d K], [], []⟩) := (O2.out.below pn.1).below bb; have KX3 := pn.2.1.below bb; have KM3 := pn.2.2.1.below bb; have xc0 : u3.cell? ⟨u2.heap.size, 0, none⟩ = some (.int .i64 5) := KX3.cell 0; have xc1 : u3.cell? ⟨u2.heap.size, 1, none⟩ = some (.bool false) := KX3.cell 1; have xc2 : u3.cell? ⟨u2.heap.size, 2, none⟩ = some (.int .i64 0) := KX3.cell 2; have xc3 : u3.cell? ⟨u2.heap.size, 3, none⟩ = some (.bool false) := KX3.cell 3; have xc4 : u3.cell? ⟨u2.heap.size, 4, none⟩ = some (.bool false) := KX3.cell 4; have xc5 : u3.cell? ⟨u2.heap.size, 5, none⟩ = some (.bool false) := KX3.cell 5; have xc6 : u3.cell? ⟨u2.heap.size, 6, none⟩ = some (.bool false) := KX3.cell 6; have xc7 : u3.cell? ⟨u2.heap.size, 7, none⟩ = some (.int .i64 0) := KX3.cell 7; have xc8 : u3.cell? ⟨u2.heap.size, 8, none⟩ = some (.int .i64 0) := KX3.cell 8; have xc9 : u3.cell? ⟨u2.heap.size, 9, none⟩ = some (.slice y0 n0 k0) := KX3.cell 9; have xc10 : u3.cell? ⟨u2.heap.size, 10, none⟩ = some (.slice y1 n1 k1) := KX3.cell 10; have xc11 : u3.cell? ⟨u2.heap.size, 11, none⟩ = some (.slice y2 n2 k2) := KX3.cell 11; have xc12 : u3.cell? ⟨u2.heap.size, 12, none⟩ = some (.slice y3 n3 k3) := KX3.cell 12; have m0 : u3.cell? ⟨u2.heap.size + 1 + 1 + 1, 0, none⟩ = some (.int .i64 5) := KM3.cell 0; have m1 : u3.cell? ⟨u2.heap.size + 1 + 1 + 1, 1, none⟩ = some (.bool false) := KM3.cell 1; have m2 : u3.cell? ⟨u2.heap.size + 1 + 1 + 1, 2, none⟩ = some (.int .i64 0) := KM3.cell 2; have m3 : u3.cell? ⟨u2.heap.size + 1 + 1 + 1, 3, none⟩ = some (.bool false) := KM3.cell 3; have m4 : u3.cell? ⟨u2.heap.size + 1 + 1 + 1, 4, none⟩ = some (.bool false) := KM3.cell 4; have m5 : u3.cell? ⟨u2.heap.size + 1 + 1 + 1, 5, none⟩ = some (.bool false) := KM3.cell 5; have m6 : u3.cell? ⟨u2.heap.size + 1 + 1 + 1, 6, none⟩ = some (.bool false) := KM3.cell 6; have m7 : u3.cell? ⟨u2.heap.size + 1 + 1 + 1, 7, none⟩ = some (.int .i64 0) := KM3.cell 7; have m8 : u3.cell? ⟨u2.heap.size + 1 + 1 + 1, 8, none⟩ = some (.int .i64 0) := KM3.cell 8; have m9 : u3.cell? ⟨u2.heap.size + 1 + 1 + 1, 9, none⟩ = some (.slice (some ⟨u2.heap.size + 1, 0, none⟩) 1 1) := KM3.cell 9; have m10 : u3.cell? ⟨u2.heap.size + 1 + 1 + 1, 10, none⟩ = some (.slice (some ⟨u2.heap.size + 1 + 1, 0, none⟩) 2 2) := KM3.cell 10; have m11 : u3.cell? ⟨u2.heap.size + 1 + 1 + 1, 11, none⟩ = some (.slice none 0 0) := KM3.cell 11; have m12 : u3.cell? ⟨u2.heap.size + 1 + 1 + 1, 12, none⟩ = some (.slice none 0 0) := KM3.cell 12; have ltX := KX3.lt; have ltM := KM3.lt; clear pn bb hb KX O2 KR ltR r0 r1 r2 r3 r4)
    | (go_at_call 9; go_must (refine (same_h 5 false 0 false false false false 0 0 [pQ n] [pR n d K, pR n d K] [] [] _ _ _ _ _ _ _ _ _ O3.out (MRow.mr (m := ⟨⟨5, false, 0, false, false, false, false, 0, 0⟩, [pQ n], [pR n d K, pR n d K], [], []⟩) R0.out R1.out (RRow.nil _) (RRow.nil _))).mono ?_); rintro e w6 ⟨rfl, bb⟩; have HB6 : Hid (Below w.heap.size w w6) := next HB3.out bb; clear bb))
  go_ret
  exact ⟨ret_bool (by simp), HB6.out⟩

set_option maxRecDepth 20000 in
set_option maxHeartbeats 1000000 in
theorem walk (n d : ByteArray) (x : Int) (hn : n.size ≤ maxLen) (hd : d.size ≤ maxLen) (_ : (Lit.int .i64 x).wf = true) (w : World) :
    Calls Try.prog 3 #[.string n, .string d, .int .i64 x] w fun e w' => e = .returned (.bool true) ∧ Below w.heap.size w w' := by
  have hb : Below w.heap.size w w := Below.refl _ _
  cases hnm : isName n.data.toList with
  | false =>
    have hmay := fun u => refMay_at n false u hn hnm
    clear hnm
    go_enter Try.func3, Try.ntmps3
    go_wp2_with (first
      | (go_at_call 4; go_must (refine (awake_any _).mono ?_); rintro e w0 ⟨rfl, bb⟩; replace hb := next hb bb; clear bb)
      | (go_at_call 5; go_must (refine (hmay _).mono ?_); rintro e w1 ⟨rfl, bb⟩; replace hb := next hb bb; clear bb))
    go_ret
    exact ⟨rfl, hb⟩
  | true =>
    by_cases h3 : d.size ≤ 300
    · exact w_yes n d x w hnm h3
    · have hd := hd
      unfold maxLen at hd
      have h3' : (300 : Int) < (d.size : Int) := by omega
      have hmay := fun u => refMay_at n true u hn hnm
      clear hnm
      go_enter Try.func3, Try.ntmps3
      go_wp2_with (first
        | (go_at_call 4; go_must (refine (awake_any _).mono ?_); rintro e w0 ⟨rfl, bb⟩; replace hb := next hb bb; clear bb)
        | (go_at_call 5; go_must (refine (hmay _).mono ?_); rintro e w1 ⟨rfl, bb⟩; replace hb := next hb bb; clear bb))
      go_ret
      exact ⟨rfl, hb⟩

theorem own : ownKnob Try.prog.godebug = none := by kernel_rfl

set_option maxRecDepth 100000 in
theorem lifted (os : Os) (started : os.Started) (H : Type) (enc : TypeId × Value → H) :
    ReturnsInHanded {} Try.checked os 3 .any (Rows.wirePlainSpec.pre6 enc Try.prog Try.f3 Rows.wirePlainRow.domain false) (Rows.wirePlainSpec.post enc Try.prog Try.f3 false true false false) := by
  refine returnsInHanded_of_change (C := Try.checked) own started (by kernel_rfl) Try.func3
    (ChangeSpec.witness6 (enc := enc) (C := Try.checked) false ⟨#[], #[.string ByteArray.empty, .string ByteArray.empty, .int .i64 0], []⟩ 8 (by kernel_rfl) (by kernel_rfl) (by kernel_rfl) (by kernel_rfl)) ?_
  intro W base args ds gs before hval0 hW _ _
  have hval : ∀ (j : Nat) t v, Try.f3.params[j]? = some t → args[j]? = some v → Value.okWide Try.prog W .any base t v := hval0
  have hW' := hW
  obtain ⟨p, q, hA0, hV, rfl, hfz, hnd⟩ := hW
  have hA : DataW.TrodAll enc Try.prog W 0 (fun _ => true) true Try.f3.params.toList args.toList ds p := hA0
  rw [Try.params3] at hA hval
  obtain ⟨v0, vs0, d0, ds0, p0, q0, hargs, rfl, rfl, h0, r0⟩ := trodAll_cons hA
  obtain ⟨v1, vs1, d1, ds1, p1, q1, rfl, rfl, rfl, h1, r1⟩ := trodAll_cons r0
  obtain ⟨v2, vs2, d2, ds2, p2, q2, rfl, rfl, rfl, h2, r2⟩ := trodAll_cons r1
  obtain ⟨rfl, rfl, rfl⟩ := trodAll_nil r2
  obtain rfl : args = #[v0, v1, v2] := by cases args; simp_all
  obtain ⟨rfl, rfl⟩ := trodVars_none hV
  obtain ⟨a0, rfl, rfl, rfl, w0⟩ := open_string Try.underlying9 (hval 0 9 v0 rfl rfl) h0
  obtain ⟨a1, rfl, rfl, rfl, w1⟩ := open_string Try.underlying9 (hval 1 9 v1 rfl rfl) h1
  obtain ⟨a2, rfl, rfl, rfl, w2⟩ := open_int Try.underlying3 (hval 2 3 v2 rfl rfl) h2
  clear hA0 hval0
  simp only [List.append_nil] at hW'
  refine (walk a0 a1 a2 w0 w1 w2 W ).mono fun e W' ⟨he, bel⟩ => ?_
  subst he
  exact ⟨_, rfl, _, _, _, [], [], [], hW', trodAll_mk1 (shut_bool Try.underlying4 _), (trodAll_cons_mk (shut_string Try.underlying9 w0) (trodAll_cons_mk (shut_string Try.underlying9 w1) (trodAll_cons_mk (shut_int Try.underlying3 w2) trodAll_mk0))), rfl, bel.frame _, fun h => by cases h⟩

/-- The statement. -/
theorem proved : Rows.WirePlainSaid :=
  OpenClaim.holds_of_wide 3 Try.f3 rfl rfl rfl rfl rfl rfl rfl ⟨rfl, rfl, rfl, rfl, rfl⟩ rfl rfl rfl rfl rfl (by kernel_rfl) Try.func3 (by kernel_rfl)
    (of_decide_eq_true (by kernel_rfl)) (by unfold Func.isWrapper; first | (rw [if_pos (by decide +kernel)]; kernel_rfl) | (rw [if_neg (by decide +kernel)]; exact ⟨rfl, rfl⟩))
    (fun os started H enc _ => lifted os started H enc)
#print axioms proved

end Go.Proofs.Ytdogjbblnjjaaab.wirePlain
