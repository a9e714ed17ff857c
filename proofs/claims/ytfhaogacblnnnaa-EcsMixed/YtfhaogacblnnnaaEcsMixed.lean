/- EcsMixed holds: clients' addresses among other options, in any places, go; all else stays, each with its bytes. -/
import Derived.Test.YtfhaogacblnnnaaEcF
import Derived.Test.YtfhaogacblnnnaaEcH
import Derived.Test.YtfhaogacblnnnaaOpH
import Derived.Deep.DeepCutAuto
import Derived.ProofKit
import Derived.OpenShut
import Derived.ShutString
namespace Go.Proofs.Ytfhaogacblnnnaa.ecsMixed
open Go.ChangeShapes Go.WideShapes Go.ChangeAt Go.RowKit
open Go.ChangeMaps (open_string shut_string)

/-- What EcsMixed holds while it makes options: the OPT with its row, and the row of what is to stay. -/
structure MX (w0 w : World) (g : Nat) (v v2 : Value) (l l2 : List On) : Prop where
  box : Blk w g #[.int .i64 700, .int .i64 0, .int .i64 0, .bool false, .int .i64 0, v] 24
  own : w.ownsRow w0.heap.size 33 2 v l.length (oC l)
  want : w.ownsRow w0.heap.size 33 2 v2 l2.length (oC l2)
  apart : ∀ k, v.ownBlock = some k → v2.ownBlock ≠ some k
  new : w0.heap.size ≤ g
  below : Below w0.heap.size w0 w
theorem MX.past {w0 w w' : World} {g : Nat} {v v2 : Value} {l l2 : List On} (h : MX w0 w g v v2 l l2) (hb : Below w.heap.size w w') : MX w0 w' g v v2 l l2 :=
  ⟨h.box.below hb, own_past h.own hb, own_past h.want hb, h.apart, h.new, next h.below hb⟩
theorem MX.app1 {w0 w w' : World} {g : Nat} {v v2 v3 : Value} {l l' l2 : List On} (h : MX w0 w g v v2 l l2) (hg : w.grownBy w' v.ownBlock) (ho : w'.ownsRow w0.heap.size 33 2 v3 l'.length (oC l')) (hk : ∀ k, v3.ownBlock = some k → v.ownBlock = some k ∨ w.heap.size ≤ k) :
    MX w0 (w'.setCell ⟨g, 5, none⟩ v3) g v3 v2 l' l2 := by
  have T := Turn.of_grown (S := fun k => v.ownBlock = some k) hg (fun k e => e)
  have hbox := h.box.grown hg (own_sep h.own h.box (by decide))
  have hwant := T.row h.want (fun k hk e => h.apart k e hk)
  have hbel := h.below.grown hg h.below.size (fun k e => (h.own.lt k e).1)
  have S := Turn.of_set (S := fun k => k = g) w' (p := ⟨g, 5, none⟩) rfl v3
  refine ⟨hbox.set 5 v3, S.row ho (fun k hk e => own_sep ho hbox (by decide) (by rw [hk, e])), S.row hwant (fun k hk e => own_sep hwant hbox (by decide) (by rw [hk, e])), fun k h3 h2 => ?_, h.new, Turn.below hbel S hbel.size (fun i e => by rw [e]; exact h.new)⟩
  rcases hk k h3 with e | e
  · exact h.apart k e h2
  · have := (h.want.lt k h2).2
    omega
theorem MX.app2 {w0 w w' : World} {g : Nat} {v v2 v3 : Value} {l l2 l' : List On} (h : MX w0 w g v v2 l l2) (hg : w.grownBy w' v2.ownBlock) (ho : w'.ownsRow w0.heap.size 33 2 v3 l'.length (oC l')) (hk : ∀ k, v3.ownBlock = some k → v2.ownBlock = some k ∨ w.heap.size ≤ k) :
    MX w0 w' g v v3 l l' := by
  have T := Turn.of_grown (S := fun k => v2.ownBlock = some k) hg (fun k e => e)
  have hbox := h.box.grown hg (own_sep h.want h.box (by decide))
  have hown := T.row h.own (fun k hk e => h.apart k hk e)
  refine ⟨hbox, hown, ho, fun k h1 h3 => ?_, h.new, h.below.grown hg h.below.size (fun k e => (h.want.lt k e).1)⟩
  rcases hk k h3 with e | e
  · exact h.apart k h1 e
  · have := (h.own.lt k h1).2
    omega

/-- What EcsMixed holds at its end: the OPT, what Strip gives of it, and the rows. -/
structure TM (w0 w : World) (gb gy : Nat) (v v2 vy : Value) (l : List On) : Prop where
  box : Blk w gb #[.int .i64 700, .int .i64 0, .int .i64 0, .bool false, .int .i64 0, v] 24
  cut : Blk w gy #[.int .i64 700, .int .i64 0, .int .i64 0, .bool false, .int .i64 0, vy] 24
  row : Row w v l.length (oC l)
  want : Row w v2 (flt l).length (oC (flt l))
  left : Row w vy (flt l).length (oC (flt l))
  below : Below w0.heap.size w0 w
theorem TM.past {w0 w w' : World} {gb gy : Nat} {v v2 vy : Value} {l : List On} (h : TM w0 w gb gy v v2 vy l) (hb : Below w.heap.size w w') : TM w0 w' gb gy v v2 vy l :=
  ⟨h.box.below hb, h.cut.below hb, h.row.below hb, h.want.below hb, h.left.below hb, next h.below hb⟩
theorem TM.start {w0 w w1 : World} {gb : Nat} {v v2 vy : Value} {l : List On} (h : MX w0 w gb v v2 l (flt l)) (hb : Below w.heap.size w w1) {n : Nat} (hn : n = (flt l).length) (ho : w1.ownsRow w.heap.size 33 2 vy n (oC (flt l))) : TM w0 (w1.alloc (.cells #[.int .i64 700, .int .i64 0, .int .i64 0, .bool false, .int .i64 0, vy] 24)) gb w1.heap.size v v2 vy l := by
  have hb2 := next hb (lay (Below.refl w1.heap.size w1) (.cells #[.int .i64 700, .int .i64 0, .int .i64 0, .bool false, .int .i64 0, vy] 24))
  have h1 := h.past hb2
  exact ⟨h1.box, Blk.new _ _ _, Row.of_own h1.own, Row.of_own h1.want, by rw [← hn]; exact Row.of_own (ho.alloc _), h1.below⟩

/-- A block, behind others that were laid. -/
theorem blk_a (u : World) (C : Array Value) (t : TypeId) : Blk (u.alloc (.cells C t)) u.heap.size C t := Blk.new u C t
theorem blk_b (u : World) (C : Array Value) (t : TypeId) (o : Obj) : Blk ((u.alloc (.cells C t)).alloc o) u.heap.size C t := (blk_a u C t).alloc o
theorem blk_c (u : World) (C : Array Value) (t : TypeId) (o o' : Obj) : Blk (((u.alloc (.cells C t)).alloc o).alloc o') u.heap.size C t := (blk_b u C t o).alloc o'
theorem blk_d (u : World) (C : Array Value) (t : TypeId) (o : Obj) : Blk ((u.alloc o).alloc (.cells C t)) (u.heap.size + 1) C t := by
  have := blk_a (u.alloc o) C t; rw [World.size_alloc] at this; exact this
theorem blk_e (u : World) (C : Array Value) (t : TypeId) (o o' : Obj) : Blk (((u.alloc o).alloc (.cells C t)).alloc o') (u.heap.size + 1) C t := (blk_d u C t o).alloc o'
theorem blk_f (u : World) (C : Array Value) (t : TypeId) (o o' : Obj) : Blk (((u.alloc o).alloc o').alloc (.cells C t)) (u.heap.size + 1 + 1) C t := by
  have := blk_a ((u.alloc o).alloc o') C t; rw [World.size_alloc, World.size_alloc] at this; exact this
theorem one_str (j g : Nat) (u : World) (hj : j < 256) (h : Blk u g #[.int .u8 (j : Int)] 5) : (convert 36 9 (.slice (some ⟨g, 0, none⟩) 1 1)).run Try.prog u.drew = .ok (.string ⟨#[UInt8.ofNat j]⟩) u.drew := by
  refine run_convert_bytes_back _ 36 9 5 ⟨g, 0, none⟩ 1 [UInt8.ofNat j] Try.underlying36 Try.underlying5 Try.underlying9 fun i hi => ?_
  obtain rfl : i = 0 := by simp at hi; omega
  have e : (⟨g, 0, none⟩ : Addr).add 0 = ⟨g, 0, none⟩ := by unfold Addr.add; split <;> simp_all
  rw [e, World.cell?_drew, h.cell 0]
  have : (UInt8.ofNat j).toNat = j := by rw [UInt8.toNat_ofNat']; omega
  simp [this]
theorem wrap_pk (p : Int) : IntKind.i64.wrap ((IntKind.u64.wrap p).tmod 5) = (pk p : Int) := by
  have h1 : IntKind.u64.wrap p = p % 18446744073709551616 := by simp [IntKind.wrap, IntKind.bits, IntKind.signed]
  have h2 : 0 ≤ p % 18446744073709551616 := Int.emod_nonneg _ (by decide)
  rw [h1, Int.tmod_eq_emod_of_nonneg h2, pk_int, IntKind.wrap_i64]
  omega
/-- What a pick takes of the row of Codes. -/
theorem code_at {u : World} {g r : Nat} (hr : r < 5) (h : Blk u g #[.int .i64 8, .int .i64 12, .int .i64 8, .int .i64 65535, .int .i64 0] 3) : u.cell? ⟨g, r, none⟩ = some (.int .i64 (codeL.getD r 0)) := by
  rw [h.cell r]
  match r, hr with
  | 0, _ => rfl
  | 1, _ => rfl
  | 2, _ => rfl
  | 3, _ => rfl
  | 4, _ => rfl

theorem row_set (u : World) (p : Addr) (v : Value) (C : Array Value) (t : TypeId) (xs : List Value) (h : C.toList = xs) : Row ((u.setCell p v).alloc (.cells C t)) (.slice (some ⟨u.heap.size, 0, none⟩) 1 1) 1 xs := by
  have := Row.of_blk (Blk.new (u.setCell p v) C t) h 1 1
  rw [World.size_setCell] at this
  exact this

theorem step1 {w wc w3 : World} {gb g n : Nat} {v v2 v3 : Value} {l l' l2 : List On} {q : On} (h : MX w wc gb v v2 l l2) (hx : Blk wc g #[.int .i64 q.c, .string q.d] 33) (hne : g ≠ gb) (hgo : some g ≠ v.ownBlock) (hn : n = l.length) (hl : l' = l ++ [q])
    (h1 : w3.ownsRow w.heap.size 33 2 v3 (n + 1) (oC l ++ oC [q])) (h3 : (wc.alloc (.cells #[.int .i64 q.c, .string q.d] 33)).grownBy w3 v.ownBlock) (h5 : ∀ k, v3.ownBlock = some k → v.ownBlock = some k ∨ (wc.alloc (.cells #[.int .i64 q.c, .string q.d] 33)).heap.size ≤ k) :
    MX w (w3.setCell ⟨gb, 5, none⟩ v3) gb v3 v2 l' l2 ∧ w3.cell? ⟨gb, 5, none⟩ = some v ∧ w3.frozen? ⟨gb, 5, none⟩ = false ∧ (w3.setCell ⟨gb, 5, none⟩ v3).cell? ⟨g, 0, none⟩ = some (.int .i64 q.c) ∧ (w3.setCell ⟨gb, 5, none⟩ v3).cell? ⟨g, 1, none⟩ = some (.string q.d) := by
  have hp := h.past (lay (Below.refl _ _) (.cells #[.int .i64 q.c, .string q.d] 33))
  have kb := hp.box.grown h3 (own_sep hp.own hp.box (by decide))
  have hx3 := ((hx.alloc (.cells #[.int .i64 q.c, .string q.d] 33)).grown h3 hgo).other (b := gb) hne 5 v3
  exact ⟨hp.app1 h3 (by rw [hl, oC_app, List.length_append, ← hn]; exact h1) h5, kb.cell 5, kb.frozen 5, hx3.cell 0, hx3.cell 1⟩
theorem step2 {w u w4 : World} {gb n : Nat} {v v2 v4 : Value} {l l2 l2' : List On} {q : On} (h : MX w u gb v v2 l l2) (hn : n = l2.length) (hl : l2' = l2 ++ [q])
    (h1 : w4.ownsRow w.heap.size 33 2 v4 (n + 1) (oC l2 ++ oC [q])) (h3 : (u.alloc (.cells #[.int .i64 q.c, .string q.d] 33)).grownBy w4 v2.ownBlock) (h5 : ∀ k, v4.ownBlock = some k → v2.ownBlock = some k ∨ (u.alloc (.cells #[.int .i64 q.c, .string q.d] 33)).heap.size ≤ k) :
    MX w w4 gb v v4 l l2' :=
  (h.past (lay (Below.refl _ _) (.cells #[.int .i64 q.c, .string q.d] 33))).app2 h3 (by rw [hl, oC_app, List.length_append, ← hn]; exact h1) h5

set_option maxRecDepth 20000 in
set_option maxHeartbeats 4000000 in
theorem walk (v : Value) (ps : List Int) (D : ByteArray) (_ : D.size ≤ maxLen) (hD : D.size ≤ 140737488351232) (w : World) (hr : Row w v ps.length (iC ps) ∧ ps.length ≤ maxLen) :
    Calls Try.prog 5 #[v, .string D] w fun e w' => e = .returned (.bool true) ∧ Below w.heap.size w w' := by
  obtain ⟨i0, hi, hz0, hz1, hz2⟩ := info_parts infoO
  obtain ⟨hrow, hmx⟩ := hr
  obtain ⟨x, c, hv⟩ := row_slice hrow
  obtain ⟨n, hn⟩ : ∃ n, n = ps.length := ⟨_, rfl⟩
  rw [← hn] at hv
  subst hv
  have HN : Hid (n = ps.length) := hn
  have HR : Hid (Row w (.slice x n c) ps.length (iC ps)) := hrow
  have hnm : n ≤ maxLen := by rw [hn]; exact hmx
  unfold maxLen at hnm
  have hb : Below w.heap.size w w := Below.refl _ _
  clear hrow hn hmx
  go_enter Try.func5, Try.ntmps5
  go_wp2_with (go_at_call 13; go_must (refine (awake_any _).mono ?_); rintro e w0 ⟨rfl, b0⟩; replace hb := next hb b0; have HS : Hid (MX w (w0.alloc (.cells #[.int .i64 700, .int .i64 0, .int .i64 0, .bool false, .int .i64 0, .slice none 0 0] 24)) w0.heap.size (.slice none 0 0) (.slice none 0 0) (opTo ps D 0) (flt (opTo ps D 0))) := ⟨Blk.new w0 _ _, World.ownsRow_nil _ _ _ _, World.ownsRow_nil _ _ _ _, fun k h => by simp [Value.ownBlock] at h, hb.size, lay hb _⟩; clear b0 hb)
  go_loopw [6, 7] (fun wv iv wr => ∃ (j m k c1 c2 : Nat) (y1 y2 : Option Addr), wv = .slice y2 k c2 ∧ iv = .int .i64 (j : Int) ∧ j ≤ n ∧ j ≤ 40 ∧ Hid (m = j ∧ k = (flt (opTo ps D j)).length) ∧ Hid (MX w wr w0.heap.size (.slice y1 m c1) (.slice y2 k c2) (opTo ps D j) (flt (opTo ps D j)))) (fun _ i _ => 40 - (intOf i).toNat)
  case atStart => exact ⟨0, 0, 0, 0, 0, none, none, rfl, rfl, Nat.zero_le _, Nat.zero_le _, ⟨rfl, rfl⟩, HS⟩
  case round =>
    clear HS
    obtain ⟨j, m, k, c1, c2, y1, y2, rfl, rfl, hjn, hj4, HJ, HS⟩ := hrel
    by_cases hlt : j < n ∧ j < 40
    · obtain ⟨hj, h4⟩ := hlt
      have hj' : (j : Int) < (n : Int) := by omega
      have h4' : (j : Int) < 40 := by omega
      have hjm : j < ps.length := by have := HN.out; omega
      obtain ⟨gp, op, cp, hx, hc⟩ := row_at (HR.out.below HS.out.below) (by omega)
      simp only [Value.slice.injEq] at hx
      obtain ⟨rfl, -, rfl⟩ := hx
      have e0 := hc j _ (iC_at hjm)
      obtain ⟨p, hp⟩ : ∃ p, p = ps[j] := ⟨_, rfl⟩
      have HP : Hid (p = ps[j]) := hp
      rw [← hp] at e0
      clear hc hp
      obtain ⟨r, hrr⟩ : ∃ r, r = pk p := ⟨_, rfl⟩
      have hp1 : ∀ o, (wr.alloc o).cell? ⟨gp, op + j, none⟩ = some (.int .i64 p) := fun o => by rw [(lay (Below.refl _ _) o).cell (World.block_lt_of_cell? _ _ e0)]; exact e0
      have hp2 : ∀ o o', ((wr.alloc o).alloc o').cell? ⟨gp, op + j, none⟩ = some (.int .i64 p) := fun o o' => by rw [(lay (Below.refl _ _) o').cell (World.block_lt_of_cell? _ _ (hp1 o))]; exact hp1 o
      have hp3 : ∀ o o' o'', (((wr.alloc o).alloc o').alloc o'').cell? ⟨gp, op + j, none⟩ = some (.int .i64 p) := fun o o' o'' => by rw [(lay (Below.refl _ _) o'').cell (World.block_lt_of_cell? _ _ (hp2 o o'))]; exact hp2 o o'
      have hpk := wrap_pk p
      have hr5 := pk_lt p
      rw [← hrr] at hpk hr5
      have HRR : Hid (r = pk p) := hrr
      have hr5' : (r : Int) < 5 := by omega
      obtain ⟨C, hC⟩ : ∃ C, codeL.getD r 0 = C := ⟨_, rfl⟩
      obtain ⟨X, hX⟩ : ∃ X : ByteArray, ⟨#[UInt8.ofNat j]⟩ = X := ⟨_, rfl⟩
      have hXs : X.size = 1 := by rw [← hX]; rfl
      have HC : Hid (codeL.getD r 0 = C) := hC
      have HX : Hid ((⟨#[UInt8.ofNat j]⟩ : ByteArray) = X) := hX
      have zz : ∀ u : World, (Op.stringOp .add D X).run Try.prog u = .ok (.string (D ++ X)) u := fun u => run_string_add_sum u D X (by omega)
      clear hrr hC hX
      go_wp2
      go_cut [8] (fun x wx => ∃ g, x = .pointer (some ⟨g, 0, none⟩) ∧ Hid (Blk wx g #[.int .i64 C, .string (D ++ X)] 33 ∧ wr.heap.size ≤ g ∧ Below wr.heap.size wr wx))
      case first =>
        clear HS HR HN HJ HRR HP
        have la_a : (wr.alloc (.cells #[.int .i64 8, .int .i64 12, .int .i64 8, .int .i64 65535, .int .i64 0] 3)).cell? ⟨wr.heap.size, r, none⟩ = some (.int .i64 C) := (by rw [← HC.out]; exact code_at hr5 (blk_a wr _ _ ))
        have cv_a : (convert 36 9 (.slice (some ⟨wr.heap.size, 0, none⟩) 1 1)).run Try.prog (wr.alloc (.cells #[.int .u8 (j : Int)] 5)).drew = .ok (.string X) (wr.alloc (.cells #[.int .u8 (j : Int)] 5)).drew := (by rw [← HX.out]; exact one_str j _ _ (by omega) (blk_a wr _ _ ))
        have la_b : ∀ o : Obj, ((wr.alloc (.cells #[.int .i64 8, .int .i64 12, .int .i64 8, .int .i64 65535, .int .i64 0] 3)).alloc o).cell? ⟨wr.heap.size, r, none⟩ = some (.int .i64 C) := fun o => (by rw [← HC.out]; exact code_at hr5 (blk_b wr _ _ o))
        have cv_b : ∀ o : Obj, (convert 36 9 (.slice (some ⟨wr.heap.size, 0, none⟩) 1 1)).run Try.prog ((wr.alloc (.cells #[.int .u8 (j : Int)] 5)).alloc o).drew = .ok (.string X) ((wr.alloc (.cells #[.int .u8 (j : Int)] 5)).alloc o).drew := fun o => (by rw [← HX.out]; exact one_str j _ _ (by omega) (blk_b wr _ _ o))
        have la_c : ∀ o o' : Obj, (((wr.alloc (.cells #[.int .i64 8, .int .i64 12, .int .i64 8, .int .i64 65535, .int .i64 0] 3)).alloc o).alloc o').cell? ⟨wr.heap.size, r, none⟩ = some (.int .i64 C) := fun o o' => (by rw [← HC.out]; exact code_at hr5 (blk_c wr _ _ o o'))
        have cv_c : ∀ o o' : Obj, (convert 36 9 (.slice (some ⟨wr.heap.size, 0, none⟩) 1 1)).run Try.prog (((wr.alloc (.cells #[.int .u8 (j : Int)] 5)).alloc o).alloc o').drew = .ok (.string X) (((wr.alloc (.cells #[.int .u8 (j : Int)] 5)).alloc o).alloc o').drew := fun o o' => (by rw [← HX.out]; exact one_str j _ _ (by omega) (blk_c wr _ _ o o'))
        have la_d : ∀ o : Obj, ((wr.alloc o).alloc (.cells #[.int .i64 8, .int .i64 12, .int .i64 8, .int .i64 65535, .int .i64 0] 3)).cell? ⟨wr.heap.size + 1, r, none⟩ = some (.int .i64 C) := fun o => (by rw [← HC.out]; exact code_at hr5 (blk_d wr _ _ o))
        have cv_d : ∀ o : Obj, (convert 36 9 (.slice (some ⟨wr.heap.size + 1, 0, none⟩) 1 1)).run Try.prog ((wr.alloc o).alloc (.cells #[.int .u8 (j : Int)] 5)).drew = .ok (.string X) ((wr.alloc o).alloc (.cells #[.int .u8 (j : Int)] 5)).drew := fun o => (by rw [← HX.out]; exact one_str j _ _ (by omega) (blk_d wr _ _ o))
        have la_e : ∀ o o' : Obj, (((wr.alloc o).alloc (.cells #[.int .i64 8, .int .i64 12, .int .i64 8, .int .i64 65535, .int .i64 0] 3)).alloc o').cell? ⟨wr.heap.size + 1, r, none⟩ = some (.int .i64 C) := fun o o' => (by rw [← HC.out]; exact code_at hr5 (blk_e wr _ _ o o'))
        have cv_e : ∀ o o' : Obj, (convert 36 9 (.slice (some ⟨wr.heap.size + 1, 0, none⟩) 1 1)).run Try.prog (((wr.alloc o).alloc (.cells #[.int .u8 (j : Int)] 5)).alloc o').drew = .ok (.string X) (((wr.alloc o).alloc (.cells #[.int .u8 (j : Int)] 5)).alloc o').drew := fun o o' => (by rw [← HX.out]; exact one_str j _ _ (by omega) (blk_e wr _ _ o o'))
        have la_f : ∀ o o' : Obj, (((wr.alloc o).alloc o').alloc (.cells #[.int .i64 8, .int .i64 12, .int .i64 8, .int .i64 65535, .int .i64 0] 3)).cell? ⟨wr.heap.size + 1 + 1, r, none⟩ = some (.int .i64 C) := fun o o' => (by rw [← HC.out]; exact code_at hr5 (blk_f wr _ _ o o'))
        have cv_f : ∀ o o' : Obj, (convert 36 9 (.slice (some ⟨wr.heap.size + 1 + 1, 0, none⟩) 1 1)).run Try.prog (((wr.alloc o).alloc o').alloc (.cells #[.int .u8 (j : Int)] 5)).drew = .ok (.string X) (((wr.alloc o).alloc o').alloc (.cells #[.int .u8 (j : Int)] 5)).drew := fun o o' => (by rw [← HX.out]; exact one_str j _ _ (by omega) (blk_f wr _ _ o o'))
        clear HC HX
        go_region
        all_goals (go_wp2_with fail; go_meet)
        all_goals first
          | exact ⟨_, rfl, (blk_f wr _ _ _ _).drew ⟨1, rfl⟩, by omega, (lay (lay (lay (Below.refl _ _) _) _) _).drew⟩
          | exact ⟨_, rfl, (blk_e wr _ _ _ _).drew ⟨1, rfl⟩, by omega, (lay (lay (lay (Below.refl _ _) _) _) _).drew⟩
          | exact ⟨_, rfl, (blk_c wr _ _ _ _).drew ⟨1, rfl⟩, by omega, (lay (lay (lay (Below.refl _ _) _) _) _).drew⟩
      case rest =>
        obtain ⟨g, rfl, HX8⟩ := hcut
        clear e0 hp1 hp2 hp3 hpk zz hr5'
        have HS1 : Hid (MX w wc w0.heap.size (.slice y1 m c1) (.slice y2 k c2) (opTo ps D j) (flt (opTo ps D j))) := HS.out.past HX8.out.2.2
        have HG : Hid (w0.heap.size < g) := Nat.lt_of_lt_of_le HS.out.box.lt HX8.out.2.1
        have HGO : Hid (some g ≠ (Value.slice y1 m c1).ownBlock ∧ some g ≠ (Value.slice y2 k c2).ownBlock) := ⟨fun e => by have h1 := (HS.out.own.lt g e.symm).2; have h2 := HX8.out.2.1; omega, fun e => by have h1 := (HS.out.want.lt g e.symm).2; have h2 := HX8.out.2.1; omega⟩
        have HXB : Hid (Blk wc g #[.int .i64 C, .string (D ++ X)] 33) := HX8.out.1
        have HQ : Hid (opTo ps D (j + 1) = opTo ps D j ++ [⟨C, D ++ X⟩]) := by
          unfold Hid
          rw [opTo_succ]
          unfold opAt
          rw [show ps.getD j 0 = p from by rw [HP.out, List.getD_eq_getElem?_getD, List.getElem?_eq_getElem hjm]; rfl, ← HRR.out, HC.out, HX.out]
        have b5 : wc.cell? ⟨w0.heap.size, 5, none⟩ = some (.slice y1 m c1) := HS1.out.box.cell 5
        have x0 : wc.cell? ⟨g, 0, none⟩ = some (.int .i64 C) := HXB.out.cell 0
        have x1 : wc.cell? ⟨g, 1, none⟩ = some (.string (D ++ X)) := HXB.out.cell 1
        have hrow1 := Row.of_blk (Blk.new wc #[.int .i64 C, .string (D ++ X)] 33) (xs := oC [⟨C, D ++ X⟩]) rfl 1 1
        have OWN1 : Hid ((wc.alloc (.cells #[.int .i64 C, .string (D ++ X)] 33)).ownsRow w.heap.size 33 2 (.slice y1 m c1) j (oC (opTo ps D j))) := by unfold Hid; have h7 := HS1.out.own; rw [opTo_len] at h7; exact h7.alloc _
        have SZ : Hid (∀ {u : World} {v v2 : Value} {l l2 : List On}, MX w u w0.heap.size v v2 l l2 → ∀ o : Obj, w.heap.size ≤ (u.alloc o).heap.size) := fun h o => (h.below.alloc h.below.size o).size
        have WANT : Hid (∀ {u : World} {v : Value} {l : List On}, MX w u w0.heap.size v (.slice y2 k c2) l (flt (opTo ps D j)) → ∀ o : Obj, (u.alloc o).ownsRow w.heap.size 33 2 (.slice y2 k c2) k (oC (flt (opTo ps D j)))) := fun h o => by
          have h7 := h.want
          rw [← HJ.out.2] at h7
          exact h7.alloc o
        have hsz1 : w.heap.size ≤ (wc.alloc (.cells #[.int .i64 C, .string (D ++ X)] 33)).heap.size := SZ.out HS1.out _
        have HNE : Hid (g ≠ w0.heap.size) := by unfold Hid; have := HG.out; omega
        have hkj : k ≤ j := by rw [HJ.out.2]; exact Nat.le_trans (flt_le _) (by rw [opTo_len]; exact Nat.le_refl _)
        have ST1 : Hid (∀ {v3 : Value} {w3 : World}, w3.ownsRow w.heap.size 33 2 v3 (j + 1) (oC (opTo ps D j) ++ oC [⟨C, D ++ X⟩]) → (wc.alloc (.cells #[.int .i64 C, .string (D ++ X)] 33)).grownBy w3 (Value.slice y1 m c1).ownBlock → (∀ k, v3.ownBlock = some k → (Value.slice y1 m c1).ownBlock = some k ∨ (wc.alloc (.cells #[.int .i64 C, .string (D ++ X)] 33)).heap.size ≤ k) →
            MX w (w3.setCell ⟨w0.heap.size, 5, none⟩ v3) w0.heap.size v3 (.slice y2 k c2) (opTo ps D (j + 1)) (flt (opTo ps D j)) ∧ w3.cell? ⟨w0.heap.size, 5, none⟩ = some (.slice y1 m c1) ∧ w3.frozen? ⟨w0.heap.size, 5, none⟩ = false ∧ (w3.setCell ⟨w0.heap.size, 5, none⟩ v3).cell? ⟨g, 0, none⟩ = some (.int .i64 C) ∧ (w3.setCell ⟨w0.heap.size, 5, none⟩ v3).cell? ⟨g, 1, none⟩ = some (.string (D ++ X))) :=
          fun h1 h3 h5 => step1 (q := ⟨C, D ++ X⟩) HS1.out HXB.out HNE.out HGO.out.1 (opTo_len _ _ _).symm HQ.out h1 h3 h5
        have t1 : True := trivial
        clear HS HX8 HC HX hr5 HP HRR HG
        cases h8 : C == 8 with
        | true =>
          have HF : Hid (flt (opTo ps D (j + 1)) = flt (opTo ps D j)) := by unfold Hid; rw [HQ.out, flt_app]; simp [flt, ec, h8]
          have h8' : (C != 8) = false := by rw [bne, h8]; rfl
          clear h8
          go_wp2_with (at_builtin; have _t := t1; refine wpList_appG _ rfl (.tmp 41) (.tmp 43) 22 33 i0 _ 2 24 Try.underlying22 hi hz0 hz1 hz2 rfl (by decide) rfl w.heap.size _ j (oC (opTo ps D j)) rfl OWN1.out (.slice (some ⟨wc.heap.size, 0, none⟩) 1 1) 1 (oC [⟨C, D ++ X⟩]) rfl hrow1 rfl (oC_one _) (by omega) (by unfold maxLen; omega) hsz1 ?_; intro v3 w3 h1 h3 h5; obtain ⟨y3, c3, hv3⟩ := row_shape h1; subst hv3; obtain ⟨hs2, b6, bf, x2, x3⟩ := ST1.out h1 h3 h5; have HS2 : Hid (MX w (w3.setCell ⟨w0.heap.size, 5, none⟩ (.slice y3 (j + 1) c3)) w0.heap.size (.slice y3 (j + 1) c3) (.slice y2 k c2) (opTo ps D (j + 1)) (flt (opTo ps D j))) := hs2; have hrow2 := row_set w3 ⟨w0.heap.size, 5, none⟩ (.slice y3 (j + 1) c3) #[.int .i64 C, .string (D ++ X)] 33 (oC [⟨C, D ++ X⟩]) rfl; have OWN2 : Hid (((w3.setCell ⟨w0.heap.size, 5, none⟩ (.slice y3 (j + 1) c3)).alloc (.cells #[.int .i64 C, .string (D ++ X)] 33)).ownsRow w.heap.size 33 2 (.slice y2 k c2) k (oC (flt (opTo ps D j)))) := WANT.out hs2 (.cells #[.int .i64 C, .string (D ++ X)] 33); have hsz2 : w.heap.size ≤ ((w3.setCell ⟨w0.heap.size, 5, none⟩ (.slice y3 (j + 1) c3)).alloc (.cells #[.int .i64 C, .string (D ++ X)] 33)).heap.size := SZ.out hs2 (.cells #[.int .i64 C, .string (D ++ X)] 33); clear h1 h3 h5 hs2 t1 _t hrow1 hsz1 b5 x0 x1)
          go_roundw
          case rel => exact ⟨j + 1, j + 1, k, c3, c2, y3, y2, rfl, by go_num, by omega, by omega, ⟨rfl, by rw [HF.out]; exact HJ.out.2⟩, by unfold Hid; rw [HF.out]; exact HS2.out⟩
          case measure => simp [intOf]; omega
        | false =>
          have HF : Hid (flt (opTo ps D (j + 1)) = flt (opTo ps D j) ++ [⟨C, D ++ X⟩]) := by unfold Hid; rw [HQ.out, flt_app]; simp [flt, ec, h8]
          have ST2 : Hid (∀ {u w4 : World} {v v4 : Value}, MX w u w0.heap.size v (.slice y2 k c2) (opTo ps D (j + 1)) (flt (opTo ps D j)) → w4.ownsRow w.heap.size 33 2 v4 (k + 1) (oC (flt (opTo ps D j)) ++ oC [⟨C, D ++ X⟩]) → (u.alloc (.cells #[.int .i64 C, .string (D ++ X)] 33)).grownBy w4 (Value.slice y2 k c2).ownBlock → (∀ i, v4.ownBlock = some i → (Value.slice y2 k c2).ownBlock = some i ∨ (u.alloc (.cells #[.int .i64 C, .string (D ++ X)] 33)).heap.size ≤ i) →
              MX w w4 w0.heap.size v v4 (opTo ps D (j + 1)) (flt (opTo ps D (j + 1)))) := fun h h1 h3 h5 => step2 (q := ⟨C, D ++ X⟩) h HJ.out.2 HF.out h1 h3 h5
          have h8' : (C != 8) = true := by rw [bne, h8]; rfl
          clear h8
          go_wp2_with (first
            | (at_builtin; have _t := t1; refine wpList_appG _ rfl (.tmp 41) (.tmp 43) 22 33 i0 _ 2 24 Try.underlying22 hi hz0 hz1 hz2 rfl (by decide) rfl w.heap.size _ j (oC (opTo ps D j)) rfl OWN1.out (.slice (some ⟨wc.heap.size, 0, none⟩) 1 1) 1 (oC [⟨C, D ++ X⟩]) rfl hrow1 rfl (oC_one _) (by omega) (by unfold maxLen; omega) hsz1 ?_; intro v3 w3 h1 h3 h5; obtain ⟨y3, c3, hv3⟩ := row_shape h1; subst hv3; obtain ⟨hs2, b6, bf, x2, x3⟩ := ST1.out h1 h3 h5; have HS2 : Hid (MX w (w3.setCell ⟨w0.heap.size, 5, none⟩ (.slice y3 (j + 1) c3)) w0.heap.size (.slice y3 (j + 1) c3) (.slice y2 k c2) (opTo ps D (j + 1)) (flt (opTo ps D j))) := hs2; have hrow2 := row_set w3 ⟨w0.heap.size, 5, none⟩ (.slice y3 (j + 1) c3) #[.int .i64 C, .string (D ++ X)] 33 (oC [⟨C, D ++ X⟩]) rfl; have OWN2 : Hid (((w3.setCell ⟨w0.heap.size, 5, none⟩ (.slice y3 (j + 1) c3)).alloc (.cells #[.int .i64 C, .string (D ++ X)] 33)).ownsRow w.heap.size 33 2 (.slice y2 k c2) k (oC (flt (opTo ps D j)))) := WANT.out hs2 (.cells #[.int .i64 C, .string (D ++ X)] 33); have hsz2 : w.heap.size ≤ ((w3.setCell ⟨w0.heap.size, 5, none⟩ (.slice y3 (j + 1) c3)).alloc (.cells #[.int .i64 C, .string (D ++ X)] 33)).heap.size := SZ.out hs2 (.cells #[.int .i64 C, .string (D ++ X)] 33); clear h1 h3 h5 hs2 t1 _t hrow1 hsz1 b5 x0 x1)
            | (at_builtin; refine wpList_appG _ rfl (.tmp 49) (.tmp 51) 22 33 i0 _ 2 24 Try.underlying22 hi hz0 hz1 hz2 rfl (by decide) rfl w.heap.size _ k (oC (flt (opTo ps D j))) rfl OWN2.out (.slice (some ⟨w3.heap.size, 0, none⟩) 1 1) 1 (oC [⟨C, D ++ X⟩]) rfl hrow2 rfl (oC_one _) (by omega) (by unfold maxLen; omega) hsz2 ?_; intro v4 w4 h1 h3 h5; obtain ⟨y4, c4, hv4⟩ := row_shape h1; subst hv4; have HS3 : Hid (MX w w4 w0.heap.size (.slice y3 (j + 1) c3) (.slice y4 (k + 1) c4) (opTo ps D (j + 1)) (flt (opTo ps D (j + 1)))) := ST2.out HS2.out h1 h3 h5; clear h1 h3 h5))
          go_roundw
          case rel => exact ⟨j + 1, j + 1, k + 1, c3, c4, y3, y4, rfl, by go_num, by omega, by omega, ⟨rfl, by rw [HF.out, List.length_append, ← HJ.out.2]; rfl⟩, HS3⟩
          case measure => simp [intOf]; omega
    · obtain ⟨L, hL⟩ : ∃ L, L = opTo ps D j := ⟨_, rfl⟩
      rw [← hL] at HJ HS
      have hLj : L.length = j := by rw [hL, opTo_len]
      have HK : Hid (k = (flt L).length) := HJ.out.2
      have hmj : m = L.length := by rw [hLj]; exact HJ.out.1
      have HLE : Hid ((flt L).length ≤ maxLen) := Nat.le_trans (flt_le L) (by rw [hLj]; unfold maxLen; omega)
      have P1 := strip_l 700 0 0 false 0 L k HK.out (.slice y1 m c1) wr (Row.of_own HS.out.own) (by rw [hLj]; unfold maxLen; omega) (by rw [hLj]; unfold far; omega) (fun x hx => by rw [hL] at hx; have := opTo_d hx; omega)
      have P4 := fun v' u h => has_any ⟨700, 0, 0, false, 0, L⟩ v' u h (by show L.length ≤ maxLen; rw [hLj]; unfold maxLen; omega)
      have P5 := fun v' u h => has_any ⟨700, 0, 0, false, 0, flt L⟩ v' u h HLE.out
      simp only [flt_none, flt_less L] at P4 P5
      unfold optC at P4 P5
      simp only at P4 P5
      simp only [← HK.out, ← hmj] at P4
      have hrow4 : ∀ u : World, Row u (.slice y1 m c1) L.length (oC L) → Row u (.slice y1 m c1) m (oC L) := fun u h => by have h2 := h; rw [← hmj] at h2; exact h2
      obtain ⟨q0, q1, q2, q3, q4, q5⟩ := HS.out.box.six'
      have hjx := hlt
      clear hL hLj hlt hmj
      by_cases hj : j < n
      · have hj' : (j : Int) < (n : Int) := by omega
        have h4 : decide ((j : Int) < 40) = false := by simp; omega
        clear hjx
        go_wp2_with (go_at_call 7; go_must (refine P1.mono ?_); rintro e w5 ⟨y5, c5, rfl, own5, b5⟩; have HT : Hid (TM w (w5.alloc (.cells #[.int .i64 700, .int .i64 0, .int .i64 0, .bool false, .int .i64 0, .slice y5 k c5] 24)) w0.heap.size w5.heap.size (.slice y1 m c1) (.slice y2 k c2) (.slice y5 k c5) L) := TM.start HS.out b5 HK.out own5; clear own5 b5 P1)
        revert HT
        generalize w5.alloc (.cells #[.int .i64 700, .int .i64 0, .int .i64 0, .bool false, .int .i64 0, .slice y5 k c5] 24) = wq
        intro HT
        have a0 : ∀ nb : Bel wq, nb.to.cell? ⟨w5.heap.size, 0, none⟩ = some (.int .i64 700) := fun nb => (HT.out.past nb.h).cut.cell 0
        have a1 : ∀ nb : Bel wq, nb.to.cell? ⟨w5.heap.size, 1, none⟩ = some (.int .i64 0) := fun nb => (HT.out.past nb.h).cut.cell 1
        have a2 : ∀ nb : Bel wq, nb.to.cell? ⟨w5.heap.size, 2, none⟩ = some (.int .i64 0) := fun nb => (HT.out.past nb.h).cut.cell 2
        have a3 : ∀ nb : Bel wq, nb.to.cell? ⟨w5.heap.size, 3, none⟩ = some (.bool false) := fun nb => (HT.out.past nb.h).cut.cell 3
        have a4 : ∀ nb : Bel wq, nb.to.cell? ⟨w5.heap.size, 4, none⟩ = some (.int .i64 0) := fun nb => (HT.out.past nb.h).cut.cell 4
        have a5 : ∀ nb : Bel wq, nb.to.cell? ⟨w5.heap.size, 5, none⟩ = some (.slice y5 k c5) := fun nb => (HT.out.past nb.h).cut.cell 5
        have o0 : ∀ nb : Bel wq, nb.to.cell? ⟨w0.heap.size, 0, none⟩ = some (.int .i64 700) := fun nb => (HT.out.past nb.h).box.cell 0
        have o1 : ∀ nb : Bel wq, nb.to.cell? ⟨w0.heap.size, 1, none⟩ = some (.int .i64 0) := fun nb => (HT.out.past nb.h).box.cell 1
        have o2 : ∀ nb : Bel wq, nb.to.cell? ⟨w0.heap.size, 2, none⟩ = some (.int .i64 0) := fun nb => (HT.out.past nb.h).box.cell 2
        have o3 : ∀ nb : Bel wq, nb.to.cell? ⟨w0.heap.size, 3, none⟩ = some (.bool false) := fun nb => (HT.out.past nb.h).box.cell 3
        have o4 : ∀ nb : Bel wq, nb.to.cell? ⟨w0.heap.size, 4, none⟩ = some (.int .i64 0) := fun nb => (HT.out.past nb.h).box.cell 4
        have o5 : ∀ nb : Bel wq, nb.to.cell? ⟨w0.heap.size, 5, none⟩ = some (.slice y1 m c1) := fun nb => (HT.out.past nb.h).box.cell 5
        have S1 := fun nb : Bel wq => sameO_yes (.slice y5 k c5) (.slice y2 k c2) (flt L) nb.to (HT.out.past nb.h).left (HT.out.past nb.h).want HLE.out
        have S3 := fun nb : Bel wq => P4 (.slice y1 m c1) nb.to (hrow4 nb.to (HT.out.past nb.h).row)
        have S4 := fun nb : Bel wq => P5 (.slice y5 k c5) nb.to (HT.out.past nb.h).left
        have S5 := fun nb : Bel wq => num_any 0 nb.to
        refine wp_region_bel (by kernel_rfl) (by kernel_rfl) (fun _ => ?_)
        repeat (go_big_quiet_step (first
          | (go_at_call 14; go_must (exact bel_lays (S1 _)))
          | (go_at_call_of 11 (#[Value.agg #[.int .i64 700, .int .i64 0, .int .i64 0, .bool false, .int .i64 0, .slice y1 m c1]]); go_must (exact bel_lays (S3 _)))
          | (go_at_call 11; go_must (exact bel_lays (S4 _)))
          | (go_at_call 15; go_must (exact bel_same (S5 _)))))
        refine wpQuiet_nil ?_
        intro wn hwn
        have hbn := (HT.out.past (bel_out hwn)).below
        clear a0 a1 a2 a3 a4 a5 o0 o1 o2 o3 o4 o5 S1 S3 S4 S5 P4 P5
        go_wp2
        go_ret
        exact ⟨ret_bool (by simp), hbn⟩
      · have hj' : decide (j < n) = false := by simpa using hj
        clear hjx
        go_wp2_with (go_at_call 7; go_must (refine P1.mono ?_); rintro e w5 ⟨y5, c5, rfl, own5, b5⟩; have HT : Hid (TM w (w5.alloc (.cells #[.int .i64 700, .int .i64 0, .int .i64 0, .bool false, .int .i64 0, .slice y5 k c5] 24)) w0.heap.size w5.heap.size (.slice y1 m c1) (.slice y2 k c2) (.slice y5 k c5) L) := TM.start HS.out b5 HK.out own5; clear own5 b5 P1)
        revert HT
        generalize w5.alloc (.cells #[.int .i64 700, .int .i64 0, .int .i64 0, .bool false, .int .i64 0, .slice y5 k c5] 24) = wq
        intro HT
        have a0 : ∀ nb : Bel wq, nb.to.cell? ⟨w5.heap.size, 0, none⟩ = some (.int .i64 700) := fun nb => (HT.out.past nb.h).cut.cell 0
        have a1 : ∀ nb : Bel wq, nb.to.cell? ⟨w5.heap.size, 1, none⟩ = some (.int .i64 0) := fun nb => (HT.out.past nb.h).cut.cell 1
        have a2 : ∀ nb : Bel wq, nb.to.cell? ⟨w5.heap.size, 2, none⟩ = some (.int .i64 0) := fun nb => (HT.out.past nb.h).cut.cell 2
        have a3 : ∀ nb : Bel wq, nb.to.cell? ⟨w5.heap.size, 3, none⟩ = some (.bool false) := fun nb => (HT.out.past nb.h).cut.cell 3
        have a4 : ∀ nb : Bel wq, nb.to.cell? ⟨w5.heap.size, 4, none⟩ = some (.int .i64 0) := fun nb => (HT.out.past nb.h).cut.cell 4
        have a5 : ∀ nb : Bel wq, nb.to.cell? ⟨w5.heap.size, 5, none⟩ = some (.slice y5 k c5) := fun nb => (HT.out.past nb.h).cut.cell 5
        have o0 : ∀ nb : Bel wq, nb.to.cell? ⟨w0.heap.size, 0, none⟩ = some (.int .i64 700) := fun nb => (HT.out.past nb.h).box.cell 0
        have o1 : ∀ nb : Bel wq, nb.to.cell? ⟨w0.heap.size, 1, none⟩ = some (.int .i64 0) := fun nb => (HT.out.past nb.h).box.cell 1
        have o2 : ∀ nb : Bel wq, nb.to.cell? ⟨w0.heap.size, 2, none⟩ = some (.int .i64 0) := fun nb => (HT.out.past nb.h).box.cell 2
        have o3 : ∀ nb : Bel wq, nb.to.cell? ⟨w0.heap.size, 3, none⟩ = some (.bool false) := fun nb => (HT.out.past nb.h).box.cell 3
        have o4 : ∀ nb : Bel wq, nb.to.cell? ⟨w0.heap.size, 4, none⟩ = some (.int .i64 0) := fun nb => (HT.out.past nb.h).box.cell 4
        have o5 : ∀ nb : Bel wq, nb.to.cell? ⟨w0.heap.size, 5, none⟩ = some (.slice y1 m c1) := fun nb => (HT.out.past nb.h).box.cell 5
        have S1 := fun nb : Bel wq => sameO_yes (.slice y5 k c5) (.slice y2 k c2) (flt L) nb.to (HT.out.past nb.h).left (HT.out.past nb.h).want HLE.out
        have S3 := fun nb : Bel wq => P4 (.slice y1 m c1) nb.to (hrow4 nb.to (HT.out.past nb.h).row)
        have S4 := fun nb : Bel wq => P5 (.slice y5 k c5) nb.to (HT.out.past nb.h).left
        have S5 := fun nb : Bel wq => num_any 0 nb.to
        refine wp_region_bel (by kernel_rfl) (by kernel_rfl) (fun _ => ?_)
        repeat (go_big_quiet_step (first
          | (go_at_call 14; go_must (exact bel_lays (S1 _)))
          | (go_at_call_of 11 (#[Value.agg #[.int .i64 700, .int .i64 0, .int .i64 0, .bool false, .int .i64 0, .slice y1 m c1]]); go_must (exact bel_lays (S3 _)))
          | (go_at_call 11; go_must (exact bel_lays (S4 _)))
          | (go_at_call 15; go_must (exact bel_same (S5 _)))))
        refine wpQuiet_nil ?_
        intro wn hwn
        have hbn := (HT.out.past (bel_out hwn)).below
        clear a0 a1 a2 a3 a4 a5 o0 o1 o2 o3 o4 o5 S1 S3 S4 S5 P4 P5
        go_wp2
        go_ret
        exact ⟨ret_bool (by simp), hbn⟩

theorem own : ownKnob Try.prog.godebug = none := by kernel_rfl
theorem laidOut : laidOutB Try.prog = true := by kernel_rfl

set_option maxRecDepth 100000 in
theorem lifted (os : Os) (started : os.Started) (H : Type) (enc : TypeId × Value → H) :
    ReturnsInHanded {} Try.checked os 5 .any (Rows.ecsMixedSpec.pre6 enc Try.prog Try.f5 Rows.ecsMixedRow.domain false) (Rows.ecsMixedSpec.post enc Try.prog Try.f5 false true false false) := by
  refine returnsInHanded_of_change_sized (C := Try.checked) own started (by kernel_rfl) Try.func5
    (ChangeSpec.witness6 (enc := enc) (C := Try.checked) false ⟨#[], #[.slice none 0 0, .string ByteArray.empty], []⟩ 8 (by kernel_rfl) (by kernel_rfl) (by kernel_rfl) (by kernel_rfl)) ?_
  intro W base args ds gs before hval0 hW _ hsz0 _
  have hval : ∀ (j : Nat) t v, Try.f5.params[j]? = some t → args[j]? = some v → Value.okWide Try.prog W .any base t v := hval0
  have hsz : (DataW.weightsEach Try.prog (Try.f5.params.toList ++ Rows.ecsMixedSpec.plain.varTypes Try.prog) (ds ++ gs)).all (· ≤ reachBytes) = true := hsz0
  have hW' := hW
  obtain ⟨p, q, hA0, hV, rfl, hfz, hnd⟩ := hW
  have hA : DataW.TrodAll enc Try.prog W 0 (fun _ => true) true Try.f5.params.toList args.toList ds p := hA0
  rw [Try.params5] at hA hval hsz
  obtain ⟨v0, vs0, d0, ds0, p0, q0, hargs, rfl, rfl, h0, r0⟩ := trodAll_cons hA
  obtain ⟨v1, vs1, d1, ds1, p1, q1, rfl, rfl, rfl, h1, r1⟩ := trodAll_cons r0
  obtain ⟨rfl, rfl, rfl⟩ := trodAll_nil r1
  obtain rfl : args = #[v0, v1] := by cases args; simp_all
  obtain ⟨rfl, rfl⟩ := trodVars_none hV
  obtain ⟨a0, w0⟩ := open_irow (hval 0 34 v0 rfl rfl) h0
  obtain ⟨a1, rfl, rfl, rfl, w1⟩ := open_string Try.underlying9 (hval 1 9 v1 rfl rfl) h1
  have hlt0 : ∀ x ∈ p0, x.block < W.heap.size := fun x hx => by
    have := hW'.lt x (by simp [hx])
    simpa using this
  have z1 : a1.size ≤ 140737488351232 := by have := sized_string hsz (j := 1) (t := 9) rfl rfl; rw [data_len] at this; unfold reachBytes at this; omega
  clear hA0 hval0 hsz0 hsz
  simp only [List.append_nil] at hW'
  refine (walk v0 a0 a1 w1 z1 W w0).mono fun e W' ⟨he, bel⟩ => ?_
  subst he
  exact ⟨_, rfl, _, _, _, [], _, [], hW', trodAll_mk1 (shut_bool Try.underlying4 _), (trodAll_cons_mk (Below.trod laidOut (by kernel_rfl) (of_decide_eq_true (by kernel_rfl)) h0 bel hlt0) (trodAll_cons_mk (shut_string Try.underlying9 w1) trodAll_mk0)), rfl, bel.frame _, fun h => by cases h⟩

/-- The statement. -/
theorem proved : Rows.EcsMixedSaid :=
  OpenClaim.holds_of_wide 5 Try.f5 rfl rfl rfl rfl rfl rfl rfl ⟨rfl, rfl, rfl, rfl, rfl⟩ rfl rfl rfl rfl rfl (by kernel_rfl) Try.func5 (by kernel_rfl)
    (of_decide_eq_true (by kernel_rfl)) (by unfold Func.isWrapper; first | (rw [if_pos (by decide +kernel)]; kernel_rfl) | (rw [if_neg (by decide +kernel)]; exact ⟨rfl, rfl⟩))
    (fun os started H enc _ => lifted os started H enc)
#print axioms proved

end Go.Proofs.Ytfhaogacblnnnaa.ecsMixed
