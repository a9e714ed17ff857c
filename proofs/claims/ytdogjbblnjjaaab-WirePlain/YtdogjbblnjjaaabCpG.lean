/- What Raw, keep, split, keepRests and Name of a Writer of package comp give. -/
import Derived.Test.YtdogjbblnjjaaabCpF
import Derived.Deep.RegionLaw
import Derived.Deep.RegionWith
import Derived.Deep.RegionHeld3
namespace Go.Proofs.Ytdogjbblnjjaaab
open Go.RowKit
open Pl

/-- A string's bytes are appended to a row of bytes that the call owns; the new row lies where the old one lay, or in a new block. -/
theorem run_appB (w : World) (ty : TypeId) (v : Value) (n : Nat) (xs : List Value) (hown : w.ownsRow 0 5 1 v n xs) (s : ByteArray) (hn : n + s.size ≤ 1000000) :
    ∃ v' w', (Builtin.append_ #[27, 9] ty #[v, .string s]).run Try.prog w = .ok v' w' ∧ w'.ownsRow 0 5 1 v' (n + s.size) (xs ++ Lib.strCells s) ∧ w.grownBy w' v.ownBlock ∧ ∀ k, v'.ownBlock = some k → v.ownBlock = some k ∨ w.heap.size ≤ k := by
  obtain ⟨i0, hi, hz0, hz1, hz2⟩ := info_parts info5
  obtain ⟨v', w', hr, h1, h2, _⟩ := Lib.run_append_own_string (P := Try.prog) w 0 27 9 ty 5 i0 Try.underlying27 Try.underlying9 hi hz0 hz1 hz2 v n xs hown s (by unfold maxLen; omega) (by omega) (Nat.zero_le _)
  refine ⟨v', w', hr, h1, h2, ?_⟩
  rcases hown.2 with ⟨rfl, rfl⟩ | ⟨g, cap, cur, rfl, _, hg, hnc, hcm, hcs, htake⟩
  · by_cases hm : s.size = 0
    · intro k hk
      rcases h1.2 with ⟨e, _⟩ | ⟨g', cap', cur', e, _, hg', _, _, _, ht'⟩
      · rw [e] at hk; simp [Value.ownBlock] at hk
      · exfalso
        have hf := Lib.run_firstCells_string (P := Try.prog) w 1 s
        rw [hm] at hf
        have hr2 : (Builtin.append_ #[27, 9] ty #[.slice none 0 0, .string s]).run Try.prog w = .ok (.slice none 0 0) w := by
          simp [Builtin.append_, run_underlying Try.underlying27, run_underlying Try.underlying9, sizeOf, typeInfo, hi, hz1, Builtin.lenOf, hm, hf]
        rw [hr] at hr2
        have := (Result.ok.inj hr2).1
        rw [e] at this
        simp at this
    · have hr2 := run_append_nil_string (P := Try.prog) w 27 9 ty 5 i0 (.int .u8 0) Try.underlying27 Try.underlying9 hi hz0 s (by omega) (by omega) (by rw [hz2]; omega)
      rw [hr] at hr2
      have e := (Result.ok.inj hr2).1
      intro k hk
      rw [e] at hk
      simp [Value.ownBlock] at hk
      exact .inr (by omega)
  · have hxl : xs.length = n := by simpa using hown.1
    by_cases hroom : n + s.size ≤ cap
    · have hr2 := Lib.run_append_room_string (P := Try.prog) w 27 9 ty 5 i0 Try.underlying27 Try.underlying9 hi hz1 g n cap cur hg s hroom (by omega)
      rw [hr] at hr2
      have e := (Result.ok.inj hr2).1
      intro k hk
      rw [e] at hk
      exact .inl hk
    · have holds : ∀ j u, xs[j]? = some u → w.cell? ((⟨g, 0, none⟩ : Addr).add j) = some u := hown.cells (g := g) rfl
      have hr2 := Lib.run_append_grow_string (P := Try.prog) w 27 9 ty 5 i0 (.int .u8 0) Try.underlying27 Try.underlying9 hi hz0 ⟨g, 0, none⟩ n cap xs (by rw [hz1]; simpa using hxl) holds s (by omega) (by omega) (by rw [hz2]; exact growslice_fits (by omega) (by omega))
      rw [hr] at hr2
      have e := (Result.ok.inj hr2).1
      intro k hk
      rw [e] at hk
      simp [Value.ownBlock] at hk
      exact .inr (by omega)

theorem wp_appB (w : World) {o : Oper} {a : Act} {K : Act → World → Prop} {Q : Exit → Act → World → Prop} (sl x : Operand) (ho : o.op = .call { callee := .builtin .append, args := #[sl, x], argTypes := #[27, 9] })
    (v : Value) (n : Nat) (xs : List Value) (hs : a.eval sl = v) (hown : w.ownsRow 0 5 1 v n xs) (s : ByteArray) (hx : a.eval x = .string s) (hn : n + s.size ≤ 1000000)
    (h : ∀ v' w', w'.ownsRow 0 5 1 v' (n + s.size) (xs ++ Lib.strCells s) → w.grownBy w' v.ownBlock → (∀ k, v'.ownBlock = some k → v.ownBlock = some k ∨ w.heap.size ≤ k) → K (a.put o.dst v') w') : Oper.wp Try.prog o a w K Q := by
  obtain ⟨v', w', hr, h2, h3, h4⟩ := run_appB w o.type v n xs hown s hn
  unfold Oper.wp execOp
  simp only [ho, resolve, invoke, builtin, Sem.run_bind, Sem.run_pure, Result.andThen_ok, List.map_toArray, List.map_cons, List.map_nil, hs, hx, hr]
  exact h v' w' h2 h3 h4
theorem wpList_appB (w : World) {ops : Array Oper} {rest : List Oper} {o : Oper} {a : Act} {Q : Exit → Act → World → Prop} (hgd : o.guard = none) (sl x : Operand) (ho : o.op = .call { callee := .builtin .append, args := #[sl, x], argTypes := #[27, 9] })
    (v : Value) (n : Nat) (xs : List Value) (hs : a.eval sl = v) (hown : w.ownsRow 0 5 1 v n xs) (s : ByteArray) (hx : a.eval x = .string s) (hn : n + s.size ≤ 1000000)
    (h : ∀ v' w', w'.ownsRow 0 5 1 v' (n + s.size) (xs ++ Lib.strCells s) → w.grownBy w' v.ownBlock → (∀ k, v'.ownBlock = some k → v.ownBlock = some k ∨ w.heap.size ≤ k) → wpList Try.prog ops Q rest (a.put o.dst v') w') : wpList Try.prog ops Q (o :: rest) a w :=
  wpList_plain hgd fun _ hK => wp_appB w sl x ho v n xs hs hown s hx hn fun v' w' h1 h2 h3 => hK _ _ (h v' w' h1 h2 h3)
theorem step_appB (w : World) {ops : Array Oper} {o : Oper} {a : Act} {K : Act → World → Prop} {Q : Exit → Act → World → Prop} {E : Prop} (hgd : o.guard = none) (sl x : Operand) (ho : o.op = .call { callee := .builtin .append, args := #[sl, x], argTypes := #[27, 9] })
    (v : Value) (n : Nat) (xs : List Value) (hs : a.eval sl = v) (hown : w.ownsRow 0 5 1 v n xs) (s : ByteArray) (hx : a.eval x = .string s) (hn : n + s.size ≤ 1000000)
    (h : ∀ v' w', w'.ownsRow 0 5 1 v' (n + s.size) (xs ++ Lib.strCells s) → w.grownBy w' v.ownBlock → (∀ k, v'.ownBlock = some k → v.ownBlock = some k ∨ w.heap.size ≤ k) → K (a.put o.dst v') w') :
    if Region.wanted o (yielded ops a.tmps) = true then Oper.wp Try.prog o a w K Q else E := by
  have hw : Region.wanted o (yielded ops a.tmps) = true := by simp [Region.wanted, hgd]
  rw [if_pos hw]
  exact wp_appB w sl x ho v n xs hs hown s hx hn h

theorem row_shape {w : World} {base e z n : Nat} {v : Value} {xs : List Value} (h : w.ownsRow base e z v n xs) : ∃ y c, v = .slice y n c := by
  rcases h.2 with ⟨h1, h2⟩ | ⟨g, cap, cur, h1, _⟩
  · exact ⟨none, 0, by rw [h1, h2]⟩
  · exact ⟨_, _, h1⟩
theorem str_list (s : ByteArray) : Lib.strCells s = s.data.toList.map bv := rfl
theorem set0 (a b c : Value) : (#[a, b] : Array Value).setIfInBounds 0 c = #[c, b] := rfl
theorem set1 (a b c : Value) : (#[a, b] : Array Value).setIfInBounds 1 c = #[a, c] := rfl

/-- A Writer behind an append: the row has grown, the field is stored. -/
theorem CW.stored {w w1 : World} {g : Nat} {v v1 m : Value} {B C : List UInt8} {ms : Marks} {N : Nat} (h : CW w g v m B ms) (own1 : w1.ownsRow 0 5 1 v1 N ((B ++ C).map bv)) (grow1 : w.grownBy w1 v.ownBlock)
    (at1 : ∀ k, v1.ownBlock = some k → v.ownBlock = some k ∨ w.heap.size ≤ k) : CW (w1.setCell ⟨g, 0, none⟩ v1) g v1 m (B ++ C) ms ∧ Turn (own g v m) w (w1.setCell ⟨g, 0, none⟩ v1) ∧ ∀ k, own g v1 m k → own g v m k ∨ w.heap.size ≤ k := by
  have hN : N = (B ++ C).length := by have := own1.1; simp at this; simp; omega
  subst hN
  have hblk := (h.blk.grown grow1 h.sep).set 0 v1
  rw [set0] at hblk
  have t1 : Turn (own g v m) w w1 := Turn.of_grown grow1 (fun k hk => .inr (.inl hk))
  have t2 : Turn (own g v m) w (w1.setCell ⟨g, 0, none⟩ v1) := t1.trans (Turn.of_set (S := own g v m) w1 (p := ⟨g, 0, none⟩) (.inl rfl) v1) (fun _ hi => .inl hi)
  have ts : Turn (fun k => k = g) w1 (w1.setCell ⟨g, 0, none⟩ v1) := Turn.of_set (S := fun k => k = g) w1 (p := ⟨g, 0, none⟩) rfl v1
  have hg1 : ∀ k, v1.ownBlock = some k → k ≠ g := fun k hk e => by
    subst e
    rcases at1 k hk with h1 | h1
    · exact h.sep h1.symm
    · have := h.blk.lt; omega
  refine ⟨⟨hblk, ts.row own1 hg1, ?_⟩, t2, fun k hk => ?_⟩
  · have hm : MapAt w1 m ms := h.map.turn (S := fun k => v.ownBlock = some k) (Turn.of_grown grow1 (fun k hk => hk)) (fun k hk e => (h.mapSep hk).2 e.symm)
    exact hm.turn ts (fun k hk => (h.mapSep hk).1)
  · rcases hk with rfl | hk | hk
    · exact .inl (.inl rfl)
    · exact (at1 k hk).imp (fun e => .inr (.inl e)) id
    · exact .inl (.inr (.inr hk))

/-- What Raw answers, and what it leaves. -/
def rawE (B : List UInt8) (s : ByteArray) : Int := if B.length + s.size ≤ 4096 then 0 else 501
def rawB (B : List UInt8) (s : ByteArray) : List UInt8 := if B.length + s.size ≤ 4096 then B ++ s.data.toList else B

theorem CW.stored2 {w w1 : World} {g : Nat} {v v1 m : Value} {B C : List UInt8} {ms : Marks} {N : Nat} (h : CW w g v m B ms) (own1 : w1.ownsRow 0 5 1 v1 N (B.map bv ++ C.map bv)) (grow1 : w.grownBy w1 v.ownBlock)
    (at1 : ∀ k, v1.ownBlock = some k → v.ownBlock = some k ∨ w.heap.size ≤ k) : Left g v m w (w1.setCell ⟨g, 0, none⟩ v1) (B ++ C) ms := by
  obtain ⟨a, b, c⟩ := h.stored (C := C) (by rw [List.map_append]; exact own1) grow1 at1
  exact ⟨v1, m, a, b, c⟩

theorem raw_any (g : Nat) (v m : Value) (B : List UInt8) (ms : Marks) (s : ByteArray) (w : World) (hB : B.length ≤ 4096) (hs : s.size ≤ maxLen) (h : CW w g v m B ms) :
    Calls Try.prog 42 #[.pointer (some ⟨g, 0, none⟩), .string s] w fun e w' => e = .returned (.int .i64 (rawE B s)) ∧ Left g v m w w' (rawB B s) ms := by
  have HW : Hid (CW w g v m B ms) := h
  obtain ⟨x, cap, hv⟩ := h.form
  obtain ⟨n, hn⟩ : ∃ n, n = B.length := ⟨_, rfl⟩
  have HN : Hid (n = B.length) := hn
  rw [← hn] at hv hB
  subst hv
  have HR : Hid (w.ownsRow 0 5 1 (.slice x n cap) n (B.map bv)) := by unfold Hid; rw (occs := .pos [2]) [hn]; exact h.row
  have c0 := h.c0
  have f0 := h.blk.frozen 0
  have hroom := room_any g n cap x w hB c0
  clear h hn
  have hs := hs
  unfold maxLen at hs
  by_cases hfit : n + s.size ≤ 4096
  · have hfit' : decide ((4096 : Int) - (n : Int) < (s.size : Int)) = false := by simp; omega
    have HE : Hid (rawE B s = 0 ∧ rawB B s = B ++ s.data.toList) := by unfold Hid rawE rawB; rw [← HN.out, if_pos hfit, if_pos hfit]; exact ⟨rfl, rfl⟩
    go_enter Try.func42, Try.ntmps42
    go_wp2_with (first
      | (go_at_call 58; go_must (refine hroom.mono ?_); rintro e w' ⟨rfl, hw⟩; obtain rfl := hw.symm)
      | (at_builtin; refine wpList_appB _ rfl (.tmp 16) (.tmp 17) rfl _ n _ rfl HR.out s rfl (by omega) ?_; intro v1 w1 own1 grow1 at1; obtain ⟨y1, k1, rfl⟩ := row_shape own1; have c1 : w1.cell? ⟨g, 0, none⟩ = some (.slice x n cap) := (HW.out.blk.grown grow1 HW.out.sep).cell 0; have f1 : w1.frozen? ⟨g, 0, none⟩ = false := (HW.out.blk.grown grow1 HW.out.sep).frozen 0; have HL : Hid (Left g (.slice x n cap) m w (w1.setCell ⟨g, 0, none⟩ (.slice y1 (n + s.size) k1)) (B ++ s.data.toList) ms) := HW.out.stored2 own1 grow1 at1; clear own1 grow1 at1))
    go_ret
    rw [HE.out.1, HE.out.2]
    exact ⟨rfl, HL.out⟩
  · have hfit' : (4096 : Int) - (n : Int) < (s.size : Int) := by omega
    have HE : Hid (rawE B s = 501 ∧ rawB B s = B) := by unfold Hid rawE rawB; rw [← HN.out, if_neg hfit, if_neg hfit]; exact ⟨rfl, rfl⟩
    go_enter Try.func42, Try.ntmps42
    go_wp2_with (first
      | (go_at_call 58; go_must (refine hroom.mono ?_); rintro e w' ⟨rfl, hw⟩; obtain rfl := hw.symm))
    go_ret
    rw [HE.out.1, HE.out.2]
    exact ⟨rfl, left_same HW.out⟩

theorem isKey_str (r : List UInt8) : WideAt.IsKeyLit (.string r) := by simp [WideAt.IsKeyLit]
theorem mapIs_put {D : DataW Unit} {ms : Marks} {r : List UInt8} {q : Nat} (hD : Maps.IsMap D) (h : MapIs D ms) (hr : plc ms r = none) : MapIs (D.put (.string r) (.lit (.int .i64 (q : Int)))) (ms ++ [(r, q)]) := by
  intro x
  rw [plc_snoc ms r x q hr]
  by_cases e : x = r
  · subst e
    rw [if_pos rfl]
    refine ⟨fun e => by simp at e, fun q' e => ?_⟩
    simp at e
    subst e
    exact ⟨Maps.has_put_same hD (isKey_str x) _, Maps.atKey_put_same hD (isKey_str x) _ _⟩
  · rw [if_neg e]
    have hne : (Lit.string x) ≠ .string r := fun e' => e (by simpa using e')
    rw [Maps.has_put_other hne, Maps.atKey_put_other hne]
    exact h x
theorem mapIs_nil : MapIs (.map []) [] := fun r => ⟨fun _ => rfl, fun q h => by simp [plc] at h⟩

/-- A Writer whose map was written. -/
theorem CW.kept {w w1 : World} {g b : Nat} {v : Value} {B : List UInt8} {ms' : Marks} {D : DataW Unit} (h : Blk w g #[v, .map (some b)] 91) (hr : w.ownsRow 0 5 1 v B.length (B.map bv)) (hg : w.grownBy w1 (some b)) (hb : b ≠ g) (hv : some b ≠ v.ownBlock)
    (ho : w1.ownsMap Try.prog 9 (plainElem Try.prog 3) b ms'.length D) (hD : MapIs D ms') : CW w1 g v (.map (some b)) B ms' := by
  refine ⟨h.grown hg (fun e => hb (Option.some.inj e).symm), ?_, .inr ⟨b, D, rfl, ho, hD⟩⟩
  exact hr.kept hg (by
    cases hx : v.ownBlock with
    | none => exact .inl rfl
    | some k => exact .inr (by rw [hx] at hv; exact fun e => hv e.symm))

theorem keep_some (g b : Nat) (v : Value) (B : List UInt8) (ms : Marks) (r : ByteArray) (q : Nat) (w : World) (hr : r.size ≤ 255) (hq : q ≤ 16383) (hl : ms.length ≤ 100000) (hp : plc ms r.data.toList = none) (h : CW w g v (.map (some b)) B ms) :
    Calls Try.prog 74 #[.pointer (some ⟨g, 0, none⟩), .string r, .int .i64 (q : Int)] w fun e w' => e = .returned (.tuple #[]) ∧ CW w' g v (.map (some b)) B (ms ++ [(r.data.toList, q)]) ∧ w.grownBy w' (some b) := by
  have HW : Hid (CW w g v (.map (some b)) B ms) := h
  have c1 := h.c1
  have t1 : decide ((16383 : Int) < (q : Int)) = false := by simp; omega
  obtain ⟨D, ho, hD⟩ : ∃ D, w.ownsMap Try.prog 9 (plainElem (H := Unit) Try.prog 3) b ms.length D ∧ MapIs D ms := by
    rcases h.map with ⟨e, _⟩ | ⟨b', D, e, h1, h2⟩
    · simp at e
    · simp at e; subst e; exact ⟨D, h1, h2⟩
  have HD : Hid (MapIs D ms) := hD
  have heq := fun u => run_eql_map_nil (P := Try.prog) u 89 9 3 (some b) Try.underlying89
  have hwf : (Lit.int .i64 (q : Int)).wf = true := WalkArith.wf_i64 (by omega)
  have HP : Hid (MapIs (D.put (.string r.data.toList) (.lit (.int .i64 (q : Int)))) (ms ++ [(r.data.toList, q)])) := mapIs_put ho.isMap hD hp
  have HL : Hid (ms.length + 1 = (ms ++ [(r.data.toList, q)]).length) := by unfold Hid; simp
  clear h hD
  go_enter Try.func74, Try.ntmps74
  go_wp2_with (at_mapUpdate; refine wpList_mapUpdate_own _ rfl (.tmp 20) (.tmp 21) (.tmp 22) 89 rfl 9 3 keyL Try.underlying89 _ b ms.length D rfl ho (by unfold maxLen; omega) _ _ _ rfl rfl (Go.WideMaps.keyOf_string_mk Try.underlying9 (by unfold maxLen; omega)) _ [] (plainElem_int Try.underlying3 hwf) ?_; intro w1 own1 grow1)
  go_end0
  refine ⟨rfl, ?_, grow1⟩
  exact CW.kept HW.out.blk HW.out.row grow1 (HW.out.mapSep rfl).1 (HW.out.mapSep rfl).2 (by rw [← HL.out]; exact own1) HP.out

theorem keep_none (g : Nat) (v : Value) (B : List UInt8) (r : ByteArray) (q : Nat) (w : World) (hr : r.size ≤ 255) (hq : q ≤ 16383) (h : CW w g v (.map none) B []) :
    Calls Try.prog 74 #[.pointer (some ⟨g, 0, none⟩), .string r, .int .i64 (q : Int)] w fun e w' => e = .returned (.tuple #[]) ∧ CW w' g v (.map (some w.heap.size)) B [(r.data.toList, q)] ∧ Turn (fun k => k = g) w w' := by
  have HW : Hid (CW w g v (.map none) B []) := h
  have c1 := h.c1
  have t1 : decide ((16383 : Int) < (q : Int)) = false := by simp; omega
  have heq := fun u => run_eql_map_nil (P := Try.prog) u 89 9 3 none Try.underlying89
  have hmm := @run_makeMap Try.prog
  have hwf : (Lit.int .i64 (q : Int)).wf = true := WalkArith.wf_i64 (by omega)
  have HP : Hid (MapIs ((DataW.map [] : DataW Unit).put (.string r.data.toList) (.lit (.int .i64 (q : Int)))) ([] ++ [(r.data.toList, q)])) := mapIs_put Maps.isMap_empty mapIs_nil rfl
  have hlt := h.blk.lt
  obtain ⟨W, hW⟩ : ∃ W, W = (w.alloc (.map #[] 0)).setCell ⟨g, 1, none⟩ (.map (some w.heap.size)) := ⟨_, rfl⟩
  have hblk : Blk W g #[v, .map (some w.heap.size)] 91 := by
    have := (h.blk.alloc (.map #[] 0)).set 1 (.map (some w.heap.size))
    rw [set1] at this
    rw [hW]; exact this
  have hc : (w.alloc (.map #[] 0)).cell? ⟨g, 1, none⟩ = some (.map none) := (h.blk.alloc _).cell 1
  have hf : (w.alloc (.map #[] 0)).frozen? ⟨g, 1, none⟩ = false := (h.blk.alloc _).frozen 1
  have hc2 := hblk.cell 1
  have ho : W.ownsMap Try.prog 9 (plainElem (H := Unit) Try.prog 3) w.heap.size 0 (.map []) := by
    rw [hW]
    exact (World.ownsMap_made w _ _ _).setCell (by show w.heap.size ≠ g; omega) _
  have HT : Hid (Turn (fun k => k = g) w W) := by
    unfold Hid
    rw [hW]
    exact (Turn.of_below (S := fun k => k = g) ((Below.refl w.heap.size w).alloc (Nat.le_refl _) (.map #[] 0))).trans (Turn.of_set (S := fun k => k = g) _ (p := ⟨g, 1, none⟩) rfl _) (fun _ hi => .inl hi)
  have HR : Hid (W.ownsRow 0 5 1 v B.length (B.map bv)) := HT.out.row h.row (fun k hk e => h.sep (by rw [hk, e]))
  have HS : Hid (some w.heap.size ≠ v.ownBlock) := fun e => by have := (h.row.lt _ e.symm).2; omega
  have HB : Hid (Blk W g #[v, .map (some w.heap.size)] 91) := hblk
  have hWn := hW.symm
  have HG : Hid (w.heap.size ≠ g) := by unfold Hid; omega
  have HLT : Hid (w.heap.size ≤ w.heap.size) := Nat.le_refl _
  simp only [List.getElem?_toArray, List.getElem?_cons_zero, List.getElem?_cons_succ] at hc2
  clear h hblk hW
  go_enter Try.func74, Try.ntmps74
  go_wp2_with (at_mapUpdate; refine wpList_mapUpdate_own _ rfl (.tmp 20) (.tmp 21) (.tmp 22) 89 rfl 9 3 keyL Try.underlying89 _ w.heap.size 0 (.map []) rfl ho (by unfold maxLen; omega) _ _ _ rfl rfl (Go.WideMaps.keyOf_string_mk Try.underlying9 (by unfold maxLen; omega)) _ [] (plainElem_int Try.underlying3 hwf) ?_; intro w1 own1 grow1)
  go_end0
  refine ⟨rfl, CW.kept HB.out HR.out grow1 HG.out HS.out own1 HP.out, ?_⟩
  exact HT.out.trans (Turn.of_grown (S := fun k => k = w.heap.size) grow1 (fun k hk => (Option.some.inj hk).symm)) (fun i hi => .inr (by omega))

/-- What keep leaves: the row as it was, one rest more. -/
def KLeft (g : Nat) (v m : Value) (w w' : World) (B : List UInt8) (ms : Marks) : Prop :=
  ∃ m', CW w' g v m' B ms ∧ Turn (own g v m) w w' ∧ ∀ k, own g v m' k → own g v m k ∨ w.heap.size ≤ k
theorem keep_any (g : Nat) (v m : Value) (B : List UInt8) (ms : Marks) (r : ByteArray) (q : Nat) (Q : Int) (w : World) (hr : r.size ≤ 255) (hq : q ≤ 16383) (hQ : Q = (q : Int)) (hl : ms.length ≤ 100000) (hp : plc ms r.data.toList = none) (h : CW w g v m B ms) :
    Calls Try.prog 74 #[.pointer (some ⟨g, 0, none⟩), .string r, .int .i64 Q] w fun e w' => e = .returned (.tuple #[]) ∧ KLeft g v m w w' B (ms ++ [(r.data.toList, q)]) := by
  subst hQ
  rcases h.map with ⟨rfl, rfl⟩ | ⟨b, D, rfl, _⟩
  · refine (keep_none g v B r q w hr hq h).mono fun e w' ⟨he, h1, h2⟩ => ⟨he, _, h1, ⟨h2.os, h2.tape, h2.output, h2.size, fun k hk hs => h2.block k hk (fun e => hs (.inl e))⟩, ?_⟩
    rintro k (hk | hk | hk)
    · exact .inl (.inl hk)
    · exact .inl (.inr (.inl hk))
    · simp at hk; exact .inr (by omega)
  · refine (keep_some g b v B ms r q w hr hq hl hp h).mono fun e w' ⟨he, h1, h2⟩ => ⟨he, _, h1, Turn.of_grown h2 (fun k hk => .inr (.inr (by rw [hk]))), fun k hk => .inl hk⟩

theorem CW.shape {w : World} {g : Nat} {v m : Value} {B : List UInt8} {ms : Marks} (h : CW w g v m B ms) : ∃ x cap, v = .slice x B.length cap := row_shape h.row
theorem sts_len : ∀ (f : Nat) (n : List UInt8) (p e : Nat), (sts f n p e).length ≤ e - p := by
  intro f
  induction f with
  | zero => intros; simp [sts]
  | succ f ih =>
    intro n p e
    rw [sts]
    split
    · rw [List.length_cons]; have := ih n (p + 1 + (n.getD p 0).toNat) e; omega
    · simp

theorem after_keep {g : Nat} {v m m' : Value} {w wr w2 : World} {B : List UInt8} {ms : Marks} (ht : Turn (own g v m) w wr) (ho : ∀ k, own g v m' k → own g v m k ∨ w.heap.size ≤ k) (h : KLeft g v m' (wr.drewN 1) w2 B ms) : KLeft g v m w w2 B ms := by
  obtain ⟨m2, h1, h2, h3⟩ := h
  have e : (wr.drewN 1).heap.size = wr.heap.size := rfl
  have hsz := ht.size
  refine ⟨m2, h1, ht.trans ((Turn.of_below (S := own g v m') (below_drew ⟨1, rfl⟩)).trans h2 (fun i hi => .inl hi)) ho, fun k hk => ?_⟩
  rcases h3 k hk with h | h
  · exact ho k h
  · exact .inr (by omega)

set_option maxRecDepth 20000 in
set_option maxHeartbeats 1000000 in
theorem keepRests_any (g N : Nat) (x : Option Addr) (cap : Nat) (m : Value) (B : List UInt8) (ms : Marks) (s : ByteArray) (e : Nat) (w : World) (hN : N = B.length) (hB : N ≤ 4096) (hml : ms.length ≤ 5000) (hs : s.size ≤ 255) (he : e ≤ s.size)
    (hmiss : ∀ q ∈ sts s.data.toList.length s.data.toList 0 e, plc ms (s.data.toList.drop q) = none ∧ NAt s.data.toList q) (h : CW w g (.slice x N cap) m B ms) :
    Calls Try.prog 68 #[.pointer (some ⟨g, 0, none⟩), .string s, .int .i64 (e : Int)] w fun r w' => r = .returned (.tuple #[]) ∧ KLeft g (.slice x N cap) m w w' B (ms ++ newM B.length s.data.toList e) := by
  have HN : Hid (N = B.length) := hN
  have HM : Hid (∀ q ∈ sts s.data.toList.length s.data.toList 0 e, plc ms (s.data.toList.drop q) = none ∧ NAt s.data.toList q) := hmiss
  have hl := data_len s
  have HW : Hid (CW w g (.slice x N cap) m B ms) := h
  clear h hN hmiss
  go_enter Try.func68, Try.ntmps68
  go_wp2_with (go_at_call 63; go_must (refine (clone_any s _ (by omega)).mono ?_); rintro e w1 ⟨rfl, b1⟩; have HW1 : Hid (CW w1 g (.slice x N cap) m B ms) := HW.out.below b1; have HT1 : Hid (Turn (own g (.slice x N cap) m) w w1) := Turn.of_below b1; clear b1)
  go_loopw [6] (fun i wr => ∃ (p : Nat) (done : List Nat) (m' : Value), i = .int .i64 (p : Int) ∧ p ≤ 600 ∧ Hid (KAt s.data.toList e p done) ∧ Hid (∀ q ∈ done, q < p) ∧ Hid (done.length ≤ p) ∧ Hid (CW wr g (.slice x N cap) m' B (ms ++ mkM B.length s.data.toList done)) ∧ Hid (Turn (own g (.slice x N cap) m) w wr) ∧ Hid (∀ k, own g (.slice x N cap) m' k → own g (.slice x N cap) m k ∨ w.heap.size ≤ k)) (fun i _ => 700 - (intOf i).toNat)
  case atStart => exact ⟨0, [], m, rfl, by decide, k_start _ _, fun q hq => by simp at hq, by unfold Hid; simp, by unfold Hid; simpa [mkM] using HW1.out, HT1, fun k hk => .inl hk⟩
  case round =>
    clear HW1 HT1
    obtain ⟨p, done, m', rfl, hp6, HK, HQ, HDL, HC, HT, HO⟩ := hrel
    by_cases hpe : p < e
    · have hps : p < s.size := by omega
      have hpl : p < s.data.toList.length := by omega
      have hin : p ∈ sts s.data.toList.length s.data.toList 0 e := by
        obtain ⟨f, hf, h2⟩ := HK.out
        rw [h2]
        cases f with
        | zero => omega
        | succ f => rw [sts, if_pos hpe]; simp
      have hms := HM.out p hin
      have hb := UInt8.toNat_lt (s[p])
      have hrl : (s.extract p s.size).data.toList = s.data.toList.drop p := ext_from s p
      have HP : Hid (plc (ms ++ mkM B.length s.data.toList done) (s.extract p s.size).data.toList = none) := by
        unfold Hid
        rw [hrl, plc_app, hms.1, plc_done hpl HQ.out]; rfl
      have HK2 : Hid (KAt s.data.toList e (p + 1 + s[p].toNat) (done ++ [p])) := k_step HK.out hpl hpe
      have hlen : (ms ++ mkM B.length s.data.toList done).length ≤ 100000 := by
        rw [List.length_append]; have := HDL.out; simp only [mkM, List.length_map]; omega
      have hkeep := keep_any g (.slice x N cap) m' B _ (s.extract p s.size) (N + p) ((N : Int) + (p : Int)) (wr.drewN 1) (by simp; omega) (by omega) (by omega) hlen HP.out (HC.out.drewn ⟨1, rfl⟩)
      have HKP : Hid (Calls Try.prog 74 #[.pointer (some ⟨g, 0, none⟩), .string (s.extract p s.size), .int .i64 ((N : Int) + (p : Int))] (wr.drewN 1) fun e w' => e = .returned (.tuple #[]) ∧ KLeft g (.slice x N cap) m' (wr.drewN 1) w' B (ms ++ mkM B.length s.data.toList (done ++ [p]))) := by
        unfold Hid
        rw [mkM_snoc, ← List.append_assoc, ← HN.out]
        rw [hrl] at hkeep
        have e : N + p = N + p := rfl
        rw [← HN.out] at hkeep
        exact hkeep
      have c0 := HC.out.c0
      have hcut := cut_rest s p p rfl (by omega)
      have w4 : IntKind.i64.wrap ((N : Int) + (p : Int)) = (N : Int) + (p : Int) := by rw [IntKind.wrap_i64]; omega
      clear hkeep hms hin HP hlen hrl
      go_wp2
      go_region_held3 (fun w' => w'.cell? ⟨g, 0, none⟩ = some (.slice x N cap)) (first | (simp only [World.cell?_drew, c0]; done) | (simp only [c2]; done))
        (first | (go_at_call 74; refine HKP.out.mono ?_; rintro e w2 ⟨rfl, hk⟩; have HK3 : Hid _ := hk; have c2 : w2.cell? ⟨g, 0, none⟩ = some (.slice x N cap) := (by obtain ⟨m2, h2, _⟩ := hk; exact h2.c0); clear hk))
      have HK4 := after_keep HT.out HO.out HK3.out
      clear HK3 HC HT HO
      obtain ⟨m2, cw2, t2, o2⟩ := HK4
      have HCW2 : Hid (CW w2 g (.slice x N cap) m2 B (ms ++ mkM B.length s.data.toList (done ++ [p]))) := cw2
      have HT2 : Hid (Turn (own g (.slice x N cap) m) w w2) := t2
      have HO2 : Hid (∀ k, own g (.slice x N cap) m2 k → own g (.slice x N cap) m k ∨ w.heap.size ≤ k) := o2
      clear cw2 t2 o2
      go_wp2
      go_roundw
      case rel =>
        refine ⟨p + 1 + s[p].toNat, done ++ [p], m2, by go_num, by omega, HK2, fun q hq => ?_, ?_, HCW2, HT2, HO2⟩
        · rcases List.mem_append.1 hq with hq | hq
          · have := HQ.out q hq; omega
          · simp at hq; omega
        · unfold Hid; rw [List.length_append]; have := HDL.out; simp; omega
      case measure => simp [intOf]; omega
    · have HE := k_end HK.out (by omega)
      have hpe' : decide (p < e) = false := by simpa using hpe
      have HR : Hid (KLeft g (.slice x N cap) m w wr B (ms ++ newM B.length s.data.toList e)) := by
        unfold Hid newM
        rw [HE]
        exact ⟨m', HC.out, HT.out, HO.out⟩
      clear HE
      go_wp2
      go_end0
      exact ⟨rfl, HR.out⟩

theorem look_none {w : World} {m : Value} {ms : Marks} (h : MapAt w m ms) (r : ByteArray) (hr : r.size ≤ maxLen) (hp : plc ms r.data.toList = none) : (Instr.lookup 89 m (.string r) true).run Try.prog w = .ok (.tuple #[.int .i64 0, .bool false]) w := by
  have hk := Go.WideMaps.keyOf_string_mk (P := Try.prog) Try.underlying9 hr
  rcases h with ⟨rfl, _⟩ | ⟨b, D, rfl, ho, hD⟩
  · have := Maps.look_nil (w := w) true keyL Try.underlying89 (zero3 w) hk
    simpa using this
  · obtain ⟨v, ps, hrun, hv⟩ := ho.look_ok keyL Try.underlying89 (zero3 w) (plainElem_int Try.underlying3 (a := 0) (by decide)) hk
    have hh := (hD r.data.toList).1 hp
    rw [Maps.atKey_of_not_has hh] at hv
    obtain ⟨a, rfl, e, _⟩ := plainElem_int_inv Try.underlying3 hv
    simp at e
    rw [hrun, hh, ← e.1]
theorem look_some {w : World} {m : Value} {ms : Marks} (h : MapAt w m ms) (r : ByteArray) (hr : r.size ≤ maxLen) {q : Nat} (hp : plc ms r.data.toList = some q) : (Instr.lookup 89 m (.string r) true).run Try.prog w = .ok (.tuple #[.int .i64 (q : Int), .bool true]) w := by
  have hk := Go.WideMaps.keyOf_string_mk (P := Try.prog) Try.underlying9 hr
  rcases h with ⟨rfl, rfl⟩ | ⟨b, D, rfl, ho, hD⟩
  · simp [plc] at hp
  · obtain ⟨v, ps, hrun, hv⟩ := ho.look_ok keyL Try.underlying89 (zero3 w) (plainElem_int Try.underlying3 (a := 0) (by decide)) hk
    have hh := (hD r.data.toList).2 q hp
    rw [hh.2] at hv
    obtain ⟨a, rfl, e, _⟩ := plainElem_int_inv Try.underlying3 hv
    simp at e
    rw [hrun, hh.1, ← e.1]
theorem MapAt.drewn {w : World} {m : Value} {ms : Marks} (h : MapAt w m ms) (k : Nat) : MapAt (w.drewN k) m ms := h.turn (S := fun _ => False) (Turn.of_below (below_drew ⟨k, rfl⟩)) (fun _ _ => id)

/-- What split gives. -/
def spV (R : Nat × List UInt8) : Value := .tuple #[.int .i64 (R.1 : Int), .string ⟨R.2.toArray⟩]
theorem ret_sp {R R' : Nat × List UInt8} {v : Value} (h : R = R') (hv : v = spV R') : Ending.returned v = .returned (spV R) := by rw [h, hv]

set_option maxRecDepth 20000 in
theorem split_any (g : Nat) (v m : Value) (B : List UInt8) (ms : Marks) (s : ByteArray) (w : World) (hn : isName s.data.toList = true) (hq : ∀ r q, plc ms r = some q → q < 16384) (h : CW w g v m B ms) :
    Calls Try.prog 67 #[.pointer (some ⟨g, 0, none⟩), .string s] w fun e w' => e = .returned (spV (splN ms s.data.toList)) ∧ Below w.heap.size w w' := by
  have hs := name_size hn
  have hl := data_len s
  have HST := w_start hn ms
  obtain ⟨R, hR⟩ : ∃ R, R = splN ms s.data.toList := ⟨_, rfl⟩
  rw [← hR] at HST ⊢
  have HW0 : Hid (WAt ms s.data.toList 0 R []) := HST
  have HW : Hid (CW w g v m B ms) := h
  have HQ : Hid (∀ r q, plc ms r = some q → q < 16384) := hq
  clear HST hR h hn hq
  go_enter Try.func67, Try.ntmps67
  go_wp2
  go_loopw [6] (fun i wr => ∃ (p : Nat) (done : List Nat), i = .int .i64 (p : Int) ∧ p ≤ 600 ∧ Hid (WAt ms s.data.toList p R done) ∧ Hid (∃ k, wr = w.drewN k)) (fun i _ => 700 - (intOf i).toNat)
  case atStart => exact ⟨0, [], rfl, by decide, HW0, 0, rfl⟩
  case round =>
    clear HW0
    obtain ⟨p, done, rfl, hp6, HA, HD⟩ := hrel
    have hpl := nat_lt HA.out.1
    have hps : p < s.size := by omega
    have hb := UInt8.toNat_lt (s[p])
    have hps' : (p : Int) < (s.size : Int) := by omega
    have hbl : Below w.heap.size w wr := below_drew HD.out
    have c1 : wr.cell? ⟨g, 1, none⟩ = some m := (HW.out.below hbl).c1
    have HM : Hid (MapAt wr m ms) := (HW.out.below hbl).map
    by_cases h0 : s[p].toNat = 0
    · have h0' : ((s[p].toNat : Int) != 0) = false := by simp [h0]
      have HR : Hid (R = (p, [0])) := (w_zero HA.out hpl h0).1
      clear h0
      go_wp2
      go_ret2
      exact ⟨ret_sp HR.out rfl, hbl⟩
    · have h0' : ((s[p].toNat : Int) != 0) = true := by simpa using h0
      have hcut := cut_rest s p p rfl (by omega)
      have hrl : (s.extract p s.size).data.toList = s.data.toList.drop p := ext_from s p
      have hrs : (s.extract p s.size).size ≤ maxLen := by unfold maxLen; simp; omega
      cases hpq : plc ms (s.data.toList.drop p) with
      | some q =>
        have HR : Hid (R = (p, ptrB q)) := (w_hit HA.out hpl h0 hpq).1
        have hq := HQ.out _ _ hpq
        have hlook := fun k => look_some (HM.out.drewn k) (s.extract p s.size) hrs (by rw [hrl]; exact hpq)
        clear hpq h0 hrl
        go_wp2
        go_quiet (fail)
        go_wp2_with (go_at_call 73; go_must (refine (pointer_any q _ hq).mono ?_); rintro e w2 ⟨rfl, b2⟩)
        go_ret2
        exact ⟨ret_sp HR.out rfl, next (next hbl (below_drew ⟨_, rfl⟩)) b2⟩
      | none =>
        have HR : Hid (WAt ms s.data.toList (p + 1 + s[p].toNat) R (done ++ [p])) := (w_miss HA.out hpl h0 hpq).1
        have hlook := fun k => look_none (HM.out.drewn k) (s.extract p s.size) hrs (by rw [hrl]; exact hpq)
        clear hpq h0 hrl
        go_wp2
        go_quiet (fail)
        go_wp2
        go_roundw
        case rel => exact ⟨p + 1 + s[p].toNat, done ++ [p], by go_num, by omega, HR, drew_next HD.out ⟨_, rfl⟩⟩
        case measure => simp [intOf]; omega

end Go.Proofs.Ytdogjbblnjjaaab
