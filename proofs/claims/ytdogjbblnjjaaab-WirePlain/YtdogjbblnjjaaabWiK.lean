/- What getPart of package wire gives, of questions and of records. -/
import Derived.Test.YtdogjbblnjjaaabWiJ
namespace Go.Proofs.Ytdogjbblnjjaaab
open Go.RowKit
open Pl

theorem infoQ : (Try.prog.info? 38).map (fun i => (i.zero, i.size, i.bytes)) = some (some (.agg #[.string ⟨#[]⟩, .int .i64 0, .int .i64 0]), 3, 32) := by kernel_rfl
theorem infoR : (Try.prog.info? 25).map (fun i => (i.zero, i.size, i.bytes)) = some (some (.agg #[.string ⟨#[]⟩, .int .i64 0, .int .i64 0, .int .i64 0, .string ⟨#[]⟩]), 5, 56) := by kernel_rfl

/-- One question is appended to a row of questions that the call owns. -/
theorem wpList_appQ (u : World) {ops : Array Oper} {rest : List Oper} {o : Oper} {a : Act} {Q : Exit → Act → World → Prop} (hgd : o.guard = none) (s x : Operand)
    (ho : o.op = .call { callee := .builtin .append, args := #[s, x], argTypes := #[30, 30] }) (base : Nat) (v : Value) (n : Nat) (qs : List Qn) (q : Qn) (hs : a.eval s = v)
    (hown : u.ownsRow base 38 3 v n (qC qs)) (hx : a.eval x = .slice (some ⟨u.heap.size, 0, none⟩) 1 1) (hn : n ≤ 1000) (hbase : base ≤ u.heap.size)
    (h : ∀ v' w', w'.ownsRow base 38 3 v' (n + 1) (qC (qs ++ [q])) → (u.alloc (.cells (qV q).toArray 38)).grownBy w' v.ownBlock → (v'.ownBlock = v.ownBlock ∨ ∃ g, v'.ownBlock = some g ∧ u.heap.size ≤ g) → wpList Try.prog ops Q rest (a.put o.dst v') w') :
    wpList Try.prog ops Q (o :: rest) a (u.alloc (.cells (qV q).toArray 38)) := by
  obtain ⟨i0, hi, hz0, hz1, hz2⟩ := info_parts infoQ
  refine wpList_append_lies _ hgd s x 30 ho base 38 i0 (.agg #[.string ⟨#[]⟩, .int .i64 0, .int .i64 0]) 3 32 Try.underlying30 hi hz0 hz1 hz2 rfl (by decide) v n (qC qs) hs (hown.alloc _) ⟨u.heap.size, 0, none⟩ 1 1 (qV q) hx rfl (fun j y hy => ?_) (fun y hy => qC_one [q] y (by simpa [qC] using hy)) (by decide) (by unfold maxLen; omega) (by omega) (by simp; omega) _ rfl ?_
  · exact World.news_of_block (heap_alloc_new u (.cells (qV q).toArray 38)) j y (by simpa using hy)
  · intro g cap w' h1 h2 h3 h4
    refine h _ w' (by rw [qC_app]; simpa [qC] using h1) h2 ?_
    rcases h3 with h3 | h3
    · exact .inl h3.symm
    · exact .inr ⟨g, rfl, by rw [h3]; simp⟩

/-- What getPart holds: the reader, the row. -/
def PQ (w w' : World) (g : Nat) (s : ByteArray) (p p' : Nat) (b' : Bool) (v : Value) (n : Nat) (qs : List Qn) (k : Nat) : Prop :=
  RD w' g s p' b' ∧ TG g w w' ∧ w'.ownsRow w.heap.size 38 3 v n (qC qs) ∧ n = qs.length ∧ ((b' = false ∧ getAll (getQ s) p k = some (qs, p')) ∨ (b' = true ∧ getAll (getQ s) p k = none))

set_option maxRecDepth 20000 in
set_option maxHeartbeats 1000000 in
theorem getPartQ_r {w : World} {g : Nat} {s : ByteArray} {p : Nat} {b : Bool} (c : Nat) (hc : c < 65536) (hs : s.size ≤ 4096) (h : RD w g s p b) :
    Calls Try.prog 12 #[.pointer (some ⟨g, 0, none⟩), .int .i64 (c : Int), .func (.func 13) #[] #[]] w fun e w' => ∃ (v : Value) (qs : List Qn) (p' : Nat) (b' : Bool), e = .returned v ∧ RD w' g s p' b' ∧ TG g w w' ∧ w'.ownsRow w.heap.size 38 3 v qs.length (qC qs) ∧
      ((b' = false ∧ b = false ∧ part (getQ s) c p = some (qs, p')) ∨ (b' = true ∧ (b = true ∨ part (getQ s) c p = none))) := by
  have hlt := h.1.lt
  obtain ⟨c0, c1, c2⟩ := h.cells
  have f2 := h.1.frozen 2
  have HA : Hid (RD w g s p b) := h
  clear h
  by_cases h64 : 64 < c
  · have h64' : (64 : Int) < (c : Int) := by omega
    have HN : Hid (part (getQ s) c p = none) := by unfold Hid part; rw [if_neg (by omega)]
    obtain ⟨r1, r2⟩ := HA.out.setBad
    have HR : Hid _ := And.intro r1 r2
    clear r1 r2
    go_enter Try.func12, Try.ntmps12
    go_wp2
    go_loopw [7, 8] (fun v i wr => v = .slice none 0 0 ∧ i = .int .i64 0 ∧ wr = w.setCell ⟨g, 2, none⟩ (.bool true)) (fun _ _ _ => 0)
    case atStart => exact ⟨rfl, rfl, rfl⟩
    case round =>
      obtain ⟨rfl, rfl, rfl⟩ := hrel
      have d2 := HR.out.1.cells.2.2
      have h0c : (0 : Int) < (c : Int) := by omega
      go_wp2
      go_ret
      exact ⟨_, [], _, _, rfl, HR.out.1, HR.out.2, World.ownsRow_nil _ _ _ _, .inr ⟨rfl, .inr HN.out⟩⟩
  · have h64' : decide ((64 : Int) < (c : Int)) = false := by simp; omega
    cases b with
    | true =>
      go_enter Try.func12, Try.ntmps12
      go_wp2
      go_loopw [7, 8] (fun v i wr => v = .slice none 0 0 ∧ i = .int .i64 0 ∧ wr = w) (fun _ _ _ => 0)
      case atStart => exact ⟨rfl, rfl, rfl⟩
      case round =>
        obtain ⟨rfl, rfl, rfl⟩ := hrel
        go_wp2
        all_goals
          go_ret
          exact ⟨_, [], _, _, rfl, HA.out, Turn.refl _ _, World.ownsRow_nil _ _ _ _, .inr ⟨rfl, .inl (by trivial)⟩⟩
    | false =>
      have HPQ : Hid (PQ w w g s p p false (.slice none 0 0) 0 [] 0) := ⟨HA.out, Turn.refl _ _, World.ownsRow_nil _ _ _ _, rfl, .inl ⟨rfl, rfl⟩⟩
      have HPT : Hid (part (getQ s) c p = getAll (getQ s) p c) := by unfold Hid part; rw [if_pos (by omega)]
      clear HA
      go_enter Try.func12, Try.ntmps12
      go_wp2
      go_loopw [7, 8] (fun v i wr => ∃ (k n cp p' : Nat) (y : Option Addr) (b' : Bool) (qs : List Qn), k ≤ c ∧ n ≤ k ∧ v = .slice y n cp ∧ i = .int .i64 (k : Int) ∧ Hid (PQ w wr g s p p' b' (.slice y n cp) n qs k)) (fun _ i _ => c - (intOf i).toNat)
      case atStart => exact ⟨0, 0, 0, p, none, false, [], Nat.zero_le _, Nat.le_refl _, rfl, rfl, HPQ⟩
      case round =>
        clear HPQ c0 c1 c2 f2
        obtain ⟨k, n, cp, p', y, b', qs, hk, hn, rfl, rfl, HI⟩ := hrel
        obtain ⟨d0, d1, d2⟩ := HI.out.1.cells
        cases b' with
        | true =>
          have HX : Hid (getAll (getQ s) p c = none) := by
            rcases HI.out.2.2.2.2 with ⟨e, _⟩ | ⟨_, e⟩
            · simp at e
            · exact getAll_none e c hk
          go_wp2
          all_goals
            go_ret
            exact ⟨_, qs, _, _, rfl, HI.out.1, HI.out.2.1, by rw [← HI.out.2.2.2.1]; exact HI.out.2.2.1, .inr ⟨rfl, .inr (by rw [HPT.out]; exact HX.out)⟩⟩
        | false =>
          have HG : Hid (getAll (getQ s) p k = some (qs, p')) := by
            rcases HI.out.2.2.2.2 with ⟨_, e⟩ | ⟨e, _⟩
            · exact e
            · simp at e
          by_cases hkc : k < c
          · have hkc' : (k : Int) < (c : Int) := by omega
            have hn1 : n ≤ 1000 := by omega
            go_wp2_with (first
              | (go_at_call 13; go_must (refine (question_r hs HI.out.1).mono ?_); rintro e w1 ⟨q, p1, b1, rfl, r1, u1, g1⟩; have R1 : Hid (RD w1 g s p1 b1 ∧ TG g w w1 ∧ w1.ownsRow w.heap.size 38 3 (.slice y n cp) n (qC qs) ∧ ((b1 = false ∧ getQ s p' = some (q, p1)) ∨ (b1 = true ∧ getQ s p' = none))) := ⟨r1, HI.out.2.1.same u1, u1.row HI.out.2.2.1 (fun k hk e => (by have := (HI.out.2.2.1.lt k hk).1; omega)), g1⟩; have hsz := R1.out.2.1.size; clear r1 u1 g1)
              | (at_builtin; refine wpList_appQ w1 rfl (.tmp 26) (.tmp 30) rfl w.heap.size (.slice y n cp) n qs q rfl R1.out.2.2.1 rfl hn1 hsz ?_; intro v5 w5 own5 grow5 at5; obtain ⟨y5, k5, rfl⟩ := row_shape own5; have OWN5 : Hid (w5.ownsRow w.heap.size 38 3 (.slice y5 (n + 1) k5) (n + 1) (qC (qs ++ [q]))) := own5; have GROW5 : Hid ((w1.alloc (.cells (qV q).toArray 38)).grownBy w5 (Value.slice y n cp).ownBlock) := grow5; clear own5 grow5 at5))
            go_roundw
            case rel =>
              refine ⟨k + 1, n + 1, k5, p1, y5, b1, qs ++ [q], by omega, by omega, rfl, by go_num, ?_, ?_, OWN5.out, by rw [List.length_append, ← HI.out.2.2.2.1]; rfl, ?_⟩
              · refine ⟨(R1.out.1.1.alloc _).grown GROW5.out (fun e => ?_), R1.out.1.2⟩
                have := (R1.out.2.2.1.lt g e.symm).1
                omega
              · refine (R1.out.2.1.alloc _).trans (S' := fun k => (Value.slice y n cp).ownBlock = some k) (Turn.of_grown GROW5.out (fun _ hk => hk)) (fun i hi => .inr (R1.out.2.2.1.lt i hi).1)
              · rcases R1.out.2.2.2 with ⟨e1, e2⟩ | ⟨e1, e2⟩
                · exact .inl ⟨e1, getAll_next HG.out e2⟩
                · exact .inr ⟨e1, getAll_stop HG.out e2⟩
            case measure => simp [intOf]; omega
          · have hkc' : decide (k < c) = false := by simpa using hkc
            have HKC : Hid (k = c) := by unfold Hid; omega
            go_wp2
            go_ret
            exact ⟨_, qs, _, _, rfl, HI.out.1, HI.out.2.1, by rw [← HI.out.2.2.2.1]; exact HI.out.2.2.1, .inl ⟨rfl, by trivial, by rw [HPT.out, ← HKC.out]; exact HG.out⟩⟩

/-- One record is appended to a row of records that the call owns. -/
theorem wpList_appR (u : World) {ops : Array Oper} {rest : List Oper} {o : Oper} {a : Act} {Q : Exit → Act → World → Prop} (hgd : o.guard = none) (s x : Operand)
    (ho : o.op = .call { callee := .builtin .append, args := #[s, x], argTypes := #[31, 31] }) (base : Nat) (v : Value) (n : Nat) (qs : List Rc) (q : Rc) (hs : a.eval s = v)
    (hown : u.ownsRow base 25 5 v n (rC qs)) (hx : a.eval x = .slice (some ⟨u.heap.size, 0, none⟩) 1 1) (hn : n ≤ 1000) (hbase : base ≤ u.heap.size)
    (h : ∀ v' w', w'.ownsRow base 25 5 v' (n + 1) (rC (qs ++ [q])) → (u.alloc (.cells (rV q).toArray 25)).grownBy w' v.ownBlock → (v'.ownBlock = v.ownBlock ∨ ∃ g, v'.ownBlock = some g ∧ u.heap.size ≤ g) → wpList Try.prog ops Q rest (a.put o.dst v') w') :
    wpList Try.prog ops Q (o :: rest) a (u.alloc (.cells (rV q).toArray 25)) := by
  obtain ⟨i0, hi, hz0, hz1, hz2⟩ := info_parts infoR
  refine wpList_append_lies _ hgd s x 31 ho base 25 i0 (.agg #[.string ⟨#[]⟩, .int .i64 0, .int .i64 0, .int .i64 0, .string ⟨#[]⟩]) 5 56 Try.underlying31 hi hz0 hz1 hz2 rfl (by decide) v n (rC qs) hs (hown.alloc _) ⟨u.heap.size, 0, none⟩ 1 1 (rV q) hx rfl (fun j y hy => ?_) (fun y hy => rC_one [q] y (by simpa [rC] using hy)) (by decide) (by unfold maxLen; omega) (by omega) (by simp; omega) _ rfl ?_
  · exact World.news_of_block (heap_alloc_new u (.cells (rV q).toArray 25)) j y (by simpa using hy)
  · intro g cap w' h1 h2 h3 h4
    refine h _ w' (by rw [rC_app]; simpa [rC] using h1) h2 ?_
    rcases h3 with h3 | h3
    · exact .inl h3.symm
    · exact .inr ⟨g, rfl, by rw [h3]; simp⟩

/-- What getPart holds, of records. -/
def PR (w w' : World) (g : Nat) (s : ByteArray) (p p' : Nat) (b' : Bool) (v : Value) (n : Nat) (qs : List Rc) (k : Nat) : Prop :=
  RD w' g s p' b' ∧ TG g w w' ∧ w'.ownsRow w.heap.size 25 5 v n (rC qs) ∧ n = qs.length ∧ ((b' = false ∧ getAll (getR s) p k = some (qs, p')) ∨ (b' = true ∧ getAll (getR s) p k = none))

set_option maxRecDepth 20000 in
set_option maxHeartbeats 1000000 in
theorem getPartR_r {w : World} {g : Nat} {s : ByteArray} {p : Nat} {b : Bool} (c : Nat) (hc : c < 65536) (hs : s.size ≤ 4096) (h : RD w g s p b) :
    Calls Try.prog 14 #[.pointer (some ⟨g, 0, none⟩), .int .i64 (c : Int), .func (.func 15) #[] #[]] w fun e w' => ∃ (v : Value) (qs : List Rc) (p' : Nat) (b' : Bool), e = .returned v ∧ RD w' g s p' b' ∧ TG g w w' ∧ w'.ownsRow w.heap.size 25 5 v qs.length (rC qs) ∧
      ((b' = false ∧ b = false ∧ part (getR s) c p = some (qs, p')) ∨ (b' = true ∧ (b = true ∨ part (getR s) c p = none))) := by
  have hlt := h.1.lt
  obtain ⟨c0, c1, c2⟩ := h.cells
  have f2 := h.1.frozen 2
  have HA : Hid (RD w g s p b) := h
  clear h
  by_cases h64 : 64 < c
  · have h64' : (64 : Int) < (c : Int) := by omega
    have HN : Hid (part (getR s) c p = none) := by unfold Hid part; rw [if_neg (by omega)]
    obtain ⟨r1, r2⟩ := HA.out.setBad
    have HR : Hid _ := And.intro r1 r2
    clear r1 r2
    go_enter Try.func14, Try.ntmps14
    go_wp2
    go_loopw [7, 8] (fun v i wr => v = .slice none 0 0 ∧ i = .int .i64 0 ∧ wr = w.setCell ⟨g, 2, none⟩ (.bool true)) (fun _ _ _ => 0)
    case atStart => exact ⟨rfl, rfl, rfl⟩
    case round =>
      obtain ⟨rfl, rfl, rfl⟩ := hrel
      have d2 := HR.out.1.cells.2.2
      have h0c : (0 : Int) < (c : Int) := by omega
      go_wp2
      go_ret
      exact ⟨_, [], _, _, rfl, HR.out.1, HR.out.2, World.ownsRow_nil _ _ _ _, .inr ⟨rfl, .inr HN.out⟩⟩
  · have h64' : decide ((64 : Int) < (c : Int)) = false := by simp; omega
    cases b with
    | true =>
      go_enter Try.func14, Try.ntmps14
      go_wp2
      go_loopw [7, 8] (fun v i wr => v = .slice none 0 0 ∧ i = .int .i64 0 ∧ wr = w) (fun _ _ _ => 0)
      case atStart => exact ⟨rfl, rfl, rfl⟩
      case round =>
        obtain ⟨rfl, rfl, rfl⟩ := hrel
        go_wp2
        all_goals
          go_ret
          exact ⟨_, [], _, _, rfl, HA.out, Turn.refl _ _, World.ownsRow_nil _ _ _ _, .inr ⟨rfl, .inl (by trivial)⟩⟩
    | false =>
      have HPR : Hid (PR w w g s p p false (.slice none 0 0) 0 [] 0) := ⟨HA.out, Turn.refl _ _, World.ownsRow_nil _ _ _ _, rfl, .inl ⟨rfl, rfl⟩⟩
      have HPT : Hid (part (getR s) c p = getAll (getR s) p c) := by unfold Hid part; rw [if_pos (by omega)]
      clear HA
      go_enter Try.func14, Try.ntmps14
      go_wp2
      go_loopw [7, 8] (fun v i wr => ∃ (k n cp p' : Nat) (y : Option Addr) (b' : Bool) (qs : List Rc), k ≤ c ∧ n ≤ k ∧ v = .slice y n cp ∧ i = .int .i64 (k : Int) ∧ Hid (PR w wr g s p p' b' (.slice y n cp) n qs k)) (fun _ i _ => c - (intOf i).toNat)
      case atStart => exact ⟨0, 0, 0, p, none, false, [], Nat.zero_le _, Nat.le_refl _, rfl, rfl, HPR⟩
      case round =>
        clear HPR c0 c1 c2 f2
        obtain ⟨k, n, cp, p', y, b', qs, hk, hn, rfl, rfl, HI⟩ := hrel
        obtain ⟨d0, d1, d2⟩ := HI.out.1.cells
        cases b' with
        | true =>
          have HX : Hid (getAll (getR s) p c = none) := by
            rcases HI.out.2.2.2.2 with ⟨e, _⟩ | ⟨_, e⟩
            · simp at e
            · exact getAll_none e c hk
          go_wp2
          all_goals
            go_ret
            exact ⟨_, qs, _, _, rfl, HI.out.1, HI.out.2.1, by rw [← HI.out.2.2.2.1]; exact HI.out.2.2.1, .inr ⟨rfl, .inr (by rw [HPT.out]; exact HX.out)⟩⟩
        | false =>
          have HG : Hid (getAll (getR s) p k = some (qs, p')) := by
            rcases HI.out.2.2.2.2 with ⟨_, e⟩ | ⟨e, _⟩
            · exact e
            · simp at e
          by_cases hkc : k < c
          · have hkc' : (k : Int) < (c : Int) := by omega
            have hn1 : n ≤ 1000 := by omega
            go_wp2_with (first
              | (go_at_call 15; go_must (refine (record_r hs HI.out.1).mono ?_); rintro e w1 ⟨q, p1, b1, rfl, r1, u1, g1⟩; have R1 : Hid (RD w1 g s p1 b1 ∧ TG g w w1 ∧ w1.ownsRow w.heap.size 25 5 (.slice y n cp) n (rC qs) ∧ ((b1 = false ∧ getR s p' = some (q, p1)) ∨ (b1 = true ∧ getR s p' = none))) := ⟨r1, HI.out.2.1.same u1, u1.row HI.out.2.2.1 (fun k hk e => (by have := (HI.out.2.2.1.lt k hk).1; omega)), g1⟩; have hsz := R1.out.2.1.size; clear r1 u1 g1)
              | (at_builtin; refine wpList_appR w1 rfl (.tmp 26) (.tmp 30) rfl w.heap.size (.slice y n cp) n qs q rfl R1.out.2.2.1 rfl hn1 hsz ?_; intro v5 w5 own5 grow5 at5; obtain ⟨y5, k5, rfl⟩ := row_shape own5; have OWN5 : Hid (w5.ownsRow w.heap.size 25 5 (.slice y5 (n + 1) k5) (n + 1) (rC (qs ++ [q]))) := own5; have GROW5 : Hid ((w1.alloc (.cells (rV q).toArray 25)).grownBy w5 (Value.slice y n cp).ownBlock) := grow5; clear own5 grow5 at5))
            go_roundw
            case rel =>
              refine ⟨k + 1, n + 1, k5, p1, y5, b1, qs ++ [q], by omega, by omega, rfl, by go_num, ?_, ?_, OWN5.out, by rw [List.length_append, ← HI.out.2.2.2.1]; rfl, ?_⟩
              · refine ⟨(R1.out.1.1.alloc _).grown GROW5.out (fun e => ?_), R1.out.1.2⟩
                have := (R1.out.2.2.1.lt g e.symm).1
                omega
              · refine (R1.out.2.1.alloc _).trans (S' := fun k => (Value.slice y n cp).ownBlock = some k) (Turn.of_grown GROW5.out (fun _ hk => hk)) (fun i hi => .inr (R1.out.2.2.1.lt i hi).1)
              · rcases R1.out.2.2.2 with ⟨e1, e2⟩ | ⟨e1, e2⟩
                · exact .inl ⟨e1, getAll_next HG.out e2⟩
                · exact .inr ⟨e1, getAll_stop HG.out e2⟩
            case measure => simp [intOf]; omega
          · have hkc' : decide (k < c) = false := by simpa using hkc
            have HKC : Hid (k = c) := by unfold Hid; omega
            go_wp2
            go_ret
            exact ⟨_, qs, _, _, rfl, HI.out.1, HI.out.2.1, by rw [← HI.out.2.2.2.1]; exact HI.out.2.2.1, .inl ⟨rfl, by trivial, by rw [HPT.out, ← HKC.out]; exact HG.out⟩⟩

end Go.Proofs.Ytdogjbblnjjaaab
