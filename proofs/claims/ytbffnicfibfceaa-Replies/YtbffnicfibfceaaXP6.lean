/- What getPart of package wire gives, of questions and of records. -/
import Derived.Test.YtbffnicfibfceaaXP5
namespace Go.Proofs.Ytbffnicfibfceaa
open Go.RowKit
open Pl

theorem infoQ : (Try.prog.info? 40).map (fun i => (i.zero, i.size, i.bytes)) = some (some (.agg #[.string ⟨#[]⟩, .int .i64 0, .int .i64 0]), 3, 32) := by kernel_rfl
theorem infoR : (Try.prog.info? 54).map (fun i => (i.zero, i.size, i.bytes)) = some (some (.agg #[.string ⟨#[]⟩, .int .i64 0, .int .i64 0, .int .i64 0, .string ⟨#[]⟩]), 5, 56) := by kernel_rfl

/-- One question is appended to a row of questions that the call owns. -/
theorem wpList_appQ (u : World) {ops : Array Oper} {rest : List Oper} {o : Oper} {a : Act} {Q : Exit → Act → World → Prop} (hgd : o.guard = none) (s x : Operand)
    (ho : o.op = .call { callee := .builtin .append, args := #[s, x], argTypes := #[24, 24] }) (base : Nat) (v : Value) (n : Nat) (qs : List Qn) (q : Qn) (hs : a.eval s = v)
    (hown : u.ownsRow base 40 3 v n (qC qs)) (hx : a.eval x = .slice (some ⟨u.heap.size, 0, none⟩) 1 1) (hn : n ≤ 1000) (hbase : base ≤ u.heap.size)
    (h : ∀ v' w', w'.ownsRow base 40 3 v' (n + 1) (qC (qs ++ [q])) → (u.alloc (.cells (qV q).toArray 40)).grownBy w' v.ownBlock → (v'.ownBlock = v.ownBlock ∨ ∃ g, v'.ownBlock = some g ∧ u.heap.size ≤ g) → wpList Try.prog ops Q rest (a.put o.dst v') w') :
    wpList Try.prog ops Q (o :: rest) a (u.alloc (.cells (qV q).toArray 40)) := by
  obtain ⟨i0, hi, hz0, hz1, hz2⟩ := info_parts infoQ
  refine wpList_append_lies _ hgd s x 24 ho base 40 i0 (.agg #[.string ⟨#[]⟩, .int .i64 0, .int .i64 0]) 3 32 Try.underlying24 hi hz0 hz1 hz2 rfl (by decide) v n (qC qs) hs (hown.alloc _) ⟨u.heap.size, 0, none⟩ 1 1 (qV q) hx rfl (fun j y hy => ?_) (fun y hy => qC_one [q] y (by simpa [qC] using hy)) (by decide) (by unfold maxLen; omega) (by omega) (by simp; omega) _ rfl ?_
  · exact World.news_of_block (heap_alloc_new u (.cells (qV q).toArray 40)) j y (by simpa using hy)
  · intro g cap w' h1 h2 h3 h4
    refine h _ w' (by rw [qC_app]; simpa [qC] using h1) h2 ?_
    rcases h3 with h3 | h3
    · exact .inl h3.symm
    · exact .inr ⟨g, rfl, by rw [h3]; simp⟩

/-- What getPart holds: the reader, the row. -/
def PQ (w w' : World) (g : Nat) (s : ByteArray) (p p' : Nat) (b' : Bool) (v : Value) (n : Nat) (qs : List Qn) (k : Nat) : Prop :=
  RD w' g s p' b' ∧ TG g w w' ∧ w'.ownsRow w.heap.size 40 3 v n (qC qs) ∧ n = qs.length ∧ ((b' = false ∧ getAll (getQ s) p k = some (qs, p')) ∨ (b' = true ∧ getAll (getQ s) p k = none))

set_option maxRecDepth 20000 in
set_option maxHeartbeats 1000000 in
theorem getPartQ_r {w : World} {g : Nat} {s : ByteArray} {p : Nat} {b : Bool} (c : Nat) (hc : c < 65536) (hs : s.size ≤ 4096) (h : RD w g s p b) :
    Calls Try.prog 24 #[.pointer (some ⟨g, 0, none⟩), .int .i64 (c : Int), .func (.func 25) #[] #[]] w fun e w' => ∃ (v : Value) (qs : List Qn) (p' : Nat) (b' : Bool), e = .returned v ∧ RD w' g s p' b' ∧ TG g w w' ∧ w'.ownsRow w.heap.size 40 3 v qs.length (qC qs) ∧
      ((b' = false ∧ b = false ∧ part (getQ s) c p = some (qs, p')) ∨ (b' = true ∧ (b = true ∨ part (getQ s) c p = none))) := by
  have hlt := h.1.lt
  obtain ⟨c0, c1, c2⟩ := h.cells
  have f2 := h.1.frozen 2
  have HA : Hid (RD w g s p b) := h
  clear h
  by_cases h64 : 64 < c
  · have h64' : (64 : Int) < (c : Int) := by omega
    have HN : Hid (part (getQ s) c p = none) := by unfold Hid part; rw [if_neg (by omega)]
    obtain ⟨r1, r2⟩ := HA.out.setBad
    have HR : Hid _ := And.intro r1 r2
    clear r1 r2
    go_enter Try.func24, Try.ntmps24
    go_wp2
    go_loopw [7, 8] (fun v i wr => v = .slice none 0 0 ∧ i = .int .i64 0 ∧ wr = w.setCell ⟨g, 2, none⟩ (.bool true)) (fun _ _ _ => 0)
    case atStart => exact ⟨rfl, rfl, rfl⟩
    case round =>
      obtain ⟨rfl, rfl, rfl⟩ := hrel
      have d2 := HR.out.1.cells.2.2
      have h0c : (0 : Int) < (c : Int) := by omega
      go_wp2
      go_ret
      exact ⟨_, [], _, _, rfl, HR.out.1, HR.out.2, World.ownsRow_nil _ _ _ _, .inr ⟨rfl, .inr HN.out⟩⟩
  · have h64' : decide ((64 : Int) < (c : Int)) = false := by simp; omega
    cases b with
    | true =>
      go_enter Try.func24, Try.ntmps24
      go_wp2
      go_loopw [7, 8] (fun v i wr => v = .slice none 0 0 ∧ i = .int .i64 0 ∧ wr = w) (fun _ _ _ => 0)
      case atStart => exact ⟨rfl, rfl, rfl⟩
      case round =>
        obtain ⟨rfl, rfl, rfl⟩ := hrel
        go_wp2
        all_goals
          go_ret
          exact ⟨_, [], _, _, rfl, HA.out, Turn.refl _ _, World.ownsRow_nil _ _ _ _, .inr ⟨rfl, .inl (by trivial)⟩⟩
    | false =>
      have HPQ : Hid (PQ w w g s p p false (.slice none 0 0) 0 [] 0) := ⟨HA.out, Turn.refl _ _, World.ownsRow_nil _ _ _ _, rfl, .inl ⟨rfl, rfl⟩⟩
      have HPT : Hid (part (getQ s) c p = getAll (getQ s) p c) := by unfold Hid part; rw [if_pos (by omega)]
      clear HA
      go_enter Try.func24, Try.ntmps24
      go_wp2
      go_loopw [7, 8] (fun v i wr => ∃ (k n cp p' : Nat) (y : Option Addr) (b' : Bool) (qs : List Qn), k ≤ c ∧ n ≤ k ∧ v = .slice y n cp ∧ i = .int .i64 (k : Int) ∧ Hid (PQ w wr g s p p' b' (.slice y n cp) n qs k)) (fun _ i _ => c - (intOf i).toNat)
      case atStart => exact ⟨0, 0, 0, p, none, false, [], Nat.zero_le _, Nat.le_refl _, rfl, rfl, HPQ⟩
      case round =>
        clear HPQ c0 c1 c2 f2
        obtain ⟨k, n, cp, p', y, b', qs, hk, hn, rfl, rfl, HI⟩ := hrel
        obtain ⟨d0, d1, d2⟩ := HI.out.1.cells
        cases b' with
        | true =>
          have HX : Hid (getAll (getQ s) p c = none) := by
            rcases HI.out.2.2.2.2 with ⟨e, _⟩ | ⟨_, e⟩
            · simp at e
            · exact getAll_none e c hk
          go_wp2
          all_goals
            go_ret
            exact ⟨_, qs, _, _, rfl, HI.out.1, HI.out.2.1, by rw [← HI.out.2.2.2.1]; exact HI.out.2.2.1, .inr ⟨rfl, .inr (by rw [HPT.out]; exact HX.out)⟩⟩
        | false =>
          have HG : Hid (getAll (getQ s) p k = some (qs, p')) := by
            rcases HI.out.2.2.2.2 with ⟨_, e⟩ | ⟨e, _⟩
            · exact e
            · simp at e
          by_cases hkc : k < c
          · have hkc' : (k : Int) < (c : Int) := by omega
            have hn1 : n ≤ 1000 := by omega
            go_wp2_with (first
              | (go_at_call 25; go_must (refine (question_r hs HI.out.1).mono ?_); rintro e w1 ⟨q, p1, b1, rfl, r1, u1, g1⟩; have R1 : Hid (RD w1 g s p1 b1 ∧ TG g w w1 ∧ w1.ownsRow w.heap.size 40 3 (.slice y n cp) n (qC qs) ∧ ((b1 = false ∧ getQ s p' = some (q, p1)) ∨ (b1 = true ∧ getQ s p' = none))) := ⟨r1, HI.out.2.1.same u1, u1.row HI.out.2.2.1 (fun k hk e => (by have := (HI.out.2.2.1.lt k hk).1; omega)), g1⟩; have hsz := R1.out.2.1.size; clear r1 u1 g1)
              | (at_builtin; refine wpList_appQ w1 rfl (.tmp 26) (.tmp 30) rfl w.heap.size (.slice y n cp) n qs q rfl R1.out.2.2.1 rfl hn1 hsz ?_; intro v5 w5 own5 grow5 at5; obtain ⟨y5, k5, rfl⟩ := row_shape own5; have OWN5 : Hid (w5.ownsRow w.heap.size 40 3 (.slice y5 (n + 1) k5) (n + 1) (qC (qs ++ [q]))) := own5; have GROW5 : Hid ((w1.alloc (.cells (qV q).toArray 40)).grownBy w5 (Value.slice y n cp).ownBlock) := grow5; clear own5 grow5 at5))
            go_roundw
            case rel =>
              refine ⟨k + 1, n + 1, k5, p1, y5, b1, qs ++ [q], by omega, by omega, rfl, by go_num, ?_, ?_, OWN5.out, by rw [List.length_append, ← HI.out.2.2.2.1]; rfl, ?_⟩
              · refine ⟨(R1.out.1.1.alloc _).grown GROW5.out (fun e => ?_), R1.out.1.2⟩
                have := (R1.out.2.2.1.lt g e.symm).1
                omega
              · refine (R1.out.2.1.alloc _).trans (S' := fun k => (Value.slice y n cp).ownBlock = some k) (Turn.of_grown GROW5.out (fun _ hk => hk)) (fun i hi => .inr (R1.out.2.2.1.lt i hi).1)
              · rcases R1.out.2.2.2 with ⟨e1, e2⟩ | ⟨e1, e2⟩
                · exact .inl ⟨e1, getAll_next HG.out e2⟩
                · exact .inr ⟨e1, getAll_stop HG.out e2⟩
            case measure => simp [intOf]; omega
          · have hkc' : decide (k < c) = false := by simpa using hkc
            have HKC : Hid (k = c) := by unfold Hid; omega
            go_wp2
            go_ret
            exact ⟨_, qs, _, _, rfl, HI.out.1, HI.out.2.1, by rw [← HI.out.2.2.2.1]; exact HI.out.2.2.1, .inl ⟨rfl, by trivial, by rw [HPT.out, ← HKC.out]; exact HG.out⟩⟩

/-- One record is appended to a row of records that the call owns. -/
theorem wpList_appR (u : World) {ops : Array Oper} {rest : List Oper} {o : Oper} {a : Act} {Q : Exit → Act → World → Prop} (hgd : o.guard = none) (s x : Operand)
    (ho : o.op = .call { callee := .builtin .append, args := #[s, x], argTypes := #[25, 25] }) (base : Nat) (v : Value) (n : Nat) (qs : List Rc) (q : Rc) (hs : a.eval s = v)
    (hown : u.ownsRow base 54 5 v n (rC qs)) (hx : a.eval x = .slice (some ⟨u.heap.size, 0, none⟩) 1 1) (hn : n ≤ 1000) (hbase : base ≤ u.heap.size)
    (h : ∀ v' w', w'.ownsRow base 54 5 v' (n + 1) (rC (qs ++ [q])) → (u.alloc (.cells (rV q).toArray 54)).grownBy w' v.ownBlock → (v'.ownBlock = v.ownBlock ∨ ∃ g, v'.ownBlock = some g ∧ u.heap.size ≤ g) → wpList Try.prog ops Q rest (a.put o.dst v') w') :
    wpList Try.prog ops Q (o :: rest) a (u.alloc (.cells (rV q).toArray 54)) := by
  obtain ⟨i0, hi, hz0, hz1, hz2⟩ := info_parts infoR
  refine wpList_append_lies _ hgd s x 25 ho base 54 i0 (.agg #[.string ⟨#[]⟩, .int .i64 0, .int .i64 0, .int .i64 0, .string ⟨#[]⟩]) 5 56 Try.underlying25 hi hz0 hz1 hz2 rfl (by decide) v n (rC qs) hs (hown.alloc _) ⟨u.heap.size, 0, none⟩ 1 1 (rV q) hx rfl (fun j y hy => ?_) (fun y hy => rC_one [q] y (by simpa [rC] using hy)) (by decide) (by unfold maxLen; omega) (by omega) (by simp; omega) _ rfl ?_
  · exact World.news_of_block (heap_alloc_new u (.cells (rV q).toArray 54)) j y (by simpa using hy)
  · intro g cap w' h1 h2 h3 h4
    refine h _ w' (by rw [rC_app]; simpa [rC] using h1) h2 ?_
    rcases h3 with h3 | h3
    · exact .inl h3.symm
    · exact .inr ⟨g, rfl, by rw [h3]; simp⟩

/-- What getPart holds, of records. -/
def PR (w w' : World) (g : Nat) (s : ByteArray) (p p' : Nat) (b' : Bool) (v : Value) (n : Nat) (qs : List Rc) (k : Nat) : Prop :=
  RD w' g s p' b' ∧ TG g w w' ∧ w'.ownsRow w.heap.size 54 5 v n (rC qs) ∧ n = qs.length ∧ ((b' = false ∧ getAll (getR s) p k = some (qs, p')) ∨ (b' = true ∧ getAll (getR s) p k = none))

set_option maxRecDepth 20000 in
set_option maxHeartbeats 1000000 in
theorem getPartR_r {w : World} {g : Nat} {s : ByteArray} {p : Nat} {b : Bool} (c : Nat) (hc : c < 65536) (hs : s.size ≤ 4096) (h : RD w g s p b) :
    Calls Try.prog 26 #[.pointer (some ⟨g, 0, none⟩), .int .i64 (c : Int), .func (.func 27) #[] #[]] w fun e w' => ∃ (v : Value) (qs : List Rc) (p' : Nat) (b' : Bool), e = .returned v ∧ RD w' g s p' b' ∧ TG g w w' ∧ w'.ownsRow w.heap.size 54 5 v qs.length (rC qs) ∧
      ((b' = false ∧ b = false ∧ part (getR s) c p = some (qs, p')) ∨ (b' = true ∧ (b = true ∨ part (getR s) c p = none))) := by
  have hlt := h.1.lt
  obtain ⟨c0, c1, c2⟩ := h.cells
  have f2 := h.1.frozen 2
  have HA : Hid (RD w g s p b) := h
  clear h
  by_cases h64 : 64 < c
  · have h64' : (64 : Int) < (c : Int) := by omega
    have HN : Hid (part (getR s) c p = none) := by unfold Hid part; rw [if_neg (by omega)]
    obtain ⟨r1, r2⟩ := HA.out.setBad
    have HR : Hid _ := And.intro r1 r2
    clear r1 r2
    go_enter Try.func26, Try.ntmps26
    go_wp2
    go_loopw [7, 8] (fun v i wr => v = .slice none 0 0 ∧ i = .int .i64 0 ∧ wr = w.setCell ⟨g, 2, none⟩ (.bool true)) (fun _ _ _ => 0)
    case atStart => exact ⟨rfl, rfl, rfl⟩
    case round =>
      obtain ⟨rfl, rfl, rfl⟩ := hrel
      have d2 := HR.out.1.cells.2.2
      have h0c : (0 : Int) < (c : Int) := by omega
      go_wp2
      go_ret
      exact ⟨_, [], _, _, rfl, HR.out.1, HR.out.2, World.ownsRow_nil _ _ _ _, .inr ⟨rfl, .inr HN.out⟩⟩
  · have h64' : decide ((64 : Int) < (c : Int)) = false := by simp; omega
    cases b with
    | true =>
      go_enter Try.func26, Try.ntmps26
      go_wp2
      go_loopw [7, 8] (fun v i wr => v = .slice none 0 0 ∧ i = .int .i64 0 ∧ wr = w) (fun _ _ _ => 0)
      case atStart => exact ⟨rfl, rfl, rfl⟩
      case round =>
        obtain ⟨rfl, rfl, rfl⟩ := hrel
        go_wp2
        all_goals
          go_ret
          exact ⟨_, [], _, _, rfl, HA.out, Turn.refl _ _, World.ownsRow_nil _ _ _ _, .inr ⟨rfl, .inl (by trivial)⟩⟩
    | false =>
      have HPR : Hid (PR w w g s p p false (.slice none 0 0) 0 [] 0) := ⟨HA.out, Turn.refl _ _, World.ownsRow_nil _ _ _ _, rfl, .inl ⟨rfl, rfl⟩⟩
      have HPT : Hid (part (getR s) c p = getAll (getR s) p c) := by unfold Hid part; rw [if_pos (by omega)]
      clear HA
      go_enter Try.func26, Try.ntmps26
      go_wp2
      go_loopw [7, 8] (fun v i wr => ∃ (k n cp p' : Nat) (y : Option Addr) (b' : Bool) (qs : List Rc), k ≤ c ∧ n ≤ k ∧ v = .slice y n cp ∧ i = .int .i64 (k : Int) ∧ Hid (PR w wr g s p p' b' (.slice y n cp) n qs k)) (fun _ i _ => c - (intOf i).toNat)
      case atStart => exact ⟨0, 0, 0, p, none, false, [], Nat.zero_le _, Nat.le_refl _, rfl, rfl, HPR⟩
      case round =>
        clear HPR c0 c1 c2 f2
        obtain ⟨k, n, cp, p', y, b', qs, hk, hn, rfl, rfl, HI⟩ := hrel
        obtain ⟨d0, d1, d2⟩ := HI.out.1.cells
        cases b' with
        | true =>
          have HX : Hid (getAll (getR s) p c = none) := by
            rcases HI.out.2.2.2.2 with ⟨e, _⟩ | ⟨_, e⟩
            · simp at e
            · exact getAll_none e c hk
          go_wp2
          all_goals
            go_ret
            exact ⟨_, qs, _, _, rfl, HI.out.1, HI.out.2.1, by rw [← HI.out.2.2.2.1]; exact HI.out.2.2.1, .inr ⟨rfl, .inr (by rw [HPT.out]; exact HX.out)⟩⟩
        | false =>
          have HG : Hid (getAll (getR s) p k = some (qs, p')) := by
            rcases HI.out.2.2.2.2 with ⟨_, e⟩ | ⟨e, _⟩
            · exact e
            · simp at e
          by_cases hkc : k < c
          · have hkc' : (k : Int) < (c : Int) := by omega
            have hn1 : n ≤ 1000 := by omega
            go_wp2_with (first
              | (go_at_call 27; go_must (refine (record_r hs HI.out.1).mono ?_); rintro e w1 ⟨q, p1, b1, rfl, r1, u1, g1⟩; have R1 : Hid (RD w1 g s p1 b1 ∧ TG g w w1 ∧ w1.ownsRow w.heap.size 54 5 (.slice y n cp) n (rC qs) ∧ ((b1 = false ∧ getR s p' = some (q, p1)) ∨ (b1 = true ∧ getR s p' = none))) := ⟨r1, HI.out.2.1.same u1, u1.row HI.out.2.2.1 (fun k hk e => (by have := (HI.out.2.2.1.lt k hk).1; omega)), g1⟩; have hsz := R1.out.2.1.size; clear r1 u1 g1)
              | (at_builtin; refine wpList_appR w1 rfl (.tmp 26) (.tmp 30) rfl w.heap.size (.slice y n cp) n qs q rfl R1.out.2.2.1 rfl hn1 hsz ?_; intro v5 w5 own5 grow5 at5; obtain ⟨y5, k5, rfl⟩ := row_shape own5; have OWN5 : Hid (w5.ownsRow w.heap.size 54 5 (.slice y5 (n + 1) k5) (n + 1) (rC (qs ++ [q]))) := own5; have GROW5 : Hid ((w1.alloc (.cells (rV q).toArray 54)).grownBy w5 (Value.slice y n cp).ownBlock) := grow5; clear own5 grow5 at5))
            go_roundw
            case rel =>
              refine ⟨k + 1, n + 1, k5, p1, y5, b1, qs ++ [q], by omega, by omega, rfl, by go_num, ?_, ?_, OWN5.out, by rw [List.length_append, ← HI.out.2.2.2.1]; rfl, ?_⟩
              · refine ⟨(R1.out.1.1.alloc _).grown GROW5.out (fun e => ?_), R1.out.1.2⟩
                have := (R1.out.2.2.1.lt g e.symm).1
                omega
              · refine (R1.out.2.1.alloc _).trans (S' := fun k => (Value.slice y n cp).ownBlock = some k) (Turn.of_grown GROW5.out (fun _ hk => hk)) (fun i hi => .inr (R1.out.2.2.1.lt i hi).1)
              · rcases R1.out.2.2.2 with ⟨e1, e2⟩ | ⟨e1, e2⟩
                · exact .inl ⟨e1, getAll_next HG.out e2⟩
                · exact .inr ⟨e1, getAll_stop HG.out e2⟩
            case measure => simp [intOf]; omega
          · have hkc' : decide (k < c) = false := by simpa using hkc
            have HKC : Hid (k = c) := by unfold Hid; omega
            go_wp2
            go_ret
            exact ⟨_, qs, _, _, rfl, HI.out.1, HI.out.2.1, by rw [← HI.out.2.2.2.1]; exact HI.out.2.2.1, .inl ⟨rfl, by trivial, by rw [HPT.out, ← HKC.out]; exact HG.out⟩⟩

end Go.Proofs.Ytbffnicfibfceaa

/- What Get of package wire gives. -/
namespace Go.Proofs.Ytbffnicfibfceaa
open Go.RowKit
open Pl

/-- No message. -/
def hdZ : Hd := ⟨0, false, 0, false, false, false, false, 0, 0⟩
def msZ : Ms := ⟨hdZ, [], [], [], []⟩
/-- What Get gives: the message, the number of its error. -/
def gM (s : ByteArray) : Ms := if s.size ≤ 4096 then (getM s).getD msZ else msZ
def gE (s : ByteArray) : Int := if s.size ≤ 4096 then (match getM s with | some _ => 0 | none => 700) else 701
theorem g_long {s : ByteArray} (h : ¬ s.size ≤ 4096) : gM s = msZ ∧ gE s = 701 := by unfold gM gE; rw [if_neg h, if_neg h]; exact ⟨rfl, rfl⟩
theorem g_none {s : ByteArray} (h : s.size ≤ 4096) (hn : getM s = none) : gM s = msZ ∧ gE s = 700 := by unfold gM gE; rw [if_pos h, if_pos h, hn]; exact ⟨rfl, rfl⟩
theorem g_some {s : ByteArray} {m : Ms} (h : s.size ≤ 4096) (hn : getM s = some m) : gM s = m ∧ gE s = 0 := by unfold gM gE; rw [if_pos h, if_pos h, hn]; exact ⟨rfl, rfl⟩

/-- The rows of a message that the call made. -/
structure Own (B : Nat) (w : World) (v0 v1 v2 v3 : Value) (m : Ms) : Prop where
  q : w.ownsRow B 40 3 v0 m.qs.length (qC m.qs)
  an : w.ownsRow B 54 5 v1 m.an.length (rC m.an)
  ns : w.ownsRow B 54 5 v2 m.ns.length (rC m.ns)
  ar : w.ownsRow B 54 5 v3 m.ar.length (rC m.ar)
  d12 : ∀ k, v1.ownBlock = some k → v2.ownBlock ≠ some k
  d13 : ∀ k, v1.ownBlock = some k → v3.ownBlock ≠ some k
  d23 : ∀ k, v2.ownBlock = some k → v3.ownBlock ≠ some k
theorem Own.none (B : Nat) (w : World) : Own B w (.slice none 0 0) (.slice none 0 0) (.slice none 0 0) (.slice none 0 0) msZ :=
  ⟨World.ownsRow_nil _ _ _ _, World.ownsRow_nil _ _ _ _, World.ownsRow_nil _ _ _ _, World.ownsRow_nil _ _ _ _, fun k e => by simp [Value.ownBlock] at e, fun k e => by simp [Value.ownBlock] at e, fun k e => by simp [Value.ownBlock] at e⟩
theorem own_base {w : World} {B B' e z n : Nat} {v : Value} {xs : List Value} (h : w.ownsRow B e z v n xs) (hB : B' ≤ B) : w.ownsRow B' e z v n xs := by
  refine ⟨h.1, ?_⟩
  rcases h.2 with h1 | ⟨g, cap, cur, h1, h2, rest⟩
  · exact .inl h1
  · exact .inr ⟨g, cap, cur, h1, Nat.le_trans hB h2, rest⟩
theorem own_past {w w' : World} {B e z n : Nat} {v : Value} {xs : List Value} (h : w.ownsRow B e z v n xs) (hb : Below w.heap.size w w') : w'.ownsRow B e z v n xs := Turn.row (S := fun _ => False) (Turn.of_below hb) h (fun _ _ => id)
theorem Own.below {B : Nat} {w w' : World} {v0 v1 v2 v3 : Value} {m : Ms} (h : Own B w v0 v1 v2 v3 m) (hb : Below w.heap.size w w') : Own B w' v0 v1 v2 v3 m :=
  ⟨own_past h.q hb, own_past h.an hb, own_past h.ns hb, own_past h.ar hb, h.d12, h.d13, h.d23⟩

/-- What Get holds: the result, the counts, the reader, the message. -/
structure GA (w w' : World) (g gc gm : Nat) (s : ByteArray) (p : Nat) (b : Bool) (C M : Array Value) : Prop where
  rd : RD w' g s p b
  bel : Below w.heap.size w w'
  res : Blk w' w.heap.size (msgC hdZ (.slice none 0 0) (.slice none 0 0) (.slice none 0 0) (.slice none 0 0)) 27
  cnt : Blk w' gc C 48
  msg : Blk w' gm M 27
  n1 : w.heap.size < gc
  n2 : gc < g
  n3 : g < gm
  n4 : gm < w'.heap.size
section
variable {w w' w'' : World} {g gc gm : Nat} {s : ByteArray} {p p' : Nat} {b b' : Bool} {C M : Array Value}
theorem GA.step (j : GA w w' g gc gm s p b C M) (hr : RD w'' g s p' b') (ht : TG g w' w'') : GA w w'' g gc gm s p' b' C M :=
  ⟨hr, Turn.below j.bel ht j.bel.size (fun i e => by subst e; have := j.n1; have := j.n2; omega), ht.blk j.res (by have := j.n1; have := j.n2; omega), ht.blk j.cnt (by have := j.n2; omega), ht.blk j.msg (by have := j.n3; omega), j.n1, j.n2, j.n3, Nat.lt_of_lt_of_le j.n4 ht.size⟩
theorem GA.put (j : GA w w' g gc gm s p b C M) (i : Nat) (v : Value) (M' : Array Value) (hM : M.setIfInBounds i v = M') : GA w (w'.setCell ⟨gm, i, none⟩ v) g gc gm s p b C M' :=
  ⟨j.rd.other (by have := j.n3; omega) i v, j.bel.setCell (by have := j.n1; have := j.n2; have := j.n3; show w.heap.size ≤ gm; omega) v, j.res.other (by have := j.n1; have := j.n2; have := j.n3; omega) i v, j.cnt.other (by have := j.n2; have := j.n3; omega) i v, by rw [← hM]; exact j.msg.set i v, j.n1, j.n2, j.n3, by simpa using j.n4⟩
theorem row_put {w : World} {gm B e z n : Nat} {v : Value} {xs : List Value} (h : w.ownsRow B e z v n xs) (hB : gm < B) (i : Nat) (x : Value) : (w.setCell ⟨gm, i, none⟩ x).ownsRow B e z v n xs :=
  Turn.row (S := fun k => k = gm) (Turn.of_set (S := fun k => k = gm) w (p := ⟨gm, i, none⟩) rfl x) h (fun k hk e => by have := (h.lt k hk).1; omega)
theorem row_step {w w' : World} {g B e z n : Nat} {v : Value} {xs : List Value} (h : w.ownsRow B e z v n xs) (hB : g < B) (ht : TG g w w') : w'.ownsRow B e z v n xs := ht.row h (fun k hk e => by have := (h.lt k hk).1; omega)
end

theorem parts_fin {s : ByteArray} {qs : List Qn} {an ns ar : List Rc} {p0 p1 p2 p3 : Nat} {b0 b1 b2 b3 : Bool}
    (h0 : (b0 = false ∧ false = false ∧ part (getQ s) (cnt s 0) 12 = some (qs, p0)) ∨ (b0 = true ∧ (false = true ∨ part (getQ s) (cnt s 0) 12 = none)))
    (h1 : (b1 = false ∧ b0 = false ∧ part (getR s) (cnt s 1) p0 = some (an, p1)) ∨ (b1 = true ∧ (b0 = true ∨ part (getR s) (cnt s 1) p0 = none)))
    (h2 : (b2 = false ∧ b1 = false ∧ part (getR s) (cnt s 2) p1 = some (ns, p2)) ∨ (b2 = true ∧ (b1 = true ∨ part (getR s) (cnt s 2) p1 = none)))
    (h3 : (b3 = false ∧ b2 = false ∧ part (getR s) (cnt s 3) p2 = some (ar, p3)) ∨ (b3 = true ∧ (b2 = true ∨ part (getR s) (cnt s 3) p2 = none))) :
    (b3 = false ∧ parts s = some ((qs, an, ns, ar), p3)) ∨ (b3 = true ∧ parts s = none) := by
  unfold parts
  rcases h0 with ⟨rfl, _, h0⟩ | ⟨rfl, h0⟩
  · rw [h0]
    simp only
    rcases h1 with ⟨rfl, _, h1⟩ | ⟨rfl, h1⟩
    · rw [h1]
      simp only
      rcases h2 with ⟨rfl, _, h2⟩ | ⟨rfl, h2⟩
      · rw [h2]
        simp only
        rcases h3 with ⟨rfl, _, h3⟩ | ⟨rfl, h3⟩
        · rw [h3]; exact .inl ⟨rfl, rfl⟩
        · rcases h3 with h3 | h3
          · simp at h3
          · rw [h3]; exact .inr ⟨rfl, rfl⟩
      · rcases h2 with h2 | h2
        · simp at h2
        · rw [h2]
          rcases h3 with ⟨_, e, _⟩ | ⟨e, _⟩
          · simp at e
          · exact .inr ⟨e, rfl⟩
    · rcases h1 with h1 | h1
      · simp at h1
      · rw [h1]
        rcases h2 with ⟨_, e, _⟩ | ⟨rfl, _⟩
        · simp at e
        · rcases h3 with ⟨_, e, _⟩ | ⟨e, _⟩
          · simp at e
          · exact .inr ⟨e, rfl⟩
  · rcases h0 with h0 | h0
    · simp at h0
    · rw [h0]
      rcases h1 with ⟨_, e, _⟩ | ⟨rfl, _⟩
      · simp at e
      · rcases h2 with ⟨_, e, _⟩ | ⟨rfl, _⟩
        · simp at e
        · rcases h3 with ⟨_, e, _⟩ | ⟨e, _⟩
          · simp at e
          · exact .inr ⟨e, rfl⟩
theorem cnt_int (s : ByteArray) (i : Nat) : val s (4 + 2 * i) 2 = (cnt s i : Int) := by
  have := val_lt s (4 + 2 * i) 2
  unfold cnt; omega
theorem cnt_lt (s : ByteArray) (i : Nat) : cnt s i < 65536 := by
  have := val_lt s (4 + 2 * i) 2
  unfold cnt; omega
theorem cntC_as (s : ByteArray) : cntC s 4 = cntV (cnt s 0 : Int) (cnt s 1 : Int) (cnt s 2 : Int) (cnt s 3 : Int) := by
  rw [← cnt_int, ← cnt_int, ← cnt_int, ← cnt_int]; rfl
theorem headW_as (s : ByteArray) : headW (val s 0 2) (val s 2 2) = headV (hdOf s).id (hdOf s).qr (hdOf s).op (hdOf s).aa (hdOf s).tc (hdOf s).rd (hdOf s).ra (hdOf s).z (hdOf s).rc := rfl

/-- What is left where no message is given. -/
theorem blk13 {w : World} {g : Nat} {h : Hd} {v0 v1 v2 v3 : Value} {t : TypeId} (k : Blk w g (msgC h v0 v1 v2 v3) t) :
    w.cell? ⟨g, 0, none⟩ = some (.int .i64 h.id) ∧ w.cell? ⟨g, 1, none⟩ = some (.bool h.qr) ∧ w.cell? ⟨g, 2, none⟩ = some (.int .i64 h.op) ∧ w.cell? ⟨g, 3, none⟩ = some (.bool h.aa) ∧ w.cell? ⟨g, 4, none⟩ = some (.bool h.tc) ∧ w.cell? ⟨g, 5, none⟩ = some (.bool h.rd) ∧ w.cell? ⟨g, 6, none⟩ = some (.bool h.ra) ∧ w.cell? ⟨g, 7, none⟩ = some (.int .i64 h.z) ∧ w.cell? ⟨g, 8, none⟩ = some (.int .i64 h.rc) ∧
    w.cell? ⟨g, 9, none⟩ = some v0 ∧ w.cell? ⟨g, 10, none⟩ = some v1 ∧ w.cell? ⟨g, 11, none⟩ = some v2 ∧ w.cell? ⟨g, 12, none⟩ = some v3 :=
  ⟨k.cell 0, k.cell 1, k.cell 2, k.cell 3, k.cell 4, k.cell 5, k.cell 6, k.cell 7, k.cell 8, k.cell 9, k.cell 10, k.cell 11, k.cell 12⟩
theorem open13 {w : World} {g : Nat} {C : Array Value} {t : TypeId} (k : Blk w g C t) :
    w.frozen? ⟨g, 0, none⟩ = false ∧ w.frozen? ⟨g, 1, none⟩ = false ∧ w.frozen? ⟨g, 2, none⟩ = false ∧ w.frozen? ⟨g, 3, none⟩ = false ∧ w.frozen? ⟨g, 4, none⟩ = false ∧ w.frozen? ⟨g, 5, none⟩ = false ∧ w.frozen? ⟨g, 6, none⟩ = false ∧ w.frozen? ⟨g, 7, none⟩ = false ∧ w.frozen? ⟨g, 8, none⟩ = false ∧ w.frozen? ⟨g, 9, none⟩ = false ∧ w.frozen? ⟨g, 10, none⟩ = false ∧ w.frozen? ⟨g, 11, none⟩ = false ∧ w.frozen? ⟨g, 12, none⟩ = false :=
  ⟨k.frozen 0, k.frozen 1, k.frozen 2, k.frozen 3, k.frozen 4, k.frozen 5, k.frozen 6, k.frozen 7, k.frozen 8, k.frozen 9, k.frozen 10, k.frozen 11, k.frozen 12⟩

/-- Thirteen cells are stored. -/
def set13 (w : World) (g : Nat) (h : Hd) (v0 v1 v2 v3 : Value) : World :=
  ((((((((((((w.setCell ⟨g, 0, none⟩ (.int .i64 h.id)).setCell ⟨g, 1, none⟩ (.bool h.qr)).setCell ⟨g, 2, none⟩ (.int .i64 h.op)).setCell ⟨g, 3, none⟩ (.bool h.aa)).setCell ⟨g, 4, none⟩ (.bool h.tc)).setCell ⟨g, 5, none⟩ (.bool h.rd)).setCell ⟨g, 6, none⟩ (.bool h.ra)).setCell ⟨g, 7, none⟩ (.int .i64 h.z)).setCell ⟨g, 8, none⟩ (.int .i64 h.rc)).setCell ⟨g, 9, none⟩ v0).setCell ⟨g, 10, none⟩ v1).setCell ⟨g, 11, none⟩ v2).setCell ⟨g, 12, none⟩ v3
theorem set13_blk {w : World} {g : Nat} {h h' : Hd} {v0 v1 v2 v3 u0 u1 u2 u3 : Value} {t : TypeId} (k : Blk w g (msgC h' u0 u1 u2 u3) t) : Blk (set13 w g h v0 v1 v2 v3) g (msgC h v0 v1 v2 v3) t := by
  have k0 : Blk _ g (msgC ⟨h.id, h'.qr, h'.op, h'.aa, h'.tc, h'.rd, h'.ra, h'.z, h'.rc⟩ u0 u1 u2 u3) t := k.set 0 (.int .i64 h.id)
  have k1 : Blk _ g (msgC ⟨h.id, h.qr, h'.op, h'.aa, h'.tc, h'.rd, h'.ra, h'.z, h'.rc⟩ u0 u1 u2 u3) t := k0.set 1 (.bool h.qr)
  have k2 : Blk _ g (msgC ⟨h.id, h.qr, h.op, h'.aa, h'.tc, h'.rd, h'.ra, h'.z, h'.rc⟩ u0 u1 u2 u3) t := k1.set 2 (.int .i64 h.op)
  have k3 : Blk _ g (msgC ⟨h.id, h.qr, h.op, h.aa, h'.tc, h'.rd, h'.ra, h'.z, h'.rc⟩ u0 u1 u2 u3) t := k2.set 3 (.bool h.aa)
  have k4 : Blk _ g (msgC ⟨h.id, h.qr, h.op, h.aa, h.tc, h'.rd, h'.ra, h'.z, h'.rc⟩ u0 u1 u2 u3) t := k3.set 4 (.bool h.tc)
  have k5 : Blk _ g (msgC ⟨h.id, h.qr, h.op, h.aa, h.tc, h.rd, h'.ra, h'.z, h'.rc⟩ u0 u1 u2 u3) t := k4.set 5 (.bool h.rd)
  have k6 : Blk _ g (msgC ⟨h.id, h.qr, h.op, h.aa, h.tc, h.rd, h.ra, h'.z, h'.rc⟩ u0 u1 u2 u3) t := k5.set 6 (.bool h.ra)
  have k7 : Blk _ g (msgC ⟨h.id, h.qr, h.op, h.aa, h.tc, h.rd, h.ra, h.z, h'.rc⟩ u0 u1 u2 u3) t := k6.set 7 (.int .i64 h.z)
  have k8 : Blk _ g (msgC ⟨h.id, h.qr, h.op, h.aa, h.tc, h.rd, h.ra, h.z, h.rc⟩ u0 u1 u2 u3) t := k7.set 8 (.int .i64 h.rc)
  have k9 : Blk _ g (msgC ⟨h.id, h.qr, h.op, h.aa, h.tc, h.rd, h.ra, h.z, h.rc⟩ v0 u1 u2 u3) t := k8.set 9 v0
  have k10 : Blk _ g (msgC ⟨h.id, h.qr, h.op, h.aa, h.tc, h.rd, h.ra, h.z, h.rc⟩ v0 v1 u2 u3) t := k9.set 10 v1
  have k11 : Blk _ g (msgC ⟨h.id, h.qr, h.op, h.aa, h.tc, h.rd, h.ra, h.z, h.rc⟩ v0 v1 v2 u3) t := k10.set 11 v2
  have k12 : Blk _ g (msgC ⟨h.id, h.qr, h.op, h.aa, h.tc, h.rd, h.ra, h.z, h.rc⟩ v0 v1 v2 v3) t := k11.set 12 v3
  exact k12
theorem set13_turn (w : World) (g : Nat) (h : Hd) (v0 v1 v2 v3 : Value) : Turn (fun k => k = g) w (set13 w g h v0 v1 v2 v3) := by
  have T : ∀ (u : World) (i : Nat) (v : Value), Turn (fun k => k = g) u (u.setCell ⟨g, i, none⟩ v) := fun u i v => Turn.of_set (S := fun k => k = g) u (p := ⟨g, i, none⟩) rfl v
  unfold set13
  exact ((((((((((((T _ _ _).same (T _ _ _)).same (T _ _ _)).same (T _ _ _)).same (T _ _ _)).same (T _ _ _)).same (T _ _ _)).same (T _ _ _)).same (T _ _ _)).same (T _ _ _)).same (T _ _ _)).same (T _ _ _)).same (T _ _ _)

end Go.Proofs.Ytbffnicfibfceaa

/- What Get of package wire gives: the walk. -/
namespace Go.Proofs.Ytbffnicfibfceaa
open Go.RowKit
open Pl

/-- What Get leaves. -/
def GetP (s : ByteArray) (w : World) (e : Ending) (w' : World) : Prop := ∃ v0 v1 v2 v3, e = .returned (.tuple #[.agg (msgC (gM s).h v0 v1 v2 v3), .int .i64 (gE s)]) ∧ Own w.heap.size w' v0 v1 v2 v3 (gM s) ∧ Below w.heap.size w w'
theorem getP_no {s : ByteArray} {w w' : World} {E : Int} (h : gM s = msZ ∧ gE s = E) (hb : Below w.heap.size w w') : GetP s w (.returned (.tuple #[.agg (msgC hdZ (.slice none 0 0) (.slice none 0 0) (.slice none 0 0) (.slice none 0 0)), .int .i64 E])) w' := by
  unfold GetP
  rw [h.1, h.2]
  exact ⟨_, _, _, _, rfl, Own.none _ _, hb⟩
theorem zeroed {w u : World} (hb : Below w.heap.size w u) (k : Blk u w.heap.size (msgC hdZ (.slice none 0 0) (.slice none 0 0) (.slice none 0 0) (.slice none 0 0)) 27) :
    Below w.heap.size w (set13 u w.heap.size hdZ (.slice none 0 0) (.slice none 0 0) (.slice none 0 0) (.slice none 0 0)) ∧ Blk (set13 u w.heap.size hdZ (.slice none 0 0) (.slice none 0 0) (.slice none 0 0) (.slice none 0 0)) w.heap.size (msgC hdZ (.slice none 0 0) (.slice none 0 0) (.slice none 0 0) (.slice none 0 0)) 27 :=
  ⟨Turn.below hb (set13_turn _ _ _ _ _ _ _) hb.size (fun i e => by omega), set13_blk k⟩

set_option maxRecDepth 20000 in
set_option maxHeartbeats 1000000 in
theorem get_long (s : ByteArray) (w : World) (_hs : s.size ≤ maxLen) (hl : ¬ s.size ≤ 4096) :
    Calls Try.prog 11 #[.string s] w (GetP s w) := by
  have hl' : (4096 : Int) < (s.size : Int) := by omega
  have HG : Hid (gM s = msZ ∧ gE s = 701) := g_long hl
  have qb : Below w.heap.size w _ := lay (Below.refl _ _) (.cells (msgC hdZ (.slice none 0 0) (.slice none 0 0) (.slice none 0 0) (.slice none 0 0)) 27)
  unfold maxLen at _hs
  go_enter Try.func11, Try.ntmps11
  go_wp2
  refine bodyPost_ret (v := .tuple #[.agg (msgC hdZ (.slice none 0 0) (.slice none 0 0) (.slice none 0 0) (.slice none 0 0)), .int .i64 701]) (by simp [results, Try.results11, go_sem, msgC, hdZ]) rfl (getP_no HG.out qb)

theorem get_short {s : ByteArray} (h : s.size < 12) : getM s = none := by unfold getM; rw [if_neg (by omega)]

set_option maxRecDepth 20000 in
set_option maxHeartbeats 1000000 in
theorem get_few12 (s : ByteArray) (w : World) (hl : s.size < 12) :
    Calls Try.prog 11 #[.string s] w (GetP s w) := by
  have hs : s.size ≤ maxLen := by unfold maxLen; omega
  have hl' : decide ((4096 : Int) < (s.size : Int)) = false := by simp; omega
  have HG : Hid (gM s = msZ ∧ gE s = 700) := g_none (by omega) (get_short hl)
  have kz := Blk.new w (msgC hdZ (.slice none 0 0) (.slice none 0 0) (.slice none 0 0) (.slice none 0 0)) 27
  have kb : Below w.heap.size w _ := lay (Below.refl _ _) (.cells (msgC hdZ (.slice none 0 0) (.slice none 0 0) (.slice none 0 0) (.slice none 0 0)) 27)
  have hcall := fun u => get_no s u hs hl
  unfold headZ headV cntV at hcall
  go_enter Try.func11, Try.ntmps11
  go_wp2_with (go_at_call 23; go_must (refine (hcall _).mono ?_); rintro e w1 ⟨rfl, b1⟩; replace kz := kz.below b1; replace kb := next kb b1; obtain ⟨f0, f1, f2, f3, f4, f5, f6, f7, f8, f9, f10, f11, f12⟩ := open13 kz; obtain ⟨z0, z1, z2, z3, z4, z5, z6, z7, z8, z9, z10, z11, z12⟩ := blk13 kz; have klt := kz.lt; clear b1)
  obtain ⟨qb, q⟩ := zeroed kb kz
  unfold set13 hdZ at qb q
  simp only at qb q
  revert qb q
  generalize (((((((((((((w1.setCell ⟨w.heap.size, 0, none⟩ (.int .i64 0)).setCell ⟨w.heap.size, 1, none⟩ (.bool false)).setCell ⟨w.heap.size, 2, none⟩ (.int .i64 0)).setCell ⟨w.heap.size, 3, none⟩ (.bool false)).setCell ⟨w.heap.size, 4, none⟩ (.bool false)).setCell ⟨w.heap.size, 5, none⟩ (.bool false)).setCell ⟨w.heap.size, 6, none⟩ (.bool false)).setCell ⟨w.heap.size, 7, none⟩ (.int .i64 0)).setCell ⟨w.heap.size, 8, none⟩ (.int .i64 0)).setCell ⟨w.heap.size, 9, none⟩ (.slice none 0 0)).setCell ⟨w.heap.size, 10, none⟩ (.slice none 0 0)).setCell ⟨w.heap.size, 11, none⟩ (.slice none 0 0)).setCell ⟨w.heap.size, 12, none⟩ (.slice none 0 0)) = V
  intro qb q
  replace q := (q.alloc (.cells #[.int .i64 0, .bool false, .int .i64 0, .bool false, .bool false, .bool false, .bool false, .int .i64 0, .int .i64 0] 23)).alloc (.cells #[.int .i64 0, .int .i64 0, .int .i64 0, .int .i64 0] 48)
  replace qb := lay (lay qb (.cells #[.int .i64 0, .bool false, .int .i64 0, .bool false, .bool false, .bool false, .bool false, .int .i64 0, .int .i64 0] 23)) (.cells #[.int .i64 0, .int .i64 0, .int .i64 0, .int .i64 0] 48)
  obtain ⟨m0, m1, m2, m3, m4, m5, m6, m7, m8, m9, m10, m11, m12⟩ := blk13 q
  refine bodyPost_ret (v := .tuple #[.agg (msgC hdZ (.slice none 0 0) (.slice none 0 0) (.slice none 0 0) (.slice none 0 0)), .int .i64 700]) (by simp [results, Try.results11, go_sem, msgC, hdZ, m0, m1, m2, m3, m4, m5, m6, m7, m8, m9, m10, m11, m12]) rfl (getP_no HG.out qb)

end Go.Proofs.Ytbffnicfibfceaa
