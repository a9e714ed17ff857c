/- Writers and names: plain facts for the laws. -/
import Derived.Test.YtdogjbblnjjaaabWalkV
namespace Go.Proofs.Ytdogjbblnjjaaab
open Go.RowKit
open Pl

theorem bel_same {P : Program} {f : FuncId} {args : Array Value} {w : World} {n : Bel w} {v : Value}
    (h : Calls P f args n.to fun e w' => e = .returned v ∧ w' = n.to) : Calls P f args n.to fun e w'' => e = .returned v ∧ ∃ m : Bel w, w'' = m.to :=
  h.mono fun _ _ ⟨he, hw⟩ => ⟨he, n, hw⟩

/-- Where the root ends a name, all of it is written out. -/
theorem spl_root {n : List UInt8} {E : Nat} (hn : NAt n E) (h : E < n.length) (h0 : n[E].toNat = 0) : E + 1 = n.length ∧ n.take E ++ [0] = n := by
  refine ⟨nat_zero hn h h0, ?_⟩
  rw [← nat_root hn h h0, List.take_append_drop]
/-- A name in which nothing stands that was written before. -/
theorem spl_fresh {n : List UInt8} (h : isName n = true) : splN [] n = (n.length - 1, [0]) := by
  rcases splN_end h [] with ⟨hl, h0, h2⟩ | ⟨q, hq, _⟩
  · have := (spl_root (splN_at h []) hl h0).1
    exact Prod.ext (by simp only; omega) h2
  · simp [plc] at hq
theorem siz_fresh {n : List UInt8} (h : isName n = true) : sizW [] n = n.length := by
  have := name_ne h
  unfold sizW; rw [spl_fresh h]; simp; omega
theorem out_fresh {n : List UInt8} (h : isName n = true) (B : List UInt8) : outW B [] n = B ++ n := by
  have h1 := spl_fresh h
  rcases splN_end h [] with ⟨hl, h0, h2⟩ | ⟨q, hq, _⟩
  · have := (spl_root (splN_at h []) hl h0).2
    unfold outW
    rw [h2, this]
  · simp [plc] at hq

/-- Bytes of nought. -/
def zerosB (n : Nat) : ByteArray := ⟨(List.replicate n (0 : UInt8)).toArray⟩
theorem zerosB_size (n : Nat) : (zerosB n).size = n := by unfold zerosB; rw [toArr_size]; simp
theorem zeros_row {w : World} {base n : Nat} {v : Value} (h : w.ownsRow base 5 1 v n (madeCells (Value.int .u8 0).cells (n * 1)).toList) : w.ownsRow base 5 1 v n ((zerosB n).data.toList.map bv) := by
  rw [Nat.mul_one, show (Value.int .u8 0).cells = #[.int .u8 0] from rfl, made_zero] at h
  simpa [zerosB] using h

theorem refMay_at (s : ByteArray) (b : Bool) (w : World) (hs : s.size ≤ maxLen) (h : isName s.data.toList = b) :
    Calls Try.prog 5 #[.string s] w fun e w' => e = .returned (.bool b) ∧ Below w.heap.size w w' := by rw [← h]; exact refMay_any s w hs

/-- What a Writer's Name answers, where it is known what it leaves. -/
theorem nam_fresh {B n : List UInt8} (h : isName n = true) (hf : B.length + n.length ≤ 4096) : namE B [] n = 0 ∧ namB B [] n = B ++ n := by
  obtain ⟨h1, h2, _⟩ := nam_yes (B := B) (ms := []) h (by rw [siz_fresh h]; exact hf)
  exact ⟨h1, by rw [h2, out_fresh h]⟩
theorem nam_full {B n : List UInt8} (h : isName n = true) (hf : ¬ B.length + n.length ≤ 4096) : namE B [] n = 501 ∧ namB B [] n = B := by
  obtain ⟨h1, h2, _⟩ := nam_long (B := B) (ms := []) h (by rw [siz_fresh h]; exact hf)
  exact ⟨h1, h2⟩

/-- A name that was written before, and is not the root, is a pointer. -/
theorem spl_hit {ms : Marks} {n : List UInt8} {q : Nat} (hn : isName n = true) (h1 : n ≠ [0]) (h : plc ms n = some q) : splN ms n = (0, ptrB q) := by
  have hl := name_ne hn
  have h0 : n[0].toNat ≠ 0 := fun e => h1 (by have := nat_root (nat_start hn) hl e; simpa using this)
  exact (w_hit (w_start hn ms) hl h0 (by simpa using h)).1
theorem nam_hit {B : List UInt8} {ms : Marks} {n : List UInt8} {q : Nat} (hn : isName n = true) (h1 : n ≠ [0]) (h : plc ms n = some q) (hf : B.length + 2 ≤ 4096) : namE B ms n = 0 ∧ namB B ms n = B ++ ptrB q ∧ namM B ms n = ms := by
  have hs := spl_hit hn h1 h
  obtain ⟨a, b, c⟩ := nam_yes (B := B) (ms := ms) hn (by unfold sizW; rw [hs]; simpa [ptrB] using hf)
  refine ⟨a, by rw [b]; unfold outW; rw [hs]; simp, ?_⟩
  rw [c]
  unfold marW newM
  rw [hs, sts_end _ _ (Nat.le_refl _)]
  simp [mkM]
theorem nam_root {B : List UInt8} {ms : Marks} (hf : B.length + 1 ≤ 4096) : namE B ms [0] = 0 ∧ namB B ms [0] = B ++ [0] ∧ namM B ms [0] = ms := by
  have hn : isName [0] = true := by decide
  have hs : splN ms [0] = (0, [0]) := (w_zero (w_start hn ms) (by decide) (by decide)).1
  obtain ⟨a, b, c⟩ := nam_yes (B := B) (ms := ms) hn (by unfold sizW; rw [hs]; exact hf)
  refine ⟨a, by rw [b]; unfold outW; rw [hs]; simp, ?_⟩
  rw [c]
  unfold marW newM
  rw [hs, sts_end _ _ (Nat.le_refl _)]
  simp [mkM]

section
variable {e : List UInt8} (a c : UInt8)
theorem share_name (he : isName e = true) (h2 : e.length ≤ 200) : isName (2 :: c :: a :: e) = true := by
  have hl : Labs [2, c, a] := labs_lab (by decide) (by decide) rfl
  have := hl e
  unfold isName nm
  rw [if_neg (by simp; omega)]
  show (nmS 0 ([2, c, a] ++ e)).isSome = true
  rw [this]
  exact (name_some he).2
theorem share_len (he : isName e = true) (h1 : e ≠ [0]) : 3 ≤ e.length := by
  have hl := name_ne he
  have h0 : e[0].toNat ≠ 0 := fun h => h1 (by have := nat_root (nat_start he) hl h; simpa using this)
  have := nat_step (nat_start he) hl h0
  omega
theorem share_first (he : isName e = true) (h1 : e ≠ [0]) (h2 : e.length ≤ 200) (d : UInt8) (hd : d ≠ c) (b : UInt8) : plc (newM 0 (2 :: c :: a :: e) (splN [] (2 :: c :: a :: e)).1) (2 :: d :: b :: e) = none ∧ plc (newM 0 (2 :: c :: a :: e) (splN [] (2 :: c :: a :: e)).1) e = some 3 := by
  have hn := share_name a c he h2
  have h3 := share_len he h1
  rw [spl_fresh hn]
  obtain ⟨E, hE⟩ : ∃ E, E = (2 :: c :: a :: e).length - 1 := ⟨_, rfl⟩
  have hE5 : 5 ≤ E := by rw [hE]; simp; omega
  have hs : sts (2 :: c :: a :: e).length (2 :: c :: a :: e) 0 E = 0 :: 3 :: sts (e.length + 1) (2 :: c :: a :: e) (3 + 1 + ((2 :: c :: a :: e).getD 3 0).toNat) E := by
    show sts (e.length + 1 + 1 + 1) _ 0 E = _
    rw [sts, if_pos (by omega)]
    have e1 : 0 + 1 + ((2 :: c :: a :: e).getD 0 0).toNat = 3 := rfl
    rw [e1, sts, if_pos (by omega)]
  simp only [← hE]
  unfold newM
  rw [hs]
  have hne : ∀ x : List UInt8, x.length ≤ e.length → x ≠ 2 :: d :: b :: e := fun x hx h => by have := congrArg List.length h; simp at this; omega
  constructor
  · apply plc_none
    intro q hq
    simp only [mkM, List.mem_map, Prod.mk.injEq] at hq
    obtain ⟨p, hp, hq, _⟩ := hq
    rcases List.mem_cons.1 hp with rfl | hp
    · simp at hq; exact hd hq.1.symm
    · have hp3 : 3 ≤ p := by
        rcases List.mem_cons.1 hp with rfl | hp
        · exact Nat.le_refl _
        · have hge : ∀ (f : Nat) (n : List UInt8) (p0 e : Nat), ∀ x ∈ sts f n p0 e, p0 ≤ x := by
            intro f
            induction f with
            | zero => intro n p0 e x hx; simp [sts] at hx
            | succ f ih =>
              intro n p0 e x hx
              rw [sts] at hx
              split at hx
              · rcases List.mem_cons.1 hx with rfl | hx
                · exact Nat.le_refl _
                · have := ih _ _ _ _ hx; omega
              · simp at hx
          have := hge _ _ _ _ p hp
          omega
      exact hne _ (by rw [List.length_drop]; simp; omega) hq
  · unfold mkM
    rw [List.map_cons, List.map_cons, plc, if_neg (fun h => by have := congrArg List.length h; simp at this; omega), plc, if_pos (by simp)]
theorem share_second (he : isName e = true) (h1 : e ≠ [0]) (h2 : e.length ≤ 200) (d b : UInt8) (ms : Marks) (hp : plc ms (2 :: d :: b :: e) = none) (h3 : plc ms e = some 3) : splN ms (2 :: d :: b :: e) = (3, ptrB 3) := by
  have hn := share_name b d he h2
  have w0 := w_start hn ms
  have w1 := (w_miss w0 (by simp) (by show ¬ ((2 : UInt8).toNat = 0); decide) (by simpa using hp)).1
  have e1 : 0 + 1 + ((2 :: d :: b :: e)[0]).toNat = 3 := rfl
  rw [e1] at w1
  have hl := name_ne he
  have h0 : e[0].toNat ≠ 0 := fun h => h1 (by have := nat_root (nat_start he) hl h; simpa using this)
  exact (w_hit w1 (by simp; omega) (by simpa using h0) (by simpa using h3)).1
end

theorem all_k {w0 w : World} {g : Nat} {B : List UInt8} {ms : Marks} {F : ByteArray} (h : Holds w0 w g B ms) (hF : F.data.toList = B) :
    Calls Try.prog 24 #[.pointer (some ⟨g, 0, none⟩)] w fun e w' => e = .returned (.string F) ∧ w' = w := by
  subst hF; exact all_h h


end Go.Proofs.Ytdogjbblnjjaaab
