/- What walk, target, pointer and Name of package comp give, for every argument. -/
import Derived.Test.YtdogjbblnjjaaabRdB
import Derived.Test.YtdogjbblnjjaaabCpB
import Derived.Lib.AppendStr
namespace Go.Proofs.Ytdogjbblnjjaaab
open Go.RowKit
open Pl

theorem max_of {n : Nat} (h : n ≤ 140737488355328) : n ≤ maxLen := by unfold maxLen; omega

/-- What is known while labels are gone over, at q. -/
def WkI (l : List UInt8) (p g : Nat) (o : List UInt8) (x : Option Nat) (R : Option (List UInt8 × Nat)) (q : Nat) : Prop :=
  (q < l.length → RAt l q g (o ++ (l.drop p).take (q - p)) x R ∧ Labs (o ++ (l.drop p).take (q - p))) ∧ (l.length ≤ q → R = none)
/-- What walk leaves. -/
def WkP (l : List UInt8) (p g : Nat) (o : List UInt8) (x : Option Nat) (R : Option (List UInt8 × Nat)) (E : Int) (b : Bool) : Prop :=
  (b = false → R = none) ∧ (b = true → ∃ (q : Nat) (h : q < l.length), E = (q : Int) ∧ p ≤ q ∧ RAt l q g (o ++ (l.drop p).take (q - p)) x R ∧ Labs (o ++ (l.drop p).take (q - p)) ∧ o.length + (q - p) ≤ 254 ∧ (l[q].toNat = 0 ∨ 63 < l[q].toNat))

/-- What walk gives. -/
def WkE (l : List UInt8) (p g : Nat) (o : List UInt8) (x : Option Nat) (R : Option (List UInt8 × Nat)) (e : Ending) : Prop :=
  ∃ (E : Int) (b : Bool), e = .returned (.tuple #[.int .i64 E, .bool b]) ∧ WkP l p g o x R E b

theorem wk_start {l : List UInt8} {p g : Nat} {o : List UInt8} {x : Option Nat} {R : Option (List UInt8 × Nat)} (h : RAt l p g o x R) (ho : Labs o) : WkI l p g o x R p := by
  refine ⟨fun _ => ?_, fun hp => r_past h hp⟩
  rw [Nat.sub_self, List.take_zero, List.append_nil]
  exact ⟨h, ho⟩
theorem take_more {l : List UInt8} {p q k : Nat} (h : p ≤ q) : (l.drop p).take (q - p) ++ (l.drop q).take (1 + k) = (l.drop p).take (q + 1 + k - p) := by
  have e : (l.drop p).take ((q - p) + (1 + k)) = (l.drop p).take (q - p) ++ ((l.drop p).drop (q - p)).take (1 + k) := List.take_add
  rw [List.drop_drop, show p + (q - p) = q from by omega] at e
  rw [show q + 1 + k - p = (q - p) + (1 + k) from by omega, e]
theorem wk_len {l o : List UInt8} {p q : Nat} (hq : q ≤ l.length) (hp : p ≤ q) : (o ++ (l.drop p).take (q - p)).length = o.length + (q - p) := by
  rw [List.length_append, List.length_take, List.length_drop]; omega
theorem wk_step {l : List UInt8} {p g : Nat} {o : List UInt8} {x : Option Nat} {R : Option (List UInt8 × Nat)} {q : Nat} (h : WkI l p g o x R q) (hp : p ≤ q) (hq : q < l.length) (h0 : l[q].toNat ≠ 0) (h1 : l[q].toNat ≤ 63) (hl : o.length + (q - p) ≤ 254) : WkI l p g o x R (q + 1 + l[q].toNat) := by
  obtain ⟨hr, hlab⟩ := h.1 hq
  refine ⟨fun hlt => ?_, fun hge => r_cut hr hq h0 h1 hge⟩
  have a := r_lab hr hq h0 h1 (by omega) (by rw [wk_len (by omega) hp]; omega)
  have b := labs_step hlab hq h0 h1 (by omega)
  rw [List.append_assoc, take_more hp] at a b
  exact ⟨a, b⟩
theorem wk_long {l : List UInt8} {p g : Nat} {o : List UInt8} {x : Option Nat} {R : Option (List UInt8 × Nat)} {q : Nat} (h : WkI l p g o x R q) (hp : p ≤ q) (hl : 254 < o.length + (q - p)) : R = none := by
  by_cases hq : q < l.length
  · exact r_long (h.1 hq).1 (by rw [wk_len (by omega) hp]; omega)
  · exact h.2 (by omega)

theorem walk_any (s : ByteArray) (p g : Nat) (o : List UInt8) (x : Option Nat) (R : Option (List UInt8 × Nat)) (m : Int) (w : World) (hs : s.size ≤ 140737488355328) (hm : m = 254 - (o.length : Int)) (ho : o.length ≤ 254) (hr : RAt s.data.toList p g o x R) (hlab : Labs o) :
    Calls Try.prog 60 #[.string s, .int .i64 (p : Int), .int .i64 m] w fun e w' => WkE s.data.toList p g o x R e ∧ w' = w := by
  have hl := data_len s
  obtain ⟨n, hn⟩ : ∃ n, n = o.length := ⟨_, rfl⟩
  have HN : Hid (n = o.length) := hn
  have HST : Hid (WkI s.data.toList p g o x R p) := wk_start hr hlab
  rw [← hn] at ho hm
  subst hm
  clear hr hlab hn
  go_enter Try.func60, Try.ntmps60
  go_wp2
  go_loop [8] (fun i => ∃ q : Nat, p ≤ q ∧ i = .int .i64 (q : Int) ∧ n + (q - p) ≤ 254 ∧ Hid (WkI s.data.toList p g o x R q)) (fun i => s.size + 100 - (intOf i).toNat)
  case atStart => exact ⟨p, Nat.le_refl _, rfl, by omega, HST⟩
  case round =>
    clear HST
    obtain ⟨q, hpq, rfl, hq, HI⟩ := hrel
    by_cases hlt : q < s.size
    · have hlt' : q < s.data.toList.length := by omega
      have hb := UInt8.toNat_lt (s[q])
      by_cases h0 : s[q].toNat = 0
      · have h0' : ((s[q].toNat : Int) != 0) = false := by simp [h0]
        have HR : Hid (WkP s.data.toList p g o x R (q : Int) true) := ⟨fun e => by simp at e, fun _ => ⟨q, hlt', rfl, hpq, (HI.out.1 hlt').1, (HI.out.1 hlt').2, by rw [← HN.out]; exact hq, .inl h0⟩⟩
        clear h0
        go_wp2
        go_ret2
        exact ⟨⟨_, _, rfl, HR.out⟩, rfl⟩
      · have h0' : ((s[q].toNat : Int) != 0) = true := by simpa using h0
        by_cases h1 : s[q].toNat ≤ 63
        · have h1' : ((s[q].toNat : Int) / 64 == 0) = true := by simp; omega
          have HS : Hid (WkI s.data.toList p g o x R (q + 1 + s[q].toNat)) := wk_step HI.out hpq hlt' h0 h1 (by rw [← HN.out]; exact hq)
          by_cases hlong : (254 : Int) - (n : Int) < (q : Int) + (1 + (s[q].toNat : Int)) - (p : Int)
          · have HR : Hid (R = none) := wk_long HS.out (by omega) (by rw [← HN.out]; omega)
            go_wp2
            go_ret2
            exact ⟨⟨_, _, rfl, fun _ => HR.out, fun e => by simp at e⟩, rfl⟩
          · have hlong' : decide ((254 : Int) - (n : Int) < (q : Int) + (1 + (s[q].toNat : Int)) - (p : Int)) = false := by simpa using hlong
            go_wp2
            go_round
            case rel => exact ⟨q + 1 + s[q].toNat, by omega, by go_num, by omega, HS⟩
            case measure => simp [intOf]; omega
        · have h1' : ((s[q].toNat : Int) / 64 == 0) = false := by simp; omega
          have HR : Hid (WkP s.data.toList p g o x R (q : Int) true) := ⟨fun e => by simp at e, fun _ => ⟨q, hlt', rfl, hpq, (HI.out.1 hlt').1, (HI.out.1 hlt').2, by rw [← HN.out]; exact hq, .inr (by show 63 < s[q].toNat; omega)⟩⟩
          go_wp2
          go_ret2
          exact ⟨⟨_, _, rfl, HR.out⟩, rfl⟩
    · have HR : Hid (R = none) := HI.out.2 (by omega)
      have hlt' : decide (q < s.size) = false := by simpa using hlt
      go_wp2
      go_ret2
      exact ⟨⟨_, _, rfl, fun _ => HR.out, fun e => by simp at e⟩, rfl⟩

theorem ptr_two (a b : UInt8) : bits .and .u16 (two a b) 16383 = (((a.toNat * 256 + b.toNat) % 16384 : Nat) : Int) := by
  have ha := a.toNat_lt
  have hb := b.toNat_lt
  have wr : ∀ n : Int, 0 ≤ n → n < 2 ^ 16 → IntKind.u16.wrap n = n := fun n h0 h1 => by
    have : IntKind.u16.wrap n = n % 65536 := by simp [IntKind.wrap, IntKind.bits, IntKind.signed]
    rw [this]; omega
  have h := bits_mask .u16 16 (by decide) wr 14 (by decide) (two a b) (two_lt a b).1 (by have := (two_lt a b).2; omega)
  have h2 : bits .and .u16 (two a b) 16383 = two a b % 16384 := by simpa using h
  rw [h2]
  unfold two
  omega
theorem ptr_at (s : ByteArray) (q : Nat) (h : q + 2 ≤ s.size) : ptrAt s.data.toList q = (s[q].toNat * 256 + s[q + 1].toNat) % 16384 := by
  unfold ptrAt
  rw [val_getD s q (by omega), val_getD s (q + 1) (by omega)]

theorem target_yes (s : ByteArray) (q : Nat) (w : World) (hs : s.size ≤ 140737488355328) (h : q + 2 ≤ s.size) (h3 : 191 < s[q].toNat) :
    Calls Try.prog 61 #[.string s, .int .i64 (q : Int)] w fun e w' => e = .returned (.tuple #[.int .i64 (ptrAt s.data.toList q : Int), .bool true]) ∧ ∃ m, w' = w.drewN m := by
  have h0 := s[q].toNat_lt
  have h1 := s[q + 1].toNat_lt
  have hor := or8 s[q].toNat s[q + 1].toNat h0 h1
  have hand := ptr_two s[q] s[q + 1]
  rw [← ptr_at s q h] at hand
  have hlt : ptrAt s.data.toList q < 16384 := Nat.mod_lt _ (by decide)
  have ht : 256 * (s[q].toNat : Int) + (s[q + 1].toNat : Int) = two s[q] s[q + 1] := rfl
  rw [ht] at hor
  have i0 := idx s q q rfl (by omega)
  have i1 := idx s (q + 1) ((q : Int) + 1) (by omega) (by omega)
  have t1 : ((s[q].toNat : Int) / 64 != 3) = false := by simp; omega
  have t2 : decide ((s.size : Int) ≤ (q : Int) + 1) = false := by simp; omega
  have w4 : IntKind.i64.wrap ((q : Int) + 1) = (q : Int) + 1 := by rw [IntKind.wrap_i64]; omega
  obtain ⟨T, hT⟩ : ∃ T, T = ptrAt s.data.toList q := ⟨_, rfl⟩
  rw [← hT] at hand hlt ⊢
  clear hT
  obtain ⟨y, hy⟩ : ∃ y, y = two s[q] s[q + 1] := ⟨_, rfl⟩
  rw [← hy] at hor hand
  clear hy ht
  go_enter Try.func61, Try.ntmps61
  go_wp2
  go_quiet (fail)
  go_wp2
  go_ret2
  exact ⟨rfl, _, rfl⟩

theorem target_no (s : ByteArray) (q : Nat) (w : World) (hs : s.size ≤ 140737488355328) (hq : q < s.size) (h : s[q].toNat ≤ 191 ∨ s.size < q + 2) :
    Calls Try.prog 61 #[.string s, .int .i64 (q : Int)] w fun e w' => e = .returned (.tuple #[.int .i64 0, .bool false]) ∧ w' = w := by
  have h0 := s[q].toNat_lt
  have i0 := idx s q q rfl (by omega)
  by_cases h3 : s[q].toNat ≤ 191
  · have t1 : ((s[q].toNat : Int) / 64 != 3) = true := by simp; omega
    clear h
    go_enter Try.func61, Try.ntmps61
    go_wp2
    go_ret2
    exact ⟨rfl, rfl⟩
  · have t1 : ((s[q].toNat : Int) / 64 != 3) = false := by simp; omega
    have t2 : (s.size : Int) ≤ (q : Int) + 1 := by omega
    clear h
    go_enter Try.func61, Try.ntmps61
    go_wp2
    go_ret2
    exact ⟨rfl, rfl⟩

theorem ptr_bytes (q : Nat) (h : q < 16384) : (ptrB q).map bv = [.int .u8 (((49152 : Int) + (q : Int)) / 256 % 256), .int .u8 (((49152 : Int) + (q : Int)) % 256)] := by
  unfold ptrB bv
  simp only [List.map_cons, List.map_nil]
  have e1 : ((192 + q / 256 : Nat) : Int) = ((49152 : Int) + (q : Int)) / 256 % 256 := by omega
  have e2 : ((q % 256 : Nat) : Int) = ((49152 : Int) + (q : Int)) % 256 := by omega
  rw [toNat_of (by omega), toNat_of (by omega), e1, e2]
theorem pointer_any (q : Nat) (w : World) (h : q < 16384) :
    Calls Try.prog 73 #[.int .i64 (q : Int)] w fun e w' => e = .returned (.string ⟨(ptrB q).toArray⟩) ∧ Below w.heap.size w w' := by
  have kc : (convert 27 9 (.slice (some ⟨w.heap.size, 0, none⟩) 2 2)).run Try.prog (w.alloc (.cells #[.int .u8 (((49152 : Int) + (q : Int)) / 256), .int .u8 (((49152 : Int) + (q : Int)) % 256)] 5)) = .ok (.string ⟨(ptrB q).toArray⟩) (w.alloc (.cells #[.int .u8 (((49152 : Int) + (q : Int)) / 256), .int .u8 (((49152 : Int) + (q : Int)) % 256)] 5)) := by
    have := conv_lit (ptrB q) w
    rw [ptr_bytes q h, show ((49152 : Int) + (q : Int)) / 256 % 256 = ((49152 : Int) + (q : Int)) / 256 from by omega] at this
    exact this
  have hor : bits .or .u16 49152 (q : Int) = 49152 + (q : Int) := by
    have e : (49152 : Int) = ((2 ^ 14 * 3 : Nat) : Int) := by decide
    rw [e, u16_or_nat _ _ (by omega) (by omega), ← Nat.two_pow_add_eq_or_of_lt (by omega)]
    omega
  go_enter Try.func73, Try.ntmps73
  go_wp2
  go_ret
  exact ⟨rfl, (Below.refl _ _).alloc (Nat.le_refl _) _⟩

end Go.Proofs.Ytdogjbblnjjaaab
