/- WireCounts holds: for every two numbers, a header that counts more than is there, or less, is refused. -/
import Derived.Test.YtdogjbblnjjaaaaXP15
import Derived.ProofKit
import Derived.OpenShut
import Derived.ShutString
namespace Go.Proofs.Ytdogjbblnjjaaaa.wireCounts
open Go.ChangeShapes Go.WideShapes Go.ChangeAt Go.RowKit
open Go.ChangeMaps (open_string shut_string)
open Pl

def wcM : Ms := ⟨hdZ, [⟨⟨#[0]⟩, 1, 1⟩], [awR], [awR, awR], [awR]⟩
def wcL : List UInt8 := [0, 0, 0, 0, 0, 1, 0, 1, 0, 2, 0, 1, 0, 0, 1, 0, 1, 1, 97, 0, 0, 1, 0, 1, 0, 0, 0, 5, 0, 4, 97, 98, 99, 100, 192, 17, 0, 1, 0, 1, 0, 0, 0, 5, 0, 4, 97, 98, 99, 100, 192, 17, 0, 1, 0, 1, 0, 0, 0, 5, 0, 4, 97, 98, 99, 100, 192, 17, 0, 1, 0, 1, 0, 0, 0, 5, 0, 4, 97, 98, 99, 100]
theorem wc_may : mayM wcM = true := by decide +kernel
theorem wc_st : (putSt wcM).map (·.1) = some wcL := by decide +kernel
theorem wc_put : putV wcM = .tuple #[.string ⟨wcL.toArray⟩, .int .i64 0] := by
  have h := wc_st
  rw [putV_yes wc_may]
  cases hp : putSt wcM with
  | none => rw [hp] at h; simp at h
  | some st => rw [hp] at h; simp at h; simp only [stV]; rw [h]
/-- The place of a count, and what stands there. -/
def plk (a : Nat) : Nat := 5 + 2 * a
def more (a j : Nat) : List UInt8 := wcL.set (plk a) (UInt8.ofNat ((wcL.getD (plk a) 0).toNat + 1 + j))
def less (a : Nat) : List UInt8 := wcL.set (plk a) (UInt8.ofNat ((wcL.getD (plk a) 0).toNat - 1))
theorem more_no : ∀ a, a < 4 → ∀ j, j < 32 → (getM ⟨(more a j).toArray⟩).isNone = true := by decide +kernel
theorem less_no : ∀ a, a < 4 → (getM ⟨(less a).toArray⟩).isNone = true := by decide +kernel
theorem at_ok : ∀ a, a < 4 → plk a < wcL.length ∧ 1 ≤ (wcL.getD (plk a) 0).toNat ∧ (wcL.getD (plk a) 0).toNat ≤ 2 := by decide +kernel

theorem wc_rows (w0 : World) : QRow ((((((w0.alloc (.cells #[.string ⟨#[1, 97, 0]⟩, .int .i64 1, .int .i64 1, .int .i64 5, .string ⟨#[97, 98, 99, 100]⟩] 48)).alloc (.cells #[.string ⟨#[0]⟩, .int .i64 1, .int .i64 1] 50)).alloc (.cells #[.string ⟨#[1, 97, 0]⟩, .int .i64 1, .int .i64 1, .int .i64 5, .string ⟨#[97, 98, 99, 100]⟩] 48)).alloc (.cells #[.string ⟨#[1, 97, 0]⟩, .int .i64 1, .int .i64 1, .int .i64 5, .string ⟨#[97, 98, 99, 100]⟩, .string ⟨#[1, 97, 0]⟩, .int .i64 1, .int .i64 1, .int .i64 5, .string ⟨#[97, 98, 99, 100]⟩] 48)).alloc (.cells #[.string ⟨#[1, 97, 0]⟩, .int .i64 1, .int .i64 1, .int .i64 5, .string ⟨#[97, 98, 99, 100]⟩] 48)).alloc (.cells #[.int .i64 0, .bool false, .int .i64 0, .bool false, .bool false, .bool false, .bool false, .int .i64 0, .int .i64 0, .slice (some ⟨w0.heap.size + 1, 0, none⟩) 1 1, .slice (some ⟨w0.heap.size + 1 + 1, 0, none⟩) 1 1, .slice (some ⟨w0.heap.size + 1 + 1 + 1, 0, none⟩) 2 2, .slice (some ⟨w0.heap.size + 1 + 1 + 1 + 1, 0, none⟩) 1 1] 27)) (.slice (some ⟨w0.heap.size + 1, 0, none⟩) 1 1) [⟨⟨#[0]⟩, 1, 1⟩] ∧ RRow ((((((w0.alloc (.cells #[.string ⟨#[1, 97, 0]⟩, .int .i64 1, .int .i64 1, .int .i64 5, .string ⟨#[97, 98, 99, 100]⟩] 48)).alloc (.cells #[.string ⟨#[0]⟩, .int .i64 1, .int .i64 1] 50)).alloc (.cells #[.string ⟨#[1, 97, 0]⟩, .int .i64 1, .int .i64 1, .int .i64 5, .string ⟨#[97, 98, 99, 100]⟩] 48)).alloc (.cells #[.string ⟨#[1, 97, 0]⟩, .int .i64 1, .int .i64 1, .int .i64 5, .string ⟨#[97, 98, 99, 100]⟩, .string ⟨#[1, 97, 0]⟩, .int .i64 1, .int .i64 1, .int .i64 5, .string ⟨#[97, 98, 99, 100]⟩] 48)).alloc (.cells #[.string ⟨#[1, 97, 0]⟩, .int .i64 1, .int .i64 1, .int .i64 5, .string ⟨#[97, 98, 99, 100]⟩] 48)).alloc (.cells #[.int .i64 0, .bool false, .int .i64 0, .bool false, .bool false, .bool false, .bool false, .int .i64 0, .int .i64 0, .slice (some ⟨w0.heap.size + 1, 0, none⟩) 1 1, .slice (some ⟨w0.heap.size + 1 + 1, 0, none⟩) 1 1, .slice (some ⟨w0.heap.size + 1 + 1 + 1, 0, none⟩) 2 2, .slice (some ⟨w0.heap.size + 1 + 1 + 1 + 1, 0, none⟩) 1 1] 27)) (.slice (some ⟨w0.heap.size + 1 + 1, 0, none⟩) 1 1) [awR] ∧ RRow ((((((w0.alloc (.cells #[.string ⟨#[1, 97, 0]⟩, .int .i64 1, .int .i64 1, .int .i64 5, .string ⟨#[97, 98, 99, 100]⟩] 48)).alloc (.cells #[.string ⟨#[0]⟩, .int .i64 1, .int .i64 1] 50)).alloc (.cells #[.string ⟨#[1, 97, 0]⟩, .int .i64 1, .int .i64 1, .int .i64 5, .string ⟨#[97, 98, 99, 100]⟩] 48)).alloc (.cells #[.string ⟨#[1, 97, 0]⟩, .int .i64 1, .int .i64 1, .int .i64 5, .string ⟨#[97, 98, 99, 100]⟩, .string ⟨#[1, 97, 0]⟩, .int .i64 1, .int .i64 1, .int .i64 5, .string ⟨#[97, 98, 99, 100]⟩] 48)).alloc (.cells #[.string ⟨#[1, 97, 0]⟩, .int .i64 1, .int .i64 1, .int .i64 5, .string ⟨#[97, 98, 99, 100]⟩] 48)).alloc (.cells #[.int .i64 0, .bool false, .int .i64 0, .bool false, .bool false, .bool false, .bool false, .int .i64 0, .int .i64 0, .slice (some ⟨w0.heap.size + 1, 0, none⟩) 1 1, .slice (some ⟨w0.heap.size + 1 + 1, 0, none⟩) 1 1, .slice (some ⟨w0.heap.size + 1 + 1 + 1, 0, none⟩) 2 2, .slice (some ⟨w0.heap.size + 1 + 1 + 1 + 1, 0, none⟩) 1 1] 27)) (.slice (some ⟨w0.heap.size + 1 + 1 + 1, 0, none⟩) 2 2) [awR, awR] ∧ RRow ((((((w0.alloc (.cells #[.string ⟨#[1, 97, 0]⟩, .int .i64 1, .int .i64 1, .int .i64 5, .string ⟨#[97, 98, 99, 100]⟩] 48)).alloc (.cells #[.string ⟨#[0]⟩, .int .i64 1, .int .i64 1] 50)).alloc (.cells #[.string ⟨#[1, 97, 0]⟩, .int .i64 1, .int .i64 1, .int .i64 5, .string ⟨#[97, 98, 99, 100]⟩] 48)).alloc (.cells #[.string ⟨#[1, 97, 0]⟩, .int .i64 1, .int .i64 1, .int .i64 5, .string ⟨#[97, 98, 99, 100]⟩, .string ⟨#[1, 97, 0]⟩, .int .i64 1, .int .i64 1, .int .i64 5, .string ⟨#[97, 98, 99, 100]⟩] 48)).alloc (.cells #[.string ⟨#[1, 97, 0]⟩, .int .i64 1, .int .i64 1, .int .i64 5, .string ⟨#[97, 98, 99, 100]⟩] 48)).alloc (.cells #[.int .i64 0, .bool false, .int .i64 0, .bool false, .bool false, .bool false, .bool false, .int .i64 0, .int .i64 0, .slice (some ⟨w0.heap.size + 1, 0, none⟩) 1 1, .slice (some ⟨w0.heap.size + 1 + 1, 0, none⟩) 1 1, .slice (some ⟨w0.heap.size + 1 + 1 + 1, 0, none⟩) 2 2, .slice (some ⟨w0.heap.size + 1 + 1 + 1 + 1, 0, none⟩) 1 1] 27)) (.slice (some ⟨w0.heap.size + 1 + 1 + 1 + 1, 0, none⟩) 1 1) [awR] := by
  have k1 := ((((Blk.new (w0.alloc (.cells #[.string ⟨#[1, 97, 0]⟩, .int .i64 1, .int .i64 1, .int .i64 5, .string ⟨#[97, 98, 99, 100]⟩] 48)) #[.string ⟨#[0]⟩, .int .i64 1, .int .i64 1] 50).alloc (.cells #[.string ⟨#[1, 97, 0]⟩, .int .i64 1, .int .i64 1, .int .i64 5, .string ⟨#[97, 98, 99, 100]⟩] 48)).alloc (.cells #[.string ⟨#[1, 97, 0]⟩, .int .i64 1, .int .i64 1, .int .i64 5, .string ⟨#[97, 98, 99, 100]⟩, .string ⟨#[1, 97, 0]⟩, .int .i64 1, .int .i64 1, .int .i64 5, .string ⟨#[97, 98, 99, 100]⟩] 48)).alloc (.cells #[.string ⟨#[1, 97, 0]⟩, .int .i64 1, .int .i64 1, .int .i64 5, .string ⟨#[97, 98, 99, 100]⟩] 48)).alloc (.cells #[.int .i64 0, .bool false, .int .i64 0, .bool false, .bool false, .bool false, .bool false, .int .i64 0, .int .i64 0, .slice (some ⟨w0.heap.size + 1, 0, none⟩) 1 1, .slice (some ⟨w0.heap.size + 1 + 1, 0, none⟩) 1 1, .slice (some ⟨w0.heap.size + 1 + 1 + 1, 0, none⟩) 2 2, .slice (some ⟨w0.heap.size + 1 + 1 + 1 + 1, 0, none⟩) 1 1] 27)
  have k2 := (((Blk.new ((w0.alloc (.cells #[.string ⟨#[1, 97, 0]⟩, .int .i64 1, .int .i64 1, .int .i64 5, .string ⟨#[97, 98, 99, 100]⟩] 48)).alloc (.cells #[.string ⟨#[0]⟩, .int .i64 1, .int .i64 1] 50)) #[.string ⟨#[1, 97, 0]⟩, .int .i64 1, .int .i64 1, .int .i64 5, .string ⟨#[97, 98, 99, 100]⟩] 48).alloc (.cells #[.string ⟨#[1, 97, 0]⟩, .int .i64 1, .int .i64 1, .int .i64 5, .string ⟨#[97, 98, 99, 100]⟩, .string ⟨#[1, 97, 0]⟩, .int .i64 1, .int .i64 1, .int .i64 5, .string ⟨#[97, 98, 99, 100]⟩] 48)).alloc (.cells #[.string ⟨#[1, 97, 0]⟩, .int .i64 1, .int .i64 1, .int .i64 5, .string ⟨#[97, 98, 99, 100]⟩] 48)).alloc (.cells #[.int .i64 0, .bool false, .int .i64 0, .bool false, .bool false, .bool false, .bool false, .int .i64 0, .int .i64 0, .slice (some ⟨w0.heap.size + 1, 0, none⟩) 1 1, .slice (some ⟨w0.heap.size + 1 + 1, 0, none⟩) 1 1, .slice (some ⟨w0.heap.size + 1 + 1 + 1, 0, none⟩) 2 2, .slice (some ⟨w0.heap.size + 1 + 1 + 1 + 1, 0, none⟩) 1 1] 27)
  have k3 := ((Blk.new (((w0.alloc (.cells #[.string ⟨#[1, 97, 0]⟩, .int .i64 1, .int .i64 1, .int .i64 5, .string ⟨#[97, 98, 99, 100]⟩] 48)).alloc (.cells #[.string ⟨#[0]⟩, .int .i64 1, .int .i64 1] 50)).alloc (.cells #[.string ⟨#[1, 97, 0]⟩, .int .i64 1, .int .i64 1, .int .i64 5, .string ⟨#[97, 98, 99, 100]⟩] 48)) #[.string ⟨#[1, 97, 0]⟩, .int .i64 1, .int .i64 1, .int .i64 5, .string ⟨#[97, 98, 99, 100]⟩, .string ⟨#[1, 97, 0]⟩, .int .i64 1, .int .i64 1, .int .i64 5, .string ⟨#[97, 98, 99, 100]⟩] 48).alloc (.cells #[.string ⟨#[1, 97, 0]⟩, .int .i64 1, .int .i64 1, .int .i64 5, .string ⟨#[97, 98, 99, 100]⟩] 48)).alloc (.cells #[.int .i64 0, .bool false, .int .i64 0, .bool false, .bool false, .bool false, .bool false, .int .i64 0, .int .i64 0, .slice (some ⟨w0.heap.size + 1, 0, none⟩) 1 1, .slice (some ⟨w0.heap.size + 1 + 1, 0, none⟩) 1 1, .slice (some ⟨w0.heap.size + 1 + 1 + 1, 0, none⟩) 2 2, .slice (some ⟨w0.heap.size + 1 + 1 + 1 + 1, 0, none⟩) 1 1] 27)
  have k4 := (Blk.new ((((w0.alloc (.cells #[.string ⟨#[1, 97, 0]⟩, .int .i64 1, .int .i64 1, .int .i64 5, .string ⟨#[97, 98, 99, 100]⟩] 48)).alloc (.cells #[.string ⟨#[0]⟩, .int .i64 1, .int .i64 1] 50)).alloc (.cells #[.string ⟨#[1, 97, 0]⟩, .int .i64 1, .int .i64 1, .int .i64 5, .string ⟨#[97, 98, 99, 100]⟩] 48)).alloc (.cells #[.string ⟨#[1, 97, 0]⟩, .int .i64 1, .int .i64 1, .int .i64 5, .string ⟨#[97, 98, 99, 100]⟩, .string ⟨#[1, 97, 0]⟩, .int .i64 1, .int .i64 1, .int .i64 5, .string ⟨#[97, 98, 99, 100]⟩] 48)) #[.string ⟨#[1, 97, 0]⟩, .int .i64 1, .int .i64 1, .int .i64 5, .string ⟨#[97, 98, 99, 100]⟩] 48).alloc (.cells #[.int .i64 0, .bool false, .int .i64 0, .bool false, .bool false, .bool false, .bool false, .int .i64 0, .int .i64 0, .slice (some ⟨w0.heap.size + 1, 0, none⟩) 1 1, .slice (some ⟨w0.heap.size + 1 + 1, 0, none⟩) 1 1, .slice (some ⟨w0.heap.size + 1 + 1 + 1, 0, none⟩) 2 2, .slice (some ⟨w0.heap.size + 1 + 1 + 1 + 1, 0, none⟩) 1 1] 27)
  simp only [World.size_alloc] at k1 k2 k3 k4
  refine ⟨qrow_lit (q := ⟨⟨#[0]⟩, 1, 1⟩) k1 (by decide), rrow_lit (r := awR) k2 (by decide) (by decide), ⟨Row.of_blk k3 rfl 2 2, small100 (by decide), fun r hr => ?_⟩, rrow_lit (r := awR) k4 (by decide) (by decide)⟩
  simp at hr
  subst hr
  exact ⟨small100 (by decide), small100 (by decide)⟩
theorem wc_p {v0 v1 v2 v3 : Value} (u : World) (h0 : QRow u v0 [⟨⟨#[0]⟩, 1, 1⟩]) (h1 : RRow u v1 [awR]) (h2 : RRow u v2 [awR, awR]) (h3 : RRow u v3 [awR]) : Calls Try.prog 10 #[.agg #[.int .i64 0, .bool false, .int .i64 0, .bool false, .bool false, .bool false, .bool false, .int .i64 0, .int .i64 0, v0, v1, v2, v3]] u fun e w' => e = .returned (.tuple #[.string ⟨wcL.toArray⟩, .int .i64 0]) ∧ Below u.heap.size u w' := by
  have := put_w (msgC hdZ v0 v1 v2 v3) wcM u ⟨v0, v1, v2, v3, rfl, h0, h1, h2, h3⟩
  rw [wc_put] at this
  exact this

set_option maxRecDepth 20000 in
set_option maxHeartbeats 600000 in
theorem walk (x y : Int) (_ : (Lit.int .i64 x).wf = true) (_ : (Lit.int .i64 y).wf = true) (w : World) :
    Calls Try.prog 8 #[.int .i64 x, .int .i64 y] w fun e w' => e = .returned (.bool true) ∧ Below w.heap.size w w' := by
  have hb : Below w.heap.size w w := Below.refl _ _
  obtain ⟨a, ha, m3⟩ : ∃ a : Nat, a < 4 ∧ bits .and .i64 x 3 = (a : Int) := by
    have := mask x 2 (by decide)
    have e : ((2 ^ 2 - 1 : Nat) : Int) = 3 := by decide
    rw [e] at this
    exact ⟨(x % 4).toNat, by omega, by rw [this]; omega⟩
  obtain ⟨j, hj, m31⟩ : ∃ j : Nat, j < 32 ∧ bits .and .i64 y 31 = (j : Int) := by
    have := mask y 5 (by decide)
    have e : ((2 ^ 5 - 1 : Nat) : Int) = 31 := by decide
    rw [e] at this
    exact ⟨(y % 32).toNat, by omega, by rw [this]; omega⟩
  obtain ⟨hk, hc1, hc2⟩ := at_ok a ha
  have hM := more_no a ha j hj
  have hL := less_no a ha
  obtain ⟨kk, hkk⟩ : ∃ kk, kk = plk a := ⟨_, rfl⟩
  unfold more at hM
  unfold less at hL
  rw [← hkk] at hk hc1 hc2 hM hL
  obtain ⟨c, hc⟩ : ∃ c : UInt8, c = wcL.getD kk 0 := ⟨_, rfl⟩
  rw [← hc] at hc1 hc2 hM hL
  have hck : wcL[kk] = c := by rw [hc, getD_get hk]
  obtain ⟨L, hLL⟩ : ∃ L, L = wcL := ⟨_, rfl⟩
  have hlen : L.length = 82 := by rw [hLL]; decide
  have p1 := @wc_p
  rw [← hLL] at hM hL p1
  simp only [← hLL] at hk hck
  obtain ⟨S, hS⟩ : ∃ S : ByteArray, S = ⟨L.toArray⟩ := ⟨_, rfl⟩
  simp only [← hS] at p1
  have hSl : S.data.toList = L := by rw [hS, list_arr]
  have hSs : S.size = 82 := by rw [← data_len, hSl, hlen]
  have hSi : (S.size : Int) = 82 := by omega
  obtain ⟨b1, hb1⟩ : ∃ b : UInt8, b = UInt8.ofNat (c.toNat + 1 + j) := ⟨_, rfl⟩
  obtain ⟨b2, hb2⟩ : ∃ b : UInt8, b = UInt8.ofNat (c.toNat - 1) := ⟨_, rfl⟩
  have v1 : (b1.toNat : Int) = (c.toNat : Int) + 1 + (j : Int) := by rw [hb1, toNat_of (by omega)]; omega
  have v2 : (b2.toNat : Int) = (c.toNat : Int) - 1 := by rw [hb2, toNat_of (by omega)]; omega
  rw [← hb1] at hM
  rw [← hb2] at hL
  obtain ⟨T1, hT1⟩ : ∃ T : ByteArray, T = ⟨(L.set kk b1).toArray⟩ := ⟨_, rfl⟩
  obtain ⟨T2, hT2⟩ : ∃ T : ByteArray, T = ⟨((L.set kk b1).set kk b2).toArray⟩ := ⟨_, rfl⟩
  have sT1 : T1.size = 82 := by rw [← data_len, hT1, list_arr, List.length_set, hlen]
  have sT2 : T2.size = 82 := by rw [← data_len, hT2, list_arr, List.length_set, List.length_set, hlen]
  have g1 := fun u => get_kz T1 _ _ u (small100 (by omega)) (g_none (by omega) (by rw [hT1]; exact Option.isNone_iff_eq_none.1 hM)) rfl
  have g2 := fun u => get_kz T2 _ _ u (small100 (by omega)) (g_none (by omega) (by rw [hT2, List.set_set]; exact Option.isNone_iff_eq_none.1 hL)) rfl
  have e2 : (5 : Int) + 2 * (a : Int) = (kk : Int) := by rw [hkk]; unfold plk; omega
  have hkk82 : kk < 82 := by omega
  have hki : (kk : Int) < 82 := by omega
  have c255 : bits .and .i64 ((c.toNat : Int) + 1 + (j : Int)) 255 = (c.toNat : Int) + 1 + (j : Int) := by
    have := mask ((c.toNat : Int) + 1 + (j : Int)) 8 (by decide)
    have e : ((2 ^ 8 - 1 : Nat) : Int) = 255 := by decide
    rw [e] at this
    rw [this]; omega
  have w8 : IntKind.u8.wrap ((c.toNat : Int) + 1 + (j : Int)) = (b1.toNat : Int) := by rw [v1]; simp [IntKind.wrap, IntKind.bits, IntKind.signed]; omega
  have w9 : IntKind.u8.wrap ((c.toNat : Int) - 1) = (b2.toNat : Int) := by rw [v2]; simp [IntKind.wrap, IntKind.bits, IntKind.signed]; omega
  have HK : Hid (kk < L.length ∧ ∀ h : kk < L.length, L[kk] = c) := ⟨by omega, fun _ => hck⟩
  have HSL : Hid (S.data.toList = L) := hSl
  have HT1 : Hid (T1 = ⟨(L.set kk b1).toArray⟩) := hT1
  have HT2 : Hid (T2 = ⟨((L.set kk b1).set kk b2).toArray⟩) := hT2
  have cj : 0 ≤ (c.toNat : Int) + 1 + (j : Int) ∧ (c.toNat : Int) + 1 + (j : Int) ≤ 100 := by omega
  have cm : 0 ≤ (c.toNat : Int) - 1 ∧ (c.toNat : Int) - 1 ≤ 100 := by omega
  clear hM hL hkk hc hLL hS hSl hT1 hT2 hck hb1 hb2 v1 v2 hk
  have t1 : True := trivial
  go_enter Try.func8, Try.ntmps8
  go_wp2_with (first
    | (go_at_call 17; go_must (refine (awake_any _).mono ?_); rintro e w0 ⟨rfl, b0⟩; replace hb := next hb b0; clear b0; obtain ⟨r0, r1, r2, r3⟩ := wc_rows w0; have R0 : Hid _ := r0; have R1 : Hid _ := r1; have R2 : Hid _ := r2; have R3 : Hid _ := r3; clear r0 r1 r2 r3)
    | (go_at_call 10; go_must (refine (p1 _ R0.out R1.out R2.out R3.out).mono ?_); rintro e w1 ⟨rfl, b1⟩; replace hb := next (lay (lay (lay (lay (lay (lay hb _) _) _) _) _) _) b1; clear b1 R0 R1 R2 R3)
    | (go_at_call 14; refine (num_any _ _).mono ?_; rintro e w' ⟨rfl, hw⟩; obtain rfl := hw.symm)
    | (refine wpList_bytesB _ rfl (.tmp 42) rfl S rfl ?_; intro cap w2 hrow hg hsz; have hw1 : w.heap.size ≤ w1.heap.size := hb.size; have HR : Hid (BRow w2 w1.heap.size L) := (by rw [HSL.out] at hrow; exact hrow); replace hb := next hb (below_of hg); have d0 : w2.cell? ⟨w1.heap.size, kk, none⟩ = some (.int .u8 (c.toNat : Int)) := (by rw [HR.out.cell kk HK.out.1, HK.out.2]); have f0 := HR.out.frozen kk HK.out.1; have HC1 : Hid (T1.size = 82) := sT1; have cv1 : (convert 45 9 (.slice (some ⟨w1.heap.size, 0, none⟩) 82 cap)).run Try.prog (w2.setCell ⟨w1.heap.size, kk, none⟩ (.int .u8 (b1.toNat : Int))) = .ok (.string T1) (w2.setCell ⟨w1.heap.size, kk, none⟩ (.int .u8 (b1.toNat : Int))) := (by rw [HT1.out]; exact conv_brow (HR.out.stored kk HK.out.1 b1).1 (by rw [List.length_set]; exact hlen)); clear hrow hg)
    | (go_at_call 12; have _t := t1; go_must (refine (g1 _).mono ?_); rintro e w3 ⟨y0, y1, y2, y3, n0, n1, n2, n3, k0, k1, k2, k3, rfl, -, bb⟩; have HR3 : Hid (BRow w3 w1.heap.size (L.set kk b1)) := (HR.out.stored kk HK.out.1 b1).1.below bb; replace hb := next (hb.setCell (by omega) _) bb; have lt3 := HR3.out.lt; have d3 : w3.cell? ⟨w1.heap.size, kk, none⟩ = some (.int .u8 (b1.toNat : Int)) := (by rw [HR3.out.cell kk (by rw [List.length_set]; exact HK.out.1)]; simp); have f3 := HR3.out.frozen kk (by rw [List.length_set]; exact HK.out.1); have cv2 : ∀ o : Obj, (convert 45 9 (.slice (some ⟨w1.heap.size, 0, none⟩) 82 cap)).run Try.prog ((w3.setCell ⟨w1.heap.size, kk, none⟩ (.int .u8 (b2.toNat : Int))).alloc o) = .ok (.string T2) ((w3.setCell ⟨w1.heap.size, kk, none⟩ (.int .u8 (b2.toNat : Int))).alloc o) := (fun o => (by rw [HT2.out]; exact conv_brow ((HR3.out.stored kk (by rw [List.length_set]; exact HK.out.1) b2).1.below (lay (Below.refl _ _) o)) (by rw [List.length_set, List.length_set]; exact hlen))); clear bb HR d0 f0 t1 _t cv1)
    | (go_at_call 12; go_must (refine (g2 _).mono ?_); rintro e w4 ⟨z0, z1, z2, z3, o0, o1, o2, o3, l0, l1, l2, l3, rfl, -, bb⟩; have HBB : Hid _ := bb; clear bb))
  go_ret
  exact ⟨ret_bool (by simp), lay (next (hb.setCell hw1 _) (next (lay (Below.refl _ _) _) HBB.out)) _⟩

theorem own : ownKnob Try.prog.godebug = none := by kernel_rfl

set_option maxRecDepth 100000 in
theorem lifted (os : Os) (started : os.Started) (H : Type) (enc : TypeId × Value → H) :
    ReturnsInHanded {} Try.checked os 8 .any (Rows.wireCountsSpec.pre6 enc Try.prog Try.f8 Rows.wireCountsRow.domain false) (Rows.wireCountsSpec.post enc Try.prog Try.f8 false true false false) := by
  refine returnsInHanded_of_change (C := Try.checked) own started (by kernel_rfl) Try.func8
    (ChangeSpec.witness6 (enc := enc) (C := Try.checked) false ⟨#[], #[.int .i64 0, .int .i64 0], []⟩ 8 (by kernel_rfl) (by kernel_rfl) (by kernel_rfl) (by kernel_rfl)) ?_
  intro W base args ds gs before hval0 hW _ _
  have hval : ∀ (j : Nat) t v, Try.f8.params[j]? = some t → args[j]? = some v → Value.okWide Try.prog W .any base t v := hval0
  have hW' := hW
  obtain ⟨p, q, hA0, hV, rfl, hfz, hnd⟩ := hW
  have hA : DataW.TrodAll enc Try.prog W 0 (fun _ => true) true Try.f8.params.toList args.toList ds p := hA0
  rw [Try.params8] at hA hval
  obtain ⟨v0, vs0, d0, ds0, p0, q0, hargs, rfl, rfl, h0, r0⟩ := trodAll_cons hA
  obtain ⟨v1, vs1, d1, ds1, p1, q1, rfl, rfl, rfl, h1, r1⟩ := trodAll_cons r0
  obtain ⟨rfl, rfl, rfl⟩ := trodAll_nil r1
  obtain rfl : args = #[v0, v1] := by cases args; simp_all
  obtain ⟨rfl, rfl⟩ := trodVars_none hV
  obtain ⟨a0, rfl, rfl, rfl, w0⟩ := open_int Try.underlying3 (hval 0 3 v0 rfl rfl) h0
  obtain ⟨a1, rfl, rfl, rfl, w1⟩ := open_int Try.underlying3 (hval 1 3 v1 rfl rfl) h1
  clear hA0 hval0
  simp only [List.append_nil] at hW'
  refine (walk a0 a1 w0 w1 W ).mono fun e W' ⟨he, bel⟩ => ?_
  subst he
  exact ⟨_, rfl, _, _, _, [], [], [], hW', trodAll_mk1 (shut_bool Try.underlying4 _), (trodAll_cons_mk (shut_int Try.underlying3 w0) (trodAll_cons_mk (shut_int Try.underlying3 w1) trodAll_mk0)), rfl, bel.frame _, fun h => by cases h⟩

/-- The statement. -/
theorem proved : Rows.WireCountsSaid :=
  OpenClaim.holds_of_wide 8 Try.f8 rfl rfl rfl rfl rfl rfl rfl ⟨rfl, rfl, rfl, rfl, rfl⟩ rfl rfl rfl rfl rfl (by kernel_rfl) Try.func8 (by kernel_rfl)
    (of_decide_eq_true (by kernel_rfl)) (by unfold Func.isWrapper; first | (rw [if_pos (by decide +kernel)]; kernel_rfl) | (rw [if_neg (by decide +kernel)]; exact ⟨rfl, rfl⟩))
    (fun os started H enc _ => lifted os started H enc)
#print axioms proved

end Go.Proofs.Ytdogjbblnjjaaaa.wireCounts
