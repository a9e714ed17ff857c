/- QminLong holds: for every many, count and one, a name of so many labels is told in steps of which those behind the first ones differ by one label at most, in at most one step more than the greater of count and one; and what is asked first is no root. -/
import Derived.Test.YtnjlfbcfnmdkkabQmG
import Derived.Test.YtnjlfbcfnmdkkabQmH
import Derived.Laws.Concat
namespace Go.Proofs.Ytnjlfbcfnmdkkab.qminLong
open Go.ChangeShapes Go.WideShapes Go.ChangeAt Go.RowKit
open Pl

/-- A name of i labels of one letter. -/
def nmL (i : Nat) : List UInt8 := enc (List.replicate i [97])
theorem nmL_succ (i : Nat) : nmL (i + 1) = 1 :: 97 :: nmL i := by unfold nmL; rw [List.replicate_succ, enc_cons]; rfl
theorem nmL_len (i : Nat) : (nmL i).length = 2 * i + 1 := by
  induction i with
  | zero => rfl
  | succ i ih => rw [nmL_succ]; simp [ih]; omega
theorem nmL_name {i : Nat} (h : i ≤ 126) : isName (nmL i) = true ∧ (labs (nmL i)).length = i := by
  have hg : GoodL (List.replicate i [97]) := fun x hx => by rw [(List.mem_replicate.1 hx).2]; decide
  have hl := nmL_len i
  obtain ⟨a1, a2, a3⟩ := name_enc hg (by show (nmL i).length ≤ 255; omega)
  refine ⟨a1, ?_⟩
  show (labs (enc (List.replicate i [97]))).length = i
  rw [a3, List.length_replicate]
theorem three {l : List UInt8} (h : isName l = true) (h1 : 1 ≤ (labs l).length) : 3 ≤ l.length := by
  obtain ⟨a1, a2, _, _⟩ := enc_of h
  cases hl : labs l with
  | nil => rw [hl] at h1; exact absurd h1 (by decide)
  | cons x ls =>
    rw [hl] at a1 a2
    have hx := (a2.head).1
    rw [a1, enc_cons]
    have : 1 ≤ (enc ls).length := by unfold enc; simp
    simp
    omega
theorem root_name : isName ([0] : List UInt8) = true ∧ (labs ([0] : List UInt8)).length = 0 := by decide
theorem root_above {l : List UInt8} (h : isName l = true) : aboveB [0] l = true := by
  rw [above_iff]
  exact ⟨root_name.1, h, by rw [show fl ([0] : List UInt8) = [] from by decide]; exact List.nil_prefix⟩

/-- What is left, how many steps were gone, the least and the most of those behind the first ones. -/
structure Bt (k : Nat) (c o : Int) (s : Nat) (l m1 m2 : Int) : Prop where
  l0 : 0 ≤ l
  lk : l ≤ k
  sl : (s : Int) ≤ max c o + 1
  sp : 0 < l → (s : Int) ≤ max c o
  b1 : 0 ≤ m1 ∧ m1 ≤ 1000
  b2 : 0 ≤ m2 ∧ m2 ≤ 1000
  early : (s : Int) < o → m1 = 1000 ∧ m2 = 0
  late : o ≤ (s : Int) → ∃ q : Int, 0 ≤ q ∧ q ≤ m1 ∧ m2 ≤ q + 1 ∧ ((s : Int) < c → q * (c - s) ≤ l ∧ l ≤ (q + 1) * (c - s))
theorem late_of {l d : Int} (hd : 1 ≤ d) (hl : 0 ≤ l) : ∃ q : Int, 0 ≤ q ∧ q ≤ l ∧ q * d ≤ l ∧ l ≤ (q + 1) * d := by
  have h1 := Int.mul_ediv_add_emod l d
  have h2 := Int.emod_nonneg l (show d ≠ 0 by omega)
  have h3 := Int.emod_lt_of_pos l (show 0 < d by omega)
  refine ⟨l / d, Int.ediv_nonneg hl (by omega), Int.ediv_le_self d hl, ?_, ?_⟩
  · rw [Int.mul_comm]; omega
  · rw [Int.add_mul, Int.one_mul, Int.mul_comm]; omega
theorem late_any {k : Nat} {c : Int} {s : Nat} {l : Int} (hk : k ≤ 126) (l0 : 0 ≤ l) (lk : l ≤ k) : ∃ q : Int, 0 ≤ q ∧ q ≤ 1000 ∧ (0 : Int) ≤ q + 1 ∧ ((s : Int) < c → q * (c - s) ≤ l ∧ l ≤ (q + 1) * (c - s)) := by
  by_cases h : (s : Int) < c
  · obtain ⟨q, q0, ql, qa, qb⟩ := late_of (l := l) (d := c - s) (by omega) l0
    exact ⟨q, q0, by omega, by omega, fun _ => ⟨qa, qb⟩⟩
  · exact ⟨0, by omega, by omega, by omega, fun h' => absurd h' h⟩
theorem Bt.start {k : Nat} {c o : Int} (hk : k ≤ 126) (c1 : 1 ≤ c) (_ : 0 ≤ o) : Bt k c o 0 (k : Int) 1000 0 :=
  ⟨by omega, by omega, by omega, fun _ => by omega, by omega, by omega, fun _ => ⟨rfl, rfl⟩, fun _ => late_any hk (by omega) (by omega)⟩
theorem even {q d l Z : Int} (hd : 1 ≤ d) (qa : q * d ≤ l) (qb : l ≤ (q + 1) * d) (za : l ≤ Z * d) (zb : (Z - 1) * d < l) : (Z = q ∨ Z = q + 1) ∧ q * (d - 1) ≤ l - Z ∧ l - Z ≤ (q + 1) * (d - 1) := by
  have e1 : (q + 1) * d = q * d + d := by rw [Int.add_mul, Int.one_mul]
  have e2 : q * (d - 1) = q * d - q := by rw [Int.mul_sub, Int.mul_one]
  have e3 : (q + 1) * (d - 1) = q * d + d - (q + 1) := by rw [Int.mul_sub, Int.mul_one, e1]
  have e4 : (Z - 1) * d = Z * d - d := by rw [Int.sub_mul, Int.one_mul]
  have hz : Z = q ∨ Z = q + 1 := by
    by_cases h1 : Z ≤ q - 1
    · have := Int.mul_le_mul_of_nonneg_right h1 (show 0 ≤ d by omega)
      rw [Int.sub_mul, Int.one_mul] at this
      omega
    · by_cases h2 : q + 2 ≤ Z
      · have := Int.mul_le_mul_of_nonneg_right h2 (show 0 ≤ d by omega)
        rw [Int.add_mul] at this
        omega
      · omega
  refine ⟨hz, ?_⟩
  rw [e2, e3]
  rcases hz with rfl | rfl
  · omega
  · rw [e1] at za
    rw [e4, e1] at zb
    omega
theorem Bt.step {k : Nat} {c o : Int} {s : Nat} {l m1 m2 : Int} (hk : k ≤ 126) (c1 : 1 ≤ c ∧ c ≤ 16) (o1 : 0 ≤ o ∧ o ≤ 7) (b : Bt k c o s l m1 m2) (hl : 0 < l) :
    ∃ Z : Int, Qm.sizeV (s : Int) l c o = .tuple #[.int .i64 Z, .int .i64 0] ∧ 1 ≤ Z ∧ Z ≤ l ∧ ((s : Int) < o → Z = 1) ∧
      Bt k c o (s + 1) (l - Z) (if o ≤ (s : Int) ∧ (s : Int) < c then min m1 Z else m1) (if o ≤ (s : Int) ∧ (s : Int) < c then max m2 Z else m2) := by
  have b1 := b.lk
  have b2 := b.sp hl
  have b3 := b.b1
  have b4 := b.b2
  have hy : Qm.mayS (s : Int) l c o = true := Qm.mayS_iff.2 (by omega)
  obtain ⟨z1, z2⟩ := Qm.szI_in (s := (s : Int)) (l := l) (c := c) (o := o) (by omega)
  have hone : (s : Int) < o → Qm.szI (s : Int) l c o = 1 := fun h => by unfold Qm.szI; exact if_pos (.inl h)
  have hall : o ≤ (s : Int) → c ≤ (s : Int) → Qm.szI (s : Int) l c o = l := fun h h' => by unfold Qm.szI; rw [if_neg (by omega), if_pos h']
  have hceil : o ≤ (s : Int) → (s : Int) < c → l ≤ Qm.szI (s : Int) l c o * (c - s) ∧ (Qm.szI (s : Int) l c o - 1) * (c - s) < l := fun h h' => by
    unfold Qm.szI
    by_cases hh : l ≤ c - s
    · rw [if_pos (.inr hh)]; omega
    · rw [if_neg (by omega), if_neg (by omega)]
      exact (Qm.ceil_in (by omega) (by omega)).2.2
  refine ⟨Qm.szI (s : Int) l c o, Qm.sizeV_yes hy, z1, z2, hone, ?_⟩
  generalize Qm.szI (s : Int) l c o = Z at z1 z2 hone hall hceil
  by_cases h1 : (s : Int) < o
  · have e := b.early h1
    have hz := hone h1
    rw [if_neg (by omega), if_neg (by omega), e.1, e.2]
    exact ⟨by omega, by omega, by omega, fun _ => by omega, by omega, by omega, fun _ => ⟨rfl, rfl⟩, fun _ => late_any hk (by omega) (by omega)⟩
  · obtain ⟨q, q0, q1, q2, q3⟩ := b.late (by omega)
    by_cases h2 : (s : Int) < c
    · obtain ⟨qa, qb⟩ := q3 h2
      obtain ⟨hz, ea, eb⟩ := even (d := c - s) (by omega) qa qb (hceil (by omega) h2).1 (hceil (by omega) h2).2
      rw [if_pos ⟨by omega, h2⟩, if_pos ⟨by omega, h2⟩]
      refine ⟨by omega, by omega, by omega, fun _ => by omega, by omega, by omega, fun h => absurd h (by omega), fun _ => ⟨q, q0, by omega, by omega, fun _ => ?_⟩⟩
      rw [show c - ((s + 1 : Nat) : Int) = c - (s : Int) - 1 from by omega]
      exact ⟨ea, eb⟩
    · have hz := hall (by omega) (by omega)
      rw [if_neg (by omega), if_neg (by omega)]
      exact ⟨by omega, by omega, by omega, fun _ => by omega, by omega, by omega, fun h => absurd h (by omega), fun _ => ⟨q, q0, q1, q2, fun h => absurd h (by omega)⟩⟩
theorem Bt.gap {k : Nat} {c o : Int} {s : Nat} {l m1 m2 : Int} (b : Bt k c o s l m1 m2) : m2 - m1 ≤ 1 := by
  by_cases h : (s : Int) < o
  · have := b.early h; omega
  · obtain ⟨q, q0, q1, q2, _⟩ := b.late (by omega)
    omega

/-- The first question of such a name: it is there, and it is no root. -/
theorem asked {n : ByteArray} {k : Nat} {c o : Int} (hk : k ≤ 126) (hk1 : 1 ≤ k) (hn : n.data.toList = nmL k) (c1 : 1 ≤ c ∧ c ≤ 16) (o1 : 0 ≤ o ∧ o ≤ 7) :
    ∃ (S : ByteArray) (T : Int), Qm.nextV ⟨n, 9, ⟨#[]⟩, ⟨#[0]⟩, 0, false, 0, 0⟩ c o = .tuple #[.agg #[.string S, .int .i64 T], .int .i64 0] ∧ 3 ≤ S.size ∧ S.size ≤ 255 := by
  obtain ⟨n1, n2⟩ := nmL_name hk
  rw [← hn] at n1 n2
  have hlf : Qm.leftI ⟨n, 9, ⟨#[]⟩, ⟨#[0]⟩, 0, false, 0, 0⟩ = (k : Int) := by
    unfold Qm.leftI Qm.lN
    show max 1 (((labs n.data.toList).length : Int) - ((labs ([0] : List UInt8)).length : Int)) = _
    rw [n2, root_name.2]
    omega
  have hy : Qm.mayT ⟨n, 9, ⟨#[]⟩, ⟨#[0]⟩, 0, false, 0, 0⟩ c o = true := Qm.mayT_yes (root_above n1) (by show (1 : Int) ≤ 9; decide) (by show (9 : Int) ≤ 65535; decide) (by rw [hlf]; exact Qm.mayS_iff.2 (by show (0 ≤ (0 : Int) ∧ (0 : Int) ≤ 1000) ∧ _; omega))
  obtain ⟨K2, Z, H⟩ := Qm.told_of hy
  obtain ⟨l1, l2, l3, l4⟩ := Qm.last_fold_name n1 K2 H.top
  have h1 : 1 ≤ K2 := by
    have z1 := H.z1
    rcases H.way with ⟨e, _⟩ | ⟨_, e, _, _⟩
    · have e' : K2 = (labs n.data.toList).length := e
      omega
    · omega
  refine ⟨Qm.lastB n K2, Qm.typeI ⟨n, 9, ⟨#[]⟩, ⟨#[0]⟩, 0, false, 0, 0⟩ c o, ?_, ?_, ?_⟩
  · rw [Qm.nextV_yes hy]
    unfold Qm.toldB
    rw [H.nam]
    rfl
  · have := three l1 (by omega)
    rw [← Qm.lastB_list] at this
    simpa using this
  · have := (enc_of l1).2.2.2
    rw [← Qm.lastB_list] at this
    simpa using this

end Go.Proofs.Ytnjlfbcfnmdkkab.qminLong
