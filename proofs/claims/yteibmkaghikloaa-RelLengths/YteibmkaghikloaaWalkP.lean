/- Small laws: bits, new rows of bytes, strings made of them. -/
import Derived.Test.YteibmkaghikloaaWalkO
import Derived.Test.YteibmkaghikloaaPlainK
import Derived.Laws.Bits128
namespace Go.Proofs.Yteibmkaghikloaa
open Go.RowKit
open Pl

theorem i64_and63 (n : Int) : bits .and .i64 n 63 = n % 64 := by
  have h63 : (BitVec.ofInt 64 63).toNat = 2 ^ 6 - 1 := by decide
  have key : (BitVec.ofInt 64 n &&& BitVec.ofInt 64 63).toNat = (n % ((2 ^ 64 : Nat) : Int)).toNat % 2 ^ 6 := by
    rw [BitVec.toNat_and, BitVec.toNat_ofInt, h63, Nat.and_two_pow_sub_one_eq_mod]
  show IntKind.i64.wrap ((BitVec.ofInt 64 n &&& BitVec.ofInt 64 63).toNat : Nat) = n % 64
  rw [key, IntKind.wrap_i64]
  omega

theorem conv_at (u : World) (g : Nat) (l : List UInt8) (n : Nat) (hn : l.length = n) (cs : Array Value) (hcs : cs = (l.map bv).toArray) (hh : u.heap[g]? = some (.cells cs 5)) :
    (convert 40 9 (.slice (some ⟨g, 0, none⟩) n n)).run Try.prog u = .ok (.string ⟨l.toArray⟩) u := by
  subst hn
  subst hcs
  refine run_convert_bytes_back _ 40 9 5 ⟨g, 0, none⟩ l.length l Try.underlying40 Try.underlying5 Try.underlying9 fun j hj => ?_
  refine World.news_of_block hh j _ ?_
  simp [hj, bv]

theorem new_at (w : World) (o : Obj) : (w.alloc o).drew.heap[w.heap.size]? = some o := heap_alloc_new w o
theorem new_under (w : World) (o p : Obj) : ((w.alloc o).alloc p).drew.heap[w.heap.size]? = some o := (Below.heap_alloc (w.alloc o) p w.heap.size (by simp)).trans (heap_alloc_new w o)
theorem new_over (w : World) (o p : Obj) : ((w.alloc o).alloc p).drew.heap[w.heap.size + 1]? = some p := by
  have := heap_alloc_new (w.alloc o) p
  rw [show (w.alloc o).heap.size = w.heap.size + 1 from by simp] at this
  exact this

theorem app_list (a b : ByteArray) : (a ++ b).data.toList = a.data.toList ++ b.data.toList := by simp

theorem size_app (a b : ByteArray) : (a ++ b).size = a.size + b.size := by simp
theorem size_one (x : UInt8) : ({ data := #[x] } : ByteArray).size = 1 := rfl

theorem made_zero (n : Nat) : madeCells #[.int .u8 0] n = ((List.replicate n (0 : UInt8)).map bv).toArray := by
  apply Array.ext
  · simp [madeCells]
  · intro i h1 h2
    simp [madeCells, bv, Nat.mod_one]

/-- A string of so many bytes, each of them zero. -/
theorem zeros (k : Nat) : ∃ x : ByteArray, x.data.toList = List.replicate k 0 ∧ x.size = k :=
  ⟨⟨(List.replicate k 0).toArray⟩, by simp, by rw [← data_len]; simp⟩

/-- Bytes that have just been made become a string. -/
theorem wpList_zeros (w : World) {ops : Array Oper} {rest : List Oper} {o : Oper} {a : Act} {Q : Exit → Act → World → Prop} (hgd : o.guard = none) (y : Operand)
    (ho : o.op = .convert 40 9 y) (base n : Nat) (v : Value) (s : ByteArray) (hy : a.eval y = v) (hs : s.data.toList = List.replicate n 0) (hown : w.ownsRow base 5 1 v n (madeCells #[.int .u8 0] (n * 1)).toList)
    (h : wpList Try.prog ops Q rest (a.put o.dst (.string s)) w) : wpList Try.prog ops Q (o :: rest) a w := by
  rw [Nat.mul_one, made_zero] at hown
  refine wpList_string w hgd y ho base n v (List.replicate n 0) hy (by simpa using hown) ?_
  rw [mk_of hs]
  exact h

end Go.Proofs.Yteibmkaghikloaa
