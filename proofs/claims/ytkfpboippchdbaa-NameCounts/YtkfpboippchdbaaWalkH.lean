/- Strings made of bytes that have just been laid; contracts said over the bytes of a string. -/
import Derived.Test.YtkfpboippchdbaaWalkG
import Derived.Laws.Concat
namespace Go.Proofs.Ytkfpboippchdbaa
open Go.RowKit
open Pl

theorem lay {w b : World} (h : Below w.heap.size w b) (o : Obj) : Below w.heap.size w (b.alloc o) := h.alloc h.size o

theorem conv_lit (l : List UInt8) (u : World) : (convert 32 9 (.slice (some ⟨u.heap.size, 0, none⟩) l.length l.length)).run Try.prog (u.alloc (.cells (l.map bv).toArray 5)) = .ok (.string ⟨l.toArray⟩) (u.alloc (.cells (l.map bv).toArray 5)) := by
  refine run_convert_bytes_back _ 32 9 5 ⟨u.heap.size, 0, none⟩ l.length l Try.underlying32 Try.underlying5 Try.underlying9 fun j hj => ?_
  refine World.news_of_block (heap_alloc_new u (.cells (l.map bv).toArray 5)) j _ ?_
  simp [hj, bv]

end Go.Proofs.Ytkfpboippchdbaa
