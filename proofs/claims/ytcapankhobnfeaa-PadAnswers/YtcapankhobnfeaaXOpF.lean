/- What Get of package opt gives. -/
import Derived.Test.YtcapankhobnfeaaXP8
namespace Go.Proofs.Ytcapankhobnfeaa
open Go.RowKit

/-- What Get answers. -/
def GetOP (w : World) (O : Ot) (E : Int) (e : Ending) (w' : World) : Prop :=
  ∃ (y : Option Addr) (n cap : Nat), e = .returned (.tuple #[.agg (optC O (.slice y n cap)), .int .i64 E]) ∧ w'.ownsRow w.heap.size 56 2 (.slice y n cap) O.os.length (oC O.os) ∧ Below w.heap.size w w'

theorem get_blks (w : World) (r : Rc) : Blk ((w.alloc (.cells (rrC r) 54)).alloc (.cells (optC otZ (.slice none 0 0)) 50)) w.heap.size (rrC r) 54 ∧ Blk ((w.alloc (.cells (rrC r) 54)).alloc (.cells (optC otZ (.slice none 0 0)) 50)) (w.heap.size + 1) (optC otZ (.slice none 0 0)) 50 ∧ Below w.heap.size w ((w.alloc (.cells (rrC r) 54)).alloc (.cells (optC otZ (.slice none 0 0)) 50)) := by
  have h2 := Blk.new (w.alloc (.cells (rrC r) 54)) (optC otZ (.slice none 0 0)) 50
  rw [show (w.alloc (.cells (rrC r) 54)).heap.size = w.heap.size + 1 from by simp] at h2
  exact ⟨(Blk.new w (rrC r) 54).alloc _, h2, lay (lay (Below.refl _ _) _) _⟩

end Go.Proofs.Ytcapankhobnfeaa
