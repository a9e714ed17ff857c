/- What many gives; what a message of many records is. -/
import Derived.Test.YtcapankhobnfeaaXP6
namespace Go.Proofs.Ytcapankhobnfeaa
open Go.RowKit
open Pl

theorem replicate_row {w : World} {B K c : Nat} {y : Option Addr} {r : Rc} (h : w.ownsRow B 54 5 (.slice y K c) K (rC (List.replicate K r))) (hK : K ≤ 1000) (hn : r.n.size ≤ 100000) (hd : r.d.size ≤ 100000) : RRow w (.slice y K c) (List.replicate K r) :=
  ⟨by rw [List.length_replicate]; exact Row.of_own h, by rw [List.length_replicate]; exact small100 (by omega), fun x hx => by obtain ⟨_, rfl⟩ := List.mem_replicate.1 hx; exact ⟨small100 hn, small100 hd⟩⟩

end Go.Proofs.Ytcapankhobnfeaa
