/- What the document's own Depth gives. -/
import Derived.Test.YtogpicfofifbkaaDoorTreePlain
import Derived.Test.YtogpicfofifbkaaDoorLetters
import Derived.Test.YtogpicfofifbkaaDoorChecked
namespace Go.Proofs.YtogpicfofifbkaaDoor
open Go.RowKit

def Deeper (e : Ex) (ks : List Ex) (w : World) (n i : Value) (wr : World) : Prop :=
  (∃ k : Nat, k ≤ ks.length ∧ i = .int .i64 k ∧ n = .int .i64 (depthsOf 0 (ks.take k) : Nat)) ∧ Below w.heap.size w wr ∧ Box wr w.heap.size 26 e.cells.toArray

end Go.Proofs.YtogpicfofifbkaaDoor
