/- What the landed code of package record says. -/
import Derived.Test.YthcmbfeifehilaaRecRead
namespace Go.Proofs.Ythcmbfeifehilaa
open Go.RowKit

theorem rec_says : RecSays := ⟨bytes_any, fun A n c l w hl hnc _ => recRead_any A n c l w hl hnc, word_any⟩

end Go.Proofs.Ythcmbfeifehilaa
