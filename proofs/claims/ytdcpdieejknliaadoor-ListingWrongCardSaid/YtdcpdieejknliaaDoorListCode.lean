/- The landed listing says what its contracts state, where the start has laid what it reads. -/
import Derived.Test.YtdcpdieejknliaaDoorListOut
import Derived.Test.YtdcpdieejknliaaDoorListRead
import Derived.Test.YtdcpdieejknliaaDoorListFace
namespace Go.Proofs.YtdcpdieejknliaaDoor
open Go.RowKit

theorem list_says : ListSays Laid where
  keep := fun _ _ h hb => h.below hb
  shows := fun A n c l w hL hl hok hn => show_any A n c l w hL hl hok hn
  read := fun s w hL hs => read_any s w hL hs

end Go.Proofs.YtdcpdieejknliaaDoor
