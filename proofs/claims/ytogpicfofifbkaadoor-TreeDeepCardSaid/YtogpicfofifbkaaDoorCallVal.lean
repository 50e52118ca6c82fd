/- What the document's own Value gives. -/
import Derived.Test.YtogpicfofifbkaaDoorCallTab
import Derived.Test.YtogpicfofifbkaaDoorStr
import Derived.Test.YtogpicfofifbkaaDoorChecked
namespace Go.Proofs.YtogpicfofifbkaaDoor
open Go.RowKit

end Go.Proofs.YtogpicfofifbkaaDoor
