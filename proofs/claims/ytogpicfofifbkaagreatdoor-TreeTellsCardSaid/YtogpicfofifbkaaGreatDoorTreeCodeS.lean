/- What package tree's Same says, shown of the landed code. No condition. -/
import Derived.Test.YtogpicfofifbkaaGreatDoorPart5
import Derived.Test.YtogpicfofifbkaaGreatDoorTreeSm
namespace Go.Proofs.YtogpicfofifbkaaGreatDoor
open Go.RowKit

theorem same_says : SameSays where
  same := fun u v w hu hv su sv => LandedT.sameUnit_any u v w hu hv su sv

end Go.Proofs.YtogpicfofifbkaaGreatDoor
