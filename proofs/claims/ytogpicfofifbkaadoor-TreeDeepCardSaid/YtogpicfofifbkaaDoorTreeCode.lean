/- What package tree's functions say, shown of the landed code: all but Same. No condition. -/
import Derived.Test.YtogpicfofifbkaaDoorTreeFace
import Derived.Test.YtogpicfofifbkaaDoorTreeRt
namespace Go.Proofs.YtogpicfofifbkaaDoor
open Go.RowKit

theorem tree_says : TreeSays (fun _ => True) where
  keep := fun _ _ _ _ => trivial
  name := fun s w _ _ => LandedT.name_any s w
  number := fun e w _ hin _ _ => LandedT.number_any e w hin
  bool := fun e w _ hin _ hd => LandedT.bool_any e w hin hd
  depth := fun e w _ hin _ hd => LandedT.depth_any e w hin hd
  right := fun u w _ hin hs => LandedT.unit_any u w hin hs

end Go.Proofs.YtogpicfofifbkaaDoor
