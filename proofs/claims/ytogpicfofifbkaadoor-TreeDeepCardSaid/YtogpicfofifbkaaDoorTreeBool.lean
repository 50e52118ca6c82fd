/- What the document's own Bool gives. -/
import Derived.Test.YtogpicfofifbkaaDoorTreeExpr
namespace Go.Proofs.YtogpicfofifbkaaDoor
open Go.RowKit

theorem small_kids {kd nu : Int} {op nm : ByteArray} {A : Option Addr} {c : Nat} {ks : List Ex} (h : ExSmall (.node kd op nm nu A c ks)) : nm.size ≤ 1048576 ∧ ∀ k ∈ ks, ExSmall k := by cases h with | mk _ h2 _ h4 => exact ⟨h2, h4⟩

end Go.Proofs.YtogpicfofifbkaaDoor
