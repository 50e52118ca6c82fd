/- What the document's own tests of letters and digits give. -/
import Derived.Test.YtogpicfofifbkaaDoorTokPlain
import Derived.Test.YtogpicfofifbkaaDoorChecked
import Derived.Lib.Hide
import Derived.BigQuiet
namespace Go.Proofs.YtogpicfofifbkaaDoor
open Go.RowKit

/-- A value, and nothing turns. -/
def Plainly (v : Value) (w : World) : Ending → World → Prop := fun r w' => r = .returned v ∧ w = w'
/-- A value; the memory stands. -/
def Quietly (v : Value) (w : World) : Ending → World → Prop := fun r w' => r = .returned v ∧ Below w.heap.size w w'
theorem to_quiet {P : Program} {f : Nat} {vs : Array Value} {v : Value} {w : World} (h : Calls P f vs w (Plainly v w)) : Calls P f vs w (Quietly v w) := h.mono fun _ _ ⟨h1, h2⟩ => ⟨h1, h2 ▸ Below.refl _ _⟩

end Go.Proofs.YtogpicfofifbkaaDoor
