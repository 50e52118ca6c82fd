/- May an instruction be written? What the document's own answer gives. -/
import Derived.Test.YtdcpdieejknliaaDoorIns
import Derived.Test.YtdcpdieejknliaaDoorChecked
namespace Go.Proofs.YtdcpdieejknliaaDoor
open Go.RowKit

def inB (n m : Int) : Bool := decide (0 ≤ n) && decide (n ≤ m)
/-- May it be written? -/
def Ins.fits (x : Ins) : Bool := inB x.code 65535 && (inB x.jt 255 && inB x.jf 255)

theorem right_any (x : Ins) (w : World) :
    Calls Tryd.prog 19 #[x.val] w fun e w' => e = .returned (.bool x.fits) ∧ Below w.heap.size w w' := by
  obtain ⟨a, b, c, d⟩ := x
  unfold Ins.val
  by_cases ha : 0 ≤ a
  rotate_left
  · go_enter Tryd.func19, Tryd.ntmps19
    go_wp2
    go_ret
    exact ⟨by simp [Ins.fits, inB]; omega, (Below.refl _ _).alloc (Nat.le_refl _) _⟩
  by_cases ha' : a ≤ 65535
  rotate_left
  · go_enter Tryd.func19, Tryd.ntmps19
    go_wp2
    go_ret
    exact ⟨by simp [Ins.fits, inB]; omega, (Below.refl _ _).alloc (Nat.le_refl _) _⟩
  by_cases hb : 0 ≤ b
  rotate_left
  · go_enter Tryd.func19, Tryd.ntmps19
    go_wp2
    go_ret
    exact ⟨by simp [Ins.fits, inB]; omega, (Below.refl _ _).alloc (Nat.le_refl _) _⟩
  by_cases hb' : b ≤ 255
  rotate_left
  · go_enter Tryd.func19, Tryd.ntmps19
    go_wp2
    go_ret
    exact ⟨by simp [Ins.fits, inB]; omega, (Below.refl _ _).alloc (Nat.le_refl _) _⟩
  by_cases hc : 0 ≤ c
  rotate_left
  · go_enter Tryd.func19, Tryd.ntmps19
    go_wp2
    go_ret
    exact ⟨by simp [Ins.fits, inB]; omega, (Below.refl _ _).alloc (Nat.le_refl _) _⟩
  · go_enter Tryd.func19, Tryd.ntmps19
    go_wp2
    go_ret
    exact ⟨by simp [Ins.fits, inB, *], (Below.refl _ _).alloc (Nat.le_refl _) _⟩

end Go.Proofs.YtdcpdieejknliaaDoor
