/- What package listing's functions say: to be shown of the code as it landed; the statements' own test of the document's example. -/
import Derived.Test.YtdcpdieejknliaaDoorListPlain
import Derived.Test.YtdcpdieejknliaaDoorSame
import Derived.Test.YtdcpdieejknliaaDoorStore
namespace Go.Proofs.YtdcpdieejknliaaDoor
open Go.RowKit

/-- L: what the functions lean on of what lies there when they are called; it stands whatever is made behind. -/
structure ListSays (L : World → Prop) : Prop where
  keep : ∀ w w', L w → Below w.heap.size w w' → L w'
  shows : ∀ (A : Option Addr) (n c : Nat) (l : List Ins) (w : World), L w → Lies w w.heap.size 4 A n (cellsOf l) → (∀ y ∈ l, y.Ok) → n ≤ 4294967296 →
    Calls Tryd.prog 9 #[.slice A n c] w fun e w' => e = .returned (.string (strOf (showOf l))) ∧ Below w.heap.size w w'
  read : ∀ (s : ByteArray) (w : World), L w → s.size ≤ 4294967280 → Calls Tryd.prog 7 #[.string s] w (ReadIs (readOf s.data.toList) w)

variable {L : World → Prop}

theorem lnum_any (n : Int) (w : World) :
    Calls Tryd.prog 12 #[.int .i64 n] w fun e w' => e = .returned (.int .i64 n) ∧ w = w' := by
  go_enter Tryd.func12, Tryd.ntmps12
  go_wp2
  go_ret
  exact ⟨rfl, rfl⟩

def seven5 : List Ins := [⟨6, 0, 0, 7⟩]
theorem seven5_ok : ∀ y ∈ seven5, y.Ok := by
  intro y hy
  obtain rfl : y = ⟨6, 0, 0, 7⟩ := by simpa [seven5] using hy
  exact ⟨by decide, by decide, by decide, by decide, by decide, by decide, by decide, by decide⟩
def sevenText : List UInt8 := [114, 101, 116, 107, 32, 48, 32, 48, 32, 55, 10]
theorem seven5_show : showOf seven5 = sevenText := by
  have h : nameText 6 = [114, 101, 116, 107] := rfl
  simp [showOf, seven5, Ins.fits, inB, showLine, h, dec_small, dig, sevenText]
theorem seven5_read : readOf sevenText = (seven5, -1, 0) := by
  rw [← seven5_show]
  exact read_show _ rfl (fun x hx => ⟨(seven5_ok x hx).k0, (seven5_ok x hx).k1⟩)

set_option maxRecDepth 100000 in
set_option maxHeartbeats 1000000 in
theorem lalive_any (R : ListSays L) (w : World) (hw : L w) : Calls Tryd.prog 6 #[] w fun e w' => e = .returned (.bool true) ∧ Below w.heap.size w w' := by
  have HR : Hid (∀ W : World, Below w.heap.size w W → Calls Tryd.prog 7 #[.string ⟨#[114, 101, 116, 107, 32, 48, 32, 48, 32, 55, 10]⟩] W (ReadIs (seven5, -1, 0) W)) := fun W hW => by
    have := R.read (strOf sevenText) W (R.keep w W hw hW) (by rw [strOf_size]; decide)
    rw [strOf_data, seven5_read] at this
    exact this
  have HS : Hid (∀ (A : Option Addr) (W : World), Below w.heap.size w W → Lies W W.heap.size 4 A 1 (cellsOf seven5) → Calls Tryd.prog 9 #[.slice A 1 1] W fun e w' => e = .returned (.string (strOf sevenText)) ∧ Below W.heap.size W w') := fun A W hW h => by
    have := R.shows A 1 1 seven5 W (R.keep w W hw hW) h seven5_ok (by decide)
    rw [seven5_show] at this
    exact this
  have hq : ((strOf sevenText).toList == [114, 101, 116, 107, 32, 48, 32, 48, 32, 55, 10]) = true := by rw [strOf_toList]; rfl
  go_enter Tryd.func6, Tryd.ntmps6
  go_wp2_with fail
  refine (HR.out _ (Below.refl _ _)).mono ?_
  rintro r w1 ⟨v1, rfl, hown, hb1⟩
  obtain ⟨A1, k1, rfl, hk1, hl1⟩ := own_form hown
  clear hown hl1
  go_wp2_with fail
  refine (HS.out _ _ (hb1.alloc hb1.size _) (lies_new _ 1 4 rfl rfl rfl)).mono ?_
  rintro r w2 ⟨rfl, hb2⟩
  have HB := Lib.hid (below_step ((hb1.alloc hb1.size _)) (Nat.le_refl _) hb2)
  clear hb1 hb2
  go_wp2_with (go_at_call 12; refine (lnum_any _ _).mono ?_; rintro r w3 ⟨rfl, rfl⟩)
  go_ret
  exact ⟨rfl, HB.out⟩

end Go.Proofs.YtdcpdieejknliaaDoor
