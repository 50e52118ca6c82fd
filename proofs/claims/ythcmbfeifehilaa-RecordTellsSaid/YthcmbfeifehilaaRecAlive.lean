/- What the statements' own test of the document's example of chapter 2 gives: true. -/
import Derived.Test.YthcmbfeifehilaaDataPlain
namespace Go.Proofs.Ythcmbfeifehilaa
open Go.RowKit

def d9 : Dat := ⟨0, 9, 0, 0, 0, 0, 0, 0, 0⟩
def d7 : Dat := ⟨7, 0, 0, 0, 0, 0, 0, 0, 0⟩
theorem d9_ok : d9.Ok := ⟨by decide, by decide, by decide, by decide, by decide, by decide, by decide, by decide, by decide⟩
theorem d7_ok : d7.Ok := ⟨by decide, by decide, by decide, by decide, by decide, by decide, by decide, by decide, by decide⟩

theorem rnum_any (n : Int) (w : World) :
    Calls Try.prog 12 #[.int .i64 n] w fun e w' => e = .returned (.int .i64 n) ∧ w = w' := by
  go_enter Try.func12, Try.ntmps12
  go_wp2
  go_ret
  exact ⟨rfl, rfl⟩

set_option maxRecDepth 100000 in
set_option maxHeartbeats 1000000 in
theorem ralive_any (R : RecSays) (w : World) : Calls Try.prog 5 #[] w fun e w' => e = .returned (.bool true) ∧ Below w.heap.size w w' := by
  have hw : wordOf d9 4 = 9 := by
    have e : wordOf d9 4 = seg d9.bytes 4 4 := rfl
    rw [e, seg_arch d9 d9_ok]
    rfl
  have HW := Lib.hid hw
  clear hw
  go_enter Try.func5, Try.ntmps5
  go_wp2_with fail
  refine (R.word d9 4 _ d9_ok (by omega) (by omega)).mono ?_
  rintro r w1 ⟨rfl, hb1⟩
  rw [HW.out, show okOff 4 = true from rfl]
  have hs1 := hb1.size
  go_wp2_with fail
  refine (R.bytes d7 _ d7_ok).mono ?_
  rintro r w2 ⟨v2, rfl, hown2, hb2⟩
  obtain ⟨A2, k2, rfl, hk2, hl2⟩ := own_form hown2
  have hnx2 : Below w.heap.size w w2 := hb1.trans (hb2.mono hs1)
  have hs2 := hnx2.size
  clear hown2 hb1 hb2 hs1
  go_wp2_with fail
  refine (R.read A2 64 k2 d7.bytes _ hl2 hk2 (by omega)).mono ?_
  rintro r w3 ⟨rfl, hb3⟩
  have hnx3 : Below w.heap.size w w3 := hnx2.trans (hb3.mono hs2)
  have hs3 := hnx3.size
  rw [dat_back d7 d7_ok, dat_code]
  unfold Dat.val Dat.cells d7
  dsimp only
  clear hb3 hnx2 hl2
  go_wp2_with (go_at_call 12; refine (rnum_any _ _).mono ?_; rintro e w' ⟨rfl, rfl⟩)
  go_ret
  exact ⟨rfl, hnx3.alloc hs3 _⟩

end Go.Proofs.Ythcmbfeifehilaa
