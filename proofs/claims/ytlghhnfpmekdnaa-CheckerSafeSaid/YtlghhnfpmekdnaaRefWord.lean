/- What the document's own answer Word gives. -/
import Derived.Test.YtlghhnfpmekdnaaData
namespace Go.Proofs.Ytlghhnfpmekdnaa
open Go.RowKit

/-- The number in 'size' bytes from p on. -/
def seg (l : List UInt8) (p size : Nat) : Int := leVal ((l.drop p).take size)
/-- Is there a word? -/
def okOff (off : Int) : Bool := decide (off % 4 = 0) && decide (off ≤ 60)
def wordOf (d : Dat) (off : Int) : Int := if okOff off then seg d.bytes off.toNat 4 else 0

theorem dat_len (d : Dat) : d.bytes.length = 64 := by
  simp [Dat.bytes, leBytes_len]

theorem seg4 (l : List UInt8) (p : Nat) : 0 ≤ seg l p 4 ∧ seg l p 4 < 4294967296 := by
  refine ⟨(leVal_bd _).1, ?_⟩
  have := leVal_le (l := (l.drop p).take 4) (k := 4) (by simp; omega)
  have e : (256 : Int) ^ 4 = 4294967296 := by decide
  rw [e] at this
  exact this

/-- What a function that hands back a number and a bool gives. -/
def Pair (k : IntKind) (n : Int) (b : Bool) (w : World) : Ending → World → Prop :=
  fun r w' => r = .returned (.tuple #[.int k n, .bool b]) ∧ Below w.heap.size w w'

set_option maxRecDepth 100000 in
set_option maxHeartbeats 1000000 in
theorem refWord_any (d : Dat) (off : Int) (w : World) (hd : d.Ok) (h0 : 0 ≤ off) (h1 : off < 4294967296) :
    Calls Try.prog 41 #[d.val, .int .u32 off] w (Pair .u32 (wordOf d off) (okOff off) w) := by
  by_cases h4 : off % 4 = 0
  · by_cases h60 : off ≤ 60
    · have hok : okOff off = true := by simp [okOff, h4, h60]
      have hw : wordOf d off = seg d.bytes off.toNat 4 := by unfold wordOf; rw [hok]; rfl
      have hb4 : (off % 4 != 0) = false := by rw [bne_eq_false_iff_eq]; exact h4
      obtain ⟨p, rfl⟩ := Int.eq_ofNat_of_zero_le h0
      have HOK := Lib.hid hok
      have HW := Lib.hid hw
      have HSG := Lib.hid (seg4 d.bytes p)
      clear hok hw h4 h1
      unfold Dat.val Dat.cells
      go_enter Try.func41, Try.ntmps41
      go_wp2_with fail
      refine (refBytes_any d _ hd).mono ?_
      rintro r w1 ⟨v1, rfl, hown1, hb1⟩
      have hnx1 : Below w.heap.size w w1 := ((Below.refl _ _).alloc (Nat.le_refl _) _).trans (hb1.mono (by simp))
      obtain ⟨A1, k1, rfl, hk1, hl1⟩ := own_form hown1
      clear hown1 hb1
      go_wp2_with fail
      refine (get_any A1 64 k1 d.bytes p 4 _ hl1 (by omega) (by omega) (by omega)).mono ?_
      rintro r w2 ⟨rfl, rfl⟩
      rw [show leVal ((d.bytes.drop p).take 4) = seg d.bytes p 4 from rfl]
      obtain ⟨V, hV⟩ : ∃ V, V = seg d.bytes p 4 := ⟨_, rfl⟩
      have hs0 := HSG.out.1
      have hs1 := HSG.out.2
      rw [← hV] at hs0 hs1 ⊢
      have HV := Lib.hid hV
      clear hV
      go_wp2
      go_ret2
      refine ⟨?_, hnx1⟩
      rw [HOK.out, HW.out, Int.toNat_natCast, ← HV.out]
      rfl
    · have hok : okOff off = false := by simp [okOff, h60]
      have hw : wordOf d off = 0 := by unfold wordOf; rw [hok]; rfl
      have hb4 : (off % 4 != 0) = false := by rw [bne_eq_false_iff_eq]; exact h4
      have HOK := Lib.hid hok
      have HW := Lib.hid hw
      clear hok hw h4
      unfold Dat.val Dat.cells
      go_enter Try.func41, Try.ntmps41
      go_wp2
      go_ret2
      refine ⟨?_, (Below.refl _ _).alloc (Nat.le_refl _) _⟩
      rw [HOK.out, HW.out]
      rfl
  · have hok : okOff off = false := by simp [okOff, h4]
    have hw : wordOf d off = 0 := by unfold wordOf; rw [hok]; rfl
    have hb4 : (off % 4 != 0) = true := by rw [bne_iff_ne]; exact h4
    have HOK := Lib.hid hok
    have HW := Lib.hid hw
    clear hok hw h4
    unfold Dat.val Dat.cells
    go_enter Try.func41, Try.ntmps41
    go_wp2
    go_ret2
    refine ⟨?_, (Below.refl _ _).alloc (Nat.le_refl _) _⟩
    rw [HOK.out, HW.out]
    rfl

end Go.Proofs.Ytlghhnfpmekdnaa
