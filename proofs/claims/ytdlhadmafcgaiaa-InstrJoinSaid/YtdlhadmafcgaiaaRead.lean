/- What instr.Read gives of any bytes. -/
import Derived.Test.YtdlhadmafcgaiaaOne
namespace Go.Proofs.Ytdlhadmafcgaiaa
open Go.RowKit

/-- The instruction that stands k-th in bytes. -/
def insAt (l : List UInt8) (k : Nat) : Ins := insOf (l.getD (8 * k) 0) (l.getD (8 * k + 1) 0) (l.getD (8 * k + 2) 0) (l.getD (8 * k + 3) 0) (l.getD (8 * k + 4) 0) (l.getD (8 * k + 5) 0) (l.getD (8 * k + 6) 0) (l.getD (8 * k + 7) 0)
def insTake (l : List UInt8) (k : Nat) : List Ins := (List.range k).map (insAt l)
def readOf (l : List UInt8) : List Ins := if l.length % 8 = 0 then insTake l (l.length / 8) else []
def readCode (l : List UInt8) : Int := if l.length % 8 = 0 then 0 else 2

theorem insTake_step (l : List UInt8) (k : Nat) : cellsOf (insTake l (k + 1)) = cellsOf (insTake l k) ++ (insAt l k).cells := by
  simp [insTake, cellsOf, List.range_succ]

theorem insTake_len (l : List UInt8) (k : Nat) : (insTake l k).length = k := by simp [insTake]

/-- What a function that hands back a new slice and a number gives. -/
def NewRow2 (e : TypeId) (size n : Nat) (xs : List Value) (code : Int) (w : World) : Ending → World → Prop :=
  fun r w' => ∃ v, r = .returned (.tuple #[v, .int .i64 code]) ∧ w'.ownsRow w.heap.size e size v n xs ∧ Below w.heap.size w w'

theorem byte_at (l : List UInt8) (j : Nat) (h : j < l.length) : (bytesV l)[j]? = some (byteV (l.getD j 0)) := by
  simp [bytesV, List.getElem?_eq_getElem h, List.getD]

theorem Try.info36 : (Try.prog.info? 36).map (fun i => (i.zero, i.size, i.bytes)) = some (some (.agg #[.int .i64 0, .int .i64 0, .int .i64 0, .int .u32 0]), 4, 32) := by kernel_rfl

set_option maxHeartbeats 1000000 in
theorem read_any (A : Option Addr) (n c : Nat) (l : List UInt8) (w : World) (hl : Lies w w.heap.size 1 A n (bytesV l)) (hnc : n ≤ c) (hn : n ≤ 35184372088832) :
    Calls Try.prog 8 #[.slice A n c] w (NewRow2 36 4 (readOf l).length (cellsOf (readOf l)) (readCode l) w) := by
  obtain ⟨i0, hi, hz0, hz1, hz2⟩ := info_parts Try.info36
  have hln : l.length = n := by have := hl.1; rw [bytesV_length] at this; omega
  by_cases h8 : n % 8 = 0
  · have HR : Hid (readOf l = insTake l (n / 8)) := by unfold Hid readOf; rw [hln, if_pos h8]
    have HC : Hid (readCode l = 0) := by unfold Hid readCode; rw [hln, if_pos h8]
    have hb8 : (((n : Int) % 8) != 0) = false := by simp; omega
    have H8 := Lib.hid h8
    have HL := Lib.hid hln
    clear h8 hln
    go_enter Try.func8, Try.ntmps8
    go_wp2_with (at_make; go_loud (refine wpList_make_own _ rfl _ _ 22 rfl w.heap.size 36 i0 _ 4 Try.underlying22 hi hz0 hz1 .i64 .i64 _ (n / 8) rfl rfl (by omega) (by rw [hz2]; omega) (by unfold maxLen; omega) (Nat.le_refl _) ?_); intro w1 hown1 hg1)
    go_loopw [4, 5] (fun v i wr => ∃ k : Nat, k ≤ n / 8 ∧ i = .int .i64 ((k : Int) * 8) ∧ wr.ownsRow w.heap.size 36 4 v k (cellsOf (insTake l k)) ∧ Below w.heap.size w wr) (fun _ i _ => n - (intOf i).toNat)
    case atStart => exact ⟨0, Nat.zero_le _, rfl, hown1, (Below.refl _ _).grown hg1 (Nat.le_refl _) (by simp)⟩
    case round =>
      obtain ⟨k, hk, rfl, hown, hnx⟩ := hrel
      have hsw := hnx.size
      by_cases hlt : k < n / 8
      · have hlt8 : k * 8 + 8 ≤ n := by omega
        obtain ⟨b, o, rfl, hb, hcell⟩ := hl.2 (by omega)
        have hcl : ∀ j, j < 8 → wr.cell? ⟨b, o + k * 8 + j, none⟩ = some (byteV (l.getD (8 * k + j) 0)) := by
          intro j hj
          have h1 := hcell (8 * k + j) _ (byte_at l (8 * k + j) (by have := HL.out; omega))
          rw [show o + (8 * k + j) = o + k * 8 + j from by omega] at h1
          exact (hnx.cell (p := ⟨b, o + k * 8 + j, none⟩) hb).trans h1
        have HCL := Lib.hid hcl
        clear hcl hcell hown1 hg1
        go_wp2_with fail
        refine (one_any b (o + k * 8) (c - k * 8) _ _ _ _ _ _ _ _ _ (HCL.out 0 (by omega)) (HCL.out 1 (by omega)) (HCL.out 2 (by omega)) (HCL.out 3 (by omega)) (HCL.out 4 (by omega)) (HCL.out 5 (by omega)) (HCL.out 6 (by omega)) (HCL.out 7 (by omega))).mono ?_
        rintro e w2 ⟨rfl, hb2⟩
        simp only [Nat.add_zero]
        rw [show insOf (l.getD (8 * k) 0) (l.getD (8 * k + 1) 0) (l.getD (8 * k + 2) 0) (l.getD (8 * k + 3) 0) (l.getD (8 * k + 4) 0) (l.getD (8 * k + 5) 0) (l.getD (8 * k + 6) 0) (l.getD (8 * k + 7) 0) = insAt l k from rfl]
        generalize hx : insAt l k = x
        have HX := Lib.hid hx
        clear hx
        simp only [Ins.val]
        have hnx2 : Below w.heap.size w w2 := hnx.trans (hb2.mono hsw)
        have hown2 := own_below hown hb2
        have hsz := hb2.size
        clear hb2 hown HCL
        go_wp2_with (at_builtin; go_loud (refine wpList_append_lit _ rfl (.tmp 20) (.tmp 27) _ rfl w.heap.size 36 i0 _ 4 32 Try.underlying22 hi hz0 hz1 hz2 rfl (by omega) _ _ _ rfl hown2 _ _ 1 1 rfl rfl ?c1 ?c2 ?c3 ?c4 ?_))
        case c1 => exact ⟨rfl, rfl, rfl, rfl⟩
        case c2 => unfold maxLen; omega
        case c3 => omega
        case c4 => omega
        · intro v' w' hown3 hg3
          have hnx3 : Below w.heap.size w w' := below_grown (hnx2.alloc (by omega) _) (hown2.alloc _) (Nat.le_refl _) (by simp; omega) hg3
          have hown4 : w'.ownsRow w.heap.size 36 4 v' (k + 1) (cellsOf (insTake l (k + 1))) := by
            rw [insTake_step, HX.out]
            exact hown3
          clear hg3 hown2 hnx2 hown3
          go_wp2
          go_roundw
          case rel => exact ⟨k + 1, by omega, by go_num, hown4, hnx3⟩
          case measure => simp [intOf]; omega
      · obtain rfl : k = n / 8 := by omega
        have hdn : (n : Int) ≤ (n / 8 : Nat) * 8 := by have := H8.out; omega
        go_wp2
        go_ret2
        refine ⟨u4, ?_, ?_, hnx⟩
        · rw [HC.out]
          rfl
        · rw [HR.out, insTake_len]
          exact hown
  · have HR : Hid (readOf l = []) := by unfold Hid readOf; rw [hln, if_neg h8]
    have HC : Hid (readCode l = 2) := by unfold Hid readCode; rw [hln, if_neg h8]
    have hb8 : (((n : Int) % 8) != 0) = true := by simp; omega
    have H8 := Lib.hid h8
    clear h8 hln
    go_enter Try.func8, Try.ntmps8
    go_wp2
    go_ret2
    refine ⟨.slice none 0 0, ?_, ?_, Below.refl _ _⟩
    · rw [HC.out]
      rfl
    · rw [HR.out]
      exact World.ownsRow_nil _ _ _ _

end Go.Proofs.Ytdlhadmafcgaiaa
