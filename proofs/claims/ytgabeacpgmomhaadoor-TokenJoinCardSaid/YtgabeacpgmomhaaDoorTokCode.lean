/- What the landed token's Split gives, at every text. No condition but what the start lays. -/
import Derived.Test.YtgabeacpgmomhaaDoorTokLand
import Derived.Test.YtgabeacpgmomhaaDoorTokFace
namespace Go.Proofs.YtgabeacpgmomhaaDoor
open Go.RowKit

set_option maxRecDepth 100000 in
set_option maxHeartbeats 4000000 in
/-- A text that is too long. -/
theorem split_long (s : ByteArray) (file : Int) (w : World) (hs : 20000 < s.size) (hs2 : s.size ≤ 1099511627776) :
    Calls Tryd.prog 8 #[.string s, .int .i64 file] w (SplitRes file (.error (9, 1, 1)) w) := by
  have HAT : Hid (∀ W : World, Calls Tryd.prog 12 #[.string s, .int .i64 0] W fun e w' => e = .returned (.complex .f64 (fl ((1 : Nat) : Int)) (fl ((1 : Nat) : Int))) ∧ W = w') := fun W => by
    have := at_any s 0 W hs2 (by decide) (by decide)
    have e : posAt s.data.toList 0 = (1, 1) := by
      have := cut_at s 0 (Nat.zero_le _)
      rw [List.take_zero] at this
      exact this
    rw [e] at this
    exact this
  have hst := store_cx
  have HBF := Lib.hid (Box.new w 27 (faultCells 0 0 0 0))
  have HN0 : Hid (Below w.heap.size w (w.alloc (.cells (faultCells 0 0 0 0) 27))) := below_alloc (Below.refl _ _) (Nat.le_refl _) _
  unfold faultCells at HBF HN0
  have hsI : (20000 : Int) < (s.size : Int) := by omega
  clear hs
  go_enter Tryd.func8, Tryd.ntmps8
  go_wp2_with fail
  generalize hw0 : w.alloc (.cells #[.int .i64 0, .int .i64 0, .complex .f64 0 0] 27) = w0 at *
  clear hw0
  refine (HAT.out _).mono ?_
  rintro r w1 ⟨rfl, rfl⟩
  obtain ⟨c0, c1, c2, z0, z1, z2, g0⟩ := box_cells HBF.out
  go_wp2_with fail
  refine bodyPost_ret (results_tmp_box rfl _ _ w.heap.size 27 _ rfl (box_trio HBF.out) _ Tryd.underlying27 rfl faultSize) rfl ⟨.inl ⟨9, (1, 1), none, 0, rfl, rfl⟩, set3_below (Nat.le_refl _) HN0.out _ _ _⟩

theorem split_any_land (s : ByteArray) (file : Int) (w : World) (hL : Laid w) (hs2 : s.size ≤ 1099511627776) :
    Calls Tryd.prog 8 #[.string s, .int .i64 file] w (SplitRes file (splitOf s.data.toList) w) := by
  have hz : s.data.toList.length = s.size := (Lib.size_eq s).symm
  by_cases hs : s.size ≤ 20000
  · have := split_land s file w hs hL
    have e : splitOf s.data.toList = told (splitL s.size (1, 1) s.data.toList) := by
      unfold splitOf
      rw [if_neg (by omega), hz]
      cases splitL s.size (1, 1) s.data.toList <;> rfl
    rw [e]
    exact this
  · have := split_long s file w (by omega) hs2
    have e : splitOf s.data.toList = .error (9, 1, 1) := by
      unfold splitOf
      rw [if_pos (by omega)]
    rw [e]
    exact this

theorem tok_says : TokSays Laid where
  keep _ _ h hb := h.below hb
  split s file w hL hs _ _ := split_any_land s file w hL hs

end Go.Proofs.YtgabeacpgmomhaaDoor
