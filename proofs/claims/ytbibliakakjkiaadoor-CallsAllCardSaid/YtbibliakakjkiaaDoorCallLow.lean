/- What the landed rows, row.number, kind, Value, Arches and Number give. -/
import Derived.Test.YtbibliakakjkiaaDoorCallLib
import Derived.OwnWalk
namespace Go.Proofs.YtbibliakakjkiaaDoor
open Go.RowKit

set_option maxRecDepth 100000 in
set_option maxHeartbeats 2000000 in
theorem land_rows (w : World) : Calls Tryd.prog 17 #[] w fun r w' => ∃ A, r = .returned (.slice A 17 17) ∧ Lies w' w'.heap.size 5 A 17 (callTab.flatMap landVals) ∧ Below w.heap.size w w' := by
  have H1 := Lib.hid (lies_new (w := w) (t := 44) (cs := (callTab.flatMap landVals).toArray) (xs := callTab.flatMap landVals) w.heap.size 17 5 rfl rfl rfl)
  have H2 : Hid (Below w.heap.size w (w.alloc (.cells (callTab.flatMap landVals).toArray 44))) := (Below.refl _ _).alloc (Nat.le_refl _) _
  go_enter Tryd.func17, Tryd.ntmps17
  go_wp2
  go_ret
  exact ⟨some ⟨w.heap.size, 0, none⟩, rfl, H1.out, H2.out⟩

set_option maxRecDepth 100000 in
set_option maxHeartbeats 1000000 in
theorem land_number (r : RowV) (s : ByteArray) (w : World) : Calls Tryd.prog 21 #[.agg #[.string (strOf r.name), .string (strOf (joinSp r.params)), .int .i64 r.amd, .int .i64 r.x86, .int .i64 r.arm], .string s] w fun e w' => e = .returned (.int .i64 (selOf s.data.toList r)) ∧ Below w.heap.size w w' := by
  have HB := Lib.hid (Box.new w 44 #[.string (strOf r.name), .string (strOf (joinSp r.params)), .int .i64 r.amd, .int .i64 r.x86, .int .i64 r.arm])
  have HN : Hid (Below w.heap.size w (w.alloc (.cells #[.string (strOf r.name), .string (strOf (joinSp r.params)), .int .i64 r.amd, .int .i64 r.x86, .int .i64 r.arm] 44))) := (Below.refl _ _).alloc (Nat.le_refl _) _
  rcases arch_kinds s with ⟨b1, h⟩ | ⟨b1, b2, h⟩ | ⟨b1, b2, b3, h⟩ | ⟨b1, b2, b3, h1, h2, h3⟩
  · rw [sel_arm h]
    clear h
    unfold armB at b1
    go_enter Tryd.func21, Tryd.ntmps21
    go_wp2
    go_ret
    exact ⟨rfl, HN.out⟩
  · rw [sel_x86 h]
    clear h
    unfold armB at b1
    unfold x86B at b2
    go_enter Tryd.func21, Tryd.ntmps21
    go_wp2
    go_ret
    exact ⟨rfl, HN.out⟩
  · rw [sel_amd h]
    clear h
    unfold armB at b1
    unfold x86B at b2
    unfold amdB at b3
    go_enter Tryd.func21, Tryd.ntmps21
    go_wp2
    go_ret
    exact ⟨rfl, HN.out⟩
  · rw [sel_none h1 h2 h3]
    clear h1 h2 h3
    unfold armB at b1
    unfold x86B at b2
    unfold amdB at b3
    go_enter Tryd.func21, Tryd.ntmps21
    go_wp2
    go_ret
    exact ⟨rfl, HN.out⟩

set_option maxRecDepth 100000 in
theorem land_arches (w : World) : Calls Tryd.prog 16 #[] w (TheArches w) := by
  have H1 := Lib.hid (lies_new (w := w) (t := 9) (cs := (strsV [armB, x86B, amdB]).toArray) (xs := strsV [armB, x86B, amdB]) w.heap.size 3 1 rfl rfl rfl)
  have H2 : Hid (Below w.heap.size w (w.alloc (.cells (strsV [armB, x86B, amdB]).toArray 9))) := (Below.refl _ _).alloc (Nat.le_refl _) _
  go_enter Tryd.func16, Tryd.ntmps16
  go_wp2
  go_ret
  exact ⟨some ⟨w.heap.size, 0, none⟩, 3, rfl, Nat.le_refl _, H1.out, H2.out⟩

set_option maxRecDepth 100000 in
theorem land_arch (s : ByteArray) (w : World) : Calls Tryd.prog 7 #[.string s] w (U32Bool (numberOf s.data.toList) w) := by
  rcases arch_kinds s with ⟨b1, h⟩ | ⟨b1, b2, h⟩ | ⟨b1, b2, b3, h⟩ | ⟨b1, b2, b3, h1, h2, h3⟩
  · rw [number_arm h]
    clear h
    unfold armB at b1
    go_enter Tryd.func7, Tryd.ntmps7
    go_wp2
    go_ret2
    exact ⟨rfl, Below.refl _ _⟩
  · rw [number_x86 h]
    clear h
    unfold armB at b1
    unfold x86B at b2
    go_enter Tryd.func7, Tryd.ntmps7
    go_wp2
    go_ret2
    exact ⟨rfl, Below.refl _ _⟩
  · rw [number_amd h]
    clear h
    unfold armB at b1
    unfold x86B at b2
    unfold amdB at b3
    go_enter Tryd.func7, Tryd.ntmps7
    go_wp2
    go_ret2
    exact ⟨rfl, Below.refl _ _⟩
  · rw [number_none h1 h2 h3]
    clear h1 h2 h3
    unfold armB at b1
    unfold x86B at b2
    unfold amdB at b3
    go_enter Tryd.func7, Tryd.ntmps7
    go_wp2
    go_ret2
    exact ⟨rfl, Below.refl _ _⟩

/-! ### The actions' values -/
def kindOf (k : Int) : Int × Int × Bool :=
  if k = 1 then (2147483648, 0, true) else if k = 2 then (0, 0, true) else if k = 3 then (196608, 65535, true) else if k = 4 then (327680, 65535, true) else if k = 5 then (2146435072, 65535, true)
  else if k = 6 then (2147221504, 0, true) else if k = 7 then (2147418112, 0, true) else (0, 0, false)

set_option maxRecDepth 100000 in
theorem land_kind (k : Int) (w : World) : Calls Tryd.prog 19 #[.int .i64 k] w fun e w' => e = .returned (.tuple #[.int .u32 (kindOf k).1, .int .i64 (kindOf k).2.1, .bool (kindOf k).2.2]) ∧ w' = w := by
  by_cases h : k = 1 ∨ k = 2 ∨ k = 3 ∨ k = 4 ∨ k = 5 ∨ k = 6 ∨ k = 7
  · rcases h with rfl | rfl | rfl | rfl | rfl | rfl | rfl
    all_goals
      go_enter Tryd.func19, Tryd.ntmps19
      go_wp2
      go_ret3
      exact ⟨rfl, rfl⟩
  · have e : kindOf k = (0, 0, false) := by
      unfold kindOf
      rw [if_neg (by omega), if_neg (by omega), if_neg (by omega), if_neg (by omega), if_neg (by omega), if_neg (by omega), if_neg (by omega)]
    rw [e]
    have h1 : ¬ k = 1 := by omega
    have h2 : ¬ k = 2 := by omega
    have h3 : ¬ k = 3 := by omega
    have h4 : ¬ k = 4 := by omega
    have h5 : ¬ k = 5 := by omega
    have h6 : ¬ k = 6 := by omega
    have h7 : ¬ k = 7 := by omega
    clear h e
    go_enter Tryd.func19, Tryd.ntmps19
    go_wp2
    go_ret3
    exact ⟨rfl, rfl⟩

end Go.Proofs.YtbibliakakjkiaaDoor
