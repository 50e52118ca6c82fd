/- strings.Fields as a contract at this translation; what is laid at the start. No condition. -/
import Derived.Test.YtbibliakakjkiaaDoorShelf
import Derived.Test.YtbibliakakjkiaaDoorCallFace
import Derived.Shelf.Strings.Fields
import Derived.Lib.LaidTab
import Derived.Lib.AppendIntMem
namespace Go.Proofs.YtbibliakakjkiaaDoor
open Go.RowKit

/-- What the start lays, as far as the landed code reads it. -/
structure Laid (w : World) : Prop where
  tab : Lib.TabIs Tryd.prog w "strings.asciiSpace" .u8 Lib.asciiSpaceTab

theorem Laid.below {w w' : World} (h : Laid w) (hb : Below w.heap.size w w') : Laid w' := ⟨(Lib.tabBelow_of_tabIs h.tab) w' hb⟩

theorem fields_any (l : List UInt8) (w : World) (hL : Laid w) (hs : l.length ≤ 1000) (ha : ∀ b ∈ l, b.toNat < 128) :
    Calls Tryd.prog 22 #[.string (strOf l)] w fun e w' =>
      e = .returned (.slice (some ⟨w.heap.size, 0, none⟩) (Lib.fields l).length (Lib.fields l).length) ∧ w' = w.alloc (.cells (strsV (Lib.fields l)).toArray 9) :=
  Calls.mono (f := 22) (Any.strings_Fields Tryd.lays157 (by kernel_rfl) (by kernel_rfl) (strOf l) w (by rw [strOf_size]; omega) (fun j b hb => ha b (List.mem_of_getElem? hb)) hL.tab) fun e w' ⟨he, hw⟩ => ⟨he, hw⟩

/-- A call's params as one text. -/
def joinSp : List (List UInt8) → List UInt8
  | [] => []
  | [x] => x
  | x :: y :: r => x ++ 32 :: joinSp (y :: r)

/-- A row of the landed table, as cells. -/
def landVals (r : RowV) : List Value := [.string (strOf r.name), .string (strOf (joinSp r.params)), .int .i64 r.amd, .int .i64 r.x86, .int .i64 r.arm]

theorem split_join : ∀ r ∈ callTab, Lib.fields (joinSp r.params) = r.params := by decide +kernel
theorem join_ascii : ∀ r ∈ callTab, ∀ b ∈ joinSp r.params, b.toNat < 128 := by decide +kernel
theorem join_short : ∀ r ∈ callTab, (joinSp r.params).length ≤ 1000 := by decide +kernel

theorem params_any (r : RowV) (hr : r ∈ callTab) (w : World) (hL : Laid w) :
    Calls Tryd.prog 22 #[.string (strOf (joinSp r.params))] w fun e w' =>
      e = .returned (.slice (some ⟨w.heap.size, 0, none⟩) r.params.length r.params.length) ∧ w' = w.alloc (.cells (strsV r.params).toArray 9) := by
  have h := fields_any (joinSp r.params) w hL (join_short r hr) (join_ascii r hr)
  rw [split_join r hr] at h
  exact h

end Go.Proofs.YtbibliakakjkiaaDoor
