/- What the landed token's run and whole give. No condition. -/
import Derived.Test.YtgabeacpgmomhaaDoorTokLib
import Derived.Test.YtgabeacpgmomhaaDoorResBox
import Derived.Test.YtgabeacpgmomhaaDoorLetters
namespace Go.Proofs.YtgabeacpgmomhaaDoor
open Go.RowKit

theorem pieceSize : (Tryd.prog.info? 45).map (·.size) = some 3 := by kernel_rfl
def pcCells (k : Int) (x : ByteArray) (n : Int) : Array Value := #[.int .i64 k, .string x, .int .i64 n]

set_option maxHeartbeats 1000000 in
theorem run_any (s cs : ByteArray) (p : UInt8 → Bool) (hp : ∀ c, cs.data.toList.contains c = p c) (hz : cs.size ≤ 1000) (hcs : cs.data.toList.all (fun b => decide (b.toNat < 128)) = true) (hs : s.size ≤ 1000000) (w : World) :
    Calls Tryd.prog 21 #[.string s, .string cs] w (Quietly (.int .i64 (runLen p s.data.toList : Nat)) w) := by
  have HT := Lib.hid (trim_any s cs w hz hcs)
  have hle := run_le p s.data.toList
  have hT : (strOf (s.data.toList.dropWhile (cs.data.toList.contains ·))).size + runLen p s.data.toList = s.size := by
    rw [strOf_size, show (fun x => cs.data.toList.contains x) = p from funext hp, run_drop, List.length_drop, Lib.size_eq]
    omega
  obtain ⟨T, hTe⟩ : ∃ T, T = strOf (s.data.toList.dropWhile (cs.data.toList.contains ·)) := ⟨_, rfl⟩
  obtain ⟨n, hn⟩ : ∃ n, n = runLen p s.data.toList := ⟨_, rfl⟩
  rw [← hTe] at HT hT
  rw [← hn] at hT ⊢
  have hI : (s.size : Int) - (T.size : Int) = (n : Int) := by omega
  clear hTe hn hle hp hcs
  go_enter Tryd.func21, Tryd.ntmps21
  go_wp2_with fail
  refine (HT.out).mono ?_
  rintro r wx ⟨rfl, hb⟩
  go_wp2_with fail
  go_ret
  exact ⟨by first | rfl | (rw [hI]; rfl), hb⟩

set_option maxHeartbeats 1000000 in
theorem whole_any (k : Int) (x : ByteArray) (w : World) :
    Calls Tryd.prog 22 #[.int .i64 k, .string x] w (Quietly (.agg (pcCells k x x.size)) w) := by
  go_enter Tryd.func22, Tryd.ntmps22
  go_wp2_with fail
  refine bodyPost_ret (results_box rfl _ _ w.heap.size 45 _ rfl (Box.new _ _ _) _ Tryd.underlying45 rfl pieceSize) rfl ⟨rfl, below_alloc (Below.refl _ _) (Nat.le_refl _) _⟩

/-- What a function that looks at a text's beginning gives. -/
def PieceRes (t : Option (Int × List UInt8 × Nat)) (w : World) : Ending → World → Prop := fun r w' => r = .returned (match t with
  | none => .tuple #[.agg (pcCells 0 ⟨#[]⟩ 0), .bool false]
  | some v => .tuple #[.agg (pcCells v.1 (strOf v.2.1) (v.2.2 : Nat)), .bool true]) ∧ Below w.heap.size w w'

theorem piece_start (w : World) : Box (w.alloc (.cells #[.int .i64 0, .string ⟨#[]⟩, .int .i64 0] 45)) w.heap.size 45 #[.int .i64 0, .string ⟨#[]⟩, .int .i64 0] ∧ Below w.heap.size w (w.alloc (.cells #[.int .i64 0, .string ⟨#[]⟩, .int .i64 0] 45)) :=
  ⟨Box.new _ _ _, below_alloc (Below.refl _ _) (Nat.le_refl _) _⟩

/-- What is known of a piece's cells. -/
theorem box_cells {w : World} {g : Nat} {T : TypeId} {a b c : Value} (h : Box w g T #[a, b, c]) :
    w.cell? ⟨g, 0, none⟩ = some a ∧ w.cell? ⟨g, 1, none⟩ = some b ∧ w.cell? ⟨g, 2, none⟩ = some c ∧ w.frozen? ⟨g, 0, none⟩ = false ∧ w.frozen? ⟨g, 1, none⟩ = false ∧ w.frozen? ⟨g, 2, none⟩ = false ∧ g < w.heap.size :=
  ⟨h.cell 0, h.cell 1, h.cell 2, h.free 0, h.free 1, h.free 2, h.lt⟩

theorem set3_below {B g : Nat} {w w1 : World} (hB : B ≤ g) (h : Below B w w1) (a b c : Value) : Below B w (((w1.setCell ⟨g, 0, none⟩ a).setCell ⟨g, 1, none⟩ b).setCell ⟨g, 2, none⟩ c) :=
  below_set hB (below_set hB (below_set hB h))

theorem ext_drop (s : ByteArray) (k : Nat) : (s.extract k s.size).data.toList = s.data.toList.drop k := by
  rw [take_str, strOf_data, List.take_of_length_le]
  rw [List.length_drop, ← Lib.size_eq]
  exact Nat.le_refl _
theorem ext_take (s : ByteArray) (k : Nat) : (s.extract 0 k).data.toList = s.data.toList.take k := by
  rw [take_str, strOf_data]
  rfl
theorem ext_of (s : ByteArray) (i k : Nat) (l : List UInt8) (h : s.data.toList.drop i = l) : s.extract i k = strOf (l.take (k - i)) := by rw [take_str, h]

end Go.Proofs.YtgabeacpgmomhaaDoor
