/- Texts of mine put together (a claim has at most so many files): WcBox, TokRun. -/
import Derived.Test.YtdjhpgpekomjeaaDoorWcFind
import Derived.Test.YtdjhpgpekomjeaaDoorPart6
import Derived.Test.YtdjhpgpekomjeaaDoorTokLib
import Derived.Test.YtdjhpgpekomjeaaDoorPart3
import Derived.Test.YtdjhpgpekomjeaaDoorPart2
/- The landed weave's state, when a box of the call's own is written. No condition. -/
namespace Go.Proofs.YtdjhpgpekomjeaaDoor.LandedW
open Go.RowKit Go.Maps

theorem set3_only (w : World) (g : Nat) (a b c : Value) : w.grownBy (((w.setCell ⟨g, 0, none⟩ a).setCell ⟨g, 1, none⟩ b).setCell ⟨g, 2, none⟩ c) (some g) :=
  only_trans (only_trans (only_set w g 0 a) (only_set _ g 1 b)) (only_set _ g 2 c)

section
variable {X X' : Nat → Prop} {w w' w'' : World} {gr : Nat}
/-- A block that is new to w is written. -/
theorem Moved.after (h : Moved X X' w w') (ho : w'.grownBy w'' (some gr)) (hg : w.heap.size ≤ gr) : Moved X X' w w'' :=
  ⟨ho.os.trans h.os, ho.tape.trans h.tape, ho.output.trans h.output, Nat.le_trans h.size ho.size,
    fun b hb hx => (ho.block b (Nat.lt_of_lt_of_le hb h.size) (fun e => by have := Option.some.inj e; omega)).trans (h.block b hb hx), h.less⟩

/-- Tokens don't lie in a box of numbers. -/
theorem LiesT.other {n : Nat} {A : Option Addr} {xs : List Value} {t : TypeId} {x y : Int} {re im : Nat} (h : LiesT X w 4 A n xs) (hs : 0 < n → ∃ s, xs[1]? = some (.string s)) (hb : Box w gr t #[.int .i64 x, .int .i64 y, .complex .f64 re im]) (ho : w.grownBy w' (some gr)) : LiesT X w' 4 A n xs := by
  refine ⟨h.1, fun hn => ?_⟩
  obtain ⟨b, o, h1, h2, h3, h4⟩ := h.2 hn
  obtain ⟨s, hs⟩ := hs hn
  have hne : b ≠ gr := by
    intro e
    subst e
    have h5 := (hb.cell (o + 1)).symm.trans (h4 1 _ hs)
    rcases o with _ | _ | o
    · simp at h5
    · simp at h5
    · simp at h5
  refine ⟨b, o, h1, Nat.lt_of_lt_of_le h2 ho.size, h3, fun j u hu => ?_⟩
  rw [World.cell?_of_block (w := w) (a := ⟨b, o + j, none⟩) (ho.block b h2 (fun e => hne (Option.some.inj e)))]
  exact h4 j u hu
end

section
variable {C : Came} {R Q : Value} {D : DataW Value} {o : List Nat} {k : Nat} {qs : List Value} {ps : List (List FTok)} {d : Nat} {w w' : World}

theorem Sta.other {t : TypeId} {x y : Int} {re im gr : Nat} (h : Sta C R Q D o k qs ps d w) (hb : Box w gr t #[.int .i64 x, .int .i64 y, .complex .f64 re im]) (hX : ¬ Writes C R Q gr) (hg : C.w.heap.size ≤ gr) (ho : w.grownBy w' (some gr)) : Sta C R Q D o k qs ps d w' := by
  refine ⟨below_only h.below hg h.below.size ho, h.fresh, box_only h.box (fun e => hX (.inl e.symm)) ho, h.map.kept ho (fun e => hX (.inr (.inl (Option.some.inj e).symm))), own_of_ne h.reads ho (fun e => hX (.inr (.inr (.inl e)))), own_of_ne h.runs ho (fun e => hX (.inr (.inr (.inr e)))), h.gm, h.gR, h.gQ, h.mR, h.mQ, h.apart, ?_, h.short, ?_⟩
  · intro i q r hq hr
    obtain ⟨A, c, h1, h2⟩ := h.piece i q r hq hr
    refine ⟨A, c, h1, h2.other (fun hn => ?_) hb ho⟩
    obtain ⟨t, ht⟩ : ∃ t, r[0]? = some t := ⟨_, List.getElem?_eq_getElem hn⟩
    exact ⟨_, (ftok_cells r 0 t ht).2.1⟩
  · intro n f hf hn
    obtain ⟨A, c, t, h1, h2, h3, h4⟩ := h.kept n f hf hn
    refine ⟨A, c, t, h1, h2, h3, h4.other (fun hn => ?_) hb ho⟩
    obtain ⟨u, hu⟩ : ∃ u, t[0]? = some u := ⟨_, List.getElem?_eq_getElem hn⟩
    exact ⟨_, (tok_cells (n : Int) t 0 u hu).2.1⟩
end

end Go.Proofs.YtdjhpgpekomjeaaDoor.LandedW

/- What the landed token's run and whole give. No condition. -/
namespace Go.Proofs.YtdjhpgpekomjeaaDoor
open Go.RowKit

theorem pieceSize : (Tryd.prog.info? 67).map (·.size) = some 3 := by kernel_rfl
def pcCells (k : Int) (x : ByteArray) (n : Int) : Array Value := #[.int .i64 k, .string x, .int .i64 n]

set_option maxHeartbeats 1000000 in
theorem run_any (s cs : ByteArray) (p : UInt8 → Bool) (hp : ∀ c, cs.data.toList.contains c = p c) (hz : cs.size ≤ 1000) (hcs : cs.data.toList.all (fun b => decide (b.toNat < 128)) = true) (hs : s.size ≤ 1000000) (w : World) :
    Calls Tryd.prog 32 #[.string s, .string cs] w (Quietly (.int .i64 (runLen p s.data.toList : Nat)) w) := by
  have HT := Lib.hid (trim_any s cs w hz hcs)
  have hle := run_le p s.data.toList
  have hT : (strOf (s.data.toList.dropWhile (cs.data.toList.contains ·))).size + runLen p s.data.toList = s.size := by
    rw [strOf_size, show (fun x => cs.data.toList.contains x) = p from funext hp, run_drop, List.length_drop, Lib.size_eq]
    omega
  obtain ⟨T, hTe⟩ : ∃ T, T = strOf (s.data.toList.dropWhile (cs.data.toList.contains ·)) := ⟨_, rfl⟩
  obtain ⟨n, hn⟩ : ∃ n, n = runLen p s.data.toList := ⟨_, rfl⟩
  rw [← hTe] at HT hT
  rw [← hn] at hT ⊢
  have hI : (s.size : Int) - (T.size : Int) = (n : Int) := by omega
  clear hTe hn hle hp hcs
  go_enter Tryd.func32, Tryd.ntmps32
  go_wp2_with fail
  refine (HT.out).mono ?_
  rintro r wx ⟨rfl, hb⟩
  go_wp2_with fail
  go_ret
  exact ⟨by first | rfl | (rw [hI]; rfl), hb⟩

set_option maxHeartbeats 1000000 in
theorem whole_any (k : Int) (x : ByteArray) (w : World) :
    Calls Tryd.prog 33 #[.int .i64 k, .string x] w (Quietly (.agg (pcCells k x x.size)) w) := by
  go_enter Tryd.func33, Tryd.ntmps33
  go_wp2_with fail
  refine bodyPost_ret (results_box rfl _ _ w.heap.size 67 _ rfl (Box.new _ _ _) _ Tryd.underlying67 rfl pieceSize) rfl ⟨rfl, below_alloc (Below.refl _ _) (Nat.le_refl _) _⟩

/-- What a function that looks at a text's beginning gives. -/
def PieceRes (t : Option (Int × List UInt8 × Nat)) (w : World) : Ending → World → Prop := fun r w' => r = .returned (match t with
  | none => .tuple #[.agg (pcCells 0 ⟨#[]⟩ 0), .bool false]
  | some v => .tuple #[.agg (pcCells v.1 (strOf v.2.1) (v.2.2 : Nat)), .bool true]) ∧ Below w.heap.size w w'

theorem piece_start (w : World) : Box (w.alloc (.cells #[.int .i64 0, .string ⟨#[]⟩, .int .i64 0] 67)) w.heap.size 67 #[.int .i64 0, .string ⟨#[]⟩, .int .i64 0] ∧ Below w.heap.size w (w.alloc (.cells #[.int .i64 0, .string ⟨#[]⟩, .int .i64 0] 67)) :=
  ⟨Box.new _ _ _, below_alloc (Below.refl _ _) (Nat.le_refl _) _⟩

/-- What is known of a piece's cells. -/
theorem box_cells {w : World} {g : Nat} {T : TypeId} {a b c : Value} (h : Box w g T #[a, b, c]) :
    w.cell? ⟨g, 0, none⟩ = some a ∧ w.cell? ⟨g, 1, none⟩ = some b ∧ w.cell? ⟨g, 2, none⟩ = some c ∧ w.frozen? ⟨g, 0, none⟩ = false ∧ w.frozen? ⟨g, 1, none⟩ = false ∧ w.frozen? ⟨g, 2, none⟩ = false ∧ g < w.heap.size :=
  ⟨h.cell 0, h.cell 1, h.cell 2, h.free 0, h.free 1, h.free 2, h.lt⟩

theorem set3_below {B g : Nat} {w w1 : World} (hB : B ≤ g) (h : Below B w w1) (a b c : Value) : Below B w (((w1.setCell ⟨g, 0, none⟩ a).setCell ⟨g, 1, none⟩ b).setCell ⟨g, 2, none⟩ c) :=
  below_set hB (below_set hB (below_set hB h))

theorem ext_drop (s : ByteArray) (k : Nat) : (s.extract k s.size).data.toList = s.data.toList.drop k := by
  rw [take_str, strOf_data, List.take_of_length_le]
  rw [List.length_drop, ← Lib.size_eq]
  exact Nat.le_refl _
theorem ext_take (s : ByteArray) (k : Nat) : (s.extract 0 k).data.toList = s.data.toList.take k := by
  rw [take_str, strOf_data]
  rfl
theorem ext_of (s : ByteArray) (i k : Nat) (l : List UInt8) (h : s.data.toList.drop i = l) : s.extract i k = strOf (l.take (k - i)) := by rw [take_str, h]

end Go.Proofs.YtdjhpgpekomjeaaDoor
