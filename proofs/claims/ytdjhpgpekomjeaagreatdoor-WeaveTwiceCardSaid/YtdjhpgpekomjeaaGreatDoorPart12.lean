/- Texts of mine put together (a claim has at most so many files): WcBox, TokRun, TokHash. -/
import Derived.Test.YtdjhpgpekomjeaaGreatDoorPart11
import Derived.Test.YtdjhpgpekomjeaaGreatDoorPart6
import Derived.Test.YtdjhpgpekomjeaaGreatDoorPart8
import Derived.Test.YtdjhpgpekomjeaaGreatDoorPart4
import Derived.Test.YtdjhpgpekomjeaaGreatDoorPart3
/- The landed weave's state, when a box of the call's own is written. No condition. -/
namespace Go.Proofs.YtdjhpgpekomjeaaGreatDoor.LandedW
open Go.RowKit Go.Maps

theorem set3_only (w : World) (g : Nat) (a b c : Value) : w.grownBy (((w.setCell ⟨g, 0, none⟩ a).setCell ⟨g, 1, none⟩ b).setCell ⟨g, 2, none⟩ c) (some g) :=
  only_trans (only_trans (only_set w g 0 a) (only_set _ g 1 b)) (only_set _ g 2 c)

section
variable {X X' : Nat → Prop} {w w' w'' : World} {gr : Nat}
/-- A block that is new to w is written. -/
theorem Moved.after (h : Moved X X' w w') (ho : w'.grownBy w'' (some gr)) (hg : w.heap.size ≤ gr) : Moved X X' w w'' :=
  ⟨ho.os.trans h.os, ho.tape.trans h.tape, ho.output.trans h.output, Nat.le_trans h.size ho.size,
    fun b hb hx => (ho.block b (Nat.lt_of_lt_of_le hb h.size) (fun e => by have := Option.some.inj e; omega)).trans (h.block b hb hx), h.less⟩

/-- Tokens don't lie in a box of numbers. -/
theorem LiesT.other {n : Nat} {A : Option Addr} {xs : List Value} {t : TypeId} {x y : Int} {re im : Nat} (h : LiesT X w 4 A n xs) (hs : 0 < n → ∃ s, xs[1]? = some (.string s)) (hb : Box w gr t #[.int .i64 x, .int .i64 y, .complex .f64 re im]) (ho : w.grownBy w' (some gr)) : LiesT X w' 4 A n xs := by
  refine ⟨h.1, fun hn => ?_⟩
  obtain ⟨b, o, h1, h2, h3, h4⟩ := h.2 hn
  obtain ⟨s, hs⟩ := hs hn
  have hne : b ≠ gr := by
    intro e
    subst e
    have h5 := (hb.cell (o + 1)).symm.trans (h4 1 _ hs)
    rcases o with _ | _ | o
    · simp at h5
    · simp at h5
    · simp at h5
  refine ⟨b, o, h1, Nat.lt_of_lt_of_le h2 ho.size, h3, fun j u hu => ?_⟩
  rw [World.cell?_of_block (w := w) (a := ⟨b, o + j, none⟩) (ho.block b h2 (fun e => hne (Option.some.inj e)))]
  exact h4 j u hu
end

section
variable {C : Came} {R Q : Value} {D : DataW Value} {o : List Nat} {k : Nat} {qs : List Value} {ps : List (List FTok)} {d : Nat} {w w' : World}

theorem Sta.other {t : TypeId} {x y : Int} {re im gr : Nat} (h : Sta C R Q D o k qs ps d w) (hb : Box w gr t #[.int .i64 x, .int .i64 y, .complex .f64 re im]) (hX : ¬ Writes C R Q gr) (hg : C.w.heap.size ≤ gr) (ho : w.grownBy w' (some gr)) : Sta C R Q D o k qs ps d w' := by
  refine ⟨below_only h.below hg h.below.size ho, h.fresh, box_only h.box (fun e => hX (.inl e.symm)) ho, h.map.kept ho (fun e => hX (.inr (.inl (Option.some.inj e).symm))), own_of_ne h.reads ho (fun e => hX (.inr (.inr (.inl e)))), own_of_ne h.runs ho (fun e => hX (.inr (.inr (.inr e)))), h.gm, h.gR, h.gQ, h.mR, h.mQ, h.apart, ?_, h.short, ?_⟩
  · intro i q r hq hr
    obtain ⟨A, c, h1, h2⟩ := h.piece i q r hq hr
    refine ⟨A, c, h1, h2.other (fun hn => ?_) hb ho⟩
    obtain ⟨t, ht⟩ : ∃ t, r[0]? = some t := ⟨_, List.getElem?_eq_getElem hn⟩
    exact ⟨_, (ftok_cells r 0 t ht).2.1⟩
  · intro n f hf hn
    obtain ⟨A, c, t, h1, h2, h3, h4⟩ := h.kept n f hf hn
    refine ⟨A, c, t, h1, h2, h3, h4.other (fun hn => ?_) hb ho⟩
    obtain ⟨u, hu⟩ : ∃ u, t[0]? = some u := ⟨_, List.getElem?_eq_getElem hn⟩
    exact ⟨_, (tok_cells (n : Int) t 0 u hu).2.1⟩
end

end Go.Proofs.YtdjhpgpekomjeaaGreatDoor.LandedW

/- What the landed token's run and whole give. No condition. -/
namespace Go.Proofs.YtdjhpgpekomjeaaGreatDoor
open Go.RowKit

theorem pieceSize : (Tryz.prog.info? 95).map (·.size) = some 3 := by kernel_rfl
def pcCells (k : Int) (x : ByteArray) (n : Int) : Array Value := #[.int .i64 k, .string x, .int .i64 n]

set_option maxHeartbeats 1000000 in
theorem run_any (s cs : ByteArray) (p : UInt8 → Bool) (hp : ∀ c, cs.data.toList.contains c = p c) (hz : cs.size ≤ 1000) (hcs : cs.data.toList.all (fun b => decide (b.toNat < 128)) = true) (hs : s.size ≤ 1000000) (w : World) :
    Calls Tryz.prog 56 #[.string s, .string cs] w (Quietly (.int .i64 (runLen p s.data.toList : Nat)) w) := by
  have HT := Lib.hid (trim_any s cs w hz hcs)
  have hle := run_le p s.data.toList
  have hT : (strOf (s.data.toList.dropWhile (cs.data.toList.contains ·))).size + runLen p s.data.toList = s.size := by
    rw [strOf_size, show (fun x => cs.data.toList.contains x) = p from funext hp, run_drop, List.length_drop, Lib.size_eq]
    omega
  obtain ⟨T, hTe⟩ : ∃ T, T = strOf (s.data.toList.dropWhile (cs.data.toList.contains ·)) := ⟨_, rfl⟩
  obtain ⟨n, hn⟩ : ∃ n, n = runLen p s.data.toList := ⟨_, rfl⟩
  rw [← hTe] at HT hT
  rw [← hn] at hT ⊢
  have hI : (s.size : Int) - (T.size : Int) = (n : Int) := by omega
  clear hTe hn hle hp hcs
  go_enter Tryz.func56, Tryz.ntmps56
  go_wp2_with fail
  refine (HT.out).mono ?_
  rintro r wx ⟨rfl, hb⟩
  go_wp2_with fail
  go_ret
  exact ⟨by first | rfl | (rw [hI]; rfl), hb⟩

set_option maxHeartbeats 1000000 in
theorem whole_any (k : Int) (x : ByteArray) (w : World) :
    Calls Tryz.prog 57 #[.int .i64 k, .string x] w (Quietly (.agg (pcCells k x x.size)) w) := by
  go_enter Tryz.func57, Tryz.ntmps57
  go_wp2_with fail
  refine bodyPost_ret (results_box rfl _ _ w.heap.size 95 _ rfl (Box.new _ _ _) _ Tryz.underlying95 rfl pieceSize) rfl ⟨rfl, below_alloc (Below.refl _ _) (Nat.le_refl _) _⟩

/-- What a function that looks at a text's beginning gives. -/
def PieceRes (t : Option (Int × List UInt8 × Nat)) (w : World) : Ending → World → Prop := fun r w' => r = .returned (match t with
  | none => .tuple #[.agg (pcCells 0 ⟨#[]⟩ 0), .bool false]
  | some v => .tuple #[.agg (pcCells v.1 (strOf v.2.1) (v.2.2 : Nat)), .bool true]) ∧ Below w.heap.size w w'

theorem piece_start (w : World) : Box (w.alloc (.cells #[.int .i64 0, .string ⟨#[]⟩, .int .i64 0] 95)) w.heap.size 95 #[.int .i64 0, .string ⟨#[]⟩, .int .i64 0] ∧ Below w.heap.size w (w.alloc (.cells #[.int .i64 0, .string ⟨#[]⟩, .int .i64 0] 95)) :=
  ⟨Box.new _ _ _, below_alloc (Below.refl _ _) (Nat.le_refl _) _⟩

/-- What is known of a piece's cells. -/
theorem box_cells {w : World} {g : Nat} {T : TypeId} {a b c : Value} (h : Box w g T #[a, b, c]) :
    w.cell? ⟨g, 0, none⟩ = some a ∧ w.cell? ⟨g, 1, none⟩ = some b ∧ w.cell? ⟨g, 2, none⟩ = some c ∧ w.frozen? ⟨g, 0, none⟩ = false ∧ w.frozen? ⟨g, 1, none⟩ = false ∧ w.frozen? ⟨g, 2, none⟩ = false ∧ g < w.heap.size :=
  ⟨h.cell 0, h.cell 1, h.cell 2, h.free 0, h.free 1, h.free 2, h.lt⟩

theorem set3_below {B g : Nat} {w w1 : World} (hB : B ≤ g) (h : Below B w w1) (a b c : Value) : Below B w (((w1.setCell ⟨g, 0, none⟩ a).setCell ⟨g, 1, none⟩ b).setCell ⟨g, 2, none⟩ c) :=
  below_set hB (below_set hB (below_set hB h))

theorem ext_drop (s : ByteArray) (k : Nat) : (s.extract k s.size).data.toList = s.data.toList.drop k := by
  rw [take_str, strOf_data, List.take_of_length_le]
  rw [List.length_drop, ← Lib.size_eq]
  exact Nat.le_refl _
theorem ext_take (s : ByteArray) (k : Nat) : (s.extract 0 k).data.toList = s.data.toList.take k := by
  rw [take_str, strOf_data]
  rfl
theorem ext_of (s : ByteArray) (i k : Nat) (l : List UInt8) (h : s.data.toList.drop i = l) : s.extract i k = strOf (l.take (k - i)) := by rw [take_str, h]

end Go.Proofs.YtdjhpgpekomjeaaGreatDoor

/- What the landed token's hash gives. No condition. -/
namespace Go.Proofs.YtdjhpgpekomjeaaGreatDoor
open Go.RowKit

theorem run_word (s : ByteArray) (hs : s.size ≤ 1000000) (w : World) : Calls Tryz.prog 56 #[.string s, .string ⟨#[97, 98, 99, 100, 101, 102, 103, 104, 105, 106, 107, 108, 109, 110, 111, 112, 113, 114, 115, 116, 117, 118, 119, 120, 121, 122, 65, 66, 67, 68, 69, 70, 71, 72, 73, 74, 75, 76, 77, 78, 79, 80, 81, 82, 83, 84, 85, 86, 87, 88, 89, 90, 95, 48, 49, 50, 51, 52, 53, 54, 55, 56, 57]⟩] w (Quietly (.int .i64 (runLen wordB s.data.toList : Nat)) w) :=
  run_any s ⟨#[97, 98, 99, 100, 101, 102, 103, 104, 105, 106, 107, 108, 109, 110, 111, 112, 113, 114, 115, 116, 117, 118, 119, 120, 121, 122, 65, 66, 67, 68, 69, 70, 71, 72, 73, 74, 75, 76, 77, 78, 79, 80, 81, 82, 83, 84, 85, 86, 87, 88, 89, 90, 95, 48, 49, 50, 51, 52, 53, 54, 55, 56, 57]⟩ wordB set_word (by decide) (by decide) hs w

theorem run_end (p : UInt8 → Bool) : ∀ (l : List UInt8), ∀ c r, l.drop (runLen p l) = c :: r → p c = false
  | [], c, r, h => by simp at h
  | x :: l, c, r, h => by
    rw [runLen] at h
    cases hx : p x
    · rw [hx] at h
      simp only [Bool.false_eq_true, if_false, List.drop_zero, List.cons.injEq] at h
      rw [← h.1]
      exact hx
    · rw [hx] at h
      simp only [if_true, List.drop_succ_cons] at h
      exact run_end p l c r h
theorem goes_end (l : List UInt8) : goesOn (l.drop (runLen wordB l)) = false := by
  cases h : l.drop (runLen wordB l) with
  | nil => rfl
  | cons c r => exact run_end wordB l c r h
theorem run_exact : ∀ (k : Nat) (l : List UInt8), (∀ b ∈ l.take k, wordB b = true) → k ≤ l.length → goesOn (l.drop k) = false → runLen wordB l = k
  | 0, l, _, _, h => (run_word0 l).2 (by simpa using h)
  | k + 1, [], _, hk, _ => by simp at hk
  | k + 1, c :: r, h, hk, hg => by
    rw [runLen, if_pos (h c (by simp)), run_exact k r (fun b hb => h b (by simp [hb])) (by simpa using hk) (by simpa using hg)]

/-- A word behind a '#' is that one. -/
theorem hash_is (t w : List UInt8) (hw : w.all wordB = true) : ((35 :: t).take (runLen wordB t + 1) = 35 :: w) ↔ (beginsL (35 :: w) (35 :: t) && !goesOn ((35 :: t).drop (w.length + 1))) = true := by
  have hle := run_le wordB t
  rw [List.take_succ_cons, List.drop_succ_cons]
  unfold beginsL
  rw [List.length_cons, List.take_succ_cons]
  simp only [List.cons.injEq, true_and, Bool.and_eq_true, beq_iff_eq, Bool.not_eq_true']
  constructor
  · intro h
    have hl := congrArg List.length h
    rw [List.length_take] at hl
    have hn : runLen wordB t = w.length := by omega
    rw [hn] at h
    refine ⟨h, ?_⟩
    rw [← hn]
    exact goes_end t
  · rintro ⟨h1, h2⟩
    have hl := congrArg List.length h1
    rw [List.length_take] at hl
    have hn := run_exact w.length t (fun b hb => by rw [h1] at hb; exact List.all_eq_true.1 hw b hb) (by omega) h2
    rw [hn]
    exact h1

/-- A word behind a '#'. -/
def hashL (r : List UInt8) : Option (Int × List UInt8 × Nat) :=
  if beginsL [35, 105, 110, 99, 108, 117, 100, 101] r && !goesOn (r.drop 8) then some (5, [35, 105, 110, 99, 108, 117, 100, 101], 8)
  else if beginsL [35, 100, 101, 102, 105, 110, 101] r && !goesOn (r.drop 7) then some (5, [35, 100, 101, 102, 105, 110, 101], 7)
  else none

theorem hash_at (t T : List UInt8) (hT : T = (35 :: t).take (runLen wordB t + 1)) : (T = [35, 105, 110, 99, 108, 117, 100, 101] ∧ hashL (35 :: t) = some (5, T, T.length)) ∨ (¬ T = [35, 105, 110, 99, 108, 117, 100, 101] ∧ T = [35, 100, 101, 102, 105, 110, 101] ∧ hashL (35 :: t) = some (5, T, T.length)) ∨ (¬ T = [35, 105, 110, 99, 108, 117, 100, 101] ∧ ¬ T = [35, 100, 101, 102, 105, 110, 101] ∧ hashL (35 :: t) = none) := by
  have h1 := hash_is t [105, 110, 99, 108, 117, 100, 101] (by decide)
  have h2 := hash_is t [100, 101, 102, 105, 110, 101] (by decide)
  rw [← hT] at h1 h2
  simp only [List.length_cons, List.length_nil] at h1 h2
  unfold hashL
  by_cases c1 : T = [35, 105, 110, 99, 108, 117, 100, 101]
  · refine .inl ⟨c1, ?_⟩
    rw [if_pos (h1.1 c1), c1]
    rfl
  · rw [if_neg (fun h => c1 (h1.2 h))]
    by_cases c2 : T = [35, 100, 101, 102, 105, 110, 101]
    · refine .inr (.inl ⟨c1, c2, ?_⟩)
      rw [if_pos (h2.1 c2), c2]
      rfl
    · exact .inr (.inr ⟨c1, c2, if_neg (fun h => c2 (h2.2 h))⟩)

theorem text_is (x : ByteArray) (l : List UInt8) : ((x.toList == l) = true ↔ x.data.toList = l) := by
  rw [Lib.toList_data, beq_iff_eq]

set_option maxRecDepth 100000 in
set_option maxHeartbeats 4000000 in
theorem hash_any (s : ByteArray) (t : List UInt8) (ht : s.data.toList = 35 :: t) (hs : s.size ≤ 1000000) (w : World) :
    Calls Tryz.prog 61 #[.string s] w (PieceRes (hashL s.data.toList) w) := by
  have hsz : s.size = t.length + 1 := by rw [Lib.size_eq, ht, List.length_cons]
  have hxs : (s.extract 1 s.size).data.toList = t := by rw [ext_drop, ht]; rfl
  have HR : Hid (∀ W : World, Calls Tryz.prog 56 #[.string (s.extract 1 s.size), .string ⟨#[97, 98, 99, 100, 101, 102, 103, 104, 105, 106, 107, 108, 109, 110, 111, 112, 113, 114, 115, 116, 117, 118, 119, 120, 121, 122, 65, 66, 67, 68, 69, 70, 71, 72, 73, 74, 75, 76, 77, 78, 79, 80, 81, 82, 83, 84, 85, 86, 87, 88, 89, 90, 95, 48, 49, 50, 51, 52, 53, 54, 55, 56, 57]⟩] W (Quietly (.int .i64 (runLen wordB t : Nat)) W)) := fun W => by
    have := run_word (s.extract 1 s.size) (by simp; omega) W
    rwa [hxs] at this
  have hle := run_le wordB t
  obtain ⟨n, hn⟩ : ∃ n, n = runLen wordB t := ⟨_, rfl⟩
  have hT : (s.extract 0 (n + 1)).data.toList = (35 :: t).take (runLen wordB t + 1) := by rw [ext_take, ht, hn]
  have hat := hash_at t _ hT
  rw [← hn] at HR hle
  rw [← ht] at hat
  have hTs : (s.extract 0 (n + 1)).size = (s.extract 0 (n + 1)).data.toList.length := Lib.size_eq _
  have hn1 : (1 : Int) + (n : Int) ≤ (s.size : Int) := by omega
  have hn2 : ((1 : Int) + (n : Int)).toNat = n + 1 := by omega
  have hn3 : (1 : Int) ≤ (s.size : Int) := by omega
  obtain ⟨V, hV⟩ : ∃ V, V = hashL s.data.toList := ⟨_, rfl⟩
  rw [← hV] at hat ⊢
  have HX : Hid (strOf (s.extract 0 (n + 1)).data.toList = s.extract 0 (n + 1)) := strOf_of _
  have HW := Lib.hid fun W => whole_any 5 (s.extract 0 (n + 1)) W
  have HTS := Lib.hid hTs
  have HMN : Hid ((s.extract 0 (n + 1)).size = min (n + 1) s.size) := by unfold Hid; simp
  have HE : Hid (∀ l, (((s.extract 0 (n + 1)).toList == l) = true) ↔ (s.extract 0 (n + 1)).data.toList = l) := fun l => text_is _ l
  clear hT hV ht hsz hxs hn hTs
  obtain ⟨hbx0, hn0⟩ := piece_start w
  have HBX := Lib.hid hbx0
  have HN0 := Lib.hid hn0
  clear hbx0 hn0
  rcases hat with ⟨d1, hq⟩ | ⟨d1, d2, hq⟩ | ⟨d1, d2, hq⟩
  · have q1 := (HE.out _).2 d1
    have HQ := Lib.hid hq
    clear hq d1
    go_enter Tryz.func61, Tryz.ntmps61
    go_wp2_with fail
    generalize hw0 : w.alloc (.cells #[.int .i64 0, .string ⟨#[]⟩, .int .i64 0] 95) = w0 at *
    clear hw0
    refine (HR.out _).mono ?_
    rintro r w1 ⟨rfl, hb1⟩
    have HBX1 := Lib.hid (HBX.out.step hb1)
    have HN1 := Lib.hid (below_step HN0.out (Nat.le_refl _) hb1)
    clear hb1
    go_wp2_with fail
    refine (HW.out _).mono ?_
    rintro r w2 ⟨rfl, hb2⟩
    have HBX2 := Lib.hid (HBX1.out.step hb2)
    have HN2 := Lib.hid (below_step HN1.out (Nat.le_refl _) hb2)
    obtain ⟨c0, c1, c2, f0, f1, f2, g0⟩ := box_cells HBX2.out
    clear hb2
    unfold pcCells
    go_wp2_with fail
    exact bodyPost_ret (results_box_tmp rfl _ _ w.heap.size 95 _ rfl (box_trio HBX2.out) _ Tryz.underlying95 rfl pieceSize) rfl ⟨by rw [HQ.out]; dsimp only; rw [HX.out, ← HTS.out, HMN.out]; rfl, set3_below (Nat.le_refl _) HN2.out _ _ _⟩
  · have q1 : ((s.extract 0 (n + 1)).toList == [35, 105, 110, 99, 108, 117, 100, 101]) = false := by
      cases hb : ((s.extract 0 (n + 1)).toList == [35, 105, 110, 99, 108, 117, 100, 101])
      · rfl
      · exact absurd ((HE.out _).1 hb) d1
    have q2 := (HE.out _).2 d2
    have HQ := Lib.hid hq
    clear hq d1 d2
    go_enter Tryz.func61, Tryz.ntmps61
    go_wp2_with fail
    generalize hw0 : w.alloc (.cells #[.int .i64 0, .string ⟨#[]⟩, .int .i64 0] 95) = w0 at *
    clear hw0
    refine (HR.out _).mono ?_
    rintro r w1 ⟨rfl, hb1⟩
    have HBX1 := Lib.hid (HBX.out.step hb1)
    have HN1 := Lib.hid (below_step HN0.out (Nat.le_refl _) hb1)
    clear hb1
    go_wp2_with fail
    refine (HW.out _).mono ?_
    rintro r w2 ⟨rfl, hb2⟩
    have HBX2 := Lib.hid (HBX1.out.step hb2)
    have HN2 := Lib.hid (below_step HN1.out (Nat.le_refl _) hb2)
    obtain ⟨c0, c1, c2, f0, f1, f2, g0⟩ := box_cells HBX2.out
    clear hb2
    unfold pcCells
    go_wp2_with fail
    exact bodyPost_ret (results_box_tmp rfl _ _ w.heap.size 95 _ rfl (box_trio HBX2.out) _ Tryz.underlying95 rfl pieceSize) rfl ⟨by rw [HQ.out]; dsimp only; rw [HX.out, ← HTS.out, HMN.out]; rfl, set3_below (Nat.le_refl _) HN2.out _ _ _⟩
  · have q1 : ((s.extract 0 (n + 1)).toList == [35, 105, 110, 99, 108, 117, 100, 101]) = false := by
      cases hb : ((s.extract 0 (n + 1)).toList == [35, 105, 110, 99, 108, 117, 100, 101])
      · rfl
      · exact absurd ((HE.out _).1 hb) d1
    have q2 : ((s.extract 0 (n + 1)).toList == [35, 100, 101, 102, 105, 110, 101]) = false := by
      cases hb : ((s.extract 0 (n + 1)).toList == [35, 100, 101, 102, 105, 110, 101])
      · rfl
      · exact absurd ((HE.out _).1 hb) d2
    have HQ := Lib.hid hq
    clear hq d1 d2
    go_enter Tryz.func61, Tryz.ntmps61
    go_wp2_with fail
    generalize hw0 : w.alloc (.cells #[.int .i64 0, .string ⟨#[]⟩, .int .i64 0] 95) = w0 at *
    clear hw0
    refine (HR.out _).mono ?_
    rintro r w1 ⟨rfl, hb1⟩
    have HBX1 := Lib.hid (HBX.out.step hb1)
    have HN1 := Lib.hid (below_step HN0.out (Nat.le_refl _) hb1)
    obtain ⟨c0, c1, c2, f0, f1, f2, g0⟩ := box_cells HBX1.out
    clear hb1
    go_wp2_with fail
    exact bodyPost_ret (results_box_tmp rfl _ _ w.heap.size 95 _ rfl (box_trio HBX1.out) _ Tryz.underlying95 rfl pieceSize) rfl ⟨by rw [HQ.out]; rfl, set3_below (Nat.le_refl _) HN1.out _ _ _⟩

end Go.Proofs.YtdjhpgpekomjeaaGreatDoor
