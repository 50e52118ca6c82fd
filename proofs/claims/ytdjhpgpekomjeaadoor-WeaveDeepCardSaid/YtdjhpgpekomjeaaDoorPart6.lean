/- Texts of mine put together (a claim has at most so many files): WeaveTop, Float, TokCx, WeaveFace, WvTells. -/
import Derived.Test.YtdjhpgpekomjeaaDoorPart5
import Derived.Test.YtdjhpgpekomjeaaDoorPart3
import Derived.BigQuiet
/- What the document's own Weave gives. -/
namespace Go.Proofs.YtdjhpgpekomjeaaDoor
open Go.RowKit

theorem res_end {R : Except FaultV (List FTok)} {w W : World} {e file : Int} {p : Nat × Nat} {a b c : Value} {A : Option Addr} {cc : Nat} (hR : R = .error (e, file, p)) (hb : Below w.heap.size w W) :
    WeaveRes R w (.returned (.tuple #[.slice A 0 cc, .agg (faultCells e file (fl p.1) (fl p.2))])) (((W.setCell ⟨w.heap.size, 0, none⟩ a).setCell ⟨w.heap.size, 1, none⟩ b).setCell ⟨w.heap.size, 2, none⟩ c) := by
  refine ⟨.inl ⟨(e, file, p), A, cc, hR, rfl⟩, ?_⟩
  iterate 3 (with_reducible refine below_set (Nat.le_refl _) ?_)
  exact hb

end Go.Proofs.YtdjhpgpekomjeaaDoor

/- Plain facts on whole numbers as floats. -/
namespace Go.Proofs.YtdjhpgpekomjeaaDoor
open Go.RowKit

theorem read_word (neg : Bool) (r : Nat) (h : r ≤ Ieee.double.infRung) : (∃ m i, Ieee.double.read (Ieee.double.word neg r) = .number neg m i) ∨ Ieee.double.read (Ieee.double.word neg r) = .infinity neg := by
  have e1 : Ieee.double.signWeight = 9223372036854775808 := by decide
  have e2 : Ieee.double.infRung = 9218868437227405312 := by decide
  have e3 : Ieee.double.binade = 4503599627370496 := by decide
  rw [e2] at h
  have hw : Ieee.double.word neg r / 9223372036854775808 % 2 = neg.toNat ∧ Ieee.double.word neg r % 9223372036854775808 = r := by
    unfold Ieee.Format.word
    rw [e1]
    cases neg <;> simp <;> omega
  have hn : (Ieee.double.word neg r / 9223372036854775808 % 2 == 1) = neg := by rw [hw.1]; cases neg <;> rfl
  unfold Ieee.Format.read
  rw [e1, e2, e3, hn, hw.2]
  simp only
  split
  · exact .inl ⟨_, _, rfl⟩
  · split
    · exact .inl ⟨_, _, rfl⟩
    · rw [if_pos (by omega)]
      exact .inr rfl

theorem order_refl (d : Ieee.Datum) (h : (∃ s m i, d = .number s m i) ∨ ∃ s, d = .infinity s) : d.order d = some .eq := by
  rcases h with ⟨s, m, i, rfl⟩ | ⟨s, rfl⟩
  · simp [Ieee.Datum.order]
  · simp [Ieee.Datum.order]

theorem feq_refl (n : Int) : feq (fl n) (fl n) = true := by
  have hr : ∃ neg r, fl n = Ieee.double.word neg r ∧ r ≤ Ieee.double.infRung := by
    show ∃ neg r, Ieee.double.write (.number (n < 0) n.natAbs 0) = Ieee.double.word neg r ∧ r ≤ Ieee.double.infRung
    unfold Ieee.Format.write Ieee.Format.nearest
    simp only
    split
    · exact ⟨_, _, rfl, Nat.zero_le _⟩
    · exact ⟨_, _, rfl, Nat.min_le_right _ _⟩
  obtain ⟨neg, r, e, hle⟩ := hr
  have ho : Ieee.double.order (fl n) (fl n) = some .eq := by
    unfold Ieee.Format.order
    refine order_refl _ ?_
    rw [e]
    rcases read_word neg r hle with ⟨m, i, h⟩ | h
    · exact .inl ⟨_, _, _, h⟩
    · exact .inr ⟨_, h⟩
  show (Ieee.double.order (fl n) (fl n) == some .eq) = true
  rw [ho]
  rfl

end Go.Proofs.YtdjhpgpekomjeaaDoor

/- Spots within structs: that one is itself. -/
namespace Go.Proofs.YtdjhpgpekomjeaaDoor
open Go.RowKit

theorem fl_0 : fl 0 = 0 := by decide +kernel
theorem fl_3 : fl 3 = 4613937818241073152 := by decide +kernel
theorem ord_0 : FloatKind.f64.format.order 0 0 = some .eq := by decide +kernel
theorem ord_1 : FloatKind.f64.format.order 4607182418800017408 4607182418800017408 = some .eq := by decide +kernel
theorem ord_3 : FloatKind.f64.format.order 4613937818241073152 4613937818241073152 = some .eq := by decide +kernel
theorem ord_fl (n : Int) : FloatKind.f64.format.order (fl n) (fl n) = some .eq := by
  have := feq_refl n
  unfold feq at this
  exact eq_of_beq this

/-- Two spots within a struct. -/
theorem eq_cx_at (d a b : Nat) (W : World) (ha : FloatKind.f64.format.order a a = some .eq) (hb : FloatKind.f64.format.order b b = some .eq) : (Op.equalIn (d + 1) 28 (.complex .f64 a b) (.complex .f64 a b)).run Tryd.prog W = .ok true W := by
  simp [Op.equalIn, run_underlying Tryd.underlying28, Op.floatEq, ha, hb]
theorem eq_cx (a b : Nat) (W : World) (ha : FloatKind.f64.format.order a a = some .eq) (hb : FloatKind.f64.format.order b b = some .eq) : (Op.equalIn 9999 28 (.complex .f64 a b) (.complex .f64 a b)).run Tryd.prog W = .ok true W := eq_cx_at 9998 a b W ha hb

end Go.Proofs.YtdjhpgpekomjeaaDoor

/- What package weave's function says: to be shown of the code as it landed; what the statements' own helpers give. -/
namespace Go.Proofs.YtdjhpgpekomjeaaDoor
open Go.RowKit

/-- The landed code's contract; L: what it leans on of what lies there when it is called. -/
structure WeaveSays (L : World → Prop) : Prop where
  keep : ∀ w w', L w → Below w.heap.size w w' → L w'
  tokens : ∀ (A : Option Addr) (N c : Nat) (fs : List FileV) (root : ByteArray) (w : World), L w → Lies w w.heap.size 2 A N (filesV fs) → N ≤ c → N ≤ 1000 → root.size ≤ 100000 → (∀ f ∈ fs, f.1.size ≤ 100000 ∧ f.2.size ≤ 100000) →
    Calls Tryd.prog 5 #[.slice A N c, .string root] w (WeaveRes (weaveOf fs root.data.toList) w)

variable {L : World → Prop}

theorem wres_ok {l : List FTok} {w : World} {r : Ending} {w' : World} (h : WeaveRes (.ok l) w r w') :
    ∃ (A : Option Addr) (c : Nat), r = .returned (.tuple #[.slice A l.length c, .agg (faultCells 0 0 0 0)]) ∧ l.length ≤ c ∧ Lies w' w'.heap.size 4 A l.length (ftoksV l) ∧ Below w.heap.size w w' := by
  obtain ⟨h, hb⟩ := h
  rcases h with ⟨e, A, c, h1, _⟩ | ⟨m, A, c, h1, h2, h3, h4⟩
  · cases h1
  · have : l = m := by injection h1
    subst this
    exact ⟨A, c, h2, h3, h4, hb⟩
theorem wres_bad {e : FaultV} {w : World} {r : Ending} {w' : World} (h : WeaveRes (.error e) w r w') :
    ∃ (A : Option Addr) (c : Nat), r = .returned (.tuple #[.slice A 0 c, .agg (faultCells e.1 e.2.1 (fl e.2.2.1) (fl e.2.2.2))]) ∧ Below w.heap.size w w' := by
  obtain ⟨h, hb⟩ := h
  rcases h with ⟨e', A, c, h1, h2⟩ | ⟨m, A, c, h1, _⟩
  · have h3 : e = e' := by injection h1
    subst h3
    exact ⟨A, c, h2, hb⟩
  · cases h1

theorem ftok_cells : ∀ (l : List FTok) (k : Nat) (t : FTok), l[k]? = some t →
    (ftoksV l)[k * 4]? = some (.int .i64 t.2.kind) ∧ (ftoksV l)[k * 4 + 1]? = some (.string (strOf t.2.text)) ∧ (ftoksV l)[k * 4 + 2]? = some (.int .i64 t.1) ∧ (ftoksV l)[k * 4 + 3]? = some (.complex .f64 (fl t.2.place.1) (fl t.2.place.2))
  | [], k, t, h => by simp at h
  | x :: r, 0, t, h => by
    obtain rfl : x = t := by simpa using h
    exact ⟨rfl, rfl, rfl, rfl⟩
  | x :: r, k + 1, t, h => by
    have := ftok_cells r k t (by simpa using h)
    have e : ∀ j, (ftoksV (x :: r))[(k + 1) * 4 + j]? = (ftoksV r)[k * 4 + j]? := fun j => by
      rw [show (k + 1) * 4 + j = 4 + (k * 4 + j) from by omega]
      show (ftokV x ++ ftoksV r)[4 + (k * 4 + j)]? = _
      rw [List.getElem?_append_right (by simp [ftokV, tokVals])]
      simp [ftokV, tokVals]
    exact ⟨(e 0).trans this.1, (e 1).trans this.2.1, (e 2).trans this.2.2.1, (e 3).trans this.2.2.2⟩

/-! ### The helpers -/
def fewB (fs : List FileV) : Bool := fs.all (fun f => decide (f.2.size ≤ 600) && decide (f.1.size ≤ 60)) && decide (fs.length ≤ 8)

/-- How often the word of an include stands in a text. -/
def incCount : List UInt8 → Nat
  | [] => 0
  | c :: r => (if (c :: r).take 8 == includeT then 1 else 0) + incCount r
def incAll (fs : List FileV) : Nat := (fs.map fun f => incCount f.2.data.toList).sum
theorem inc_le : ∀ s : List UInt8, incCount s ≤ s.length
  | [] => Nat.le_refl _
  | c :: r => by
    have := inc_le r
    rw [incCount, List.length_cons]
    split <;> omega
theorem inc_short : ∀ s : List UInt8, s.length < 8 → incCount s = 0
  | [], _ => rfl
  | c :: r, h => by
    have ih := inc_short r (by simp at h; omega)
    rw [incCount, ih]
    have : ((c :: r).take 8 == includeT) = false := by
      rw [beq_eq_false_iff_ne]
      intro e
      have := congrArg List.length e
      simp [includeT] at this
      simp at h
      omega
    rw [this]
    rfl

end Go.Proofs.YtdjhpgpekomjeaaDoor

/- The walk of the statement WeaveTells. -/
namespace Go.Proofs.YtdjhpgpekomjeaaDoor
open Go.RowKit
variable {L : World → Prop}

theorem inc_step (s : ByteArray) (k : Nat) (h : k + 8 ≤ s.size) : incCount (s.data.toList.drop k) = (if (s.data.toList.drop k).take 8 == includeT then 1 else 0) + incCount (s.data.toList.drop (k + 1)) := by
  rw [drop_at s k (by omega), incCount]
theorem inc_cut (s : ByteArray) (k : Nat) : ((s.extract k (k + 8)).toList == [35, 105, 110, 99, 108, 117, 100, 101]) = ((s.data.toList.drop k).take 8 == includeT) := by
  rw [take_str, strOf_toList, show k + 8 - k = 8 from by omega]
  rfl

/-! ### The statements' own test -/
theorem weave_none_ex : weaveOf [] [97] = .error (4, -1, (0, 0)) := by kernel_rfl
theorem weave_two_ex : weaveOf [(strOf [97], strOf [120, 32, 35, 105, 110, 99, 108, 117, 100, 101, 32, 34, 98, 34, 32, 122]), (strOf [98], strOf [121])] [97] = .ok [(0, ⟨1, [120], (1, 1)⟩), (1, ⟨1, [121], (1, 1)⟩), (0, ⟨1, [122], (1, 16)⟩)] := by kernel_rfl

set_option maxRecDepth 100000 in
set_option maxHeartbeats 4000000 in
theorem walive_any (R : WeaveSays L) (w : World) (hw : L w) : Calls Tryd.prog 4 #[] w fun e w' => e = .returned (.bool true) ∧ Below w.heap.size w w' := by
  have H1 : Hid (∀ W : World, Below w.heap.size w W → Calls Tryd.prog 5 #[.slice none 0 0, .string ⟨#[97]⟩] W (WeaveRes (.error (4, -1, (0, 0))) W)) := fun W hW => by
    have := R.tokens none 0 0 [] (strOf [97]) W (R.keep w W hw hW) (Lies.empty _ _ _ _) (by omega) (by omega) (by decide) (fun f h => by cases h)
    rw [strOf_data, weave_none_ex] at this
    exact this
  have H2 : Hid (∀ (A : Option Addr) (W : World), Below w.heap.size w W → Lies W W.heap.size 2 A 2 [.string (strOf [97]), .string (strOf [120, 32, 35, 105, 110, 99, 108, 117, 100, 101, 32, 34, 98, 34, 32, 122]), .string (strOf [98]), .string (strOf [121])] → Calls Tryd.prog 5 #[.slice A 2 2, .string ⟨#[97]⟩] W (WeaveRes (.ok [(0, ⟨1, [120], (1, 1)⟩), (1, ⟨1, [121], (1, 1)⟩), (0, ⟨1, [122], (1, 16)⟩)]) W)) := fun A W hW h => by
    have := R.tokens A 2 2 [(strOf [97], strOf [120, 32, 35, 105, 110, 99, 108, 117, 100, 101, 32, 34, 98, 34, 32, 122]), (strOf [98], strOf [121])] (strOf [97]) W (R.keep w W hw hW) h (by omega) (by omega) (by decide) (fun f h => by
      rcases List.mem_cons.1 h with rfl | h
      · exact ⟨by decide, by decide⟩
      · rcases List.mem_cons.1 h with rfl | h
        · exact ⟨by decide, by decide⟩
        · cases h)
    rw [strOf_data, weave_two_ex] at this
    exact this
  have hst := store_cx
  have hcx := fun W => eq_cx 0 0 W ord_0 ord_0
  have f0 := fl_0
  go_enter Tryd.func4, Tryd.ntmps4
  go_wp2_with fail
  refine (H1.out _ (Below.refl _ _)).mono ?_
  intro r w1 h1
  obtain ⟨A1, c1, rfl, hb1⟩ := wres_bad h1
  dsimp only at h1 ⊢
  have HBX := Lib.hid (Box.new w1 30 (faultCells 4 (-1) 0 0))
  have HN1 := Lib.hid (below_alloc hb1 (Nat.le_refl _) (.cells (faultCells 4 (-1) 0 0) 30))
  clear h1 hb1
  rw [show (((0 : Nat) : Int)) = 0 from rfl, f0]
  dsimp only [faultCells]
  unfold faultCells at HBX HN1
  go_wp2_with fail
  refine (H2.out _ _ (by exact below_alloc HN1.out (Nat.le_refl _) _) (by exact lies_new _ _ _ (by simp) rfl rfl)).mono ?_
  have HBX2 := Lib.hid (HBX.out.alloc (.cells #[.string (strOf [97]), .string (strOf [120, 32, 35, 105, 110, 99, 108, 117, 100, 101, 32, 34, 98, 34, 32, 122]), .string (strOf [98]), .string (strOf [121])] 25))
  have HN2 := Lib.hid (below_alloc HN1.out (Nat.le_refl _) (.cells #[.string (strOf [97]), .string (strOf [120, 32, 35, 105, 110, 99, 108, 117, 100, 101, 32, 34, 98, 34, 32, 122]), .string (strOf [98]), .string (strOf [121])] 25))
  intro r w3 h3
  obtain ⟨A3, c3, rfl, hc3, hl3, hb3⟩ := wres_ok h3
  have hbx3 := HBX2.out.step hb3
  have HN3 := Lib.hid (below_step HN2.out (Nat.le_refl _) hb3)
  obtain ⟨b, o, rfl, hb, hcc⟩ := hl3.2 (by simp)
  have e5 := hcc 5 (.string ⟨#[121]⟩) rfl
  have e6 := hcc 6 (.int .i64 1) rfl
  have c0 := hbx3.cell 0
  have c1 := hbx3.cell 1
  have c2 := hbx3.cell 2
  simp only [List.getElem?_toArray, List.getElem?_cons_zero, List.getElem?_cons_succ] at c0 c1 c2
  have g1 := hbx3.lt
  clear h3 hl3 hb3 hbx3 HBX HBX2 HN1 HN2 hcc
  dsimp only [faultCells, List.length_cons, List.length_nil]
  go_wp2
  go_ret
  exact ⟨by simp, below_alloc HN3.out (Nat.le_refl _) _⟩

theorem Tryd.infoFile : (Tryd.prog.info? 25).map (fun i => (i.zero, i.size, i.bytes)) = some (some (.agg #[.string ⟨#[]⟩, .string ⟨#[]⟩]), 2, 32) := by kernel_rfl
theorem filesV_one (l : List FileV) : ∀ u ∈ filesV l, u.oneCell' = true := by
  intro u hu
  obtain ⟨x, _, hx⟩ := List.mem_flatMap.1 hu
  simp at hx
  rcases hx with rfl | rfl <;> rfl
theorem few_true {fs : List FileV} (h : fewB fs = true) : fs.length ≤ 8 ∧ ∀ f ∈ fs, f.2.size ≤ 600 ∧ f.1.size ≤ 60 := by
  unfold fewB at h
  simp only [Bool.and_eq_true, decide_eq_true_eq, List.all_eq_true] at h
  exact ⟨h.2, h.1⟩
theorem weaveOf_len {fs : List FileV} {root : List UInt8} {l : List FTok} (h : weaveOf fs root = .ok l) : l.length ≤ 20020000 := by
  unfold weaveOf at h
  split at h
  · have hr := weave_ok fs 7 (fileOf fs root).1.toNat [(fileOf fs root).1.toNat] 0
    have h1 := hr.2.1 l h
    have h2 := hr.2.2
    have h3 := hr.1
    omega
  · cases h

end Go.Proofs.YtdjhpgpekomjeaaDoor
