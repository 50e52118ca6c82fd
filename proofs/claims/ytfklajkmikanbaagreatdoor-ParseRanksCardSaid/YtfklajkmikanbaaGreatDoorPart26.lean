/- Texts of mine put together (a claim has at most so many files): ParFace, Float, TokCx, ParAlive, ParSame. -/
import Derived.Test.YtfklajkmikanbaaGreatDoorParCode
import Derived.Test.YtfklajkmikanbaaGreatDoorParTab
import Derived.Test.YtfklajkmikanbaaGreatDoorPart6
import Derived.Test.YtfklajkmikanbaaGreatDoorTokSplit
import Derived.Test.YtfklajkmikanbaaGreatDoorPart4
import Derived.Test.YtfklajkmikanbaaGreatDoorPart3
/- What the law's read gives, given the landed Parse. Condition: what the start lays. -/
namespace Go.Proofs.YtfklajkmikanbaaGreatDoor.LandedP
open Go.RowKit

section
variable {w : World}

/-- Both results are written. -/
theorem read_end {W W' : World} {a0 a1 a2 a3 a4 b0 b1 b2 : Value} (hb : Below w.heap.size w W) (h1 : Box W (w.heap.size) 29 zUnt) (h2 : Box W (w.heap.size + 1) 33 #[.int .i64 0, .int .i64 0, .complex .f64 0 0])
    (hW : W' = (((((((W.setCell ⟨w.heap.size, 0, none⟩ a0).setCell ⟨w.heap.size, 1, none⟩ a1).setCell ⟨w.heap.size, 2, none⟩ a2).setCell ⟨w.heap.size, 3, none⟩ a3).setCell ⟨w.heap.size, 4, none⟩ a4).setCell ⟨w.heap.size + 1, 0, none⟩ b0).setCell ⟨w.heap.size + 1, 1, none⟩ b1).setCell ⟨w.heap.size + 1, 2, none⟩ b2) :
    Box W' (w.heap.size) 29 #[a0, a1, a2, a3, a4] ∧ Box W' (w.heap.size + 1) 33 #[b0, b1, b2] ∧ Below w.heap.size w W' ∧ Move (fun b => w.heap.size + 2 ≤ b) (fun b => w.heap.size ≤ b) W W' := by
  obtain ⟨W5, hW5⟩ : ∃ W5, W5 = ((((W.setCell ⟨w.heap.size, 0, none⟩ a0).setCell ⟨w.heap.size, 1, none⟩ a1).setCell ⟨w.heap.size, 2, none⟩ a2).setCell ⟨w.heap.size, 3, none⟩ a3).setCell ⟨w.heap.size, 4, none⟩ a4 := ⟨_, rfl⟩
  rw [← hW5] at hW
  have o5 : W.grownBy W5 (some (w.heap.size)) := by rw [hW5]; exact set5_only
  have c5 : Box W5 (w.heap.size) 29 #[a0, a1, a2, a3, a4] := by rw [hW5]; exact set5_box h1
  have o8 : W5.grownBy W' (some (w.heap.size + 1)) := by rw [hW]; exact set3_only
  have c8 : Box W' (w.heap.size + 1) 33 #[b0, b1, b2] := by rw [hW]; exact set3_box (box_only h2 (by omega) o5)
  have hb5 : Below w.heap.size w W5 := below_only hb (by omega) hb.size o5
  exact ⟨box_only c5 (by omega) o8, c8, below_only hb5 (by omega) hb5.size o8, (Move.grown (Q := fun b => w.heap.size + 2 ≤ b) o5 fun b _ hp => ⟨hp, fun e => by have := Option.some.inj e; omega⟩).trans (Move.grown o8 fun b _ hp => ⟨by omega, fun e => by have := Option.some.inj e; omega⟩)⟩

theorem laid_keep {w w' : World} (h : Laid w) (hb : Below w.heap.size w w') : Laid w' := h.below hb

set_option maxRecDepth 100000 in
set_option maxHeartbeats 4000000 in
theorem read_with (s : ByteArray) (l : List Tk) (w : World) (hL : Laid w) (hS : ∀ W, Below w.heap.size w W → Calls Tryz.prog 9 #[.string s, .int .i64 0] W fun e w' => ∃ (A : Option Addr) (c : Nat) (f0 f1 : Int) (f2 f3 : Nat), e = .returned (.tuple #[.slice A l.length c, .agg #[.int .i64 f0, .int .i64 f1, .complex .f64 f2 f3]]) ∧ l.length ≤ c ∧ Lies w' w'.heap.size 4 A l.length (toksT l) ∧ Below W.heap.size W w')
    (h1 : l.length ≤ 1000000) (h2 : ∀ t ∈ l, TkOk t) :
    Calls Tryz.prog 6 #[.string s] w (ParseRes (endE Laid) (parseX l) w) := by
  have hst := store_cx
  have HS := Lib.hid hS
  have HL := Lib.hid hL
  have HBU := Lib.hid (show Box ((w.alloc (.cells zUnt 29)).alloc (.cells #[.int .i64 0, .int .i64 0, .complex .f64 0 0] 33)) w.heap.size 29 zUnt from (Box.new _ _ _).alloc _)
  have HBF := Lib.hid (show Box ((w.alloc (.cells zUnt 29)).alloc (.cells #[.int .i64 0, .int .i64 0, .complex .f64 0 0] 33)) (w.heap.size + 1) 33 #[.int .i64 0, .int .i64 0, .complex .f64 0 0] from new2 _ _ _ _)
  have HB := Lib.hid (below2 w (.cells zUnt 29) (.cells #[.int .i64 0, .int .i64 0, .complex .f64 0 0] 33))
  have H12 := Lib.hid (And.intro h1 h2)
  clear hS hL h1 h2
  go_enter Tryz.func6, Tryz.ntmps6
  go_wp2_with fail
  refine (HS.out _ HB.out).mono ?_
  rintro e w1 ⟨A, c, f0, f1, f2, f3, rfl, hc, hl, hb1⟩
  have hba : Below w1.heap.size w1 (w1.alloc (.cells #[.int .i64 f0, .int .i64 f1, .complex .f64 f2 f3] 33)) := (Below.refl _ _).alloc (Nat.le_refl _) _
  have HBU2 := Lib.hid ((HBU.out.step hb1).step hba)
  have HBF2 := Lib.hid ((HBF.out.step hb1).step hba)
  have HB2 := Lib.hid (below_step (below_step HB.out (Nat.le_refl _) hb1) (Nat.le_refl _) hba)
  have hP := parse_any (w := w1.alloc (.cells #[.int .i64 f0, .int .i64 f1, .complex .f64 f2 f3] 33)) (E := endE Laid) (R := l) A c ((hl.below hba).wider hba.size) hc H12.out.1 H12.out.2 (fun W hW => (HL.out.below HB2.out).below hW) (fun _ h => h)
  have HP := Lib.hid hP
  have HZ := Lib.hid HBF2.out.lt
  clear hc hl hb1 hba HS HBU HBF HB hP
  unfold endE Flt.val at HP
  dsimp only at HP
  go_wp2_with fail
  refine HP.out.mono ?_
  rintro e w3 ⟨hb3, h3⟩
  have HBU3 := Lib.hid (HBU2.out.step hb3)
  have HBF3 := Lib.hid (HBF2.out.step hb3)
  have HB3 := Lib.hid (below_step HB2.out (Nat.le_refl _) hb3)
  clear hb3 HP HBU2 HBF2 HB2
  obtain ⟨p0, p1, p2, p3, p4, y0, y1, y2, y3, y4, pl⟩ := box5 HBU3.out
  obtain ⟨q0, q1, q2, z0, z1, z2, ql⟩ := box3 HBF3.out
  rcases h3 with ⟨u, hx, rfl, hu⟩ | ⟨err, R', hx, rfl⟩
  · have HX := Lib.hid hx
    have HU := Lib.hid hu
    clear hx hu
    obtain ⟨dA, dc, ds, pA, pc, ps, mA, mc, mm, ak, ad⟩ := u
    unfold Unt.val Flt.none Flt.val
    dsimp only
    go_wp2_with fail
    try simp only [Exit.inBlock, Exit.then]
    obtain ⟨h1, h2, h3, h4⟩ := read_end HB3.out HBU3.out HBF3.out rfl
    exact bodyPost_ret (results_two rfl _ _ w.heap.size (w.heap.size + 1) 29 33 _ _ rfl h1 _ Tryz.underlying29 rfl untSize rfl h2 _ Tryz.underlying33 rfl fltSize) rfl ⟨h3, .inl ⟨_, HX.out, rfl, HU.out.move ((Move.of _ fun b _ hp => by have := HZ.out; omega).trans h4)⟩⟩
  · have HX := Lib.hid hx
    clear hx
    obtain ⟨F, hF⟩ : ∃ F, F = hereV (endE Laid) err R' := ⟨_, rfl⟩
    unfold endE at hF
    rw [← hF]
    have HFF := Lib.hid hF
    clear hF
    obtain ⟨ge, gf, gr, gi⟩ := F
    unfold Flt.val
    dsimp only
    go_wp2_with fail
    try simp only [Exit.inBlock, Exit.then]
    obtain ⟨h1, h2, h3, h4⟩ := read_end HB3.out HBU3.out HBF3.out rfl
    exact bodyPost_ret (results_two rfl _ _ w.heap.size (w.heap.size + 1) 29 33 _ _ rfl h1 _ Tryz.underlying29 rfl untSize rfl h2 _ Tryz.underlying33 rfl fltSize) rfl ⟨h3, .inr ⟨err, R', HX.out, by unfold endE; rw [← HFF.out]; rfl⟩⟩

theorem read_any (s : ByteArray) (hg : toksGood s.data.toList = true) (w : World) (hL : Laid w) :
    Calls Tryz.prog 6 #[.string s] w (ParseRes (endE Laid) (parseX (toksOf s.data.toList)) w) := by
  obtain ⟨h1, h2⟩ := good_ok hg
  refine read_with s (toksOf s.data.toList) w hL (fun W hW => (splitNew_any s 0 W).mono ?_) h1 h2
  rintro e w' ⟨h | ⟨l, A, c, hs, he, hc, hown⟩, hb⟩
  · obtain ⟨e0, p, A, c, hs, he⟩ := h
    have hz : toksOf s.data.toList = [] := by unfold toksOf; rw [hs]
    rw [hz]
    exact ⟨A, c, e0, 0, fl p.1, fl p.2, he, Nat.zero_le _, Lies.empty _ _ _ _, hb⟩
  · obtain ⟨e1, e2⟩ := toks_lie _ l hs
    refine ⟨A, c, 0, 0, 0, 0, by rw [e2]; exact he, by rw [e2]; exact hc, ?_, hb⟩
    rw [e2, ← e1]
    exact Lies.of_own hown
end

end Go.Proofs.YtfklajkmikanbaaGreatDoor.LandedP

/- Plain facts on whole numbers as floats. -/
namespace Go.Proofs.YtfklajkmikanbaaGreatDoor
open Go.RowKit

theorem read_word (neg : Bool) (r : Nat) (h : r ≤ Ieee.double.infRung) : (∃ m i, Ieee.double.read (Ieee.double.word neg r) = .number neg m i) ∨ Ieee.double.read (Ieee.double.word neg r) = .infinity neg := by
  have e1 : Ieee.double.signWeight = 9223372036854775808 := by decide
  have e2 : Ieee.double.infRung = 9218868437227405312 := by decide
  have e3 : Ieee.double.binade = 4503599627370496 := by decide
  rw [e2] at h
  have hw : Ieee.double.word neg r / 9223372036854775808 % 2 = neg.toNat ∧ Ieee.double.word neg r % 9223372036854775808 = r := by
    unfold Ieee.Format.word
    rw [e1]
    cases neg <;> simp <;> omega
  have hn : (Ieee.double.word neg r / 9223372036854775808 % 2 == 1) = neg := by rw [hw.1]; cases neg <;> rfl
  unfold Ieee.Format.read
  rw [e1, e2, e3, hn, hw.2]
  simp only
  split
  · exact .inl ⟨_, _, rfl⟩
  · split
    · exact .inl ⟨_, _, rfl⟩
    · rw [if_pos (by omega)]
      exact .inr rfl

theorem order_refl (d : Ieee.Datum) (h : (∃ s m i, d = .number s m i) ∨ ∃ s, d = .infinity s) : d.order d = some .eq := by
  rcases h with ⟨s, m, i, rfl⟩ | ⟨s, rfl⟩
  · simp [Ieee.Datum.order]
  · simp [Ieee.Datum.order]

theorem feq_refl (n : Int) : feq (fl n) (fl n) = true := by
  have hr : ∃ neg r, fl n = Ieee.double.word neg r ∧ r ≤ Ieee.double.infRung := by
    show ∃ neg r, Ieee.double.write (.number (n < 0) n.natAbs 0) = Ieee.double.word neg r ∧ r ≤ Ieee.double.infRung
    unfold Ieee.Format.write Ieee.Format.nearest
    simp only
    split
    · exact ⟨_, _, rfl, Nat.zero_le _⟩
    · exact ⟨_, _, rfl, Nat.min_le_right _ _⟩
  obtain ⟨neg, r, e, hle⟩ := hr
  have ho : Ieee.double.order (fl n) (fl n) = some .eq := by
    unfold Ieee.Format.order
    refine order_refl _ ?_
    rw [e]
    rcases read_word neg r hle with ⟨m, i, h⟩ | h
    · exact .inl ⟨_, _, _, h⟩
    · exact .inr ⟨_, h⟩
  show (Ieee.double.order (fl n) (fl n) == some .eq) = true
  rw [ho]
  rfl

end Go.Proofs.YtfklajkmikanbaaGreatDoor

/- Spots within structs: that one is itself. -/
namespace Go.Proofs.YtfklajkmikanbaaGreatDoor
open Go.RowKit

theorem fl_0 : fl 0 = 0 := by decide +kernel
theorem fl_3 : fl 3 = 4613937818241073152 := by decide +kernel
theorem ord_0 : FloatKind.f64.format.order 0 0 = some .eq := by decide +kernel
theorem ord_1 : FloatKind.f64.format.order 4607182418800017408 4607182418800017408 = some .eq := by decide +kernel
theorem ord_3 : FloatKind.f64.format.order 4613937818241073152 4613937818241073152 = some .eq := by decide +kernel
theorem ord_fl (n : Int) : FloatKind.f64.format.order (fl n) (fl n) = some .eq := by
  have := feq_refl n
  unfold feq at this
  exact eq_of_beq this

/-- Two spots within a struct. -/
theorem eq_cx_at (d a b : Nat) (W : World) (ha : FloatKind.f64.format.order a a = some .eq) (hb : FloatKind.f64.format.order b b = some .eq) : (Op.equalIn (d + 1) 31 (.complex .f64 a b) (.complex .f64 a b)).run Tryz.prog W = .ok true W := by
  simp [Op.equalIn, run_underlying Tryz.underlying31, Op.floatEq, ha, hb]
theorem eq_cx (a b : Nat) (W : World) (ha : FloatKind.f64.format.order a a = some .eq) (hb : FloatKind.f64.format.order b b = some .eq) : (Op.equalIn 9999 31 (.complex .f64 a b) (.complex .f64 a b)).run Tryz.prog W = .ok true W := eq_cx_at 9998 a b W ha hb

end Go.Proofs.YtfklajkmikanbaaGreatDoor

/- What the law's alive gives. Condition: what the start lays. -/
namespace Go.Proofs.YtfklajkmikanbaaGreatDoor.LandedP
open Go.RowKit

theorem ord_7 : FloatKind.f64.format.order 4619567317775286272 4619567317775286272 = some .eq := by decide +kernel
def aliveT : List UInt8 := [85, 83, 69, 32, 112, 32, 68, 69, 70, 65, 85, 76, 84, 32, 75, 73, 76, 76]
def aliveU (x : Except (Int × List Tk) Unt) : Bool := match x with
  | .ok u => (match u.main with | [s] => s.data == #[112] | _ => false)
  | .error _ => false
theorem alive_good : toksGood [] = true ∧ toksGood aliveT = true := by decide +kernel
def aliveE (x : Except (Int × List Tk) Unt) : Bool := match x with
  | .ok _ => false
  | .error (e, R) => e == 11 && R.isEmpty
theorem alive_parse : aliveE (parseX (toksOf [])) = true ∧ aliveU (parseX (toksOf aliveT)) = true := by decide +kernel
theorem alive_none : parseX (toksOf []) = .error (11, []) := by
  have h := alive_parse.1
  cases hx : parseX (toksOf []) with
  | ok u => rw [hx] at h; cases h
  | error e =>
    obtain ⟨e, R⟩ := e
    rw [hx] at h
    simp only [aliveE, Bool.and_eq_true, beq_iff_eq, List.isEmpty_iff] at h
    rw [h.1, h.2]
theorem alive_two {u : Unt} (h : parseX (toksOf aliveT) = .ok u) : u.main = [⟨#[112]⟩] := by
  have h2 := alive_parse.2
  rw [h] at h2
  unfold aliveU at h2
  dsimp only at h2
  split at h2
  · rename_i s hs
    rw [hs]
    obtain ⟨d⟩ := s
    rw [show d = #[112] from by simpa using h2]
  · cases h2
theorem alive_two' (x : Int × List Tk) : parseX (toksOf aliveT) ≠ .error x := fun h => by
  have h2 := alive_parse.2
  rw [h] at h2
  cases h2

set_option maxRecDepth 100000 in
set_option maxHeartbeats 4000000 in
theorem alive_any (w : World) (hL : Laid w) : Calls Tryz.prog 5 #[] w (Quietly (.bool true) w) := by
  have H1 := Lib.hid (read_any ⟨#[]⟩ alive_good.1 w hL)
  rw [show ((⟨#[]⟩ : ByteArray)).data.toList = [] from rfl, alive_none] at H1
  have H2 : Hid (∀ W, Below w.heap.size w W → Calls Tryz.prog 6 #[.string ⟨#[85, 83, 69, 32, 112, 32, 68, 69, 70, 65, 85, 76, 84, 32, 75, 73, 76, 76]⟩] W (ParseRes (endE Laid) (parseX (toksOf aliveT)) W)) := fun W hW => read_any ⟨#[85, 83, 69, 32, 112, 32, 68, 69, 70, 65, 85, 76, 84, 32, 75, 73, 76, 76]⟩ alive_good.2 W (hL.below hW)
  have o0 := ord_0
  have o7 := ord_7
  have hst := store_cx
  have hcx := fun W => eq_cx 0 0 W ord_0 ord_0
  have hc7 := fun W => eq_cx 4619567317775286272 4619567317775286272 W ord_7 ord_7
  clear hL
  go_enter Tryz.func5, Tryz.ntmps5
  go_wp2_with fail
  refine H1.out.mono ?_
  rintro e w1 ⟨hb1, h1⟩
  rcases h1 with ⟨u, hx, _⟩ | ⟨err, R', hx, rfl⟩
  · cases hx
  obtain ⟨rfl, rfl⟩ : (11 : Int) = err ∧ [] = R' := by
    injection hx with h
    injection h with h1 h2
    exact ⟨h1, h2⟩
  have HB1 := Lib.hid hb1
  clear hx hb1 H1
  unfold hereV endE Flt.val
  dsimp only
  go_upto_region 2 with (fail)
  have HF1 := Lib.hid (new2 w1 (.cells zUnt 29) 33 #[.int .i64 11, .int .i64 9, .complex .f64 4619567317775286272 4619567317775286272])
  have HB2 : Hid (Below w.heap.size w ((w1.alloc (.cells zUnt 29)).alloc (.cells #[.int .i64 11, .int .i64 9, .complex .f64 4619567317775286272 4619567317775286272] 33))) := below_alloc (below_alloc HB1.out (Nat.le_refl _) _) (Nat.le_refl _) _
  generalize (w1.alloc (.cells zUnt 29)).alloc (.cells #[.int .i64 11, .int .i64 9, .complex .f64 4619567317775286272 4619567317775286272] 33) = w2 at *
  obtain ⟨j, hj⟩ : ∃ j, j = w1.heap.size + 1 := ⟨_, rfl⟩
  rw [← hj] at HF1 ⊢
  clear hj
  have HZ := Lib.hid HF1.out.lt
  go_wp2_with fail
  refine (H2.out _ HB2.out).mono ?_
  rintro e w3 ⟨hb3, h3⟩
  have HB3 := Lib.hid (below_step HB2.out (Nat.le_refl _) hb3)
  have HF3 := Lib.hid (HF1.out.step hb3)
  clear hb3 H2 HB2 HF1 HB1
  rcases h3 with ⟨u, hx, rfl, hu⟩ | ⟨err, R', hx, rfl⟩
  · have hm : u.main = [⟨#[112]⟩] := alive_two (u := u.bare) hx
    obtain ⟨dA, dc, ds, pA, pc, ps, mA, mc, mm, ak, ad⟩ := u
    obtain rfl : mm = [⟨#[112]⟩] := hm
    obtain ⟨b, o, hmA, hbl, _, hcc⟩ := hu.main.lies.2 (by show 0 < 1; omega)
    dsimp only at hmA
    subst hmA
    have e0 : w3.cell? ⟨b, o, none⟩ = some (.string ⟨#[112]⟩) := hcc 0 _ rfl
    clear hu hcc hx
    obtain ⟨q0, q1, q2, z0, z1, z2, ql⟩ := box3 HF3.out
    unfold Unt.val Flt.none Flt.val
    dsimp only [List.length_cons, List.length_nil]
    go_wp2
    go_ret
    exact ⟨by simp, below_alloc (below_alloc HB3.out (Nat.le_refl _) _) (Nat.le_refl _) _⟩
  · exact absurd hx (alive_two' _)

end Go.Proofs.YtfklajkmikanbaaGreatDoor.LandedP

/- Whether two units are the same, and whether one is of no great size, does not hang on where they lie. No program. -/
namespace Go.Proofs.YtfklajkmikanbaaGreatDoor.LandedP
open Go.RowKit

mutual
theorem sameEx_bare : ∀ a b : Ex, sameEx a.bare b.bare = sameEx a b
  | .node kd op nm nu A c ks, .node kd' op' nm' nu' A' c' ks' => by
    unfold Ex.bare sameEx
    rw [samesEx_bare ks ks', bares_map, bares_map, List.length_map, List.length_map]
theorem samesEx_bare : ∀ a b : List Ex, samesEx (baresE a) (baresE b) = samesEx a b
  | [], b => by unfold baresE samesEx; rfl
  | a :: r, [] => by unfold baresE samesEx; rfl
  | a :: r, b :: t => by
    unfold baresE samesEx
    rw [sameEx_bare a b, samesEx_bare r t]
end
theorem alikes_map {α β : Type} {f : α → α → Bool} {h : β → β → Bool} (g : α → β) (hf : ∀ a b, h (g a) (g b) = f a b) : ∀ l m : List α, alikes h (l.map g) (m.map g) = alikes f l m
  | [], [] => rfl
  | [], _ :: _ => rfl
  | _ :: _, [] => rfl
  | a :: r, b :: t => by
    rw [List.map_cons, List.map_cons]
    unfold alikes
    rw [hf, alikes_map g hf r t]
theorem sameRul_bare (a b : Rul) : sameRul a.bare b.bare = sameRul a b := by
  unfold sameRul Rul.bare
  dsimp only
  rw [alikes_map Ex.bare sameEx_bare]
theorem samePar_bare (a b : Par) : samePar a.bare b.bare = samePar a b := by
  unfold samePar Par.bare
  dsimp only
  rw [alikes_map Rul.bare sameRul_bare]
theorem samePol_bare (a b : Pol) : samePol a.bare b.bare = samePol a b := by
  unfold samePol Pol.bare
  dsimp only
  rw [alikes_map Par.bare samePar_bare]
theorem sameDfn_bare (a b : Dfn) : sameDfn a.bare b.bare = sameDfn a b := by
  unfold sameDfn Dfn.bare
  dsimp only
  rw [sameEx_bare]
theorem sameUnt_bare (a b : Unt) : sameUnt a.bare b.bare = sameUnt a b := by
  unfold sameUnt Unt.bare
  dsimp only
  rw [alikes_map Dfn.bare sameDfn_bare, alikes_map Pol.bare samePol_bare]

/-! ### Of no great size -/
mutual
def smallE : Ex → Bool
  | .node _ op nm _ _ _ ks => decide (op.size ≤ 1048576) && (decide (nm.size ≤ 1048576) && (decide (ks.length ≤ 1048576) && smallsE ks))
def smallsE : List Ex → Bool
  | [] => true
  | k :: r => smallE k && smallsE r
end
mutual
theorem smallE_bare : ∀ e : Ex, smallE e.bare = smallE e
  | .node kd op nm nu A c ks => by
    unfold Ex.bare smallE
    rw [smallsE_bare ks, bares_map, List.length_map]
theorem smallsE_bare : ∀ l : List Ex, smallsE (baresE l) = smallsE l
  | [] => by unfold baresE smallsE; rfl
  | k :: r => by
    unfold baresE smallsE
    rw [smallE_bare k, smallsE_bare r]
end
mutual
theorem smallE_ok : ∀ e : Ex, smallE e = true → ExSmall e
  | .node kd op nm nu A c ks, h => by
    unfold smallE at h
    simp only [Bool.and_eq_true, decide_eq_true_eq] at h
    exact .mk h.1 h.2.1 h.2.2.1 (smallsE_ok ks h.2.2.2)
theorem smallsE_ok : ∀ l : List Ex, smallsE l = true → ∀ k ∈ l, ExSmall k
  | [], _, k, hk => absurd hk (by simp)
  | a :: r, h, k, hk => by
    unfold smallsE at h
    simp only [Bool.and_eq_true] at h
    rcases List.mem_cons.1 hk with hk | hk
    · rw [hk]; exact smallE_ok a h.1
    · exact smallsE_ok r h.2 k hk
end
mutual
theorem deep_bare : ∀ e : Ex, depthOf e.bare = depthOf e
  | .node kd op nm nu A c ks => by
    unfold Ex.bare depthOf
    rw [deeps_bare ks 0]
theorem deeps_bare : ∀ (l : List Ex) (n : Nat), depthsOf n (baresE l) = depthsOf n l
  | [], n => rfl
  | k :: r, n => by
    unfold baresE depthsOf
    rw [deep_bare k, deeps_bare r]
end
def smallEx (e : Ex) : Bool := smallE e && decide (depthOf e ≤ 1000)
def smallS (s : ByteArray) : Bool := decide (s.size ≤ 1048576)
def smallRul (r : Rul) : Bool := smallS r.call && (r.params.all smallS && (decide (r.params.length ≤ 1048576) && (decide (r.cond.length ≤ 1048576) && r.cond.all smallEx)))
def smallPar (p : Par) : Bool := smallS p.use && (decide (p.rules.length ≤ 1048576) && (p.rules.all smallRul && decide (-9223372036854775808 ≤ p.data ∧ p.data ≤ 9223372036854775807)))
def smallPol (p : Pol) : Bool := smallS p.name && (decide (p.parts.length ≤ 1048576) && p.parts.all smallPar)
def smallDfn (d : Dfn) : Bool := smallS d.name && smallEx d.ex
def smallUnt (u : Unt) : Bool := decide (u.defs.length ≤ 1048576) && (u.defs.all smallDfn && (decide (u.pols.length ≤ 1048576) && (u.pols.all smallPol && (decide (u.main.length ≤ 1048576) && (u.main.all smallS && decide (-9223372036854775808 ≤ u.data ∧ u.data ≤ 9223372036854775807))))))
theorem smallEx_ok {e : Ex} (h : smallEx e.bare = true) : ExSmall e ∧ depthOf e ≤ 1000 := by
  unfold smallEx at h
  rw [smallE_bare, deep_bare] at h
  simp only [Bool.and_eq_true, decide_eq_true_eq] at h
  exact ⟨smallE_ok e h.1, h.2⟩
theorem smallRul_ok {r : Rul} (h : smallRul r.bare = true) : RulSmall r := by
  unfold smallRul Rul.bare at h
  simp only [Bool.and_eq_true, decide_eq_true_eq, List.all_eq_true, List.length_map, List.mem_map, forall_exists_index, and_imp, forall_apply_eq_imp_iff₂, smallS] at h
  exact ⟨h.1, h.2.1, h.2.2.1, h.2.2.2.1, fun e he => smallEx_ok (h.2.2.2.2 e he)⟩
theorem smallPar_ok {p : Par} (h : smallPar p.bare = true) : ParSmall p := by
  unfold smallPar Par.bare at h
  simp only [Bool.and_eq_true, decide_eq_true_eq, List.all_eq_true, List.length_map, List.mem_map, forall_exists_index, and_imp, forall_apply_eq_imp_iff₂, smallS] at h
  exact ⟨h.1, h.2.1, fun e he => smallRul_ok (h.2.2.1 e he), h.2.2.2⟩
theorem smallPol_ok {p : Pol} (h : smallPol p.bare = true) : PolSmall p := by
  unfold smallPol Pol.bare at h
  simp only [Bool.and_eq_true, decide_eq_true_eq, List.all_eq_true, List.length_map, List.mem_map, forall_exists_index, and_imp, forall_apply_eq_imp_iff₂, smallS] at h
  exact ⟨h.1, h.2.1, fun e he => smallPar_ok (h.2.2 e he)⟩
theorem smallDfn_ok {d : Dfn} (h : smallDfn d.bare = true) : DfnSmall d := by
  unfold smallDfn Dfn.bare at h
  simp only [Bool.and_eq_true, smallS, decide_eq_true_eq] at h
  obtain ⟨h1, h2⟩ := smallEx_ok h.2
  exact ⟨h.1, h1, h2⟩
theorem smallUnt_ok {u : Unt} (h : smallUnt u.bare = true) : UntSmall u := by
  unfold smallUnt Unt.bare at h
  simp only [Bool.and_eq_true, decide_eq_true_eq, List.all_eq_true, List.length_map, List.mem_map, forall_exists_index, and_imp, forall_apply_eq_imp_iff₂, smallS] at h
  exact ⟨h.1, fun d hd => smallDfn_ok (h.2.1 d hd), h.2.2.1, fun p hp => smallPol_ok (h.2.2.2.1 p hp), h.2.2.2.2.1, h.2.2.2.2.2.1, h.2.2.2.2.2.2⟩

end Go.Proofs.YtfklajkmikanbaaGreatDoor.LandedP
