/- Texts of mine put together (a claim has at most so many files): WeaveTop, Float, TokCx, WeaveFace. -/
import Derived.Test.YtdjhpgpekomjeaaGreatDoorWeaveRef
import Derived.Test.YtdjhpgpekomjeaaGreatDoorPart5
import Derived.Test.YtdjhpgpekomjeaaGreatDoorTokSplit
import Derived.BigQuiet
/- What the document's own Weave gives. -/
namespace Go.Proofs.YtdjhpgpekomjeaaGreatDoor
open Go.RowKit

theorem res_end {R : Except FaultV (List FTok)} {w W : World} {e file : Int} {p : Nat × Nat} {a b c : Value} {A : Option Addr} {cc : Nat} (hR : R = .error (e, file, p)) (hb : Below w.heap.size w W) :
    WeaveRes R w (.returned (.tuple #[.slice A 0 cc, .agg (faultCells e file (fl p.1) (fl p.2))])) (((W.setCell ⟨w.heap.size, 0, none⟩ a).setCell ⟨w.heap.size, 1, none⟩ b).setCell ⟨w.heap.size, 2, none⟩ c) := by
  refine ⟨.inl ⟨(e, file, p), A, cc, hR, rfl⟩, ?_⟩
  iterate 3 (with_reducible refine below_set (Nat.le_refl _) ?_)
  exact hb

set_option maxRecDepth 100000 in
set_option maxHeartbeats 4000000 in
theorem refWeave_any (A : Option Addr) (N c : Nat) (fs : List FileV) (root : ByteArray) (w : World) (hl : Lies w w.heap.size 2 A N (filesV fs)) (hN : N ≤ 4294967296) (hroot : root.size ≤ 1048576) (hfs : ∀ f ∈ fs, FileOk f) :
    Calls Tryz.prog 10 #[.slice A N c, .string root] w (WeaveRes (weaveOf fs root.data.toList) w) := by
  have hst := store_cx
  have hln : fs.length = N := by have := hl.1; rw [filesV_len] at this; omega
  obtain ⟨Q, hQ⟩ : ∃ Q, Q = fileOf fs root.data.toList := ⟨_, rfl⟩
  obtain ⟨R, hR⟩ : ∃ R, R = weaveOf fs root.data.toList := ⟨_, rfl⟩
  have HR : Hid (R = if Q.2 then (weaveL fs 7 Q.1.toNat [Q.1.toNat] 0).1 else .error (4, -1, (0, 0))) := by rw [hR, hQ]; rfl
  have HQ : Hid (∀ W : World, Lies W W.heap.size 2 A N (filesV fs) → Calls Tryz.prog 16 #[.slice A N c, .string root] W (NumBool Q W)) := fun W hW => by
    rw [hQ]
    exact refFile_any A N c fs root W hW (by omega) (by omega) (fun f hf => by have := (hfs f hf).1; omega)
  have HQL : Hid (Q.2 = true → 0 ≤ Q.1 ∧ Q.1.toNat < fs.length) := fun h => by rw [hQ] at h ⊢; exact fileOf_lt h
  have hf0 : fl 0 = 0 := by decide +kernel
  rw [← hR]
  have HL := Lib.hid hl
  have HZ0 := Lib.hid (Box.new w 30 (faultCells 0 0 0 0))
  have HN0 : Hid (Below w.heap.size w (w.alloc (.cells (faultCells 0 0 0 0) 30))) := below_alloc (Below.refl _ _) (Nat.le_refl _) _
  unfold faultCells at HZ0 HN0
  clear hQ hR hl
  go_enter Tryz.func10, Tryz.ntmps10
  go_wp2_with fail
  refine (HQ.out _ ((HL.out.below HN0.out).wider HN0.out.size)).mono ?_
  rintro r w1 ⟨rfl, hb1⟩
  have HZ1 := Lib.hid (HZ0.out.step hb1)
  have HN1 := Lib.hid (HN0.out.trans (hb1.mono HN0.out.size))
  clear hb1 HQ HZ0 HN0
  have hy1 := HN1.out.size
  have hgg := HZ1.out.lt
  obtain ⟨q1, q2⟩ := Q
  cases q2 with
  | false =>
    have HE : Hid (R = .error (4, -1, (0, 0))) := HR.out
    have c0 := HZ1.out.cell 0
    have c1 := HZ1.out.cell 1
    have c2 := HZ1.out.cell 2
    simp only [List.getElem?_toArray, List.getElem?_cons_zero, List.getElem?_cons_succ] at c0 c1 c2
    have z0 := HZ1.out.free 0
    have z1 := HZ1.out.free 1
    have z2 := HZ1.out.free 2
    clear HR HQL
    go_wp2_with fail
    have hbx := box_trio (a := .int .i64 4) (b := .int .i64 (-1)) (c := .complex .f64 0 0) HZ1.out
    refine bodyPost_ret (results_tmp_box rfl _ _ w.heap.size 30 _ ?fa1 hbx _ Tryz.underlying30 ?fa2 ?fa3) ?fa4 ?fa5
    case fa2 => rfl
    case fa3 => exact faultSize
    case fa1 => rfl
    case fa4 => rfl
    case fa5 =>
      have := res_end (A := none) (cc := 0) (a := .int .i64 4) (b := .int .i64 (-1)) (c := .complex .f64 0 0) HE.out HN1.out
      unfold faultCells at this
      rw [show (((0, 0) : Nat × Nat).1 : Int) = 0 from rfl, hf0] at this
      exact this
  | true =>
    have HE : Hid (R = (weaveL fs 7 q1.toNat [q1.toNat] 0).1) := HR.out
    obtain ⟨hq0, hqn⟩ := HQL.out rfl
    obtain ⟨f', rfl⟩ : ∃ f' : Nat, q1 = (f' : Int) := ⟨q1.toNat, by omega⟩
    rw [Int.toNat_natCast] at HE hqn
    have hA1 : ∀ k, w.heap.size ≤ k → Clear k A := by
      intro k hk a ha
      subst ha
      obtain ⟨b, o, he, hb, _⟩ := HL.out.2 (by omega)
      have := Option.some.inj he
      rw [this]
      show b ≠ k
      omega
    clear HR HQL hq0
    have HG2 := Lib.hid (Box.new w1 53 #[.int .i64 0])
    have hbn : Below w1.heap.size w1 ((w1.alloc (.cells #[.int .i64 0] 53)).alloc (.cells #[.int .i64 (f' : Int)] 3)) := below_alloc (below_alloc (Below.refl _ _) (Nat.le_refl _) _) (Nat.le_refl _) _
    have HG3 : Hid (Box ((w1.alloc (.cells #[.int .i64 0] 53)).alloc (.cells #[.int .i64 (f' : Int)] 3)) w1.heap.size 53 #[.int .i64 ((0 : Nat) : Int)]) := HG2.out.alloc _
    have HO3 : Hid (Lies ((w1.alloc (.cells #[.int .i64 0] 53)).alloc (.cells #[.int .i64 (f' : Int)] 3)) ((w1.alloc (.cells #[.int .i64 0] 53)).alloc (.cells #[.int .i64 (f' : Int)] 3)).heap.size 1 (some ⟨w1.heap.size + 1, 0, none⟩) [f'].length (natsV [f'])) := lies_new _ 1 1 (by simp) rfl rfl
    have HN3 := Lib.hid (HN1.out.trans (hbn.mono hy1))
    have HZ3 := Lib.hid (HZ1.out.step hbn)
    have hl3 := (HL.out.below HN3.out).wider HN3.out.size
    have hcl : Clear w1.heap.size (some ⟨w1.heap.size + 1, 0, none⟩) := by
      intro a ha
      cases ha
      show w1.heap.size + 1 ≠ w1.heap.size
      omega
    have HC := Lib.hid (weaveRef_any fs w1.heap.size A N c (hA1 _ hy1) hN hfs 7 [f'] rfl (some ⟨w1.heap.size + 1, 0, none⟩) 1 f' 0 _ hl3 HO3.out hcl HG3.out (by omega) hqn)
    clear hl3 hcl HO3 HG2 hbn HG3 HZ1
    go_wp2_with fail
    refine (HC.out).mono ?_
    rintro r w4 ⟨hres, _, how⟩
    have HN4 := Lib.hid (below_only HN3.out hy1 HN3.out.size how)
    have HZ4 := Lib.hid (box_only HZ3.out (by omega) how)
    clear HC HZ3
    have c0 := HZ4.out.cell 0
    have c1 := HZ4.out.cell 1
    have c2 := HZ4.out.cell 2
    simp only [List.getElem?_toArray, List.getElem?_cons_zero, List.getElem?_cons_succ] at c0 c1 c2
    have z0 := HZ4.out.free 0
    have z1 := HZ4.out.free 1
    have z2 := HZ4.out.free 2
    have gg := HZ4.out.lt
    rcases hres with ⟨⟨e1, e2, ep⟩, A5, c5, he, hen, rfl⟩ | ⟨x, A5, c5, hx, rfl, hxc, hownx⟩
    · have HE2 : Hid (R = .error (e1, e2, ep)) := by unfold Hid; rw [HE.out, he]
      dsimp only [faultCells]
      clear HE he hen how
      go_wp2_with fail
      have hbx := box_trio (a := .int .i64 e1) (b := .int .i64 e2) (c := .complex .f64 (fl (ep.1 : Int)) (fl (ep.2 : Int))) HZ4.out
      refine bodyPost_ret (results_tmp_box rfl _ _ w.heap.size 30 _ ?fb1 hbx _ Tryz.underlying30 ?fb2 ?fb3) ?fb4 ?fb5
      case fb2 => rfl
      case fb3 => exact faultSize
      case fb1 => rfl
      case fb4 => rfl
      case fb5 => exact res_end HE2.out HN4.out
    · have HE2 : Hid (R = .ok x) := by unfold Hid; rw [HE.out, hx]
      dsimp only [faultCells]
      have hg0 : w.heap.size < ((w1.alloc (.cells #[.int .i64 0] 53)).alloc (.cells #[.int .i64 (f' : Int)] 3)).heap.size := by simp; omega
      have hown3 := ownsRow_setCell_below (ownsRow_setCell_below (ownsRow_setCell_below hownx (a := ⟨w.heap.size, 0, none⟩) hg0 (.int .i64 0)) (a := ⟨w.heap.size, 1, none⟩) hg0 (.int .i64 0)) (a := ⟨w.heap.size, 2, none⟩) hg0 (.complex .f64 0 0)
      have HL5 := Lib.hid (Lies.of_own hown3)
      clear HE hx how hownx hown3
      go_wp2_with fail
      have hbx := box_trio (a := .int .i64 0) (b := .int .i64 0) (c := .complex .f64 0 0) HZ4.out
      refine bodyPost_ret (results_tmp_box rfl _ _ w.heap.size 30 _ ?fc1 hbx _ Tryz.underlying30 ?fc2 ?fc3) ?fc4 ?fc5
      case fc2 => rfl
      case fc3 => exact faultSize
      case fc1 => rfl
      case fc4 => rfl
      case fc5 =>
        refine ⟨.inr ⟨x, A5, c5, HE2.out, rfl, hxc, HL5.out⟩, ?_⟩
        iterate 3 (with_reducible refine below_set (Nat.le_refl _) ?_)
        exact HN4.out

end Go.Proofs.YtdjhpgpekomjeaaGreatDoor

/- Plain facts on whole numbers as floats. -/
namespace Go.Proofs.YtdjhpgpekomjeaaGreatDoor
open Go.RowKit

theorem read_word (neg : Bool) (r : Nat) (h : r ≤ Ieee.double.infRung) : (∃ m i, Ieee.double.read (Ieee.double.word neg r) = .number neg m i) ∨ Ieee.double.read (Ieee.double.word neg r) = .infinity neg := by
  have e1 : Ieee.double.signWeight = 9223372036854775808 := by decide
  have e2 : Ieee.double.infRung = 9218868437227405312 := by decide
  have e3 : Ieee.double.binade = 4503599627370496 := by decide
  rw [e2] at h
  have hw : Ieee.double.word neg r / 9223372036854775808 % 2 = neg.toNat ∧ Ieee.double.word neg r % 9223372036854775808 = r := by
    unfold Ieee.Format.word
    rw [e1]
    cases neg <;> simp <;> omega
  have hn : (Ieee.double.word neg r / 9223372036854775808 % 2 == 1) = neg := by rw [hw.1]; cases neg <;> rfl
  unfold Ieee.Format.read
  rw [e1, e2, e3, hn, hw.2]
  simp only
  split
  · exact .inl ⟨_, _, rfl⟩
  · split
    · exact .inl ⟨_, _, rfl⟩
    · rw [if_pos (by omega)]
      exact .inr rfl

theorem order_refl (d : Ieee.Datum) (h : (∃ s m i, d = .number s m i) ∨ ∃ s, d = .infinity s) : d.order d = some .eq := by
  rcases h with ⟨s, m, i, rfl⟩ | ⟨s, rfl⟩
  · simp [Ieee.Datum.order]
  · simp [Ieee.Datum.order]

theorem feq_refl (n : Int) : feq (fl n) (fl n) = true := by
  have hr : ∃ neg r, fl n = Ieee.double.word neg r ∧ r ≤ Ieee.double.infRung := by
    show ∃ neg r, Ieee.double.write (.number (n < 0) n.natAbs 0) = Ieee.double.word neg r ∧ r ≤ Ieee.double.infRung
    unfold Ieee.Format.write Ieee.Format.nearest
    simp only
    split
    · exact ⟨_, _, rfl, Nat.zero_le _⟩
    · exact ⟨_, _, rfl, Nat.min_le_right _ _⟩
  obtain ⟨neg, r, e, hle⟩ := hr
  have ho : Ieee.double.order (fl n) (fl n) = some .eq := by
    unfold Ieee.Format.order
    refine order_refl _ ?_
    rw [e]
    rcases read_word neg r hle with ⟨m, i, h⟩ | h
    · exact .inl ⟨_, _, _, h⟩
    · exact .inr ⟨_, h⟩
  show (Ieee.double.order (fl n) (fl n) == some .eq) = true
  rw [ho]
  rfl

end Go.Proofs.YtdjhpgpekomjeaaGreatDoor

/- Spots within structs: that one is itself. -/
namespace Go.Proofs.YtdjhpgpekomjeaaGreatDoor
open Go.RowKit

theorem fl_0 : fl 0 = 0 := by decide +kernel
theorem fl_3 : fl 3 = 4613937818241073152 := by decide +kernel
theorem ord_0 : FloatKind.f64.format.order 0 0 = some .eq := by decide +kernel
theorem ord_1 : FloatKind.f64.format.order 4607182418800017408 4607182418800017408 = some .eq := by decide +kernel
theorem ord_3 : FloatKind.f64.format.order 4613937818241073152 4613937818241073152 = some .eq := by decide +kernel
theorem ord_fl (n : Int) : FloatKind.f64.format.order (fl n) (fl n) = some .eq := by
  have := feq_refl n
  unfold feq at this
  exact eq_of_beq this

/-- Two spots within a struct. -/
theorem eq_cx_at (d a b : Nat) (W : World) (ha : FloatKind.f64.format.order a a = some .eq) (hb : FloatKind.f64.format.order b b = some .eq) : (Op.equalIn (d + 1) 28 (.complex .f64 a b) (.complex .f64 a b)).run Tryz.prog W = .ok true W := by
  simp [Op.equalIn, run_underlying Tryz.underlying28, Op.floatEq, ha, hb]
theorem eq_cx (a b : Nat) (W : World) (ha : FloatKind.f64.format.order a a = some .eq) (hb : FloatKind.f64.format.order b b = some .eq) : (Op.equalIn 9999 28 (.complex .f64 a b) (.complex .f64 a b)).run Tryz.prog W = .ok true W := eq_cx_at 9998 a b W ha hb

end Go.Proofs.YtdjhpgpekomjeaaGreatDoor

/- What package weave's function says: to be shown of the code as it landed; what the statements' own helpers give. -/
namespace Go.Proofs.YtdjhpgpekomjeaaGreatDoor
open Go.RowKit

/-- The landed code's contract; L: what it leans on of what lies there when it is called. -/
structure WeaveSays (L : World → Prop) : Prop where
  keep : ∀ w w', L w → Below w.heap.size w w' → L w'
  tokens : ∀ (A : Option Addr) (N c : Nat) (fs : List FileV) (root : ByteArray) (w : World), L w → Lies w w.heap.size 2 A N (filesV fs) → N ≤ c → N ≤ 1000 → root.size ≤ 100000 → (∀ f ∈ fs, f.1.size ≤ 100000 ∧ f.2.size ≤ 100000) →
    Calls Tryz.prog 9 #[.slice A N c, .string root] w (WeaveRes (weaveOf fs root.data.toList) w)

variable {L : World → Prop}

theorem wres_ok {l : List FTok} {w : World} {r : Ending} {w' : World} (h : WeaveRes (.ok l) w r w') :
    ∃ (A : Option Addr) (c : Nat), r = .returned (.tuple #[.slice A l.length c, .agg (faultCells 0 0 0 0)]) ∧ l.length ≤ c ∧ Lies w' w'.heap.size 4 A l.length (ftoksV l) ∧ Below w.heap.size w w' := by
  obtain ⟨h, hb⟩ := h
  rcases h with ⟨e, A, c, h1, _⟩ | ⟨m, A, c, h1, h2, h3, h4⟩
  · cases h1
  · have : l = m := by injection h1
    subst this
    exact ⟨A, c, h2, h3, h4, hb⟩
theorem wres_bad {e : FaultV} {w : World} {r : Ending} {w' : World} (h : WeaveRes (.error e) w r w') :
    ∃ (A : Option Addr) (c : Nat), r = .returned (.tuple #[.slice A 0 c, .agg (faultCells e.1 e.2.1 (fl e.2.2.1) (fl e.2.2.2))]) ∧ Below w.heap.size w w' := by
  obtain ⟨h, hb⟩ := h
  rcases h with ⟨e', A, c, h1, h2⟩ | ⟨m, A, c, h1, _⟩
  · have h3 : e = e' := by injection h1
    subst h3
    exact ⟨A, c, h2, hb⟩
  · cases h1

theorem ftok_cells : ∀ (l : List FTok) (k : Nat) (t : FTok), l[k]? = some t →
    (ftoksV l)[k * 4]? = some (.int .i64 t.2.kind) ∧ (ftoksV l)[k * 4 + 1]? = some (.string (strOf t.2.text)) ∧ (ftoksV l)[k * 4 + 2]? = some (.int .i64 t.1) ∧ (ftoksV l)[k * 4 + 3]? = some (.complex .f64 (fl t.2.place.1) (fl t.2.place.2))
  | [], k, t, h => by simp at h
  | x :: r, 0, t, h => by
    obtain rfl : x = t := by simpa using h
    exact ⟨rfl, rfl, rfl, rfl⟩
  | x :: r, k + 1, t, h => by
    have := ftok_cells r k t (by simpa using h)
    have e : ∀ j, (ftoksV (x :: r))[(k + 1) * 4 + j]? = (ftoksV r)[k * 4 + j]? := fun j => by
      rw [show (k + 1) * 4 + j = 4 + (k * 4 + j) from by omega]
      show (ftokV x ++ ftoksV r)[4 + (k * 4 + j)]? = _
      rw [List.getElem?_append_right (by simp [ftokV, tokVals])]
      simp [ftokV, tokVals]
    exact ⟨(e 0).trans this.1, (e 1).trans this.2.1, (e 2).trans this.2.2.1, (e 3).trans this.2.2.2⟩

set_option maxRecDepth 100000 in
set_option maxHeartbeats 2000000 in
/-- The same tokens, wherever they lie. -/
theorem fsame_yes (l : List FTok) (A B : Option Addr) (c d : Nat) (w : World) (ha : Lies w w.heap.size 4 A l.length (ftoksV l)) (hb : Lies w w.heap.size 4 B l.length (ftoksV l)) (hle : l.length ≤ 4398046511104) :
    Calls Tryz.prog 11 #[.slice A l.length c, .slice B l.length d] w (fun r w' => r = .returned (.bool true) ∧ Below w.heap.size w w') := by
  have HA := Lib.hid ha
  have HB := Lib.hid hb
  obtain ⟨n, hn⟩ : ∃ n, n = l.length := ⟨_, rfl⟩
  rw [← hn] at HA HB hle ⊢
  have HN := Lib.hid hn
  clear ha hb hn
  go_enter Tryz.func11, Tryz.ntmps11
  go_wp2_with fail
  go_loopw [5] (fun i wr => ∃ k : Nat, k ≤ n ∧ i = .int .i64 k ∧ Below w.heap.size w wr) (fun i _ => n - (intOf i).toNat)
  case atStart => exact ⟨0, by omega, rfl, Below.refl _ _⟩
  case round =>
    obtain ⟨k, hk, rfl, hnx⟩ := hrel
    by_cases hlt : k < n
    · obtain ⟨t, ht⟩ : ∃ t, l[k]? = some t := ⟨_, List.getElem?_eq_getElem (by have := HN.out; omega)⟩
      obtain ⟨a0, a1, a2, a3⟩ := ftok_cells l k t ht
      obtain ⟨b1, o1, rfl, hb1, hc1⟩ := HA.out.2 (by omega)
      obtain ⟨b2, o2, rfl, hb2, hc2⟩ := HB.out.2 (by omega)
      have e0 := (hnx.cell (p := ⟨b1, o1 + k * 4, none⟩) hb1).trans (hc1 _ _ a0)
      have e1 := (hnx.cell (p := ⟨b1, o1 + (k * 4 + 1), none⟩) hb1).trans (hc1 _ _ a1)
      have e2 := (hnx.cell (p := ⟨b1, o1 + (k * 4 + 2), none⟩) hb1).trans (hc1 _ _ a2)
      have e3 := (hnx.cell (p := ⟨b1, o1 + (k * 4 + 3), none⟩) hb1).trans (hc1 _ _ a3)
      have f0 := (hnx.cell (p := ⟨b2, o2 + k * 4, none⟩) hb2).trans (hc2 _ _ a0)
      have f1 := (hnx.cell (p := ⟨b2, o2 + (k * 4 + 1), none⟩) hb2).trans (hc2 _ _ a1)
      have f2 := (hnx.cell (p := ⟨b2, o2 + (k * 4 + 2), none⟩) hb2).trans (hc2 _ _ a2)
      have f3 := (hnx.cell (p := ⟨b2, o2 + (k * 4 + 3), none⟩) hb2).trans (hc2 _ _ a3)
      rw [← Nat.add_assoc] at e1 e2 e3 f1 f2 f3
      obtain ⟨tf, tt⟩ := t
      have hcx := fun W => eq_cx (fl tt.place.1) (fl tt.place.2) W (ord_fl _) (ord_fl _)
      dsimp only at e0 e1 e2 e3 f0 f1 f2 f3
      clear a0 a1 a2 a3 hc1 hc2 ht
      go_wp2_with fail
      go_quiet (fail)
      go_wp2
      go_roundw
      case rel => exact ⟨k + 1, by omega, by go_num, below_drewN hnx _⟩
      case measure => simp [intOf]; omega
    · obtain rfl : k = n := by omega
      go_wp2
      go_ret
      exact ⟨rfl, hnx⟩

/-! ### The helpers -/
def fewB (fs : List FileV) : Bool := fs.all (fun f => decide (f.2.size ≤ 600) && decide (f.1.size ≤ 60)) && decide (fs.length ≤ 8)

set_option maxRecDepth 100000 in
set_option maxHeartbeats 2000000 in
theorem few_any (A : Option Addr) (N c : Nat) (fs : List FileV) (w : World) (hl : Lies w w.heap.size 2 A N (filesV fs)) (hN : N ≤ 140737488355328) :
    Calls Tryz.prog 7 #[.slice A N c] w (fun r w' => r = .returned (.bool (fewB fs)) ∧ w = w') := by
  have hln : fs.length = N := by have := hl.1; rw [filesV_len] at this; omega
  have HLN := Lib.hid hln
  have HL := Lib.hid hl
  obtain ⟨R, hR⟩ : ∃ R, R = fewB fs := ⟨_, rfl⟩
  have HR := Lib.hid hR
  rw [← hR]
  clear hln hl hR
  go_enter Tryz.func7, Tryz.ntmps7
  go_wp2_with fail
  go_loopw [3] (fun i wr => ∃ k : Nat, k ≤ N ∧ i = .int .i64 k ∧ w = wr ∧ Hid (∀ f ∈ fs.take k, f.2.size ≤ 600 ∧ f.1.size ≤ 60)) (fun i _ => N - (intOf i).toNat)
  case atStart => exact ⟨0, by omega, rfl, rfl, fun f h => by simp at h⟩
  case round =>
    obtain ⟨k, hk, rfl, rfl, HALL⟩ := hrel
    by_cases hlt : k < N
    · obtain ⟨f, hf⟩ : ∃ f, fs[k]? = some f := ⟨_, List.getElem?_eq_getElem (by have := HLN.out; omega)⟩
      obtain ⟨q0, q1⟩ := filesV_at fs k f hf
      obtain ⟨b, o, rfl, hb, hc⟩ := HL.out.2 (by omega)
      have e0 := hc _ _ q0
      have e1 := hc _ _ q1
      rw [← Nat.add_assoc] at e1
      have HF := Lib.hid hf
      clear q0 q1 hc hf
      by_cases h1 : f.2.size ≤ 600 ∧ f.1.size ≤ 60
      · have g1 : (f.2.size : Int) ≤ 600 := by omega
        have g2 : (f.1.size : Int) ≤ 60 := by omega
        have HA2 : Hid (∀ f ∈ fs.take (k + 1), f.2.size ≤ 600 ∧ f.1.size ≤ 60) := by
          intro x hx
          rw [take_one HF.out] at hx
          rcases List.mem_append.1 hx with h | h
          · exact HALL.out x h
          · rw [List.mem_singleton.1 h]; exact h1
        clear h1
        go_wp2
        go_roundw
        case rel => exact ⟨k + 1, by omega, by go_num, by first | rfl | trivial, HA2⟩
        case measure => simp [intOf]; omega
      · have hr : R = false := by
          rw [HR.out]
          unfold fewB
          have : fs.all (fun f => decide (f.2.size ≤ 600) && decide (f.1.size ≤ 60)) = false := by
            cases ha : fs.all (fun f => decide (f.2.size ≤ 600) && decide (f.1.size ≤ 60))
            · rfl
            · have := List.all_eq_true.1 ha f (List.mem_of_getElem? HF.out)
              simp at this
              exact absurd this h1
          rw [this]
          rfl
        have HRF := Lib.hid hr
        have h2 : 600 < f.2.size ∨ (f.2.size ≤ 600 ∧ 60 < f.1.size) := by omega
        clear h1 hr
        rcases h2 with h2 | ⟨h2, h3⟩
        · have g1 : ¬ (f.2.size : Int) ≤ 600 := by omega
          have g2 : (600 : Int) < (f.2.size : Int) := by omega
          go_wp2
          go_ret
          exact ⟨by rw [HRF.out]; rfl, by first | rfl | trivial⟩
        · have g1 : (f.2.size : Int) ≤ 600 := by omega
          have g2 : (60 : Int) < (f.1.size : Int) := by omega
          go_wp2
          go_ret
          exact ⟨by rw [HRF.out]; rfl, by first | rfl | trivial⟩
    · obtain rfl : k = N := by omega
      have hr : R = decide (fs.length ≤ 8) := by
        rw [HR.out]
        unfold fewB
        have : fs.all (fun f => decide (f.2.size ≤ 600) && decide (f.1.size ≤ 60)) = true := by
          rw [List.all_eq_true]
          intro f hf
          have := HALL.out f (by rw [List.take_of_length_le (by rw [HLN.out]; omega)]; exact hf)
          simpa using this
        rw [this]
        rfl
      rw [HLN.out] at hr
      have HRF := Lib.hid hr
      clear hr
      by_cases h8 : k ≤ 8
      · have g8 : (k : Int) ≤ 8 := by omega
        go_wp2
        go_ret
        exact ⟨by rw [HRF.out, decide_eq_true h8]; rfl, by first | rfl | trivial⟩
      · have g8 : ¬ (k : Int) ≤ 8 := by omega
        go_wp2
        go_ret
        exact ⟨by rw [HRF.out, decide_eq_false h8]; rfl, by first | rfl | trivial⟩

/-- How often the word of an include stands in a text. -/
def incCount : List UInt8 → Nat
  | [] => 0
  | c :: r => (if (c :: r).take 8 == includeT then 1 else 0) + incCount r
def incAll (fs : List FileV) : Nat := (fs.map fun f => incCount f.2.data.toList).sum
theorem inc_le : ∀ s : List UInt8, incCount s ≤ s.length
  | [] => Nat.le_refl _
  | c :: r => by
    have := inc_le r
    rw [incCount, List.length_cons]
    split <;> omega
theorem inc_short : ∀ s : List UInt8, s.length < 8 → incCount s = 0
  | [], _ => rfl
  | c :: r, h => by
    have ih := inc_short r (by simp at h; omega)
    rw [incCount, ih]
    have : ((c :: r).take 8 == includeT) = false := by
      rw [beq_eq_false_iff_ne]
      intro e
      have := congrArg List.length e
      simp [includeT] at this
      simp at h
      omega
    rw [this]
    rfl

end Go.Proofs.YtdjhpgpekomjeaaGreatDoor
