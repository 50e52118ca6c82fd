/- The walk of the statement WeaveInline. -/
import Derived.Test.YtdjhpgpekomjeaaGreatDoorWvTells
import Derived.Test.YtdjhpgpekomjeaaGreatDoorWeaveInc
namespace Go.Proofs.YtdjhpgpekomjeaaGreatDoor
open Go.RowKit
variable {L : World → Prop}

set_option maxRecDepth 100000 in
set_option maxHeartbeats 8000000 in
theorem winl_long (R : WeaveSays L) (a b c : ByteArray) (w : World) (hw : L w) (h : 200 < a.size ∨ 200 < b.size ∨ 200 < c.size) :
    Calls Tryz.prog 4 #[.string a, .string b, .string c] w fun e w' => e = .returned (.bool true) ∧ Below w.heap.size w w' := by
  have q : (decide ((200 : Int) < (a.size : Int)) || decide ((200 : Int) < (b.size : Int)) || decide ((200 : Int) < (c.size : Int))) = true := by
    simp only [Bool.or_eq_true, decide_eq_true_eq]
    omega
  clear h
  go_enter Tryz.func4, Tryz.ntmps4
  go_wp2_with fail
  refine (walive_any R _ hw).mono ?_
  rintro r w1 ⟨rfl, hb1⟩
  go_wp2
  all_goals (go_ret; exact ⟨rfl, hb1⟩)

def threeV (a b c : ByteArray) : List FileV := [(⟨#[]⟩, a), (⟨#[]⟩, b), (⟨#[]⟩, c)]
theorem inc_three (a b c : ByteArray) (w : World) (A : Option Addr) (h : a.size ≤ 200 ∧ b.size ≤ 200 ∧ c.size ≤ 200) (hl : Lies w w.heap.size 2 A 3 [.string ⟨#[]⟩, .string a, .string ⟨#[]⟩, .string b, .string ⟨#[]⟩, .string c]) :
    Calls Tryz.prog 8 #[.slice A 3 3] w (fun r w' => r = .returned (.int .i64 (incAll (threeV a b c) : Int)) ∧ w = w') :=
  includes_any A 3 3 (threeV a b c) w hl (by omega) (fun f hf => by
    rcases List.mem_cons.1 hf with rfl | hf
    · show a.size ≤ _; omega
    rcases List.mem_cons.1 hf with rfl | hf
    · show b.size ≤ _; omega
    obtain rfl := List.mem_singleton.1 hf
    show c.size ≤ _
    omega)

set_option maxRecDepth 100000 in
set_option maxHeartbeats 8000000 in
theorem winl_incs (R : WeaveSays L) (a b c : ByteArray) (w : World) (hw : L w) (h : a.size ≤ 200 ∧ b.size ≤ 200 ∧ c.size ≤ 200) (hi : 0 < incAll (threeV a b c)) :
    Calls Tryz.prog 4 #[.string a, .string b, .string c] w fun e w' => e = .returned (.bool true) ∧ Below w.heap.size w w' := by
  have HI := Lib.hid (fun (w : World) (A : Option Addr) => inc_three a b c w A h)
  have q1 : decide ((200 : Int) < (a.size : Int)) = false := decide_eq_false (by omega)
  have q2 : decide ((200 : Int) < (b.size : Int)) = false := decide_eq_false (by omega)
  have q3 : decide ((200 : Int) < (c.size : Int)) = false := decide_eq_false (by omega)
  obtain ⟨I, hI⟩ : ∃ I, I = incAll (threeV a b c) := ⟨_, rfl⟩
  rw [← hI] at HI hi
  have q4 : decide ((0 : Int) < (I : Int)) = true := decide_eq_true (by omega)
  clear hI h
  go_enter Tryz.func4, Tryz.ntmps4
  go_wp2_with fail
  refine (walive_any R _ hw).mono ?_
  rintro r w1 ⟨rfl, hb1⟩
  go_wp2_with fail
  refine (HI.out _ _ (by exact lies_new _ _ _ (by simp) rfl rfl)).mono ?_
  rintro r w3 ⟨rfl, rfl⟩
  go_wp2
  all_goals (go_ret; exact ⟨rfl, below_alloc hb1 (Nat.le_refl _) _⟩)

set_option maxRecDepth 100000 in
set_option maxHeartbeats 8000000 in
theorem winl_bad (R : WeaveSays L) (a b c : ByteArray) (w : World) (hw : L w) (h : a.size ≤ 200 ∧ b.size ≤ 200 ∧ c.size ≤ 200) (hi : incAll (threeV a b c) = 0) (hbad : (∃ e, splitOf a.data.toList = .error e) ∨ (∃ e, splitOf b.data.toList = .error e) ∨ (∃ e, splitOf c.data.toList = .error e)) :
    Calls Tryz.prog 4 #[.string a, .string b, .string c] w fun e w' => e = .returned (.bool true) ∧ Below w.heap.size w w' := by
  have HI := Lib.hid (fun (w : World) (A : Option Addr) => inc_three a b c w A h)
  have hst := store_cx
  have q1 : decide ((200 : Int) < (a.size : Int)) = false := decide_eq_false (by omega)
  have q2 : decide ((200 : Int) < (b.size : Int)) = false := decide_eq_false (by omega)
  have q3 : decide ((200 : Int) < (c.size : Int)) = false := decide_eq_false (by omega)
  rw [hi] at HI
  have HB := Lib.hid hbad
  clear h hi hbad
  go_enter Tryz.func4, Tryz.ntmps4
  go_wp2_with fail
  refine (walive_any R _ hw).mono ?_
  rintro r w1 ⟨rfl, hb1⟩
  go_wp2_with fail
  refine (HI.out _ _ (by exact lies_new _ _ _ (by simp) rfl rfl)).mono ?_
  rintro r w3 ⟨rfl, rfl⟩
  have HN1 := Lib.hid (below_alloc hb1 (Nat.le_refl _) (.cells #[.string ⟨#[]⟩, .string a, .string ⟨#[]⟩, .string b, .string ⟨#[]⟩, .string c] 36))
  clear hb1
  go_wp2_with fail
  refine (split_any a 0 _).mono ?_
  intro r w2 h2
  obtain ⟨A2, n2, c2, e2, fi2, a2, b2, rfl, hb2, he2⟩ := sres_any h2
  have hn2 := below_step HN1.out (Nat.le_refl _) hb2
  have HE2 := Lib.hid he2
  have HBX := Lib.hid (Box.new w2 30 (faultCells e2 fi2 a2 b2))
  have HN2 := Lib.hid (below_alloc hn2 (Nat.le_refl _) (.cells (faultCells e2 fi2 a2 b2) 30))
  clear h2 hb2 hn2 HN1 he2
  dsimp only [faultCells]
  unfold faultCells at HBX HN2
  go_wp2_with fail
  obtain ⟨g1, hg1⟩ : ∃ g1, g1 = w2.heap.size := ⟨_, rfl⟩
  generalize w2.alloc (.cells #[.int .i64 e2, .int .i64 fi2, .complex .f64 a2 b2] 30) = w3 at *
  rw [← hg1] at HBX ⊢
  clear hg1
  refine (split_any b 1 _).mono ?_
  intro r w4 h4
  obtain ⟨A4, n4, c4, e4, fi4, a4, b4, rfl, hb4, he4⟩ := sres_any h4
  have hn4 := below_step HN2.out (Nat.le_refl _) hb4
  have HE4 := Lib.hid he4
  have hx4 := HBX.out.step hb4
  have HBX4 := Lib.hid (hx4.alloc (.cells (faultCells e4 fi4 a4 b4) 30))
  have HBY := Lib.hid (Box.new w4 30 (faultCells e4 fi4 a4 b4))
  have HN4 := Lib.hid (below_alloc hn4 (Nat.le_refl _) (.cells (faultCells e4 fi4 a4 b4) 30))
  clear h4 hb4 hn4 HN2 he4 HBX hx4
  dsimp only [faultCells]
  unfold faultCells at HBX4 HBY HN4
  go_wp2_with fail
  obtain ⟨g2, hg2⟩ : ∃ g2, g2 = w4.heap.size := ⟨_, rfl⟩
  generalize w4.alloc (.cells #[.int .i64 e4, .int .i64 fi4, .complex .f64 a4 b4] 30) = w5 at *
  rw [← hg2] at HBY ⊢
  clear hg2
  refine (split_any c 0 _).mono ?_
  intro r w6 h6
  obtain ⟨A6, n6, c6, e6, fi6, a6, b6, rfl, hb6, he6⟩ := sres_any h6
  have HN6 := Lib.hid (below_step HN4.out (Nat.le_refl _) hb6)
  have hx := (HBX4.out.step hb6)
  have hy := (HBY.out.step hb6)
  have hne : e2 ≠ 0 ∨ e4 ≠ 0 ∨ e6 ≠ 0 := by
    rcases HB.out with ⟨e, he⟩ | ⟨e, he⟩ | ⟨e, he⟩
    · exact .inl (by rw [HE2.out e he]; exact split_err he)
    · exact .inr (.inl (by rw [HE4.out e he]; exact split_err he))
    · exact .inr (.inr (by rw [he6 e he]; exact split_err he))
  have u0 := hx.cell 0
  have v0 := hy.cell 0
  simp only [List.getElem?_toArray, List.getElem?_cons_zero] at u0 v0
  have ux := hx.lt
  have vx := hy.lt
  clear h6 hb6 he6 hx hy HBX4 HBY HN4
  dsimp only [faultCells]
  have q5 : (e2 != 0 || e4 != 0 || e6 != 0) = true := by
    simp only [Bool.or_eq_true, bne_iff_ne]
    omega
  by_cases z2 : e2 = 0
  · subst z2
    by_cases z4 : e4 = 0
    · subst z4
      have z6 : e6 ≠ 0 := by omega
      go_wp2
      all_goals (go_ret; exact ⟨rfl, below_alloc HN6.out (Nat.le_refl _) _⟩)
    · go_wp2
      all_goals (go_ret; exact ⟨rfl, below_alloc HN6.out (Nat.le_refl _) _⟩)
  · go_wp2
    all_goals (go_ret; exact ⟨rfl, below_alloc HN6.out (Nat.le_refl _) _⟩)

def fileT (f : Int) (l : List TokV) : List FTok := l.map fun t => (f, t)
theorem fileT_len (f : Int) (l : List TokV) : (fileT f l).length = l.length := by simp [fileT]
theorem fileT_at (f : Int) (l : List TokV) (i : Nat) (t : TokV) (h : l[i]? = some t) : (fileT f l)[i]? = some (f, t) := by simp [fileT, h]
theorem inline_at (x y z : List TokV) (k i : Nat) (h : i < x.length + y.length + z.length) :
    ∃ (f g : Int) (t u : TokV), (fileT 0 x ++ (fileT 1 y ++ fileT 0 (z.map (shiftT k))))[i]? = some (f, t) ∧ (fileT 0 x ++ fileT 1 y ++ fileT 0 z)[i]? = some (g, u) ∧ t.kind = u.kind ∧ t.text = u.text ∧ f = if x.length ≤ i ∧ i < x.length + y.length then 1 else 0 := by
  rw [List.append_assoc]
  by_cases h1 : i < x.length
  · obtain ⟨t, ht⟩ : ∃ t, x[i]? = some t := ⟨_, List.getElem?_eq_getElem h1⟩
    refine ⟨0, 0, t, t, ?_, ?_, rfl, rfl, by rw [if_neg (by omega)]⟩
    · rw [List.getElem?_append_left (by rw [fileT_len]; exact h1), fileT_at _ _ _ _ ht]
    · rw [List.getElem?_append_left (by rw [fileT_len]; exact h1), fileT_at _ _ _ _ ht]
  · have right : ∀ B : List FTok, (fileT 0 x ++ B)[i]? = B[i - x.length]? := fun B => by
      rw [List.getElem?_append_right (by rw [fileT_len]; omega), fileT_len]
    rw [right, right]
    by_cases h2 : i < x.length + y.length
    · obtain ⟨t, ht⟩ : ∃ t, y[i - x.length]? = some t := ⟨_, List.getElem?_eq_getElem (by omega)⟩
      refine ⟨1, 1, t, t, ?_, ?_, rfl, rfl, by rw [if_pos (by omega)]⟩
      · rw [List.getElem?_append_left (by rw [fileT_len]; omega), fileT_at _ _ _ _ ht]
      · rw [List.getElem?_append_left (by rw [fileT_len]; omega), fileT_at _ _ _ _ ht]
    · obtain ⟨t, ht⟩ : ∃ t, z[i - x.length - y.length]? = some t := ⟨_, List.getElem?_eq_getElem (by omega)⟩
      refine ⟨0, 0, shiftT k t, t, ?_, ?_, rfl, rfl, by rw [if_neg (by omega)]⟩
      · rw [List.getElem?_append_right (by rw [fileT_len]; omega), fileT_len, fileT_at _ _ _ (shiftT k t) (by rw [List.getElem?_map, ht]; rfl)]
      · rw [List.getElem?_append_right (by rw [fileT_len]; omega), fileT_len, fileT_at _ _ _ _ ht]
theorem three_inc {a b c : ByteArray} (h : incAll (threeV a b c) = 0) : incCount a.data.toList = 0 ∧ incCount b.data.toList = 0 ∧ incCount c.data.toList = 0 := by
  simp [incAll, threeV] at h
  omega

set_option maxRecDepth 100000 in
set_option maxHeartbeats 16000000 in
theorem winl_in (R : WeaveSays L) (a b c : ByteArray) (w : World) (hw : L w) (h : a.size ≤ 200 ∧ b.size ≤ 200 ∧ c.size ≤ 200) (hi : incAll (threeV a b c) = 0) (x y z : List TokV) (hx : splitOf a.data.toList = .ok x) (hy : splitOf b.data.toList = .ok y) (hz : splitOf c.data.toList = .ok z) :
    Calls Tryz.prog 4 #[.string a, .string b, .string c] w fun e w' => e = .returned (.bool true) ∧ Below w.heap.size w w' := by
  obtain ⟨i0, hi0, hz0, hz1, hz2⟩ := info_parts Tryz.infoTok
  have HI := Lib.hid (fun (w : World) (A : Option Addr) => inc_three a b c w A h)
  have hst := store_cx
  obtain ⟨s1, s2, s3⟩ := h
  have q1 : decide ((200 : Int) < (a.size : Int)) = false := decide_eq_false (by omega)
  have q2 : decide ((200 : Int) < (b.size : Int)) = false := decide_eq_false (by omega)
  have q3 : decide ((200 : Int) < (c.size : Int)) = false := decide_eq_false (by omega)
  obtain ⟨i1, i2, i3⟩ := three_inc hi
  rw [hi] at HI
  have hsz : (inlineText a c).size = a.size + 14 + c.size := by
    unfold inlineText
    rw [ByteArray.size_append, ByteArray.size_append]
    rfl
  obtain ⟨K, hK⟩ := weave_inline a b c x y z hx hy hz (split_inc hx i1) (split_inc hy i2) (split_inc hz i3) (by omega)
  have HT : Hid (∀ (A : Option Addr) (W : World), Below w.heap.size w W → Lies W W.heap.size 2 A 2 [.string ⟨#[109]⟩, .string (inlineText a c), .string ⟨#[110]⟩, .string b] → Calls Tryz.prog 9 #[.slice A 2 2, .string ⟨#[109]⟩] W (WeaveRes (.ok (fileT 0 x ++ (fileT 1 y ++ fileT 0 (z.map (shiftT K))))) W)) := fun A W hW hA => by
    have := R.tokens A 2 2 [(⟨#[109]⟩, inlineText a c), (⟨#[110]⟩, b)] ⟨#[109]⟩ W (R.keep w W hw hW) hA (by omega) (by omega) (by decide) (fun f hf => by
      rcases List.mem_cons.1 hf with rfl | hf
      · exact ⟨(by decide : (⟨#[109]⟩ : ByteArray).size ≤ 100000), by show (inlineText a c).size ≤ _; omega⟩
      · obtain rfl := List.mem_singleton.1 hf
        exact ⟨(by decide : (⟨#[110]⟩ : ByteArray).size ≤ 100000), by show b.size ≤ _; omega⟩)
    have e : weaveOf [(⟨#[109]⟩, inlineText a c), (⟨#[110]⟩, b)] (⟨#[109]⟩ : ByteArray).data.toList = _ := hK
    rw [e] at this
    exact this
  have SA : Hid (∀ W : World, Calls Tryz.prog 12 #[.string a, .int .i64 0] W (SplitRes 0 (.ok x) W)) := fun W => by
    have := split_any a 0 W
    rw [hx] at this
    exact this
  have SB : Hid (∀ W : World, Calls Tryz.prog 12 #[.string b, .int .i64 1] W (SplitRes 1 (.ok y) W)) := fun W => by
    have := split_any b 1 W
    rw [hy] at this
    exact this
  have SC : Hid (∀ W : World, Calls Tryz.prog 12 #[.string c, .int .i64 0] W (SplitRes 0 (.ok z) W)) := fun W => by
    have := split_any c 0 W
    rw [hz] at this
    exact this
  have lx : x.length ≤ 20000 := split_most hx
  have ly : y.length ≤ 20000 := split_most hy
  have lz : z.length ≤ 20000 := split_most hz
  have hs14 : (a ++ ⟨#[10, 35, 105, 110, 99, 108, 117, 100, 101, 32, 34, 110, 34, 10]⟩).size = a.size + 14 := by
    rw [ByteArray.size_append]
    rfl
  clear hi hx hy hz hK i1 i2 i3
  go_enter Tryz.func4, Tryz.ntmps4
  go_wp2_with fail
  refine (walive_any R _ hw).mono ?_
  rintro r w1 ⟨rfl, hb1⟩
  go_wp2_with fail
  refine (HI.out _ _ (by exact lies_new _ _ _ (by simp) rfl rfl)).mono ?_
  rintro r w3 ⟨rfl, rfl⟩
  have HN1 := Lib.hid (below_alloc hb1 (Nat.le_refl _) (.cells #[.string ⟨#[]⟩, .string a, .string ⟨#[]⟩, .string b, .string ⟨#[]⟩, .string c] 36))
  clear hb1
  go_wp2_with fail
  refine (SA.out _).mono ?_
  intro r w2 h2
  obtain ⟨A2, c2, rfl, hc2, hl2, hb2⟩ := sres_ok h2
  have hn2 := below_step HN1.out (Nat.le_refl _) hb2
  have HBX := Lib.hid (Box.new w2 30 (faultCells 0 0 0 0))
  have HN2 := Lib.hid (below_alloc hn2 (Nat.le_refl _) (.cells (faultCells 0 0 0 0) 30))
  have hbl : Below w2.heap.size w2 (w2.alloc (.cells (faultCells 0 0 0 0) 30)) := (Below.refl w2.heap.size w2).alloc (Nat.le_refl _) _
  have HX3 := Lib.hid ((hl2.below hbl).wider hbl.size)
  clear h2 hb2 hn2 HN1 hl2 hbl
  dsimp only [faultCells]
  unfold faultCells at HBX HN2 HX3
  go_wp2_with fail
  obtain ⟨g1, hg1⟩ : ∃ g1, g1 = w2.heap.size := ⟨_, rfl⟩
  generalize w2.alloc (.cells #[.int .i64 0, .int .i64 0, .complex .f64 0 0] 30) = w3 at *
  rw [← hg1] at HBX ⊢
  clear hg1
  refine (SB.out _).mono ?_
  intro r w4 h4
  obtain ⟨A4, c4, rfl, hc4, hl4, hb4⟩ := sres_ok h4
  have hn4 := below_step HN2.out (Nat.le_refl _) hb4
  have hx4 := HBX.out.step hb4
  have HBX4 := Lib.hid (hx4.alloc (.cells (faultCells 0 0 0 0) 30))
  have HBY := Lib.hid (Box.new w4 30 (faultCells 0 0 0 0))
  have HN4 := Lib.hid (below_alloc hn4 (Nat.le_refl _) (.cells (faultCells 0 0 0 0) 30))
  have hbl : Below w4.heap.size w4 (w4.alloc (.cells (faultCells 0 0 0 0) 30)) := (Below.refl w4.heap.size w4).alloc (Nat.le_refl _) _
  have HX5 := Lib.hid ((((HX3.out.below hb4).wider hb4.size).below hbl).wider hbl.size)
  have HY5 := Lib.hid ((hl4.below hbl).wider hbl.size)
  clear h4 hb4 hn4 HN2 HBX hx4 HX3 hl4 hbl
  dsimp only [faultCells]
  unfold faultCells at HBX4 HBY HN4 HX5 HY5
  go_wp2_with fail
  obtain ⟨g2, hg2⟩ : ∃ g2, g2 = w4.heap.size := ⟨_, rfl⟩
  generalize w4.alloc (.cells #[.int .i64 0, .int .i64 0, .complex .f64 0 0] 30) = w5 at *
  rw [← hg2] at HBY ⊢
  clear hg2
  refine (SC.out _).mono ?_
  intro r w6 h6
  obtain ⟨A6, c6, rfl, hc6, hl6, hb6⟩ := sres_ok h6
  have hn6 := below_step HN4.out (Nat.le_refl _) hb6
  have HN7 := Lib.hid (below_alloc hn6 (Nat.le_refl _) (.cells (faultCells 0 0 0 0) 30))
  have hbl : Below w6.heap.size w6 (w6.alloc (.cells (faultCells 0 0 0 0) 30)) := (Below.refl w6.heap.size w6).alloc (Nat.le_refl _) _
  have HX7 := Lib.hid ((((HX5.out.below hb6).wider hb6.size).below hbl).wider hbl.size)
  have HY7 := Lib.hid ((((HY5.out.below hb6).wider hb6.size).below hbl).wider hbl.size)
  have HZ7 := Lib.hid ((hl6.below hbl).wider hbl.size)
  have hx := (HBX4.out.step hb6)
  have hy := (HBY.out.step hb6)
  have u0 := hx.cell 0
  have v0 := hy.cell 0
  simp only [List.getElem?_toArray, List.getElem?_cons_zero] at u0 v0
  have ux := hx.lt
  have vx := hy.lt
  clear h6 hb6 hn6 hx hy HBX4 HBY HN4 hl6 HX5 HY5 hbl
  dsimp only [faultCells]
  unfold faultCells at HN7 HX7 HY7 HZ7
  go_wp2_with fail
  clear u0 v0 ux vx
  have HS7 : Hid (w6.heap.size + 1 = (w6.alloc (.cells #[.int .i64 0, .int .i64 0, .complex .f64 0 0] 30)).heap.size) := by
    unfold Hid
    simp
  generalize w6.alloc (.cells #[.int .i64 0, .int .i64 0, .complex .f64 0 0] 30) = w7 at *
  refine (HT.out _ _ (by exact below_alloc HN7.out (Nat.le_refl _) _) (by exact lies_new _ _ _ HS7.out rfl rfl)).mono ?_
  intro r w8 h8
  obtain ⟨A8, c8, rfl, hc8, hl8, hb8⟩ := wres_ok h8
  have hbl : Below w7.heap.size w7 (w7.alloc (.cells #[.string ⟨#[109]⟩, .string (inlineText a c), .string ⟨#[110]⟩, .string b] 36)) := (Below.refl w7.heap.size w7).alloc (Nat.le_refl _) _
  have hbm : Below w7.heap.size w7 w8 := hbl.trans (hb8.mono hbl.size)
  have HN8 := Lib.hid (below_step HN7.out (Nat.le_refl _) hbm)
  have hbn : Below w8.heap.size w8 (w8.alloc (.cells (faultCells 0 0 0 0) 30)) := (Below.refl w8.heap.size w8).alloc (Nat.le_refl _) _
  have HN9 := Lib.hid (below_alloc HN8.out (Nat.le_refl _) (.cells (faultCells 0 0 0 0) 30))
  have HX9 := Lib.hid ((((HX7.out.below hbm).wider hbm.size).below hbn).wider hbn.size)
  have HY9 := Lib.hid ((((HY7.out.below hbm).wider hbm.size).below hbn).wider hbn.size)
  have HZ9 := Lib.hid ((((HZ7.out.below hbm).wider hbm.size).below hbn).wider hbn.size)
  have HT9 := Lib.hid ((hl8.below hbn).wider hbn.size)
  clear h8 hb8 hbl hbm hbn HX7 HY7 HZ7 HN7 HN8 hl8
  simp only [List.length_append, fileT_len, List.length_map] at HT9 hc8 ⊢
  dsimp only [faultCells]
  unfold faultCells at HN9 HX9 HY9 HZ9 HT9
  rw [← ftoksV_file] at HX9 HY9 HZ9
  go_wp2_with (at_builtin; go_loud (refine wpList_append_lies _ rfl (.const (.slice none 0 0)) (.tmp 105) _ rfl (w8.heap.size + 1) 39 i0 _ 4 48 Tryz.underlying26 hi0 hz0 hz1 hz2 rfl (by omega) (.slice none 0 0) 0 [] rfl (World.ownsRow_nil _ _ _ _) _ A2 x.length c2 _ rfl HX9.out (ftoksV_cells _) (by unfold maxLen; omega) (by omega) (by simp) ?_))
  intro v10 w10 hown10 hg10
  have hG : w8.heap.size + 1 = (w8.alloc (.cells #[.int .i64 0, .int .i64 0, .complex .f64 0 0] 30)).heap.size := by simp
  rw [hG] at hown10
  clear hG
  generalize (w8.alloc (.cells #[.int .i64 0, .int .i64 0, .complex .f64 0 0] 30)) = w9 at *
  have hb10 : Below w9.heap.size w9 w10 := below_grown (Below.refl _ _) (World.ownsRow_nil w9 w9.heap.size 39 4) (Nat.le_refl _) (Nat.le_refl _) hg10
  have hy10 := HY9.out.below hb10
  have hs10 := hb10.size
  clear hg10 HY9 HX9
  go_wp2_with (at_builtin; go_loud (refine wpList_append_lies _ rfl (.tmp 106) (.tmp 107) _ rfl w9.heap.size 39 i0 _ 4 48 Tryz.underlying26 hi0 hz0 hz1 hz2 rfl (by omega) _ _ _ rfl hown10 _ A4 y.length c4 _ rfl hy10 (ftoksV_cells _) (by unfold maxLen; omega) (by omega) hs10 ?_))
  intro v11 w11 hown11 hg11
  have hb11 : Below w9.heap.size w9 w11 := below_grown hb10 hown10 (Nat.le_refl _) hs10 hg11
  have hz11 := HZ9.out.below hb11
  have hs11 := hb11.size
  clear hg11 HZ9 hown10 hb10 hy10 hs10
  go_wp2_with (at_builtin; go_loud (refine wpList_append_lies _ rfl (.tmp 108) (.tmp 109) _ rfl w9.heap.size 39 i0 _ 4 48 Tryz.underlying26 hi0 hz0 hz1 hz2 rfl (by omega) _ _ _ rfl hown11 _ A6 z.length c6 _ rfl hz11 (ftoksV_cells _) (by unfold maxLen; omega) (by omega) hs11 ?_))
  intro v12 w12 hown12 hg12
  have hb12 : Below w9.heap.size w9 w12 := below_grown hb11 hown11 (Nat.le_refl _) hs11 hg12
  have hs12 := hb12.size
  have HN12 := Lib.hid (below_step HN9.out (Nat.le_refl _) hb12)
  have HT12 := Lib.hid ((HT9.out.below hb12).wider hs12)
  obtain ⟨A12, c12, rfl, hc12, hl12⟩ := own_form hown12
  have el : ftoksV (fileT 0 x ++ fileT 1 y ++ fileT 0 z) = ftoksV (x.map fun t => ((0 : Int), t)) ++ (ftoksV (y.map fun t => ((1 : Int), t)) ++ ftoksV (z.map fun t => ((0 : Int), t))) := by
    rw [ftoksV_append, ftoksV_append, List.append_assoc]
    rfl
  have HA12 : Hid (Lies w12 w12.heap.size 4 A12 (x.length + y.length + z.length) (ftoksV (fileT 0 x ++ fileT 1 y ++ fileT 0 z))) := by
    rw [el]
    exact hl12
  clear hg12 hz11 hs11 hb11 hown11 hown12 hl12 el hb12 HN9 HT9
  go_wp2_with fail
  go_loopw [17] (fun i wr => ∃ j : Nat, j ≤ x.length + (y.length + z.length) ∧ i = .int .i64 j ∧ Below w12.heap.size w12 wr) (fun i _ => x.length + (y.length + z.length) - (intOf i).toNat)
  case atStart => exact ⟨0, by omega, rfl, Below.refl _ _⟩
  case round =>
    obtain ⟨j, hj, rfl, hnx⟩ := hrel
    by_cases hjl : j < x.length + (y.length + z.length)
    · obtain ⟨f, g, t, u, r1, r2, hk, ht, hf⟩ := inline_at x y z K j (by omega)
      obtain ⟨a0, a1, a2, a3⟩ := ftok_cells _ _ _ r1
      obtain ⟨d0, d1, d2, d3⟩ := ftok_cells _ _ _ r2
      obtain ⟨b1, o1, rfl, hb1, hc1⟩ := HT12.out.2 (by omega)
      obtain ⟨b2, o2, rfl, hb2, hc2⟩ := HA12.out.2 (by omega)
      have e0 := (hnx.cell (p := ⟨b1, o1 + j * 4, none⟩) hb1).trans (hc1 _ _ a0)
      have e1 := (hnx.cell (p := ⟨b1, o1 + (j * 4 + 1), none⟩) hb1).trans (hc1 _ _ a1)
      have e2 := (hnx.cell (p := ⟨b1, o1 + (j * 4 + 2), none⟩) hb1).trans (hc1 _ _ a2)
      have f0 := (hnx.cell (p := ⟨b2, o2 + j * 4, none⟩) hb2).trans (hc2 _ _ d0)
      have f1 := (hnx.cell (p := ⟨b2, o2 + (j * 4 + 1), none⟩) hb2).trans (hc2 _ _ d1)
      rw [← Nat.add_assoc] at e1 e2 f1
      dsimp only at e0 e1 e2 f0 f1
      rw [← hk] at f0
      rw [← ht] at f1
      have w9 : IntKind.i64.wrap ((x.length : Int) + (y.length : Int)) = (x.length : Int) + (y.length : Int) := by rw [IntKind.wrap_i64]; omega
      have j1 : j < x.length + y.length + z.length := by omega
      clear a0 a1 a2 a3 d0 d1 d2 d3 hc1 hc2 r1 r2
      by_cases h1 : x.length ≤ j
      · by_cases h2 : j < x.length + y.length
        · rw [if_pos ⟨h1, h2⟩] at hf
          subst hf
          have g1 : (x.length : Int) ≤ (j : Int) := by omega
          have g2 : (j : Int) < (x.length : Int) + (y.length : Int) := by omega
          go_wp2_with fail
          go_quiet (fail)
          go_wp2
          go_roundw
          case rel => exact ⟨j + 1, by omega, by go_num, below_drewN hnx _⟩
          case measure => simp [intOf]; omega
        · rw [if_neg (by omega)] at hf
          subst hf
          have g1 : (x.length : Int) ≤ (j : Int) := by omega
          have g2 : ¬ (j : Int) < (x.length : Int) + (y.length : Int) := by omega
          go_wp2_with fail
          go_quiet (fail)
          go_wp2
          go_roundw
          case rel => exact ⟨j + 1, by omega, by go_num, below_drewN hnx _⟩
          case measure => simp [intOf]; omega
      · rw [if_neg (by omega)] at hf
        subst hf
        have g1 : ¬ (x.length : Int) ≤ (j : Int) := by omega
        go_wp2_with fail
        go_quiet (fail)
        go_wp2
        go_roundw
        case rel => exact ⟨j + 1, by omega, by go_num, below_drewN hnx _⟩
        case measure => simp [intOf]; omega
    · obtain rfl : j = x.length + (y.length + z.length) := by omega
      go_wp2
      go_ret
      exact ⟨rfl, below_step HN12.out (Nat.le_refl _) hnx⟩

theorem winl_any (R : WeaveSays L) (a b c : ByteArray) (w : World) (hw : L w) :
    Calls Tryz.prog 4 #[.string a, .string b, .string c] w fun e w' => e = .returned (.bool true) ∧ Below w.heap.size w w' := by
  by_cases h : a.size ≤ 200 ∧ b.size ≤ 200 ∧ c.size ≤ 200
  · by_cases hi : incAll (threeV a b c) = 0
    · cases hx : splitOf a.data.toList with
      | error e => exact winl_bad R a b c w hw h hi (.inl ⟨e, hx⟩)
      | ok x =>
        cases hy : splitOf b.data.toList with
        | error e => exact winl_bad R a b c w hw h hi (.inr (.inl ⟨e, hy⟩))
        | ok y =>
          cases hz : splitOf c.data.toList with
          | error e => exact winl_bad R a b c w hw h hi (.inr (.inr ⟨e, hz⟩))
          | ok z => exact winl_in R a b c w hw h hi x y z hx hy hz
    · exact winl_incs R a b c w hw h (by omega)
  · exact winl_long R a b c w hw (by omega)

end Go.Proofs.YtdjhpgpekomjeaaGreatDoor
