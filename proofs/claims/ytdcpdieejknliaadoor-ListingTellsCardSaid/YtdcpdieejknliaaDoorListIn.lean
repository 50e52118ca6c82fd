/- The landed Read: a line of a text, and all its lines. -/
import Derived.Test.YtdcpdieejknliaaDoorListLow
import Derived.Test.YtdcpdieejknliaaDoorResBox
import Derived.Deep.DeepCutAuto
namespace Go.Proofs.YtdcpdieejknliaaDoor
open Go.RowKit

/-- What is handed back of a number: 0, where it is none. -/
def numGet (l : List UInt8) (m : Int) : Int := if (numOf l m).2 then (numOf l m).1 else 0
def numHas (l : List UInt8) (m : Int) : Bool := (numOf l m).2

theorem numGet_bd (l : List UInt8) (m : Int) (hm : 0 ≤ m) : 0 ≤ numGet l m ∧ numGet l m ≤ m := by
  unfold numGet
  have := num_bd l m
  split
  · rename_i h; exact ⟨this.1, this.2 h⟩
  · omega

set_option maxHeartbeats 2000000 in
theorem readNumber_any (B M : Nat) (hB : (B = 8 ∧ M = 255) ∨ (B = 16 ∧ M = 65535) ∨ (B = 32 ∧ M = 4294967295)) (l : List UInt8) (hs : l.length ≤ 4294967280) (w : World) (hL : Laid w) :
    Calls Tryd.prog 24 #[.string (strOf l), .int .i64 B] w fun e w' => e = .returned (.tuple #[.int .u64 (numGet l M), .bool (numHas l M)]) ∧ Below w.heap.size w w' := by
  have hB' : B = 8 ∨ B = 16 ∨ B = 32 := by
    rcases hB with h | h | h
    · exact .inl h.1
    · exact .inr (.inl h.1)
    · exact .inr (.inr h.1)
  have hz : (strOf l).size = l.length := strOf_size l
  by_cases hz1 : l.length ≤ 1 ∨ l.head? ≠ some 48
  · have hg : (l.length : Int) ≤ 1 ∨ ∃ p0 : 0 < (strOf l).size, ((((strOf l)[0]'p0).toNat : Int) == 48) = false := by
      rcases hz1 with h | h
      · exact .inl (by omega)
      · by_cases h0 : l.length ≤ 1
        · exact .inl (by omega)
        · refine .inr ⟨by omega, ?_⟩
          rw [List.head?_eq_getElem?] at h
          have := str_at (strOf l) 0 (by omega)
          rw [strOf_data] at this
          rw [this] at h
          rw [beq_eq_false_iff_ne]
          intro e
          exact h (congrArg some (UInt8.toNat_inj.1 (by show ((strOf l)[0]'(by omega)).toNat = 48; omega)))
    have HP : Hid ((∃ u, Lib.parseUintB B l = .ok u ∧ numGet l M = (u : Int) ∧ numHas l M = true) ∨ ((∀ u, Lib.parseUintB B l ≠ .ok u) ∧ numGet l M = 0 ∧ numHas l M = false)) := by
      unfold Hid
      by_cases h : ∃ u, Lib.parseUintB B l = .ok u
      · obtain ⟨u, hu⟩ := h
        have hn := (parse_iff B M hB l hz1 u).1 hu
        exact .inl ⟨u, hu, by unfold numGet; rw [hn]; rfl, by unfold numHas; rw [hn]⟩
      · have hno : ∀ u, Lib.parseUintB B l ≠ .ok u := fun u hu => h ⟨u, hu⟩
        have hf : (numOf l M).2 = false := by
          cases hc : (numOf l M).2
          · rfl
          · exfalso
            have h0 := (num_bd l M).1
            refine hno (numOf l M).1.toNat ((parse_iff B M hB l hz1 _).2 ?_)
            rw [show (((numOf l M).1.toNat : Nat) : Int) = (numOf l M).1 from by omega, ← hc]
        exact .inr ⟨hno, by unfold numGet; rw [hf]; rfl, hf⟩
    have HY := Lib.hid (fun u h W => parse_yes B hB' l u h hs W)
    have HN := Lib.hid (fun h => parse_no B hB' l h hs w hL)
    clear hL hz1 hB
    generalize numGet l M = g at HP ⊢
    generalize numHas l M = q at HP ⊢
    have hlz : ((strOf l).size : Int) = (l.length : Int) := by rw [hz]
    rcases HP.out with ⟨u, hu, rfl, rfl⟩ | ⟨hno, rfl, rfl⟩
    · have HC := Lib.hid (HY.out u hu)
      clear HP HY HN hu
      rcases hg with hg | ⟨p0, hg⟩
      all_goals
        go_enter Tryd.func24, Tryd.ntmps24
        go_wp2_with (go_at_call 32; refine (HC.out _).mono ?_; rintro r w1 ⟨rfl, hb1⟩)
        all_goals
          go_ret2
          exact ⟨rfl, hb1⟩
    · have HC := Lib.hid (HN.out hno)
      clear HP HY HN hno
      rcases hg with hg | ⟨p0, hg⟩
      all_goals
        go_enter Tryd.func24, Tryd.ntmps24
        go_wp2_with (go_at_call 32; refine (HC.out).mono ?_; rintro r w1 ⟨⟨v, t, p, rfl⟩, hb1⟩)
        all_goals
          go_ret2
          exact ⟨rfl, hb1⟩
  · have hg : 1 < l.length ∧ l.head? = some 48 := by
      refine ⟨by omega, ?_⟩
      cases hc : decide (l.head? = some 48)
      · exact absurd (.inr (by simpa using hc)) hz1
      · simpa using hc
    have hq : numGet l M = 0 ∧ numHas l M = false := by
      have hs : numShape l = false := by
        simp only [numShape, hg.2]
        have : ¬ l.length ≤ 1 := by omega
        simp [this]
      unfold numGet numHas
      rw [num_not _ _ hs]
      exact ⟨rfl, rfl⟩
    have p0 : 0 < (strOf l).size := by omega
    have hb : ((((strOf l)[0]'p0).toNat : Int) == 48) = true := by
      have := str_at (strOf l) 0 p0
      rw [strOf_data, ← List.head?_eq_getElem?, hg.2] at this
      rw [← Option.some.inj this]
      rfl
    obtain ⟨hg, -⟩ := hg
    rw [hq.1, hq.2]
    have hlz : ((strOf l).size : Int) = (l.length : Int) := by rw [hz]
    clear hq hz1 hL hB hB'
    go_enter Tryd.func24, Tryd.ntmps24
    go_wp2_with fail
    all_goals
      go_ret2
      exact ⟨rfl, Below.refl _ _⟩

/-- What is handed back of a line's code. -/
def CodeIs (o : Option (Int × List UInt8)) (N : Nat) (w : World) : Ending → World → Prop :=
  fun r w' => ∃ c f, r = .returned (.tuple #[.int .i64 c, .string (strOf f), .bool o.isSome]) ∧ (∀ p, o = some p → c = p.1 ∧ f = p.2) ∧ f.length ≤ N ∧ Below w.heap.size w w'

set_option maxRecDepth 100000 in
set_option maxHeartbeats 2000000 in
theorem readCode_any (l : List UInt8) (hs : l.length ≤ 4294967280) (w : World) (hL : Laid w) :
    Calls Tryd.prog 23 #[.string (strOf l)] w (CodeIs (headLand l) l.length w) := by
  have HCUT := Lib.hid (cut_any l 32 w hL hs)
  obtain ⟨hl1, hl2⟩ := cutOf_len 32 l
  have HL := Lib.hid hL
  obtain ⟨O, hO⟩ : ∃ O, O = headLand l := ⟨_, rfl⟩
  rw [← hO]
  unfold headLand at hO
  generalize hA : (cutOf 32 l).1 = a at hl1 hO HCUT
  generalize hF : (cutOf 32 l).2.1 = f at hl2 hO HCUT
  generalize hQ : (cutOf 32 l).2.2 = q at HCUT
  have HO := Lib.hid hO
  clear hA hF hQ hO hL
  by_cases hc : a = [99, 111, 100, 101]
  · have hq : ((strOf a).toList == [99, 111, 100, 101]) = true := by rw [strOf_toList]; simpa using hc
    have HO2 : Hid (O = if (numOf (cutOf 32 f).1 65535).2 = true ∧ nameOf (numOf (cutOf 32 f).1 65535).1 = [] then some ((numOf (cutOf 32 f).1 65535).1, (cutOf 32 f).2.1) else none) := by
      unfold Hid
      rw [HO.out, if_pos hc]
    have HC2 := Lib.hid (fun W h => cut_any f 32 W h (by omega))
    obtain ⟨hm1, hm2⟩ := cutOf_len 32 f
    generalize hA : (cutOf 32 f).1 = b at hm1 HO2 HC2
    generalize hF : (cutOf 32 f).2.1 = g at hm2 HO2 HC2
    generalize hQ : (cutOf 32 f).2.2 = q2 at HC2
    have HN := Lib.hid (fun W h => readNumber_any 16 65535 (.inr (.inl ⟨rfl, rfl⟩)) b (by omega) W h)
    have HM := Lib.hid (fun W h => nameOf_any (numGet b 65535) W h)
    have hbd := numGet_bd b 65535 (by omega)
    have HX : Hid (((numHas b 65535 = true ∧ (nameOf (numGet b 65535)).isEmpty = true) ∧ O = some (numGet b 65535, g)) ∨ ((numHas b 65535 = false ∨ (nameOf (numGet b 65535)).isEmpty = false) ∧ O = none)) := by
      unfold Hid numHas
      rw [HO2.out]
      by_cases h1 : (numOf b 65535).2 = true
      · have e : numGet b 65535 = (numOf b 65535).1 := by unfold numGet; rw [if_pos h1]
        rw [e]
        by_cases h2 : nameOf (numOf b 65535).1 = []
        · exact .inl ⟨⟨h1, by rw [h2]; rfl⟩, by rw [if_pos ⟨h1, h2⟩]⟩
        · refine .inr ⟨.inr ?_, by rw [if_neg (fun h => h2 h.2)]⟩
          cases h : nameOf (numOf b 65535).1 with
          | nil => exact absurd h h2
          | cons _ _ => rfl
      · exact .inr ⟨.inl (by simpa using h1), by rw [if_neg (fun h => h1 h.1)]⟩
    clear HO HO2 hc hA hF hQ
    obtain ⟨u, hu⟩ : ∃ u, u = numGet b 65535 := ⟨_, rfl⟩
    obtain ⟨v, hv⟩ : ∃ v, v = numHas b 65535 := ⟨_, rfl⟩
    rw [← hu] at HX HM hbd
    rw [← hv] at HX
    have HN' : Hid (∀ W, Laid W → Calls Tryd.prog 24 #[.string (strOf b), .int .i64 16] W fun e w' => e = .returned (.tuple #[.int .u64 u, .bool v]) ∧ Below W.heap.size W w') := by
      rw [hu, hv]
      exact HN.out
    clear HN hu hv
    have y0 : IntKind.i64.wrap u = u := by rw [IntKind.wrap_i64]; omega
    generalize nameOf u = nm at HM HX
    generalize hE : nm.isEmpty = em at HM HX
    go_enter Tryd.func23, Tryd.ntmps23
    go_wp2_with fail
    refine (HCUT.out).mono ?_
    rintro r w1 ⟨rfl, hb1⟩
    have h1 := HL.out.below hb1
    have H1 := Lib.hid h1
    have HB1 := Lib.hid hb1
    clear h1 hb1
    go_wp2_with fail
    refine (HC2.out _ H1.out).mono ?_
    rintro r w2 ⟨rfl, hb2⟩
    have H2 := Lib.hid (H1.out.below hb2)
    have HB2 := Lib.hid (below_step HB1.out (Nat.le_refl _) hb2)
    clear hb2
    go_wp2_with fail
    refine (HN'.out _ H2.out).mono ?_
    rintro r w3 ⟨rfl, hb3⟩
    have H3 := Lib.hid (H2.out.below hb3)
    have HB3 := Lib.hid (below_step HB2.out (Nat.le_refl _) hb3)
    clear hb3
    go_wp2_with fail
    refine (HM.out _ H3.out).mono ?_
    rintro r w4 ⟨rfl, hb4⟩
    have HB4 := Lib.hid (below_step HB3.out (Nat.le_refl _) hb4)
    clear hb4
    rcases HX.out with ⟨⟨rfl, rfl⟩, hO⟩ | ⟨h, hO⟩
    · have HO := Lib.hid hO
      clear hO HX
      go_wp2
      go_ret3
      exact ⟨u, g, by rw [HO.out]; rfl, fun p hp => by rw [HO.out] at hp; cases hp; exact ⟨rfl, rfl⟩, by omega, HB4.out⟩
    · have HO := Lib.hid hO
      clear hO HX
      rcases h with rfl | rfl
      all_goals
        go_wp2
        all_goals
          go_ret3
          exact ⟨0, [], by rw [HO.out]; rfl, (fun p hp => by rw [HO.out] at hp; cases hp), by simp, HB4.out⟩
  · have hq : ((strOf a).toList == [99, 111, 100, 101]) = false := by rw [strOf_toList]; simpa using hc
    have HX : Hid (O.isSome = codeHas a ∧ (∀ p, O = some p → codeGet a = p.1 ∧ f = p.2)) := by
      unfold Hid codeHas codeGet
      rw [HO.out, if_neg hc]
      by_cases h : codeAt a < 0
      · rw [if_pos h]
        refine ⟨?_, fun p hp => by cases hp⟩
        rw [decide_eq_false (by omega)]
        rfl
      · rw [if_neg h, if_neg h]
        refine ⟨?_, fun p hp => by cases hp; exact ⟨rfl, rfl⟩⟩
        rw [decide_eq_true (by omega)]
        rfl
    have HN := Lib.hid (fun W h => codeOf_any a W h)
    generalize codeGet a = u at HX HN
    generalize codeHas a = v at HX HN
    clear HO hc
    go_enter Tryd.func23, Tryd.ntmps23
    go_wp2_with fail
    refine (HCUT.out).mono ?_
    rintro r w1 ⟨rfl, hb1⟩
    have h1 := HL.out.below hb1
    have H1 := Lib.hid h1
    have HB1 := Lib.hid hb1
    clear h1 hb1
    go_wp2_with fail
    refine (HN.out _ H1.out).mono ?_
    rintro r w2 ⟨rfl, hb2⟩
    have HB2 := Lib.hid (below_step HB1.out (Nat.le_refl _) hb2)
    clear hb2
    go_wp2
    go_ret3
    exact ⟨u, f, by rw [HX.out.1]; rfl, HX.out.2, hl2, HB2.out⟩

end Go.Proofs.YtdcpdieejknliaaDoor
