/- What the document's own Bool gives. -/
import Derived.Test.YtogpicfofifbkaaGreatDoorTreeExpr
namespace Go.Proofs.YtogpicfofifbkaaGreatDoor
open Go.RowKit

theorem small_kids {kd nu : Int} {op nm : ByteArray} {A : Option Addr} {c : Nat} {ks : List Ex} (h : ExSmall (.node kd op nm nu A c ks)) : nm.size ≤ 1048576 ∧ ∀ k ∈ ks, ExSmall k := by cases h with | mk _ h2 _ h4 => exact ⟨h2, h4⟩

set_option maxRecDepth 100000 in
set_option maxHeartbeats 4000000 in
theorem refBool_any (e : Ex) (hs : ExSmall e) : ∀ w : World, ExIn w w.heap.size e → Calls Tryz.prog 12 #[e.val] w (Quietly (.bool (boolOk e)) w) := by
  induction hs with
  | @mk kd op nm nu A c ks ho hn hk all ih =>
  intro w hin
  have hks := hin.kids
  obtain ⟨V, hV⟩ : ∃ V, V = boolOk (.node kd op nm nu A c ks) := ⟨_, rfl⟩
  rw [← hV]
  unfold Ex.val
  simp only
  cases h1 : emptyB nm with
  | false =>
    have HV : Hid (V = false) := by rw [hV]; exact bool_none (.inl h1)
    unfold emptyB at h1
    clear hV hin all ih hks
    go_enter Tryz.func12, Tryz.ntmps12
    go_wp2
    go_ret
    exact ⟨by rw [HV.out]; rfl, boxed _ _⟩
  | true =>
    have H1 := Lib.hid h1
    have h1' := h1
    unfold emptyB at h1'
    clear h1
    by_cases h2 : nu = 0
    · subst h2
      by_cases k12 : kd = 1 ∨ kd = 2
      · cases h3 : emptyB op with
        | false =>
          have HV : Hid (V = false) := by rw [hV]; exact bool_or_no H1.out k12 (.inl h3)
          unfold emptyB at h3
          clear hV hin all ih hks
          rcases k12 with rfl | rfl
          all_goals
            go_enter Tryz.func12, Tryz.ntmps12
            go_wp2
            go_ret
            exact ⟨by rw [HV.out]; rfl, boxed _ _⟩
        | true =>
          by_cases h4 : ks.length = 2
          · match ks, h4 with
            | [⟨kd0, op0, nm0, nu0, A0, c0, ks0⟩, ⟨kd1, op1, nm1, nu1, A1, c1, ks1⟩], _ =>
              obtain ⟨b, o, rfl, hb, hin0, hin1, ⟨e0, e1, e2, e3, e4⟩, hx1⟩ := hks.two
              have HI := Lib.hid (ih _ (List.mem_cons_self ..))
              have HJ := Lib.hid (ih (.node kd1 op1 nm1 nu1 A1 c1 ks1) (List.mem_cons_of_mem _ (List.mem_cons_self ..)))
              rw [bool_or H1.out k12 h3] at hV
              have HIN := Lib.hid hin0
              have HJN := Lib.hid hin1
              have HX1 := Lib.hid hx1
              unfold emptyB at h3
              unfold Ex.val at HI HJ
              simp only at HI HJ
              cases q1 : boolOk (.node kd0 op0 nm0 nu0 A0 c0 ks0) with
              | false =>
                rw [q1] at HI
                have HV : Hid (V = false) := by rw [hV, q1]; rfl
                clear q1 HJ hks all ih hin hV hin0 hin1 hx1 HX1
                rcases k12 with rfl | rfl
                all_goals
                  go_enter Tryz.func12, Tryz.ntmps12
                  go_wp2_with fail
                  refine (HI.out _ (HIN.out.next (boxed _ _))).mono ?_
                  rintro r w1 ⟨rfl, hb1⟩
                  go_wp2
                  go_ret
                  exact ⟨by rw [HV.out]; rfl, unbox hb1⟩
              | true =>
                rw [q1] at HI
                have HV : Hid (V = boolOk (.node kd1 op1 nm1 nu1 A1 c1 ks1)) := by rw [hV, q1]; rfl
                clear q1 hks all ih hin hV hin0 hin1 hx1
                rcases k12 with rfl | rfl
                all_goals
                  go_enter Tryz.func12, Tryz.ntmps12
                  go_wp2_with fail
                  refine (HI.out _ (HIN.out.next (boxed _ _))).mono ?_
                  rintro r w1 ⟨rfl, hb1⟩
                  obtain ⟨_, _, _, q3, q4, q5⟩ := box_ex ((Box.new _ _ _).step hb1)
                  have hbn := unbox hb1
                  obtain ⟨g0, g1, g2, g3, g4⟩ := HX1.out.below hb hbn
                  go_wp2_with fail
                  refine (HJ.out _ (HJN.out.next hbn)).mono ?_
                  rintro r w2 ⟨rfl, hb2⟩
                  go_wp2
                  go_ret
                  exact ⟨by rw [HV.out]; rfl, below_step hbn (Nat.le_refl _) hb2⟩
          · have HV : Hid (V = false) := by rw [hV]; exact bool_or_no H1.out k12 (.inr h4)
            have h5 : ((ks.length : Int) == 2) = false := by rw [beq_eq_false_iff_ne]; omega
            unfold emptyB at h3
            clear hV hin all ih hks
            rcases k12 with rfl | rfl
            all_goals
              go_enter Tryz.func12, Tryz.ntmps12
              go_wp2
              go_ret
              exact ⟨by rw [HV.out]; rfl, boxed _ _⟩
      · by_cases k3 : kd = 3
        · subst k3
          clear k12
          cases h3 : emptyB op with
          | false =>
            have HV : Hid (V = false) := by rw [hV]; exact bool_not_no H1.out (.inl h3)
            unfold emptyB at h3
            clear hV hin all ih hks
            go_enter Tryz.func12, Tryz.ntmps12
            go_wp2
            go_ret
            exact ⟨by rw [HV.out]; rfl, boxed _ _⟩
          | true =>
            by_cases h4 : ks.length = 1
            · match ks, h4 with
              | [⟨kd0, op0, nm0, nu0, A0, c0, ks0⟩], _ =>
                obtain ⟨b, o, rfl, hb, hin0, ⟨e0, e1, e2, e3, e4⟩⟩ := hks.one
                have HI := Lib.hid (ih _ (List.mem_cons_self ..))
                rw [bool_not H1.out h3] at hV
                have HIN := Lib.hid hin0
                unfold emptyB at h3
                unfold Ex.val at HI
                simp only at HI
                rw [← hV] at HI
                clear hks all ih hin hV hin0
                go_enter Tryz.func12, Tryz.ntmps12
                go_wp2_with fail
                refine (HI.out _ (HIN.out.next (boxed _ _))).mono ?_
                rintro r w1 ⟨rfl, hb1⟩
                go_wp2
                go_ret
                exact ⟨rfl, unbox hb1⟩
            · have HV : Hid (V = false) := by rw [hV]; exact bool_not_no H1.out (.inr h4)
              have h5 : ((ks.length : Int) == 1) = false := by rw [beq_eq_false_iff_ne]; omega
              unfold emptyB at h3
              clear hV hin all ih hks
              go_enter Tryz.func12, Tryz.ntmps12
              go_wp2
              go_ret
              exact ⟨by rw [HV.out]; rfl, boxed _ _⟩
        · by_cases k4 : kd = 4
          · subst k4
            clear k12 k3
            by_cases h4 : ks.length = 2
            · have HO := Lib.hid (refOp_any op)
              by_cases h5 : opOf op.data.toList = 0
              · have HV : Hid (V = false) := by rw [hV]; exact bool_cmp_no H1.out (.inr h5)
                rw [h5] at HO
                rw [h4]
                clear hV hin all ih hks h5 h4
                go_enter Tryz.func12, Tryz.ntmps12
                go_wp2_with fail
                refine (HO.out _).mono ?_
                rintro r w1 ⟨rfl, hb1⟩
                go_wp2
                go_ret
                exact ⟨by rw [HV.out]; rfl, unbox hb1⟩
              · have h6 : (opOf op.data.toList == 0) = false := by rw [beq_eq_false_iff_ne]; exact h5
                match ks, h4 with
                | [⟨kd0, op0, nm0, nu0, A0, c0, ks0⟩, ⟨kd1, op1, nm1, nu1, A1, c1, ks1⟩], _ =>
                  obtain ⟨b, o, rfl, hb, hin0, hin1, hx0, hx1⟩ := hks.two
                  have s0 : ExSmall (.node kd0 op0 nm0 nu0 A0 c0 ks0) := all _ (List.mem_cons_self ..)
                  have HN := Lib.hid (refNumber_any _ (all (.node kd1 op1 nm1 nu1 A1 c1 ks1) (List.mem_cons_of_mem _ (List.mem_cons_self ..))))
                  rw [bool_cmp H1.out h5] at hV
                  have HJN := Lib.hid hin1
                  have HX0 := Lib.hid hx0
                  have HX1 := Lib.hid hx1
                  unfold Ex.val at HN
                  simp only at HN
                  obtain ⟨q, hq⟩ : ∃ q, q = opOf op.data.toList := ⟨_, rfl⟩
                  rw [← hq] at HO h6
                  cases q1 : numOk (.node kd1 op1 nm1 nu1 A1 c1 ks1) with
                  | false =>
                    rw [q1] at HN
                    have HV : Hid (V = false) := by rw [hV, q1]; rfl
                    clear q1 hks all ih hin hV hin0 hin1 hx1 hx0 s0 h5 hq
                    go_enter Tryz.func12, Tryz.ntmps12
                    go_wp2_with fail
                    refine (HO.out _).mono ?_
                    rintro r w1 ⟨rfl, hb1⟩
                    obtain ⟨q0, _, _, q3, q4, q5⟩ := box_ex ((Box.new _ _ _).step hb1)
                    have hbn := unbox hb1
                    obtain ⟨g0, g1, g2, g3, g4⟩ := HX1.out.below hb hbn
                    go_wp2_with fail
                    refine (HN.out _ (HJN.out.next hbn)).mono ?_
                    rintro r w2 ⟨rfl, hb2⟩
                    go_wp2
                    go_ret
                    exact ⟨by rw [HV.out]; rfl, below_step hbn (Nat.le_refl _) hb2⟩
                  | true =>
                    rw [q1] at HN
                    have HV : Hid (V = maskOk (.node kd0 op0 nm0 nu0 A0 c0 ks0)) := by rw [hV, q1]; rfl
                    have HS0 := Lib.hid s0
                    have HIN := Lib.hid hin0
                    clear q1 hks all ih hin hV hin0 hin1 hx1 hx0 s0 h5 hq
                    go_enter Tryz.func12, Tryz.ntmps12
                    go_wp2_with fail
                    refine (HO.out _).mono ?_
                    rintro r w1 ⟨rfl, hb1⟩
                    obtain ⟨q0, _, _, q3, q4, q5⟩ := box_ex ((Box.new _ _ _).step hb1)
                    have hbn := unbox hb1
                    obtain ⟨g0, g1, g2, g3, g4⟩ := HX1.out.below hb hbn
                    go_wp2_with fail
                    refine (HN.out _ (HJN.out.next hbn)).mono ?_
                    rintro r w2 ⟨rfl, hb2⟩
                    clear q0 q3 q4 q5 g0 g1 g2 g3 g4
                    obtain ⟨q0, _, _, q3, q4, q5⟩ := box_ex (((Box.new _ _ _).step hb1).step hb2)
                    have hbm := below_step hbn (Nat.le_refl _) hb2
                    obtain ⟨g0, g1, g2, g3, g4⟩ := HX0.out.below hb hbm
                    clear hb1 hb2
                    obtain ⟨hn0, hall0⟩ := small_kids HS0.out
                    have hk0 := HIN.out.kids
                    by_cases k5 : kd0 = 5
                    · subst k5
                      have HP : Hid (∀ W : World, Calls Tryz.prog 28 #[.agg #[.int .i64 5, .string op0, .string nm0, .int .u64 nu0, .slice A0 ks0.length c0]] W (Quietly (.bool V) W)) := fun W => by
                        rw [HV.out, mask_name]
                        exact refPrim_any (.node 5 op0 nm0 nu0 A0 c0 ks0) W HS0.out
                      clear hk0 hall0
                      go_wp2_with fail
                      refine (HP.out _).mono ?_
                      rintro r w3 ⟨rfl, hb3⟩
                      go_wp2
                      go_ret
                      exact ⟨rfl, below_step (below_alloc hbm (Nat.le_refl _) _) (Nat.le_refl _) hb3⟩
                    · have k5b : (kd0 == 5) = false := beq_eq_false_iff_ne.2 k5
                      by_cases k6 : kd0 = 6
                      · subst k6
                        clear k5
                        cases h7 : emptyB op0 with
                        | false =>
                          have HV2 : Hid (V = false) := by rw [HV.out]; exact mask_no (by decide) (.inr (.inl h7))
                          unfold emptyB at h7
                          clear hk0 hall0
                          go_wp2
                          go_ret
                          exact ⟨by rw [HV2.out]; rfl, below_alloc hbm (Nat.le_refl _) _⟩
                        | true =>
                          have HNm := Lib.hid (fun W => refName_any nm0 W (by omega))
                          cases h8 : nameOk nm0 with
                          | false =>
                            have HV2 : Hid (V = false) := by rw [HV.out]; exact mask_no (by decide) (.inr (.inr (.inl h8)))
                            rw [h8] at HNm
                            unfold emptyB at h7
                            clear hk0 hall0 h8
                            go_wp2_with fail
                            refine (HNm.out _).mono ?_
                            rintro r w3 ⟨rfl, hb3⟩
                            go_wp2
                            go_ret
                            exact ⟨by rw [HV2.out]; rfl, below_step (below_alloc hbm (Nat.le_refl _) _) (Nat.le_refl _) hb3⟩
                          | true =>
                            rw [h8] at HNm
                            by_cases h9 : nu0 = 0
                            · subst h9
                              by_cases h10 : ks0.length = 1
                              · match ks0, h10 with
                                | [⟨kd2, op2, nm2, nu2, A2, c2, ks2⟩], _ =>
                                  obtain ⟨b2, o2, rfl, hb2, _, hx2⟩ := hk0.one
                                  have HX2 := Lib.hid hx2
                                  have HP : Hid (∀ W : World, Calls Tryz.prog 28 #[.agg #[.int .i64 kd2, .string op2, .string nm2, .int .u64 nu2, .slice A2 ks2.length c2]] W (Quietly (.bool V) W)) := fun W => by
                                    rw [HV.out, mask_one h7 h8]
                                    exact refPrim_any (.node kd2 op2 nm2 nu2 A2 c2 ks2) W (hall0 _ (List.mem_cons_self ..))
                                  unfold emptyB at h7
                                  clear hk0 hall0 h8 hx2
                                  go_wp2_with fail
                                  refine (HNm.out _).mono ?_
                                  rintro r w3 ⟨rfl, hb3⟩
                                  clear q0 q3 q4 q5 g0 g1 g2 g3 g4
                                  obtain ⟨_, _, _, q3, q4, q5⟩ := box_ex ((Box.new _ _ _).step hb3)
                                  have hbo := below_step (below_alloc hbm (Nat.le_refl _) _) (Nat.le_refl _) hb3
                                  obtain ⟨g0, g1, g2, g3, g4⟩ := HX2.out.below hb2 hbo
                                  go_wp2_with fail
                                  refine (HP.out _).mono ?_
                                  rintro r w4 ⟨rfl, hb4⟩
                                  go_wp2
                                  go_ret
                                  exact ⟨rfl, below_step hbo (Nat.le_refl _) hb4⟩
                              · have HV2 : Hid (V = false) := by rw [HV.out]; exact mask_no (by decide) (.inr (.inr (.inr (.inr h10))))
                                have h11 : ((ks0.length : Int) == 1) = false := by rw [beq_eq_false_iff_ne]; omega
                                unfold emptyB at h7
                                clear hk0 hall0 h8
                                go_wp2_with fail
                                refine (HNm.out _).mono ?_
                                rintro r w3 ⟨rfl, hb3⟩
                                clear q0 q3 q4 q5 g0 g1 g2 g3 g4
                                obtain ⟨_, _, _, q3, q4, q5⟩ := box_ex ((Box.new _ _ _).step hb3)
                                go_wp2
                                go_ret
                                exact ⟨by rw [HV2.out]; rfl, below_step (below_alloc hbm (Nat.le_refl _) _) (Nat.le_refl _) hb3⟩
                            · have HV2 : Hid (V = false) := by rw [HV.out]; exact mask_no (by decide) (.inr (.inr (.inr (.inl h9))))
                              have h11 : (nu0 == 0) = false := beq_eq_false_iff_ne.2 h9
                              unfold emptyB at h7
                              clear hk0 hall0 h8
                              go_wp2_with fail
                              refine (HNm.out _).mono ?_
                              rintro r w3 ⟨rfl, hb3⟩
                              clear q0 q3 q4 q5 g0 g1 g2 g3 g4
                              obtain ⟨_, _, _, q3, q4, q5⟩ := box_ex ((Box.new _ _ _).step hb3)
                              go_wp2
                              go_ret
                              exact ⟨by rw [HV2.out]; rfl, below_step (below_alloc hbm (Nat.le_refl _) _) (Nat.le_refl _) hb3⟩
                      · have HV2 : Hid (V = false) := by rw [HV.out]; exact mask_no k5 (.inl k6)
                        have k6b : (kd0 == 6) = false := beq_eq_false_iff_ne.2 k6
                        clear hk0 hall0 k5 k6
                        go_wp2
                        go_ret
                        exact ⟨by rw [HV2.out]; rfl, below_alloc hbm (Nat.le_refl _) _⟩
            · have HV : Hid (V = false) := by rw [hV]; exact bool_cmp_no H1.out (.inl h4)
              have h5 : ((ks.length : Int) != 2) = true := by simp; omega
              clear hV hin all ih hks
              go_enter Tryz.func12, Tryz.ntmps12
              go_wp2
              go_ret
              exact ⟨by rw [HV.out]; rfl, boxed _ _⟩
          · have HV : Hid (V = false) := by rw [hV]; exact bool_kind H1.out ⟨by omega, by omega, k3, k4⟩
            have k1 : ¬ kd = 1 := by omega
            have k2 : ¬ kd = 2 := by omega
            clear hV hin all ih hks k12
            go_enter Tryz.func12, Tryz.ntmps12
            go_wp2
            go_ret
            exact ⟨by rw [HV.out]; rfl, boxed _ _⟩
    · have HV : Hid (V = false) := by rw [hV]; exact bool_none (.inr h2)
      clear hV hin all ih hks
      have h5 : (nu != 0) = true := by simp; exact h2
      go_enter Tryz.func12, Tryz.ntmps12
      go_wp2
      go_ret
      exact ⟨by rw [HV.out]; rfl, boxed _ _⟩

end Go.Proofs.YtogpicfofifbkaaGreatDoor
