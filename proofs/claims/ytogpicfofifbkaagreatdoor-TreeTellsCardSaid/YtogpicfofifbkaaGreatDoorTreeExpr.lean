/- What the document's own prim, Number, Op give. -/
import Derived.Test.YtogpicfofifbkaaGreatDoorPart3
namespace Go.Proofs.YtogpicfofifbkaaGreatDoor
open Go.RowKit

set_option maxRecDepth 100000 in
set_option maxHeartbeats 1000000 in
theorem refPrim_any (e : Ex) (w : World) (hs : ExSmall e) : Calls Tryz.prog 28 #[e.val] w (Quietly (.bool (primOk e)) w) := by
  obtain ⟨kd, op, nm, nu, A, c, ks⟩ := e
  have hn : nm.size ≤ 1099511627776 := by cases hs with | mk _ h _ _ => omega
  clear hs
  have HN := Lib.hid (fun W => refName_any nm W hn)
  unfold Ex.val primOk
  simp only
  obtain ⟨n, hks⟩ : ∃ n, n = ks.length := ⟨_, rfl⟩
  have hke : ks.isEmpty = decide (n = 0) := by
    rw [hks]
    cases ks <;> simp
  rw [← hks, hke]
  clear hks hke
  by_cases k7 : kd = 7
  · subst k7
    rw [if_pos rfl]
    cases h1 : emptyB op with
    | false =>
      unfold emptyB at h1
      go_enter Tryz.func28, Tryz.ntmps28
      go_wp2
      go_ret
      exact ⟨rfl, boxed _ _⟩
    | true =>
      cases h2 : emptyB nm with
      | false =>
        unfold emptyB at h1 h2
        go_enter Tryz.func28, Tryz.ntmps28
        go_wp2
        go_ret
        exact ⟨rfl, boxed _ _⟩
      | true =>
        unfold emptyB at h1 h2
        by_cases h3 : n = 0
        · subst h3
          go_enter Tryz.func28, Tryz.ntmps28
          go_wp2
          go_ret
          exact ⟨rfl, boxed _ _⟩
        · go_enter Tryz.func28, Tryz.ntmps28
          go_wp2
          go_ret
          exact ⟨ret_bool (by simp [h3]), boxed _ _⟩
  · rw [if_neg k7]
    by_cases k5 : kd = 5
    · subst k5
      rw [if_pos rfl]
      clear k7
      cases h1 : emptyB op with
      | false =>
        unfold emptyB at h1
        go_enter Tryz.func28, Tryz.ntmps28
        go_wp2
        go_ret
        exact ⟨rfl, boxed _ _⟩
      | true =>
        unfold emptyB at h1
        cases h2 : nameOk nm with
        | false =>
          rw [h2] at HN
          clear h2
          go_enter Tryz.func28, Tryz.ntmps28
          go_wp2_with fail
          refine (HN.out _).mono ?_
          rintro r w1 ⟨rfl, hb1⟩
          go_wp2
          go_ret
          exact ⟨rfl, unbox hb1⟩
        | true =>
          rw [h2] at HN
          clear h2
          by_cases h4 : nu = 0
          · subst h4
            by_cases h3 : n = 0
            · subst h3
              go_enter Tryz.func28, Tryz.ntmps28
              go_wp2_with fail
              refine (HN.out _).mono ?_
              rintro r w1 ⟨rfl, hb1⟩
              obtain ⟨_, _, _, q3, q4, q5⟩ := box_ex ((Box.new _ _ _).step hb1)
              go_wp2
              go_ret
              exact ⟨rfl, unbox hb1⟩
            · go_enter Tryz.func28, Tryz.ntmps28
              go_wp2_with fail
              refine (HN.out _).mono ?_
              rintro r w1 ⟨rfl, hb1⟩
              obtain ⟨_, _, _, q3, q4, q5⟩ := box_ex ((Box.new _ _ _).step hb1)
              go_wp2
              go_ret
              exact ⟨ret_bool (by simp [h3]), unbox hb1⟩
          · have h5 : (nu == 0) = false := by rw [beq_eq_false_iff_ne]; exact h4
            rw [h5]
            go_enter Tryz.func28, Tryz.ntmps28
            go_wp2_with fail
            refine (HN.out _).mono ?_
            rintro r w1 ⟨rfl, hb1⟩
            obtain ⟨_, _, _, q3, q4, q5⟩ := box_ex ((Box.new _ _ _).step hb1)
            go_wp2
            go_ret
            exact ⟨rfl, unbox hb1⟩
    · rw [if_neg k5]
      go_enter Tryz.func28, Tryz.ntmps28
      go_wp2
      go_ret
      exact ⟨rfl, boxed _ _⟩

/-- The sign of a comparison, by what is told of it. -/
theorem op_kinds (s : ByteArray) : (s.toList = [61, 61] ∧ opOf s.data.toList = 1) ∨ (s.toList = [33, 61] ∧ opOf s.data.toList = 2) ∨ (s.toList = [60] ∧ opOf s.data.toList = 3) ∨ (s.toList = [60, 61] ∧ opOf s.data.toList = 4) ∨
    (s.toList = [62] ∧ opOf s.data.toList = 5) ∨ (s.toList = [62, 61] ∧ opOf s.data.toList = 6) ∨ (((s.toList == [61, 61]) = false ∧ (s.toList == [33, 61]) = false ∧ (s.toList == [60]) = false ∧ (s.toList == [60, 61]) = false ∧ (s.toList == [62]) = false ∧ (s.toList == [62, 61]) = false) ∧ opOf s.data.toList = 0) := by
  rw [ByteArray.toList_eq]
  generalize s.data.toList = l
  by_cases h1 : l = [61, 61]
  · subst h1; exact .inl ⟨rfl, rfl⟩
  by_cases h2 : l = [33, 61]
  · subst h2; exact .inr (.inl ⟨rfl, rfl⟩)
  by_cases h3 : l = [60]
  · subst h3; exact .inr (.inr (.inl ⟨rfl, rfl⟩))
  by_cases h4 : l = [60, 61]
  · subst h4; exact .inr (.inr (.inr (.inl ⟨rfl, rfl⟩)))
  by_cases h5 : l = [62]
  · subst h5; exact .inr (.inr (.inr (.inr (.inl ⟨rfl, rfl⟩))))
  by_cases h6 : l = [62, 61]
  · subst h6; exact .inr (.inr (.inr (.inr (.inr (.inl ⟨rfl, rfl⟩)))))
  refine .inr (.inr (.inr (.inr (.inr (.inr ⟨?_, ?_⟩)))))
  · simp only [beq_eq_false_iff_ne]
    exact ⟨h1, h2, h3, h4, h5, h6⟩
  · unfold opOf
    rw [if_neg h1, if_neg h2, if_neg h3, if_neg h4, if_neg h5, if_neg h6]

set_option maxRecDepth 100000 in
set_option maxHeartbeats 1000000 in
theorem refOp_any (s : ByteArray) (w : World) : Calls Tryz.prog 30 #[.string s] w (Quietly (.int .i64 (opOf s.data.toList)) w) := by
  rcases op_kinds s with ⟨h, e⟩ | ⟨h, e⟩ | ⟨h, e⟩ | ⟨h, e⟩ | ⟨h, e⟩ | ⟨h, e⟩ | ⟨⟨h1, h2, h3, h4, h5, h6⟩, e⟩
  all_goals
    rw [e]
    clear e
    go_enter Tryz.func30, Tryz.ntmps30
    go_wp2
    go_ret
    exact ⟨rfl, Below.refl _ _⟩

set_option maxRecDepth 100000 in
set_option maxHeartbeats 1000000 in
theorem refNumber_any (e : Ex) (hs : ExSmall e) : ∀ w : World, ExIn w w.heap.size e → Calls Tryz.prog 10 #[e.val] w (Quietly (.bool (numOk e)) w) := by
  induction hs with
  | @mk kd op nm nu A c ks ho hn hk all ih =>
  intro w hin
  obtain ⟨V, hV⟩ : ∃ V, V = numOk (.node kd op nm nu A c ks) := ⟨_, rfl⟩
  rw [← hV]
  by_cases k8 : kd = 8
  · subst k8
    have hks := hin.kids
    have HNO : Hid ((emptyB op = false ∨ emptyB nm = false ∨ nu ≠ 0 ∨ ks.length ≠ 2) → V = false) := fun h => by rw [hV]; exact num_no h
    unfold Ex.val
    simp only
    cases h1 : emptyB op with
    | false =>
      have HV := Lib.hid (HNO.out (.inl h1))
      unfold emptyB at h1
      clear hV hin all ih hks
      go_enter Tryz.func10, Tryz.ntmps10
      go_wp2
      go_ret
      exact ⟨by rw [HV.out]; rfl, boxed _ _⟩
    | true =>
      cases h2 : emptyB nm with
      | false =>
        have HV := Lib.hid (HNO.out (.inr (.inl h2)))
        unfold emptyB at h1 h2
        clear hV hin all ih hks
        go_enter Tryz.func10, Tryz.ntmps10
        go_wp2
        go_ret
        exact ⟨by rw [HV.out]; rfl, boxed _ _⟩
      | true =>
        by_cases h3 : nu = 0
        · subst h3
          by_cases h4 : ks.length = 2
          · match ks, h4 with
            | [⟨kd0, op0, nm0, nu0, A0, c0, ks0⟩, ⟨kd1, op1, nm1, nu1, A1, c1, ks1⟩], _ =>
              obtain ⟨b, o, rfl, hb, hin0, hin1, ⟨e0, e1, e2, e3, e4⟩, hx1⟩ := hks.two
              have HI := Lib.hid (ih _ (List.mem_cons_self ..))
              have HP := Lib.hid (fun W => refPrim_any _ W (all (.node kd1 op1 nm1 nu1 A1 c1 ks1) (List.mem_cons_of_mem _ (List.mem_cons_self ..))))
              rw [num_two h1 h2] at hV
              have HIN := Lib.hid hin0
              have HX1 := Lib.hid hx1
              unfold emptyB at h1 h2
              unfold Ex.val at HI HP
              simp only at HI HP
              cases q1 : numOk (.node kd0 op0 nm0 nu0 A0 c0 ks0) with
              | false =>
                rw [q1] at HI
                have HV : Hid (V = false) := by rw [hV, q1]; rfl
                clear q1 HP hks all ih hin hV hin0 hin1 hx1 HX1 HNO
                go_enter Tryz.func10, Tryz.ntmps10
                go_wp2_with fail
                refine (HI.out _ (HIN.out.next (boxed _ _))).mono ?_
                rintro r w1 ⟨rfl, hb1⟩
                go_wp2
                go_ret
                exact ⟨by rw [HV.out]; rfl, unbox hb1⟩
              | true =>
                rw [q1] at HI
                have HV : Hid (V = primOk (.node kd1 op1 nm1 nu1 A1 c1 ks1)) := by rw [hV, q1]; rfl
                clear q1 hks all ih hin hV hin0 hin1 hx1 HNO
                go_enter Tryz.func10, Tryz.ntmps10
                go_wp2_with fail
                refine (HI.out _ (HIN.out.next (boxed _ _))).mono ?_
                rintro r w1 ⟨rfl, hb1⟩
                obtain ⟨_, _, _, q3, q4, q5⟩ := box_ex ((Box.new _ _ _).step hb1)
                have hbn := unbox hb1
                obtain ⟨g0, g1, g2, g3, g4⟩ := HX1.out.below hb hbn
                go_wp2_with fail
                refine (HP.out _).mono ?_
                rintro r w2 ⟨rfl, hb2⟩
                go_wp2
                go_ret
                exact ⟨by rw [HV.out]; rfl, below_step hbn (Nat.le_refl _) hb2⟩
          · have HV := Lib.hid (HNO.out (.inr (.inr (.inr h4))))
            have h5 : ((ks.length : Int) == 2) = false := by rw [beq_eq_false_iff_ne]; omega
            unfold emptyB at h1 h2
            clear hks all ih hin hV
            go_enter Tryz.func10, Tryz.ntmps10
            go_wp2
            go_ret
            exact ⟨by rw [HV.out]; rfl, boxed _ _⟩
        · have HV := Lib.hid (HNO.out (.inr (.inr (.inl h3))))
          have h5 : (nu == 0) = false := by rw [beq_eq_false_iff_ne]; exact h3
          unfold emptyB at h1 h2
          clear hks all ih hin hV
          go_enter Tryz.func10, Tryz.ntmps10
          go_wp2
          go_ret
          exact ⟨by rw [HV.out]; rfl, boxed _ _⟩
  · rw [num_prim k8] at hV
    have HP : Hid (∀ W : World, Calls Tryz.prog 28 #[.agg #[.int .i64 kd, .string op, .string nm, .int .u64 nu, .slice A ks.length c]] W (Quietly (.bool V) W)) := fun W => by rw [hV]; exact refPrim_any (.node kd op nm nu A c ks) W (.mk ho hn hk all)
    clear hV ih all hin
    unfold Ex.val
    simp only
    go_enter Tryz.func10, Tryz.ntmps10
    go_wp2_with fail
    refine (HP.out _).mono ?_
    rintro r w1 ⟨rfl, hb1⟩
    go_wp2
    go_ret
    exact ⟨rfl, unbox hb1⟩

end Go.Proofs.YtogpicfofifbkaaGreatDoor
