/- The walks of CallsTell and CallsValues, given the landed code's contract. -/
import Derived.Test.YtbibliakakjkiaaDoorCallFace
namespace Go.Proofs.YtbibliakakjkiaaDoor
open Go.RowKit
variable {L : World → Prop}

theorem value_parts {k d : Int} (h : (valueOf k d).2 = true) :
    (k = 3 ∧ 0 ≤ d ∧ d ≤ 65535 ∧ (valueOf k d).1 = 196608 + d) ∨ (k = 4 ∧ 0 ≤ d ∧ d ≤ 65535 ∧ (valueOf k d).1 = 327680 + d) ∨ (k = 5 ∧ 0 ≤ d ∧ d ≤ 65535 ∧ (valueOf k d).1 = 2146435072 + d) ∨
    (k = 1 ∧ d = 0 ∧ (valueOf k d).1 = 2147483648) ∨ (k = 2 ∧ d = 0 ∧ (valueOf k d).1 = 0) ∨ (k = 6 ∧ d = 0 ∧ (valueOf k d).1 = 2147221504) ∨ (k = 7 ∧ d = 0 ∧ (valueOf k d).1 = 2147418112) := by
  unfold valueOf at h ⊢
  by_cases hk : k = 3 ∨ k = 4 ∨ k = 5
  · rw [if_pos hk] at h ⊢
    by_cases hd : 0 ≤ d ∧ d ≤ 65535
    · rw [if_pos hd] at h ⊢
      rcases hk with rfl | rfl | rfl
      · exact .inl ⟨rfl, hd.1, hd.2, rfl⟩
      · exact .inr (.inl ⟨rfl, hd.1, hd.2, rfl⟩)
      · exact .inr (.inr (.inl ⟨rfl, hd.1, hd.2, rfl⟩))
    · rw [if_neg hd] at h
      cases h
  · rw [if_neg hk] at h ⊢
    by_cases hj : k = 1 ∨ k = 2 ∨ k = 6 ∨ k = 7
    · rw [if_pos hj] at h ⊢
      by_cases hd : d = 0
      · rw [if_pos hd] at h ⊢
        rcases hj with rfl | rfl | rfl | rfl
        · exact .inr (.inr (.inr (.inl ⟨rfl, hd, rfl⟩)))
        · exact .inr (.inr (.inr (.inr (.inl ⟨rfl, hd, rfl⟩))))
        · exact .inr (.inr (.inr (.inr (.inr (.inl ⟨rfl, hd, rfl⟩)))))
        · exact .inr (.inr (.inr (.inr (.inr (.inr ⟨rfl, hd, rfl⟩)))))
      · rw [if_neg hd] at h
        cases h
    · rw [if_neg hj] at h
      cases h

theorem value_inj {k d k' d' : Int} (h1 : (valueOf k d).2 = true) (h2 : (valueOf k' d').2 = true) (h : (valueOf k d).1 = (valueOf k' d').1) : k = k' ∧ d = d' := by
  rcases value_parts h1 with a | a | a | a | a | a | a <;> rcases value_parts h2 with b | b | b | b | b | b | b <;> omega

set_option maxRecDepth 100000 in
set_option maxHeartbeats 4000000 in
theorem kvalues_any (R : CallSays L) (k d k' d' : Int) (w : World) (hw : L w) (hk : -9223372036854775808 ≤ k ∧ k ≤ 9223372036854775807) (hd : -9223372036854775808 ≤ d ∧ d ≤ 9223372036854775807)
    (hk' : -9223372036854775808 ≤ k' ∧ k' ≤ 9223372036854775807) (hd' : -9223372036854775808 ≤ d' ∧ d' ≤ 9223372036854775807) :
    Calls Tryd.prog 5 #[.agg #[.int .i64 k, .int .i64 d], .agg #[.int .i64 k', .int .i64 d']] w fun e w' => e = .returned (.bool true) ∧ Below w.heap.size w w' := by
  have hb1 := (Box.new w 23 #[.int .i64 k, .int .i64 d]).alloc (.cells #[.int .i64 k', .int .i64 d'] 23)
  have hb2 := Box.new (w.alloc (.cells #[.int .i64 k, .int .i64 d] 23)) 23 #[.int .i64 k', .int .i64 d']
  rw [show (w.alloc (.cells #[.int .i64 k, .int .i64 d] 23)).heap.size = w.heap.size + 1 by simp] at hb2
  have hnx0 : Below w.heap.size w ((w.alloc (.cells #[.int .i64 k, .int .i64 d] 23)).alloc (.cells #[.int .i64 k', .int .i64 d'] 23)) := below_alloc (below_alloc (Below.refl _ _) (Nat.le_refl _) _) (Nat.le_refl _) _
  obtain ⟨k0, k1⟩ := hk
  obtain ⟨d0, d1⟩ := hd
  obtain ⟨k0', k1'⟩ := hk'
  obtain ⟨d0', d1'⟩ := hd'
  have HV : Hid (∀ W : World, Calls Tryd.prog 11 #[.agg #[.int .i64 k, .int .i64 d]] W (U32Bool (valueOf k d) W)) := fun W => R.value k d W k0 k1 d0 d1
  have HV' : Hid (∀ W : World, Calls Tryd.prog 11 #[.agg #[.int .i64 k', .int .i64 d']] W (U32Bool (valueOf k' d') W)) := fun W => R.value k' d' W k0' k1' d0' d1'
  have HI : Hid ((valueOf k d).2 = true → (valueOf k' d').2 = true → (valueOf k d).1 = (valueOf k' d').1 → k = k' ∧ d = d') := value_inj
  have HE : Hid (k = k' → d = d' → (valueOf k d).1 = (valueOf k' d').1) := fun e1 e2 => by rw [e1, e2]
  obtain ⟨U, hU⟩ : ∃ U, U = valueOf k d := ⟨_, rfl⟩
  obtain ⟨V, hV⟩ : ∃ V, V = valueOf k' d' := ⟨_, rfl⟩
  rw [← hU] at HV HI HE
  rw [← hV] at HV' HI HE
  obtain ⟨u, x⟩ := U
  obtain ⟨v, y⟩ := V
  dsimp only at HI HE
  have HB1 := Lib.hid hb1
  have HB2 := Lib.hid hb2
  have HN0 := Lib.hid hnx0
  clear hb1 hb2 hnx0 hU hV
  go_enter Tryd.func5, Tryd.ntmps5
  go_wp2_with fail
  generalize (w.alloc (.cells #[.int .i64 k, .int .i64 d] 23)).alloc (.cells #[.int .i64 k', .int .i64 d'] 23) = w0 at *
  refine (kalive_any R _ (R.keep w _ hw HN0.out)).mono ?_
  rintro r w1 ⟨rfl, hb1⟩
  have hx1 := HB1.out.step hb1
  have hx2 := HB2.out.step hb1
  have hn1 := HN0.out.trans (hb1.mono HN0.out.size)
  have g1 := hx1.lt
  have g2 := hx2.lt
  have r0 : w1.cell? ⟨w.heap.size, 0, none⟩ = some (.int .i64 k) := hx1.cell 0
  have r1 : w1.cell? ⟨w.heap.size, 1, none⟩ = some (.int .i64 d) := hx1.cell 1
  go_wp2_with fail
  refine (HV.out _).mono ?_
  rintro r w2 ⟨rfl, hb2⟩
  have hy1 := hx1.step hb2
  have hy2 := hx2.step hb2
  have hn2 := below_step hn1 (Nat.le_refl _) hb2
  have g3 := hy1.lt
  have g4 := hy2.lt
  have s0 : w2.cell? ⟨w.heap.size + 1, 0, none⟩ = some (.int .i64 k') := hy2.cell 0
  have s1 : w2.cell? ⟨w.heap.size + 1, 1, none⟩ = some (.int .i64 d') := hy2.cell 1
  clear r0 r1 hb1 hb2 hx1 hx2 hn1 g1 g2
  go_wp2_with fail
  refine (HV'.out _).mono ?_
  rintro r w3 ⟨rfl, hb3⟩
  have hz1 := hy1.step hb3
  have hz2 := hy2.step hb3
  have hn3 := below_step hn2 (Nat.le_refl _) hb3
  have g5 := hz1.lt
  have g6 := hz2.lt
  have t0 : w3.cell? ⟨w.heap.size, 0, none⟩ = some (.int .i64 k) := hz1.cell 0
  have t1 : w3.cell? ⟨w.heap.size, 1, none⟩ = some (.int .i64 d) := hz1.cell 1
  have t2 : w3.cell? ⟨w.heap.size + 1, 0, none⟩ = some (.int .i64 k') := hz2.cell 0
  have t3 : w3.cell? ⟨w.heap.size + 1, 1, none⟩ = some (.int .i64 d') := hz2.cell 1
  clear s0 s1 hb3 hy1 hy2 hn2 g3 g4 hz1 hz2
  cases x
  · go_wp2
    go_ret
    exact ⟨rfl, hn3⟩
  cases y
  · go_wp2
    go_ret
    exact ⟨rfl, hn3⟩
  by_cases e1 : k = k'
  · by_cases e2 : d = d'
    · have huv := HE.out e1 e2
      subst e1
      subst e2
      subst huv
      clear HI HE
      go_wp2
      go_ret
      exact ⟨rfl, hn3⟩
    · have huv : (u == v) = false := by
        rw [beq_eq_false_iff_ne]
        exact fun h => e2 (HI.out rfl rfl h).2
      have b2 : (d == d') = false := by simpa using e2
      subst e1
      clear HI HE
      go_wp2
      go_ret
      exact ⟨by simp, hn3⟩
  · have huv : (u == v) = false := by
      rw [beq_eq_false_iff_ne]
      exact fun h => e1 (HI.out rfl rfl h).1
    have b1 : (k == k') = false := by simpa using e1
    clear HI HE
    go_wp2
    go_ret
    exact ⟨by simp, hn3⟩

set_option maxRecDepth 100000 in
set_option maxHeartbeats 4000000 in
theorem ktells_in (R : CallSays L) (s n : ByteArray) (k d : Int) (w : World) (hw : L w) (hs : s.size ≤ 50) (hn : n.size ≤ 50) (k0 : -9223372036854775808 ≤ k) (k1 : k ≤ 9223372036854775807) (d0 : -9223372036854775808 ≤ d) (d1 : d ≤ 9223372036854775807) :
    Calls Tryd.prog 3 #[.string s, .string n, .agg #[.int .i64 k, .int .i64 d]] w fun e w' => e = .returned (.bool true) ∧ Below w.heap.size w w' := by
  have H1 : Hid (∀ W : World, Calls Tryd.prog 7 #[.string s] W (U32Bool (numberOf s.data.toList) W)) := fun W => R.number s W (by omega)
  have H2 : Hid (∀ W : World, Calls Tryd.prog 8 #[.string s] W (U32Bool (numberOf s.data.toList) W)) := fun W => refArch_any s W
  have H3 : Hid (∀ W : World, Below w.heap.size w W → Calls Tryd.prog 9 #[.string s, .string n] W (OneCall (findOf s.data.toList n.data.toList) W)) := fun W hW => R.find s n W (R.keep w W hw hW) (by omega) (by omega)
  have H4 : Hid (∀ W : World, Calls Tryd.prog 10 #[.string s, .string n] W (OneCall (findOf s.data.toList n.data.toList) W)) := fun W => refFind_any s n W
  have H5 : Hid (∀ W : World, Calls Tryd.prog 11 #[.agg #[.int .i64 k, .int .i64 d]] W (U32Bool (valueOf k d) W)) := fun W => R.value k d W k0 k1 d0 d1
  have H6 : Hid (∀ W : World, Calls Tryd.prog 12 #[.agg #[.int .i64 k, .int .i64 d]] W (U32Bool (valueOf k d) W)) := fun W => refValue_any k d W d0 d1
  have H7 : Hid (∀ W : World, Below w.heap.size w W → Calls Tryd.prog 13 #[.string s] W (NewCalls (callsOf s.data.toList) W)) := fun W hW => R.all s W (R.keep w W hw hW) (by omega)
  have H8 : Hid (∀ W : World, Calls Tryd.prog 14 #[.string s] W (NewCalls (callsOf s.data.toList) W)) := fun W => refCalls_any s W
  have HPF : Hid ((findOf s.data.toList n.data.toList).1.params.length ≤ 6) := by
    unfold Hid findOf
    cases hf : (callsOf s.data.toList).find? fun c => decide (c.name = n.data.toList) with
    | none => decide
    | some c => exact call_params c (List.mem_of_find?_eq_some hf)
  have HPA : Hid (∀ c ∈ callsOf s.data.toList, c.params.length ≤ 6) := call_params
  have hL : (callsOf s.data.toList).length ≤ 17 := call_len
  obtain ⟨N, hN⟩ : ∃ N, N = numberOf s.data.toList := ⟨_, rfl⟩
  obtain ⟨F, hF⟩ : ∃ F, F = findOf s.data.toList n.data.toList := ⟨_, rfl⟩
  obtain ⟨V, hV⟩ : ∃ V, V = valueOf k d := ⟨_, rfl⟩
  obtain ⟨L, hLL⟩ : ∃ L, L = callsOf s.data.toList := ⟨_, rfl⟩
  rw [← hN] at H1 H2
  rw [← hF] at H3 H4 HPF
  rw [← hV] at H5 H6
  rw [← hLL] at H7 H8 HPA hL
  clear hN hF hV hLL
  obtain ⟨nu, nb⟩ := N
  obtain ⟨c, cb⟩ := F
  obtain ⟨vu, vb⟩ := V
  have HB0 := Lib.hid (Box.new w 23 #[.int .i64 k, .int .i64 d])
  have s50 : (s.size : Int) ≤ 50 := by omega
  have n50 : (n.size : Int) ≤ 50 := by omega
  have HN0 : Hid (Below w.heap.size w (w.alloc (.cells #[.int .i64 k, .int .i64 d] 23))) := below_alloc (Below.refl _ _) (Nat.le_refl _) _
  go_enter Tryd.func3, Tryd.ntmps3
  go_wp2_with fail
  generalize w.alloc (.cells #[.int .i64 k, .int .i64 d] 23) = w0 at *
  refine (kalive_any R _ (R.keep w _ hw HN0.out)).mono ?_
  rintro r w1 ⟨rfl, hb1⟩
  have hx1 := HB0.out.step hb1
  have hn1 := HN0.out.trans (hb1.mono HN0.out.size)
  clear hb1
  go_wp2_with fail
  refine (H1.out _).mono ?_
  rintro r w2 ⟨rfl, hb2⟩
  have hx2 := hx1.step hb2
  have hn2 := below_step hn1 (Nat.le_refl _) hb2
  clear hb2 hx1 hn1
  go_wp2_with fail
  refine (H2.out _).mono ?_
  rintro r w3 ⟨rfl, hb3⟩
  have hx3 := hx2.step hb3
  have hn3 := below_step hn2 (Nat.le_refl _) hb3
  clear hb3 hx2 hn2
  go_wp2_with fail
  refine (H3.out _ hn3).mono ?_
  rintro r w4 ⟨P, pc, rfl, hp4, hb4⟩
  have hx4 := hx3.step hb4
  have hn4 := below_step hn3 (Nat.le_refl _) hb4
  have hc4 := Box.new w4 30 #[.string (strOf c.name), .int .u32 c.nr, .slice P c.params.length pc]
  have hx4' := hx4.alloc (.cells #[.string (strOf c.name), .int .u32 c.nr, .slice P c.params.length pc] 30)
  have hn4' := below_alloc hn4 (Nat.le_refl _) (.cells #[.string (strOf c.name), .int .u32 c.nr, .slice P c.params.length pc] 30)
  have hp4' := (hp4.below ((Below.refl w4.heap.size w4).alloc (Nat.le_refl _) (.cells #[.string (strOf c.name), .int .u32 c.nr, .slice P c.params.length pc] 30))).wider (B' := (w4.alloc (.cells #[.string (strOf c.name), .int .u32 c.nr, .slice P c.params.length pc] 30)).heap.size) (by simp)
  clear hb4 hx3 hn3 hp4 hx4 hn4
  obtain ⟨gc, hgc⟩ : ∃ gc, gc = w4.heap.size := ⟨_, rfl⟩
  go_wp2_with fail
  rw [← hgc] at hc4 ⊢
  clear hgc
  generalize w4.alloc (.cells #[.string (strOf c.name), .int .u32 c.nr, .slice P c.params.length pc] 30) = w4' at *
  refine (H4.out _).mono ?_
  rintro r w5 ⟨Q, qc, rfl, hq5, hb5⟩
  have hx5 := hx4'.step hb5
  have hn5 := below_step hn4' (Nat.le_refl _) hb5
  have hc5 := hc4.step hb5
  have hp5 := (hp4'.below hb5).wider hb5.size
  have hx5' := hx5.alloc (.cells #[.string (strOf c.name), .int .u32 c.nr, .slice Q c.params.length qc] 30)
  have hc5' := hc5.alloc (.cells #[.string (strOf c.name), .int .u32 c.nr, .slice Q c.params.length qc] 30)
  have hd5' := Box.new w5 30 #[.string (strOf c.name), .int .u32 c.nr, .slice Q c.params.length qc]
  have hn5' := below_alloc hn5 (Nat.le_refl _) (.cells #[.string (strOf c.name), .int .u32 c.nr, .slice Q c.params.length qc] 30)
  have hp5' := (hp5.below ((Below.refl w5.heap.size w5).alloc (Nat.le_refl _) (.cells #[.string (strOf c.name), .int .u32 c.nr, .slice Q c.params.length qc] 30))).wider (B' := (w5.alloc (.cells #[.string (strOf c.name), .int .u32 c.nr, .slice Q c.params.length qc] 30)).heap.size) (by simp)
  have hq5' := (hq5.below ((Below.refl w5.heap.size w5).alloc (Nat.le_refl _) (.cells #[.string (strOf c.name), .int .u32 c.nr, .slice Q c.params.length qc] 30))).wider (B' := (w5.alloc (.cells #[.string (strOf c.name), .int .u32 c.nr, .slice Q c.params.length qc] 30)).heap.size) (by simp)
  have v0 := hx5.cell 0
  have v1 := hx5.cell 1
  simp only [List.getElem?_toArray, List.getElem?_cons_zero, List.getElem?_cons_succ] at v0 v1
  have vg := hx5.lt
  clear hb5 hx4' hn4' hc4 hp4' hx5 hn5 hc5 hp5 hq5
  obtain ⟨gd, hgd⟩ : ∃ gd, gd = w5.heap.size := ⟨_, rfl⟩
  go_wp2_with fail
  rw [← hgd] at hd5' ⊢
  clear hgd v0 v1 vg
  generalize w5.alloc (.cells #[.string (strOf c.name), .int .u32 c.nr, .slice Q c.params.length qc] 30) = w5' at *
  refine (H5.out _).mono ?_
  rintro r w6 ⟨rfl, hb6⟩
  have hx6 := hx5'.step hb6
  have hn6 := below_step hn5' (Nat.le_refl _) hb6
  have hc6 := hc5'.step hb6
  have hd6 := hd5'.step hb6
  have hp6 := (hp5'.below hb6).wider hb6.size
  have hq6 := (hq5'.below hb6).wider hb6.size
  have y0 := hx6.cell 0
  have y1 := hx6.cell 1
  simp only [List.getElem?_toArray, List.getElem?_cons_zero, List.getElem?_cons_succ] at y0 y1
  have yg := hx6.lt
  clear hb6 hx5' hn5' hc5' hd5' hp5' hq5'
  go_wp2_with fail
  refine (H6.out _).mono ?_
  rintro r w7 ⟨rfl, hb7⟩
  have hn7 := below_step hn6 (Nat.le_refl _) hb7
  have hc7 := hc6.step hb7
  have hd7 := hd6.step hb7
  have hp7 := (hp6.below hb7).wider hb7.size
  have hq7 := (hq6.below hb7).wider hb7.size
  clear hb7 hx6 hn6 hc6 hd6 hp6 hq6 y0 y1 yg
  go_wp2_with fail
  refine (H7.out _ hn7).mono ?_
  rintro r w8 ⟨A, ac, ps, rfl, hac, hps, hal, hb8⟩
  have hn8 := below_step hn7 (Nat.le_refl _) hb8
  have hc8 := hc7.step hb8
  have hd8 := hd7.step hb8
  have hp8 := (hp7.below hb8).wider hb8.size
  have hq8 := (hq7.below hb8).wider hb8.size
  clear hb8 hn7 hc7 hd7 hp7 hq7
  go_wp2_with fail
  refine (H8.out _).mono ?_
  rintro r w8' ⟨A', ac', qs, rfl, hac', hqs, hbl, hb8⟩
  have hn8' := below_step hn8 (Nat.le_refl _) hb8
  have hc8' := hc8.step hb8
  have hd8' := hd8.step hb8
  have hp8' := (hp8.below hb8).wider hb8.size
  have hq8' := (hq8.below hb8).wider hb8.size
  have hal' := (hal.below hb8).wider hb8.size
  clear hb8 hn8 hc8 hd8 hp8 hq8 hal
  have u0 := hc8'.cell 0
  have u1 := hc8'.cell 1
  have u2 := hc8'.cell 2
  have u3 := hd8'.cell 0
  have u4 := hd8'.cell 1
  have u5 := hd8'.cell 2
  simp only [List.getElem?_toArray, List.getElem?_cons_zero, List.getElem?_cons_succ] at u0 u1 u2 u3 u4 u5
  have cg := hc8'.lt
  have dg := hd8'.lt
  clear hc8' hd8'
  go_wp2_with fail
  refine (same_yes c P Q pc qc _ hp8' hq8' (by have h6 : c.params.length ≤ 6 := HPF.out; omega)).mono ?_
  rintro r w9 ⟨rfl, hb9⟩
  have hn9 := below_step hn8' (Nat.le_refl _) hb9
  have hal9 := (hal'.below hb9).wider hb9.size
  have hbl9 := (hbl.below hb9).wider hb9.size
  have HAL := Lib.hid hal9
  have HBL := Lib.hid hbl9
  have HN9 := Lib.hid hn9
  have HPS := Lib.hid hps
  have HQS := Lib.hid hqs
  clear hb9 hal' hbl hn8' hp8' hq8' u0 u1 u2 u3 u4 u5 cg dg hal9 hbl9 hn9 hps hqs H1 H2 H3 H4 H5 H6 H7 H8 HPF
  obtain ⟨M, hM⟩ : ∃ M, M = L.length := ⟨_, rfl⟩
  rw [← hM] at hL hac hac' HAL HBL ⊢
  have HLM : Hid (L.length = M) := hM.symm
  clear hM
  go_wp2_with fail
  go_loopw [22] (fun i wr => ∃ j : Nat, j ≤ M ∧ i = .int .i64 j ∧ Below w9.heap.size w9 wr) (fun i _ => M - (intOf i).toNat)
  case atStart => exact ⟨0, by omega, rfl, Below.refl _ _⟩
  case round =>
    obtain ⟨j, hj, rfl, hnx⟩ := hrel
    by_cases hlt : j < M
    · have hpl : ps.length = M := by rw [← HLM.out, ← HPS.out, List.length_map]
      have hql : qs.length = M := by rw [← HLM.out, ← HQS.out, List.length_map]
      obtain ⟨p, hp⟩ : ∃ p, ps[j]? = some p := ⟨_, List.getElem?_eq_getElem (by omega)⟩
      obtain ⟨q, hq⟩ : ∃ q, qs[j]? = some q := ⟨_, List.getElem?_eq_getElem (by omega)⟩
      have hpq : p.1 = q.1 := by
        have e1 : (ps.map Prod.fst)[j]? = some p.1 := by rw [List.getElem?_map, hp]; rfl
        have e2 : (qs.map Prod.fst)[j]? = some q.1 := by rw [List.getElem?_map, hq]; rfl
        rw [HPS.out] at e1
        rw [HQS.out] at e2
        exact Option.some.inj (e1.symm.trans e2)
      have hpar : p.1.params.length ≤ 6 := HPA.out p.1 (by rw [← HPS.out]; exact List.mem_map_of_mem (List.mem_of_getElem? hp))
      obtain ⟨a0, a1, a2⟩ := callVals_at ps j p hp
      obtain ⟨b0, b1, b2⟩ := callVals_at qs j q hq
      obtain ⟨ab, ao, rfl, hab, hcc⟩ := HAL.out.1.2 (by omega)
      obtain ⟨bb, bo, rfl, hbb, hdd⟩ := HBL.out.1.2 (by omega)
      rw [← hpq] at b0 b1 b2
      have HPP : Hid (∀ W : World, Below w9.heap.size w9 W → ParamsLie W W.heap.size (p.1, p.2.1, p.2.2)) := fun W hW => ((HAL.out.2 p (List.mem_of_getElem? hp)).below hW).wider hW.size
      have HQQ : Hid (∀ W : World, Below w9.heap.size w9 W → ParamsLie W W.heap.size (p.1, q.2.1, q.2.2)) := fun W hW => by
        have := ((HBL.out.2 q (List.mem_of_getElem? hq)).below hW).wider hW.size
        rw [hpq]
        exact this
      have F0 : ∀ W : World, Below w9.heap.size w9 W → W.cell? ⟨ab, ao + j * 3, none⟩ = some (.string (strOf p.1.name)) := fun W hW => (hW.cell (p := ⟨ab, ao + j * 3, none⟩) hab).trans (hcc _ _ a0)
      have F1 : ∀ W : World, Below w9.heap.size w9 W → W.cell? ⟨ab, ao + j * 3 + 1, none⟩ = some (.int .u32 p.1.nr) := fun W hW => by
        rw [Nat.add_assoc]
        exact (hW.cell (p := ⟨ab, ao + (j * 3 + 1), none⟩) hab).trans (hcc _ _ a1)
      have F2 : ∀ W : World, Below w9.heap.size w9 W → W.cell? ⟨ab, ao + j * 3 + 2, none⟩ = some (.slice p.2.1 p.1.params.length p.2.2) := fun W hW => by
        rw [Nat.add_assoc]
        exact (hW.cell (p := ⟨ab, ao + (j * 3 + 2), none⟩) hab).trans (hcc _ _ a2)
      have G0 : ∀ W : World, Below w9.heap.size w9 W → W.cell? ⟨bb, bo + j * 3, none⟩ = some (.string (strOf p.1.name)) := fun W hW => (hW.cell (p := ⟨bb, bo + j * 3, none⟩) hbb).trans (hdd _ _ b0)
      have G1 : ∀ W : World, Below w9.heap.size w9 W → W.cell? ⟨bb, bo + j * 3 + 1, none⟩ = some (.int .u32 p.1.nr) := fun W hW => by
        rw [Nat.add_assoc]
        exact (hW.cell (p := ⟨bb, bo + (j * 3 + 1), none⟩) hbb).trans (hdd _ _ b1)
      have G2 : ∀ W : World, Below w9.heap.size w9 W → W.cell? ⟨bb, bo + j * 3 + 2, none⟩ = some (.slice q.2.1 p.1.params.length q.2.2) := fun W hW => by
        rw [Nat.add_assoc]
        exact (hW.cell (p := ⟨bb, bo + (j * 3 + 2), none⟩) hbb).trans (hdd _ _ b2)
      clear a0 a1 a2 b0 b1 b2 hcc hdd hpq hp hq hpl hql
      have jn : ((j : Int)).toNat = j := by omega
      have jM : (j : Int) < (M : Int) := by omega
      go_wp2_with fail
      refine wp_region_noPanic ?_
      refine wp_region_held_drew (S := fun W => Below w9.heap.size w9 W) (by kernel_rfl) (hnx.drew) (fun hHeld => ?_)
      refine wpAnyH_take (i := 0) (oi := ⟨some 115, _, _, _, _, _⟩) (v := ?kv0x1) rfl (by kernel_rfl) (by kernel_rfl) (by kernel_rfl) (fun _ _ _ h => h) (Or.inl ⟨by rfl, ?ky0x1⟩) (by assumption) ?kr0x1
      case ky0x1 => intro w hSw; go_simp; try (with_reducible rfl)
      try simp only [Act.put, List.setIfInBounds_toArray, List.set_cons_zero, List.set_cons_succ]
      refine wpAnyH_take (i := 1) (oi := ⟨some 116, _, _, _, _, _⟩) (v := ?kv1x2) rfl (by kernel_rfl) (by kernel_rfl) (by kernel_rfl) (fun _ _ _ h => h) (Or.inl ⟨by rfl, ?ky1x2⟩) (by assumption) ?kr1x2
      case ky1x2 => intro w hSw; go_simp; try (with_reducible rfl)
      try simp only [Act.put, List.setIfInBounds_toArray, List.set_cons_zero, List.set_cons_succ]
      refine wpAnyH_take (i := 2) (oi := ⟨some 117, _, _, _, _, _⟩) (v := ?kv2x3) rfl (by kernel_rfl) (by kernel_rfl) (by kernel_rfl) (fun _ _ _ h => h) (Or.inl ⟨by rfl, ?ky2x3⟩) (by assumption) ?kr2x3
      case ky2x3 => intro w hSw; go_simp; try (with_reducible rfl)
      try simp only [Act.put, List.setIfInBounds_toArray, List.set_cons_zero, List.set_cons_succ]
      refine wpAnyH_take (i := 3) (oi := ⟨some 118, _, _, _, _, _⟩) (v := ?kv3x4) rfl (by kernel_rfl) (by kernel_rfl) (by kernel_rfl) (fun _ _ _ h => h) (Or.inl ⟨by rfl, ?ky3x4⟩) (by assumption) ?kr3x4
      case ky3x4 => intro w hSw; go_simp; try (with_reducible rfl)
      try simp only [Act.put, List.setIfInBounds_toArray, List.set_cons_zero, List.set_cons_succ]
      refine wpAnyH_take (i := 4) (oi := ⟨some 119, _, _, _, _, _⟩) (v := ?kv4x5) rfl (by kernel_rfl) (by kernel_rfl) (by kernel_rfl) (fun _ _ _ h => h) (Or.inl ⟨by rfl, ?ky4x5⟩) (by assumption) ?kr4x5
      case ky4x5 => intro w hSw; go_simp; try (with_reducible rfl)
      try simp only [Act.put, List.setIfInBounds_toArray, List.set_cons_zero, List.set_cons_succ]
      refine wpAnyH_take (i := 5) (oi := ⟨some 120, _, _, _, _, _⟩) (v := ?kv5x6) rfl (by kernel_rfl) (by kernel_rfl) (by kernel_rfl) (fun _ _ _ h => h) (Or.inl ⟨by rfl, ?ky5x6⟩) (by assumption) ?kr5x6
      case ky5x6 => intro w hSw; go_simp; try (with_reducible rfl)
      try simp only [Act.put, List.setIfInBounds_toArray, List.set_cons_zero, List.set_cons_succ]
      refine wpAnyH_take (i := 6) (oi := ⟨some 121, _, _, _, _, _⟩) (v := ?kv6x7) rfl (by kernel_rfl) (by kernel_rfl) (by kernel_rfl) (fun _ _ _ h => h) (Or.inl ⟨by rfl, ?ky6x7⟩) (by assumption) ?kr6x7
      case ky6x7 => intro w hSw; go_simp; try (with_reducible rfl)
      try simp only [Act.put, List.setIfInBounds_toArray, List.set_cons_zero, List.set_cons_succ]
      refine wpAnyH_take (i := 7) (oi := ⟨some 122, _, _, _, _, _⟩) (v := ?kv7x8) rfl (by kernel_rfl) (by kernel_rfl) (by kernel_rfl) (fun _ _ _ h => h) (Or.inl ⟨by rfl, ?ky7x8⟩) (by assumption) ?kr7x8
      case ky7x8 => intro w hSw; go_simp; try (with_reducible rfl)
      try simp only [Act.put, List.setIfInBounds_toArray, List.set_cons_zero, List.set_cons_succ]
      refine wpAnyH_ready (rs := [8]) (by kernel_rfl) (by simp) ?_
      refine AllReadyH.cons (o := ⟨some 123, _, _, _, _, _⟩) rfl (fun K hK => ?_) AllReadyH.nil
      go_simp
      refine (same_yes p.1 p.2.1 q.2.1 p.2.2 q.2.2 _ (HPP.out _ hnx.drew) (HQQ.out _ hnx.drew) (by omega)).mono ?_
      rintro r wx ⟨rfl, hbx⟩
      have hnx5 : Below w9.heap.size w9 wx := hnx.drew.trans (hbx.mono hnx.size)
      refine hK.out _ _ ?_ (fun hHeld => ?_)
      · exact hnx5
      clear hK K
      try simp only [Act.put, List.setIfInBounds_toArray, List.set_cons_zero, List.set_cons_succ]
      refine wpAnyH_take (i := 9) (oi := ⟨some 124, _, _, _, _, _⟩) (v := ?kv9x9) rfl (by kernel_rfl) (by kernel_rfl) (by kernel_rfl) (fun _ _ _ h => h) (Or.inl ⟨by rfl, ?ky9x9⟩) (by assumption) ?kr9x9
      case ky9x9 => intro w hSw; go_simp; try (with_reducible rfl)
      try simp only [Act.put, List.setIfInBounds_toArray, List.set_cons_zero, List.set_cons_succ]
      refine wpAnyH_done (by kernel_rfl) ?_ _
      refine NoPanic.normal ?_
      go_wp2
      go_roundw
      case rel => exact ⟨j + 1, by omega, by go_num, hnx5⟩
      case measure => simp [intOf]; omega
    · obtain rfl : j = M := by omega
      go_wp2
      go_ret
      exact ⟨rfl, below_step HN9.out (Nat.le_refl _) hnx⟩

set_option maxRecDepth 100000 in
theorem ktells_any (R : CallSays L) (s n : ByteArray) (k d : Int) (w : World) (hw : L w) (hk : -9223372036854775808 ≤ k ∧ k ≤ 9223372036854775807) (hd : -9223372036854775808 ≤ d ∧ d ≤ 9223372036854775807) :
    Calls Tryd.prog 3 #[.string s, .string n, .agg #[.int .i64 k, .int .i64 d]] w fun e w' => e = .returned (.bool true) ∧ Below w.heap.size w w' := by
  have HN0 : Hid (Below w.heap.size w (w.alloc (.cells #[.int .i64 k, .int .i64 d] 23))) := below_alloc (Below.refl _ _) (Nat.le_refl _) _
  by_cases h1 : s.size ≤ 50
  · by_cases h2 : n.size ≤ 50
    · exact ktells_in R s n k d w hw h1 h2 hk.1 hk.2 hd.1 hd.2
    · have s50 : (s.size : Int) ≤ 50 := by omega
      have n50 : (50 : Int) < (n.size : Int) := by omega
      clear h1 h2 hk hd
      go_enter Tryd.func3, Tryd.ntmps3
      go_wp2_with fail
      refine (kalive_any R _ (R.keep w _ hw HN0.out)).mono ?_
      rintro r w1 ⟨rfl, hb1⟩
      have hn1 := HN0.out.trans (hb1.mono HN0.out.size)
      clear hb1
      go_wp2
      go_ret
      exact ⟨rfl, hn1⟩
  · have s50 : (50 : Int) < (s.size : Int) := by omega
    clear h1 hk hd
    go_enter Tryd.func3, Tryd.ntmps3
    go_wp2_with fail
    refine (kalive_any R _ (R.keep w _ hw HN0.out)).mono ?_
    rintro r w1 ⟨rfl, hb1⟩
    have hn1 := HN0.out.trans (hb1.mono HN0.out.size)
    clear hb1
    go_wp2
    go_ret
    exact ⟨rfl, hn1⟩

end Go.Proofs.YtbibliakakjkiaaDoor
