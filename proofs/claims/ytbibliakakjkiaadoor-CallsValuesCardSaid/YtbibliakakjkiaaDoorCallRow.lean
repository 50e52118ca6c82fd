/- What the landed row.call gives. -/
import Derived.Test.YtbibliakakjkiaaDoorCallLow
import Derived.Test.YtbibliakakjkiaaDoorResBox
namespace Go.Proofs.YtbibliakakjkiaaDoor
open Go.RowKit

/-- What lies in another block than the one that turned. -/
theorem lies_other {w w' : World} {g G n size : Nat} {xs : List Value} (h : Lies w w.heap.size size (some ⟨G, 0, none⟩) n xs) (hg : G ≠ g) (ho : w.grownBy w' (some g)) : Lies w' w'.heap.size size (some ⟨G, 0, none⟩) n xs := by
  refine ⟨h.1, fun hn => ?_⟩
  obtain ⟨b', o, e, hb, hc⟩ := h.2 hn
  obtain ⟨rfl, rfl⟩ : G = b' ∧ 0 = o := by
    simp only [Option.some.injEq, Addr.mk.injEq, and_true] at e
    exact e
  exact ⟨G, 0, rfl, Nat.lt_of_lt_of_le hb ho.size, fun j u hu => (World.cell?_of_block (ho.block G hb (by simpa using hg))).trans (hc j u hu)⟩

/-- A row's call there, or none. -/
def rowCall (s : List UInt8) (r : RowV) : CallV × Bool := if selOf s r = -1 then (noCall, false) else (⟨r.name, selOf s r, r.params⟩, true)

/-- One call, its params in a block that the call made. -/
def OneCallNew (t : CallV × Bool) (w : World) : Ending → World → Prop :=
  fun r w' => ∃ P c, r = .returned (.tuple #[.agg #[.string (strOf t.1.name), .int .u32 t.1.nr, .slice P t.1.params.length c], .bool t.2]) ∧ ParamsLie w' w'.heap.size (t.1, P, c) ∧ (∀ b o, P = some ⟨b, o, none⟩ → w.heap.size ≤ b) ∧ Below w.heap.size w w'

theorem call_start (r : RowV) (w : World) : Box ((w.alloc (.cells #[.string (strOf r.name), .string (strOf (joinSp r.params)), .int .i64 r.amd, .int .i64 r.x86, .int .i64 r.arm] 44)).alloc (.cells #[.string ⟨#[]⟩, .int .u32 0, .slice none 0 0] 30)) w.heap.size 44 #[.string (strOf r.name), .string (strOf (joinSp r.params)), .int .i64 r.amd, .int .i64 r.x86, .int .i64 r.arm] ∧ Box ((w.alloc (.cells #[.string (strOf r.name), .string (strOf (joinSp r.params)), .int .i64 r.amd, .int .i64 r.x86, .int .i64 r.arm] 44)).alloc (.cells #[.string ⟨#[]⟩, .int .u32 0, .slice none 0 0] 30)) (w.heap.size + 1) 30 #[.string ⟨#[]⟩, .int .u32 0, .slice none 0 0] ∧ Below w.heap.size w ((w.alloc (.cells #[.string (strOf r.name), .string (strOf (joinSp r.params)), .int .i64 r.amd, .int .i64 r.x86, .int .i64 r.arm] 44)).alloc (.cells #[.string ⟨#[]⟩, .int .u32 0, .slice none 0 0] 30)) := by
  have h2 := Box.new (w.alloc (.cells #[.string (strOf r.name), .string (strOf (joinSp r.params)), .int .i64 r.amd, .int .i64 r.x86, .int .i64 r.arm] 44)) 30 #[.string ⟨#[]⟩, .int .u32 0, .slice none 0 0]
  rw [show (w.alloc (.cells #[.string (strOf r.name), .string (strOf (joinSp r.params)), .int .i64 r.amd, .int .i64 r.x86, .int .i64 r.arm] 44)).heap.size = w.heap.size + 1 by simp] at h2
  exact ⟨(Box.new w _ _).alloc _, h2, below_alloc (below_alloc (Below.refl _ _) (Nat.le_refl _) _) (Nat.le_refl _) _⟩

set_option maxRecDepth 100000 in
set_option maxHeartbeats 1000000 in
theorem land_callNew (r : RowV) (hr : r ∈ callTab) (s : ByteArray) (w : World) (hL : Laid w) :
    Calls Tryd.prog 18 #[.agg #[.string (strOf r.name), .string (strOf (joinSp r.params)), .int .i64 r.amd, .int .i64 r.x86, .int .i64 r.arm], .string s] w (OneCallNew (rowCall s.data.toList r) w) := by
  have HNUM : Hid (∀ W, Calls Tryd.prog 21 #[.agg #[.string (strOf r.name), .string (strOf (joinSp r.params)), .int .i64 r.amd, .int .i64 r.x86, .int .i64 r.arm], .string s] W fun e w' => e = .returned (.int .i64 (selOf s.data.toList r)) ∧ Below W.heap.size W w') := fun W => land_number r s W
  have HF : Hid (∀ W, Below w.heap.size w W → Calls Tryd.prog 22 #[.string (strOf (joinSp r.params))] W fun e w' =>
      e = .returned (.slice (some ⟨W.heap.size, 0, none⟩) r.params.length r.params.length) ∧ w' = W.alloc (.cells (strsV r.params).toArray 9)) := fun W hW => params_any r hr W (hL.below hW)
  have hsel : -1 ≤ selOf s.data.toList r ∧ selOf s.data.toList r ≤ 65535 := by
    obtain ⟨t0, t1, t2, t3, t4, t5⟩ := tab_bounds r hr
    unfold selOf
    split
    · exact ⟨t4, t5⟩
    · split
      · exact ⟨t2, t3⟩
      · split
        · exact ⟨t0, t1⟩
        · decide
  unfold rowCall
  obtain ⟨n, hn⟩ : ∃ n, n = selOf s.data.toList r := ⟨_, rfl⟩
  rw [← hn] at HNUM hsel ⊢
  clear hn hL hr
  obtain ⟨n0, n1⟩ := hsel
  by_cases hn : n = -1
  · rw [if_pos hn]
    subst hn
    clear HF
    go_enter Tryd.func18, Tryd.ntmps18
    go_wp2_with fail
    obtain ⟨hr0, hc0, hb0⟩ := call_start r w
    generalize (w.alloc (.cells #[.string (strOf r.name), .string (strOf (joinSp r.params)), .int .i64 r.amd, .int .i64 r.x86, .int .i64 r.arm] 44)).alloc (.cells #[.string ⟨#[]⟩, .int .u32 0, .slice none 0 0] 30) = w0 at *
    refine (HNUM.out _).mono ?_
    rintro e w1 ⟨rfl, hb1⟩
    have hr1 := hr0.step hb1
    have hc1 := hc0.step hb1
    have HN1 := Lib.hid (below_step hb0 (Nat.le_refl _) hb1)
    have HC1 := Lib.hid hc1
    have c0 := hc1.cell 0
    have c1 := hc1.cell 1
    have c2 := hc1.cell 2
    have f0 := hc1.free 0
    have f1 := hc1.free 1
    have f2 := hc1.free 2
    have g0 := hc1.lt
    simp only [List.getElem?_toArray, List.getElem?_cons_zero, List.getElem?_cons_succ] at c0 c1 c2
    clear hb0 hb1 hr0 hc0 hr1 hc1
    go_wp2_with fail
    have hbx := box_trio (a := .string ⟨#[]⟩) (b := .int .u32 0) (c := .slice none 0 0) HC1.out
    refine bodyPost_ret (results_box_tmp rfl _ _ (w.heap.size + 1) 30 _ ?fa1 hbx _ Tryd.underlying30 ?fa2 ?fa3) ?fa4 ?fa5
    case fa2 => rfl
    case fa3 => rfl
    case fa1 => rfl
    case fa4 => rfl
    case fa5 =>
      refine ⟨none, 0, rfl, ⟨Lies.empty _ _ _ _, Nat.le_refl _⟩, fun b o e => by (cases e), ?_⟩
      iterate 3 (with_reducible refine below_set (by omega) ?_)
      exact HN1.out
  · rw [if_neg hn]
    have nw : IntKind.u32.wrap n = n := by rw [IntKind.wrap_u32]; omega
    go_enter Tryd.func18, Tryd.ntmps18
    go_wp2_with fail
    obtain ⟨hr0, hc0, hb0⟩ := call_start r w
    generalize (w.alloc (.cells #[.string (strOf r.name), .string (strOf (joinSp r.params)), .int .i64 r.amd, .int .i64 r.x86, .int .i64 r.arm] 44)).alloc (.cells #[.string ⟨#[]⟩, .int .u32 0, .slice none 0 0] 30) = w0 at *
    refine (HNUM.out _).mono ?_
    rintro e w1 ⟨rfl, hb1⟩
    have hr1 := hr0.step hb1
    have hc1 := hc0.step hb1
    have hn1 := below_step hb0 (Nat.le_refl _) hb1
    have r0 := hr1.cell 0
    have r1 := hr1.cell 1
    simp only [List.getElem?_toArray, List.getElem?_cons_zero, List.getElem?_cons_succ] at r0 r1
    have g1 := hr1.lt
    have hr1s := hr1
    have HN1 := Lib.hid hn1
    have HC1 := Lib.hid hc1
    clear hb0 hb1 hr0 hc0 hr1 hc1 hn1
    go_wp2_with fail
    have HR1 := Lib.hid hr1s
    clear hr1s
    refine wp_region_noPanic ?_
    refine wp_region_held_drew (S := fun W => W.cell? ⟨w.heap.size, 0, none⟩ = some (.string (strOf r.name)) ∧ W.cell? ⟨w.heap.size, 1, none⟩ = some (.string (strOf (joinSp r.params))) ∧ Below w.heap.size w W) (by kernel_rfl) (⟨r0, r1, HN1.out.drew⟩) (fun hHeld => ?_)
    refine wpAnyH_take (i := 0) (oi := ⟨some 13, _, _, _, _, _⟩) (v := ?lcv0x1) rfl (by kernel_rfl) (by kernel_rfl) (by kernel_rfl) (fun _ _ _ h => h) (Or.inl ⟨by rfl, ?lcy0x1⟩) (by assumption) ?lcr0x1
    case lcy0x1 => intro w hSw; go_simp; try (with_reducible rfl)
    try simp only [Act.put, List.setIfInBounds_toArray, List.set_cons_zero, List.set_cons_succ]
    refine wpAnyH_take (i := 1) (oi := ⟨some 14, _, _, _, _, _⟩) (v := ?lcv1x2) rfl (by kernel_rfl) (by kernel_rfl) (by kernel_rfl) (fun _ _ _ h => h) (Or.inl ⟨by rfl, ?lcy1x2⟩) (by assumption) ?lcr1x2
    case lcy1x2 => intro w hSw; go_simp; try (with_reducible rfl)
    try simp only [Act.put, List.setIfInBounds_toArray, List.set_cons_zero, List.set_cons_succ]
    refine wpAnyH_take (i := 2) (oi := ⟨some 15, _, _, _, _, _⟩) (v := ?lcv2x3) rfl (by kernel_rfl) (by kernel_rfl) (by kernel_rfl) (fun _ _ _ h => h) (Or.inl ⟨by rfl, ?lcy2x3⟩) (by assumption) ?lcr2x3
    case lcy2x3 => intro w hSw; go_simp; try (with_reducible rfl)
    try simp only [Act.put, List.setIfInBounds_toArray, List.set_cons_zero, List.set_cons_succ]
    refine wpAnyH_take (i := 3) (oi := ⟨some 16, _, _, _, _, _⟩) (v := ?lcv3x4) rfl (by kernel_rfl) (by kernel_rfl) (by kernel_rfl) (fun _ _ _ h => h) (Or.inl ⟨by rfl, ?lcy3x4⟩) (by assumption) ?lcr3x4
    case lcy3x4 => intro w hSw; go_simp; try (with_reducible rfl)
    try simp only [Act.put, List.setIfInBounds_toArray, List.set_cons_zero, List.set_cons_succ]
    refine wpAnyH_take (i := 4) (oi := ⟨some 17, _, _, _, _, _⟩) (v := ?lcv4x5) rfl (by kernel_rfl) (by kernel_rfl) (by kernel_rfl) (fun _ _ _ h => h) (Or.inl ⟨by rfl, ?lcy4x5⟩) (by assumption) ?lcr4x5
    case lcy4x5 => intro w hSw; go_simp; try (with_reducible rfl)
    try simp only [Act.put, List.setIfInBounds_toArray, List.set_cons_zero, List.set_cons_succ]
    refine wpAnyH_take (i := 5) (oi := ⟨some 18, _, _, _, _, _⟩) (v := ?lcv5x6) rfl (by kernel_rfl) (by kernel_rfl) (by kernel_rfl) (fun _ _ _ h => h) (Or.inl ⟨by rfl, ?lcy5x6⟩) (by assumption) ?lcr5x6
    case lcy5x6 => intro w hSw; go_simp; try (with_reducible rfl)
    try simp only [Act.put, List.setIfInBounds_toArray, List.set_cons_zero, List.set_cons_succ]
    refine wpAnyH_ready (rs := [6]) (by kernel_rfl) (by simp) ?_
    refine AllReadyH.cons (o := ⟨some 19, _, _, _, _, _⟩) rfl (fun K hK => ?_) AllReadyH.nil
    go_simp
    refine (HF.out _ HN1.out.drew).mono ?_
    rintro e w2 ⟨rfl, hw2⟩
    have hl2 := lies_new (w := w1.drew) (t := 9) (cs := (strsV r.params).toArray) (xs := strsV r.params) w1.drew.heap.size r.params.length 1 rfl rfl (by simp [strsV])
    rw [← hw2] at hl2
    have hc2 : Box w2 (w.heap.size + 1) 30 #[.string ⟨#[]⟩, .int .u32 0, .slice none 0 0] := by rw [hw2]; exact HC1.out.drew.alloc _
    have hr2 : Box w2 w.heap.size 44 #[.string (strOf r.name), .string (strOf (joinSp r.params)), .int .i64 r.amd, .int .i64 r.x86, .int .i64 r.arm] := by rw [hw2]; exact HR1.out.drew.alloc _
    have hn2 : Below w.heap.size w w2 := by rw [hw2]; exact HN1.out.drew.alloc HN1.out.drew.size _
    have hne : w1.drew.heap.size ≠ w.heap.size + 1 := by have := HC1.out.drew.lt; omega
    have s0 := hr2.cell 0
    have s1 := hr2.cell 1
    simp only [List.getElem?_toArray, List.getElem?_cons_zero, List.getElem?_cons_succ] at s0 s1
    refine hK.out _ _ ?_ (fun hHeld => ?_)
    · exact ⟨s0, s1, hn2⟩
    clear hK K
    try simp only [Act.put, List.setIfInBounds_toArray, List.set_cons_zero, List.set_cons_succ]
    have hGw : w.heap.size ≤ w1.drew.heap.size := HN1.out.drew.size
    obtain ⟨G, hG⟩ : ∃ G, G = w1.drew.heap.size := ⟨_, rfl⟩
    rw [← hG] at hl2 hne hGw ⊢
    clear hG hw2
    refine wpAnyH_take (i := 7) (oi := ⟨some 20, _, _, _, _, _⟩) (v := ?lcv7x7) rfl (by kernel_rfl) (by kernel_rfl) (by kernel_rfl) (fun _ _ _ h => h) (Or.inl ⟨by rfl, ?lcy7x7⟩) (by assumption) ?lcr7x7
    case lcy7x7 => intro w hSw; go_simp; try (with_reducible rfl)
    try simp only [Act.put, List.setIfInBounds_toArray, List.set_cons_zero, List.set_cons_succ]
    refine wpAnyH_ready (rs := [8]) (by kernel_rfl) (by simp) ?_
    refine AllReadyH.cons (o := ⟨none, _, _, _, _, _⟩) rfl (fun K hK => ?_) AllReadyH.nil
    refine step_store_box (by rfl) 30 _ _ (by rfl) (w.heap.size + 1) _ _ _ (by rfl) (by rfl) hc2 (by rfl) (by kernel_rfl) (by simp [Value.oneCell']) (fun w3 hb3 hg3 => ?_)
    have hn3 : Below w.heap.size w w3 := below_only hn2 (by omega) hn2.size hg3
    have hr3 := box_only hr2 (by omega) hg3
    have s0 := hr3.cell 0
    have s1 := hr3.cell 1
    simp only [List.getElem?_toArray, List.getElem?_cons_zero, List.getElem?_cons_succ] at s0 s1
    refine hK.out _ _ ?_ (fun hHeld => ?_)
    · exact ⟨s0, s1, hn3⟩
    clear hK K
    try simp only [Act.put]
    refine wpAnyH_take (i := 9) (oi := ⟨some 5, _, _, _, _, _⟩) (v := ?lcv9x8) rfl (by kernel_rfl) (by kernel_rfl) (by kernel_rfl) (fun _ _ _ h => h) (Or.inl ⟨by rfl, ?lcy9x8⟩) (by assumption) ?lcr9x8
    case lcy9x8 => intro w hSw; go_simp; try (with_reducible rfl)
    try simp only [Act.put, List.setIfInBounds_toArray, List.set_cons_zero, List.set_cons_succ]
    refine wpAnyH_done (by kernel_rfl) ?_ _
    refine NoPanic.normal ?_
    go_wp2_with fail
    refine bodyPost_ret (results_box_tmp rfl _ _ (w.heap.size + 1) 30 _ ?fa1 hb3 _ Tryd.underlying30 ?fa2 ?fa3) ?fa4 ?fa5
    case fa2 => rfl
    case fa3 => rfl
    case fa1 => rfl
    case fa4 => rfl
    case fa5 => exact ⟨some ⟨G, 0, none⟩, r.params.length, rfl, ⟨lies_other hl2 hne hg3, Nat.le_refl _⟩, fun b o e => by (obtain ⟨rfl, _⟩ : G = b ∧ 0 = o := by (simp only [Option.some.injEq, Addr.mk.injEq, and_true] at e; exact e)); exact hGw, hn3⟩

theorem land_call (r : RowV) (hr : r ∈ callTab) (s : ByteArray) (w : World) (hL : Laid w) :
    Calls Tryd.prog 18 #[.agg #[.string (strOf r.name), .string (strOf (joinSp r.params)), .int .i64 r.amd, .int .i64 r.x86, .int .i64 r.arm], .string s] w (OneCall (rowCall s.data.toList r) w) :=
  (land_callNew r hr s w hL).mono fun _ _ ⟨P, c, h1, h2, _, h4⟩ => ⟨P, c, h1, h2, h4⟩

end Go.Proofs.YtbibliakakjkiaaDoor
