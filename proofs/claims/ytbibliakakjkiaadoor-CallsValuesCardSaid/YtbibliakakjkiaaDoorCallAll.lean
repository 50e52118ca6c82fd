/- What the document's own Calls gives. -/
import Derived.Test.YtbibliakakjkiaaDoorCallRows
import Derived.Test.YtbibliakakjkiaaDoorAppend
namespace Go.Proofs.YtbibliakakjkiaaDoor
open Go.RowKit

/-! ### The calls of an architecture -/
def pickTo (s : List UInt8) (ps : List RowAt) : List Placed := (ps.filter fun p => decide (0 ≤ selOf s p.1)).map fun p => (⟨p.1.name, selOf s p.1, p.1.params⟩, p.2)

theorem pick_fst (s : List UInt8) (ps : List RowAt) : (pickTo s ps).map Prod.fst = callsIn s (ps.map Prod.fst) := by
  unfold pickTo callsIn
  rw [List.map_map, List.filter_map, List.map_map]
  rfl

theorem pick_mem {s : List UInt8} {ps : List RowAt} {q : Placed} (h : q ∈ pickTo s ps) : ∃ p ∈ ps, q.2 = p.2 ∧ q.1.params = p.1.params := by
  unfold pickTo at h
  obtain ⟨p, hp, rfl⟩ := List.mem_map.1 h
  exact ⟨p, (List.mem_filter.1 hp).1, rfl, rfl⟩

theorem pick_in {s : List UInt8} {ps : List RowAt} {k : Nat} {p : RowAt} (hp : ps[k]? = some p) (h : 0 ≤ selOf s p.1) : pickTo s (ps.take (k + 1)) = pickTo s (ps.take k) ++ [(⟨p.1.name, selOf s p.1, p.1.params⟩, p.2)] := by
  unfold pickTo
  rw [List.take_add_one, hp]
  simp [List.filter_append, h]

theorem pick_out {s : List UInt8} {ps : List RowAt} {k : Nat} {p : RowAt} (hp : ps[k]? = some p) (h : ¬ 0 ≤ selOf s p.1) : pickTo s (ps.take (k + 1)) = pickTo s (ps.take k) := by
  unfold pickTo
  rw [List.take_add_one, hp]
  simp [List.filter_append, h]

theorem pick_len (s : List UInt8) (ps : List RowAt) (k : Nat) : (pickTo s (ps.take k)).length ≤ k := by
  unfold pickTo
  rw [List.length_map]
  exact Nat.le_trans (List.length_filter_le _ _) (by simp; omega)

theorem rowVals_at : ∀ (ps : List RowAt) (k : Nat) (p : RowAt), ps[k]? = some p →
    (ps.flatMap rowVals)[k * 5]? = some (.string (strOf p.1.name)) ∧ (ps.flatMap rowVals)[k * 5 + 1]? = some (.slice p.2.1 p.1.params.length p.2.2) ∧ (ps.flatMap rowVals)[k * 5 + 2]? = some (.int .i64 p.1.amd) ∧
    (ps.flatMap rowVals)[k * 5 + 3]? = some (.int .i64 p.1.x86) ∧ (ps.flatMap rowVals)[k * 5 + 4]? = some (.int .i64 p.1.arm)
  | [], k, p, h => by simp at h
  | q :: ps, 0, p, h => by
    obtain rfl : q = p := by simpa using h
    exact ⟨rfl, rfl, rfl, rfl, rfl⟩
  | q :: ps, k + 1, p, h => by
    obtain ⟨h0, h1, h2, h3, h4⟩ := rowVals_at ps k p (by simpa using h)
    have e : ∀ j, ((q :: ps).flatMap rowVals)[(k + 1) * 5 + j]? = (ps.flatMap rowVals)[k * 5 + j]? := fun j => by
      rw [List.flatMap_cons, List.getElem?_append_right (by simp [rowVals]; omega)]
      congr 1
      simp [rowVals]
      omega
    exact ⟨(e 0).trans h0, (e 1).trans h1, (e 2).trans h2, (e 3).trans h3, (e 4).trans h4⟩

theorem tab_bounds : ∀ r ∈ callTab, -1 ≤ r.amd ∧ r.amd ≤ 65535 ∧ -1 ≤ r.x86 ∧ r.x86 ≤ 65535 ∧ -1 ≤ r.arm ∧ r.arm ≤ 65535 := by
  intro r hr
  simp only [callTab, List.mem_cons, List.not_mem_nil, or_false] at hr
  rcases hr with rfl | rfl | rfl | rfl | rfl | rfl | rfl | rfl | rfl | rfl | rfl | rfl | rfl | rfl | rfl | rfl | rfl <;> decide

theorem Tryd.infoCall : (Tryd.prog.info? 30).map (fun i => (i.zero, i.size, i.bytes)) = some (some (.agg #[.string ⟨#[]⟩, .int .u32 0, .slice none 0 0]), 3, 48) := by kernel_rfl

theorem callVals_one (ps : List Placed) : ∀ u ∈ ps.flatMap callVals, u.oneCell' = true := by
  intro u hu
  obtain ⟨p, _, hp⟩ := List.mem_flatMap.1 hu
  simp only [callVals, List.mem_cons, List.not_mem_nil, or_false] at hp
  rcases hp with rfl | rfl | rfl <;> rfl

theorem callVals_one' (p : Placed) : ∀ u ∈ callVals p, u.oneCell' = true := fun u hu => callVals_one [p] u (by simpa using hu)

set_option maxRecDepth 100000 in
set_option maxHeartbeats 4000000 in
theorem refCalls_any (s : ByteArray) (w : World) : Calls Tryd.prog 14 #[.string s] w (NewCalls (callsOf s.data.toList) w) := by
  obtain ⟨i0, hi, hz0, hz1, hz2⟩ := info_parts Tryd.infoCall
  have HK := Lib.hid (arch_kinds s)
  obtain ⟨S, hS⟩ : ∃ S, S = s.data.toList := ⟨_, rfl⟩
  rw [← hS] at HK ⊢
  clear hS
  go_enter Tryd.func14, Tryd.ntmps14
  go_wp2_with fail
  refine (rows_any _).mono ?_
  rintro r w1 ⟨A, ps, rfl, hps, hrl, hb1⟩
  have hpl : ps.length = 17 := by rw [← List.length_map (f := Prod.fst), hps]; rfl
  have HPL := Lib.hid hpl
  have HPS := Lib.hid hps
  have HRL := Lib.hid hrl
  have HB1 := Lib.hid hb1
  have hs1 := hb1.size
  clear hpl hps hrl hb1
  go_wp2_with fail
  go_loopw [3, 5] (fun v i wr => ∃ k : Nat, k ≤ 17 ∧ i = .int .i64 k ∧ wr.ownsRow w1.heap.size 30 3 v (pickTo S (ps.take k)).length ((pickTo S (ps.take k)).flatMap callVals) ∧ Below w1.heap.size w1 wr) (fun _ i _ => 17 - (intOf i).toNat)
  case atStart => exact ⟨0, by omega, rfl, World.ownsRow_nil _ _ _ _, Below.refl _ _⟩
  case round =>
    obtain ⟨k, hk, rfl, hown, hnx⟩ := hrel
    by_cases hlt : k < 17
    · obtain ⟨p, hp⟩ : ∃ p, ps[k]? = some p := ⟨_, List.getElem?_eq_getElem (by have := HPL.out; omega)⟩
      obtain ⟨a0, a1, a2, a3, a4⟩ := rowVals_at ps k p hp
      obtain ⟨b, o, rfl, hb, hc⟩ := HRL.out.1.2 (by omega)
      have e0 := (hnx.cell (p := ⟨b, o + k * 5, none⟩) hb).trans (hc _ _ a0)
      have e1 := (hnx.cell (p := ⟨b, o + (k * 5 + 1), none⟩) hb).trans (hc _ _ a1)
      have e2 := (hnx.cell (p := ⟨b, o + (k * 5 + 2), none⟩) hb).trans (hc _ _ a2)
      have e3 := (hnx.cell (p := ⟨b, o + (k * 5 + 3), none⟩) hb).trans (hc _ _ a3)
      have e4 := (hnx.cell (p := ⟨b, o + (k * 5 + 4), none⟩) hb).trans (hc _ _ a4)
      rw [← Nat.add_assoc] at e1 e2 e3 e4
      have hpr : p.1 ∈ callTab := by rw [← HPS.out]; exact List.mem_map_of_mem (List.mem_of_getElem? hp)
      obtain ⟨t0, t1, t2, t3, t4, t5⟩ := tab_bounds p.1 hpr
      have HIN : Hid (0 ≤ selOf S p.1 → pickTo S (ps.take (k + 1)) = pickTo S (ps.take k) ++ [(⟨p.1.name, selOf S p.1, p.1.params⟩, p.2)]) := pick_in hp
      have HOUT : Hid (¬ 0 ≤ selOf S p.1 → pickTo S (ps.take (k + 1)) = pickTo S (ps.take k)) := pick_out hp
      have hml : (pickTo S (ps.take k)).length ≤ 17 := Nat.le_trans (pick_len S ps k) (by omega)
      obtain ⟨M, hM⟩ : ∃ M, M = pickTo S (ps.take k) := ⟨_, rfl⟩
      rw [← hM] at hown HIN HOUT hml
      have hF0 : ∀ W : World, Below w1.heap.size w1 W → W.cell? ⟨b, o + k * 5, none⟩ = some (.string (strOf p.1.name)) := fun W hW => (hW.cell (p := ⟨b, o + k * 5, none⟩) hb).trans (hc _ _ a0)
      have hF1 : ∀ W : World, Below w1.heap.size w1 W → W.cell? ⟨b, o + k * 5 + 1, none⟩ = some (.slice p.2.1 p.1.params.length p.2.2) := fun W hW => by
        rw [Nat.add_assoc]
        exact (hW.cell (p := ⟨b, o + (k * 5 + 1), none⟩) hb).trans (hc _ _ a1)
      clear a0 a1 a2 a3 a4 hc hpr hM hp
      have hbw : b < wr.heap.size := Nat.lt_of_lt_of_le hb hnx.size
      rcases HK.out with ⟨b1, h⟩ | ⟨b1, b2, h⟩ | ⟨b1, b2, b3, h⟩ | ⟨b1, b2, b3, h1, h2, h3⟩
      · have hs : selOf S p.1 = p.1.arm := sel_arm h p.1
        rw [hs] at HIN HOUT
        clear h hs
        unfold armB at b1
        by_cases hn : 0 ≤ p.1.arm
        · have HI := Lib.hid (HIN.out hn)
          have n0 : IntKind.u32.wrap p.1.arm = p.1.arm := by rw [IntKind.wrap_u32]; omega
          clear HIN HOUT
          go_wp2_with fail
          refine wp_region_noPanic ?_
          refine wp_region_held_drew (S := fun W => Below w1.heap.size w1 W) (by kernel_rfl) (hnx.drew) (fun hHeld => ?_)
          refine wpAnyH_take (i := 0) (oi := ⟨some 38, _, _, _, _, _⟩) (v := ?qarmv0x1) rfl (by kernel_rfl) (by kernel_rfl) (by kernel_rfl) (fun _ _ _ h => h) (Or.inl ⟨by rfl, ?qarmy0x1⟩) (by assumption) ?qarmr0x1
          case qarmy0x1 => intro w hSw; go_simp; try (with_reducible rfl)
          try simp only [Act.put, List.setIfInBounds_toArray, List.set_cons_zero, List.set_cons_succ]
          refine wpAnyH_take (i := 1) (oi := ⟨some 39, _, _, _, _, _⟩) (v := ?qarmv1x2) rfl (by kernel_rfl) (by kernel_rfl) (by kernel_rfl) (fun _ _ _ h => h) (Or.inl ⟨by rfl, ?qarmy1x2⟩) (by assumption) ?qarmr1x2
          case qarmy1x2 => intro w hSw; go_simp; try (with_reducible rfl)
          try simp only [Act.put, List.setIfInBounds_toArray, List.set_cons_zero, List.set_cons_succ]
          refine wpAnyH_take (i := 2) (oi := ⟨some 40, _, _, _, _, _⟩) (v := ?qarmv2x3) rfl (by kernel_rfl) (by kernel_rfl) (by kernel_rfl) (fun _ _ _ h => h) (Or.inl ⟨by rfl, ?qarmy2x3⟩) (by assumption) ?qarmr2x3
          case qarmy2x3 => intro w hSw; go_simp; try (with_reducible rfl)
          try simp only [Act.put, List.setIfInBounds_toArray, List.set_cons_zero, List.set_cons_succ]
          refine wpAnyH_take (i := 3) (oi := ⟨some 41, _, _, _, _, _⟩) (v := ?qarmv3x4) rfl (by kernel_rfl) (by kernel_rfl) (by kernel_rfl) (fun _ _ _ h => h) (Or.inl ⟨by rfl, ?qarmy3x4⟩) (by assumption) ?qarmr3x4
          case qarmy3x4 => intro w hSw; go_simp; try (with_reducible rfl)
          try simp only [Act.put, List.setIfInBounds_toArray, List.set_cons_zero, List.set_cons_succ]
          refine wpAnyH_take (i := 4) (oi := ⟨some 42, _, _, _, _, _⟩) (v := ?qarmv4x5) rfl (by kernel_rfl) (by kernel_rfl) (by kernel_rfl) (fun _ _ _ h => h) (Or.inl ⟨by rfl, ?qarmy4x5⟩) (by assumption) ?qarmr4x5
          case qarmy4x5 => intro w hSw; go_simp; try (with_reducible rfl)
          try simp only [Act.put, List.setIfInBounds_toArray, List.set_cons_zero, List.set_cons_succ]
          refine wpAnyH_take (i := 5) (oi := ⟨some 43, _, _, _, _, _⟩) (v := ?qarmv5x6) rfl (by kernel_rfl) (by kernel_rfl) (by kernel_rfl) (fun _ _ _ h => h) (Or.inl ⟨by rfl, ?qarmy5x6⟩) (by assumption) ?qarmr5x6
          case qarmy5x6 => intro w hSw; go_simp; try (with_reducible rfl)
          try simp only [Act.put, List.setIfInBounds_toArray, List.set_cons_zero, List.set_cons_succ]
          refine wpAnyH_take (i := 6) (oi := ⟨some 44, _, _, _, _, _⟩) (v := ?qarmv6x7) rfl (by kernel_rfl) (by kernel_rfl) (by kernel_rfl) (fun _ _ _ h => h) (Or.inl ⟨by rfl, ?qarmy6x7⟩) (by assumption) ?qarmr6x7
          case qarmy6x7 => intro w hSw; go_simp; try (with_reducible rfl)
          try simp only [Act.put, List.setIfInBounds_toArray, List.set_cons_zero, List.set_cons_succ]
          refine wpAnyH_take (i := 7) (oi := ⟨some 45, _, _, _, _, _⟩) (v := ?qarmv7x8) rfl (by kernel_rfl) (by kernel_rfl) (by kernel_rfl) (fun _ _ _ h => h) (Or.inl ⟨by rfl, ?qarmy7x8⟩) (by assumption) ?qarmr7x8
          case qarmy7x8 => intro w hSw; go_simp; try (with_reducible rfl)
          try simp only [Act.put, List.setIfInBounds_toArray, List.set_cons_zero, List.set_cons_succ]
          refine wpAnyH_take (i := 8) (oi := ⟨some 46, _, _, _, _, _⟩) (v := ?qarmv8x9) rfl (by kernel_rfl) (by kernel_rfl) (by kernel_rfl) (fun _ _ _ h => h) (Or.inl ⟨by rfl, ?qarmy8x9⟩) (by assumption) ?qarmr8x9
          case qarmy8x9 => intro w hSw; go_simp; try (with_reducible rfl)
          try simp only [Act.put, List.setIfInBounds_toArray, List.set_cons_zero, List.set_cons_succ]
          refine wpAnyH_take (i := 9) (oi := ⟨some 47, _, _, _, _, _⟩) (v := ?qarmv9x10) rfl (by kernel_rfl) (by kernel_rfl) (by kernel_rfl) (fun _ _ _ h => h) (Or.inl ⟨by rfl, ?qarmy9x10⟩) (by assumption) ?qarmr9x10
          case qarmy9x10 => intro w hSw; go_simp; try (with_reducible rfl)
          try simp only [Act.put, List.setIfInBounds_toArray, List.set_cons_zero, List.set_cons_succ]
          refine wpAnyH_take (i := 10) (oi := ⟨some 48, _, _, _, _, _⟩) (v := ?qarmv10x11) rfl (by kernel_rfl) (by kernel_rfl) (by kernel_rfl) (fun _ _ _ h => h) (Or.inl ⟨by rfl, ?qarmy10x11⟩) (by assumption) ?qarmr10x11
          case qarmy10x11 => intro w hSw; go_simp; try (with_reducible rfl)
          try simp only [Act.put, List.setIfInBounds_toArray, List.set_cons_zero, List.set_cons_succ]
          refine wpAnyH_take (i := 11) (oi := ⟨some 49, _, _, _, _, _⟩) (v := ?qarmv11x12) rfl (by kernel_rfl) (by kernel_rfl) (by kernel_rfl) (fun _ _ _ h => h) (Or.inl ⟨by rfl, ?qarmy11x12⟩) (by assumption) ?qarmr11x12
          case qarmy11x12 => intro w hSw; go_simp; try (with_reducible rfl)
          try simp only [Act.put, List.setIfInBounds_toArray, List.set_cons_zero, List.set_cons_succ]
          refine wpAnyH_take (i := 12) (oi := ⟨some 50, _, _, _, _, _⟩) (v := ?qarmv12x13) rfl (by kernel_rfl) (by kernel_rfl) (by kernel_rfl) (fun _ _ _ h => h) (Or.inl ⟨by rfl, ?qarmy12x13⟩) (by assumption) ?qarmr12x13
          case qarmy12x13 => intro w hSw; go_simp; try (with_reducible rfl)
          try simp only [Act.put, List.setIfInBounds_toArray, List.set_cons_zero, List.set_cons_succ]
          refine wpAnyH_take (i := 13) (oi := ⟨some 51, _, _, _, _, _⟩) (v := ?qarmv13x14) rfl (by kernel_rfl) (by kernel_rfl) (by kernel_rfl) (fun _ _ _ h => h) (Or.inl ⟨by rfl, ?qarmy13x14⟩) (by assumption) ?qarmr13x14
          case qarmy13x14 => intro w hSw; go_simp; try (with_reducible rfl)
          try simp only [Act.put, List.setIfInBounds_toArray, List.set_cons_zero, List.set_cons_succ]
          refine wpAnyH_ready (rs := [14]) (by kernel_rfl) (by simp) ?_
          refine AllReadyH.cons (o := ⟨some 52, _, _, _, _, _⟩) rfl (fun K hK => ?_) AllReadyH.nil
          go_simp
          refine hK.out _ _ ?_ (fun hHeld => ?_)
          · exact hnx.drew.alloc hnx.size _
          clear hK K
          try simp only [Act.put, List.setIfInBounds_toArray, List.set_cons_zero, List.set_cons_succ]
          refine wpAnyH_ready (rs := [15]) (by kernel_rfl) (by simp) ?_
          refine AllReadyH.cons (o := ⟨some 53, _, _, _, _, _⟩) rfl (fun K hK => ?_) AllReadyH.nil
          refine step_append _ rfl (.tmp 38) (.tmp 52) 34 rfl w1.heap.size 30 i0 _ 3 48 Tryd.underlying34 hi hz0 hz1 hz2 rfl (by omega) _ _ _ rfl (hown.drew.alloc _) (wr.heap.size + 1) (some ⟨wr.heap.size, 0, none⟩) 1 1 (callVals (⟨p.1.name, p.1.arm, p.1.params⟩, p.2)) rfl (lies_fresh 1 3 rfl rfl) (callVals_one' _) (by unfold maxLen; omega) (by omega) (by have := hnx.size; simp; omega) ?_
          intro v' w' hown3 hg3
          have hnx3 : Below w1.heap.size w1 w' := below_grown (hnx.drew.alloc hnx.size _) ((hown.drew).alloc _) (Nat.le_refl _) (by have := hnx.size; simp; omega) hg3
          refine hK.out _ _ ?_ (fun hHeld => ?_)
          · exact hnx3
          clear hK K
          try simp only [Act.put, List.setIfInBounds_toArray, List.set_cons_zero, List.set_cons_succ]
          refine wpAnyH_take (i := 16) (oi := ⟨some 3, _, _, _, _, _⟩) (v := ?qarmv16x15) rfl (by kernel_rfl) (by kernel_rfl) (by kernel_rfl) (fun _ _ _ h => h) (Or.inl ⟨by rfl, ?qarmy16x15⟩) (by assumption) ?qarmr16x15
          case qarmy16x15 => intro w hSw; go_simp; try (with_reducible rfl)
          try simp only [Act.put, List.setIfInBounds_toArray, List.set_cons_zero, List.set_cons_succ]
          refine wpAnyH_done (by kernel_rfl) ?_ _
          refine NoPanic.normal ?_
          have hown4 : w'.ownsRow w1.heap.size 30 3 v' (pickTo S (ps.take (k + 1))).length ((pickTo S (ps.take (k + 1))).flatMap callVals) := by
            rw [HI.out, List.length_append, List.flatMap_append]
            exact hown3
          clear hg3 hown hown3 hnx hF0 hF1
          go_wp2
          go_roundw
          case rel => exact ⟨k + 1, by omega, by go_num, hown4, hnx3⟩
          case measure => simp [intOf]; omega
        · have HO := Lib.hid (HOUT.out hn)
          clear HIN HOUT
          go_wp2
          go_roundw
          case rel => exact ⟨k + 1, by omega, by go_num, by rw [HO.out]; exact hown, hnx⟩
          case measure => simp [intOf]; omega
      · have hs : selOf S p.1 = p.1.x86 := sel_x86 h p.1
        rw [hs] at HIN HOUT
        clear h hs
        unfold armB at b1
        unfold x86B at b2
        by_cases hn : 0 ≤ p.1.x86
        · have HI := Lib.hid (HIN.out hn)
          have n0 : IntKind.u32.wrap p.1.x86 = p.1.x86 := by rw [IntKind.wrap_u32]; omega
          clear HIN HOUT
          go_wp2_with fail
          refine wp_region_noPanic ?_
          refine wp_region_held_drew (S := fun W => Below w1.heap.size w1 W) (by kernel_rfl) (hnx.drew) (fun hHeld => ?_)
          refine wpAnyH_take (i := 0) (oi := ⟨some 38, _, _, _, _, _⟩) (v := ?qx86v0x1) rfl (by kernel_rfl) (by kernel_rfl) (by kernel_rfl) (fun _ _ _ h => h) (Or.inl ⟨by rfl, ?qx86y0x1⟩) (by assumption) ?qx86r0x1
          case qx86y0x1 => intro w hSw; go_simp; try (with_reducible rfl)
          try simp only [Act.put, List.setIfInBounds_toArray, List.set_cons_zero, List.set_cons_succ]
          refine wpAnyH_take (i := 1) (oi := ⟨some 39, _, _, _, _, _⟩) (v := ?qx86v1x2) rfl (by kernel_rfl) (by kernel_rfl) (by kernel_rfl) (fun _ _ _ h => h) (Or.inl ⟨by rfl, ?qx86y1x2⟩) (by assumption) ?qx86r1x2
          case qx86y1x2 => intro w hSw; go_simp; try (with_reducible rfl)
          try simp only [Act.put, List.setIfInBounds_toArray, List.set_cons_zero, List.set_cons_succ]
          refine wpAnyH_take (i := 2) (oi := ⟨some 40, _, _, _, _, _⟩) (v := ?qx86v2x3) rfl (by kernel_rfl) (by kernel_rfl) (by kernel_rfl) (fun _ _ _ h => h) (Or.inl ⟨by rfl, ?qx86y2x3⟩) (by assumption) ?qx86r2x3
          case qx86y2x3 => intro w hSw; go_simp; try (with_reducible rfl)
          try simp only [Act.put, List.setIfInBounds_toArray, List.set_cons_zero, List.set_cons_succ]
          refine wpAnyH_take (i := 3) (oi := ⟨some 41, _, _, _, _, _⟩) (v := ?qx86v3x4) rfl (by kernel_rfl) (by kernel_rfl) (by kernel_rfl) (fun _ _ _ h => h) (Or.inl ⟨by rfl, ?qx86y3x4⟩) (by assumption) ?qx86r3x4
          case qx86y3x4 => intro w hSw; go_simp; try (with_reducible rfl)
          try simp only [Act.put, List.setIfInBounds_toArray, List.set_cons_zero, List.set_cons_succ]
          refine wpAnyH_take (i := 4) (oi := ⟨some 42, _, _, _, _, _⟩) (v := ?qx86v4x5) rfl (by kernel_rfl) (by kernel_rfl) (by kernel_rfl) (fun _ _ _ h => h) (Or.inl ⟨by rfl, ?qx86y4x5⟩) (by assumption) ?qx86r4x5
          case qx86y4x5 => intro w hSw; go_simp; try (with_reducible rfl)
          try simp only [Act.put, List.setIfInBounds_toArray, List.set_cons_zero, List.set_cons_succ]
          refine wpAnyH_take (i := 5) (oi := ⟨some 43, _, _, _, _, _⟩) (v := ?qx86v5x6) rfl (by kernel_rfl) (by kernel_rfl) (by kernel_rfl) (fun _ _ _ h => h) (Or.inl ⟨by rfl, ?qx86y5x6⟩) (by assumption) ?qx86r5x6
          case qx86y5x6 => intro w hSw; go_simp; try (with_reducible rfl)
          try simp only [Act.put, List.setIfInBounds_toArray, List.set_cons_zero, List.set_cons_succ]
          refine wpAnyH_take (i := 6) (oi := ⟨some 44, _, _, _, _, _⟩) (v := ?qx86v6x7) rfl (by kernel_rfl) (by kernel_rfl) (by kernel_rfl) (fun _ _ _ h => h) (Or.inl ⟨by rfl, ?qx86y6x7⟩) (by assumption) ?qx86r6x7
          case qx86y6x7 => intro w hSw; go_simp; try (with_reducible rfl)
          try simp only [Act.put, List.setIfInBounds_toArray, List.set_cons_zero, List.set_cons_succ]
          refine wpAnyH_take (i := 7) (oi := ⟨some 45, _, _, _, _, _⟩) (v := ?qx86v7x8) rfl (by kernel_rfl) (by kernel_rfl) (by kernel_rfl) (fun _ _ _ h => h) (Or.inl ⟨by rfl, ?qx86y7x8⟩) (by assumption) ?qx86r7x8
          case qx86y7x8 => intro w hSw; go_simp; try (with_reducible rfl)
          try simp only [Act.put, List.setIfInBounds_toArray, List.set_cons_zero, List.set_cons_succ]
          refine wpAnyH_take (i := 8) (oi := ⟨some 46, _, _, _, _, _⟩) (v := ?qx86v8x9) rfl (by kernel_rfl) (by kernel_rfl) (by kernel_rfl) (fun _ _ _ h => h) (Or.inl ⟨by rfl, ?qx86y8x9⟩) (by assumption) ?qx86r8x9
          case qx86y8x9 => intro w hSw; go_simp; try (with_reducible rfl)
          try simp only [Act.put, List.setIfInBounds_toArray, List.set_cons_zero, List.set_cons_succ]
          refine wpAnyH_take (i := 9) (oi := ⟨some 47, _, _, _, _, _⟩) (v := ?qx86v9x10) rfl (by kernel_rfl) (by kernel_rfl) (by kernel_rfl) (fun _ _ _ h => h) (Or.inl ⟨by rfl, ?qx86y9x10⟩) (by assumption) ?qx86r9x10
          case qx86y9x10 => intro w hSw; go_simp; try (with_reducible rfl)
          try simp only [Act.put, List.setIfInBounds_toArray, List.set_cons_zero, List.set_cons_succ]
          refine wpAnyH_take (i := 10) (oi := ⟨some 48, _, _, _, _, _⟩) (v := ?qx86v10x11) rfl (by kernel_rfl) (by kernel_rfl) (by kernel_rfl) (fun _ _ _ h => h) (Or.inl ⟨by rfl, ?qx86y10x11⟩) (by assumption) ?qx86r10x11
          case qx86y10x11 => intro w hSw; go_simp; try (with_reducible rfl)
          try simp only [Act.put, List.setIfInBounds_toArray, List.set_cons_zero, List.set_cons_succ]
          refine wpAnyH_take (i := 11) (oi := ⟨some 49, _, _, _, _, _⟩) (v := ?qx86v11x12) rfl (by kernel_rfl) (by kernel_rfl) (by kernel_rfl) (fun _ _ _ h => h) (Or.inl ⟨by rfl, ?qx86y11x12⟩) (by assumption) ?qx86r11x12
          case qx86y11x12 => intro w hSw; go_simp; try (with_reducible rfl)
          try simp only [Act.put, List.setIfInBounds_toArray, List.set_cons_zero, List.set_cons_succ]
          refine wpAnyH_take (i := 12) (oi := ⟨some 50, _, _, _, _, _⟩) (v := ?qx86v12x13) rfl (by kernel_rfl) (by kernel_rfl) (by kernel_rfl) (fun _ _ _ h => h) (Or.inl ⟨by rfl, ?qx86y12x13⟩) (by assumption) ?qx86r12x13
          case qx86y12x13 => intro w hSw; go_simp; try (with_reducible rfl)
          try simp only [Act.put, List.setIfInBounds_toArray, List.set_cons_zero, List.set_cons_succ]
          refine wpAnyH_take (i := 13) (oi := ⟨some 51, _, _, _, _, _⟩) (v := ?qx86v13x14) rfl (by kernel_rfl) (by kernel_rfl) (by kernel_rfl) (fun _ _ _ h => h) (Or.inl ⟨by rfl, ?qx86y13x14⟩) (by assumption) ?qx86r13x14
          case qx86y13x14 => intro w hSw; go_simp; try (with_reducible rfl)
          try simp only [Act.put, List.setIfInBounds_toArray, List.set_cons_zero, List.set_cons_succ]
          refine wpAnyH_ready (rs := [14]) (by kernel_rfl) (by simp) ?_
          refine AllReadyH.cons (o := ⟨some 52, _, _, _, _, _⟩) rfl (fun K hK => ?_) AllReadyH.nil
          go_simp
          refine hK.out _ _ ?_ (fun hHeld => ?_)
          · exact hnx.drew.alloc hnx.size _
          clear hK K
          try simp only [Act.put, List.setIfInBounds_toArray, List.set_cons_zero, List.set_cons_succ]
          refine wpAnyH_ready (rs := [15]) (by kernel_rfl) (by simp) ?_
          refine AllReadyH.cons (o := ⟨some 53, _, _, _, _, _⟩) rfl (fun K hK => ?_) AllReadyH.nil
          refine step_append _ rfl (.tmp 38) (.tmp 52) 34 rfl w1.heap.size 30 i0 _ 3 48 Tryd.underlying34 hi hz0 hz1 hz2 rfl (by omega) _ _ _ rfl (hown.drew.alloc _) (wr.heap.size + 1) (some ⟨wr.heap.size, 0, none⟩) 1 1 (callVals (⟨p.1.name, p.1.x86, p.1.params⟩, p.2)) rfl (lies_fresh 1 3 rfl rfl) (callVals_one' _) (by unfold maxLen; omega) (by omega) (by have := hnx.size; simp; omega) ?_
          intro v' w' hown3 hg3
          have hnx3 : Below w1.heap.size w1 w' := below_grown (hnx.drew.alloc hnx.size _) ((hown.drew).alloc _) (Nat.le_refl _) (by have := hnx.size; simp; omega) hg3
          refine hK.out _ _ ?_ (fun hHeld => ?_)
          · exact hnx3
          clear hK K
          try simp only [Act.put, List.setIfInBounds_toArray, List.set_cons_zero, List.set_cons_succ]
          refine wpAnyH_take (i := 16) (oi := ⟨some 3, _, _, _, _, _⟩) (v := ?qx86v16x15) rfl (by kernel_rfl) (by kernel_rfl) (by kernel_rfl) (fun _ _ _ h => h) (Or.inl ⟨by rfl, ?qx86y16x15⟩) (by assumption) ?qx86r16x15
          case qx86y16x15 => intro w hSw; go_simp; try (with_reducible rfl)
          try simp only [Act.put, List.setIfInBounds_toArray, List.set_cons_zero, List.set_cons_succ]
          refine wpAnyH_done (by kernel_rfl) ?_ _
          refine NoPanic.normal ?_
          have hown4 : w'.ownsRow w1.heap.size 30 3 v' (pickTo S (ps.take (k + 1))).length ((pickTo S (ps.take (k + 1))).flatMap callVals) := by
            rw [HI.out, List.length_append, List.flatMap_append]
            exact hown3
          clear hg3 hown hown3 hnx hF0 hF1
          go_wp2
          go_roundw
          case rel => exact ⟨k + 1, by omega, by go_num, hown4, hnx3⟩
          case measure => simp [intOf]; omega
        · have HO := Lib.hid (HOUT.out hn)
          clear HIN HOUT
          go_wp2
          go_roundw
          case rel => exact ⟨k + 1, by omega, by go_num, by rw [HO.out]; exact hown, hnx⟩
          case measure => simp [intOf]; omega
      · have hs : selOf S p.1 = p.1.amd := sel_amd h p.1
        rw [hs] at HIN HOUT
        clear h hs
        unfold armB at b1
        unfold x86B at b2
        unfold amdB at b3
        by_cases hn : 0 ≤ p.1.amd
        · have HI := Lib.hid (HIN.out hn)
          have n0 : IntKind.u32.wrap p.1.amd = p.1.amd := by rw [IntKind.wrap_u32]; omega
          clear HIN HOUT
          go_wp2_with fail
          refine wp_region_noPanic ?_
          refine wp_region_held_drew (S := fun W => Below w1.heap.size w1 W) (by kernel_rfl) (hnx.drew) (fun hHeld => ?_)
          refine wpAnyH_take (i := 0) (oi := ⟨some 38, _, _, _, _, _⟩) (v := ?qamdv0x1) rfl (by kernel_rfl) (by kernel_rfl) (by kernel_rfl) (fun _ _ _ h => h) (Or.inl ⟨by rfl, ?qamdy0x1⟩) (by assumption) ?qamdr0x1
          case qamdy0x1 => intro w hSw; go_simp; try (with_reducible rfl)
          try simp only [Act.put, List.setIfInBounds_toArray, List.set_cons_zero, List.set_cons_succ]
          refine wpAnyH_take (i := 1) (oi := ⟨some 39, _, _, _, _, _⟩) (v := ?qamdv1x2) rfl (by kernel_rfl) (by kernel_rfl) (by kernel_rfl) (fun _ _ _ h => h) (Or.inl ⟨by rfl, ?qamdy1x2⟩) (by assumption) ?qamdr1x2
          case qamdy1x2 => intro w hSw; go_simp; try (with_reducible rfl)
          try simp only [Act.put, List.setIfInBounds_toArray, List.set_cons_zero, List.set_cons_succ]
          refine wpAnyH_take (i := 2) (oi := ⟨some 40, _, _, _, _, _⟩) (v := ?qamdv2x3) rfl (by kernel_rfl) (by kernel_rfl) (by kernel_rfl) (fun _ _ _ h => h) (Or.inl ⟨by rfl, ?qamdy2x3⟩) (by assumption) ?qamdr2x3
          case qamdy2x3 => intro w hSw; go_simp; try (with_reducible rfl)
          try simp only [Act.put, List.setIfInBounds_toArray, List.set_cons_zero, List.set_cons_succ]
          refine wpAnyH_take (i := 3) (oi := ⟨some 41, _, _, _, _, _⟩) (v := ?qamdv3x4) rfl (by kernel_rfl) (by kernel_rfl) (by kernel_rfl) (fun _ _ _ h => h) (Or.inl ⟨by rfl, ?qamdy3x4⟩) (by assumption) ?qamdr3x4
          case qamdy3x4 => intro w hSw; go_simp; try (with_reducible rfl)
          try simp only [Act.put, List.setIfInBounds_toArray, List.set_cons_zero, List.set_cons_succ]
          refine wpAnyH_take (i := 4) (oi := ⟨some 42, _, _, _, _, _⟩) (v := ?qamdv4x5) rfl (by kernel_rfl) (by kernel_rfl) (by kernel_rfl) (fun _ _ _ h => h) (Or.inl ⟨by rfl, ?qamdy4x5⟩) (by assumption) ?qamdr4x5
          case qamdy4x5 => intro w hSw; go_simp; try (with_reducible rfl)
          try simp only [Act.put, List.setIfInBounds_toArray, List.set_cons_zero, List.set_cons_succ]
          refine wpAnyH_take (i := 5) (oi := ⟨some 43, _, _, _, _, _⟩) (v := ?qamdv5x6) rfl (by kernel_rfl) (by kernel_rfl) (by kernel_rfl) (fun _ _ _ h => h) (Or.inl ⟨by rfl, ?qamdy5x6⟩) (by assumption) ?qamdr5x6
          case qamdy5x6 => intro w hSw; go_simp; try (with_reducible rfl)
          try simp only [Act.put, List.setIfInBounds_toArray, List.set_cons_zero, List.set_cons_succ]
          refine wpAnyH_take (i := 6) (oi := ⟨some 44, _, _, _, _, _⟩) (v := ?qamdv6x7) rfl (by kernel_rfl) (by kernel_rfl) (by kernel_rfl) (fun _ _ _ h => h) (Or.inl ⟨by rfl, ?qamdy6x7⟩) (by assumption) ?qamdr6x7
          case qamdy6x7 => intro w hSw; go_simp; try (with_reducible rfl)
          try simp only [Act.put, List.setIfInBounds_toArray, List.set_cons_zero, List.set_cons_succ]
          refine wpAnyH_take (i := 7) (oi := ⟨some 45, _, _, _, _, _⟩) (v := ?qamdv7x8) rfl (by kernel_rfl) (by kernel_rfl) (by kernel_rfl) (fun _ _ _ h => h) (Or.inl ⟨by rfl, ?qamdy7x8⟩) (by assumption) ?qamdr7x8
          case qamdy7x8 => intro w hSw; go_simp; try (with_reducible rfl)
          try simp only [Act.put, List.setIfInBounds_toArray, List.set_cons_zero, List.set_cons_succ]
          refine wpAnyH_take (i := 8) (oi := ⟨some 46, _, _, _, _, _⟩) (v := ?qamdv8x9) rfl (by kernel_rfl) (by kernel_rfl) (by kernel_rfl) (fun _ _ _ h => h) (Or.inl ⟨by rfl, ?qamdy8x9⟩) (by assumption) ?qamdr8x9
          case qamdy8x9 => intro w hSw; go_simp; try (with_reducible rfl)
          try simp only [Act.put, List.setIfInBounds_toArray, List.set_cons_zero, List.set_cons_succ]
          refine wpAnyH_take (i := 9) (oi := ⟨some 47, _, _, _, _, _⟩) (v := ?qamdv9x10) rfl (by kernel_rfl) (by kernel_rfl) (by kernel_rfl) (fun _ _ _ h => h) (Or.inl ⟨by rfl, ?qamdy9x10⟩) (by assumption) ?qamdr9x10
          case qamdy9x10 => intro w hSw; go_simp; try (with_reducible rfl)
          try simp only [Act.put, List.setIfInBounds_toArray, List.set_cons_zero, List.set_cons_succ]
          refine wpAnyH_take (i := 10) (oi := ⟨some 48, _, _, _, _, _⟩) (v := ?qamdv10x11) rfl (by kernel_rfl) (by kernel_rfl) (by kernel_rfl) (fun _ _ _ h => h) (Or.inl ⟨by rfl, ?qamdy10x11⟩) (by assumption) ?qamdr10x11
          case qamdy10x11 => intro w hSw; go_simp; try (with_reducible rfl)
          try simp only [Act.put, List.setIfInBounds_toArray, List.set_cons_zero, List.set_cons_succ]
          refine wpAnyH_take (i := 11) (oi := ⟨some 49, _, _, _, _, _⟩) (v := ?qamdv11x12) rfl (by kernel_rfl) (by kernel_rfl) (by kernel_rfl) (fun _ _ _ h => h) (Or.inl ⟨by rfl, ?qamdy11x12⟩) (by assumption) ?qamdr11x12
          case qamdy11x12 => intro w hSw; go_simp; try (with_reducible rfl)
          try simp only [Act.put, List.setIfInBounds_toArray, List.set_cons_zero, List.set_cons_succ]
          refine wpAnyH_take (i := 12) (oi := ⟨some 50, _, _, _, _, _⟩) (v := ?qamdv12x13) rfl (by kernel_rfl) (by kernel_rfl) (by kernel_rfl) (fun _ _ _ h => h) (Or.inl ⟨by rfl, ?qamdy12x13⟩) (by assumption) ?qamdr12x13
          case qamdy12x13 => intro w hSw; go_simp; try (with_reducible rfl)
          try simp only [Act.put, List.setIfInBounds_toArray, List.set_cons_zero, List.set_cons_succ]
          refine wpAnyH_take (i := 13) (oi := ⟨some 51, _, _, _, _, _⟩) (v := ?qamdv13x14) rfl (by kernel_rfl) (by kernel_rfl) (by kernel_rfl) (fun _ _ _ h => h) (Or.inl ⟨by rfl, ?qamdy13x14⟩) (by assumption) ?qamdr13x14
          case qamdy13x14 => intro w hSw; go_simp; try (with_reducible rfl)
          try simp only [Act.put, List.setIfInBounds_toArray, List.set_cons_zero, List.set_cons_succ]
          refine wpAnyH_ready (rs := [14]) (by kernel_rfl) (by simp) ?_
          refine AllReadyH.cons (o := ⟨some 52, _, _, _, _, _⟩) rfl (fun K hK => ?_) AllReadyH.nil
          go_simp
          refine hK.out _ _ ?_ (fun hHeld => ?_)
          · exact hnx.drew.alloc hnx.size _
          clear hK K
          try simp only [Act.put, List.setIfInBounds_toArray, List.set_cons_zero, List.set_cons_succ]
          refine wpAnyH_ready (rs := [15]) (by kernel_rfl) (by simp) ?_
          refine AllReadyH.cons (o := ⟨some 53, _, _, _, _, _⟩) rfl (fun K hK => ?_) AllReadyH.nil
          refine step_append _ rfl (.tmp 38) (.tmp 52) 34 rfl w1.heap.size 30 i0 _ 3 48 Tryd.underlying34 hi hz0 hz1 hz2 rfl (by omega) _ _ _ rfl (hown.drew.alloc _) (wr.heap.size + 1) (some ⟨wr.heap.size, 0, none⟩) 1 1 (callVals (⟨p.1.name, p.1.amd, p.1.params⟩, p.2)) rfl (lies_fresh 1 3 rfl rfl) (callVals_one' _) (by unfold maxLen; omega) (by omega) (by have := hnx.size; simp; omega) ?_
          intro v' w' hown3 hg3
          have hnx3 : Below w1.heap.size w1 w' := below_grown (hnx.drew.alloc hnx.size _) ((hown.drew).alloc _) (Nat.le_refl _) (by have := hnx.size; simp; omega) hg3
          refine hK.out _ _ ?_ (fun hHeld => ?_)
          · exact hnx3
          clear hK K
          try simp only [Act.put, List.setIfInBounds_toArray, List.set_cons_zero, List.set_cons_succ]
          refine wpAnyH_take (i := 16) (oi := ⟨some 3, _, _, _, _, _⟩) (v := ?qamdv16x15) rfl (by kernel_rfl) (by kernel_rfl) (by kernel_rfl) (fun _ _ _ h => h) (Or.inl ⟨by rfl, ?qamdy16x15⟩) (by assumption) ?qamdr16x15
          case qamdy16x15 => intro w hSw; go_simp; try (with_reducible rfl)
          try simp only [Act.put, List.setIfInBounds_toArray, List.set_cons_zero, List.set_cons_succ]
          refine wpAnyH_done (by kernel_rfl) ?_ _
          refine NoPanic.normal ?_
          have hown4 : w'.ownsRow w1.heap.size 30 3 v' (pickTo S (ps.take (k + 1))).length ((pickTo S (ps.take (k + 1))).flatMap callVals) := by
            rw [HI.out, List.length_append, List.flatMap_append]
            exact hown3
          clear hg3 hown hown3 hnx hF0 hF1
          go_wp2
          go_roundw
          case rel => exact ⟨k + 1, by omega, by go_num, hown4, hnx3⟩
          case measure => simp [intOf]; omega
        · have HO := Lib.hid (HOUT.out hn)
          clear HIN HOUT
          go_wp2
          go_roundw
          case rel => exact ⟨k + 1, by omega, by go_num, by rw [HO.out]; exact hown, hnx⟩
          case measure => simp [intOf]; omega
      · have HO := Lib.hid (HOUT.out (by rw [sel_none h1 h2 h3]; decide))
        clear HIN HOUT h1 h2 h3
        unfold armB at b1
        unfold x86B at b2
        unfold amdB at b3
        go_wp2
        go_roundw
        case rel => exact ⟨k + 1, by omega, by go_num, by rw [HO.out]; exact hown, hnx⟩
        case measure => simp [intOf]; omega
    · obtain rfl : k = 17 := by omega
      have hall : ps.take 17 = ps := List.take_of_length_le (by have := HPL.out; omega)
      rw [hall] at hown
      have hfst := pick_fst S ps
      rw [HPS.out] at hfst
      have hlen : (callsOf S).length = (pickTo S ps).length := by
        have := congrArg List.length hfst
        rw [List.length_map] at this
        exact this.symm
      obtain ⟨A2, c2, rfl, hc2, hl2⟩ := own_form hown
      have HC : Hid (CallsLie wr wr.heap.size A2 (pickTo S ps).length (pickTo S ps)) := ⟨hl2, fun q hq => by
        obtain ⟨p, hp, e1, e2⟩ := pick_mem hq
        obtain ⟨h1, h2⟩ := HRL.out.2 p hp
        unfold ParamsLie
        rw [e1, e2]
        exact ⟨(h1.below hnx).wider hnx.size, h2⟩⟩
      have HL := Lib.hid hlen
      have HF := Lib.hid hfst
      clear hlen hfst hown hl2 hall
      go_wp2
      go_ret
      refine ⟨A2, c2, pickTo S ps, ?_, ?_, HF.out, ?_, below_step HB1.out (Nat.le_refl _) hnx⟩
      · rw [HL.out]
        rfl
      · rw [HL.out]
        exact hc2
      · rw [HL.out]
        exact HC.out

end Go.Proofs.YtbibliakakjkiaaDoor
