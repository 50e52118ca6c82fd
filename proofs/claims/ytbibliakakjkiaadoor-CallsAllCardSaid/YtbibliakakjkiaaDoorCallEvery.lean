/- The walk of CallsAll, given the landed code's contract. -/
import Derived.Test.YtbibliakakjkiaaDoorCallFace
import Derived.Deep.DeepCutAuto
import Derived.Deep.CutBlock
import Derived.Laws.Cover1
namespace Go.Proofs.YtbibliakakjkiaaDoor
open Go.RowKit

/-- What holds of an architecture's calls. -/
structure Neat (S : List UInt8) (l : List CallV) : Prop where
  found : ∀ i, i < l.length → findOf S (l.getD i noCall).name = (l.getD i noCall, true)
  less : ∀ i, i < l.length → ∀ j, j < i → j + 1 = i → Op.bytesLess (l.getD i noCall).name (l.getD j noCall).name = false
  unlike : ∀ i, i < l.length → ∀ j, j < i → j + 1 = i → ((l.getD i noCall).name == (l.getD j noCall).name) = false
  nrs : ∀ i, i < l.length → ∀ j, j < i → ((l.getD j noCall).nr == (l.getD i noCall).nr) = false
  six : ∀ i, i < l.length → (l.getD i noCall).params.length ≤ 6
  many : 16 ≤ l.length
  few : l.length ≤ 17

theorem neat_arm : Neat armB (callsOf armB) := ⟨by decide +kernel, by decide +kernel, by decide +kernel, by decide +kernel, by decide +kernel, by decide +kernel, by decide +kernel⟩
theorem neat_x86 : Neat x86B (callsOf x86B) := ⟨by decide +kernel, by decide +kernel, by decide +kernel, by decide +kernel, by decide +kernel, by decide +kernel, by decide +kernel⟩
theorem neat_amd : Neat amdB (callsOf amdB) := ⟨by decide +kernel, by decide +kernel, by decide +kernel, by decide +kernel, by decide +kernel, by decide +kernel, by decide +kernel⟩

theorem order1 : Op.bytesLess (strOf armB).toList (strOf x86B).toList = true := by rw [strOf_toList, strOf_toList]; decide +kernel
theorem order2 : Op.bytesLess (strOf x86B).toList (strOf amdB).toList = true := by rw [strOf_toList, strOf_toList]; decide +kernel

variable {L0 : World → Prop}

set_option maxRecDepth 100000 in
set_option maxHeartbeats 4000000 in
theorem kall_in (R : CallSays L0) (m : Nat) (S : List UInt8) (w : World) (hw0 : L0 w) (hm : m < 3) (hS : [armB, x86B, amdB][m]? = some S) (hN : Neat S (callsOf S)) (hs : S.length ≤ 50) (hw : ∀ c ∈ callsOf S, ∀ x ∈ c.params, x ≠ []) (hz : ∀ c ∈ callsOf S, c.name.length ≤ 50) :
    Calls Tryd.prog 4 #[.int .i64 m] w fun e w' => e = .returned (.bool true) ∧ Below w.heap.size w w' := by
  have HALL : Hid (∀ W : World, Below w.heap.size w W → Calls Tryd.prog 13 #[.string (strOf S)] W (NewCalls (callsOf S) W)) := fun W hW => R.all (strOf S) W (R.keep w W hw0 hW) (by rw [strOf_size]; omega)
  have HFIND : Hid (∀ (c : CallV) (W : World), Below w.heap.size w W → c.name.length ≤ 50 → Calls Tryd.prog 9 #[.string (strOf S), .string (strOf c.name)] W (OneCall (findOf S c.name) W)) := fun c W hW hc => R.find (strOf S) (strOf c.name) W (R.keep w W hw0 hW) (by rw [strOf_size]; omega) (by rw [strOf_size]; omega)
  obtain ⟨L, hL⟩ : ∃ L, L = callsOf S := ⟨_, rfl⟩
  rw [← hL] at HALL hN hw hz
  have HNT := Lib.hid hN
  have HWD := Lib.hid hw
  have HZ := Lib.hid hz
  have hL16 := hN.many
  have hL17 := hN.few
  have HS3 := Lib.hid hS
  have o1 := order1
  have o2 := order2
  clear hL hN hw hz hS hs
  go_enter Tryd.func4, Tryd.ntmps4
  go_wp2_with fail
  refine (kalive_any R _ hw0).mono ?_
  rintro r w1 ⟨rfl, hb1⟩
  go_wp2_with fail
  refine (R.arches _).mono ?_
  rintro r w2 ⟨A, ac, rfl, hac, hal, hb2⟩
  have hn2 := below_step hb1 (Nat.le_refl _) hb2
  obtain ⟨ab, ao, rfl, hab, hcc⟩ := hal.2 (by omega)
  have HAR : Hid (∀ W : World, Below w2.heap.size w2 W → W.cell? ⟨ab, ao, none⟩ = some (.string (strOf armB)) ∧ W.cell? ⟨ab, ao + 1, none⟩ = some (.string (strOf x86B)) ∧ W.cell? ⟨ab, ao + 2, none⟩ = some (.string (strOf amdB)) ∧ W.cell? ⟨ab, ao + m, none⟩ = some (.string (strOf S))) := fun W hW =>
    ⟨(hW.cell (p := ⟨ab, ao, none⟩) hab).trans (hcc 0 _ rfl), (hW.cell (p := ⟨ab, ao + 1, none⟩) hab).trans (hcc 1 _ rfl), (hW.cell (p := ⟨ab, ao + 2, none⟩) hab).trans (hcc 2 _ rfl), (hW.cell (p := ⟨ab, ao + m, none⟩) hab).trans (hcc m _ (by rw [strsV, List.getElem?_map, HS3.out]; rfl))⟩
  obtain ⟨_, _, _, am⟩ := HAR.out w2 (Below.refl _ _)
  clear hb1 hb2 hal hcc
  have m3 : (m : Int) < 3 := by omega
  go_wp2_with fail
  refine (HALL.out _ hn2).mono ?_
  rintro r w3 ⟨B, bc, ps, rfl, hbc, hps, hbl, hb3⟩
  have hn3 := below_step hn2 (Nat.le_refl _) hb3
  have HB3 := Lib.hid hb3
  have HPS := Lib.hid hps
  have HBL := Lib.hid hbl
  have HN3 := Lib.hid hn3
  have hab3 : ab < w3.heap.size := Nat.lt_of_lt_of_le hab hb3.size
  have hpl : ps.length = L.length := by rw [← hps, List.length_map]
  have HPL := Lib.hid hpl
  clear hn2 hb3 hps hbl hn3 hpl am
  obtain ⟨M, hM⟩ : ∃ M, M = L.length := ⟨_, rfl⟩
  rw [← hM] at hL16 hL17 HBL HPL hbc ⊢
  have HLM : Hid (L.length = M) := hM.symm
  clear hM
  -- each call's cells, in any world behind
  have HCELL : Hid (∀ (j : Nat) (p : Placed), ps[j]? = some p → ∃ b o, B = some ⟨b, o, none⟩ ∧ b < w3.heap.size ∧ ∀ W : World, Below w3.heap.size w3 W → W.cell? ⟨b, o + j * 3, none⟩ = some (.string (strOf p.1.name)) ∧ W.cell? ⟨b, o + j * 3 + 1, none⟩ = some (.int .u32 p.1.nr) ∧ W.cell? ⟨b, o + j * 3 + 2, none⟩ = some (.slice p.2.1 p.1.params.length p.2.2)) := fun j p hp => by
    have hj := (List.getElem?_eq_some_iff.1 hp).1
    obtain ⟨a0, a1, a2⟩ := callVals_at ps j p hp
    obtain ⟨b, o, e, hb, hcc⟩ := HBL.out.1.2 (by omega)
    refine ⟨b, o, e, hb, fun W hW => ?_⟩
    have e1 := (hW.cell (p := ⟨b, o + (j * 3 + 1), none⟩) hb).trans (hcc _ _ a1)
    have e2 := (hW.cell (p := ⟨b, o + (j * 3 + 2), none⟩) hb).trans (hcc _ _ a2)
    rw [← Nat.add_assoc] at e1 e2
    exact ⟨(hW.cell (p := ⟨b, o + j * 3, none⟩) hb).trans (hcc _ _ a0), e1, e2⟩
  have HPI : Hid (∀ (j : Nat) (p : Placed), ps[j]? = some p → p.1 = L.getD j noCall ∧ p.1 ∈ L ∧ j < M) := fun j p hp => by
    have hj := (List.getElem?_eq_some_iff.1 hp).1
    have e1 : (ps.map Prod.fst)[j]? = some p.1 := by rw [List.getElem?_map, hp]; rfl
    rw [HPS.out] at e1
    exact ⟨by rw [List.getD, e1]; rfl, List.mem_of_getElem? e1, by have := HPL.out; omega⟩
  go_wp2_with fail
  go_loopw [6] (fun i wr => ∃ k : Nat, k ≤ M ∧ i = .int .i64 k ∧ Below w3.heap.size w3 wr) (fun i _ => M - (intOf i).toNat)
  case atStart => exact ⟨0, by omega, rfl, Below.refl _ _⟩
  case round =>
    obtain ⟨k, hk, rfl, hnx⟩ := hrel
    by_cases hlt : k < M
    · obtain ⟨p, hp⟩ : ∃ p, ps[k]? = some p := ⟨_, List.getElem?_eq_getElem (by have := HPL.out; omega)⟩
      obtain ⟨hpe, hpm, _⟩ := HPI.out k p hp
      have hp6 : p.1.params.length ≤ 6 := by rw [hpe]; exact HNT.out.six k (by have := HLM.out; omega)
      obtain ⟨b, o, rfl, hb, hce⟩ := HCELL.out k p hp
      have HCE := Lib.hid hce
      have HW : Hid (∀ x ∈ (p.1, (none : Option Addr), 0).1.params, x ≠ []) := HWD.out p.1 hpm
      have HFI : Hid (∀ W : World, Below w3.heap.size w3 W → Calls Tryd.prog 9 #[.string (strOf S), .string (strOf p.1.name)] W (OneCall (p.1, true) W)) := fun W hW => by
        have h1 := HFIND.out p.1 W (HN3.out.trans (hW.mono HN3.out.size)) (HZ.out p.1 hpm)
        rw [show findOf S p.1.name = (p.1, true) by rw [hpe]; exact HNT.out.found k (by have := HLM.out; omega)] at h1
        exact h1
      have HPP : Hid (∀ W : World, Below w3.heap.size w3 W → ParamsLie W W.heap.size (p.1, p.2.1, p.2.2)) := fun W hW => ((HBL.out.2 p (List.mem_of_getElem? hp)).below hW).wider hW.size
      have HP := Lib.hid hp
      have HPE := Lib.hid hpe
      have FA : ∀ W : World, Below w3.heap.size w3 W → W.cell? ⟨ab, ao + m, none⟩ = some (.string (strOf S)) := fun W hW => (HAR.out W (HB3.out.trans (hW.mono HB3.out.size))).2.2.2
      have F0 : ∀ W : World, Below w3.heap.size w3 W → W.cell? ⟨b, o + k * 3, none⟩ = some (.string (strOf p.1.name)) := fun W hW => (HCE.out W hW).1
      clear hce hp hpe hpm
      have kn : ((k : Int)).toNat = k := by omega
      have kM : (k : Int) < (M : Int) := by omega
      go_upto_region 9 with (fail)
      go_cut [7, 8] (fun v7 v8 wx => ∃ g7 P7 k7, v7 = .pointer (some ⟨g7, 0, none⟩) ∧ v8 = .bool true ∧ Box wx g7 30 #[.string (strOf p.1.name), .int .u32 p.1.nr, .slice P7 p.1.params.length k7] ∧ ParamsLie wx wx.heap.size (p.1, P7, k7) ∧ Below w3.heap.size w3 wx)
      case first =>
        refine wp_region_noPanic ?_
        refine wp_region_held_drew (S := fun W => Below w3.heap.size w3 W) (by kernel_rfl) (hnx.drew) (fun hHeld => ?_)
        refine wpAnyH_take (i := 0) (oi := ⟨some 37, _, _, _, _, _⟩) (v := ?zv0x1) rfl (by kernel_rfl) (by kernel_rfl) (by kernel_rfl) (fun _ _ _ h => h) (Or.inl ⟨by rfl, ?zy0x1⟩) (by assumption) ?zr0x1
        case zy0x1 => intro w hSw; go_simp; try (with_reducible rfl)
        try simp only [Act.put, List.setIfInBounds_toArray, List.set_cons_zero, List.set_cons_succ]
        refine wpAnyH_take (i := 1) (oi := ⟨some 38, _, _, _, _, _⟩) (v := ?zv1x2) rfl (by kernel_rfl) (by kernel_rfl) (by kernel_rfl) (fun _ _ _ h => h) (Or.inl ⟨by rfl, ?zy1x2⟩) (by assumption) ?zr1x2
        case zy1x2 => intro w hSw; go_simp; try (with_reducible rfl)
        try simp only [Act.put, List.setIfInBounds_toArray, List.set_cons_zero, List.set_cons_succ]
        refine wpAnyH_take (i := 2) (oi := ⟨some 39, _, _, _, _, _⟩) (v := ?zv2x3) rfl (by kernel_rfl) (by kernel_rfl) (by kernel_rfl) (fun _ _ _ h => h) (Or.inl ⟨by rfl, ?zy2x3⟩) (by assumption) ?zr2x3
        case zy2x3 => intro w hSw; go_simp; try (with_reducible rfl)
        try simp only [Act.put, List.setIfInBounds_toArray, List.set_cons_zero, List.set_cons_succ]
        refine wpAnyH_take (i := 3) (oi := ⟨some 40, _, _, _, _, _⟩) (v := ?zv3x4) rfl (by kernel_rfl) (by kernel_rfl) (by kernel_rfl) (fun _ _ _ h => h) (Or.inl ⟨by rfl, ?zy3x4⟩) (by assumption) ?zr3x4
        case zy3x4 => intro w hSw; go_simp; try (with_reducible rfl)
        try simp only [Act.put, List.setIfInBounds_toArray, List.set_cons_zero, List.set_cons_succ]
        refine wpAnyH_take (i := 4) (oi := ⟨some 41, _, _, _, _, _⟩) (v := ?zv4x5) rfl (by kernel_rfl) (by kernel_rfl) (by kernel_rfl) (fun _ _ _ h => h) (Or.inl ⟨by rfl, ?zy4x5⟩) (by assumption) ?zr4x5
        case zy4x5 => intro w hSw; go_simp; try (with_reducible rfl)
        try simp only [Act.put, List.setIfInBounds_toArray, List.set_cons_zero, List.set_cons_succ]
        refine wpAnyH_take (i := 5) (oi := ⟨some 42, _, _, _, _, _⟩) (v := ?zv5x6) rfl (by kernel_rfl) (by kernel_rfl) (by kernel_rfl) (fun _ _ _ h => h) (Or.inl ⟨by rfl, ?zy5x6⟩) (by assumption) ?zr5x6
        case zy5x6 => intro w hSw; go_simp; try (with_reducible rfl)
        try simp only [Act.put, List.setIfInBounds_toArray, List.set_cons_zero, List.set_cons_succ]
        refine wpAnyH_take (i := 6) (oi := ⟨some 43, _, _, _, _, _⟩) (v := ?zv6x7) rfl (by kernel_rfl) (by kernel_rfl) (by kernel_rfl) (fun _ _ _ h => h) (Or.inl ⟨by rfl, ?zy6x7⟩) (by assumption) ?zr6x7
        case zy6x7 => intro w hSw; go_simp; try (with_reducible rfl)
        try simp only [Act.put, List.setIfInBounds_toArray, List.set_cons_zero, List.set_cons_succ]
        refine wpAnyH_take (i := 7) (oi := ⟨some 44, _, _, _, _, _⟩) (v := ?zv7x8) rfl (by kernel_rfl) (by kernel_rfl) (by kernel_rfl) (fun _ _ _ h => h) (Or.inl ⟨by rfl, ?zy7x8⟩) (by assumption) ?zr7x8
        case zy7x8 => intro w hSw; go_simp; try (with_reducible rfl)
        try simp only [Act.put, List.setIfInBounds_toArray, List.set_cons_zero, List.set_cons_succ]
        refine wpAnyH_take (i := 8) (oi := ⟨some 45, _, _, _, _, _⟩) (v := ?zv8x9) rfl (by kernel_rfl) (by kernel_rfl) (by kernel_rfl) (fun _ _ _ h => h) (Or.inl ⟨by rfl, ?zy8x9⟩) (by assumption) ?zr8x9
        case zy8x9 => intro w hSw; go_simp; try (with_reducible rfl)
        try simp only [Act.put, List.setIfInBounds_toArray, List.set_cons_zero, List.set_cons_succ]
        refine wpAnyH_ready (rs := [9, 13]) (by kernel_rfl) (by simp) ?_
        refine (AllReadyH.cons (o := ⟨some 46, _, _, _, _, _⟩) rfl (fun K hK => ?_) (AllReadyH.cons (o := ⟨some 7, _, _, _, _, _⟩) rfl (fun K hK => ?_) AllReadyH.nil))
        · go_simp
          refine (HFI.out _ (by first | exact hHeld | exact Below.alloc hHeld (Below.size hHeld) _)).mono ?_
          rintro r w5 ⟨P7, k7, rfl, hp7, hb5⟩
          have hn5 : Below w3.heap.size w3 w5 := Below.trans hHeld (hb5.mono (Below.size hHeld))
          refine hK.out _ _ ?_ (fun hHeld => ?_)
          · exact hn5
          clear hK K
          refine wpAnyH_take (i := 10) (oi := ⟨some 36, _, _, _, _, _⟩) (v := ?zv10x10) rfl (by kernel_rfl) (by kernel_rfl) (by kernel_rfl) (fun _ _ _ h => h) (Or.inl ⟨by rfl, ?zy10x10⟩) (by assumption) ?zr10x10
          case zy10x10 => intro w hSw; go_simp; try (with_reducible rfl)
          try simp only [Act.put, List.setIfInBounds_toArray, List.set_cons_zero, List.set_cons_succ]
          refine wpAnyH_take (i := 11) (oi := ⟨some 47, _, _, _, _, _⟩) (v := ?zv11x11) rfl (by kernel_rfl) (by kernel_rfl) (by kernel_rfl) (fun _ _ _ h => h) (Or.inl ⟨by rfl, ?zy11x11⟩) (by assumption) ?zr11x11
          case zy11x11 => intro w hSw; go_simp; try (with_reducible rfl)
          try simp only [Act.put, List.setIfInBounds_toArray, List.set_cons_zero, List.set_cons_succ]
          refine wpAnyH_take (i := 12) (oi := ⟨some 48, _, _, _, _, _⟩) (v := ?zv12x12) rfl (by kernel_rfl) (by kernel_rfl) (by kernel_rfl) (fun _ _ _ h => h) (Or.inl ⟨by rfl, ?zy12x12⟩) (by assumption) ?zr12x12
          case zy12x12 => intro w hSw; go_simp; try (with_reducible rfl)
          try simp only [Act.put, List.setIfInBounds_toArray, List.set_cons_zero, List.set_cons_succ]
          refine wpAnyH_ready (rs := [13]) (by kernel_rfl) (by simp) ?_
          refine AllReadyH.cons (o := ⟨some 7, _, _, _, _, _⟩) rfl (fun K hK => ?_) AllReadyH.nil
          go_simp
          refine hK.out _ _ ?_ (fun hHeld => ?_)
          · exact Below.alloc hHeld (Below.size hHeld) _
          clear hK K
          try simp only [Act.put, List.setIfInBounds_toArray, List.set_cons_zero, List.set_cons_succ]
          refine wpAnyH_ready (rs := [14]) (by kernel_rfl) (by simp) ?_
          refine AllReadyH.cons (o := ⟨none, _, _, _, _, _⟩) rfl (fun K hK => ?_) AllReadyH.nil
          refine step_store_box (by rfl) 30 _ _ (by rfl) _ 30 _ _ (by rfl) (by rfl) (by first | exact Box.new _ _ _ | exact Box.step (Box.drew (Box.new _ _ _)) hb5) (by rfl) (by kernel_rfl) (by simp [Value.oneCell']) ?_
          intro w6 hbx6 hg6
          have hn6 : Below w3.heap.size w3 w6 := below_only (B := w3.heap.size) (a := w3) hHeld (by first | exact hn5.size | exact hnx.size) (Below.size hHeld) hg6
          have hp6 : ParamsLie w6 w6.heap.size (p.1, P7, k7) := by
            first
            | exact (params_only (g := w5.heap.size) (hp7.below ((Below.refl w5.heap.size w5).alloc (Nat.le_refl _) _)) hg6 (by simp) (fun b' o' e h0 => by
                obtain ⟨b2, o2, e2, hb2, _⟩ := hp7.1.2 h0
                rw [e] at e2
                simp only [Option.some.injEq, Addr.mk.injEq, and_true] at e2
                omega)).wider (Nat.le_trans (by simp) hg6.size)
            | exact (params_only hp7 hg6 (Nat.le_refl _) (fun b' o' e h0 => params_off (Box.step (Box.drew (Box.new _ _ _)) hb5) hp7 HW.out e h0)).wider hg6.size
          refine hK.out _ _ ?_ (fun hHeld => ?_)
          · exact hn6
          clear hK K
          try simp only [Act.put]
          refine wpAnyH_take (i := 15) (oi := ⟨some 8, _, _, _, _, _⟩) (v := ?zv15x13) rfl (by kernel_rfl) (by kernel_rfl) (by kernel_rfl) (fun _ _ _ h => h) (Or.inl ⟨by rfl, ?zy15x13⟩) (by assumption) ?zr15x13
          case zy15x13 => intro w hSw; go_simp; try (with_reducible rfl)
          try simp only [Act.put, List.setIfInBounds_toArray, List.set_cons_zero, List.set_cons_succ]
          refine wpAnyH_done (by kernel_rfl) ?_ _
          refine NoPanic.normal ?_
          go_wp2
          go_meet
          exact ⟨_, P7, k7, rfl, rfl, hbx6, hp6, hn6⟩
        · go_simp
          refine hK.out _ _ ?_ (fun hHeld => ?_)
          · exact Below.alloc hHeld (Below.size hHeld) _
          clear hK K
          try simp only [Act.put, List.setIfInBounds_toArray, List.set_cons_zero, List.set_cons_succ]
          refine wpAnyH_ready (rs := [9]) (by kernel_rfl) (by simp) ?_
          refine AllReadyH.cons (o := ⟨some 46, _, _, _, _, _⟩) rfl (fun K hK => ?_) AllReadyH.nil
          go_simp
          refine (HFI.out _ (by first | exact hHeld | exact Below.alloc hHeld (Below.size hHeld) _)).mono ?_
          rintro r w5 ⟨P7, k7, rfl, hp7, hb5⟩
          have hn5 : Below w3.heap.size w3 w5 := Below.trans hHeld (hb5.mono (Below.size hHeld))
          refine hK.out _ _ ?_ (fun hHeld => ?_)
          · exact hn5
          clear hK K
          refine wpAnyH_take (i := 10) (oi := ⟨some 36, _, _, _, _, _⟩) (v := ?zv10x14) rfl (by kernel_rfl) (by kernel_rfl) (by kernel_rfl) (fun _ _ _ h => h) (Or.inl ⟨by rfl, ?zy10x14⟩) (by assumption) ?zr10x14
          case zy10x14 => intro w hSw; go_simp; try (with_reducible rfl)
          try simp only [Act.put, List.setIfInBounds_toArray, List.set_cons_zero, List.set_cons_succ]
          refine wpAnyH_take (i := 11) (oi := ⟨some 47, _, _, _, _, _⟩) (v := ?zv11x15) rfl (by kernel_rfl) (by kernel_rfl) (by kernel_rfl) (fun _ _ _ h => h) (Or.inl ⟨by rfl, ?zy11x15⟩) (by assumption) ?zr11x15
          case zy11x15 => intro w hSw; go_simp; try (with_reducible rfl)
          try simp only [Act.put, List.setIfInBounds_toArray, List.set_cons_zero, List.set_cons_succ]
          refine wpAnyH_take (i := 12) (oi := ⟨some 48, _, _, _, _, _⟩) (v := ?zv12x16) rfl (by kernel_rfl) (by kernel_rfl) (by kernel_rfl) (fun _ _ _ h => h) (Or.inl ⟨by rfl, ?zy12x16⟩) (by assumption) ?zr12x16
          case zy12x16 => intro w hSw; go_simp; try (with_reducible rfl)
          try simp only [Act.put, List.setIfInBounds_toArray, List.set_cons_zero, List.set_cons_succ]
          refine wpAnyH_ready (rs := [14]) (by kernel_rfl) (by simp) ?_
          refine AllReadyH.cons (o := ⟨none, _, _, _, _, _⟩) rfl (fun K hK => ?_) AllReadyH.nil
          refine step_store_box (by rfl) 30 _ _ (by rfl) _ 30 _ _ (by rfl) (by rfl) (by first | exact Box.new _ _ _ | exact Box.step (Box.drew (Box.new _ _ _)) hb5) (by rfl) (by kernel_rfl) (by simp [Value.oneCell']) ?_
          intro w6 hbx6 hg6
          have hn6 : Below w3.heap.size w3 w6 := below_only (B := w3.heap.size) (a := w3) hHeld (by first | exact hn5.size | exact hnx.size) (Below.size hHeld) hg6
          have hp6 : ParamsLie w6 w6.heap.size (p.1, P7, k7) := by
            first
            | exact (params_only (g := w5.heap.size) (hp7.below ((Below.refl w5.heap.size w5).alloc (Nat.le_refl _) _)) hg6 (by simp) (fun b' o' e h0 => by
                obtain ⟨b2, o2, e2, hb2, _⟩ := hp7.1.2 h0
                rw [e] at e2
                simp only [Option.some.injEq, Addr.mk.injEq, and_true] at e2
                omega)).wider (Nat.le_trans (by simp) hg6.size)
            | exact (params_only hp7 hg6 (Nat.le_refl _) (fun b' o' e h0 => params_off (Box.step (Box.drew (Box.new _ _ _)) hb5) hp7 HW.out e h0)).wider hg6.size
          refine hK.out _ _ ?_ (fun hHeld => ?_)
          · exact hn6
          clear hK K
          try simp only [Act.put]
          refine wpAnyH_take (i := 15) (oi := ⟨some 8, _, _, _, _, _⟩) (v := ?zv15x17) rfl (by kernel_rfl) (by kernel_rfl) (by kernel_rfl) (fun _ _ _ h => h) (Or.inl ⟨by rfl, ?zy15x17⟩) (by assumption) ?zr15x17
          case zy15x17 => intro w hSw; go_simp; try (with_reducible rfl)
          try simp only [Act.put, List.setIfInBounds_toArray, List.set_cons_zero, List.set_cons_succ]
          refine wpAnyH_done (by kernel_rfl) ?_ _
          refine NoPanic.normal ?_
          go_wp2
          go_meet
          exact ⟨_, P7, k7, rfl, rfl, hbx6, hp6, hn6⟩
      case rest =>
        obtain ⟨g7, P7, k7, rfl, rfl, hbx, hp7, hnc⟩ := hcut
        have HPPC : Hid (∀ W : World, Below wc.heap.size wc W → ParamsLie W W.heap.size (p.1, p.2.1, p.2.2)) := fun W hW => HPP.out W (hnc.trans (hW.mono hnc.size))
        have HP7 : Hid (∀ W : World, Below wc.heap.size wc W → ParamsLie W W.heap.size (p.1, P7, k7)) := fun W hW => (hp7.below hW).wider hW.size
        have HBX := Lib.hid hbx
        have gl := hbx.lt
        have F7a : ∀ W : World, Below wc.heap.size wc W → W.cell? ⟨g7, 0, none⟩ = some (.string (strOf p.1.name)) := fun W hW => (HBX.out.step hW).cell 0
        have F7b : ∀ W : World, Below wc.heap.size wc W → W.cell? ⟨g7, 1, none⟩ = some (.int .u32 p.1.nr) := fun W hW => (HBX.out.step hW).cell 1
        have F7c : ∀ W : World, Below wc.heap.size wc W → W.cell? ⟨g7, 2, none⟩ = some (.slice P7 p.1.params.length k7) := fun W hW => (HBX.out.step hW).cell 2
        have F0 : ∀ W : World, Below wc.heap.size wc W → W.cell? ⟨b, o + k * 3, none⟩ = some (.string (strOf p.1.name)) := fun W hW => (HCE.out W (hnc.trans (hW.mono hnc.size))).1
        have F1 : ∀ W : World, Below wc.heap.size wc W → W.cell? ⟨b, o + k * 3 + 1, none⟩ = some (.int .u32 p.1.nr) := fun W hW => (HCE.out W (hnc.trans (hW.mono hnc.size))).2.1
        have F2 : ∀ W : World, Below wc.heap.size wc W → W.cell? ⟨b, o + k * 3 + 2, none⟩ = some (.slice p.2.1 p.1.params.length p.2.2) := fun W hW => (HCE.out W (hnc.trans (hW.mono hnc.size))).2.2
        have p6I : decide ((6 : Int) < ((p.1.params.length : Nat) : Int)) = false := decide_eq_false (by omega)
        clear hbx hp7 hnx FA
        go_upto_if 86 with (fail)
        go_cut [86] (fun v86 wx => v86 = .bool false ∧ Below w3.heap.size w3 wx)
        case first =>
          by_cases hk0 : k = 0
          · have kz : decide ((0 : Int) < (k : Int)) = false := decide_eq_false (by omega)
            have kz2 : decide (0 < k) = false := decide_eq_false (by omega)
            clear hk0
            go_wp2_with fail
            refine wp_region_noPanic ?_
            refine wp_region_held_drew (S := fun W => Below wc.heap.size wc W) (by kernel_rfl) ((Below.refl _ _).drew) (fun hHeld => ?_)
            refine wpAnyH_take (i := 0) (oi := ⟨some 49, _, _, _, _, _⟩) (v := ?zav0x1) rfl (by kernel_rfl) (by kernel_rfl) (by kernel_rfl) (fun _ _ _ h => h) (Or.inl ⟨by rfl, ?zay0x1⟩) (by assumption) ?zar0x1
            case zay0x1 => intro w hSw; go_simp; try (with_reducible rfl)
            try simp only [Act.put, List.setIfInBounds_toArray, List.set_cons_zero, List.set_cons_succ]
            refine wpAnyH_take (i := 1) (oi := ⟨some 50, _, _, _, _, _⟩) (v := ?zav1x2) rfl (by kernel_rfl) (by kernel_rfl) (by kernel_rfl) (fun _ _ _ h => h) (Or.inl ⟨by rfl, ?zay1x2⟩) (by assumption) ?zar1x2
            case zay1x2 => intro w hSw; go_simp; try (with_reducible rfl)
            try simp only [Act.put, List.setIfInBounds_toArray, List.set_cons_zero, List.set_cons_succ]
            refine wpAnyH_take (i := 2) (oi := ⟨some 51, _, _, _, _, _⟩) (v := ?zav2x3) rfl (by kernel_rfl) (by kernel_rfl) (by kernel_rfl) (fun _ _ _ h => h) (Or.inl ⟨by rfl, ?zay2x3⟩) (by assumption) ?zar2x3
            case zay2x3 => intro w hSw; go_simp; try (with_reducible rfl)
            try simp only [Act.put, List.setIfInBounds_toArray, List.set_cons_zero, List.set_cons_succ]
            refine wpAnyH_take (i := 3) (oi := ⟨some 52, _, _, _, _, _⟩) (v := ?zav3x4) rfl (by kernel_rfl) (by kernel_rfl) (by kernel_rfl) (fun _ _ _ h => h) (Or.inl ⟨by rfl, ?zay3x4⟩) (by assumption) ?zar3x4
            case zay3x4 => intro w hSw; go_simp; try (with_reducible rfl)
            try simp only [Act.put, List.setIfInBounds_toArray, List.set_cons_zero, List.set_cons_succ]
            refine wpAnyH_take (i := 4) (oi := ⟨some 53, _, _, _, _, _⟩) (v := ?zav4x5) rfl (by kernel_rfl) (by kernel_rfl) (by kernel_rfl) (fun _ _ _ h => h) (Or.inl ⟨by rfl, ?zay4x5⟩) (by assumption) ?zar4x5
            case zay4x5 => intro w hSw; go_simp; try (with_reducible rfl)
            try simp only [Act.put, List.setIfInBounds_toArray, List.set_cons_zero, List.set_cons_succ]
            refine wpAnyH_take (i := 5) (oi := ⟨some 54, _, _, _, _, _⟩) (v := ?zav5x6) rfl (by kernel_rfl) (by kernel_rfl) (by kernel_rfl) (fun _ _ _ h => h) (Or.inl ⟨by rfl, ?zay5x6⟩) (by assumption) ?zar5x6
            case zay5x6 => intro w hSw; go_simp; try (with_reducible rfl)
            try simp only [Act.put, List.setIfInBounds_toArray, List.set_cons_zero, List.set_cons_succ]
            refine wpAnyH_take (i := 6) (oi := ⟨some 55, _, _, _, _, _⟩) (v := ?zav6x7) rfl (by kernel_rfl) (by kernel_rfl) (by kernel_rfl) (fun _ _ _ h => h) (Or.inl ⟨by rfl, ?zay6x7⟩) (by assumption) ?zar6x7
            case zay6x7 => intro w hSw; go_simp; try (with_reducible rfl)
            try simp only [Act.put, List.setIfInBounds_toArray, List.set_cons_zero, List.set_cons_succ]
            refine wpAnyH_take (i := 7) (oi := ⟨some 56, _, _, _, _, _⟩) (v := ?zav7x8) rfl (by kernel_rfl) (by kernel_rfl) (by kernel_rfl) (fun _ _ _ h => h) (Or.inl ⟨by rfl, ?zay7x8⟩) (by assumption) ?zar7x8
            case zay7x8 => intro w hSw; go_simp; try (with_reducible rfl)
            try simp only [Act.put, List.setIfInBounds_toArray, List.set_cons_zero, List.set_cons_succ]
            refine wpAnyH_ready (rs := [8]) (by kernel_rfl) (by simp) ?_
            refine AllReadyH.cons (o := ⟨some 57, _, _, _, _, _⟩) rfl (fun K hK => ?_) AllReadyH.nil
            go_simp
            refine (same_yes p.1 P7 p.2.1 k7 p.2.2 _ (HP7.out _ (Below.refl _ _).drew) (HPPC.out _ (Below.refl _ _).drew) (by omega)).mono ?_
            rintro r w7 ⟨rfl, hb7⟩
            refine hK.out _ _ ?_ (fun hHeld => ?_)
            · exact below_undrew hb7
            clear hK K
            try simp only [Act.put, List.setIfInBounds_toArray, List.set_cons_zero, List.set_cons_succ]
            refine wpAnyH_take (i := 9) (oi := ⟨some 58, _, _, _, _, _⟩) (v := ?zav9x9) rfl (by kernel_rfl) (by kernel_rfl) (by kernel_rfl) (fun _ _ _ h => h) (Or.inl ⟨by rfl, ?zay9x9⟩) (by assumption) ?zar9x9
            case zay9x9 => intro w hSw; go_simp; try (with_reducible rfl)
            try simp only [Act.put, List.setIfInBounds_toArray, List.set_cons_zero, List.set_cons_succ]
            refine wpAnyH_take (i := 10) (oi := ⟨some 59, _, _, _, _, _⟩) (v := ?zav10x10) rfl (by kernel_rfl) (by kernel_rfl) (by kernel_rfl) (fun _ _ _ h => h) (Or.inl ⟨by rfl, ?zay10x10⟩) (by assumption) ?zar10x10
            case zay10x10 => intro w hSw; go_simp; try (with_reducible rfl)
            try simp only [Act.put, List.setIfInBounds_toArray, List.set_cons_zero, List.set_cons_succ]
            refine wpAnyH_take (i := 11) (oi := ⟨some 60, _, _, _, _, _⟩) (v := ?zav11x11) rfl (by kernel_rfl) (by kernel_rfl) (by kernel_rfl) (fun _ _ _ h => h) (Or.inl ⟨by rfl, ?zay11x11⟩) (by assumption) ?zar11x11
            case zay11x11 => intro w hSw; go_simp; try (with_reducible rfl)
            try simp only [Act.put, List.setIfInBounds_toArray, List.set_cons_zero, List.set_cons_succ]
            refine wpAnyH_take (i := 12) (oi := ⟨some 61, _, _, _, _, _⟩) (v := ?zav12x12) rfl (by kernel_rfl) (by kernel_rfl) (by kernel_rfl) (fun _ _ _ h => h) (Or.inl ⟨by rfl, ?zay12x12⟩) (by assumption) ?zar12x12
            case zay12x12 => intro w hSw; go_simp; try (with_reducible rfl)
            try simp only [Act.put, List.setIfInBounds_toArray, List.set_cons_zero, List.set_cons_succ]
            refine wpAnyH_take (i := 13) (oi := ⟨some 62, _, _, _, _, _⟩) (v := ?zav13x13) rfl (by kernel_rfl) (by kernel_rfl) (by kernel_rfl) (fun _ _ _ h => h) (Or.inl ⟨by rfl, ?zay13x13⟩) (by assumption) ?zar13x13
            case zay13x13 => intro w hSw; go_simp; try (with_reducible rfl)
            try simp only [Act.put, List.setIfInBounds_toArray, List.set_cons_zero, List.set_cons_succ]
            refine wpAnyH_take (i := 14) (oi := ⟨some 63, _, _, _, _, _⟩) (v := ?zav14x14) rfl (by kernel_rfl) (by kernel_rfl) (by kernel_rfl) (fun _ _ _ h => h) (Or.inl ⟨by rfl, ?zay14x14⟩) (by assumption) ?zar14x14
            case zay14x14 => intro w hSw; go_simp; try (with_reducible rfl)
            try simp only [Act.put, List.setIfInBounds_toArray, List.set_cons_zero, List.set_cons_succ]
            refine wpAnyH_take (i := 15) (oi := ⟨some 64, _, _, _, _, _⟩) (v := ?zav15x15) rfl (by kernel_rfl) (by kernel_rfl) (by kernel_rfl) (fun _ _ _ h => h) (Or.inl ⟨by rfl, ?zay15x15⟩) (by assumption) ?zar15x15
            case zay15x15 => intro w hSw; go_simp; try (with_reducible rfl)
            try simp only [Act.put, List.setIfInBounds_toArray, List.set_cons_zero, List.set_cons_succ]
            refine wpAnyH_take (i := 16) (oi := ⟨some 65, _, _, _, _, _⟩) (v := ?zav16x16) rfl (by kernel_rfl) (by kernel_rfl) (by kernel_rfl) (fun _ _ _ h => h) (Or.inl ⟨by rfl, ?zay16x16⟩) (by assumption) ?zar16x16
            case zay16x16 => intro w hSw; go_simp; try (with_reducible rfl)
            try simp only [Act.put, List.setIfInBounds_toArray, List.set_cons_zero, List.set_cons_succ]
            refine wpAnyH_take (i := 17) (oi := ⟨some 66, _, _, _, _, _⟩) (v := ?zav17x17) rfl (by kernel_rfl) (by kernel_rfl) (by kernel_rfl) (fun _ _ _ h => h) (Or.inl ⟨by rfl, ?zay17x17⟩) (by assumption) ?zar17x17
            case zay17x17 => intro w hSw; go_simp; try (with_reducible rfl)
            try simp only [Act.put, List.setIfInBounds_toArray, List.set_cons_zero, List.set_cons_succ]
            refine wpAnyH_take (i := 18) (oi := ⟨some 67, _, _, _, _, _⟩) (v := ?zav18x18) rfl (by kernel_rfl) (by kernel_rfl) (by kernel_rfl) (fun _ _ _ h => h) (Or.inl ⟨by rfl, ?zay18x18⟩) (by assumption) ?zar18x18
            case zay18x18 => intro w hSw; go_simp; try (with_reducible rfl)
            try simp only [Act.put, List.setIfInBounds_toArray, List.set_cons_zero, List.set_cons_succ]
            refine wpAnyH_take (i := 19) (oi := ⟨some 68, _, _, _, _, _⟩) (v := ?zav19x19) rfl (by kernel_rfl) (by kernel_rfl) (by kernel_rfl) (fun _ _ _ h => h) (Or.inl ⟨by rfl, ?zay19x19⟩) (by assumption) ?zar19x19
            case zay19x19 => intro w hSw; go_simp; try (with_reducible rfl)
            try simp only [Act.put, List.setIfInBounds_toArray, List.set_cons_zero, List.set_cons_succ]
            refine wpAnyH_take (i := 20) (oi := ⟨some 69, _, _, _, _, _⟩) (v := ?zav20x20) rfl (by kernel_rfl) (by kernel_rfl) (by kernel_rfl) (fun _ _ _ h => h) (Or.inl ⟨by rfl, ?zay20x20⟩) (by assumption) ?zar20x20
            case zay20x20 => intro w hSw; go_simp; try (with_reducible rfl)
            try simp only [Act.put, List.setIfInBounds_toArray, List.set_cons_zero, List.set_cons_succ]
            refine wpAnyH_take (i := 21) (oi := ⟨some 70, _, _, _, _, _⟩) (v := ?zav21x21) rfl (by kernel_rfl) (by kernel_rfl) (by kernel_rfl) (fun _ _ _ h => h) (Or.inl ⟨by rfl, ?zay21x21⟩) (by assumption) ?zar21x21
            case zay21x21 => intro w hSw; go_simp; try (with_reducible rfl)
            try simp only [Act.put, List.setIfInBounds_toArray, List.set_cons_zero, List.set_cons_succ]
            refine wpAnyH_take (i := 22) (oi := ⟨some 71, _, _, _, _, _⟩) (v := ?zav22x22) rfl (by kernel_rfl) (by kernel_rfl) (by kernel_rfl) (fun _ _ _ h => h) (Or.inl ⟨by rfl, ?zay22x22⟩) (by assumption) ?zar22x22
            case zay22x22 => intro w hSw; go_simp; try (with_reducible rfl)
            try simp only [Act.put, List.setIfInBounds_toArray, List.set_cons_zero, List.set_cons_succ]
            refine wpAnyH_take (i := 23) (oi := ⟨some 72, _, _, _, _, _⟩) (v := ?zav23x23) rfl (by kernel_rfl) (by kernel_rfl) (by kernel_rfl) (fun _ _ _ h => h) (Or.inl ⟨by rfl, ?zay23x23⟩) (by assumption) ?zar23x23
            case zay23x23 => intro w hSw; go_simp; try (with_reducible rfl)
            try simp only [Act.put, List.setIfInBounds_toArray, List.set_cons_zero, List.set_cons_succ]
            refine wpAnyH_take (i := 24) (oi := ⟨some 73, _, _, _, _, _⟩) (v := undef) rfl (by kernel_rfl) (by kernel_rfl) (by kernel_rfl) (fun _ _ _ h => h) (Or.inr ⟨by rfl, rfl⟩) (by assumption) ?_
            try simp only [Act.put, List.setIfInBounds_toArray, List.set_cons_zero, List.set_cons_succ]
            refine wpAnyH_take (i := 25) (oi := ⟨some 74, _, _, _, _, _⟩) (v := undef) rfl (by kernel_rfl) (by kernel_rfl) (by kernel_rfl) (fun _ _ _ h => h) (Or.inr ⟨by rfl, rfl⟩) (by assumption) ?_
            try simp only [Act.put, List.setIfInBounds_toArray, List.set_cons_zero, List.set_cons_succ]
            refine wpAnyH_take (i := 26) (oi := ⟨some 75, _, _, _, _, _⟩) (v := undef) rfl (by kernel_rfl) (by kernel_rfl) (by kernel_rfl) (fun _ _ _ h => h) (Or.inr ⟨by rfl, rfl⟩) (by assumption) ?_
            try simp only [Act.put, List.setIfInBounds_toArray, List.set_cons_zero, List.set_cons_succ]
            refine wpAnyH_take (i := 27) (oi := ⟨some 76, _, _, _, _, _⟩) (v := undef) rfl (by kernel_rfl) (by kernel_rfl) (by kernel_rfl) (fun _ _ _ h => h) (Or.inr ⟨by rfl, rfl⟩) (by assumption) ?_
            try simp only [Act.put, List.setIfInBounds_toArray, List.set_cons_zero, List.set_cons_succ]
            refine wpAnyH_take (i := 28) (oi := ⟨some 77, _, _, _, _, _⟩) (v := undef) rfl (by kernel_rfl) (by kernel_rfl) (by kernel_rfl) (fun _ _ _ h => h) (Or.inr ⟨by rfl, rfl⟩) (by assumption) ?_
            try simp only [Act.put, List.setIfInBounds_toArray, List.set_cons_zero, List.set_cons_succ]
            refine wpAnyH_take (i := 29) (oi := ⟨some 78, _, _, _, _, _⟩) (v := undef) rfl (by kernel_rfl) (by kernel_rfl) (by kernel_rfl) (fun _ _ _ h => h) (Or.inr ⟨by rfl, rfl⟩) (by assumption) ?_
            try simp only [Act.put, List.setIfInBounds_toArray, List.set_cons_zero, List.set_cons_succ]
            refine wpAnyH_take (i := 30) (oi := ⟨some 79, _, _, _, _, _⟩) (v := undef) rfl (by kernel_rfl) (by kernel_rfl) (by kernel_rfl) (fun _ _ _ h => h) (Or.inr ⟨by rfl, rfl⟩) (by assumption) ?_
            try simp only [Act.put, List.setIfInBounds_toArray, List.set_cons_zero, List.set_cons_succ]
            refine wpAnyH_take (i := 31) (oi := ⟨some 80, _, _, _, _, _⟩) (v := undef) rfl (by kernel_rfl) (by kernel_rfl) (by kernel_rfl) (fun _ _ _ h => h) (Or.inr ⟨by rfl, rfl⟩) (by assumption) ?_
            try simp only [Act.put, List.setIfInBounds_toArray, List.set_cons_zero, List.set_cons_succ]
            refine wpAnyH_take (i := 32) (oi := ⟨some 81, _, _, _, _, _⟩) (v := undef) rfl (by kernel_rfl) (by kernel_rfl) (by kernel_rfl) (fun _ _ _ h => h) (Or.inr ⟨by rfl, rfl⟩) (by assumption) ?_
            try simp only [Act.put, List.setIfInBounds_toArray, List.set_cons_zero, List.set_cons_succ]
            refine wpAnyH_take (i := 33) (oi := ⟨some 82, _, _, _, _, _⟩) (v := undef) rfl (by kernel_rfl) (by kernel_rfl) (by kernel_rfl) (fun _ _ _ h => h) (Or.inr ⟨by rfl, rfl⟩) (by assumption) ?_
            try simp only [Act.put, List.setIfInBounds_toArray, List.set_cons_zero, List.set_cons_succ]
            refine wpAnyH_take (i := 34) (oi := ⟨some 83, _, _, _, _, _⟩) (v := undef) rfl (by kernel_rfl) (by kernel_rfl) (by kernel_rfl) (fun _ _ _ h => h) (Or.inr ⟨by rfl, rfl⟩) (by assumption) ?_
            try simp only [Act.put, List.setIfInBounds_toArray, List.set_cons_zero, List.set_cons_succ]
            refine wpAnyH_take (i := 35) (oi := ⟨some 84, _, _, _, _, _⟩) (v := undef) rfl (by kernel_rfl) (by kernel_rfl) (by kernel_rfl) (fun _ _ _ h => h) (Or.inr ⟨by rfl, rfl⟩) (by assumption) ?_
            try simp only [Act.put, List.setIfInBounds_toArray, List.set_cons_zero, List.set_cons_succ]
            refine wpAnyH_take (i := 36) (oi := ⟨some 85, _, _, _, _, _⟩) (v := ?zav36x24) rfl (by kernel_rfl) (by kernel_rfl) (by kernel_rfl) (fun _ _ _ h => h) (Or.inl ⟨by rfl, ?zay36x24⟩) (by assumption) ?zar36x24
            case zay36x24 => intro w hSw; go_simp; try (with_reducible rfl)
            try simp only [Act.put, List.setIfInBounds_toArray, List.set_cons_zero, List.set_cons_succ]
            refine wpAnyH_take (i := 37) (oi := ⟨some 86, _, _, _, _, _⟩) (v := ?zav37x25) rfl (by kernel_rfl) (by kernel_rfl) (by kernel_rfl) (fun _ _ _ h => h) (Or.inl ⟨by rfl, ?zay37x25⟩) (by assumption) ?zar37x25
            case zay37x25 => intro w hSw; go_simp; try (with_reducible rfl)
            try simp only [Act.put, List.setIfInBounds_toArray, List.set_cons_zero, List.set_cons_succ]
            refine wpAnyH_done (by kernel_rfl) ?_ _
            refine NoPanic.normal ?_
            go_wp2
            go_meet
            exact ⟨rfl, hnc.trans ((below_undrew hb7).mono hnc.size)⟩
          · obtain ⟨q, hq⟩ : ∃ q, ps[k - 1]? = some q := ⟨_, List.getElem?_eq_getElem (by have := HPL.out; omega)⟩
            obtain ⟨hqe, _, _⟩ := HPI.out (k - 1) q hq
            obtain ⟨b2, o2, e2, hb2, hce2⟩ := HCELL.out (k - 1) q hq
            simp only [Option.some.injEq, Addr.mk.injEq, and_true] at e2
            obtain ⟨rfl, rfl⟩ := e2
            have G0 : ∀ W : World, Below wc.heap.size wc W → W.cell? ⟨b, o + (k - 1) * 3, none⟩ = some (.string (strOf q.1.name)) := fun W hW => (hce2 W (hnc.trans (hW.mono hnc.size))).1
            have hless : Op.bytesLess (strOf p.1.name).toList (strOf q.1.name).toList = false := by
              rw [strOf_toList, strOf_toList, HPE.out, hqe]
              exact HNT.out.less k (by have := HLM.out; omega) (k - 1) (by omega) (by omega)
            have hune : ((strOf p.1.name).toList == (strOf q.1.name).toList) = false := by
              rw [strOf_toList, strOf_toList, HPE.out, hqe]
              exact HNT.out.unlike k (by have := HLM.out; omega) (k - 1) (by omega) (by omega)
            clear hce2 hq hqe
            have kp : decide ((0 : Int) < (k : Int)) = true := decide_eq_true (by omega)
            have kp2 : decide (0 < k) = true := decide_eq_true (by omega)
            have n1 : IntKind.i64.wrap ((k : Int) - 1) = (k : Int) - 1 := IntWalk.i64_in _ (by omega)
            have n2 : ((k : Int) - 1).toNat = k - 1 := by omega
            have n3 : (0 : Int) ≤ (k : Int) - 1 := by omega
            have n5 : (1 : Int) ≤ (k : Int) := by omega
            have n6 : 1 ≤ k := by omega
            have n4 : (k : Int) - 1 < (M : Int) := by omega
            go_wp2_with fail
            refine wp_region_noPanic ?_
            refine wp_region_held_drew (S := fun W => Below wc.heap.size wc W) (by kernel_rfl) ((Below.refl _ _).drew) (fun hHeld => ?_)
            refine wpAnyH_take (i := 0) (oi := ⟨some 49, _, _, _, _, _⟩) (v := ?zbv0x1) rfl (by kernel_rfl) (by kernel_rfl) (by kernel_rfl) (fun _ _ _ h => h) (Or.inl ⟨by rfl, ?zby0x1⟩) (by assumption) ?zbr0x1
            case zby0x1 => intro w hSw; go_simp; try (with_reducible rfl)
            try simp only [Act.put, List.setIfInBounds_toArray, List.set_cons_zero, List.set_cons_succ]
            refine wpAnyH_take (i := 1) (oi := ⟨some 50, _, _, _, _, _⟩) (v := ?zbv1x2) rfl (by kernel_rfl) (by kernel_rfl) (by kernel_rfl) (fun _ _ _ h => h) (Or.inl ⟨by rfl, ?zby1x2⟩) (by assumption) ?zbr1x2
            case zby1x2 => intro w hSw; go_simp; try (with_reducible rfl)
            try simp only [Act.put, List.setIfInBounds_toArray, List.set_cons_zero, List.set_cons_succ]
            refine wpAnyH_take (i := 2) (oi := ⟨some 51, _, _, _, _, _⟩) (v := ?zbv2x3) rfl (by kernel_rfl) (by kernel_rfl) (by kernel_rfl) (fun _ _ _ h => h) (Or.inl ⟨by rfl, ?zby2x3⟩) (by assumption) ?zbr2x3
            case zby2x3 => intro w hSw; go_simp; try (with_reducible rfl)
            try simp only [Act.put, List.setIfInBounds_toArray, List.set_cons_zero, List.set_cons_succ]
            refine wpAnyH_take (i := 3) (oi := ⟨some 52, _, _, _, _, _⟩) (v := ?zbv3x4) rfl (by kernel_rfl) (by kernel_rfl) (by kernel_rfl) (fun _ _ _ h => h) (Or.inl ⟨by rfl, ?zby3x4⟩) (by assumption) ?zbr3x4
            case zby3x4 => intro w hSw; go_simp; try (with_reducible rfl)
            try simp only [Act.put, List.setIfInBounds_toArray, List.set_cons_zero, List.set_cons_succ]
            refine wpAnyH_take (i := 4) (oi := ⟨some 53, _, _, _, _, _⟩) (v := ?zbv4x5) rfl (by kernel_rfl) (by kernel_rfl) (by kernel_rfl) (fun _ _ _ h => h) (Or.inl ⟨by rfl, ?zby4x5⟩) (by assumption) ?zbr4x5
            case zby4x5 => intro w hSw; go_simp; try (with_reducible rfl)
            try simp only [Act.put, List.setIfInBounds_toArray, List.set_cons_zero, List.set_cons_succ]
            refine wpAnyH_take (i := 5) (oi := ⟨some 54, _, _, _, _, _⟩) (v := ?zbv5x6) rfl (by kernel_rfl) (by kernel_rfl) (by kernel_rfl) (fun _ _ _ h => h) (Or.inl ⟨by rfl, ?zby5x6⟩) (by assumption) ?zbr5x6
            case zby5x6 => intro w hSw; go_simp; try (with_reducible rfl)
            try simp only [Act.put, List.setIfInBounds_toArray, List.set_cons_zero, List.set_cons_succ]
            refine wpAnyH_take (i := 6) (oi := ⟨some 55, _, _, _, _, _⟩) (v := ?zbv6x7) rfl (by kernel_rfl) (by kernel_rfl) (by kernel_rfl) (fun _ _ _ h => h) (Or.inl ⟨by rfl, ?zby6x7⟩) (by assumption) ?zbr6x7
            case zby6x7 => intro w hSw; go_simp; try (with_reducible rfl)
            try simp only [Act.put, List.setIfInBounds_toArray, List.set_cons_zero, List.set_cons_succ]
            refine wpAnyH_take (i := 7) (oi := ⟨some 56, _, _, _, _, _⟩) (v := ?zbv7x8) rfl (by kernel_rfl) (by kernel_rfl) (by kernel_rfl) (fun _ _ _ h => h) (Or.inl ⟨by rfl, ?zby7x8⟩) (by assumption) ?zbr7x8
            case zby7x8 => intro w hSw; go_simp; try (with_reducible rfl)
            try simp only [Act.put, List.setIfInBounds_toArray, List.set_cons_zero, List.set_cons_succ]
            refine wpAnyH_ready (rs := [8]) (by kernel_rfl) (by simp) ?_
            refine AllReadyH.cons (o := ⟨some 57, _, _, _, _, _⟩) rfl (fun K hK => ?_) AllReadyH.nil
            go_simp
            refine (same_yes p.1 P7 p.2.1 k7 p.2.2 _ (HP7.out _ (Below.refl _ _).drew) (HPPC.out _ (Below.refl _ _).drew) (by omega)).mono ?_
            rintro r w7 ⟨rfl, hb7⟩
            refine hK.out _ _ ?_ (fun hHeld => ?_)
            · exact below_undrew hb7
            clear hK K
            try simp only [Act.put, List.setIfInBounds_toArray, List.set_cons_zero, List.set_cons_succ]
            refine wpAnyH_take (i := 9) (oi := ⟨some 58, _, _, _, _, _⟩) (v := ?zbv9x9) rfl (by kernel_rfl) (by kernel_rfl) (by kernel_rfl) (fun _ _ _ h => h) (Or.inl ⟨by rfl, ?zby9x9⟩) (by assumption) ?zbr9x9
            case zby9x9 => intro w hSw; go_simp; try (with_reducible rfl)
            try simp only [Act.put, List.setIfInBounds_toArray, List.set_cons_zero, List.set_cons_succ]
            refine wpAnyH_take (i := 10) (oi := ⟨some 59, _, _, _, _, _⟩) (v := ?zbv10x10) rfl (by kernel_rfl) (by kernel_rfl) (by kernel_rfl) (fun _ _ _ h => h) (Or.inl ⟨by rfl, ?zby10x10⟩) (by assumption) ?zbr10x10
            case zby10x10 => intro w hSw; go_simp; try (with_reducible rfl)
            try simp only [Act.put, List.setIfInBounds_toArray, List.set_cons_zero, List.set_cons_succ]
            refine wpAnyH_take (i := 11) (oi := ⟨some 60, _, _, _, _, _⟩) (v := ?zbv11x11) rfl (by kernel_rfl) (by kernel_rfl) (by kernel_rfl) (fun _ _ _ h => h) (Or.inl ⟨by rfl, ?zby11x11⟩) (by assumption) ?zbr11x11
            case zby11x11 => intro w hSw; go_simp; try (with_reducible rfl)
            try simp only [Act.put, List.setIfInBounds_toArray, List.set_cons_zero, List.set_cons_succ]
            refine wpAnyH_take (i := 12) (oi := ⟨some 61, _, _, _, _, _⟩) (v := ?zbv12x12) rfl (by kernel_rfl) (by kernel_rfl) (by kernel_rfl) (fun _ _ _ h => h) (Or.inl ⟨by rfl, ?zby12x12⟩) (by assumption) ?zbr12x12
            case zby12x12 => intro w hSw; go_simp; try (with_reducible rfl)
            try simp only [Act.put, List.setIfInBounds_toArray, List.set_cons_zero, List.set_cons_succ]
            refine wpAnyH_take (i := 13) (oi := ⟨some 62, _, _, _, _, _⟩) (v := ?zbv13x13) rfl (by kernel_rfl) (by kernel_rfl) (by kernel_rfl) (fun _ _ _ h => h) (Or.inl ⟨by rfl, ?zby13x13⟩) (by assumption) ?zbr13x13
            case zby13x13 => intro w hSw; go_simp; try (with_reducible rfl)
            try simp only [Act.put, List.setIfInBounds_toArray, List.set_cons_zero, List.set_cons_succ]
            refine wpAnyH_take (i := 14) (oi := ⟨some 63, _, _, _, _, _⟩) (v := ?zbv14x14) rfl (by kernel_rfl) (by kernel_rfl) (by kernel_rfl) (fun _ _ _ h => h) (Or.inl ⟨by rfl, ?zby14x14⟩) (by assumption) ?zbr14x14
            case zby14x14 => intro w hSw; go_simp; try (with_reducible rfl)
            try simp only [Act.put, List.setIfInBounds_toArray, List.set_cons_zero, List.set_cons_succ]
            refine wpAnyH_take (i := 15) (oi := ⟨some 64, _, _, _, _, _⟩) (v := ?zbv15x15) rfl (by kernel_rfl) (by kernel_rfl) (by kernel_rfl) (fun _ _ _ h => h) (Or.inl ⟨by rfl, ?zby15x15⟩) (by assumption) ?zbr15x15
            case zby15x15 => intro w hSw; go_simp; try (with_reducible rfl)
            try simp only [Act.put, List.setIfInBounds_toArray, List.set_cons_zero, List.set_cons_succ]
            refine wpAnyH_take (i := 16) (oi := ⟨some 65, _, _, _, _, _⟩) (v := ?zbv16x16) rfl (by kernel_rfl) (by kernel_rfl) (by kernel_rfl) (fun _ _ _ h => h) (Or.inl ⟨by rfl, ?zby16x16⟩) (by assumption) ?zbr16x16
            case zby16x16 => intro w hSw; go_simp; try (with_reducible rfl)
            try simp only [Act.put, List.setIfInBounds_toArray, List.set_cons_zero, List.set_cons_succ]
            refine wpAnyH_take (i := 17) (oi := ⟨some 66, _, _, _, _, _⟩) (v := ?zbv17x17) rfl (by kernel_rfl) (by kernel_rfl) (by kernel_rfl) (fun _ _ _ h => h) (Or.inl ⟨by rfl, ?zby17x17⟩) (by assumption) ?zbr17x17
            case zby17x17 => intro w hSw; go_simp; try (with_reducible rfl)
            try simp only [Act.put, List.setIfInBounds_toArray, List.set_cons_zero, List.set_cons_succ]
            refine wpAnyH_take (i := 18) (oi := ⟨some 67, _, _, _, _, _⟩) (v := ?zbv18x18) rfl (by kernel_rfl) (by kernel_rfl) (by kernel_rfl) (fun _ _ _ h => h) (Or.inl ⟨by rfl, ?zby18x18⟩) (by assumption) ?zbr18x18
            case zby18x18 => intro w hSw; go_simp; try (with_reducible rfl)
            try simp only [Act.put, List.setIfInBounds_toArray, List.set_cons_zero, List.set_cons_succ]
            refine wpAnyH_take (i := 19) (oi := ⟨some 68, _, _, _, _, _⟩) (v := ?zbv19x19) rfl (by kernel_rfl) (by kernel_rfl) (by kernel_rfl) (fun _ _ _ h => h) (Or.inl ⟨by rfl, ?zby19x19⟩) (by assumption) ?zbr19x19
            case zby19x19 => intro w hSw; go_simp; try (with_reducible rfl)
            try simp only [Act.put, List.setIfInBounds_toArray, List.set_cons_zero, List.set_cons_succ]
            refine wpAnyH_take (i := 20) (oi := ⟨some 69, _, _, _, _, _⟩) (v := ?zbv20x20) rfl (by kernel_rfl) (by kernel_rfl) (by kernel_rfl) (fun _ _ _ h => h) (Or.inl ⟨by rfl, ?zby20x20⟩) (by assumption) ?zbr20x20
            case zby20x20 => intro w hSw; go_simp; try (with_reducible rfl)
            try simp only [Act.put, List.setIfInBounds_toArray, List.set_cons_zero, List.set_cons_succ]
            refine wpAnyH_take (i := 21) (oi := ⟨some 70, _, _, _, _, _⟩) (v := ?zbv21x21) rfl (by kernel_rfl) (by kernel_rfl) (by kernel_rfl) (fun _ _ _ h => h) (Or.inl ⟨by rfl, ?zby21x21⟩) (by assumption) ?zbr21x21
            case zby21x21 => intro w hSw; go_simp; try (with_reducible rfl)
            try simp only [Act.put, List.setIfInBounds_toArray, List.set_cons_zero, List.set_cons_succ]
            refine wpAnyH_take (i := 22) (oi := ⟨some 71, _, _, _, _, _⟩) (v := ?zbv22x22) rfl (by kernel_rfl) (by kernel_rfl) (by kernel_rfl) (fun _ _ _ h => h) (Or.inl ⟨by rfl, ?zby22x22⟩) (by assumption) ?zbr22x22
            case zby22x22 => intro w hSw; go_simp; try (with_reducible rfl)
            try simp only [Act.put, List.setIfInBounds_toArray, List.set_cons_zero, List.set_cons_succ]
            refine wpAnyH_take (i := 23) (oi := ⟨some 72, _, _, _, _, _⟩) (v := ?zbv23x23) rfl (by kernel_rfl) (by kernel_rfl) (by kernel_rfl) (fun _ _ _ h => h) (Or.inl ⟨by rfl, ?zby23x23⟩) (by assumption) ?zbr23x23
            case zby23x23 => intro w hSw; go_simp; try (with_reducible rfl)
            try simp only [Act.put, List.setIfInBounds_toArray, List.set_cons_zero, List.set_cons_succ]
            refine wpAnyH_take (i := 24) (oi := ⟨some 73, _, _, _, _, _⟩) (v := ?zbv24x24) rfl (by kernel_rfl) (by kernel_rfl) (by kernel_rfl) (fun _ _ _ h => h) (Or.inl ⟨by rfl, ?zby24x24⟩) (by assumption) ?zbr24x24
            case zby24x24 => intro w hSw; go_simp; try (with_reducible rfl)
            try simp only [Act.put, List.setIfInBounds_toArray, List.set_cons_zero, List.set_cons_succ]
            refine wpAnyH_take (i := 25) (oi := ⟨some 74, _, _, _, _, _⟩) (v := ?zbv25x25) rfl (by kernel_rfl) (by kernel_rfl) (by kernel_rfl) (fun _ _ _ h => h) (Or.inl ⟨by rfl, ?zby25x25⟩) (by assumption) ?zbr25x25
            case zby25x25 => intro w hSw; go_simp; try (with_reducible rfl)
            try simp only [Act.put, List.setIfInBounds_toArray, List.set_cons_zero, List.set_cons_succ]
            refine wpAnyH_take (i := 26) (oi := ⟨some 75, _, _, _, _, _⟩) (v := ?zbv26x26) rfl (by kernel_rfl) (by kernel_rfl) (by kernel_rfl) (fun _ _ _ h => h) (Or.inl ⟨by rfl, ?zby26x26⟩) (by assumption) ?zbr26x26
            case zby26x26 => intro w hSw; go_simp; try (with_reducible rfl)
            try simp only [Act.put, List.setIfInBounds_toArray, List.set_cons_zero, List.set_cons_succ]
            refine wpAnyH_take (i := 27) (oi := ⟨some 76, _, _, _, _, _⟩) (v := ?zbv27x27) rfl (by kernel_rfl) (by kernel_rfl) (by kernel_rfl) (fun _ _ _ h => h) (Or.inl ⟨by rfl, ?zby27x27⟩) (by assumption) ?zbr27x27
            case zby27x27 => intro w hSw; go_simp; try (with_reducible rfl)
            try simp only [Act.put, List.setIfInBounds_toArray, List.set_cons_zero, List.set_cons_succ]
            refine wpAnyH_take (i := 28) (oi := ⟨some 77, _, _, _, _, _⟩) (v := ?zbv28x28) rfl (by kernel_rfl) (by kernel_rfl) (by kernel_rfl) (fun _ _ _ h => h) (Or.inl ⟨by rfl, ?zby28x28⟩) (by assumption) ?zbr28x28
            case zby28x28 => intro w hSw; go_simp; try (with_reducible rfl)
            try simp only [Act.put, List.setIfInBounds_toArray, List.set_cons_zero, List.set_cons_succ]
            refine wpAnyH_take (i := 29) (oi := ⟨some 78, _, _, _, _, _⟩) (v := ?zbv29x29) rfl (by kernel_rfl) (by kernel_rfl) (by kernel_rfl) (fun _ _ _ h => h) (Or.inl ⟨by rfl, ?zby29x29⟩) (by assumption) ?zbr29x29
            case zby29x29 => intro w hSw; go_simp; try (with_reducible rfl)
            try simp only [Act.put, List.setIfInBounds_toArray, List.set_cons_zero, List.set_cons_succ]
            refine wpAnyH_take (i := 30) (oi := ⟨some 79, _, _, _, _, _⟩) (v := ?zbv30x30) rfl (by kernel_rfl) (by kernel_rfl) (by kernel_rfl) (fun _ _ _ h => h) (Or.inl ⟨by rfl, ?zby30x30⟩) (by assumption) ?zbr30x30
            case zby30x30 => intro w hSw; go_simp; try (with_reducible rfl)
            try simp only [Act.put, List.setIfInBounds_toArray, List.set_cons_zero, List.set_cons_succ]
            refine wpAnyH_take (i := 31) (oi := ⟨some 80, _, _, _, _, _⟩) (v := ?zbv31x31) rfl (by kernel_rfl) (by kernel_rfl) (by kernel_rfl) (fun _ _ _ h => h) (Or.inl ⟨by rfl, ?zby31x31⟩) (by assumption) ?zbr31x31
            case zby31x31 => intro w hSw; go_simp; try (with_reducible rfl)
            try simp only [Act.put, List.setIfInBounds_toArray, List.set_cons_zero, List.set_cons_succ]
            refine wpAnyH_take (i := 32) (oi := ⟨some 81, _, _, _, _, _⟩) (v := ?zbv32x32) rfl (by kernel_rfl) (by kernel_rfl) (by kernel_rfl) (fun _ _ _ h => h) (Or.inl ⟨by rfl, ?zby32x32⟩) (by assumption) ?zbr32x32
            case zby32x32 => intro w hSw; go_simp; try (with_reducible rfl)
            try simp only [Act.put, List.setIfInBounds_toArray, List.set_cons_zero, List.set_cons_succ]
            refine wpAnyH_take (i := 33) (oi := ⟨some 82, _, _, _, _, _⟩) (v := ?zbv33x33) rfl (by kernel_rfl) (by kernel_rfl) (by kernel_rfl) (fun _ _ _ h => h) (Or.inl ⟨by rfl, ?zby33x33⟩) (by assumption) ?zbr33x33
            case zby33x33 => intro w hSw; go_simp; try (with_reducible rfl)
            try simp only [Act.put, List.setIfInBounds_toArray, List.set_cons_zero, List.set_cons_succ]
            refine wpAnyH_take (i := 34) (oi := ⟨some 83, _, _, _, _, _⟩) (v := ?zbv34x34) rfl (by kernel_rfl) (by kernel_rfl) (by kernel_rfl) (fun _ _ _ h => h) (Or.inl ⟨by rfl, ?zby34x34⟩) (by assumption) ?zbr34x34
            case zby34x34 => intro w hSw; go_simp; try (with_reducible rfl)
            try simp only [Act.put, List.setIfInBounds_toArray, List.set_cons_zero, List.set_cons_succ]
            refine wpAnyH_take (i := 35) (oi := ⟨some 84, _, _, _, _, _⟩) (v := ?zbv35x35) rfl (by kernel_rfl) (by kernel_rfl) (by kernel_rfl) (fun _ _ _ h => h) (Or.inl ⟨by rfl, ?zby35x35⟩) (by assumption) ?zbr35x35
            case zby35x35 => intro w hSw; go_simp; try (with_reducible rfl)
            try simp only [Act.put, List.setIfInBounds_toArray, List.set_cons_zero, List.set_cons_succ]
            refine wpAnyH_take (i := 36) (oi := ⟨some 85, _, _, _, _, _⟩) (v := ?zbv36x36) rfl (by kernel_rfl) (by kernel_rfl) (by kernel_rfl) (fun _ _ _ h => h) (Or.inl ⟨by rfl, ?zby36x36⟩) (by assumption) ?zbr36x36
            case zby36x36 => intro w hSw; go_simp; try (with_reducible rfl)
            try simp only [Act.put, List.setIfInBounds_toArray, List.set_cons_zero, List.set_cons_succ]
            refine wpAnyH_take (i := 37) (oi := ⟨some 86, _, _, _, _, _⟩) (v := ?zbv37x37) rfl (by kernel_rfl) (by kernel_rfl) (by kernel_rfl) (fun _ _ _ h => h) (Or.inl ⟨by rfl, ?zby37x37⟩) (by assumption) ?zbr37x37
            case zby37x37 => intro w hSw; go_simp; try (with_reducible rfl)
            try simp only [Act.put, List.setIfInBounds_toArray, List.set_cons_zero, List.set_cons_succ]
            refine wpAnyH_done (by kernel_rfl) ?_ _
            refine NoPanic.normal ?_
            go_wp2
            go_meet
            exact ⟨rfl, hnc.trans ((below_undrew hb7).mono hnc.size)⟩
        case rest =>
          obtain ⟨rfl, hnx⟩ := hcut
          clear hnc HPPC HP7 HBX gl F7a F7b F7c F0 F1 F2
          go_wp2_with fail
          go_loopw [9] (fun i wr => ∃ j : Nat, j ≤ k ∧ i = .int .i64 j ∧ Below w3.heap.size w3 wr) (fun i _ => k - (intOf i).toNat)
          case atStart => exact ⟨0, by omega, rfl, hnx⟩
          case round =>
            obtain ⟨j, hj, rfl, hny⟩ := hrel
            by_cases hjk : j < k
            · obtain ⟨q, hq⟩ : ∃ q, ps[j]? = some q := ⟨_, List.getElem?_eq_getElem (by have := HPL.out; omega)⟩
              obtain ⟨hqe, _, _⟩ := HPI.out j q hq
              obtain ⟨b2, o2, e2, hb2, hce2⟩ := HCELL.out j q hq
              simp only [Option.some.injEq, Addr.mk.injEq, and_true] at e2
              obtain ⟨rfl, rfl⟩ := e2
              have f0 := (hce2 _ hny).2.1
              have f1 := (HCE.out _ hny).2.1
              have hnr : (q.1.nr == p.1.nr) = false := by
                rw [HPE.out, hqe]
                exact HNT.out.nrs k (by have := HLM.out; omega) j (by omega)
              clear hce2 hq hqe
              have jM : (j : Int) < (M : Int) := by omega
              go_wp2_with fail
              go_quiet (fail)
              go_wp2
              go_roundw
              case rel => exact ⟨j + 1, by omega, by go_num, below_drewN hny _⟩
              case measure => simp [intOf]; omega
            · obtain rfl : j = k := by omega
              go_wp2
              go_roundw
              case rel => exact ⟨j + 1, by omega, by go_num, hny⟩
              case measure => simp [intOf]; omega
    · obtain rfl : k = M := by omega
      obtain ⟨c0, c1, c2, _⟩ := HAR.out _ (HB3.out.trans (hnx.mono HB3.out.size))
      have hM16 : (16 : Int) ≤ (k : Int) := by omega
      have hfin := below_step HN3.out (Nat.le_refl _) hnx
      go_wp2_with fail
      go_quiet (fail)
      go_wp2
      go_ret
      exact ⟨rfl, below_drewN hfin _⟩

set_option maxRecDepth 100000 in
theorem kall_any (R : CallSays L0) (m : Int) (w : World) (hw0 : L0 w) (m0 : -9223372036854775808 ≤ m) (m1 : m ≤ 9223372036854775807) :
    Calls Tryd.prog 4 #[.int .i64 m] w fun e w' => e = .returned (.bool true) ∧ Below w.heap.size w w' := by
  by_cases h : 0 ≤ m ∧ m < 3
  · obtain ⟨k, rfl⟩ := Int.eq_ofNat_of_zero_le h.1
    rcases (show k = 0 ∨ k = 1 ∨ k = 2 by omega) with rfl | rfl | rfl
    · exact kall_in R 0 armB w hw0 (by omega) rfl neat_arm (by decide) call_words (by decide +kernel)
    · exact kall_in R 1 x86B w hw0 (by omega) rfl neat_x86 (by decide) call_words (by decide +kernel)
    · exact kall_in R 2 amdB w hw0 (by omega) rfl neat_amd (by decide) call_words (by decide +kernel)
  · by_cases h0 : m < 0
    · clear h
      go_enter Tryd.func4, Tryd.ntmps4
      go_wp2_with fail
      refine (kalive_any R _ hw0).mono ?_
      rintro r w1 ⟨rfl, hb1⟩
      go_wp2_with fail
      refine (R.arches _).mono ?_
      rintro r w2 ⟨A, ac, rfl, _, _, hb2⟩
      have hn2 := below_step hb1 (Nat.le_refl _) hb2
      clear hb1 hb2
      go_wp2
      go_ret
      exact ⟨rfl, hn2⟩
    · have h3 : 3 ≤ m := by omega
      clear h
      go_enter Tryd.func4, Tryd.ntmps4
      go_wp2_with fail
      refine (kalive_any R _ hw0).mono ?_
      rintro r w1 ⟨rfl, hb1⟩
      go_wp2_with fail
      refine (R.arches _).mono ?_
      rintro r w2 ⟨A, ac, rfl, _, _, hb2⟩
      have hn2 := below_step hb1 (Nat.le_refl _) hb2
      clear hb1 hb2
      go_wp2
      go_ret
      exact ⟨rfl, hn2⟩

end Go.Proofs.YtbibliakakjkiaaDoor
