/- What the landed code's Read gives. -/
import Derived.Test.YthcmbfeifehilaaRecBytes
import Derived.Test.YthcmbfeifehilaaStore
import Derived.Deep.DeepCutAuto
namespace Go.Proofs.Ythcmbfeifehilaa
open Go.RowKit

theorem recRead_not (A : Option Addr) (n c : Nat) (l : List UInt8) (w : World) (hl : Lies w w.heap.size 1 A n (bytesV l)) (h64 : n ≠ 64) :
    Calls Try.prog 6 #[.slice A n c] w (DatPair (datOf l) (datCode l) w) := by
  have hlen : l.length = n := by have := hl.1; rw [bytesV_length] at this; omega
  have hd : datOf l = noDat := by unfold datOf; rw [hlen, if_neg h64]
  have hc : datCode l = 2 := by unfold datCode; rw [hlen, if_neg h64]
  have hb : ((n : Int) != 64) = true := by rw [bne_iff_ne]; omega
  rw [hd, hc]
  clear hd hc h64 hlen
  go_enter Try.func6, Try.ntmps6
  go_wp2
  refine bodyPost_ret (v := .tuple #[noDat.val, .int .i64 2]) (by simp [results, Try.results6, go_sem, noDat, Dat.val, Dat.cells]) rfl ⟨rfl, ?_⟩
  exact (Below.refl _ _).alloc (Nat.le_refl _) _

theorem part_zero (l : List UInt8) : (partDat l 0).cells = #[.int .u32 (seg l 0 4), .int .u32 (seg l 4 4), .int .u64 (seg l 8 8), .int .u64 0, .int .u64 0, .int .u64 0, .int .u64 0, .int .u64 0, .int .u64 0] := rfl

set_option maxRecDepth 100000 in
set_option maxHeartbeats 1000000 in
theorem recRead_yes (b o c : Nat) (l : List UInt8) (w : World) (hb : b < w.heap.size) (hlen : l.length = 64) (hc : 64 ≤ c) (hcell : ∀ j, j < 64 → w.cell? ⟨b, o + j, none⟩ = some (byteV (l.getD j 0))) :
    Calls Try.prog 6 #[.slice (some ⟨b, o, none⟩) 64 c] w (DatPair (datOf l) (datCode l) w) := by
  have hd : datOf l = readDat l := by unfold datOf; rw [hlen, if_pos rfl]
  have hcd : datCode l = 0 := by unfold datCode; rw [hlen, if_pos rfl]
  have HD := Lib.hid hd
  have HC := Lib.hid hcd
  have HLEN := Lib.hid hlen
  clear hd hcd hlen
  have hbox : Box (w.alloc (.cells noDat.cells 26)) w.heap.size 26 noDat.cells := Box.new _ _ _
  have hbw : Below w.heap.size w (w.alloc (.cells noDat.cells 26)) := (Below.refl _ _).alloc (Nat.le_refl _) _
  have hs0 : (w.alloc (.cells noDat.cells 26)).heap.size = w.heap.size + 1 := by simp
  unfold noDat Dat.cells at hbox hbw hs0
  dsimp only at hbox hbw hs0
  have c1 : (8 : Int) ≤ (c : Int) := by omega
  have c4 : ¬ c = 4 := by omega
  have c8 : ¬ c = 8 := by omega
  go_enter Try.func6, Try.ntmps6
  go_upto_region 3 with (fail)
  obtain ⟨g, hg⟩ : ∃ g, g = w.heap.size := ⟨_, rfl⟩
  rw [← hg] at hbox hbw hs0 hb ⊢
  have HG := Lib.hid hg
  clear hg
  generalize w.alloc (.cells #[.int .u32 0, .int .u32 0, .int .u64 0, .int .u64 0, .int .u64 0, .int .u64 0, .int .u64 0, .int .u64 0, .int .u64 0] 26) = w0 at *
  have hcl : ∀ W, Below (g + 1) w0 W → ∀ j, j < 64 → W.cell? ⟨b, o + j, none⟩ = some (byteV (l.getD j 0)) := by
    intro W hW j hj
    have h1 := hcell j hj
    have h2 := hbw.cell (p := ⟨b, o + j, none⟩) hb
    have h3 := hW.cell (p := ⟨b, o + j, none⟩) (Nat.lt_succ_of_lt hb)
    rw [h3, h2, h1]
  have HCL := Lib.hid hcl
  clear hcell hcl
  have hs1 : g + 1 ≤ w0.heap.size := by omega
  have HB := Lib.hid hbox
  clear hbox hs0
  have H0 : Hid (∀ (W : World) (n' c' : Nat), Below (g + 1) w0 W → 4 ≤ n' → Calls Try.prog 13 #[.slice (some ⟨b, o, none⟩) n' c'] W fun r w' => r = .returned (.int .u32 (seg l 0 4)) ∧ Below W.heap.size W w') :=
    fun W n' c' hW hn => to_below <| four_any b o n' c' l 0 W hn (by have := HLEN.out; omega) (fun j hj => by rw [Nat.zero_add]; exact HCL.out W hW j (by omega))
  have H1 : Hid (∀ (W : World) (n' c' : Nat), Below (g + 1) w0 W → 4 ≤ n' → Calls Try.prog 13 #[.slice (some ⟨b, o + 4, none⟩) n' c'] W fun r w' => r = .returned (.int .u32 (seg l 4 4)) ∧ Below W.heap.size W w') :=
    fun W n' c' hW hn => to_below <| four_any b (o + 4) n' c' l 4 W hn (by have := HLEN.out; omega) (fun j hj => by rw [Nat.add_assoc]; exact HCL.out W hW (4 + j) (by omega))
  have H2 : Hid (∀ (W : World) (n' c' : Nat), Below (g + 1) w0 W → 8 ≤ n' → n' ≤ c' → Calls Try.prog 14 #[.slice (some ⟨b, o + 8, none⟩) n' c'] W fun r w' => r = .returned (.int .u64 (seg l 8 8)) ∧ Below W.heap.size W w') :=
    fun W n' c' hW hn hnc => to_below <| eight_any b (o + 8) n' c' l 8 W hn hnc (by have := HLEN.out; omega) (fun j hj => by rw [Nat.add_assoc]; exact HCL.out W hW (8 + j) (by omega))
  go_cut [4] (fun s4 wx => ∃ g4, s4 = .pointer (some ⟨g4, 0, none⟩) ∧ g + 1 ≤ g4 ∧ Box wx g4 26 (partDat l 0).cells ∧ Below (g + 1) w0 wx)
  case first =>
    have hbd : Below (g + 1) w0 w0.drew := (Below.refl _ _).drew
    refine wp_region_noPanic ?_
    refine wp_region_held_drew (S := fun W => Below (g + 1) w0 W) (by kernel_rfl) (hbd) (fun hHeld => ?_)
    refine wpAnyH_take (i := 0) (oi := ⟨some 10, _, _, _, _, _⟩) (v := ?rdv0x1) rfl (by kernel_rfl) (by kernel_rfl) (by kernel_rfl) (fun _ _ _ h => h) (Or.inl ⟨by rfl, ?rdy0x1⟩) (by assumption) ?rdr0x1
    case rdy0x1 => intro w hSw; go_simp; try (with_reducible rfl)
    try simp only [Act.put, List.setIfInBounds_toArray, List.set_cons_zero, List.set_cons_succ]
    refine wpAnyH_take (i := 1) (oi := ⟨some 11, _, _, _, _, _⟩) (v := ?rdv1x2) rfl (by kernel_rfl) (by kernel_rfl) (by kernel_rfl) (fun _ _ _ h => h) (Or.inl ⟨by rfl, ?rdy1x2⟩) (by assumption) ?rdr1x2
    case rdy1x2 => intro w hSw; go_simp; try (with_reducible rfl)
    try simp only [Act.put, List.setIfInBounds_toArray, List.set_cons_zero, List.set_cons_succ]
    refine wpAnyH_take (i := 3) (oi := ⟨some 13, _, _, _, _, _⟩) (v := ?rdv3x3) rfl (by kernel_rfl) (by kernel_rfl) (by kernel_rfl) (fun _ _ _ h => h) (Or.inl ⟨by rfl, ?rdy3x3⟩) (by assumption) ?rdr3x3
    case rdy3x3 => intro w hSw; go_simp; try (with_reducible rfl)
    try simp only [Act.put, List.setIfInBounds_toArray, List.set_cons_zero, List.set_cons_succ]
    refine wpAnyH_take (i := 4) (oi := ⟨some 14, _, _, _, _, _⟩) (v := ?rdv4x4) rfl (by kernel_rfl) (by kernel_rfl) (by kernel_rfl) (fun _ _ _ h => h) (Or.inl ⟨by rfl, ?rdy4x4⟩) (by assumption) ?rdr4x4
    case rdy4x4 => intro w hSw; go_simp; try (with_reducible rfl)
    try simp only [Act.put, List.setIfInBounds_toArray, List.set_cons_zero, List.set_cons_succ]
    refine wpAnyH_take (i := 6) (oi := ⟨some 16, _, _, _, _, _⟩) (v := ?rdv6x5) rfl (by kernel_rfl) (by kernel_rfl) (by kernel_rfl) (fun _ _ _ h => h) (Or.inl ⟨by rfl, ?rdy6x5⟩) (by assumption) ?rdr6x5
    case rdy6x5 => intro w hSw; go_simp; try (with_reducible rfl)
    try simp only [Act.put, List.setIfInBounds_toArray, List.set_cons_zero, List.set_cons_succ]
    refine wpAnyH_take (i := 7) (oi := ⟨some 17, _, _, _, _, _⟩) (v := ?rdv7x6) rfl (by kernel_rfl) (by kernel_rfl) (by kernel_rfl) (fun _ _ _ h => h) (Or.inl ⟨by rfl, ?rdy7x6⟩) (by assumption) ?rdr7x6
    case rdy7x6 => intro w hSw; go_simp; try (with_reducible rfl)
    try simp only [Act.put, List.setIfInBounds_toArray, List.set_cons_zero, List.set_cons_succ]
    refine wpAnyH_ready (rs := [2, 10]) (by kernel_rfl) (by simp) ?_
    refine (AllReadyH.cons (o := ⟨some 12, _, _, _, _, _⟩) rfl (fun K hK => ?_) (AllReadyH.cons (o := ⟨some 4, _, _, _, _, _⟩) rfl (fun K hK => ?_) AllReadyH.nil))
    · go_simp
      refine (H0.out _ _ _ (by assumption) (by omega)).mono ?_
      rintro r w1 ⟨rfl, hb1⟩
      have hn1 := below_step (B := g + 1) (a := w0) (by assumption) hs1 hb1
      have hz1 := hn1.size
      refine hK.out _ _ ?_ (fun hHeld => ?_)
      · exact hn1
      clear hK K
      try simp only [Act.put, List.setIfInBounds_toArray, List.set_cons_zero, List.set_cons_succ]
      refine wpAnyH_ready (rs := [5, 10]) (by kernel_rfl) (by simp) ?_
      refine (AllReadyH.cons (o := ⟨some 15, _, _, _, _, _⟩) rfl (fun K hK => ?_) (AllReadyH.cons (o := ⟨some 4, _, _, _, _, _⟩) rfl (fun K hK => ?_) AllReadyH.nil))
      · go_simp
        refine (H1.out _ _ _ (by assumption) (by omega)).mono ?_
        rintro r w2 ⟨rfl, hb2⟩
        have hn2 := below_step (B := g + 1) (a := w0) (by assumption) hs1 hb2
        have hz2 := hn2.size
        refine hK.out _ _ ?_ (fun hHeld => ?_)
        · exact hn2
        clear hK K
        try simp only [Act.put, List.setIfInBounds_toArray, List.set_cons_zero, List.set_cons_succ]
        refine wpAnyH_ready (rs := [8, 10]) (by kernel_rfl) (by simp) ?_
        refine (AllReadyH.cons (o := ⟨some 18, _, _, _, _, _⟩) rfl (fun K hK => ?_) (AllReadyH.cons (o := ⟨some 4, _, _, _, _, _⟩) rfl (fun K hK => ?_) AllReadyH.nil))
        · go_simp
          refine (H2.out _ _ _ (by assumption) (by omega) (by omega)).mono ?_
          rintro r w3 ⟨rfl, hb3⟩
          have hn3 := below_step (B := g + 1) (a := w0) (by assumption) hs1 hb3
          have hz3 := hn3.size
          refine hK.out _ _ ?_ (fun hHeld => ?_)
          · exact hn3
          clear hK K
          try simp only [Act.put, List.setIfInBounds_toArray, List.set_cons_zero, List.set_cons_succ]
          refine wpAnyH_take (i := 9) (oi := ⟨some 19, _, _, _, _, _⟩) (v := ?rdv9x7) rfl (by kernel_rfl) (by kernel_rfl) (by kernel_rfl) (fun _ _ _ h => h) (Or.inl ⟨by rfl, ?rdy9x7⟩) (by assumption) ?rdr9x7
          case rdy9x7 => intro w hSw; go_simp; try (with_reducible rfl)
          try simp only [Act.put, List.setIfInBounds_toArray, List.set_cons_zero, List.set_cons_succ]
          refine wpAnyH_ready (rs := [10]) (by kernel_rfl) (by simp) ?_
          refine AllReadyH.cons (o := ⟨some 4, _, _, _, _, _⟩) rfl (fun K hK => ?_) AllReadyH.nil
          go_simp
          refine hK.out _ _ ?_ (fun hHeld => ?_)
          · exact below_alloc (by assumption) hs1 _
          clear hK K
          try simp only [Act.put, List.setIfInBounds_toArray, List.set_cons_zero, List.set_cons_succ]
          refine wpAnyH_ready (rs := [11]) (by kernel_rfl) (by simp) ?_
          refine AllReadyH.cons (o := ⟨none, _, _, _, _, _⟩) rfl (fun K hK => ?_) AllReadyH.nil
          refine step_store_box (by rfl) 26 _ _ (by rfl) _ _ _ _ (by rfl) (by rfl) (by first | exact Box.new _ _ _ | exact Box.step (Box.new _ _ _) hb3 | exact Box.step (Box.step (Box.new _ _ _) hb2) hb3 | exact Box.step (Box.step (Box.step (Box.new _ _ _).drew hb1) hb2) hb3) (by rfl) (by kernel_rfl) (by simp [Value.oneCell']) ?_
          intro w4 hbx4 hg4
          have hn4 := below_only (B := g + 1) (a := w0) (by assumption) (by first | omega | (simp; omega)) (by first | omega | (simp; omega)) hg4
          refine hK.out _ _ ?_ (fun hHeld => ?_)
          · exact hn4
          clear hK K
          try simp only [Act.put]
          refine wpAnyH_done (by kernel_rfl) ?_ _
          refine NoPanic.normal ?_
          go_wp2
          go_meet
          exact ⟨_, rfl, by first | omega | (simp; omega), hbx4, hn4⟩
        · go_simp
          refine hK.out _ _ ?_ (fun hHeld => ?_)
          · exact below_alloc (by assumption) hs1 _
          clear hK K
          try simp only [Act.put, List.setIfInBounds_toArray, List.set_cons_zero, List.set_cons_succ]
          refine wpAnyH_ready (rs := [8]) (by kernel_rfl) (by simp) ?_
          refine AllReadyH.cons (o := ⟨some 18, _, _, _, _, _⟩) rfl (fun K hK => ?_) AllReadyH.nil
          go_simp
          refine (H2.out _ _ _ (by assumption) (by omega) (by omega)).mono ?_
          rintro r w3 ⟨rfl, hb3⟩
          have hn3 := below_step (B := g + 1) (a := w0) (by assumption) hs1 hb3
          have hz3 := hn3.size
          refine hK.out _ _ ?_ (fun hHeld => ?_)
          · exact hn3
          clear hK K
          try simp only [Act.put, List.setIfInBounds_toArray, List.set_cons_zero, List.set_cons_succ]
          refine wpAnyH_take (i := 9) (oi := ⟨some 19, _, _, _, _, _⟩) (v := ?rdv9x8) rfl (by kernel_rfl) (by kernel_rfl) (by kernel_rfl) (fun _ _ _ h => h) (Or.inl ⟨by rfl, ?rdy9x8⟩) (by assumption) ?rdr9x8
          case rdy9x8 => intro w hSw; go_simp; try (with_reducible rfl)
          try simp only [Act.put, List.setIfInBounds_toArray, List.set_cons_zero, List.set_cons_succ]
          refine wpAnyH_ready (rs := [11]) (by kernel_rfl) (by simp) ?_
          refine AllReadyH.cons (o := ⟨none, _, _, _, _, _⟩) rfl (fun K hK => ?_) AllReadyH.nil
          refine step_store_box (by rfl) 26 _ _ (by rfl) _ _ _ _ (by rfl) (by rfl) (by first | exact Box.new _ _ _ | exact Box.step (Box.new _ _ _) hb3 | exact Box.step (Box.step (Box.new _ _ _) hb2) hb3 | exact Box.step (Box.step (Box.step (Box.new _ _ _).drew hb1) hb2) hb3) (by rfl) (by kernel_rfl) (by simp [Value.oneCell']) ?_
          intro w4 hbx4 hg4
          have hn4 := below_only (B := g + 1) (a := w0) (by assumption) (by first | omega | (simp; omega)) (by first | omega | (simp; omega)) hg4
          refine hK.out _ _ ?_ (fun hHeld => ?_)
          · exact hn4
          clear hK K
          try simp only [Act.put]
          refine wpAnyH_done (by kernel_rfl) ?_ _
          refine NoPanic.normal ?_
          go_wp2
          go_meet
          exact ⟨_, rfl, by first | omega | (simp; omega), hbx4, hn4⟩
      · go_simp
        refine hK.out _ _ ?_ (fun hHeld => ?_)
        · exact below_alloc (by assumption) hs1 _
        clear hK K
        try simp only [Act.put, List.setIfInBounds_toArray, List.set_cons_zero, List.set_cons_succ]
        refine wpAnyH_ready (rs := [5]) (by kernel_rfl) (by simp) ?_
        refine AllReadyH.cons (o := ⟨some 15, _, _, _, _, _⟩) rfl (fun K hK => ?_) AllReadyH.nil
        go_simp
        refine (H1.out _ _ _ (by assumption) (by omega)).mono ?_
        rintro r w2 ⟨rfl, hb2⟩
        have hn2 := below_step (B := g + 1) (a := w0) (by assumption) hs1 hb2
        have hz2 := hn2.size
        refine hK.out _ _ ?_ (fun hHeld => ?_)
        · exact hn2
        clear hK K
        try simp only [Act.put, List.setIfInBounds_toArray, List.set_cons_zero, List.set_cons_succ]
        refine wpAnyH_ready (rs := [8]) (by kernel_rfl) (by simp) ?_
        refine AllReadyH.cons (o := ⟨some 18, _, _, _, _, _⟩) rfl (fun K hK => ?_) AllReadyH.nil
        go_simp
        refine (H2.out _ _ _ (by assumption) (by omega) (by omega)).mono ?_
        rintro r w3 ⟨rfl, hb3⟩
        have hn3 := below_step (B := g + 1) (a := w0) (by assumption) hs1 hb3
        have hz3 := hn3.size
        refine hK.out _ _ ?_ (fun hHeld => ?_)
        · exact hn3
        clear hK K
        try simp only [Act.put, List.setIfInBounds_toArray, List.set_cons_zero, List.set_cons_succ]
        refine wpAnyH_take (i := 9) (oi := ⟨some 19, _, _, _, _, _⟩) (v := ?rdv9x9) rfl (by kernel_rfl) (by kernel_rfl) (by kernel_rfl) (fun _ _ _ h => h) (Or.inl ⟨by rfl, ?rdy9x9⟩) (by assumption) ?rdr9x9
        case rdy9x9 => intro w hSw; go_simp; try (with_reducible rfl)
        try simp only [Act.put, List.setIfInBounds_toArray, List.set_cons_zero, List.set_cons_succ]
        refine wpAnyH_ready (rs := [11]) (by kernel_rfl) (by simp) ?_
        refine AllReadyH.cons (o := ⟨none, _, _, _, _, _⟩) rfl (fun K hK => ?_) AllReadyH.nil
        refine step_store_box (by rfl) 26 _ _ (by rfl) _ _ _ _ (by rfl) (by rfl) (by first | exact Box.new _ _ _ | exact Box.step (Box.new _ _ _) hb3 | exact Box.step (Box.step (Box.new _ _ _) hb2) hb3 | exact Box.step (Box.step (Box.step (Box.new _ _ _).drew hb1) hb2) hb3) (by rfl) (by kernel_rfl) (by simp [Value.oneCell']) ?_
        intro w4 hbx4 hg4
        have hn4 := below_only (B := g + 1) (a := w0) (by assumption) (by first | omega | (simp; omega)) (by first | omega | (simp; omega)) hg4
        refine hK.out _ _ ?_ (fun hHeld => ?_)
        · exact hn4
        clear hK K
        try simp only [Act.put]
        refine wpAnyH_done (by kernel_rfl) ?_ _
        refine NoPanic.normal ?_
        go_wp2
        go_meet
        exact ⟨_, rfl, by first | omega | (simp; omega), hbx4, hn4⟩
    · go_simp
      refine hK.out _ _ ?_ (fun hHeld => ?_)
      · exact below_alloc (by assumption) hs1 _
      clear hK K
      try simp only [Act.put, List.setIfInBounds_toArray, List.set_cons_zero, List.set_cons_succ]
      refine wpAnyH_ready (rs := [2]) (by kernel_rfl) (by simp) ?_
      refine AllReadyH.cons (o := ⟨some 12, _, _, _, _, _⟩) rfl (fun K hK => ?_) AllReadyH.nil
      go_simp
      refine (H0.out _ _ _ (by assumption) (by omega)).mono ?_
      rintro r w1 ⟨rfl, hb1⟩
      have hn1 := below_step (B := g + 1) (a := w0) (by assumption) hs1 hb1
      have hz1 := hn1.size
      refine hK.out _ _ ?_ (fun hHeld => ?_)
      · exact hn1
      clear hK K
      try simp only [Act.put, List.setIfInBounds_toArray, List.set_cons_zero, List.set_cons_succ]
      refine wpAnyH_ready (rs := [5]) (by kernel_rfl) (by simp) ?_
      refine AllReadyH.cons (o := ⟨some 15, _, _, _, _, _⟩) rfl (fun K hK => ?_) AllReadyH.nil
      go_simp
      refine (H1.out _ _ _ (by assumption) (by omega)).mono ?_
      rintro r w2 ⟨rfl, hb2⟩
      have hn2 := below_step (B := g + 1) (a := w0) (by assumption) hs1 hb2
      have hz2 := hn2.size
      refine hK.out _ _ ?_ (fun hHeld => ?_)
      · exact hn2
      clear hK K
      try simp only [Act.put, List.setIfInBounds_toArray, List.set_cons_zero, List.set_cons_succ]
      refine wpAnyH_ready (rs := [8]) (by kernel_rfl) (by simp) ?_
      refine AllReadyH.cons (o := ⟨some 18, _, _, _, _, _⟩) rfl (fun K hK => ?_) AllReadyH.nil
      go_simp
      refine (H2.out _ _ _ (by assumption) (by omega) (by omega)).mono ?_
      rintro r w3 ⟨rfl, hb3⟩
      have hn3 := below_step (B := g + 1) (a := w0) (by assumption) hs1 hb3
      have hz3 := hn3.size
      refine hK.out _ _ ?_ (fun hHeld => ?_)
      · exact hn3
      clear hK K
      try simp only [Act.put, List.setIfInBounds_toArray, List.set_cons_zero, List.set_cons_succ]
      refine wpAnyH_take (i := 9) (oi := ⟨some 19, _, _, _, _, _⟩) (v := ?rdv9x10) rfl (by kernel_rfl) (by kernel_rfl) (by kernel_rfl) (fun _ _ _ h => h) (Or.inl ⟨by rfl, ?rdy9x10⟩) (by assumption) ?rdr9x10
      case rdy9x10 => intro w hSw; go_simp; try (with_reducible rfl)
      try simp only [Act.put, List.setIfInBounds_toArray, List.set_cons_zero, List.set_cons_succ]
      refine wpAnyH_ready (rs := [11]) (by kernel_rfl) (by simp) ?_
      refine AllReadyH.cons (o := ⟨none, _, _, _, _, _⟩) rfl (fun K hK => ?_) AllReadyH.nil
      refine step_store_box (by rfl) 26 _ _ (by rfl) _ _ _ _ (by rfl) (by rfl) (by first | exact Box.new _ _ _ | exact Box.step (Box.new _ _ _) hb3 | exact Box.step (Box.step (Box.new _ _ _) hb2) hb3 | exact Box.step (Box.step (Box.step (Box.new _ _ _).drew hb1) hb2) hb3) (by rfl) (by kernel_rfl) (by simp [Value.oneCell']) ?_
      intro w4 hbx4 hg4
      have hn4 := below_only (B := g + 1) (a := w0) (by assumption) (by first | omega | (simp; omega)) (by first | omega | (simp; omega)) hg4
      refine hK.out _ _ ?_ (fun hHeld => ?_)
      · exact hn4
      clear hK K
      try simp only [Act.put]
      refine wpAnyH_done (by kernel_rfl) ?_ _
      refine NoPanic.normal ?_
      go_wp2
      go_meet
      exact ⟨_, rfl, by first | omega | (simp; omega), hbx4, hn4⟩
  case rest =>
    obtain ⟨g4, rfl, hg4, hbx, hnx0⟩ := hcut
    clear H0 H1 H2
    have hl4 := hbx.lt
    go_wp2_with fail
    go_loopw [5, 20] (fun _ i wr => ∃ k : Nat, k ≤ 6 ∧ i = .int .i64 k ∧ Box wr g4 26 (partDat l k).cells ∧ Below (g + 1) w0 wr) (fun _ i _ => 6 - (intOf i).toNat)
    case atStart => exact ⟨0, by omega, rfl, hbx, hnx0⟩
    case round =>
      obtain ⟨k, hk, rfl, hbr, hnx⟩ := hrel
      have hsw := hnx.size
      by_cases hlt : k < 6
      · obtain ⟨u, hu⟩ := part_at l k hlt
        have hcu : wr.cell? ⟨g4, 3 + k, none⟩ = some u := (hbr.cell (3 + k)).trans hu
        have hz : wr.frozen? ⟨g4, 3 + k, none⟩ = false := hbr.free (3 + k)
        have HX := Lib.hid hbr
        have hgl := hbr.lt
        have hk8 : ((16 : Int) + 8 * (k : Int)) < (c : Int) := by omega
        have hk64 : ((16 : Int) + 8 * (k : Int)) ≤ 64 := by omega
        have hkn : ((16 : Int) + 8 * (k : Int)).toNat = 16 + 8 * k := by omega
        clear hu hbr hbx
        have hcl : ∀ j, j < 8 → wr.cell? ⟨b, o + (16 + 8 * k) + j, none⟩ = some (byteV (l.getD (16 + 8 * k + j) 0)) := fun j hj => by
          rw [Nat.add_assoc]
          exact HCL.out wr hnx (16 + 8 * k + j) (by omega)
        have HCR := Lib.hid hcl
        clear hcl
        go_wp2_with fail
        refine (to_below (eight_any b (o + (16 + 8 * k)) _ _ l (16 + 8 * k) _ (by omega) (by omega) (by have := HLEN.out; omega) HCR.out)).mono ?_
        rintro r w5 ⟨rfl, hb5⟩
        obtain ⟨V, hV⟩ : ∃ V, V = seg l (16 + 8 * k) 8 := ⟨_, rfl⟩
        rw [← hV]
        have HV := Lib.hid hV
        clear hV HCR
        have hnx5 := below_step hnx hs1 hb5
        have hbx5 := HX.out.step hb5
        have hcu5 := (hbx5.cell (3 + k)).trans ((HX.out.cell (3 + k)).symm.trans hcu)
        have hz5 : w5.frozen? ⟨g4, 3 + k, none⟩ = false := hbx5.free (3 + k)
        have HX5 := Lib.hid hbx5
        clear hbx5 HX hb5 hcu hz hnx
        go_wp2
        go_roundw
        case rel => exact ⟨k + 1, by omega, by go_num, by rw [← part_step l k hlt, ← HV.out]; exact HX5.out.set (3 + k) _, hnx5.setCell (p := ⟨g4, 3 + k, none⟩) hg4 _⟩
        case measure => simp [intOf]; omega
      · obtain rfl : k = 6 := by omega
        have hb0 : Box wr g 26 _ := HB.out.below hnx (by omega)
        rw [part_all] at hbr
        have x0 := hbr.cell 0
        have x1 := hbr.cell 1
        have x2 := hbr.cell 2
        have x3 := hbr.cell 3
        have x4 := hbr.cell 4
        have x5 := hbr.cell 5
        have x6 := hbr.cell 6
        have x7 := hbr.cell 7
        have x8 := hbr.cell 8
        have y0 := hb0.cell 0
        have y1 := hb0.cell 1
        have y2 := hb0.cell 2
        have y3 := hb0.cell 3
        have y4 := hb0.cell 4
        have y5 := hb0.cell 5
        have y6 := hb0.cell 6
        have y7 := hb0.cell 7
        have y8 := hb0.cell 8
        have z0 : ∀ j, wr.frozen? ⟨g, j, none⟩ = false := fun j => hb0.free j
        simp only [readDat, Dat.cells] at x0 x1 x2 x3 x4 x5 x6 x7 x8
        have hgl := hb0.lt
        clear hb0 hbr hbx
        go_wp2
        rw [HD.out, HC.out]
        refine bodyPost_ret (v := .tuple #[(readDat l).val, .int .i64 0]) (by simp [results, Try.results6, go_sem, readDat, Dat.val, Dat.cells, *]) rfl ⟨rfl, ?_⟩
        have eg := HG.out
        subst eg
        have hfin : Below w.heap.size w wr := hbw.trans (hnx.mono (by omega))
        exact ((((((((hfin.setCell (Nat.le_refl _) _).setCell (Nat.le_refl _) _).setCell (Nat.le_refl _) _).setCell (Nat.le_refl _) _).setCell (Nat.le_refl _) _).setCell (Nat.le_refl _) _).setCell (Nat.le_refl _) _).setCell (Nat.le_refl _) _).setCell (Nat.le_refl _) _

theorem recRead_any (A : Option Addr) (n c : Nat) (l : List UInt8) (w : World) (hl : Lies w w.heap.size 1 A n (bytesV l)) (hnc : n ≤ c) :
    Calls Try.prog 6 #[.slice A n c] w (DatPair (datOf l) (datCode l) w) := by
  by_cases h64 : n = 64
  · subst h64
    obtain ⟨b, o, rfl, hb, hc⟩ := hl.2 (by omega)
    have hlen : l.length = 64 := by have := hl.1; rw [bytesV_length] at this; omega
    exact recRead_yes b o c l w hb hlen hnc fun j hj => hc j _ (byte_at l j (by omega))
  · exact recRead_not A n c l w hl h64

end Go.Proofs.Ythcmbfeifehilaa
