/- What package spot's functions give, as the code landed. -/
import Derived.Test.YtfhpdfekoklokaaSpotBegin
namespace Go.Proofs.Ytfhpdfekoklokaa
open Go.RowKit

set_option maxRecDepth 100000 in
set_option maxHeartbeats 1000000 in
theorem place_any (s : ByteArray) (re im : Nat) (w : World) (hs : s.size ≤ 1099511627776) :
    Calls Try.prog 8 #[.string s, .complex .f64 re im] w fun e w' => e = .returned (.tuple #[.int .i64 ((placeOf s.data.toList re im).1 : Int), .bool (placeOf s.data.toList re im).2]) ∧ w = w' := by
  have hz : s.data.toList.length = s.size := by simp
  obtain ⟨R, hR⟩ : ∃ R, R = placeOf s.data.toList re im := ⟨_, rfl⟩
  rw [← hR]
  have H1 : Hid (∀ W : World, Calls Try.prog 14 #[.float .f64 re, .int .i64 ((s.size : Int) + 1)] W fun e w' => ∃ (n : Nat) (ok : Bool), e = .returned (.tuple #[.int .i64 (n : Int), .bool ok]) ∧ PartIs re (s.size + 1) n ok ∧ W = w') := fun W => part_any re (s.size + 1) W (by omega) (by omega)
  have H2 : Hid (∀ W : World, Calls Try.prog 14 #[.float .f64 im, .int .i64 ((s.size : Int) + 1)] W fun e w' => ∃ (n : Nat) (ok : Bool), e = .returned (.tuple #[.int .i64 (n : Int), .bool ok]) ∧ PartIs im (s.size + 1) n ok ∧ W = w') := fun W => part_any im (s.size + 1) W (by omega) (by omega)
  have N1 : Hid ((∀ k : Nat, 1 ≤ k → k ≤ s.size + 1 → feq (fl (k : Int)) re = false) → R = (0, false)) := fun h => by
    rw [hR]
    refine place_none _ _ _ fun j hj => .inl ?_
    obtain ⟨d1, _, d3, _⟩ := posAt_bd s.data.toList j hj
    exact h _ d1 (by omega)
  have N2 : Hid ((∀ k : Nat, 1 ≤ k → k ≤ s.size + 1 → feq (fl (k : Int)) im = false) → R = (0, false)) := fun h => by
    rw [hR]
    refine place_none _ _ _ fun j hj => .inr ?_
    obtain ⟨_, d2, _, d4⟩ := posAt_bd s.data.toList j hj
    exact h _ d2 (by omega)
  have N3 : Hid (∀ line : Nat, 1 ≤ line → line ≤ s.size + 1 → feq (fl (line : Int)) re = true → (∀ j : Nat, j ≤ s.data.toList.length → (posFrom (1, 1) (s.data.toList.take j)).1 < line) → R = (0, false)) := fun line l1 l2 f1 h => by
    rw [hR]
    refine place_none _ _ _ fun j hj => .inl ?_
    obtain ⟨d1, _, d3, _⟩ := posAt_bd s.data.toList j hj
    cases hq : feq (fl ((posAt s.data.toList j).1 : Int)) re with
    | false => rfl
    | true =>
      have e := feq_inj re _ _ d1 (by omega) l1 (by omega) hq f1
      have := h j hj
      rw [posAt_take _ j hj] at e
      omega
  have N4 : Hid (∀ line col b : Nat, 1 ≤ line → line ≤ s.size + 1 → 1 ≤ col → col ≤ s.size + 1 → feq (fl (line : Int)) re = true → feq (fl (col : Int)) im = true → b ≤ s.data.toList.length → posFrom (1, 1) (s.data.toList.take b) = (line, 1) →
      (spotIs s.data.toList re im (b + col - 1) = true → R = (b + col - 1, true)) ∧ (spotIs s.data.toList re im (b + col - 1) = false → R = (0, false))) := fun line col b l1 l2 c1 c2 f1 f2 hb hp => by
    rw [hR]
    exact place_at _ re im line col b (by omega) l1 (by omega) c1 (by omega) f1 f2 hb hp
  clear hR
  go_enter Try.func8, Try.ntmps8
  go_wp2_with fail
  refine (H1.out _).mono ?_
  rintro r w1 ⟨line, ok, rfl, hline, rfl⟩
  go_wp2_with fail
  refine (H2.out _).mono ?_
  rintro r w1 ⟨col, ok2, rfl, hcol, rfl⟩
  rcases hline with ⟨rfl, l1, l2, f1⟩ | ⟨rfl, rfl, hno⟩
  · rcases hcol with ⟨rfl, c1, c2, f2⟩ | ⟨rfl, rfl, hno⟩
    · go_wp2_with fail
      refine (begin_any s line _ hs l1 (by omega)).mono ?_
      rintro r w1 ⟨b, ok, rfl, hbeg, rfl⟩
      rcases hbeg with ⟨rfl, hb, hp⟩ | ⟨rfl, rfl, hno⟩
      · obtain ⟨hy, hn⟩ := N4.out line col b l1 l2 c1 c2 f1 f2 hb hp
        have hbs : b ≤ s.size := by omega
        obtain ⟨P, hP⟩ : ∃ P, P = posAt s.data.toList ((b + col - 1 : Nat) : Int) := ⟨_, rfl⟩
        have HA : Hid (∀ W : World, Calls Try.prog 10 #[.string s, .int .i64 ((b : Int) + (col : Int) - 1)] W fun e w' => e = .returned (.complex .f64 (fl (P.1 : Int)) (fl (P.2 : Int))) ∧ W = w') := fun W => by rw [hP, show (b : Int) + (col : Int) - 1 = ((b + col - 1 : Nat) : Int) from by omega]; exact at_any s _ W hs (by omega) (by omega)
        unfold spotIs at hy hn
        rw [← hP] at hy hn
        have HY := Lib.hid hy
        have HX := Lib.hid hn
        clear hy hn hP hp hb f1 f2
        cases q1 : feq (fl (P.1 : Int)) re with
        | true =>
          cases q2 : feq (fl (P.2 : Int)) im with
          | true =>
            have HR := Lib.hid (HY.out (by rw [q1, q2]; rfl))
            have HE : Hid (((b + col - 1 : Nat) : Int) = (b : Int) + (col : Int) - 1) := by unfold Hid; omega
            unfold feq at q1 q2
            go_wp2_with fail
            refine (HA.out _).mono ?_
            rintro r w1 ⟨rfl, rfl⟩
            go_wp2
            go_ret2
            exact ⟨by rw [HR.out]; simp only; rw [HE.out]; rfl, rfl⟩
          | false =>
            have HR := Lib.hid (HX.out (by rw [q1, q2]; rfl))
            unfold feq at q1 q2
            go_wp2_with fail
            refine (HA.out _).mono ?_
            rintro r w1 ⟨rfl, rfl⟩
            go_wp2
            go_ret2
            exact ⟨by rw [HR.out]; rfl, rfl⟩
        | false =>
          have HR := Lib.hid (HX.out (by rw [q1]; rfl))
          unfold feq at q1
          go_wp2_with fail
          refine (HA.out _).mono ?_
          rintro r w1 ⟨rfl, rfl⟩
          go_wp2
          all_goals
            go_ret2
            exact ⟨by rw [HR.out]; rfl, rfl⟩
      · have HR := Lib.hid (N3.out line l1 l2 f1 hno)
        clear hno f1 f2
        go_wp2
        go_ret2
        exact ⟨by rw [HR.out]; rfl, rfl⟩
    · have HR := Lib.hid (N2.out hno)
      clear hno f1
      go_wp2
      go_ret2
      exact ⟨by rw [HR.out]; rfl, rfl⟩
  · have HR := Lib.hid (N1.out hno)
    clear hno hcol
    go_wp2
    go_ret2
    exact ⟨by rw [HR.out]; rfl, rfl⟩

theorem spot_says : SpotSays where
  at_ := fun s i w hs i0 i1 => (at_any s i w hs i0 i1).mono fun _ w' h => ⟨h.1, by rw [← h.2]; exact Below.refl _ _⟩
  place := fun s re im w hs => (place_any s re im w hs).mono fun _ w' h => ⟨h.1, by rw [← h.2]; exact Below.refl _ _⟩
  behind := fun p s w hs p1 p2 p3 p4 => (behind_any p s w hs p1 p2 p3 p4).mono fun _ w' h => ⟨h.1, by rw [← h.2]; exact Below.refl _ _⟩

end Go.Proofs.Ytfhpdfekoklokaa
