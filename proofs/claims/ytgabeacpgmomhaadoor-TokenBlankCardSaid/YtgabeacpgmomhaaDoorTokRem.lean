/- What the landed token's comment gives. No condition. -/
import Derived.Test.YtgabeacpgmomhaaDoorTokRun
namespace Go.Proofs.YtgabeacpgmomhaaDoor
open Go.RowKit

/-- What a '/' begins. -/
def remarkL (r : List UInt8) : Option (Int × List UInt8 × Nat) :=
  if beginsL [47, 47] r then some (0, [], runLen (fun x => !(x == 10)) r)
  else if beginsL [47, 42] r then ((endOf (r.drop 2)).map (· + 2)).map fun n => (0, [], n)
  else none

theorem begins_is (a b : UInt8) (r : List UInt8) : ([a, b] : List UInt8).isPrefixOf r = beginsL [a, b] r := by
  unfold beginsL
  match r with
  | [] => rfl
  | [x] => simp [List.isPrefixOf]
  | x :: y :: t => simp [List.isPrefixOf, Bool.beq_eq_decide_eq, eq_comm]

set_option maxRecDepth 100000 in
set_option maxHeartbeats 4000000 in
theorem remark_any (s : ByteArray) (hs : s.size ≤ 1000000) (w : World) (hL : Laid w) :
    Calls Tryd.prog 24 #[.string s] w (PieceRes (remarkL s.data.toList) w) := by
  have HP : Hid (∀ W : World, Calls Tryd.prog 38 #[.string s, .string ⟨#[47, 47]⟩] W fun e w' => e = .returned (.bool (beginsL [47, 47] s.data.toList)) ∧ W = w') := fun W => by
    have := prefix_any s ⟨#[47, 47]⟩ W
    rwa [show (⟨#[47, 47]⟩ : ByteArray).data.toList = [47, 47] from rfl, begins_is] at this
  have HC : Hid (∀ W : World, Calls Tryd.prog 41 #[.string s, .string ⟨#[47, 42]⟩] W fun e w' => e = .returned (if beginsL [47, 42] s.data.toList = true then .tuple #[.string (s.extract 2 s.size), .bool true] else .tuple #[.string s, .bool false]) ∧ W = w') := fun W => by
    have := cutPrefix_any s W
    rwa [begins_is] at this
  obtain ⟨V, hV⟩ : ∃ V, V = remarkL s.data.toList := ⟨_, rfl⟩
  rw [← hV]
  unfold remarkL at hV
  obtain ⟨hbx0, hn0⟩ := piece_start w
  have HBX := Lib.hid hbx0
  have HN0 := Lib.hid hn0
  clear hbx0 hn0
  cases h1 : beginsL [47, 47] s.data.toList
  · rw [h1] at HP hV
    rw [if_neg (by decide)] at hV
    cases h2 : beginsL [47, 42] s.data.toList
    · rw [h2, if_neg (by decide)] at HC
      rw [h2, if_neg (by decide)] at hV
      subst hV
      have HIX : Hid (∀ W : World, Below w.heap.size w W → Calls Tryd.prog 36 #[.string s, .string ⟨#[42, 47]⟩] W fun e w' => (∃ n : Int, e = .returned (.int .i64 n)) ∧ W = w') := fun W hW => (index_any s ⟨#[42, 47]⟩ W (hL.below hW) hs).mono fun _ _ ⟨h3, h4⟩ => ⟨⟨_, h3⟩, h4⟩
      clear h1 h2 hL
      go_enter Tryd.func24, Tryd.ntmps24
      go_wp2_with fail
      generalize hw0 : w.alloc (.cells #[.int .i64 0, .string ⟨#[]⟩, .int .i64 0] 45) = w0 at *
      clear hw0
      obtain ⟨c0, c1, c2, f0, f1, f2, g0⟩ := box_cells HBX.out
      refine (HP.out _).mono ?_
      rintro r w1 ⟨rfl, rfl⟩
      go_wp2_with fail
      refine (HC.out _).mono ?_
      rintro r w1 ⟨rfl, rfl⟩
      go_wp2_with fail
      refine (HIX.out _ HN0.out).mono ?_
      rintro r w1 ⟨⟨n, rfl⟩, rfl⟩
      go_wp2_with fail
      exact bodyPost_ret (results_box_tmp rfl _ _ w.heap.size 45 _ rfl (box_trio HBX.out) _ Tryd.underlying45 rfl pieceSize) rfl ⟨rfl, set3_below (Nat.le_refl _) HN0.out _ _ _⟩
    · rw [h2, if_pos rfl] at HC
      rw [h2, if_pos rfl, end_is] at hV
      have hge := Lib.index_ge (s.data.toList.drop 2) [42, 47]
      have h2s : 2 ≤ s.size := by
        have := begins_len h2
        rw [← Lib.size_eq] at this
        exact this
      have HIX : Hid (∀ W : World, Below w.heap.size w W → Calls Tryd.prog 36 #[.string (s.extract 2 s.size), .string ⟨#[42, 47]⟩] W fun e w' => e = .returned (.int .i64 (Lib.index (s.data.toList.drop 2) [42, 47])) ∧ W = w') := fun W hW => by
        have := index_any (s.extract 2 s.size) ⟨#[42, 47]⟩ W (hL.below hW) (by simp; omega)
        rwa [ext_drop] at this
      have hfar := end_is (s.data.toList.drop 2)
      clear h1 h2 hL
      by_cases hm : Lib.index (s.data.toList.drop 2) [42, 47] = -1
      · rw [hm] at HIX
        rw [if_pos hm] at hV
        have hV2 : V = none := hV
        subst hV2
        clear hV hm hge hfar
        go_enter Tryd.func24, Tryd.ntmps24
        go_wp2_with fail
        generalize hw0 : w.alloc (.cells #[.int .i64 0, .string ⟨#[]⟩, .int .i64 0] 45) = w0 at *
        clear hw0
        obtain ⟨c0, c1, c2, f0, f1, f2, g0⟩ := box_cells HBX.out
        refine (HP.out _).mono ?_
        rintro r w1 ⟨rfl, rfl⟩
        go_wp2_with fail
        refine (HC.out _).mono ?_
        rintro r w1 ⟨rfl, rfl⟩
        go_wp2_with fail
        refine (HIX.out _ HN0.out).mono ?_
        rintro r w1 ⟨rfl, rfl⟩
        go_wp2_with fail
        exact bodyPost_ret (results_box_tmp rfl _ _ w.heap.size 45 _ rfl (box_trio HBX.out) _ Tryd.underlying45 rfl pieceSize) rfl ⟨rfl, set3_below (Nat.le_refl _) HN0.out _ _ _⟩
      · obtain ⟨n, hn⟩ : ∃ n : Nat, Lib.index (s.data.toList.drop 2) [42, 47] = (n : Int) := ⟨(Lib.index (s.data.toList.drop 2) [42, 47]).toNat, by omega⟩
        rw [hn] at HIX
        rw [if_neg hm, hn, Int.toNat_natCast] at hV
        rw [if_neg hm, hn, Int.toNat_natCast] at hfar
        have hle := end_len _ _ hfar
        rw [List.length_drop, ← Lib.size_eq] at hle
        have hV2 : V = some (0, [], n + 2 + 2) := hV
        have HV := Lib.hid hV2
        have hnI : (n : Int) ≤ 1000000 := by omega
        clear hV hV2 hm hge hfar hn hle
        go_enter Tryd.func24, Tryd.ntmps24
        go_wp2_with fail
        generalize hw0 : w.alloc (.cells #[.int .i64 0, .string ⟨#[]⟩, .int .i64 0] 45) = w0 at *
        clear hw0
        obtain ⟨c0, c1, c2, f0, f1, f2, g0⟩ := box_cells HBX.out
        refine (HP.out _).mono ?_
        rintro r w1 ⟨rfl, rfl⟩
        go_wp2_with fail
        refine (HC.out _).mono ?_
        rintro r w1 ⟨rfl, rfl⟩
        go_wp2_with fail
        refine (HIX.out _ HN0.out).mono ?_
        rintro r w1 ⟨rfl, rfl⟩
        go_wp2_with fail
        have hsum : (2 : Int) + (n : Int) + 2 = ((n + 2 + 2 : Nat) : Int) := by omega
        exact bodyPost_ret (results_box_tmp rfl _ _ w.heap.size 45 _ rfl (box_trio HBX.out) _ Tryd.underlying45 rfl pieceSize) rfl ⟨by rw [HV.out]; dsimp only [pcCells]; rw [← hsum]; rfl, set3_below (Nat.le_refl _) HN0.out _ _ _⟩
  · rw [h1] at HP hV
    rw [if_pos rfl] at hV
    have HLN : Hid (∀ W : World, Below w.heap.size w W → Calls Tryd.prog 40 #[.string s, .string ⟨#[10]⟩] W fun e w' => (∃ (a b : ByteArray) (c : Bool), e = .returned (.tuple #[.string a, .string b, .bool c]) ∧ a.size = runLen (fun x => !(x == 10)) s.data.toList) ∧ Below W.heap.size W w') := fun W hW => line_any s W (hL.below hW) hs
    have HV := Lib.hid hV
    clear h1 hL hV
    go_enter Tryd.func24, Tryd.ntmps24
    go_wp2_with fail
    generalize hw0 : w.alloc (.cells #[.int .i64 0, .string ⟨#[]⟩, .int .i64 0] 45) = w0 at *
    clear hw0
    refine (HP.out _).mono ?_
    rintro r w1 ⟨rfl, rfl⟩
    go_wp2_with fail
    refine (HLN.out _ HN0.out).mono ?_
    rintro r w1 ⟨⟨a, b, c, rfl, ha⟩, hb1⟩
    have HA := Lib.hid ha
    have HBX1 := Lib.hid (HBX.out.step hb1)
    have HN1 := Lib.hid (below_step HN0.out (Nat.le_refl _) hb1)
    obtain ⟨c0, c1, c2, f0, f1, f2, g0⟩ := box_cells HBX1.out
    clear hb1 ha
    go_wp2_with fail
    exact bodyPost_ret (results_box_tmp rfl _ _ w.heap.size 45 _ rfl (box_trio HBX1.out) _ Tryd.underlying45 rfl pieceSize) rfl ⟨by rw [HV.out, ← HA.out]; rfl, set3_below (Nat.le_refl _) HN1.out _ _ _⟩

end Go.Proofs.YtgabeacpgmomhaaDoor
