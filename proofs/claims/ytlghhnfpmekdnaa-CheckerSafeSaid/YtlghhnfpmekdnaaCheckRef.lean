/- What the document's own Check gives. -/
import Derived.Test.YtlghhnfpmekdnaaAheadRef
import Derived.Deep.CutBlock
namespace Go.Proofs.Ytlghhnfpmekdnaa
open Go.RowKit

/-- A load of a cell that is not surely stored. -/
def badLoad (x : Ins) (m : Int) : Bool := (x.code == 96 || x.code == 97) && (bits .and .i64 (m / 2 ^ x.k.toNat) 1 == 0)
def badAt (l : List Ins) (out : List Int) (i : Nat) : Bool := match l[i]? with
  | none => false
  | some x => badLoad x (out.getD i 0)
/-- The first that is refused by all but what is stored; how many, if none is. -/
def mostOf (l : List Ins) : Nat := ((List.range l.length).find? (refusedAt l)).getD l.length
def outOf (l : List Ins) : List Int := masks (l.take (mostOf l)) (startMask (l.length + 1)) (mostOf l)
def checkOf (l : List Ins) : Int × Bool :=
  if l.length = 0 ∨ 4096 < l.length then (0, false)
  else match (List.range (mostOf l)).find? (badAt l (outOf l)) with
    | some i => ((i : Int), false)
    | none => if mostOf l < l.length then ((mostOf l : Int), false) else (-1, true)

theorem find_range_some (p : Nat → Bool) (n k : Nat) (hk : k < n) (hp : p k = true) (hb : ∀ j, j < k → p j = false) : (List.range n).find? p = some k := by
  rw [List.find?_range_eq_some]
  exact ⟨hp, List.mem_range.2 hk, fun j hj => by rw [hb j hj]; rfl⟩

theorem find_range_none (p : Nat → Bool) (n : Nat) (hb : ∀ j, j < n → p j = false) : (List.range n).find? p = none := by
  rw [List.find?_eq_none]
  intro j hj
  rw [hb j (List.mem_range.1 hj)]
  decide

theorem most_some (l : List Ins) (k : Nat) (hk : k < l.length) (hp : refusedAt l k = true) (hb : ∀ j, j < k → refusedAt l j = false) : mostOf l = k := by
  unfold mostOf
  rw [find_range_some _ _ k hk hp hb]
  rfl
theorem most_all (l : List Ins) (hb : ∀ j, j < l.length → refusedAt l j = false) : mostOf l = l.length := by
  unfold mostOf
  rw [find_range_none _ _ hb]
  rfl

theorem cells_take (l : List Ins) (k : Nat) (h : k ≤ l.length) : cellsOf (l.take k) = (cellsOf l).take (4 * k) := by
  have e2 : cellsOf l = cellsOf (l.take k) ++ cellsOf (l.drop k) := by
    unfold cellsOf
    rw [← List.flatMap_append, List.take_append_drop]
  rw [e2, List.take_left' (by rw [cells_len]; simp; omega)]

/-- A beginning of a slice. -/
theorem Lies.front {w : World} {B size n m : Nat} {A : Option Addr} {xs : List Value} (h : Lies w B size A n xs) (hm : m ≤ n) : Lies w B size A m (xs.take (m * size)) := by
  refine ⟨?_, fun h0 => ?_⟩
  · rw [List.length_take, h.1]
    exact Nat.min_eq_left (Nat.mul_le_mul_right _ hm)
  · obtain ⟨b, o, e, hb, hc⟩ := h.2 (by omega)
    refine ⟨b, o, e, hb, fun j u hu => hc j u ?_⟩
    rw [List.getElem?_take] at hu
    split at hu
    · exact hu
    · cases hu

theorem Try.infoInsK : (Try.prog.info? 39).map (fun i => (i.zero, i.size, i.bytes)) = some (some (.agg #[.int .i64 0, .int .i64 0, .int .i64 0, .int .u32 0]), 4, 32) := by kernel_rfl

/-- What a function that hands back an integer and a bool gives. -/
def IntBool (t : Int × Bool) (w : World) : Ending → World → Prop := fun r w' => r = .returned (.tuple #[.int .i64 t.1, .bool t.2]) ∧ Below w.heap.size w w'

set_option maxRecDepth 100000 in
set_option maxHeartbeats 2000000 in
theorem refCheck_in (A : Option Addr) (n c : Nat) (l : List Ins) (w : World) (hl : Lies w w.heap.size 4 A n (cellsOf l)) (hnc : n ≤ c) (hok : ∀ y ∈ l, y.Ok) (h1 : 1 ≤ n) (h2 : n ≤ 4096) :
    Calls Try.prog 10 #[.slice A n c] w (IntBool (checkOf l) w) := by
  obtain ⟨i0, hi, hz0, hz1, hz2⟩ := info_parts Try.infoInsK
  have hln : l.length = n := by have := hl.1; rw [cells_len] at this; omega
  have HLN := Lib.hid hln
  have HOK := Lib.hid hok
  have HL := Lib.hid hl
  have H1 : Hid (∀ k, k < n → refusedAt l k = true → (∀ j, j < k → refusedAt l j = false) → mostOf l = k) := fun k hk hp hb => most_some l k (by omega) hp hb
  have H2 : Hid ((∀ j, j < n → refusedAt l j = false) → mostOf l = n) := fun hb => by rw [most_all l (fun j hj => hb j (by omega)), hln]
  have HFI : Hid (∀ (k : Nat) (x : Ins), l[k]? = some x → refusedAt l k = false → Fine x ((n : Int) - 1 - (k : Int))) := fun k x hx hr => by
    have := refused_fine l hok k x hx hr
    rw [hln] at this
    exact this
  have HCK : Hid (checkOf l = match (List.range (mostOf l)).find? (badAt l (outOf l)) with
    | some i => ((i : Int), false)
    | none => if mostOf l < n then ((mostOf l : Int), false) else (-1, true)) := by
    show _ = _
    rw [checkOf, hln, if_neg (by omega)]
  have HOU : Hid (outOf l = masks (l.take (mostOf l)) (startMask (n + 1)) (mostOf l)) := by
    show _ = _
    rw [outOf, hln]
  have b0 : ((n : Int) == 0) = false := by rw [beq_eq_false_iff_ne]; omega
  have b1 : decide ((4096 : Int) < (n : Int)) = false := decide_eq_false (by omega)
  clear hln hok hl
  go_enter Try.func10, Try.ntmps10
  go_upto_block 0 with (fail)
  go_cut [4] (fun v4 wx => ∃ F : Int, v4 = .int .i64 F ∧ Hid ((F = -1 ∧ mostOf l = n) ∨ (F = (mostOf l : Int) ∧ mostOf l < n)) ∧ Hid (∀ j, j < mostOf l → refusedAt l j = false) ∧ Below w.heap.size w wx)
  case first =>
    go_wp2_with fail
    go_loopw [4, 5] (fun v i wr => ∃ (k : Nat) (F : Int), k ≤ n ∧ i = .int .i64 k ∧ v = .int .i64 F ∧ Hid ((F = -1 ∧ ∀ j, j < k → refusedAt l j = false) ∨ (F = (mostOf l : Int) ∧ mostOf l < n ∧ ∀ j, j < mostOf l → refusedAt l j = false)) ∧ -1 ≤ F ∧ F ≤ n ∧ Below w.heap.size w wr) (fun _ i _ => n - (intOf i).toNat)
    case atStart => exact ⟨0, -1, by omega, rfl, rfl, .inl ⟨rfl, fun j hj => absurd hj (by omega)⟩, by omega, by omega, Below.refl _ _⟩
    case round =>
      obtain ⟨k, F, hk, rfl, rfl, HS, f0, f1, hnx⟩ := hrel
      by_cases hF : F < 0
      · obtain rfl : F = -1 := by omega
        have HB : Hid (∀ j, j < k → refusedAt l j = false) := by
          rcases HS.out with ⟨_, h⟩ | ⟨h, _⟩
          · exact h
          · omega
        by_cases hlt : k < n
        · have hlr : Lies wr wr.heap.size 4 A n (cellsOf l) := (HL.out.below hnx).wider hnx.size
          cases hr : refusedAt l k
          all_goals
            have HRK := Lib.hid hr
            clear hr
            go_wp2_with fail
            refine (refused_any A n c k l _ hlr HOK.out hlt (by omega)).mono ?_
            rw [HRK.out]
            rintro r w2 ⟨rfl, hb2⟩
            have hnx2 := below_step hnx (Nat.le_refl _) hb2
            clear hnx hb2 hlr
            go_wp2
            go_roundw
          case rel =>
            refine ⟨k + 1, -1, by omega, by go_num, rfl, .inl ⟨rfl, fun j hj => ?_⟩, by omega, by omega, hnx2⟩
            by_cases e : j = k
            · rw [e]; exact HRK.out
            · exact HB.out j (by omega)
          case measure => simp [intOf]; omega
          case rel =>
            have hm := H1.out k hlt HRK.out HB.out
            exact ⟨k + 1, k, by omega, by go_num, rfl, .inr ⟨by rw [hm], by omega, by rw [hm]; exact HB.out⟩, by omega, by omega, hnx2⟩
          case measure => simp [intOf]; omega
        · obtain rfl : k = n := by omega
          have hm := Lib.hid (H2.out HB.out)
          go_wp2
          go_meet
          exact ⟨-1, rfl, .inl ⟨rfl, hm.out⟩, by rw [hm.out]; exact HB, hnx⟩
      · have HB : Hid (F = (mostOf l : Int) ∧ mostOf l < n ∧ ∀ j, j < mostOf l → refusedAt l j = false) := by
          rcases HS.out with ⟨h, _⟩ | h
          · omega
          · exact h
        by_cases hlt : k < n
        all_goals
          go_wp2
          go_meet
          exact ⟨F, rfl, .inr ⟨HB.out.1, HB.out.2.1⟩, HB.out.2.2, hnx⟩
  case rest =>
    obtain ⟨F, rfl, HF, HALL, hnx⟩ := hcut
    obtain ⟨most, hmost⟩ : ∃ most, most = mostOf l := ⟨_, rfl⟩
    rw [← hmost] at HF HALL HCK HOU
    have hle : most ≤ n := by rcases HF.out with h | h <;> omega
    clear hmost H1 H2
    go_upto_if 35 with (fail)
    go_cut [6] (fun s6 wx => s6 = .int .i64 (most : Int) ∧ Below w.heap.size w wx)
    case first =>
      rcases HF.out with ⟨rfl, h⟩ | ⟨rfl, h⟩
      · go_wp2
        go_meet
        exact ⟨by rw [h], hnx⟩
      · go_wp2
        go_meet
        exact ⟨rfl, hnx⟩
    case rest =>
      obtain ⟨rfl, hnx'⟩ := hcut
      clear hnx
      have hlr : Lies wc w.heap.size 4 A n (cellsOf l) := HL.out.below hnx'
      have hlf : Lies wc w.heap.size 4 A most (cellsOf (l.take most)) := by
        rw [cells_take l most (by have := HLN.out; omega), Nat.mul_comm]
        exact hlr.front hle
      have hsz := hnx'.size
      have HLR := Lib.hid hlr
      clear hlr
      go_wp2_with (at_builtin; go_loud (refine wpList_append_lies _ rfl (.const (.slice none 0 0)) (.tmp 39) _ rfl w.heap.size 39 i0 _ 4 32 Try.underlying22 hi hz0 hz1 hz2 rfl (by omega) (.slice none 0 0) 0 [] rfl (World.ownsRow_nil _ _ _ _) _ A most _ _ rfl hlf (cells_one _) (by unfold maxLen; omega) (by omega) (by omega) ?_))
      intro v5 w5 hown5 hg5
      have hn5 : Below w.heap.size w w5 := below_grown hnx' (World.ownsRow_nil wc w.heap.size 39 4) (Nat.le_refl _) (by omega) hg5
      have hl5 : Lies w5 w.heap.size 4 A n (cellsOf l) := HL.out.below hn5
      obtain ⟨A1, c1, rfl, hc1, hl1⟩ := own_form hown5
      clear hown5 hg5 hnx' hlf hi hz0 hz1 hz2
      go_wp2_with fail
      refine (refAhead_any A1 _ c1 n (l.take most) _ hl1 (fun y hy => HOK.out y (List.mem_of_mem_take hy)) hle h2 (fun i x hx => ?_)).mono ?_
      · have hx' : l[i]? = some x ∧ i < most := by
          rw [List.getElem?_take] at hx
          split at hx
          · exact ⟨hx, by omega⟩
          · cases hx
        exact HFI.out i x hx'.1 (HALL.out i (by rename_i hm; omega))
      rw [← HOU.out]
      rintro r w6 ⟨v6, rfl, hown6, hb6⟩
      have hn6 := below_step hn5 (Nat.le_refl _) hb6
      obtain ⟨A2, c2, rfl, hc2, hl2⟩ := own_form hown6
      have HLL : Hid (Lies w6 w6.heap.size 4 A n (cellsOf l)) := (HL.out.below hn6).wider hn6.size
      have hlo : (outOf l).length = n + 1 := by rw [HOU.out, masks_len, start_len]
      have HLO := Lib.hid hlo
      have HL2 := Lib.hid hl2
      have hs6 := hn6.size
      clear hown6 hb6 hn5 hl5 hl1 hl2 hlo
      go_wp2_with fail
      go_loopw [9] (fun i wr => ∃ k : Nat, k ≤ most ∧ i = .int .i64 k ∧ Hid (∀ j, j < k → badAt l (outOf l) j = false) ∧ Below w6.heap.size w6 wr) (fun i _ => most - (intOf i).toNat)
      case atStart => exact ⟨0, by omega, rfl, fun j hj => absurd hj (by omega), Below.refl _ _⟩
      case round =>
        obtain ⟨k, hk, rfl, HB, hnx⟩ := hrel
        have hgo := below_step hn6 (Nat.le_refl _) hnx
        by_cases hlt : k < most
        · obtain ⟨x, hx⟩ : ∃ x, l[k]? = some x := ⟨_, List.getElem?_eq_getElem (by have := HLN.out; omega)⟩
          have hfine := HFI.out k x hx (HALL.out k hlt)
          have hxo := HOK.out x (List.mem_of_getElem? hx)
          obtain ⟨a0, a1, a2, a3⟩ := cell_at l k x hx
          obtain ⟨bi, oi, rfl, hbi, hci⟩ := HLL.out.2 (by omega)
          obtain ⟨bo, oo, rfl, hbo, hco⟩ := HL2.out.2 (by omega)
          have e0 := (hnx.cell (p := ⟨bi, oi + k * 4, none⟩) hbi).trans (hci _ _ a0)
          have e3 := (hnx.cell (p := ⟨bi, oi + (k * 4 + 3), none⟩) hbi).trans (hci _ _ a3)
          rw [← Nat.add_assoc] at e3
          have e9 := (hnx.cell (p := ⟨bo, oo + k, none⟩) hbo).trans (hco k (.int .i64 ((outOf l).getD k 0)) (by
            rw [List.getElem?_map, List.getElem?_eq_getElem (show k < (outOf l).length by have := HLO.out; omega)]
            simp [List.getD, List.getElem?_eq_getElem (show k < (outOf l).length by have := HLO.out; omega)]))
          have HBA : Hid (badAt l (outOf l) k = badLoad x ((outOf l).getD k 0)) := by
            show _ = _
            rw [badAt, hx]
          obtain ⟨mo, hmo⟩ : ∃ mo, mo = (outOf l).getD k 0 := ⟨_, rfl⟩
          rw [← hmo] at e9 HBA
          clear hmo a0 a1 a2 a3 hci hco hx
          obtain ⟨code, jt, jf, kk⟩ := x
          obtain ⟨_, _, _, _, _, _, k0, k1⟩ := hxo
          have fmem := hfine.mem
          dsimp only at *
          clear hfine
          have n0 : ((k : Int)).toNat = k := by omega
          by_cases hld : code = 96 ∨ code = 97
          · have hk16 : kk < 16 := fmem (by omega)
            obtain ⟨q, rfl⟩ := Int.eq_ofNat_of_zero_le k0
            have hq : (q : Int).toNat = q := by omega
            have hbl : badLoad ⟨code, jt, jf, (q : Int)⟩ mo = (bits .and .i64 (mo / 2 ^ q) 1 == 0) := by
              unfold badLoad
              rcases hld with rfl | rfl <;> rfl
            rw [hbl] at HBA
            clear hbl fmem
            cases hb : (bits .and .i64 (mo / 2 ^ q) 1 == 0)
            · rw [hb] at HBA
              rcases hld with rfl | rfl
              all_goals
                go_wp2_with fail
                go_quiet (fail)
                go_wp2
                go_roundw
                case rel => exact ⟨k + 1, by omega, by go_num, fun j hj => by
                  by_cases e : j = k
                  · rw [e]; exact HBA.out
                  · exact HB.out j (by omega), below_drewN hnx _⟩
                case measure => simp [intOf]; omega
            · rw [hb] at HBA
              have HN : Hid (checkOf l = ((k : Int), false)) := by
                show _ = _
                rw [HCK.out, find_range_some _ _ k hlt HBA.out HB.out]
              rcases hld with rfl | rfl
              all_goals
                go_wp2_with fail
                go_quiet (fail)
                go_wp2
                go_ret2
                exact ⟨by rw [HN.out]; rfl, below_drewN hgo _⟩
          · have hbl : badLoad ⟨code, jt, jf, kk⟩ mo = false := by
              unfold badLoad
              simp only [not_or] at hld
              simp [hld.1, hld.2]
            rw [hbl] at HBA
            have c96 : (code == 96) = false := by rw [beq_eq_false_iff_ne]; exact fun e => hld (.inl e)
            have c97 : (code == 97) = false := by rw [beq_eq_false_iff_ne]; exact fun e => hld (.inr e)
            clear hbl hld fmem
            go_wp2_with fail
            go_quiet (fail)
            go_wp2
            go_roundw
            case rel => exact ⟨k + 1, by omega, by go_num, fun j hj => by
              by_cases e : j = k
              · rw [e]; exact HBA.out
              · exact HB.out j (by omega), below_drewN hnx _⟩
            case measure => simp [intOf]; omega
        · obtain rfl : k = most := by omega
          have HN : Hid (checkOf l = if k < n then ((k : Int), false) else (-1, true)) := by
            show _ = _
            rw [HCK.out, find_range_none _ _ HB.out]
          rcases HF.out with ⟨rfl, h⟩ | ⟨rfl, h⟩
          · go_wp2
            go_ret2
            exact ⟨by rw [HN.out, if_neg (by omega)]; rfl, hgo⟩
          · go_wp2
            go_ret2
            exact ⟨by rw [HN.out, if_pos h]; rfl, hgo⟩

set_option maxRecDepth 100000 in
theorem refCheck_out (A : Option Addr) (n c : Nat) (l : List Ins) (w : World) (hl : Lies w w.heap.size 4 A n (cellsOf l)) (hn : n ≤ 4398046511104) (h : n = 0 ∨ 4096 < n) :
    Calls Try.prog 10 #[.slice A n c] w (IntBool (checkOf l) w) := by
  have hln : l.length = n := by have := hl.1; rw [cells_len] at this; omega
  have hs : checkOf l = (0, false) := by
    unfold checkOf
    rw [if_pos (by omega)]
  rw [hs]
  clear hs hln
  rcases h with rfl | h
  · go_enter Try.func10, Try.ntmps10
    go_wp2
    go_ret2
    exact ⟨rfl, Below.refl _ _⟩
  · have b0 : ((n : Int) == 0) = false := by rw [beq_eq_false_iff_ne]; omega
    have b1 : decide ((4096 : Int) < (n : Int)) = true := decide_eq_true (by omega)
    go_enter Try.func10, Try.ntmps10
    go_wp2
    go_ret2
    exact ⟨rfl, Below.refl _ _⟩

theorem refCheck_any (A : Option Addr) (n c : Nat) (l : List Ins) (w : World) (hl : Lies w w.heap.size 4 A n (cellsOf l)) (hnc : n ≤ c) (hok : ∀ y ∈ l, y.Ok) (hn : n ≤ 4398046511104) :
    Calls Try.prog 10 #[.slice A n c] w (IntBool (checkOf l) w) := by
  by_cases h : n = 0 ∨ 4096 < n
  · exact refCheck_out A n c l w hl hn h
  · exact refCheck_in A n c l w hl hnc hok (by omega) (by omega)

theorem refStored_any (A : Option Addr) (n c : Nat) (l : List Ins) (w : World) (hl : Lies w w.heap.size 4 A n (cellsOf l)) (hok : ∀ y ∈ l, y.Ok) (hn : n ≤ 4398046511104) :
    Calls Try.prog 12 #[.slice A n c] w (NewInts (storedOf l).1 (storedOf l).2 w) := by
  by_cases h : n = 0 ∨ 4096 < n
  · exact refStored_out A n c l w hl hn h
  · exact refStored_in A n c l w hl hok (by omega) (by omega)

end Go.Proofs.Ytlghhnfpmekdnaa
