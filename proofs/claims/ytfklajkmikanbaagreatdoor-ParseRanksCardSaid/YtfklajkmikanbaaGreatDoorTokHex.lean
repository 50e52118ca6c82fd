/- strconv.ParseUint of digits in base 16 (the library's own text walked), and in base 10 (the shelf's), at 64 bits: a number, or an error that is not nil. -/
import Derived.Test.YtfklajkmikanbaaGreatDoorPart9
import Derived.Shelf.Pu.ParseUintPublic10
namespace Go.Proofs.YtfklajkmikanbaaGreatDoor
open Go.RowKit

theorem low_hex (c : UInt8) (h : isHex 16 c = true) (hd : digB c = false) : bits .or .u8 (c.toNat : Int) 32 = hexOf c + 87 ∧ 10 ≤ hexOf c ∧ hexOf c ≤ 15 ∧ ¬ ((c.toNat : Int) = 95) ∧ 65 ≤ (c.toNat : Int) := by
  have := all_bytes (p := fun c => !(isHex 16 c) || digB c || (decide (bits .or .u8 (c.toNat : Int) 32 = hexOf c + 87) && decide (10 ≤ hexOf c) && decide (hexOf c ≤ 15) && decide (¬ ((c.toNat : Int) = 95)) && decide (65 ≤ (c.toNat : Int)))) (by decide +kernel) c
  rw [h, hd] at this
  have h4 : (((bits .or .u8 (c.toNat : Int) 32 = hexOf c + 87 ∧ 10 ≤ hexOf c) ∧ hexOf c ≤ 15) ∧ ¬ ((c.toNat : Int) = 95)) ∧ 65 ≤ (c.toNat : Int) := by simpa using this
  exact ⟨h4.1.1.1.1, h4.1.1.1.2, h4.1.1.2, h4.1.2, h4.2⟩
theorem dig_hex (c : UInt8) (hd : digB c = true) : hexOf c = (c.toNat : Int) - 48 ∧ 48 ≤ (c.toNat : Int) ∧ (c.toNat : Int) ≤ 57 := by
  have h1 : 48 ≤ (c.toNat : Int) ∧ (c.toNat : Int) ≤ 57 := by simpa [digB] using hd
  exact ⟨by unfold hexOf; rw [if_pos hd], h1⟩

theorem lower_any (c : Int) (w : World) : Calls Tryz.prog 79 #[.int .u8 c] w fun e w' => e = .returned (.int .u8 (bits .or .u8 c 32)) ∧ w = w' :=
  Calls.mono (f := 79) (AnyPu.internal_strconv_lower { Tryz.laysPu14 with } c w) fun _ _ ⟨h1, h2⟩ => ⟨h1, h2.symm⟩

/-- What some digits in base 16 say, as the library's inner function gives it. -/
def HexRes (t : Option Nat) : Value := match t with
  | some u => .tuple #[.int .u64 (u : Int), .nilIface]
  | none => .tuple #[.int .u64 18446744073709551615, .iface 149 (.int .i64 1)]

set_option maxRecDepth 100000 in
set_option maxHeartbeats 32000000 in
theorem hexIn_any (t : ByteArray) (hne : t.size ≠ 0) (hmax : t.size ≤ 1000000) (hx : ∀ b ∈ t.data.toList, isHex 16 b = true) (w : World) :
    Calls Tryz.prog 65 #[.string t, .int .i64 16, .int .i64 64] w fun e w' => e = .returned (HexRes (valOf 16 0 t.data.toList)) ∧ w' = Lib.bytesWorld w 5 t := by
  have hemp : t.toList.isEmpty = false := (str_ne t hne).1
  have hcv := Lib.run_convert_string_bytes (P := Tryz.prog) w 9 123 5 t (u := .string) Tryz.underlying9 Tryz.underlying123 Tryz.underlying5
  have hB : ∀ j, j < t.size → (Lib.bytesWorld w 5 t).cell? ⟨w.heap.size, j, none⟩ = some (.int .u8 (t.data.toList.getD j 0).toNat) := fun j hj => Lib.bytesWorld_cell w 5 t j hj
  obtain ⟨W1, hW1⟩ : ∃ W1, W1 = Lib.bytesWorld w 5 t := ⟨_, rfl⟩
  rw [← hW1] at hcv hB ⊢
  clear hW1
  obtain ⟨bs, hL⟩ : ∃ bs, bs = t.data.toList := ⟨_, rfl⟩
  have hLn : bs.length = t.size := by rw [hL, Lib.size_eq]
  rw [← hL] at hB hx ⊢
  clear hL
  have HX := Lib.hid hx
  clear hx
  have hmv : IntKind.u64.wrap (IntKind.u64.wrap 18446744073709551616 - 1) = 18446744073709551615 := by
    rw [IntKind.wrap_u64, IntKind.wrap_u64]
    decide
  go_enter Tryz.func65, Tryz.ntmps65
  go_wp2_with fail
  go_loop [12, 13, 101] (fun vu vn vi => ∃ (k acc : Nat) (a : Int), vu = .bool false ∧ vn = .int .u64 a ∧ vi = .int .i64 k ∧ k ≤ t.size ∧ Hid (a = (acc : Int) ∧ acc < 18446744073709551616 ∧ valOf 16 0 bs = valOf 16 acc (bs.drop k)))
    (fun _ _ vi => t.size - (intOf vi).toNat)
  case atStart => exact ⟨0, 0, 0, rfl, rfl, rfl, by omega, rfl, by omega, rfl⟩
  case round =>
    obtain ⟨k, acc, a, rfl, rfl, rfl, hk, hh⟩ := hrel
    obtain ⟨ha, hacc, hdec⟩ := hh.out
    clear hh
    have a0 : 0 ≤ a := by omega
    have a1 : a < 18446744073709551616 := by omega
    by_cases hkn : k < t.size
    · have hc := hB k hkn
      have hdrop : bs.drop k = bs[k]'(by omega) :: bs.drop (k + 1) := List.drop_eq_getElem_cons (by omega)
      have hget : bs.getD k 0 = bs[k]'(by omega) := by simp [List.getD, List.getElem?_eq_getElem (show k < bs.length by omega)]
      have hxc : isHex 16 (bs[k]'(by omega)) = true := HX.out _ (List.getElem_mem _)
      rw [hdrop] at hdec
      rw [hget] at hc
      generalize bs[k]'(by omega) = c at hc hdec hxc
      have hc256 : c.toNat < 256 := c.toNat_lt
      clear hB hdrop hget
      rw [valOf] at hdec
      by_cases hcut : 1152921504606846976 ≤ acc
      · have icut : 1152921504606846976 ≤ a := by omega
        have hd0 : (hexOf c).toNat ≤ 15 := by have := hex_bd c; omega
        rw [if_pos (by omega)] at hdec
        have HD := Lib.hid hdec
        clear hdec hacc ha hcut hd0
        cases hdg : digB c
        · obtain ⟨g1, g2, g3, g4, g5⟩ := low_hex c hxc hdg
          have g4' : ((c.toNat : Int) == 95) = false := beq_eq_false_iff_ne.2 g4
          have g6 : 48 ≤ (c.toNat : Int) := by omega
          have g7 : ¬ (c.toNat : Int) ≤ 57 := by omega
          have HLW : Hid (∀ W : World, Calls Tryz.prog 79 #[.int .u8 (c.toNat : Int)] W fun e w' => e = .returned (.int .u8 (hexOf c + 87)) ∧ W = w') := fun W => by
            have := lower_any (c.toNat : Int) W
            rwa [g1] at this
          obtain ⟨h, hh⟩ : ∃ h, h = hexOf c := ⟨_, rfl⟩
          rw [← hh] at g2 g3 HLW
          have w1 : IntKind.u8.wrap (h + 87 - 97) = h - 10 := by rw [IntKind.wrap_u8]; omega
          have w2 : IntKind.u8.wrap (h - 10 + 10) = h := by rw [IntKind.wrap_u8]; omega
          clear hxc hdg g1 g4 hh
          go_wp2_with fail
          refine (HLW.out _).mono ?_
          rintro r wx ⟨rfl, rfl⟩
          go_wp2_with fail
          refine (HLW.out _).mono ?_
          rintro r wx ⟨rfl, rfl⟩
          go_wp2_with fail
          refine (HLW.out _).mono ?_
          rintro r wx ⟨rfl, rfl⟩
          go_wp2
          go_ret2
          exact ⟨by rw [HD.out]; rfl, rfl⟩
        · obtain ⟨g1, g2, g3⟩ := dig_hex c hdg
          have g4' : ((c.toNat : Int) == 95) = false := beq_eq_false_iff_ne.2 (by omega)
          obtain ⟨h, hh⟩ : ∃ h, h = hexOf c := ⟨_, rfl⟩
          rw [← hh] at g1
          clear hxc hdg hh
          go_wp2
          go_ret2
          exact ⟨by rw [HD.out]; rfl, rfl⟩
      · have icut : a < 1152921504606846976 := by omega
        have hd0 : (hexOf c).toNat ≤ 15 := by have := hex_bd c; omega
        rw [if_neg (by omega)] at hdec
        cases hdg : digB c
        · obtain ⟨g1, g2, g3, g4, g5⟩ := low_hex c hxc hdg
          have g4' : ((c.toNat : Int) == 95) = false := beq_eq_false_iff_ne.2 g4
          have g6 : 48 ≤ (c.toNat : Int) := by omega
          have g7 : ¬ (c.toNat : Int) ≤ 57 := by omega
          have HLW : Hid (∀ W : World, Calls Tryz.prog 79 #[.int .u8 (c.toNat : Int)] W fun e w' => e = .returned (.int .u8 (hexOf c + 87)) ∧ W = w') := fun W => by
            have := lower_any (c.toNat : Int) W
            rwa [g1] at this
          obtain ⟨h, hh⟩ : ∃ h, h = hexOf c := ⟨_, rfl⟩
          rw [← hh] at g2 g3 HLW
          have w1 : IntKind.u8.wrap (h + 87 - 97) = h - 10 := by rw [IntKind.wrap_u8]; omega
          have w2 : IntKind.u8.wrap (h - 10 + 10) = h := by rw [IntKind.wrap_u8]; omega
          have HN : Hid (a * 16 + h = ((acc * 16 + (hexOf c).toNat : Nat) : Int) ∧ acc * 16 + (hexOf c).toNat < 18446744073709551616 ∧ valOf 16 0 bs = valOf 16 (acc * 16 + (hexOf c).toNat) (bs.drop (k + 1))) := Lib.hid ⟨by omega, by omega, hdec⟩
          clear hxc hdg g1 g4 hdec hacc ha hcut hd0 hh
          go_wp2_with fail
          refine (HLW.out _).mono ?_
          rintro r wx ⟨rfl, rfl⟩
          go_wp2_with fail
          refine (HLW.out _).mono ?_
          rintro r wx ⟨rfl, rfl⟩
          go_wp2_with fail
          refine (HLW.out _).mono ?_
          rintro r wx ⟨rfl, rfl⟩
          go_wp2
          refine ⟨⟨k + 1, acc * 16 + (hexOf c).toNat, a * 16 + h, rfl, (by first | rfl | (congr 1; omega)), (by first | rfl | (congr 1; omega)), by omega, HN⟩, by simp [intOf]; omega⟩
        · obtain ⟨g1, g2, g3⟩ := dig_hex c hdg
          have g4' : ((c.toNat : Int) == 95) = false := beq_eq_false_iff_ne.2 (by omega)
          obtain ⟨h, hh⟩ : ∃ h, h = hexOf c := ⟨_, rfl⟩
          rw [← hh] at g1
          have HN : Hid (a * 16 + ((c.toNat : Int) - 48) = ((acc * 16 + (hexOf c).toNat : Nat) : Int) ∧ acc * 16 + (hexOf c).toNat < 18446744073709551616 ∧ valOf 16 0 bs = valOf 16 (acc * 16 + (hexOf c).toNat) (bs.drop (k + 1))) := Lib.hid ⟨by omega, by omega, hdec⟩
          clear hxc hdg hdec hacc ha hcut hd0 hh
          go_wp2
          refine ⟨⟨k + 1, acc * 16 + (hexOf c).toNat, a * 16 + ((c.toNat : Int) - 48), rfl, (by first | rfl | (congr 1; omega)), (by first | rfl | (congr 1; omega)), by omega, HN⟩, by simp [intOf]; omega⟩
    · have hkk : k = t.size := by omega
      subst hkk
      have hF : valOf 16 acc (bs.drop t.size) = some acc := by rw [List.drop_eq_nil_of_le (by omega)]; rfl
      rw [hF] at hdec
      have HD := Lib.hid hdec
      subst ha
      clear hdec hacc hF a0 a1
      go_wp2
      go_ret2
      exact ⟨by rw [HD.out]; rfl, rfl⟩

/-! ### strconv.ParseUint -/
/-- A number, or an error that is not nil. -/
def ParseRes (ok : Bool) (w : World) : Ending → World → Prop := fun e w' => (∃ x y, e = .returned (.tuple #[.int .u64 x, y]) ∧ ((ok = true ∧ y = .nilIface) ∨ (ok = false ∧ ∃ t p, y = .iface t p))) ∧ Below w.heap.size w w'

theorem errSyn_any (s : ByteArray) (base : Int) (w : World) (hL : Laid w) (hs : s.size ≤ 1000000) :
    Calls Tryz.prog 66 #[.string ⟨#[80, 97, 114, 115, 101, 85, 105, 110, 116]⟩, .string s, .int .i64 base, .int .i64 64, .iface 149 (.int .i64 2)] w fun e w' => (∃ t p, e = .returned (.iface t p)) ∧ Below w.heap.size w w' := by
  obtain ⟨t, p, h⟩ := hL.syn
  exact Calls.mono (f := 66) (AnyPu.strconv_toError_syntax { Tryz.laysPu14 with } ⟨#[80, 97, 114, 115, 101, 85, 105, 110, 116]⟩ s base 64 _ w (by omega) h (.inr ⟨t, p, rfl⟩)) fun _ _ ⟨N, h1, _, _, h2⟩ => ⟨⟨_, _, h1⟩, h2⟩
theorem errRng_any (s : ByteArray) (base : Int) (w : World) (hL : Laid w) (hs : s.size ≤ 1000000) :
    Calls Tryz.prog 66 #[.string ⟨#[80, 97, 114, 115, 101, 85, 105, 110, 116]⟩, .string s, .int .i64 base, .int .i64 64, .iface 149 (.int .i64 1)] w fun e w' => (∃ t p, e = .returned (.iface t p)) ∧ Below w.heap.size w w' := by
  obtain ⟨t, p, h⟩ := hL.rng
  exact Calls.mono (f := 66) (AnyPu.strconv_toError_range { Tryz.laysPu14 with } ⟨#[80, 97, 114, 115, 101, 85, 105, 110, 116]⟩ s base 64 _ w (by omega) h (.inr ⟨t, p, rfl⟩)) fun _ _ ⟨N, h1, _, _, h2⟩ => ⟨⟨_, _, h1⟩, h2⟩

theorem hexNone_any (base : Int) (w : World) : Calls Tryz.prog 65 #[.string ⟨#[]⟩, .int .i64 base, .int .i64 64] w fun e w' => e = .returned (.tuple #[.int .u64 0, .iface 149 (.int .i64 2)]) ∧ w = w' :=
  Calls.mono (f := 65) (AnyPu.internal_strconv_ParseUint_empty { Tryz.laysPu14 with } base 64 w) fun _ _ ⟨h1, h2⟩ => ⟨h1, h2.symm⟩

set_option maxHeartbeats 2000000 in
theorem parse_hex (s : ByteArray) (hs : s.size ≤ 1000000) (hx : ∀ b ∈ s.data.toList, isHex 16 b = true) (w : World) (hL : Laid w) :
    Calls Tryz.prog 57 #[.string s, .int .i64 16, .int .i64 64] w (ParseRes (!(s.size == 0) && (valOf 16 0 s.data.toList).isSome) w) := by
  by_cases h0 : s.size = 0
  · have e : s = ⟨#[]⟩ := ByteArray.ext (Array.eq_empty_of_size_eq_zero h0)
    subst e
    rw [show (!((⟨#[]⟩ : ByteArray).size == 0) && (valOf 16 0 (⟨#[]⟩ : ByteArray).data.toList).isSome) = false from rfl]
    have H1 := Lib.hid (hexNone_any 16 w)
    have H2 := Lib.hid (errSyn_any ⟨#[]⟩ 16 w hL (by decide))
    clear hx hs h0 hL
    go_enter Tryz.func57, Tryz.ntmps57
    go_wp2_with fail
    refine (H1.out).mono ?_
    rintro r wx ⟨rfl, rfl⟩
    go_wp2_with fail
    refine (H2.out).mono ?_
    rintro r wx ⟨⟨t, p, rfl⟩, hb⟩
    go_wp2
    go_ret2
    exact ⟨⟨_, _, rfl, .inr ⟨rfl, t, p, rfl⟩⟩, hb⟩
  · have h := hexIn_any s h0 hs hx w
    rw [show (!(s.size == 0)) = true by simp [h0], Bool.true_and]
    have hbw := Lib.bytesWorld_below w 5 s
    have H2 : Hid (∀ W, Below w.heap.size w W → Calls Tryz.prog 66 #[.string ⟨#[80, 97, 114, 115, 101, 85, 105, 110, 116]⟩, .string s, .int .i64 16, .int .i64 64, .iface 149 (.int .i64 1)] W fun e w' => (∃ t p, e = .returned (.iface t p)) ∧ Below W.heap.size W w') := fun W hW => errRng_any s 16 W (hL.below hW) hs
    obtain ⟨W1, hW1⟩ : ∃ W1, W1 = Lib.bytesWorld w 5 s := ⟨_, rfl⟩
    rw [← hW1] at h hbw
    have HB := Lib.hid hbw
    cases hv : valOf 16 0 s.data.toList with
    | none =>
      rw [hv] at h
      have H1 := Lib.hid h
      clear hx hs h0 hL h hv hW1 hbw
      show Calls _ _ _ _ (ParseRes false w)
      go_enter Tryz.func57, Tryz.ntmps57
      go_wp2_with fail
      refine (H1.out).mono ?_
      rintro r wx ⟨rfl, rfl⟩
      unfold HexRes
      dsimp only
      go_wp2_with fail
      refine (H2.out _ HB.out).mono ?_
      rintro r wx ⟨⟨t, p, rfl⟩, hb⟩
      go_wp2
      go_ret2
      exact ⟨⟨_, _, rfl, .inr ⟨rfl, t, p, rfl⟩⟩, HB.out.trans (hb.mono HB.out.size)⟩
    | some u =>
      rw [hv] at h
      have H1 := Lib.hid h
      clear hx hs h0 hL h hv hW1 hbw H2
      show Calls _ _ _ _ (ParseRes true w)
      go_enter Tryz.func57, Tryz.ntmps57
      go_wp2_with fail
      refine (H1.out).mono ?_
      rintro r wx ⟨rfl, rfl⟩
      unfold HexRes
      dsimp only
      go_wp2
      go_ret2
      exact ⟨⟨_, _, rfl, .inl ⟨rfl, rfl⟩⟩, HB.out⟩

theorem parse_ten (s : ByteArray) (hs : s.size ≤ 1000000) (hx : ∀ b ∈ s.data.toList, isHex 10 b = true) (w : World) (hL : Laid w) :
    Calls Tryz.prog 57 #[.string s, .int .i64 10, .int .i64 64] w (ParseRes (!(s.size == 0) && (valOf 10 0 s.data.toList).isSome) w) := by
  have hd : ∀ b ∈ s.data.toList, digB b = true := fun b hb => by
    rw [← set_dig, set_ten]
    exact hx b hb
  obtain ⟨t1, p1, h1⟩ := hL.syn
  obtain ⟨t2, p2, h2⟩ := hL.rng
  have fin : ∀ w' : World, (w' = w ∨ w' = Lib.bytesWorld w 5 s) → Below w.heap.size w w' := by
    rintro w' (rfl | rfl)
    · exact Below.refl _ _
    · exact Lib.bytesWorld_below _ _ _
  by_cases h0 : s.size = 0
  · have e : s = ⟨#[]⟩ := ByteArray.ext (Array.eq_empty_of_size_eq_zero h0)
    subst e
    exact Calls.mono (f := 57) (Any.strconv_ParseUint_10_at64_syntax Tryz.laysPu14 ⟨#[]⟩ (by decide) rfl _ w h1 (.inr ⟨t1, p1, rfl⟩)) fun e w' ⟨N, he, _, _, hw⟩ => ⟨⟨_, _, he, .inr ⟨rfl, _, _, rfl⟩⟩, hw⟩
  · rw [show (!(s.size == 0)) = true by simp [h0], Bool.true_and]
    have hn : ¬ s.data.toList = [] := fun e => h0 (by rw [Lib.size_eq, e]; rfl)
    have e64 : Lib.parseUintB 64 s.data.toList = Lib.parseUintM 18446744073709551615 0 s.data.toList := by
      unfold Lib.parseUintB
      rw [if_neg hn]
    rcases val_ten s.data.toList 0 (by decide) hd with ⟨u, e1, e2⟩ | ⟨e1, e2⟩
    · rw [e1]
      exact Calls.mono (f := 57) (Any.strconv_ParseUint_10_at64_ok Tryz.laysPu14 s (by omega) u (e64.trans e2) w) fun e w' ⟨he, hw⟩ => ⟨⟨_, _, he, .inl ⟨rfl, rfl⟩⟩, fin w' hw⟩
    · rw [e1]
      exact Calls.mono (f := 57) (Any.strconv_ParseUint_10_at64_range Tryz.laysPu14 s (by omega) (e64.trans e2) _ w h2 (.inr ⟨t2, p2, rfl⟩)) fun e w' ⟨N, he, _, _, hw⟩ => ⟨⟨_, _, he, .inr ⟨rfl, _, _, rfl⟩⟩, hw⟩

end Go.Proofs.YtfklajkmikanbaaGreatDoor
