/- Texts of mine put together (a claim has at most so many files): ParLib, ParNum. -/
import Derived.Test.YtfklajkmikanbaaGreatDoorPart7
import Derived.Test.YtfklajkmikanbaaGreatDoorTokHex
import Derived.Test.YtfklajkmikanbaaGreatDoorPart8
/- The library's functions that the landed parser calls: CutPrefix of "0x", and ParseUint with the number it tells. Condition: what the start lays. -/
namespace Go.Proofs.YtfklajkmikanbaaGreatDoor.LandedP
open Go.RowKit

theorem prefix_is (r : List UInt8) : ([48, 120] : List UInt8).isPrefixOf r = hexAhead r := by
  unfold hexAhead
  match r with
  | [] => rfl
  | [x] => simp [List.isPrefixOf]
  | x :: y :: t => simp [List.isPrefixOf, Bool.beq_eq_decide_eq, eq_comm]
theorem ahead_two (s : ByteArray) (h : hexAhead s.data.toList = true) : 2 ≤ s.size := by
  rw [Lib.size_eq]
  generalize s.data.toList = l at h
  match l, h with
  | _ :: _ :: _, _ => simp
theorem nonempty {s : ByteArray} (h : ¬ s.size = 0) : ¬ s.data.toList.isEmpty = true := fun e => h (by rw [Lib.size_eq, List.isEmpty_iff.1 e]; rfl)

/-! ### strings.CutPrefix -/
set_option maxHeartbeats 1000000 in
theorem lite_cut0 (s : ByteArray) (w : World) :
    Calls Tryz.prog 64 #[.string s, .string ⟨#[48, 120]⟩] w fun e w' => e = .returned (if hexAhead s.data.toList = true then .tuple #[.string (s.extract 2 s.size), .bool true] else .tuple #[.string s, .bool false]) ∧ w = w' := by
  have H := Lib.hid (lite_prefix s ⟨#[48, 120]⟩ w)
  have e2 : (⟨#[48, 120]⟩ : ByteArray).data.toList = [48, 120] := rfl
  rw [e2, prefix_is] at H
  cases hp : hexAhead s.data.toList
  · rw [hp] at H
    rw [if_neg (by decide)]
    clear hp e2
    go_enter Tryz.func64, Tryz.ntmps64
    go_wp2_with fail
    refine (H.out).mono ?_
    rintro r w1 ⟨rfl, rfl⟩
    go_wp2
    go_ret2
    exact ⟨rfl, rfl⟩
  · rw [hp] at H
    rw [if_pos rfl]
    have h2 := ahead_two s hp
    have h2I : (2 : Int) ≤ (s.size : Int) := by omega
    clear hp e2
    go_enter Tryz.func64, Tryz.ntmps64
    go_wp2_with fail
    refine (H.out).mono ?_
    rintro r w1 ⟨rfl, rfl⟩
    go_wp2
    go_ret2
    exact ⟨rfl, rfl⟩

set_option maxHeartbeats 1000000 in
theorem cut_any (s : ByteArray) (w : World) :
    Calls Tryz.prog 56 #[.string s, .string ⟨#[48, 120]⟩] w fun e w' => e = .returned (if hexAhead s.data.toList = true then .tuple #[.string (s.extract 2 s.size), .bool true] else .tuple #[.string s, .bool false]) ∧ w = w' := by
  have H := Lib.hid (lite_cut0 s w)
  cases hp : hexAhead s.data.toList
  · rw [hp, if_neg (by decide)] at H
    rw [if_neg (by decide)]
    clear hp
    go_enter Tryz.func56, Tryz.ntmps56
    go_wp2_with fail
    refine (H.out).mono ?_
    rintro r w1 ⟨rfl, rfl⟩
    go_wp2
    go_ret2
    exact ⟨rfl, rfl⟩
  · rw [hp, if_pos rfl] at H
    rw [if_pos rfl]
    clear hp
    go_enter Tryz.func56, Tryz.ntmps56
    go_wp2_with fail
    refine (H.out).mono ?_
    rintro r w1 ⟨rfl, rfl⟩
    go_wp2
    go_ret2
    exact ⟨rfl, rfl⟩

/-! ### strconv.ParseUint -/
/-- A number, or none, with an error that is not nil. -/
def ParseV (t : Option Nat) (w : World) : Ending → World → Prop := fun e w' =>
  ((∃ u : Nat, t = some u ∧ e = .returned (.tuple #[.int .u64 (u : Int), .nilIface])) ∨ (t = none ∧ ∃ x ty p, e = .returned (.tuple #[.int .u64 x, .iface ty p]))) ∧ Below w.heap.size w w'

set_option maxHeartbeats 2000000 in
theorem parse_hexV (s : ByteArray) (hs : s.size ≤ 1000000) (hx : ∀ b ∈ s.data.toList, isHex 16 b = true) (w : World) (hL : Laid w) :
    Calls Tryz.prog 57 #[.string s, .int .i64 16, .int .i64 64] w (ParseV (if s.data.toList.isEmpty then none else valOf 16 0 s.data.toList) w) := by
  by_cases h0 : s.size = 0
  · have e : s = ⟨#[]⟩ := ByteArray.ext (Array.eq_empty_of_size_eq_zero h0)
    subst e
    show Calls _ _ _ _ (ParseV none w)
    have H1 := Lib.hid (hexNone_any 16 w)
    have H2 := Lib.hid (errSyn_any ⟨#[]⟩ 16 w hL (by decide))
    clear hx hs h0 hL
    go_enter Tryz.func57, Tryz.ntmps57
    go_wp2_with fail
    refine (H1.out).mono ?_
    rintro r wx ⟨rfl, rfl⟩
    go_wp2_with fail
    refine (H2.out).mono ?_
    rintro r wx ⟨⟨t, p, rfl⟩, hb⟩
    go_wp2
    go_ret2
    exact ⟨.inr ⟨rfl, _, t, p, rfl⟩, hb⟩
  · have h := hexIn_any s h0 hs hx w
    rw [if_neg (by simpa using nonempty h0)]
    have hbw := Lib.bytesWorld_below w 5 s
    have H2 : Hid (∀ W, Below w.heap.size w W → Calls Tryz.prog 66 #[.string ⟨#[80, 97, 114, 115, 101, 85, 105, 110, 116]⟩, .string s, .int .i64 16, .int .i64 64, .iface 149 (.int .i64 1)] W fun e w' => (∃ t p, e = .returned (.iface t p)) ∧ Below W.heap.size W w') := fun W hW => errRng_any s 16 W (hL.below hW) hs
    obtain ⟨W1, hW1⟩ : ∃ W1, W1 = Lib.bytesWorld w 5 s := ⟨_, rfl⟩
    rw [← hW1] at h hbw
    have HB := Lib.hid hbw
    cases hv : valOf 16 0 s.data.toList with
    | none =>
      rw [hv] at h
      have H1 := Lib.hid h
      clear hx hs h0 hL h hv hW1 hbw
      show Calls _ _ _ _ (ParseV none w)
      go_enter Tryz.func57, Tryz.ntmps57
      go_wp2_with fail
      refine (H1.out).mono ?_
      rintro r wx ⟨rfl, rfl⟩
      unfold HexRes
      dsimp only
      go_wp2_with fail
      refine (H2.out _ HB.out).mono ?_
      rintro r wx ⟨⟨t, p, rfl⟩, hb⟩
      go_wp2
      go_ret2
      exact ⟨.inr ⟨rfl, _, t, p, rfl⟩, HB.out.trans (hb.mono HB.out.size)⟩
    | some u =>
      rw [hv] at h
      have H1 := Lib.hid h
      clear hx hs h0 hL h hv hW1 hbw H2
      show Calls _ _ _ _ (ParseV (some u) w)
      go_enter Tryz.func57, Tryz.ntmps57
      go_wp2_with fail
      refine (H1.out).mono ?_
      rintro r wx ⟨rfl, rfl⟩
      unfold HexRes
      dsimp only
      go_wp2
      go_ret2
      exact ⟨.inl ⟨u, rfl, rfl⟩, HB.out⟩

theorem parse_tenV (s : ByteArray) (hs : s.size ≤ 1000000) (hx : ∀ b ∈ s.data.toList, isHex 10 b = true) (w : World) (hL : Laid w) :
    Calls Tryz.prog 57 #[.string s, .int .i64 10, .int .i64 64] w (ParseV (if s.data.toList.isEmpty then none else valOf 10 0 s.data.toList) w) := by
  have hd : ∀ b ∈ s.data.toList, digB b = true := fun b hb => by
    rw [← set_dig, set_ten]
    exact hx b hb
  obtain ⟨t1, p1, h1⟩ := hL.syn
  obtain ⟨t2, p2, h2⟩ := hL.rng
  have fin : ∀ w' : World, (w' = w ∨ w' = Lib.bytesWorld w 5 s) → Below w.heap.size w w' := by
    rintro w' (rfl | rfl)
    · exact Below.refl _ _
    · exact Lib.bytesWorld_below _ _ _
  by_cases h0 : s.size = 0
  · have e : s = ⟨#[]⟩ := ByteArray.ext (Array.eq_empty_of_size_eq_zero h0)
    subst e
    show Calls _ _ _ _ (ParseV none w)
    exact Calls.mono (f := 57) (Any.strconv_ParseUint_10_at64_syntax Tryz.laysPu14 ⟨#[]⟩ (by decide) rfl _ w h1 (.inr ⟨t1, p1, rfl⟩)) fun e w' ⟨N, he, _, _, hw⟩ => ⟨.inr ⟨rfl, _, _, _, he⟩, hw⟩
  · rw [if_neg (by simpa using nonempty h0)]
    have hn : ¬ s.data.toList = [] := fun e => h0 (by rw [Lib.size_eq, e]; rfl)
    have e64 : Lib.parseUintB 64 s.data.toList = Lib.parseUintM 18446744073709551615 0 s.data.toList := by
      unfold Lib.parseUintB
      rw [if_neg hn]
    rcases val_ten s.data.toList 0 (by decide) hd with ⟨u, e1, e2⟩ | ⟨e1, e2⟩
    · rw [e1]
      exact Calls.mono (f := 57) (Any.strconv_ParseUint_10_at64_ok Tryz.laysPu14 s (by omega) u (e64.trans e2) w) fun e w' ⟨he, hw⟩ => ⟨.inl ⟨u, rfl, he⟩, fin w' hw⟩
    · rw [e1]
      exact Calls.mono (f := 57) (Any.strconv_ParseUint_10_at64_range Tryz.laysPu14 s (by omega) (e64.trans e2) _ w h2 (.inr ⟨t2, p2, rfl⟩)) fun e w' ⟨N, he, _, _, hw⟩ => ⟨.inr ⟨rfl, _, _, _, he⟩, hw⟩

end Go.Proofs.YtfklajkmikanbaaGreatDoor.LandedP

/- What the landed parser's num gives. Condition: what the start lays, as far as the library reads it. -/
namespace Go.Proofs.YtfklajkmikanbaaGreatDoor.LandedP
open Go.RowKit

/-- A number is taken, or not. -/
def Counted (g : Nat) (E : Env) (most : Nat) (R : List Tk) (w : World) : Ending → World → Prop := fun e w' => w.grownBy w' (some g) ∧
  ((∃ v : Nat, numH most R = some v ∧ e = .returned (.tuple #[.int .u64 (v : Int), .bool true]) ∧ RdrAt 66 w' g E R.tail Flt.none) ∨
   (numH most R = none ∧ e = .returned (.tuple #[.int .u64 0, .bool false]) ∧ RdrAt 66 w' g E R Flt.none))

section
variable {w : World} {g : Nat} {E : Env} {R : List Tk}

theorem ext_all (s : ByteArray) (n : Nat) : (s.extract n s.size).data.toList = s.data.toList.drop n := by
  rw [ByteArray.data_extract, Array.toList_extract, List.extract_eq_take_drop]
  rw [List.take_of_length_le (by rw [List.length_drop, ← Lib.size_eq]; omega)]

def capN (most : Nat) : Option Nat → Option Nat
  | some v => if v ≤ most then some v else none
  | none => none

/-- The number of a text, by its cut text and its base. -/
theorem val_of (t : Tk) (ht : TkOk t) (hk : t.kind = 2) (hL : ∀ W, Below w.heap.size w W → Laid W) :
    ∃ (s : ByteArray) (base : Int) (V : Option Nat), numV t.text.data.toList = V ∧ ((hexAhead t.text.data.toList = true ∧ s = t.text.extract 2 t.text.size ∧ base = 16) ∨ (hexAhead t.text.data.toList = false ∧ s = t.text ∧ base = 10)) ∧
      Hid (∀ W, Below w.heap.size w W → Calls Tryz.prog 57 #[.string s, .int .i64 base, .int .i64 64] W (ParseV V W)) := by
  have hn := ht.num hk
  cases hh : hexAhead t.text.data.toList
  · rw [hh] at hn
    simp only [Bool.false_eq_true, if_false] at hn
    refine ⟨t.text, 10, _, rfl, .inr ⟨rfl, rfl, rfl⟩, fun W hW => ?_⟩
    have := parse_tenV t.text ht.size hn W (hL W hW)
    unfold numV
    rw [hh]
    exact this
  · rw [hh, if_pos rfl] at hn
    refine ⟨t.text.extract 2 t.text.size, 16, _, rfl, .inl ⟨rfl, rfl, rfl⟩, fun W hW => ?_⟩
    have := parse_hexV (t.text.extract 2 t.text.size) (by have := ht.size; simp [ByteArray.size_extract]; omega) (by rw [ext_all]; exact hn) W (hL W hW)
    rw [ext_all] at this
    unfold numV
    rw [hh, if_pos rfl]
    exact this

set_option maxRecDepth 100000 in
set_option maxHeartbeats 4000000 in
theorem num_any (hE : ∀ W, E.laid W → Laid W) (most : Nat) (mostI : Int) (hmo : mostI = (most : Int)) (h : RdrAt 66 w g E R Flt.none) :
    Calls Tryz.prog 48 #[.pointer (some ⟨g, 0, none⟩), .int .u64 mostI] w (Counted g E most R w) := by
  obtain ⟨A, c, h⟩ := h
  have c0 : w.cell? ⟨g, 0, none⟩ = some (.slice A R.length c) := h.box.cell 0
  have hgl := h.box.lt
  have hcap := h.cap
  have hroom := h.room
  cases R with
  | nil =>
    have H0 := Lib.hid h
    clear h
    simp only [List.length_nil] at c0 hcap
    go_enter Tryz.func48, Tryz.ntmps48
    go_wp2
    go_ret2
    exact ⟨only_refl _ _, .inr ⟨rfl, rfl, ⟨A, c, H0.out⟩⟩⟩
  | cons t r =>
    obtain ⟨b, o, rfl, hb, q0, q1, q2, q3⟩ := h.first
    have hbl : b < w.heap.size := Nat.lt_trans hb hgl
    have htk := h.ok t (by simp)
    simp only [List.length_cons] at c0 hcap hroom
    obtain ⟨m, hm⟩ : ∃ m, m = r.length := ⟨_, rfl⟩
    rw [← hm] at c0 hcap hroom
    have hnI : (0 : Int) < ((m + 1 : Nat) : Int) := by omega
    have hnz : ¬ ((m + 1 : Nat) : Int) = 0 := by omega
    by_cases hk : t.kind = 2
    · have hk1 : (t.kind != 2) = false := by simp [hk]
      have hk2 : (t.kind == 2) = true := by simp [hk]
      obtain ⟨s, base, V, hV, hsb, HPV⟩ := val_of (w := w) t htk hk (fun W hW => hE W (h.laid W (hW.mono (Nat.le_of_lt hgl))))
      have HC := Lib.hid (cut_any t.text w)
      have H0 := Lib.hid h
      have hr0 : Hid (m = 0 → r = []) := fun h => List.length_eq_zero_iff.1 (by omega)
      have hc1 : m + 1 ≤ 1000000 := by omega
      have HM := Lib.hid hm
      have HE : Hid (numH most (t :: r) = capN most V) := by
        show numH most (t :: r) = _
        simp only [numH]
        rw [if_pos hk, ← hV]
        rfl
      have HMO := Lib.hid hmo
      have ENDS : Hid (∀ w2, Below w.heap.size w w2 → numH most (t :: r) = none → Counted g E most (t :: r) w (.returned (.tuple #[.int .u64 0, .bool false])) w2) := fun w2 hb hv => ⟨only_below hb g, .inr ⟨hv, rfl, ⟨_, c, H0.out.step hb⟩⟩⟩
      clear h hk hm htk hV hmo
      rcases hsb with ⟨hh, hs, hbs⟩ | ⟨hh, hs, hbs⟩
      all_goals
        subst hbs
        rw [hh] at HC
        first | rw [if_pos rfl] at HC | rw [if_neg (by decide)] at HC
        have HS := Lib.hid hs
        clear hh hs
        go_enter Tryz.func48, Tryz.ntmps48
        go_wp2_with fail
        refine HC.out.mono ?_
        rintro e w1 ⟨rfl, rfl⟩
        go_wp2_with fail
        have HPX := HPV.out w (Below.refl _ _)
        rw [HS.out] at HPX
        refine HPX.mono ?_
        rintro e w2 ⟨hv, hb2⟩
        clear HPX HC HS
        have HB2 := Lib.hid hb2
        rcases hv with ⟨u, rfl, rfl⟩ | ⟨rfl, x, ty, p, rfl⟩
        · by_cases hu : u ≤ most
          · have hd : decide (mostI < (u : Int)) = false := by have := HMO.out; simp; omega
            have hd2 : ¬ (mostI < (u : Int)) := by have := HMO.out; omega
            have HV : Hid (numH most (t :: r) = some u) := by
              have := HE.out
              simp only [capN] at this
              rwa [if_pos hu] at this
            have c0' : w2.cell? ⟨g, 0, none⟩ = some (.slice (some ⟨b, o, none⟩) (m + 1) c) := (HB2.out.cell (p := ⟨g, 0, none⟩) hgl).trans c0
            have z0' : w2.frozen? ⟨g, 0, none⟩ = false := (HB2.out.frozen (p := ⟨g, 0, none⟩) hgl).trans (H0.out.box.free 0)
            have hgl2 : g < w2.heap.size := Nat.lt_of_lt_of_le hgl HB2.out.size
            have H2 := Lib.hid (H0.out.step HB2.out)
            have HNX := Lib.hid (fun (A' : Option Addr) (c' : Nat) (w3 : World) => rdr_next (w1 := w3) H2.out (A' := A') (c' := c'))
            rw [← HM.out] at HNX
            clear hb2 c0 q0 q1 q2 q3 hu
            by_cases hcc : c = 1
            · subst hcc
              obtain rfl : m = 0 := by omega
              go_wp2
              go_ret2
              obtain ⟨h1, h2⟩ := HNX.out _ _ _ rfl (.inl (by simpa using hr0.out)) (Nat.le_refl _)
              exact ⟨only_trans (only_below HB2.out g) h2, .inl ⟨_, HV.out, rfl, h1⟩⟩
            · have hcc3 : ¬ (1 = c) := fun e => hcc e.symm
              have hcI : ¬ ((c : Int) = 1) := by omega
              have hcI2 : (1 : Int) ≤ (c : Int) := by omega
              go_wp2
              go_ret2
              obtain ⟨h1, h2⟩ := HNX.out _ (c - 1) _ rfl (.inr rfl) (by omega)
              exact ⟨only_trans (only_below HB2.out g) h2, .inl ⟨_, HV.out, rfl, h1⟩⟩
          · have hd : decide (mostI < (u : Int)) = true := by have := HMO.out; simp; omega
            have hd2 : (mostI < (u : Int)) := by have := HMO.out; omega
            have HV : Hid (numH most (t :: r) = none) := by
              have := HE.out
              simp only [capN] at this
              rwa [if_neg hu] at this
            clear hb2 hu
            go_wp2
            go_ret2
            exact ENDS.out _ HB2.out HV.out
        · have HV : Hid (numH most (t :: r) = none) := HE.out
          clear hb2
          go_wp2
          go_ret2
          exact ENDS.out _ HB2.out HV.out
    · have hk1 : (t.kind != 2) = true := by simp [hk]
      have hk2 : (t.kind == 2) = false := by simp [hk]
      have HE : Hid (numH most (t :: r) = none) := by
        show numH most (t :: r) = none
        simp only [numH]
        rw [if_neg hk]
      have H0 := Lib.hid h
      clear h hk hm htk
      go_enter Tryz.func48, Tryz.ntmps48
      go_wp2
      go_ret2
      exact ⟨only_refl _ _, .inr ⟨HE.out, rfl, ⟨_, c, H0.out⟩⟩⟩
end

end Go.Proofs.YtfklajkmikanbaaGreatDoor.LandedP
