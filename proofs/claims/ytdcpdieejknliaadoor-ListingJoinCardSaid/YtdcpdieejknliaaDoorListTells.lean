/- The walk of the statement ListingTells. -/
import Derived.Test.YtdcpdieejknliaaDoorListFace
import Derived.BigQuiet
import Derived.Deep.DeepCutAuto
namespace Go.Proofs.YtdcpdieejknliaaDoor
open Go.RowKit
variable {L : World → Prop}

theorem read_len : ∀ (P : List (List UInt8)) (i : Nat) (acc : List Ins), (readFrom i acc P).1.length ≤ acc.length + P.length
  | [], i, acc => by simp [readFrom]
  | [x], i, acc => by
    rw [readFrom]
    split <;> simp
  | x :: y :: r, i, acc => by
    rw [readFrom]
    split
    · simp
    · rename_i u _
      have := read_len (y :: r) (i + 1) (acc ++ [u])
      simp at this ⊢
      omega
theorem readOf_len (s : List UInt8) : (readOf s).1.length ≤ s.length + 1 := by
  have h1 := read_len (partsOf 10 s) 0 []
  have h2 := split_len 10 s []
  unfold readOf
  unfold partsOf at h1 ⊢
  simp at h1
  omega

set_option maxRecDepth 100000 in
set_option maxHeartbeats 4000000 in
theorem ltells_in (R : ListSays L) (A : Option Addr) (n c : Nat) (l : List Ins) (s : ByteArray) (w : World) (hw : L w) (hl : Lies w w.heap.size 4 A n (cellsOf l)) (hok : ∀ y ∈ l, y.Ok) (hn : n ≤ 100) (hs : s.size ≤ 2000) :
    Calls Tryd.prog 3 #[.slice A n c, .string s] w fun e w' => e = .returned (.bool true) ∧ Below w.heap.size w w' := by
  have hln : l.length = n := by have := hl.1; rw [cells_len] at this; omega
  obtain ⟨T, hT⟩ : ∃ T, T = readOf s.data.toList := ⟨_, rfl⟩
  obtain ⟨U, hU⟩ : ∃ U, U = showOf l := ⟨_, rfl⟩
  have HREAD : Hid (∀ W : World, Below w.heap.size w W → Calls Tryd.prog 7 #[.string s] W (ReadIs T W)) := fun W hW => by rw [hT]; exact R.read s W (R.keep w W hw hW) (by omega)
  have HREF : Hid (∀ W : World, Calls Tryd.prog 8 #[.string s] W (ReadIs T W)) := fun W => by rw [hT]; exact readRef_any s W (by omega)
  have HSH : Hid (∀ W : World, Below w.heap.size w W → Lies W W.heap.size 4 A n (cellsOf l) → Calls Tryd.prog 9 #[.slice A n c] W fun e w' => e = .returned (.string (strOf U)) ∧ Below W.heap.size W w') := fun W hW h => by rw [hU]; exact R.shows A n c l W (R.keep w W hw hW) h hok (by omega)
  have HSR : Hid (∀ W : World, Lies W W.heap.size 4 A n (cellsOf l) → Calls Tryd.prog 10 #[.slice A n c] W fun e w' => e = .returned (.string (strOf U)) ∧ Below W.heap.size W w') := fun W h => by rw [hU]; exact showRef_any A n c l W h hok (by omega)
  have HUL : Hid (U.length ≤ 3000) := by
    unfold Hid
    rw [hU, showOf]
    split
    · rename_i h
      have := lines_len l (List.all_eq_true.1 h) (fun y hy => (hok y hy).k1)
      omega
    · simp
  have HTL : Hid (T.1.length ≤ 2001) := by
    unfold Hid
    rw [hT]
    have h1 := readOf_len s.data.toList
    have h2 : s.data.toList.length = s.size := by simp
    omega
  have HBACK : Hid ((l.all Ins.fits = true ∧ readOf U = (l, -1, 0)) ∨ (U = [] ∧ 0 < n)) := by
    by_cases h : l.all Ins.fits = true
    · exact .inl ⟨h, by rw [hU]; exact read_show l h (fun y hy => ⟨(hok y hy).k0, (hok y hy).k1⟩)⟩
    · refine .inr ⟨by rw [hU, showOf, if_neg h], ?_⟩
      rw [← hln]
      cases l with
      | nil => exact absurd rfl h
      | cons a r => simp
  have HL := Lib.hid hl
  clear hT hU hok hl
  go_enter Tryd.func3, Tryd.ntmps3
  go_wp2_with fail
  refine (lalive_any R _ hw).mono ?_
  rintro r w1 ⟨rfl, hb1⟩
  go_wp2_with fail
  refine (HREAD.out _ hb1).mono ?_
  rintro r w2 ⟨v2, rfl, hown2, hb2⟩
  obtain ⟨A2, k2, rfl, hk2, hl2⟩ := own_form hown2
  have hn2 := below_step hb1 (Nat.le_refl _) hb2
  clear hown2 hb2 hb1
  go_wp2_with fail
  refine (HREF.out _).mono ?_
  rintro r w3 ⟨v3, rfl, hown3, hb3⟩
  obtain ⟨A3, k3, rfl, hk3, hl3⟩ := own_form hown3
  have hn3 := below_step hn2 (Nat.le_refl _) hb3
  have hl23 := (hl2.below hb3).wider hb3.size
  clear hown3 hb3 hl2 hn2
  go_wp2_with fail
  refine (HSH.out _ hn3 ((HL.out.below hn3).wider hn3.size)).mono ?_
  rintro r w4 ⟨rfl, hb4⟩
  have hn4 := below_step hn3 (Nat.le_refl _) hb4
  have hl24 := (hl23.below hb4).wider hb4.size
  have hl34 := (hl3.below hb4).wider hb4.size
  clear hb4 hl23 hl3 hn3
  go_wp2_with fail
  refine (HSR.out _ ((HL.out.below hn4).wider hn4.size)).mono ?_
  rintro r w5 ⟨rfl, hb5⟩
  have hn5 := below_step hn4 (Nat.le_refl _) hb5
  have hl25 := (hl24.below hb5).wider hb5.size
  have hl35 := (hl34.below hb5).wider hb5.size
  clear hb5 hl24 hl34 hn4
  have HT2 := HTL.out
  go_wp2_with fail
  refine (same_yes A2 A3 T.1.length k2 k3 T.1 _ hl25 hl35 (by omega)).mono ?_
  rintro r w6 ⟨rfl, hb6⟩
  have hn6 := below_step hn5 (Nat.le_refl _) hb6
  clear hb6 hl25 hl35 hn5
  go_wp2_with fail
  refine (lnum_any _ _).mono ?_
  rintro r w7 ⟨rfl, rfl⟩
  have HREAD2 : Hid (∀ W : World, Below w.heap.size w W → Calls Tryd.prog 7 #[.string (strOf U)] W (ReadIs (readOf U) W)) := fun W hW => by
    have := R.read (strOf U) W (R.keep w W hw hW) (by rw [strOf_size]; have := HUL.out; omega)
    rw [strOf_data] at this
    exact this
  go_wp2_with fail
  refine (HREAD2.out _ hn6).mono ?_
  rintro r w8 ⟨v8, rfl, hown8, hb8⟩
  obtain ⟨A8, k8, rfl, hk8, hl8⟩ := own_form hown8
  have hn8 := below_step hn6 (Nat.le_refl _) hb8
  have HN8 := Lib.hid hn8
  clear hown8 hb8 hn6
  rcases HBACK.out with ⟨hf, hback⟩ | ⟨hU, hpos⟩
  · rw [hback] at hl8 hk8 ⊢
    have hll : Lies _ _ 4 A n (cellsOf l) := (HL.out.below hn8).wider hn8.size
    have hln' : (l, (-1 : Int), (0 : Int)).1.length = n := hln
    rw [hln'] at hl8 hk8 ⊢
    clear hf hback hln hln' HBACK hn8
    rcases Nat.eq_zero_or_pos n with rfl | hpos
    · go_wp2_with (first
        | (go_at_call 12; refine (lnum_any _ _).mono ?_; rintro r w9 ⟨rfl, rfl⟩)
        | (go_at_call 11; refine (same_yes A8 A 0 k8 c l _ hl8 hll (by omega)).mono ?_; rintro r w10 ⟨rfl, hb10⟩))
      all_goals
        go_ret
        exact ⟨rfl, by first | exact HN8.out | exact below_step HN8.out (Nat.le_refl _) hb10⟩
    · have hp : ¬ n = 0 := by omega
      go_wp2_with (first
        | (go_at_call 12; refine (lnum_any _ _).mono ?_; rintro r w9 ⟨rfl, rfl⟩)
        | (go_at_call 11; refine (same_yes A8 A n k8 c l _ hl8 hll (by omega)).mono ?_; rintro r w10 ⟨rfl, hb10⟩))
      all_goals
        go_ret
        exact ⟨rfl, by first | exact HN8.out | exact below_step HN8.out (Nat.le_refl _) hb10⟩
  · have hz : (strOf U).size = 0 := by rw [hU]; rfl
    have hp : ¬ n = 0 := by omega
    clear HBACK hU hn8 hln
    go_wp2
    go_ret
    exact ⟨rfl, HN8.out⟩

set_option maxHeartbeats 1000000 in
theorem ltells_out (R : ListSays L) (A : Option Addr) (n c : Nat) (s : ByteArray) (w : World) (hw : L w) (hn : n ≤ 140737488355328) (h : 100 < n ∨ 2000 < s.size) :
    Calls Tryd.prog 3 #[.slice A n c, .string s] w fun e w' => e = .returned (.bool true) ∧ Below w.heap.size w w' := by
  rcases h with h | h
  · go_enter Tryd.func3, Tryd.ntmps3
    go_wp2_with fail
    refine (lalive_any R _ hw).mono ?_
    rintro r w1 ⟨rfl, hb1⟩
    go_wp2
    go_ret
    exact ⟨rfl, hb1⟩
  · by_cases h1 : n ≤ 100
    all_goals
      go_enter Tryd.func3, Tryd.ntmps3
      go_wp2_with fail
      refine (lalive_any R _ hw).mono ?_
      rintro r w1 ⟨rfl, hb1⟩
      go_wp2
      go_ret
      exact ⟨rfl, hb1⟩

theorem ltells_any (R : ListSays L) (A : Option Addr) (n c : Nat) (l : List Ins) (s : ByteArray) (w : World) (hw : L w) (hl : Lies w w.heap.size 4 A n (cellsOf l)) (hok : ∀ y ∈ l, y.Ok) (hn : n ≤ 140737488355328) :
    Calls Tryd.prog 3 #[.slice A n c, .string s] w fun e w' => e = .returned (.bool true) ∧ Below w.heap.size w w' := by
  by_cases h : n ≤ 100 ∧ s.size ≤ 2000
  · exact ltells_in R A n c l s w hw hl hok h.1 h.2
  · exact ltells_out R A n c s w hw hn (by omega)

end Go.Proofs.YtdcpdieejknliaaDoor
