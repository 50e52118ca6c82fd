/- The walk of the statement ListingJoin. -/
import Derived.Test.YtdcpdieejknliaaDoorListTells
namespace Go.Proofs.YtdcpdieejknliaaDoor
open Go.RowKit
variable {L : World → Prop}

theorem show_join (l m : List Ins) (hl : l.all Ins.fits = true) (hm : m.all Ins.fits = true) : showOf (l ++ m) = showOf l ++ showOf m := by
  unfold showOf
  rw [List.all_append, hl, hm]
  simp
theorem show_not (l : List Ins) (h : ¬ l.all Ins.fits = true) : showOf l = [] := by
  unfold showOf
  rw [if_neg h]
theorem show_ne (l : List Ins) (h : l.all Ins.fits = true) (h0 : 0 < l.length) : showOf l ≠ [] := by
  unfold showOf
  rw [if_pos h]
  cases l with
  | nil => simp at h0
  | cons x r => rw [List.flatMap_cons, showLine_text]; simp
theorem show_len (l : List Ins) (hk : ∀ x ∈ l, x.k ≤ 4294967295) : (showOf l).length ≤ 30 * l.length := by
  unfold showOf
  split
  · rename_i h
    exact lines_len l (List.all_eq_true.1 h) hk
  · simp

set_option maxRecDepth 100000 in
set_option maxHeartbeats 4000000 in
theorem ljoin_in (R : ListSays L) (A : Option Addr) (n c : Nat) (l : List Ins) (B : Option Addr) (k d : Nat) (m : List Ins) (w : World) (hw : L w) (hl : Lies w w.heap.size 4 A n (cellsOf l)) (hm : Lies w w.heap.size 4 B k (cellsOf m))
    (hok : ∀ y ∈ l, y.Ok) (hom : ∀ y ∈ m, y.Ok) (hn : n ≤ 60) (hn0 : 1 ≤ n) (hk : k ≤ 60) (hk0 : 1 ≤ k) :
    Calls Tryd.prog 5 #[.slice A n c, .slice B k d] w fun e w' => e = .returned (.bool true) ∧ Below w.heap.size w w' := by
  obtain ⟨i0, hi, hz0, hz1, hz2⟩ := info_parts infoInsL
  have hln : l.length = n := by have := hl.1; rw [cells_len] at this; omega
  have hlk : m.length = k := by have := hm.1; rw [cells_len] at this; omega
  obtain ⟨U, hU⟩ : ∃ U, U = showOf l := ⟨_, rfl⟩
  obtain ⟨V, hV⟩ : ∃ V, V = showOf m := ⟨_, rfl⟩
  have hoa : ∀ y ∈ l ++ m, y.Ok := fun y hy => (List.mem_append.1 hy).elim (hok y) (hom y)
  have HSL : Hid (∀ W : World, Below w.heap.size w W → Lies W W.heap.size 4 A n (cellsOf l) → Calls Tryd.prog 9 #[.slice A n c] W fun e w' => e = .returned (.string (strOf U)) ∧ Below W.heap.size W w') := fun W hW h => by rw [hU]; exact R.shows A n c l W (R.keep w W hw hW) h hok (by omega)
  have HSM : Hid (∀ W : World, Below w.heap.size w W → Lies W W.heap.size 4 B k (cellsOf m) → Calls Tryd.prog 9 #[.slice B k d] W fun e w' => e = .returned (.string (strOf V)) ∧ Below W.heap.size W w') := fun W hW h => by rw [hV]; exact R.shows B k d m W (R.keep w W hw hW) h hom (by omega)
  have zU : (strOf U).size ≤ 1800 := by rw [strOf_size, hU]; have := show_len l (fun y hy => (hok y hy).k1); omega
  have zV : (strOf V).size ≤ 1800 := by rw [strOf_size, hV]; have := show_len m (fun y hy => (hom y hy).k1); omega
  have HCASE : Hid ((U ≠ [] ∧ V ≠ [] ∧ showOf (l ++ m) = U ++ V ∧ readOf (U ++ V) = (l ++ m, -1, 0)) ∨ ((U = [] ∨ V = []) ∧ showOf (l ++ m) = [])) := by
    by_cases h1 : l.all Ins.fits = true
    · by_cases h2 : m.all Ins.fits = true
      · have hj := show_join l m h1 h2
        refine .inl ⟨by rw [hU]; exact show_ne l h1 (by omega), by rw [hV]; exact show_ne m h2 (by omega), by rw [hU, hV]; exact hj, ?_⟩
        rw [hU, hV, ← hj]
        exact read_show _ (by rw [List.all_append, h1, h2]; rfl) (fun y hy => ⟨(hoa y hy).k0, (hoa y hy).k1⟩)
      · exact .inr ⟨.inr (by rw [hV]; exact show_not m h2), show_not _ (by rw [List.all_append]; simp [h2])⟩
    · exact .inr ⟨.inl (by rw [hU]; exact show_not l h1), show_not _ (by rw [List.all_append]; simp [h1])⟩
  have HL := Lib.hid hl
  have HM := Lib.hid hm
  have HOA := Lib.hid hoa
  have g1 : ((n : Int) == 0) = false := by rw [beq_eq_false_iff_ne]; omega
  have g2 : ((k : Int) == 0) = false := by rw [beq_eq_false_iff_ne]; omega
  clear hU hV hl hm hok hom hoa
  go_enter Tryd.func5, Tryd.ntmps5
  go_wp2_with fail
  refine (lalive_any R _ hw).mono ?_
  rintro r w1 ⟨rfl, hb1⟩
  go_wp2_with fail
  refine (HSL.out _ hb1 ((HL.out.below hb1).wider hb1.size)).mono ?_
  rintro r w2 ⟨rfl, hb2⟩
  have hn2 := below_step hb1 (Nat.le_refl _) hb2
  clear hb1 hb2
  go_wp2_with fail
  refine (HSM.out _ hn2 ((HM.out.below hn2).wider hn2.size)).mono ?_
  rintro r w3 ⟨rfl, hb3⟩
  have hn3 := below_step hn2 (Nat.le_refl _) hb3
  have hy3 := hn3.size
  clear hb3 hn2
  have hl3 := (HL.out.below hn3)
  have hm3 := (HM.out.below hn3)
  go_wp2_with (at_builtin; go_loud (refine wpList_append_lies _ rfl (.const (.slice none 0 0)) (.tmp 40) _ rfl w3.heap.size 38 i0 _ 4 32 Tryd.underlying22 hi hz0 hz1 hz2 rfl (by omega) (.slice none 0 0) 0 [] rfl (World.ownsRow_nil _ _ _ _) _ A n c _ rfl hl3 (cells_one _) (by unfold maxLen; omega) (by omega) (Nat.le_refl _) ?_))
  intro v4 w4 hown4 hg4
  have hb4 : Below w3.heap.size w3 w4 := below_grown (Below.refl _ _) (World.ownsRow_nil w3 w3.heap.size 38 4) (Nat.le_refl _) (Nat.le_refl _) hg4
  have hm4 := (hm3.wider hy3).below hb4
  have hn4 := hn3.trans (hb4.mono hy3)
  have hy4 := hb4.size
  clear hg4 hm3 hl3 hb4
  go_wp2_with (at_builtin; go_loud (refine wpList_append_lies _ rfl (.tmp 41) (.tmp 42) _ rfl w3.heap.size 38 i0 _ 4 32 Tryd.underlying22 hi hz0 hz1 hz2 rfl (by omega) _ _ _ rfl hown4 _ B k d _ rfl hm4 (cells_one _) (by unfold maxLen; omega) (by omega) hy4 ?_))
  intro v5 w5 hown5 hg5
  have hn5 : Below w.heap.size w w5 := below_grown hn4 hown4 hy3 (Nat.le_trans hy3 hy4) hg5
  rw [show cellsOf l ++ cellsOf m = cellsOf (l ++ m) from by simp [cellsOf]] at hown5
  obtain ⟨A5, k5, rfl, hk5, hl5⟩ := own_form hown5
  clear hg5 hown4 hown5 hm4 hn4
  rcases HCASE.out with ⟨h1, h2, h3, h4⟩ | ⟨h1, h3⟩
  · have hcat : strOf U ++ strOf V = strOf (U ++ V) := strOf_append _ _
    have HREAD : Hid (∀ W : World, Below w.heap.size w W → Calls Tryd.prog 7 #[.string (strOf U ++ strOf V)] W (ReadIs (l ++ m, -1, 0) W)) := fun W hW => by
      have := R.read (strOf (U ++ V)) W (R.keep w W hw hW) (by rw [← hcat, ByteArray.size_append]; omega)
      rw [strOf_data, h4] at this
      rw [hcat]
      exact this
    have HSA : Hid (∀ W : World, Below w.heap.size w W → Lies W W.heap.size 4 A5 (n + k) (cellsOf (l ++ m)) → Calls Tryd.prog 9 #[.slice A5 (n + k) k5] W fun e w' => e = .returned (.string (strOf U ++ strOf V)) ∧ Below W.heap.size W w') := fun W hW h => by
      have := R.shows A5 (n + k) k5 (l ++ m) W (R.keep w W hw hW) h HOA.out (by omega)
      rw [h3, ← hcat] at this
      exact this
    obtain ⟨q1, q2⟩ := strOf_empty _ h1
    obtain ⟨q3, q4⟩ := strOf_empty _ h2
    have hlen : (l ++ m, (-1 : Int), (0 : Int)).1.length = n + k := by rw [List.length_append, hln, hlk]
    clear HCASE hcat h1 h2 h3 h4 HOA
    go_wp2_with fail
    refine (HREAD.out _ hn5).mono ?_
    rintro r w6 ⟨v6, rfl, hown6, hb6⟩
    rw [hlen] at hown6
    obtain ⟨A6, k6, rfl, hk6, hl6⟩ := own_form hown6
    have hn6 := below_step hn5 (Nat.le_refl _) hb6
    have hl56 := (hl5.below hb6).wider hb6.size
    clear hown6 hb6 hn5 hl5 hlen
    go_wp2_with fail
    refine (HSA.out _ hn6 hl56).mono ?_
    rintro r w7 ⟨rfl, hb7⟩
    have hn7 := below_step hn6 (Nat.le_refl _) hb7
    have hl57 := (hl56.below hb7).wider hb7.size
    have hl67 := (hl6.below hb7).wider hb7.size
    clear hb7 hn6 hl56 hl6
    go_wp2_with (first
      | (go_at_call 12; refine (lnum_any _ _).mono ?_; rintro r w9 ⟨rfl, rfl⟩)
      | (go_at_call 11; refine (same_yes A6 A5 (n + k) k6 k5 (l ++ m) _ hl67 hl57 (by omega)).mono ?_; rintro r w10 ⟨rfl, hb10⟩))
    go_ret
    exact ⟨rfl, below_step hn7 (Nat.le_refl _) hb10⟩
  · have HSA : Hid (∀ W : World, Below w.heap.size w W → Lies W W.heap.size 4 A5 (n + k) (cellsOf (l ++ m)) → Calls Tryd.prog 9 #[.slice A5 (n + k) k5] W fun e w' => e = .returned (.string (strOf [])) ∧ Below W.heap.size W w') := fun W hW h => by
      have := R.shows A5 (n + k) k5 (l ++ m) W (R.keep w W hw hW) h HOA.out (by omega)
      rw [h3] at this
      exact this
    have q5 : (strOf []).toList = [] := strOf_toList []
    have q6 : ((strOf []).toList == []) = true := by rw [q5]; rfl
    have q7 : (strOf []).toList.isEmpty = true := by rw [q5]; rfl
    have HE : Hid (∀ X : List UInt8, X = [] ∨ ((strOf X).toList.isEmpty = false ∧ ((strOf X).toList == []) = false)) := fun X => by
      by_cases hX : X = []
      · exact .inl hX
      · exact .inr (strOf_empty _ hX)
    clear HCASE h3 HOA
    rcases HE.out U with rfl | ⟨q1, q2⟩
    · go_wp2_with fail
      refine (HSA.out _ hn5 hl5).mono ?_
      rintro r w7 ⟨rfl, hb7⟩
      have HN7 := Lib.hid (below_step hn5 (Nat.le_refl _) hb7)
      go_wp2
      go_ret
      exact ⟨rfl, HN7.out⟩
    · rcases HE.out V with rfl | ⟨q3, q4⟩
      · go_wp2_with fail
        refine (HSA.out _ hn5 hl5).mono ?_
        rintro r w7 ⟨rfl, hb7⟩
        have HN7 := Lib.hid (below_step hn5 (Nat.le_refl _) hb7)
        go_wp2
        go_ret
        exact ⟨rfl, HN7.out⟩
      · rcases h1 with h1 | h1
        · rw [h1, q7] at q1; cases q1
        · rw [h1, q7] at q3; cases q3

set_option maxHeartbeats 1000000 in
theorem ljoin_out (R : ListSays L) (A : Option Addr) (n c : Nat) (B : Option Addr) (k d : Nat) (w : World) (hw : L w) (hn : n ≤ 140737488355328) (hk : k ≤ 140737488355328) (h : ¬ (1 ≤ n ∧ n ≤ 60 ∧ 1 ≤ k ∧ k ≤ 60)) :
    Calls Tryd.prog 5 #[.slice A n c, .slice B k d] w fun e w' => e = .returned (.bool true) ∧ Below w.heap.size w w' := by
  have h0 : 60 < n ∨ (n ≤ 60 ∧ 60 < k) ∨ (n ≤ 60 ∧ k ≤ 60 ∧ n = 0) ∨ (n ≤ 60 ∧ k ≤ 60 ∧ n ≠ 0 ∧ k = 0) := by omega
  clear h
  rcases h0 with h | ⟨h1, h⟩ | ⟨h1, h, rfl⟩ | ⟨h1, h, h2, rfl⟩
  case inr.inr.inr =>
    have g1 : ((n : Int) == 0) = false := by rw [beq_eq_false_iff_ne]; omega
    go_enter Tryd.func5, Tryd.ntmps5
    go_wp2_with fail
    refine (lalive_any R _ hw).mono ?_
    rintro r w1 ⟨rfl, hb1⟩
    go_wp2
    go_ret
    exact ⟨rfl, hb1⟩
  all_goals
    go_enter Tryd.func5, Tryd.ntmps5
    go_wp2_with fail
    refine (lalive_any R _ hw).mono ?_
    rintro r w1 ⟨rfl, hb1⟩
    go_wp2
    go_ret
    exact ⟨rfl, hb1⟩

theorem ljoin_any (R : ListSays L) (A : Option Addr) (n c : Nat) (l : List Ins) (B : Option Addr) (k d : Nat) (m : List Ins) (w : World) (hw : L w) (hl : Lies w w.heap.size 4 A n (cellsOf l)) (hm : Lies w w.heap.size 4 B k (cellsOf m))
    (hok : ∀ y ∈ l, y.Ok) (hom : ∀ y ∈ m, y.Ok) (hn : n ≤ 140737488355328) (hk : k ≤ 140737488355328) :
    Calls Tryd.prog 5 #[.slice A n c, .slice B k d] w fun e w' => e = .returned (.bool true) ∧ Below w.heap.size w w' := by
  by_cases h : 1 ≤ n ∧ n ≤ 60 ∧ 1 ≤ k ∧ k ≤ 60
  · exact ljoin_in R A n c l B k d m w hw hl hm hok hom h.2.1 h.1 h.2.2.2 h.2.2.1
  · exact ljoin_out R A n c B k d w hw hn hk h

end Go.Proofs.YtdcpdieejknliaaDoor
