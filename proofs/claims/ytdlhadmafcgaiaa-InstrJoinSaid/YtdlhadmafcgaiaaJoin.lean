/- The walk of the statement InstrJoin: it returns true, and writes nothing that was there. -/
import Derived.Test.YtdlhadmafcgaiaaTells
namespace Go.Proofs.Ytdlhadmafcgaiaa
open Go.RowKit

theorem len_fit (l : List Ins) (h : (bytesOf l).length = 8 * l.length) : ∀ y ∈ l, y.fits = true := by
  intro y hy
  refine all_fit l (fun h0 => ?_) y hy
  rw [h0] at h
  have : l.length = 0 := by simp at h; omega
  have := List.eq_nil_of_length_eq_zero this
  subst this
  simp at hy

theorem fit_append {l m : List Ins} (hl : ∀ y ∈ l, y.fits = true) (hm : ∀ y ∈ m, y.fits = true) : ∀ y ∈ l ++ m, y.fits = true := by
  intro y hy
  rcases List.mem_append.1 hy with h | h
  · exact hl y h
  · exact hm y h

set_option linter.unusedSimpArgs false in
set_option maxRecDepth 100000 in
set_option maxHeartbeats 4000000 in
theorem join_in (A B : Option Addr) (c d : Nat) (l m : List Ins) (w : World) (hl : Lies w w.heap.size 4 A l.length (cellsOf l)) (hm : Lies w w.heap.size 4 B m.length (cellsOf m)) (hn : l.length ≤ 100) (hn' : m.length ≤ 100) (hk : ∀ y ∈ l ++ m, y.kOk)
    (h8 : (bytesOf l).length = 8 * l.length) (h8' : (bytesOf m).length = 8 * m.length) :
    Calls Try.prog 5 #[.slice A l.length c, .slice B m.length d] w fun r w' => r = .returned (.bool true) ∧ Below w.heap.size w w' := by
  obtain ⟨i0, hi, hz0, hz1, hz2⟩ := info_parts Try.info36
  obtain ⟨i1, hi1, hy0, hy1, hy2⟩ := info_parts Try.info5
  have hfit := fit_append (len_fit l h8) (len_fit m h8')
  have hab : bytesOf l ++ bytesOf m = bytesOf (l ++ m) := by rw [bytesOf_yes hfit, bytesOf_yes (len_fit l h8), bytesOf_yes (len_fit m h8'), raw_append]
  have hback := read_bytes (l ++ m) hfit hk
  have hcc := cells_append l m
  have hll : l.length + m.length = (l ++ m).length := by rw [List.length_append]
  generalize l ++ m = q at hab hback hcc hll
  have HAB := Lib.hid hab
  have HBACK := Lib.hid hback
  have HCC := Lib.hid hcc
  have HLL := Lib.hid hll
  clear hcc hll
  have hne : (((bytesOf l).length : Int) != 8 * (l.length : Int)) = false := by rw [bne_eq_false_iff_eq]; omega
  have hne' : (((bytesOf m).length : Int) != 8 * (m.length : Int)) = false := by rw [bne_eq_false_iff_eq]; omega
  have HL := Lib.hid h8
  have HM := Lib.hid h8'
  clear hfit hab hback hk h8 h8'
  go_enter Try.func5, Try.ntmps5
  go_wp2_with fail
  refine (alive_any _).mono ?_
  rintro r w1 ⟨rfl, hb1⟩
  have hs1 := hb1.size
  go_wp2_with fail
  refine (refBytes_any A _ c l _ ((hl.below hb1).wider hs1) (by omega)).mono ?_
  rintro r w2 ⟨v2, rfl, hown2, hb2'⟩
  have hb2 : Below w.heap.size w w2 := hb1.trans (hb2'.mono hs1)
  have hs2 := hb2.size
  obtain ⟨A2, k2, rfl, hk2, hl2⟩ := own_form hown2
  clear hown2 hb2' hb1 hs1
  go_wp2_with fail
  refine (refBytes_any B _ d m _ ((hm.below hb2).wider hs2) (by omega)).mono ?_
  rintro r w3 ⟨v3, rfl, hown3, hb3'⟩
  have hb3 : Below w.heap.size w w3 := hb2.trans (hb3'.mono hs2)
  have hs3 := hb3.size
  have hx3 := (hl2.below hb3').wider hb3'.size
  obtain ⟨A3, k3, rfl, hk3, hl3⟩ := own_form hown3
  clear hown3 hb3' hb2 hs2 hl2
  have hla := HL.out
  have hlb := HM.out
  have B1 : (bytesOf l).length ≤ 800 := by omega
  have B2 : (bytesOf m).length ≤ 800 := by omega
  clear hla hlb
  go_wp2_with (at_builtin; go_loud (refine wpList_append_lies _ rfl (.const (.slice none 0 0)) (.tmp 48) _ rfl w3.heap.size 5 i1 _ 1 1 Try.underlying23 hi1 hy0 hy1 hy2 rfl (by omega) (.slice none 0 0) 0 [] rfl (World.ownsRow_nil _ _ _ _) w3.heap.size A2 _ k2 (bytesV (bytesOf l)) rfl hx3 (bytesV_one _) (by unfold maxLen; omega) (by omega) (Nat.le_refl _) ?_))
  intro v4 w4 hown4 hg4
  have hb4 : Below w3.heap.size w3 w4 := below_grown (Below.refl _ _) (World.ownsRow_nil w3 w3.heap.size 5 1) (Nat.le_refl _) (Nat.le_refl _) hg4
  have hs4 := hb4.size
  clear hg4
  go_wp2_with (at_builtin; go_loud (refine wpList_append_lies _ rfl (.tmp 49) (.tmp 50) _ rfl w3.heap.size 5 i1 _ 1 1 Try.underlying23 hi1 hy0 hy1 hy2 rfl (by omega) v4 _ _ rfl hown4 w3.heap.size A3 _ k3 (bytesV (bytesOf m)) rfl (hl3.below hb4) (bytesV_one _) (by unfold maxLen; omega) (by omega) hs4 ?_))
  intro v5 w5 hown5 hg5
  have hb5 : Below w3.heap.size w3 w5 := below_grown hb4 hown4 (Nat.le_refl _) hs4 hg5
  have hs5 := hb5.size
  rw [← bytesV_append, HAB.out] at hown5
  obtain ⟨A5, k5, rfl, hk5, hl5⟩ := own_form hown5
  have hlen5 : (bytesOf l).length + (bytesOf m).length = (bytesOf q).length := by rw [← HAB.out, List.length_append]
  rw [hlen5] at hk5 hl5 ⊢
  clear hg5 hown5 hown4 hb4 hs4
  go_wp2_with fail
  refine (read_any A5 _ k5 (bytesOf q) _ hl5 hk5 (by omega)).mono ?_
  rintro r w6 ⟨v6, rfl, hown6, hb6'⟩
  have hb6 : Below w3.heap.size w3 w6 := hb5.trans (hb6'.mono hs5)
  have hs6 := hb6.size
  rw [HBACK.out] at hown6
  obtain ⟨A6, k6, rfl, hk6, hl6⟩ := own_form hown6
  rw [code_bytes]
  clear hown6 hb6' hb5 hs5 hl5 hlen5
  have hb06 : Below w.heap.size w w6 := hb3.trans (hb6.mono hs3)
  go_wp2_with (at_builtin; go_loud (refine wpList_append_lies _ rfl (.const (.slice none 0 0)) (.tmp 55) _ rfl w6.heap.size 36 i0 _ 4 32 Try.underlying22 hi hz0 hz1 hz2 rfl (by omega) (.slice none 0 0) 0 [] rfl (World.ownsRow_nil _ _ _ _) w.heap.size A _ c (cellsOf l) rfl (hl.below hb06) (cells_one _) (by unfold maxLen; omega) (by omega) (Nat.le_refl _) ?_))
  intro v7 w7 hown7 hg7
  have hb7 : Below w6.heap.size w6 w7 := below_grown (Below.refl _ _) (World.ownsRow_nil w6 w6.heap.size 36 4) (Nat.le_refl _) (Nat.le_refl _) hg7
  have hs7 := hb7.size
  have hb07 : Below w.heap.size w w7 := hb06.trans (hb7.mono hb06.size)
  clear hg7
  go_wp2_with (at_builtin; go_loud (refine wpList_append_lies _ rfl (.tmp 56) (.tmp 57) _ rfl w6.heap.size 36 i0 _ 4 32 Try.underlying22 hi hz0 hz1 hz2 rfl (by omega) v7 _ _ rfl hown7 w.heap.size B _ d (cellsOf m) rfl (hm.below hb07) (cells_one _) (by unfold maxLen; omega) (by omega) hs7 ?_))
  intro v8 w8 hown8 hg8
  have hb8 : Below w6.heap.size w6 w8 := below_grown hb7 hown7 (Nat.le_refl _) hs7 hg8
  have hs8 := hb8.size
  rw [← HCC.out] at hown8
  obtain ⟨A8, k8, rfl, hk8, hl8⟩ := own_form hown8
  have hlen8 := HLL.out
  rw [hlen8] at hk8 hl8 ⊢
  clear hg8 hown8 hown7 hb7 hs7 hb07 hlen8
  have hb38 : Below w3.heap.size w3 w8 := hb6.trans (hb8.mono hs6)
  go_wp2_with (at_builtin; go_loud (refine wpList_append_lies _ rfl (.const (.slice none 0 0)) (.tmp 60) _ rfl w8.heap.size 5 i1 _ 1 1 Try.underlying23 hi1 hy0 hy1 hy2 rfl (by omega) (.slice none 0 0) 0 [] rfl (World.ownsRow_nil _ _ _ _) w3.heap.size A2 _ k2 (bytesV (bytesOf l)) rfl (hx3.below hb38) (bytesV_one _) (by unfold maxLen; omega) (by omega) (Nat.le_refl _) ?_))
  intro v9 w9 hown9 hg9
  have hb9 : Below w8.heap.size w8 w9 := below_grown (Below.refl _ _) (World.ownsRow_nil w8 w8.heap.size 5 1) (Nat.le_refl _) (Nat.le_refl _) hg9
  have hs9 := hb9.size
  clear hg9
  go_wp2_with (at_builtin; go_loud (refine wpList_append_lit _ rfl (.tmp 61) (.tmp 62) _ rfl w8.heap.size 5 i1 _ 1 1 Try.underlying23 hi1 hy0 hy1 hy2 rfl (by omega) _ _ _ rfl hown9 _ _ 1 1 rfl rfl ?c1 ?c2 ?c3 ?c4 ?_))
  case c1 => first | rfl | exact trivial | (intro u hu; simp at hu; subst hu; rfl)
  case c2 => unfold maxLen; omega
  case c3 => omega
  case c4 => omega
  intro v10 w10 hown10 hg10
  have hb10 : Below w8.heap.size w8 w10 := below_grown (hb9.alloc hs9 _) (hown9.alloc _) (Nat.le_refl _) (by simp; omega) hg10
  have hs10 := hb10.size
  have e1 : bytesV (bytesOf l) ++ [Value.int .u8 1] = bytesV (bytesOf l ++ [1]) := by rw [bytesV_append]; rfl
  rw [e1] at hown10
  obtain ⟨A10, k10, rfl, hk10, hl10⟩ := own_form hown10
  clear hg10 hown10 hown9 hb9 hs9 e1
  go_wp2_with fail
  refine (read_any A10 _ k10 (bytesOf l ++ [1]) _ hl10 hk10 (by omega)).mono ?_
  rintro r w11 ⟨v11, rfl, hown11, hb11'⟩
  have hb11 : Below w8.heap.size w8 w11 := hb10.trans (hb11'.mono hs10)
  have hs11 := hb11.size
  obtain ⟨A11, k11, rfl, hk11, _⟩ := own_form hown11
  have hodd : readCode (bytesOf l ++ [1]) = 2 := code_odd _ (by rw [List.length_append, List.length_singleton]; have := bytes_len l; omega)
  rw [hodd]
  clear hown11 hb11' hb10 hs10 hl10 hk10 hodd hk11
  have hb611 : Below w6.heap.size w6 w11 := hb8.trans (hb11.mono hs8)
  have hb311 : Below w3.heap.size w3 w11 := hb6.trans (hb611.mono hs6)
  have hb011 : Below w.heap.size w w11 := hb3.trans (hb311.mono hs3)
  have hx11 := (hl6.below hb611).wider hb611.size
  have hy11 := (hl8.below hb11).wider hb11.size
  have hCA : ∀ W : World, Below w11.heap.size w11 W → (convert 23 9 (.slice A2 (bytesOf l).length k2)).run Try.prog W = .ok (.string (strOf (bytesOf l))) W := fun W hW => str_conv ((hx3.below hb311).below (hW.mono hb311.size))
  have hCB : ∀ W : World, Below w11.heap.size w11 W → (convert 23 9 (.slice A3 (bytesOf m).length k3)).run Try.prog W = .ok (.string (strOf (bytesOf m))) W := fun W hW => str_conv ((hl3.below hb311).below (hW.mono hb311.size))
  have H7 : Hid (∀ W : World, Below w11.heap.size w11 W → Calls Try.prog 7 #[.slice A8 q.length k8] W fun e w' => ∃ A12 k12, e = .returned (.slice A12 (bytesOf q).length k12) ∧ Below w11.heap.size w11 w' ∧
      (convert 23 9 (.slice A12 (bytesOf q).length k12)).run Try.prog w' = .ok (.string (strOf (bytesOf q))) w') := by
    intro W hW
    refine (bytes_any A8 _ k8 q W ((hy11.below hW).wider hW.size) (by have := HLL.out; omega)).mono ?_
    rintro e w12 ⟨v12, rfl, hown12, hb12⟩
    obtain ⟨A12, k12, rfl, hk12, hl12⟩ := own_form hown12
    exact ⟨A12, k12, rfl, hW.trans (hb12.mono hW.size), str_conv hl12⟩
  have H11 : Hid (∀ W : World, Below w11.heap.size w11 W → Calls Try.prog 11 #[.slice A6 q.length k6, .slice A8 q.length k8] W fun e w' => e = .returned (.bool true) ∧ Below w11.heap.size w11 w') := by
    intro W hW
    refine (same_yes A6 A8 _ k6 k8 q W ((hx11.below hW).wider hW.size) ((hy11.below hW).wider hW.size) (by have := HLL.out; omega)).mono ?_
    rintro e w12 ⟨rfl, hb12⟩
    exact ⟨rfl, hW.trans (hb12.mono hW.size)⟩
  have z1 : (strOf (bytesOf l)).size = (bytesOf l).length := rfl
  have z2 : (strOf (bytesOf m)).size = (bytesOf m).length := rfl
  have hsz : (9223372036854775807 < (strOf (bytesOf l)).size + (strOf (bytesOf m)).size) = False := eq_false (by rw [z1, z2]; omega)
  have hcat : strOf (bytesOf l) ++ strOf (bytesOf m) = strOf (bytesOf q) := by rw [← HAB.out]; exact strOf_append _ _
  clear z1 z2
  have hbd : Below w11.heap.size w11 w11.drew := (Below.refl _ _).drew
  clear hl hm hx3 hl3 hl6 hl8 hb3 hb6 hb8 hb11 hb611 hb311 hb06 hb38 hk2 hk3 hk5 hk6 hk8 hs3 hs6 hs8 hs11
  go_wp2_with fail
  refine wp_region_noPanic ?_
  refine wp_region_held_drew (S := fun W => Below w11.heap.size w11 W) (by kernel_rfl) hbd (fun hHeld => ?_)
  refine wpAnyH_take (i := 0) (oi := ⟨some 67, _, _, _, _, _⟩) (v := ?zcv0) rfl (by kernel_rfl) (by kernel_rfl) (by kernel_rfl) (fun _ _ _ h => h) (Or.inl ⟨by rfl, ?zcy0⟩) (by assumption) ?zcr0
  case zcy0 => intro w hSw; go_simp; try (with_reducible rfl)
  try simp only [Act.put, List.setIfInBounds_toArray, List.set_cons_zero, List.set_cons_succ]
  refine wpAnyH_ready (rs := [1]) (by kernel_rfl) (by simp) ?_
  refine AllReadyH.cons (o := ⟨some 68, _, _, _, _, _⟩) rfl (fun K hK => ?_) AllReadyH.nil
  go_simp
  refine (num_any _ _).mono ?_
  rintro r w9 ⟨rfl, rfl⟩
  refine hK.out _ _ ?_ (fun hHeld => ?_)
  · assumption
  clear hK K
  try simp only [Act.put, List.setIfInBounds_toArray, List.set_cons_zero, List.set_cons_succ]
  refine wpAnyH_take (i := 2) (oi := ⟨some 69, _, _, _, _, _⟩) (v := ?zcv2) rfl (by kernel_rfl) (by kernel_rfl) (by kernel_rfl) (fun _ _ _ h => h) (Or.inl ⟨by rfl, ?zcy2⟩) (by assumption) ?zcr2
  case zcy2 => intro w hSw; go_simp; try (with_reducible rfl)
  try simp only [Act.put, List.setIfInBounds_toArray, List.set_cons_zero, List.set_cons_succ]
  refine wpAnyH_take (i := 3) (oi := ⟨some 70, _, _, _, _, _⟩) (v := ?zcv3) rfl (by kernel_rfl) (by kernel_rfl) (by kernel_rfl) (fun _ _ _ h => h) (Or.inl ⟨by rfl, ?zcy3⟩) (by assumption) ?zcr3
  case zcy3 => intro w hSw; go_simp; try (with_reducible rfl)
  try simp only [Act.put, List.setIfInBounds_toArray, List.set_cons_zero, List.set_cons_succ]
  refine wpAnyH_take (i := 4) (oi := ⟨some 71, _, _, _, _, _⟩) (v := ?zcv4) rfl (by kernel_rfl) (by kernel_rfl) (by kernel_rfl) (fun _ _ _ h => h) (Or.inl ⟨by rfl, ?zcy4⟩) (by assumption) ?zcr4
  case zcy4 => intro w hSw; go_simp; try (with_reducible rfl)
  try simp only [Act.put, List.setIfInBounds_toArray, List.set_cons_zero, List.set_cons_succ]
  refine wpAnyH_take (i := 5) (oi := ⟨some 72, _, _, _, _, _⟩) (v := ?zcv5) rfl (by kernel_rfl) (by kernel_rfl) (by kernel_rfl) (fun _ _ _ h => h) (Or.inl ⟨by rfl, ?zcy5⟩) (by assumption) ?zcr5
  case zcy5 => intro w hSw; go_simp; try (with_reducible rfl)
  try simp only [Act.put, List.setIfInBounds_toArray, List.set_cons_zero, List.set_cons_succ]
  refine wpAnyH_ready (rs := [6]) (by kernel_rfl) (by simp) ?_
  refine AllReadyH.cons (o := ⟨some 73, _, _, _, _, _⟩) rfl (fun K hK => ?_) AllReadyH.nil
  go_simp
  refine (H11.out _ (by assumption)).mono ?_
  rintro r w13 ⟨rfl, hb13⟩
  refine hK.out _ _ ?_ (fun hHeld => ?_)
  · exact hb13
  clear hK K
  try simp only [Act.put, List.setIfInBounds_toArray, List.set_cons_zero, List.set_cons_succ]
  refine wpAnyH_take (i := 7) (oi := ⟨some 74, _, _, _, _, _⟩) (v := ?zcv7) rfl (by kernel_rfl) (by kernel_rfl) (by kernel_rfl) (fun _ _ _ h => h) (Or.inl ⟨by rfl, ?zcy7⟩) (by assumption) ?zcr7
  case zcy7 => intro w hSw; go_simp; try (with_reducible rfl)
  try simp only [Act.put, List.setIfInBounds_toArray, List.set_cons_zero, List.set_cons_succ]
  refine wpAnyH_take (i := 8) (oi := ⟨some 75, _, _, _, _, _⟩) (v := ?zcv8) rfl (by kernel_rfl) (by kernel_rfl) (by kernel_rfl) (fun _ _ _ h => h) (Or.inl ⟨by rfl, ?zcy8⟩) (by assumption) ?zcr8
  case zcy8 => intro w hSw; go_simp; try (with_reducible rfl)
  try simp only [Act.put, List.setIfInBounds_toArray, List.set_cons_zero, List.set_cons_succ]
  refine wpAnyH_take (i := 9) (oi := ⟨some 76, _, _, _, _, _⟩) (v := ?zcv9) rfl (by kernel_rfl) (by kernel_rfl) (by kernel_rfl) (fun _ _ _ h => h) (Or.inl ⟨by rfl, ?zcy9⟩) (by assumption) ?zcr9
  case zcy9 => intro w hSw; go_simp; try (with_reducible rfl)
  try simp only [Act.put, List.setIfInBounds_toArray, List.set_cons_zero, List.set_cons_succ]
  refine wpAnyH_take (i := 12) (oi := ⟨some 79, _, _, _, _, _⟩) (v := ?zcv12) rfl (by kernel_rfl) (by kernel_rfl) (by kernel_rfl) (fun _ _ _ h => h) (Or.inl ⟨by rfl, ?zcy12⟩) (by assumption) ?zcr12
  case zcy12 => intro w hSw; go_simp; try (with_reducible rfl)
  try simp only [Act.put, List.setIfInBounds_toArray, List.set_cons_zero, List.set_cons_succ]
  refine wpAnyH_take (i := 13) (oi := ⟨some 80, _, _, _, _, _⟩) (v := ?zcv13) rfl (by kernel_rfl) (by kernel_rfl) (by kernel_rfl) (fun _ _ _ h => h) (Or.inl ⟨by rfl, ?zcy13⟩) (by assumption) ?zcr13
  case zcy13 => intro w hSw; go_simp; try (with_reducible rfl)
  try simp only [Act.put, List.setIfInBounds_toArray, List.set_cons_zero, List.set_cons_succ]
  refine wpAnyH_take (i := 14) (oi := ⟨some 81, _, _, _, _, _⟩) (v := ?zcv14) rfl (by kernel_rfl) (by kernel_rfl) (by kernel_rfl) (fun _ _ _ h => h) (Or.inl ⟨by rfl, ?zcy14⟩) (by assumption) ?zcr14
  case zcy14 => intro w hSw; go_simp; try (with_reducible rfl)
  try simp only [Act.put, List.setIfInBounds_toArray, List.set_cons_zero, List.set_cons_succ]
  refine wpAnyH_take (i := 15) (oi := ⟨some 82, _, _, _, _, _⟩) (v := ?zcv15) rfl (by kernel_rfl) (by kernel_rfl) (by kernel_rfl) (fun _ _ _ h => h) (Or.inl ⟨by rfl, ?zcy15⟩) (by assumption) ?zcr15
  case zcy15 => intro w hSw; go_simp; try (with_reducible rfl)
  try simp only [Act.put, List.setIfInBounds_toArray, List.set_cons_zero, List.set_cons_succ]
  refine wpAnyH_take (i := 16) (oi := ⟨some 83, _, _, _, _, _⟩) (v := ?zcv16) rfl (by kernel_rfl) (by kernel_rfl) (by kernel_rfl) (fun _ _ _ h => h) (Or.inl ⟨by rfl, ?zcy16⟩) (by assumption) ?zcr16
  case zcy16 => intro w hSw; go_simp; try (with_reducible rfl)
  try simp only [Act.put, List.setIfInBounds_toArray, List.set_cons_zero, List.set_cons_succ]
  refine wpAnyH_ready (rs := [10]) (by kernel_rfl) (by simp) ?_
  refine AllReadyH.cons (o := ⟨some 77, _, _, _, _, _⟩) rfl (fun K hK => ?_) AllReadyH.nil
  go_simp
  refine (H7.out _ (by assumption)).mono ?_
  rintro r w12 ⟨A12, k12, rfl, hb12, cy12⟩
  refine hK.out _ _ ?_ (fun hHeld => ?_)
  · exact hb12
  clear hK K
  try simp only [Act.put, List.setIfInBounds_toArray, List.set_cons_zero, List.set_cons_succ]
  refine wpAnyH_ready (rs := [11]) (by kernel_rfl) (by simp) ?_
  refine AllReadyH.cons (o := ⟨some 78, _, _, _, _, _⟩) rfl (fun K hK => ?_) AllReadyH.nil
  go_simp
  refine hK.out _ _ ?_ (fun hHeld => ?_)
  · assumption
  clear hK K
  try simp only [Act.put, List.setIfInBounds_toArray, List.set_cons_zero, List.set_cons_succ]
  refine wpAnyH_take (i := 17) (oi := ⟨some 84, _, _, _, _, _⟩) (v := ?zcv17) rfl (by kernel_rfl) (by kernel_rfl) (by kernel_rfl) (fun _ _ _ h => h) (Or.inl ⟨by rfl, ?zcy17⟩) (by assumption) ?zcr17
  case zcy17 => intro w hSw; go_simp; try (with_reducible rfl)
  try simp only [Act.put, List.setIfInBounds_toArray, List.set_cons_zero, List.set_cons_succ]
  refine wpAnyH_take (i := 18) (oi := ⟨some 85, _, _, _, _, _⟩) (v := ?zcv18) rfl (by kernel_rfl) (by kernel_rfl) (by kernel_rfl) (fun _ _ _ h => h) (Or.inl ⟨by rfl, ?zcy18⟩) (by assumption) ?zcr18
  case zcy18 => intro w hSw; go_simp; try (with_reducible rfl)
  try simp only [Act.put, List.setIfInBounds_toArray, List.set_cons_zero, List.set_cons_succ]
  refine wpAnyH_take (i := 19) (oi := ⟨some 86, _, _, _, _, _⟩) (v := ?zcv19) rfl (by kernel_rfl) (by kernel_rfl) (by kernel_rfl) (fun _ _ _ h => h) (Or.inl ⟨by rfl, ?zcy19⟩) (by assumption) ?zcr19
  case zcy19 => intro w hSw; go_simp; try (with_reducible rfl)
  try simp only [Act.put, List.setIfInBounds_toArray, List.set_cons_zero, List.set_cons_succ]
  refine wpAnyH_take (i := 20) (oi := ⟨some 87, _, _, _, _, _⟩) (v := ?zcv20) rfl (by kernel_rfl) (by kernel_rfl) (by kernel_rfl) (fun _ _ _ h => h) (Or.inl ⟨by rfl, ?zcy20⟩) (by assumption) ?zcr20
  case zcy20 => intro w hSw; go_simp; try (with_reducible rfl)
  try simp only [Act.put, List.setIfInBounds_toArray, List.set_cons_zero, List.set_cons_succ]
  refine wpAnyH_ready (rs := [21]) (by kernel_rfl) (by simp) ?_
  refine AllReadyH.cons (o := ⟨some 88, _, _, _, _, _⟩) rfl (fun K hK => ?_) AllReadyH.nil
  go_simp
  refine (num_any _ _).mono ?_
  rintro r w9 ⟨rfl, rfl⟩
  refine hK.out _ _ ?_ (fun hHeld => ?_)
  · assumption
  clear hK K
  try simp only [Act.put, List.setIfInBounds_toArray, List.set_cons_zero, List.set_cons_succ]
  refine wpAnyH_take (i := 22) (oi := ⟨some 89, _, _, _, _, _⟩) (v := ?zcv22) rfl (by kernel_rfl) (by kernel_rfl) (by kernel_rfl) (fun _ _ _ h => h) (Or.inl ⟨by rfl, ?zcy22⟩) (by assumption) ?zcr22
  case zcy22 => intro w hSw; go_simp; try (with_reducible rfl)
  try simp only [Act.put, List.setIfInBounds_toArray, List.set_cons_zero, List.set_cons_succ]
  refine wpAnyH_take (i := 23) (oi := ⟨some 90, _, _, _, _, _⟩) (v := ?zcv23) rfl (by kernel_rfl) (by kernel_rfl) (by kernel_rfl) (fun _ _ _ h => h) (Or.inl ⟨by rfl, ?zcy23⟩) (by assumption) ?zcr23
  case zcy23 => intro w hSw; go_simp; try (with_reducible rfl)
  try simp only [Act.put, List.setIfInBounds_toArray, List.set_cons_zero, List.set_cons_succ]
  refine wpAnyH_take (i := 24) (oi := ⟨some 4, _, _, _, _, _⟩) (v := ?zcv24) rfl (by kernel_rfl) (by kernel_rfl) (by kernel_rfl) (fun _ _ _ h => h) (Or.inl ⟨by rfl, ?zcy24⟩) (by assumption) ?zcr24
  case zcy24 => intro w hSw; go_simp; try (with_reducible rfl)
  try simp only [Act.put, List.setIfInBounds_toArray, List.set_cons_zero, List.set_cons_succ]
  refine wpAnyH_done (by kernel_rfl) ?_ _
  refine NoPanic.normal ?_
  go_wp2
  go_ret
  exact ⟨rfl, hb011.trans ((show Below w11.heap.size w11 _ by assumption).mono hb011.size)⟩

set_option maxRecDepth 100000 in
set_option maxHeartbeats 4000000 in
theorem join_out (A B : Option Addr) (c d : Nat) (l m : List Ins) (w : World) (hl : Lies w w.heap.size 4 A l.length (cellsOf l)) (hm : Lies w w.heap.size 4 B m.length (cellsOf m)) (hn : l.length ≤ 4398046511104) (hn' : m.length ≤ 4398046511104)
    (h : 100 < l.length ∨ (l.length ≤ 100 ∧ 100 < m.length) ∨ (l.length ≤ 100 ∧ m.length ≤ 100 ∧ (((bytesOf l).length : Int) != 8 * (l.length : Int)) = true) ∨
      (l.length ≤ 100 ∧ m.length ≤ 100 ∧ (((bytesOf l).length : Int) != 8 * (l.length : Int)) = false ∧ (((bytesOf m).length : Int) != 8 * (m.length : Int)) = true)) :
    Calls Try.prog 5 #[.slice A l.length c, .slice B m.length d] w fun r w' => r = .returned (.bool true) ∧ Below w.heap.size w w' := by
  rcases h with h | ⟨h, h1⟩ | ⟨h, h1, h2⟩ | ⟨h, h1, h2, h3⟩
  all_goals
    go_enter Try.func5, Try.ntmps5
    go_wp2_with fail
    refine (alive_any _).mono ?_
    rintro r w1 ⟨rfl, hb1⟩
    have hs1 := hb1.size
    go_wp2_with fail
    refine (refBytes_any A _ c l _ ((hl.below hb1).wider hs1) (by omega)).mono ?_
    rintro r w2 ⟨v2, rfl, hown2, hb2'⟩
    have hb2 : Below w.heap.size w w2 := hb1.trans (hb2'.mono hs1)
    have hs2 := hb2.size
    obtain ⟨A2, k2, rfl, hk2, hl2⟩ := own_form hown2
    clear hown2 hb2' hb1 hs1 hl2
    go_wp2_with fail
    refine (refBytes_any B _ d m _ ((hm.below hb2).wider hs2) (by omega)).mono ?_
    rintro r w3 ⟨v3, rfl, hown3, hb3'⟩
    have hb3 : Below w.heap.size w w3 := hb2.trans (hb3'.mono hs2)
    obtain ⟨A3, k3, rfl, hk3, hl3⟩ := own_form hown3
    clear hown3 hb3' hb2 hs2 hl3
    go_wp2
    go_ret
    exact ⟨rfl, hb3⟩

end Go.Proofs.Ytdlhadmafcgaiaa
