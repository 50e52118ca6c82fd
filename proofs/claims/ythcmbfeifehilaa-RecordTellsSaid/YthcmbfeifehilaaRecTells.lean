/- The walk of the statement RecordTells: it returns true, and writes nothing that was there. -/
import Derived.Test.YthcmbfeifehilaaHalves
import Derived.Test.YthcmbfeifehilaaEqDat
import Derived.Test.YthcmbfeifehilaaOpenB
namespace Go.Proofs.Ythcmbfeifehilaa
open Go.RowKit

/-- A new block of data. -/
theorem dat_new (D : Dat) (w : World) : Box (w.alloc (.cells D.cells 26)) w.heap.size 26 D.cells ∧ Below w.heap.size w (w.alloc (.cells D.cells 26)) ∧ (w.alloc (.cells D.cells 26)).heap.size = w.heap.size + 1 :=
  ⟨Box.new _ _ _, (Below.refl _ _).alloc (Nat.le_refl _) _, by simp⟩

theorem dat_cu (D : Dat) : D.cells = #[.int .u32 D.nr, .int .u32 D.arch, .int .u64 D.ip, .int .u64 D.a0, .int .u64 D.a1, .int .u64 D.a2, .int .u64 D.a3, .int .u64 D.a4, .int .u64 D.a5] := rfl

set_option linter.unusedSimpArgs false in
set_option maxRecDepth 100000 in
set_option maxHeartbeats 4000000 in
theorem rtells_in (R : RecSays) (d : Dat) (B : Option Addr) (m c : Nat) (b : List UInt8) (off : Int) (w : World) (hd : d.Ok) (hb : Lies w w.heap.size 1 B m (bytesV b)) (hm : m ≤ 200) (o0 : 0 ≤ off) (o1 : off < 4294967296) :
    Calls Try.prog 3 #[d.val, .slice B m c, .int .u32 off] w fun r w' => r = .returned (.bool true) ∧ Below w.heap.size w w' := by
  obtain ⟨i1, hi1, hy0, hy1, hy2⟩ := info_parts Try.info5
  obtain ⟨D, hD⟩ : ∃ D, D = datOf b := ⟨_, rfl⟩
  have HD := Lib.hid hD
  have HCU := Lib.hid (dat_cu d)
  have HCD := Lib.hid (dat_cu D)
  have HN := Lib.hid (dat_new d w)
  have hback := dat_back d hd
  have HBK := Lib.hid hback
  clear hD hback
  rw [show d.val = .agg d.cells from rfl, dat_cu d]
  go_enter Try.func3, Try.ntmps3
  go_wp2_with fail
  rw [← HCU.out]
  obtain ⟨g, hg⟩ : ∃ g, g = w.heap.size := ⟨_, rfl⟩
  obtain ⟨hbox0, hbw0, hsz0⟩ := HN.out
  clear HN
  generalize w.alloc (.cells d.cells 26) = w0 at *
  rw [← hg] at hbox0 hbw0 hsz0 hb ⊢
  have HG := Lib.hid hg
  clear hg hsz0
  refine (ralive_any R w0).mono ?_
  rintro r w1 ⟨rfl, hb1⟩
  have hbox1 := hbox0.below hb1 hbox0.lt
  have hnx1 : Below g w w1 := hbw0.trans (hb1.mono (Nat.le_of_lt hbox0.lt))
  clear hbox0 hbw0 hb1
  go_wp2_with (at_builtin; go_loud (refine wpList_append_lies _ rfl (.const (.slice none 0 0)) (.tmp 28) _ rfl w1.heap.size 5 i1 _ 1 1 Try.underlying27 hi1 hy0 hy1 hy2 rfl (by omega) (.slice none 0 0) 0 [] rfl (World.ownsRow_nil _ _ _ _) g B _ c (bytesV b) rfl (hb.below hnx1) (bytesV_one b) (by unfold maxLen; omega) (by omega) (Nat.le_refl _) ?_))
  intro v2 w2 hown2 hg2
  have hb2 : Below w1.heap.size w1 w2 := below_grown (Below.refl _ _) (World.ownsRow_nil w1 w1.heap.size 5 1) (Nat.le_refl _) (Nat.le_refl _) hg2
  have hbox2 := hbox1.below hb2 hbox1.lt
  have hnx2 : Below g w w2 := hnx1.trans (hb2.mono (Nat.le_of_lt hbox1.lt))
  obtain ⟨A2, k2, rfl, hk2, hl2⟩ := own_form hown2
  clear hg2 hown2 hb2 hbox1 hnx1
  go_wp2_with fail
  refine (R.read A2 m k2 b _ hl2 hk2 (by omega)).mono ?_
  rintro r w3 ⟨rfl, hb3⟩
  rw [← HD.out, show D.val = .agg D.cells from rfl]
  have hbox3 := hbox2.below hb3 hbox2.lt
  have hnx3 : Below g w w3 := hnx2.trans (hb3.mono (Nat.le_of_lt hbox2.lt))
  clear hl2 hk2 hbox2 hnx2 hb3
  have HN := Lib.hid (dat_new D w3)
  rw [HCD.out]
  go_wp2_with fail
  rw [← HCD.out]
  obtain ⟨hx3, hb3, hz3⟩ := HN.out
  clear HN
  generalize w3.alloc (.cells D.cells 26) = w3a at *
  obtain ⟨gx, hgx⟩ : ∃ gx, gx = w3.heap.size := ⟨_, rfl⟩
  have hbox4 := hbox3.below hb3 hbox3.lt
  have hnx4 : Below g w w3a := hnx3.trans (hb3.mono (Nat.le_of_lt hbox3.lt))
  rw [← hgx] at hx3 ⊢
  clear hgx hb3 hz3 hbox3 hnx3
  refine (refData_any B m c b _ ((hb.below hnx4).wider (Nat.le_of_lt hbox4.lt)) (by omega)).mono ?_
  rintro r w4 ⟨rfl, hb4⟩
  rw [← HD.out, show D.val = .agg D.cells from rfl]
  have hbox5 := hbox4.below hb4 hbox4.lt
  have hx5 := hx3.below hb4 hx3.lt
  have hnx5 : Below g w w4 := hnx4.trans (hb4.mono (Nat.le_of_lt hbox4.lt))
  clear hbox4 hnx4 hx3 hb4
  have HN := Lib.hid (dat_new D w4)
  rw [HCD.out]
  obtain ⟨u0, u1, u2, u3, u4, u5, u6, u7, u8⟩ := hbox5.dat
  have hlt5 := hbox5.lt
  go_wp2_with fail
  rw [← HCD.out]
  obtain ⟨hy5, hb5, hz5⟩ := HN.out
  clear HN u0 u1 u2 u3 u4 u5 u6 u7 u8
  generalize w4.alloc (.cells D.cells 26) = w5 at *
  obtain ⟨gy, hgy⟩ : ∃ gy, gy = w4.heap.size := ⟨_, rfl⟩
  have hbox6 := hbox5.below hb5 hbox5.lt
  have hx6 := hx5.below hb5 hx5.lt
  have hnx6 : Below g w w5 := hnx5.trans (hb5.mono (Nat.le_of_lt hbox5.lt))
  rw [← hgy] at hy5 ⊢
  clear hgy hb5 hz5 hbox5 hx5 hnx5 hlt5
  refine (R.word d off _ hd o0 o1).mono ?_
  rintro r w6 ⟨rfl, hb6⟩
  have hbox7 := hbox6.below hb6 hbox6.lt
  have hx7 := hx6.below hb6 hx6.lt
  have hy7 := hy5.below hb6 hy5.lt
  have hnx7 : Below g w w6 := hnx6.trans (hb6.mono (Nat.le_of_lt hbox6.lt))
  clear hb6 hbox6 hx6 hy5 hnx6
  obtain ⟨u0, u1, u2, u3, u4, u5, u6, u7, u8⟩ := hbox7.dat
  go_wp2_with fail
  clear u0 u1 u2 u3 u4 u5 u6 u7 u8
  refine (refWord_any d off _ hd o0 o1).mono ?_
  rintro r w7 ⟨rfl, hb7⟩
  have hbox8 := hbox7.below hb7 hbox7.lt
  have hx8 := hx7.below hb7 hx7.lt
  have hy8 := hy7.below hb7 hy7.lt
  have hnx8 : Below g w w7 := hnx7.trans (hb7.mono (Nat.le_of_lt hbox7.lt))
  clear hb7 hbox7 hx7 hy7 hnx7
  obtain ⟨u0, u1, u2, u3, u4, u5, u6, u7, u8⟩ := hbox8.dat
  go_wp2_with fail
  clear u0 u1 u2 u3 u4 u5 u6 u7 u8
  refine (R.bytes d _ hd).mono ?_
  rintro r w8 ⟨v8, rfl, hown8, hb8⟩
  have hbox9 := hbox8.below hb8 hbox8.lt
  have hx9 := hx8.below hb8 hx8.lt
  have hy9 := hy8.below hb8 hy8.lt
  have hnx9 : Below g w w8 := hnx8.trans (hb8.mono (Nat.le_of_lt hbox8.lt))
  obtain ⟨A8, k8, rfl, hk8, hl8⟩ := own_form hown8
  clear hown8 hb8 hbox8 hx8 hy8 hnx8
  go_wp2_with fail
  refine (R.read A8 64 k8 d.bytes _ hl8 hk8 (by omega)).mono ?_
  rintro r w9 ⟨rfl, hb9⟩
  rw [HBK.out, dat_code, show d.val = .agg d.cells from rfl]
  have hbox10 := hbox9.below hb9 hbox9.lt
  have hx10 := hx9.below hb9 hx9.lt
  have hy10 := hy9.below hb9 hy9.lt
  have hnx10 : Below g w w9 := hnx9.trans (hb9.mono (Nat.le_of_lt hbox9.lt))
  clear hl8 hk8 hbox9 hx9 hy9 hnx9 hb9
  have HN := Lib.hid (dat_new d w9)
  rw [HCU.out]
  go_wp2_with fail
  rw [← HCU.out]
  obtain ⟨hz10, hb10, hs10⟩ := HN.out
  clear HN
  generalize w9.alloc (.cells d.cells 26) = w10 at *
  obtain ⟨gz, hgz⟩ : ∃ gz, gz = w9.heap.size := ⟨_, rfl⟩
  have hbox11 := hbox10.below hb10 hbox10.lt
  have hx11 := hx10.below hb10 hx10.lt
  have hy11 := hy10.below hb10 hy10.lt
  have hnx11 : Below g w w10 := hnx10.trans (hb10.mono (Nat.le_of_lt hbox10.lt))
  rw [← hgz] at hz10 ⊢
  clear hgz hb10 hs10 hbox10 hx10 hy10 hnx10
  have hFg : ∀ (W : World) (o : Nat), Below w10.heap.size w10 W → W.cell? ⟨g, o, none⟩ = (#[.int .u32 d.nr, .int .u32 d.arch, .int .u64 d.ip, .int .u64 d.a0, .int .u64 d.a1, .int .u64 d.a2, .int .u64 d.a3, .int .u64 d.a4, .int .u64 d.a5] : Array Value)[o]? := fun W o hW => (hbox11.below hW hbox11.lt).cell o
  have hFx : ∀ (W : World) (o : Nat), Below w10.heap.size w10 W → W.cell? ⟨gx, o, none⟩ = (#[.int .u32 D.nr, .int .u32 D.arch, .int .u64 D.ip, .int .u64 D.a0, .int .u64 D.a1, .int .u64 D.a2, .int .u64 D.a3, .int .u64 D.a4, .int .u64 D.a5] : Array Value)[o]? := fun W o hW => (hx11.below hW hx11.lt).cell o
  have hFy : ∀ (W : World) (o : Nat), Below w10.heap.size w10 W → W.cell? ⟨gy, o, none⟩ = (#[.int .u32 D.nr, .int .u32 D.arch, .int .u64 D.ip, .int .u64 D.a0, .int .u64 D.a1, .int .u64 D.a2, .int .u64 D.a3, .int .u64 D.a4, .int .u64 D.a5] : Array Value)[o]? := fun W o hW => (hy11.below hW hy11.lt).cell o
  have hFz : ∀ (W : World) (o : Nat), Below w10.heap.size w10 W → W.cell? ⟨gz, o, none⟩ = (#[.int .u32 d.nr, .int .u32 d.arch, .int .u64 d.ip, .int .u64 d.a0, .int .u64 d.a1, .int .u64 d.a2, .int .u64 d.a3, .int .u64 d.a4, .int .u64 d.a5] : Array Value)[o]? := fun W o hW => (hz10.below hW hz10.lt).cell o
  have hE1 : ∀ W : World, (Op.equalIn 10000 26 (.agg #[.int .u32 D.nr, .int .u32 D.arch, .int .u64 D.ip, .int .u64 D.a0, .int .u64 D.a1, .int .u64 D.a2, .int .u64 D.a3, .int .u64 D.a4, .int .u64 D.a5]) (.agg #[.int .u32 D.nr, .int .u32 D.arch, .int .u64 D.ip, .int .u64 D.a0, .int .u64 D.a1, .int .u64 D.a2, .int .u64 D.a3, .int .u64 D.a4, .int .u64 D.a5])).run Try.prog W = .ok true W := fun W => eq_dat D W
  have hE2 : ∀ W : World, (Op.equalIn 10000 26 (.agg #[.int .u32 d.nr, .int .u32 d.arch, .int .u64 d.ip, .int .u64 d.a0, .int .u64 d.a1, .int .u64 d.a2, .int .u64 d.a3, .int .u64 d.a4, .int .u64 d.a5]) (.agg #[.int .u32 d.nr, .int .u32 d.arch, .int .u64 d.ip, .int .u64 d.a0, .int .u64 d.a1, .int .u64 d.a2, .int .u64 d.a3, .int .u64 d.a4, .int .u64 d.a5])).run Try.prog W = .ok true W := fun W => eq_dat d W
  have hq := Try.eqGuardType26
  have hlt := hbox11.lt
  clear hbox11 hx11 hy11 hz10 hb
  refine wp_region_noPanic ?_
  refine wp_region_held_drew (S := fun W => Below w10.heap.size w10 W) (by kernel_rfl) ((Below.refl _ _).drew) (fun hHeld => ?_)
  refine wpAnyH_take (i := 0) (oi := ⟨some 56, _, _, _, _, _⟩) (v := ?zdv0) rfl (by kernel_rfl) (by kernel_rfl) (by kernel_rfl) (fun _ _ _ h => h) (Or.inl ⟨by rfl, ?zdy0⟩) (by assumption) ?zdr0
  case zdy0 => intro w hSw; go_simp; try (with_reducible rfl)
  try simp only [Act.put, List.setIfInBounds_toArray, List.set_cons_zero, List.set_cons_succ]
  refine wpAnyH_take (i := 3) (oi := ⟨some 59, _, _, _, _, _⟩) (v := ?zdv3) rfl (by kernel_rfl) (by kernel_rfl) (by kernel_rfl) (fun _ _ _ h => h) (Or.inl ⟨by rfl, ?zdy3⟩) (by assumption) ?zdr3
  case zdy3 => intro w hSw; go_simp; try (with_reducible rfl)
  try simp only [Act.put, List.setIfInBounds_toArray, List.set_cons_zero, List.set_cons_succ]
  refine wpAnyH_ready (rs := [1]) (by kernel_rfl) (by simp) ?_
  refine AllReadyH.cons (o := ⟨some 57, _, _, _, _, _⟩) rfl (fun K hK => ?_) AllReadyH.nil
  go_simp
  refine (R.bytes d _ hd).mono ?_
  rintro r w11 ⟨v11, rfl, hown11, hb11'⟩
  obtain ⟨A11, k11, rfl, _, hl11⟩ := own_form hown11
  have hb11 : Below w10.heap.size w10 w11 := below_undrew hb11'
  clear hown11 hb11'
  refine hK.out _ _ ?_ (fun hHeld => ?_)
  · exact hb11
  clear hK K
  try simp only [Act.put, List.setIfInBounds_toArray, List.set_cons_zero, List.set_cons_succ]
  have hC11 : ∀ W : World, Below w11.heap.size w11 W → (convert 27 9 (.slice A11 64 k11)).run Try.prog W = .ok (.string (strOf d.bytes)) W := fun W hW => str_conv (hl11.below hW)
  have hHeld1 : (fun W => Below w10.heap.size w10 W ∧ Below w11.heap.size w11 W) w11 := ⟨hHeld, Below.refl _ _⟩
  refine wpAnyH_mono (S' := fun W => Below w10.heap.size w10 W ∧ Below w11.heap.size w11 W) (fun W h => h.1) _ _ _ _ ?_
  refine wpAnyH_take (i := 2) (oi := ⟨some 58, _, _, _, _, _⟩) (v := ?zdv2) rfl (by kernel_rfl) (by kernel_rfl) (by kernel_rfl) (fun _ _ _ h => h) (Or.inl ⟨by rfl, ?zdy2⟩) (by assumption) ?zdr2
  case zdy2 => intro w hSw; go_simp; try (with_reducible rfl)
  try simp only [Act.put, List.setIfInBounds_toArray, List.set_cons_zero, List.set_cons_succ]
  refine wpAnyH_ready (rs := [4]) (by kernel_rfl) (by simp) ?_
  refine AllReadyH.cons (o := ⟨some 60, _, _, _, _, _⟩) rfl (fun K hK => ?_) AllReadyH.nil
  go_simp
  refine (refBytes_any d _ hd).mono ?_
  rintro r w12 ⟨v12, rfl, hown12, hb12⟩
  obtain ⟨A12, k12, rfl, _, hl12⟩ := own_form hown12
  clear hown12
  refine hK.out _ _ ?_ (fun hHeld => ?_)
  · exact ⟨hb11.trans (hb12.mono hb11.size), hb12⟩
  clear hK K
  try simp only [Act.put, List.setIfInBounds_toArray, List.set_cons_zero, List.set_cons_succ]
  have hC12 : ∀ W : World, Below w12.heap.size w12 W → (convert 27 9 (.slice A12 64 k12)).run Try.prog W = .ok (.string (strOf d.bytes)) W := fun W hW => str_conv (hl12.below hW)
  have hHeld4 : (fun W => Below w10.heap.size w10 W ∧ Below w11.heap.size w11 W ∧ Below w12.heap.size w12 W) w12 := ⟨hHeld.1, hHeld.2, Below.refl _ _⟩
  refine wpAnyH_mono (S' := fun W => Below w10.heap.size w10 W ∧ Below w11.heap.size w11 W ∧ Below w12.heap.size w12 W) (fun W h => ⟨h.1, h.2.1⟩) _ _ _ _ ?_
  refine wpAnyH_take (i := 5) (oi := ⟨some 61, _, _, _, _, _⟩) (v := ?zdv5) rfl (by kernel_rfl) (by kernel_rfl) (by kernel_rfl) (fun _ _ _ h => h) (Or.inl ⟨by rfl, ?zdy5⟩) (by assumption) ?zdr5
  case zdy5 => intro w hSw; go_simp; try (with_reducible rfl)
  try simp only [Act.put, List.setIfInBounds_toArray, List.set_cons_zero, List.set_cons_succ]
  refine wpAnyH_take (i := 6) (oi := ⟨some 62, _, _, _, _, _⟩) (v := ?zdv6) rfl (by kernel_rfl) (by kernel_rfl) (by kernel_rfl) (fun _ _ _ h => h) (Or.inl ⟨by rfl, ?zdy6⟩) (by assumption) ?zdr6
  case zdy6 => intro w hSw; go_simp; try (with_reducible rfl)
  try simp only [Act.put, List.setIfInBounds_toArray, List.set_cons_zero, List.set_cons_succ]
  refine wpAnyH_take (i := 7) (oi := ⟨some 63, _, _, _, _, _⟩) (v := ?zdv7) rfl (by kernel_rfl) (by kernel_rfl) (by kernel_rfl) (fun _ _ _ h => h) (Or.inl ⟨by rfl, ?zdy7⟩) (by assumption) ?zdr7
  case zdy7 => intro w hSw; go_simp; try (with_reducible rfl)
  try simp only [Act.put, List.setIfInBounds_toArray, List.set_cons_zero, List.set_cons_succ]
  refine wpAnyH_take (i := 8) (oi := ⟨some 64, _, _, _, _, _⟩) (v := ?zdv8) rfl (by kernel_rfl) (by kernel_rfl) (by kernel_rfl) (fun _ _ _ h => h) (Or.inl ⟨by rfl, ?zdy8⟩) (by assumption) ?zdr8
  case zdy8 => intro w hSw; go_simp; try (with_reducible rfl)
  try simp only [Act.put, List.setIfInBounds_toArray, List.set_cons_zero, List.set_cons_succ]
  refine wpAnyH_take (i := 9) (oi := ⟨some 65, _, _, _, _, _⟩) (v := ?zdv9) rfl (by kernel_rfl) (by kernel_rfl) (by kernel_rfl) (fun _ _ _ h => h) (Or.inl ⟨by rfl, ?zdy9⟩) (by assumption) ?zdr9
  case zdy9 => intro w hSw; go_simp; try (with_reducible rfl)
  try simp only [Act.put, List.setIfInBounds_toArray, List.set_cons_zero, List.set_cons_succ]
  refine wpAnyH_take (i := 10) (oi := ⟨some 66, _, _, _, _, _⟩) (v := ?zdv10) rfl (by kernel_rfl) (by kernel_rfl) (by kernel_rfl) (fun _ _ _ h => h) (Or.inl ⟨by rfl, ?zdy10⟩) (by assumption) ?zdr10
  case zdy10 => intro w hSw; go_simp; try (with_reducible rfl)
  try simp only [Act.put, List.setIfInBounds_toArray, List.set_cons_zero, List.set_cons_succ]
  refine wpAnyH_take (i := 11) (oi := ⟨some 67, _, _, _, _, _⟩) (v := ?zdv11) rfl (by kernel_rfl) (by kernel_rfl) (by kernel_rfl) (fun _ _ _ h => h) (Or.inl ⟨by rfl, ?zdy11⟩) (by assumption) ?zdr11
  case zdy11 => intro w hSw; go_simp; try (with_reducible rfl)
  try simp only [Act.put, List.setIfInBounds_toArray, List.set_cons_zero, List.set_cons_succ]
  refine wpAnyH_take (i := 12) (oi := ⟨some 68, _, _, _, _, _⟩) (v := ?zdv12) rfl (by kernel_rfl) (by kernel_rfl) (by kernel_rfl) (fun _ _ _ h => h) (Or.inl ⟨by rfl, ?zdy12⟩) (by assumption) ?zdr12
  case zdy12 => intro w hSw; go_simp; try (with_reducible rfl)
  try simp only [Act.put, List.setIfInBounds_toArray, List.set_cons_zero, List.set_cons_succ]
  refine wpAnyH_take (i := 13) (oi := ⟨some 69, _, _, _, _, _⟩) (v := ?zdv13) rfl (by kernel_rfl) (by kernel_rfl) (by kernel_rfl) (fun _ _ _ h => h) (Or.inl ⟨by rfl, ?zdy13⟩) (by assumption) ?zdr13
  case zdy13 => intro w hSw; go_simp; try (with_reducible rfl)
  try simp only [Act.put, List.setIfInBounds_toArray, List.set_cons_zero, List.set_cons_succ]
  refine wpAnyH_take (i := 15) (oi := ⟨some 71, _, _, _, _, _⟩) (v := ?zdv15) rfl (by kernel_rfl) (by kernel_rfl) (by kernel_rfl) (fun _ _ _ h => h) (Or.inl ⟨by rfl, ?zdy15⟩) (by assumption) ?zdr15
  case zdy15 => intro w hSw; go_simp; try (with_reducible rfl)
  try simp only [Act.put, List.setIfInBounds_toArray, List.set_cons_zero, List.set_cons_succ]
  refine wpAnyH_ready (rs := [14]) (by kernel_rfl) (by simp) ?_
  refine AllReadyH.cons (o := ⟨some 70, _, _, _, _, _⟩) rfl (fun K hK => ?_) AllReadyH.nil
  go_simp
  refine (rnum_any _ _).mono ?_
  rintro r w13 ⟨rfl, rfl⟩
  refine hK.out _ _ ?_ (fun hHeld => ?_)
  · assumption
  clear hK K
  try simp only [Act.put, List.setIfInBounds_toArray, List.set_cons_zero, List.set_cons_succ]
  refine wpAnyH_take (i := 16) (oi := ⟨some 72, _, _, _, _, _⟩) (v := ?zdv16) rfl (by kernel_rfl) (by kernel_rfl) (by kernel_rfl) (fun _ _ _ h => h) (Or.inl ⟨by rfl, ?zdy16⟩) (by assumption) ?zdr16
  case zdy16 => intro w hSw; go_simp; try (with_reducible rfl)
  try simp only [Act.put, List.setIfInBounds_toArray, List.set_cons_zero, List.set_cons_succ]
  refine wpAnyH_take (i := 17) (oi := ⟨some 73, _, _, _, _, _⟩) (v := ?zdv17) rfl (by kernel_rfl) (by kernel_rfl) (by kernel_rfl) (fun _ _ _ h => h) (Or.inl ⟨by rfl, ?zdy17⟩) (by assumption) ?zdr17
  case zdy17 => intro w hSw; go_simp; try (with_reducible rfl)
  try simp only [Act.put, List.setIfInBounds_toArray, List.set_cons_zero, List.set_cons_succ]
  refine wpAnyH_take (i := 18) (oi := ⟨some 74, _, _, _, _, _⟩) (v := ?zdv18) rfl (by kernel_rfl) (by kernel_rfl) (by kernel_rfl) (fun _ _ _ h => h) (Or.inl ⟨by rfl, ?zdy18⟩) (by assumption) ?zdr18
  case zdy18 => intro w hSw; go_simp; try (with_reducible rfl)
  try simp only [Act.put, List.setIfInBounds_toArray, List.set_cons_zero, List.set_cons_succ]
  refine wpAnyH_take (i := 19) (oi := ⟨some 75, _, _, _, _, _⟩) (v := ?zdv19) rfl (by kernel_rfl) (by kernel_rfl) (by kernel_rfl) (fun _ _ _ h => h) (Or.inl ⟨by rfl, ?zdy19⟩) (by assumption) ?zdr19
  case zdy19 => intro w hSw; go_simp; try (with_reducible rfl)
  try simp only [Act.put, List.setIfInBounds_toArray, List.set_cons_zero, List.set_cons_succ]
  refine wpAnyH_take (i := 20) (oi := ⟨some 76, _, _, _, _, _⟩) (v := ?zdv20) rfl (by kernel_rfl) (by kernel_rfl) (by kernel_rfl) (fun _ _ _ h => h) (Or.inl ⟨by rfl, ?zdy20⟩) (by assumption) ?zdr20
  case zdy20 => intro w hSw; go_simp; try (with_reducible rfl)
  try simp only [Act.put, List.setIfInBounds_toArray, List.set_cons_zero, List.set_cons_succ]
  refine wpAnyH_take (i := 21) (oi := ⟨some 77, _, _, _, _, _⟩) (v := ?zdv21) rfl (by kernel_rfl) (by kernel_rfl) (by kernel_rfl) (fun _ _ _ h => h) (Or.inl ⟨by rfl, ?zdy21⟩) (by assumption) ?zdr21
  case zdy21 => intro w hSw; go_simp; try (with_reducible rfl)
  try simp only [Act.put, List.setIfInBounds_toArray, List.set_cons_zero, List.set_cons_succ]
  refine wpAnyH_take (i := 22) (oi := ⟨some 78, _, _, _, _, _⟩) (v := ?zdv22) rfl (by kernel_rfl) (by kernel_rfl) (by kernel_rfl) (fun _ _ _ h => h) (Or.inl ⟨by rfl, ?zdy22⟩) (by assumption) ?zdr22
  case zdy22 => intro w hSw; go_simp; try (with_reducible rfl)
  try simp only [Act.put, List.setIfInBounds_toArray, List.set_cons_zero, List.set_cons_succ]
  refine wpAnyH_take (i := 23) (oi := ⟨some 79, _, _, _, _, _⟩) (v := ?zdv23) rfl (by kernel_rfl) (by kernel_rfl) (by kernel_rfl) (fun _ _ _ h => h) (Or.inl ⟨by rfl, ?zdy23⟩) (by assumption) ?zdr23
  case zdy23 => intro w hSw; go_simp; try (with_reducible rfl)
  try simp only [Act.put, List.setIfInBounds_toArray, List.set_cons_zero, List.set_cons_succ]
  refine wpAnyH_take (i := 24) (oi := ⟨some 80, _, _, _, _, _⟩) (v := ?zdv24) rfl (by kernel_rfl) (by kernel_rfl) (by kernel_rfl) (fun _ _ _ h => h) (Or.inl ⟨by rfl, ?zdy24⟩) (by assumption) ?zdr24
  case zdy24 => intro w hSw; go_simp; try (with_reducible rfl)
  try simp only [Act.put, List.setIfInBounds_toArray, List.set_cons_zero, List.set_cons_succ]
  refine wpAnyH_take (i := 25) (oi := ⟨some 81, _, _, _, _, _⟩) (v := ?zdv25) rfl (by kernel_rfl) (by kernel_rfl) (by kernel_rfl) (fun _ _ _ h => h) (Or.inl ⟨by rfl, ?zdy25⟩) (by assumption) ?zdr25
  case zdy25 => intro w hSw; go_simp; try (with_reducible rfl)
  try simp only [Act.put, List.setIfInBounds_toArray, List.set_cons_zero, List.set_cons_succ]
  refine wpAnyH_take (i := 26) (oi := ⟨some 82, _, _, _, _, _⟩) (v := ?zdv26) rfl (by kernel_rfl) (by kernel_rfl) (by kernel_rfl) (fun _ _ _ h => h) (Or.inl ⟨by rfl, ?zdy26⟩) (by assumption) ?zdr26
  case zdy26 => intro w hSw; go_simp; try (with_reducible rfl)
  try simp only [Act.put, List.setIfInBounds_toArray, List.set_cons_zero, List.set_cons_succ]
  refine wpAnyH_take (i := 27) (oi := ⟨some 83, _, _, _, _, _⟩) (v := ?zdv27) rfl (by kernel_rfl) (by kernel_rfl) (by kernel_rfl) (fun _ _ _ h => h) (Or.inl ⟨by rfl, ?zdy27⟩) (by assumption) ?zdr27
  case zdy27 => intro w hSw; go_simp; try (with_reducible rfl)
  try simp only [Act.put, List.setIfInBounds_toArray, List.set_cons_zero, List.set_cons_succ]
  refine wpAnyH_take (i := 28) (oi := ⟨some 84, _, _, _, _, _⟩) (v := ?zdv28) rfl (by kernel_rfl) (by kernel_rfl) (by kernel_rfl) (fun _ _ _ h => h) (Or.inl ⟨by rfl, ?zdy28⟩) (by assumption) ?zdr28
  case zdy28 => intro w hSw; go_simp; try (with_reducible rfl)
  try simp only [Act.put, List.setIfInBounds_toArray, List.set_cons_zero, List.set_cons_succ]
  refine wpAnyH_take (i := 29) (oi := ⟨some 85, _, _, _, _, _⟩) (v := ?zdv29) rfl (by kernel_rfl) (by kernel_rfl) (by kernel_rfl) (fun _ _ _ h => h) (Or.inl ⟨by rfl, ?zdy29⟩) (by assumption) ?zdr29
  case zdy29 => intro w hSw; go_simp; try (with_reducible rfl)
  try simp only [Act.put, List.setIfInBounds_toArray, List.set_cons_zero, List.set_cons_succ]
  refine wpAnyH_ready (rs := [30]) (by kernel_rfl) (by simp) ?_
  refine AllReadyH.cons (o := ⟨some 86, _, _, _, _, _⟩) rfl (fun K hK => ?_) AllReadyH.nil
  go_simp
  refine (rnum_any _ _).mono ?_
  rintro r w13 ⟨rfl, rfl⟩
  refine hK.out _ _ ?_ (fun hHeld => ?_)
  · assumption
  clear hK K
  try simp only [Act.put, List.setIfInBounds_toArray, List.set_cons_zero, List.set_cons_succ]
  refine wpAnyH_take (i := 31) (oi := ⟨some 87, _, _, _, _, _⟩) (v := ?zdv31) rfl (by kernel_rfl) (by kernel_rfl) (by kernel_rfl) (fun _ _ _ h => h) (Or.inl ⟨by rfl, ?zdy31⟩) (by assumption) ?zdr31
  case zdy31 => intro w hSw; go_simp; try (with_reducible rfl)
  try simp only [Act.put, List.setIfInBounds_toArray, List.set_cons_zero, List.set_cons_succ]
  refine wpAnyH_take (i := 32) (oi := ⟨some 88, _, _, _, _, _⟩) (v := ?zdv32) rfl (by kernel_rfl) (by kernel_rfl) (by kernel_rfl) (fun _ _ _ h => h) (Or.inl ⟨by rfl, ?zdy32⟩) (by assumption) ?zdr32
  case zdy32 => intro w hSw; go_simp; try (with_reducible rfl)
  try simp only [Act.put, List.setIfInBounds_toArray, List.set_cons_zero, List.set_cons_succ]
  refine wpAnyH_take (i := 33) (oi := ⟨some 89, _, _, _, _, _⟩) (v := ?zdv33) rfl (by kernel_rfl) (by kernel_rfl) (by kernel_rfl) (fun _ _ _ h => h) (Or.inl ⟨by rfl, ?zdy33⟩) (by assumption) ?zdr33
  case zdy33 => intro w hSw; go_simp; try (with_reducible rfl)
  try simp only [Act.put, List.setIfInBounds_toArray, List.set_cons_zero, List.set_cons_succ]
  refine wpAnyH_take (i := 34) (oi := ⟨some 90, _, _, _, _, _⟩) (v := ?zdv34) rfl (by kernel_rfl) (by kernel_rfl) (by kernel_rfl) (fun _ _ _ h => h) (Or.inl ⟨by rfl, ?zdy34⟩) (by assumption) ?zdr34
  case zdy34 => intro w hSw; go_simp; try (with_reducible rfl)
  try simp only [Act.put, List.setIfInBounds_toArray, List.set_cons_zero, List.set_cons_succ]
  refine wpAnyH_take (i := 35) (oi := ⟨some 91, _, _, _, _, _⟩) (v := ?zdv35) rfl (by kernel_rfl) (by kernel_rfl) (by kernel_rfl) (fun _ _ _ h => h) (Or.inl ⟨by rfl, ?zdy35⟩) (by assumption) ?zdr35
  case zdy35 => intro w hSw; go_simp; try (with_reducible rfl)
  try simp only [Act.put, List.setIfInBounds_toArray, List.set_cons_zero, List.set_cons_succ]
  refine wpAnyH_take (i := 36) (oi := ⟨some 92, _, _, _, _, _⟩) (v := ?zdv36) rfl (by kernel_rfl) (by kernel_rfl) (by kernel_rfl) (fun _ _ _ h => h) (Or.inl ⟨by rfl, ?zdy36⟩) (by assumption) ?zdr36
  case zdy36 => intro w hSw; go_simp; try (with_reducible rfl)
  try simp only [Act.put, List.setIfInBounds_toArray, List.set_cons_zero, List.set_cons_succ]
  refine wpAnyH_take (i := 37) (oi := ⟨some 93, _, _, _, _, _⟩) (v := ?zdv37) rfl (by kernel_rfl) (by kernel_rfl) (by kernel_rfl) (fun _ _ _ h => h) (Or.inl ⟨by rfl, ?zdy37⟩) (by assumption) ?zdr37
  case zdy37 => intro w hSw; go_simp; try (with_reducible rfl)
  try simp only [Act.put, List.setIfInBounds_toArray, List.set_cons_zero, List.set_cons_succ]
  refine wpAnyH_take (i := 38) (oi := ⟨some 6, _, _, _, _, _⟩) (v := ?zdv38) rfl (by kernel_rfl) (by kernel_rfl) (by kernel_rfl) (fun _ _ _ h => h) (Or.inl ⟨by rfl, ?zdy38⟩) (by assumption) ?zdr38
  case zdy38 => intro w hSw; go_simp; try (with_reducible rfl)
  try simp only [Act.put, List.setIfInBounds_toArray, List.set_cons_zero, List.set_cons_succ]
  refine wpAnyH_done (by kernel_rfl) ?_ _
  refine NoPanic.normal ?_
  go_wp2
  go_ret
  have eg := HG.out
  subst eg
  exact ⟨rfl, hnx11.trans ((hb11.trans (hb12.mono hb11.size)).mono (Nat.le_of_lt hlt))⟩

set_option maxRecDepth 100000 in
set_option maxHeartbeats 4000000 in
theorem rtells_out (R : RecSays) (d : Dat) (B : Option Addr) (m c : Nat) (off : Int) (w : World) (h : 200 < m) (hm : m ≤ 140737488355328) :
    Calls Try.prog 3 #[d.val, .slice B m c, .int .u32 off] w fun r w' => r = .returned (.bool true) ∧ Below w.heap.size w w' := by
  unfold Dat.val Dat.cells
  go_enter Try.func3, Try.ntmps3
  go_wp2_with fail
  refine (ralive_any R _).mono ?_
  rintro r w1 ⟨rfl, hb1⟩
  go_wp2
  go_ret
  exact ⟨rfl, ((Below.refl _ _).alloc (Nat.le_refl _) _).trans (hb1.mono (by simp))⟩

end Go.Proofs.Ythcmbfeifehilaa
