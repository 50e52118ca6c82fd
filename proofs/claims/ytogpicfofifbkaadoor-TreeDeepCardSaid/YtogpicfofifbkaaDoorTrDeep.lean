/- The walk of TreeDeep, given the landed code's contract. -/
import Derived.Test.YtogpicfofifbkaaDoorTrDeepP
import Derived.Deep.DeepCutAuto
namespace Go.Proofs.YtogpicfofifbkaaDoor
open Go.RowKit

/-- Between two rounds: x's box, and what it holds. -/
def Grows (w : World) (n : Int) (gx : Nat) (i : Value) (wr : World) : Prop :=
  ∃ (m : Nat) (e : Ex), i = .int .i64 (m : Int) ∧ 2 ≤ m ∧ (m : Int) ≤ n ∧ DeepOk m e ∧ ExIn wr wr.heap.size e ∧ Avoids gx e ∧ Box wr gx 26 e.cells.toArray ∧ Below w.heap.size w wr ∧ w.heap.size ≤ gx

set_option maxRecDepth 100000 in
set_option maxHeartbeats 16000000 in
theorem deep_any {Y : World → Prop} (R : TreeSays Y) (n : Int) (b : Bool) (w : World) (hn : I64 n) (hY : Y w) : Calls Tryd.prog 3 #[.int .i64 n, .bool b] w (Quietly (.bool true) w) := by
  have HAL := Lib.hid (tree_alive R w hY)
  have HY : Hid (∀ W : World, Below w.heap.size w W → Y W) := fun W hW => R.keep _ _ hY hW
  clear hY
  by_cases h2 : n < 2
  · go_enter Tryd.func3, Tryd.ntmps3
    go_wp2_with fail
    refine HAL.out.mono ?_
    rintro r w1 ⟨rfl, hb1⟩
    go_wp2
    go_ret
    exact ⟨rfl, hb1⟩
  by_cases h60 : 60 < n
  · go_enter Tryd.func3, Tryd.ntmps3
    go_wp2_with fail
    refine HAL.out.mono ?_
    rintro r w1 ⟨rfl, hb1⟩
    go_wp2
    go_ret
    exact ⟨rfl, hb1⟩
  have hn60 : n ≤ 60 := by omega
  have hn2 : 2 ≤ n := by omega
  have d1 : decide (n < 2) = false := by simp; omega
  have d2 : decide (60 < n) = false := by simp; omega
  go_enter Tryd.func3, Tryd.ntmps3
  go_wp2_with fail
  refine HAL.out.mono ?_
  rintro r w1 ⟨rfl, hb1⟩
  have HS : Hid (Grows w n (w1.heap.size + 1) (.int .i64 2) ((w1.alloc (.cells #[.int .i64 5, .string ⟨#[]⟩, .string ⟨#[102, 100]⟩, .int .u64 0, .slice none 0 0, .int .i64 7, .string ⟨#[]⟩, .string ⟨#[]⟩, .int .u64 0, .slice none 0 0] 26)).alloc
      (.cells #[.int .i64 4, .string ⟨#[61, 61]⟩, .string ⟨#[]⟩, .int .u64 0, .slice (some ⟨w1.heap.size, 0, none⟩) 2 2] 26))) := by
    have c0 := (Box.new w1 26 #[.int .i64 5, .string ⟨#[]⟩, .string ⟨#[102, 100]⟩, .int .u64 0, .slice none 0 0, .int .i64 7, .string ⟨#[]⟩, .string ⟨#[]⟩, .int .u64 0, .slice none 0 0]).alloc (.cells #[.int .i64 4, .string ⟨#[61, 61]⟩, .string ⟨#[]⟩, .int .u64 0, .slice (some ⟨w1.heap.size, 0, none⟩) 2 2] 26)
    refine ⟨2, Dcmp ⟨#[61, 61]⟩ w1.heap.size, rfl, Nat.le_refl _, hn2, deep_start _, cmp_in _ (by decide) c0, cmp_avoids _ (by omega), box_two _ _ _ _, below_step hb1 (Nat.le_refl _) (below_alloc (boxed _ _) (Nat.le_refl _) _), by have := hb1.size; omega⟩
  clear HAL hb1
  go_wp2
  obtain ⟨gx, hgx⟩ : ∃ gx, gx = w1.heap.size + 1 := ⟨_, rfl⟩
  rw [← hgx] at HS ⊢
  go_loopw [7] (fun i wr => Grows w n gx i wr) (fun i _ => (n - intOf i).toNat)
  case atStart => exact HS.out
  case round =>
    clear HS hgx
    obtain ⟨m, e, rfl, hm2, hmn, hok, hin, hav, hbx, hbw, hgw⟩ := hrel
    have HB := Lib.hid hbx
    have HOK := Lib.hid hok
    have HIN := Lib.hid hin
    have HAV := Lib.hid hav
    have HBW := Lib.hid hbw
    have hgxw := hbx.lt
    clear hok hin hav hbw
    obtain ⟨kd, op, nm, nu, A, c, ks⟩ := e
    obtain ⟨q0, q1, q2, q3, q4, q5⟩ := box_ex (show Box wr gx 26 #[.int .i64 kd, .string op, .string nm, .int .u64 nu, .slice A ks.length c] from hbx)
    clear hbx
    by_cases hlt : (m : Int) < n
    · cases b
      · go_upto_region 11 with (fail)
        refine wp_region_lit ?_
        refine wpList_plain (by rfl) fun K hK => ?_
        go_simp
        refine hK _ _ ?_
        clear hK K
        refine wpList_store_box (by rfl) 26 _ _ (by rfl) gx 26 _ #[.int .i64 3, .string ⟨#[]⟩, .string ⟨#[]⟩, .int .u64 0, .slice (some ⟨wr.heap.size, 0, none⟩) 1 1] (by rfl) (by rfl) ((HB.out.alloc _).alloc _) (by rfl) (by kernel_rfl) (by simp [Value.oneCell']) ?_
        intro w3 hB3 hg3
        simp only [Act.put]
        have hb2 : Below wr.heap.size wr ((wr.alloc (.cells #[.int .i64 kd, .string op, .string nm, .int .u64 nu, .slice A ks.length c] 26)).alloc (.cells #[.int .i64 3, .string ⟨#[]⟩, .string ⟨#[]⟩, .int .u64 0, .slice (some ⟨wr.heap.size, 0, none⟩) 1 1] 26)) := below_alloc (boxed wr _) (Nat.le_refl _) _
        have hne : wr.heap.size ≠ gx := by omega
        have hi2 := not_in (HIN.out.next hb2) ((Box.new wr 26 #[.int .i64 kd, .string op, .string nm, .int .u64 nu, .slice A ks.length c]).alloc (.cells #[.int .i64 3, .string ⟨#[]⟩, .string ⟨#[]⟩, .int .u64 0, .slice (some ⟨wr.heap.size, 0, none⟩) 1 1] 26))
        have hfin : Grows w n gx (.int .i64 ((m : Int) + 1)) w3 :=
          ⟨m + 1, Dnot wr.heap.size (.node kd op nm nu A c ks), rfl, by omega, by omega, deep_not HOK.out _, (exIn_turned hi2 (not_avoids hne HAV.out) hg3 (Nat.le_refl _)).wider hg3.size, not_avoids hne HAV.out, hB3,
            below_only (below_step HBW.out (Nat.le_refl _) hb2) hgw (by have := HBW.out.size; have := hb2.size; omega) hg3, hgw⟩
        go_wp2
        go_roundw
        case rel => exact hfin
        case measure => simp [intOf]; omega
      · go_upto_region 10 with (fail)
        refine wp_region_lit ?_
        refine wpList_plain (by rfl) fun K hK => ?_
        go_simp
        refine hK _ _ ?_
        clear hK K
        refine wpList_plain (by rfl) fun K hK => ?_
        go_simp
        refine hK _ _ ?_
        clear hK K
        refine wpList_plain (by rfl) fun K hK => ?_
        go_simp
        refine hK _ _ ?_
        clear hK K
        refine wpList_plain (by rfl) fun K hK => ?_
        go_simp
        refine hK _ _ ?_
        clear hK K
        have hat := allocs_at [.cells #[.int .i64 kd, .string op, .string nm, .int .u64 nu, .slice A ks.length c] 26, .cells #[.int .i64 3, .string ⟨#[]⟩, .string ⟨#[]⟩, .int .u64 0, .slice (some ⟨wr.heap.size, 0, none⟩) 1 1] 26, .cells #[.int .i64 5, .string ⟨#[]⟩, .string ⟨#[102, 100]⟩, .int .u64 0, .slice none 0 0, .int .i64 7, .string ⟨#[]⟩, .string ⟨#[]⟩, .int .u64 0, .slice none 0 0] 26] wr
        have hbl3 := allocs_below [.cells #[.int .i64 kd, .string op, .string nm, .int .u64 nu, .slice A ks.length c] 26, .cells #[.int .i64 3, .string ⟨#[]⟩, .string ⟨#[]⟩, .int .u64 0, .slice (some ⟨wr.heap.size, 0, none⟩) 1 1] 26, .cells #[.int .i64 5, .string ⟨#[]⟩, .string ⟨#[102, 100]⟩, .int .u64 0, .slice none 0 0, .int .i64 7, .string ⟨#[]⟩, .string ⟨#[]⟩, .int .u64 0, .slice none 0 0] 26] wr
        have hsz3 := allocs_size [.cells #[.int .i64 kd, .string op, .string nm, .int .u64 nu, .slice A ks.length c] 26, .cells #[.int .i64 3, .string ⟨#[]⟩, .string ⟨#[]⟩, .int .u64 0, .slice (some ⟨wr.heap.size, 0, none⟩) 1 1] 26, .cells #[.int .i64 5, .string ⟨#[]⟩, .string ⟨#[102, 100]⟩, .int .u64 0, .slice none 0 0, .int .i64 7, .string ⟨#[]⟩, .string ⟨#[]⟩, .int .u64 0, .slice none 0 0] 26] wr
        change wpList _ _ _ _ _ (List.foldl World.alloc wr [.cells #[.int .i64 kd, .string op, .string nm, .int .u64 nu, .slice A ks.length c] 26, .cells #[.int .i64 3, .string ⟨#[]⟩, .string ⟨#[]⟩, .int .u64 0, .slice (some ⟨wr.heap.size, 0, none⟩) 1 1] 26, .cells #[.int .i64 5, .string ⟨#[]⟩, .string ⟨#[102, 100]⟩, .int .u64 0, .slice none 0 0, .int .i64 7, .string ⟨#[]⟩, .string ⟨#[]⟩, .int .u64 0, .slice none 0 0] 26])
        generalize List.foldl World.alloc wr [.cells #[.int .i64 kd, .string op, .string nm, .int .u64 nu, .slice A ks.length c] 26, .cells #[.int .i64 3, .string ⟨#[]⟩, .string ⟨#[]⟩, .int .u64 0, .slice (some ⟨wr.heap.size, 0, none⟩) 1 1] 26, .cells #[.int .i64 5, .string ⟨#[]⟩, .string ⟨#[102, 100]⟩, .int .u64 0, .slice none 0 0, .int .i64 7, .string ⟨#[]⟩, .string ⟨#[]⟩, .int .u64 0, .slice none 0 0] 26] = W3 at *
        simp only [List.length_cons, List.length_nil, Nat.zero_add, Nat.reduceAdd] at hsz3
        have i1 : Box W3 (wr.heap.size + 1) 26 #[.int .i64 3, .string ⟨#[]⟩, .string ⟨#[]⟩, .int .u64 0, .slice (some ⟨wr.heap.size, 0, none⟩) 1 1] := hat 1 _ rfl
        have i2 : Box W3 (wr.heap.size + 2) 26 #[.int .i64 5, .string ⟨#[]⟩, .string ⟨#[102, 100]⟩, .int .u64 0, .slice none 0 0, .int .i64 7, .string ⟨#[]⟩, .string ⟨#[]⟩, .int .u64 0, .slice none 0 0] := hat 2 _ rfl
        obtain ⟨z0, z1, z2, z3, z4, z5⟩ := box_ex (show Box W3 gx 26 #[.int .i64 kd, .string op, .string nm, .int .u64 nu, .slice A ks.length c] from HB.out.step hbl3)
        clear hat
        refine wpList_plain (by rfl) fun K hK => ?_
        go_simp
        refine hK _ _ ?_
        clear hK K
        refine wpList_plain (by rfl) fun K hK => ?_
        go_simp
        refine hK _ _ ?_
        clear hK K
        refine wpList_plain (by rfl) fun K hK => ?_
        go_simp
        refine hK _ _ ?_
        clear hK K
        have k1 := i1.alloc (.cells ((Dcmp ⟨#[60]⟩ (wr.heap.size + 2)).cells ++ (Ex.node kd op nm nu A c ks).cells).toArray 26)
        have k2 := i2.alloc (.cells ((Dcmp ⟨#[60]⟩ (wr.heap.size + 2)).cells ++ (Ex.node kd op nm nu A c ks).cells).toArray 26)
        have k3 := Box.new W3 26 ((Dcmp ⟨#[60]⟩ (wr.heap.size + 2)).cells ++ (Ex.node kd op nm nu A c ks).cells).toArray
        have hbl := below_alloc hbl3 (Nat.le_refl _) (.cells ((Dcmp ⟨#[60]⟩ (wr.heap.size + 2)).cells ++ (Ex.node kd op nm nu A c ks).cells).toArray 26)
        change wpList _ _ _ _ _ (W3.alloc (.cells ((Dcmp ⟨#[60]⟩ (wr.heap.size + 2)).cells ++ (Ex.node kd op nm nu A c ks).cells).toArray 26))
        generalize W3.alloc (.cells ((Dcmp ⟨#[60]⟩ (wr.heap.size + 2)).cells ++ (Ex.node kd op nm nu A c ks).cells).toArray 26) = W4 at *
        rw [hsz3] at k3
        clear z0 z1 z2 z3 z4 z5 i1 i2 hbl3 hsz3
        refine wpList_store_box (by rfl) 26 _ _ (by rfl) (wr.heap.size + 1) 26 _ #[.int .i64 1, .string ⟨#[]⟩, .string ⟨#[]⟩, .int .u64 0, .slice (some ⟨wr.heap.size + 3, 0, none⟩) 2 2] (by rfl) (by rfl) k1 (by rfl) (by kernel_rfl) (by simp [Value.oneCell']) ?_
        intro w5 hB5 hg5
        simp only [Act.put]
        have hb5 : Below wr.heap.size wr w5 := below_only hbl (by omega) hbl.size hg5
        have j2 : Box w5 (wr.heap.size + 2) 26 #[.int .i64 5, .string ⟨#[]⟩, .string ⟨#[102, 100]⟩, .int .u64 0, .slice none 0 0, .int .i64 7, .string ⟨#[]⟩, .string ⟨#[]⟩, .int .u64 0, .slice none 0 0] := (hg5.block _ k2.lt (by simp)).trans k2
        have j3 : Box w5 (wr.heap.size + 3) 26 ((Dcmp ⟨#[60]⟩ (wr.heap.size + 2)).cells ++ (Ex.node kd op nm nu A c ks).cells).toArray := (hg5.block _ k3.lt (by simp)).trans k3
        have hi5 := or_in (HIN.out.next hb5) j2 j3
        have hB0 := HB.out.step hb5
        obtain ⟨r0, r1, r2, r3, r4, r5⟩ := box_ex (show Box w5 (wr.heap.size + 1) 26 #[.int .i64 1, .string ⟨#[]⟩, .string ⟨#[]⟩, .int .u64 0, .slice (some ⟨wr.heap.size + 3, 0, none⟩) 2 2] from hB5)
        clear k1 k2 k3 j2 j3 hbl
        go_upto_region 11 with (fail)
        refine wp_region_lit ?_
        refine wpList_plain (by rfl) fun K hK => ?_
        go_simp
        refine hK _ _ ?_
        clear hK K
        refine wpList_store_box (by rfl) 26 _ _ (by rfl) gx 26 _ #[.int .i64 1, .string ⟨#[]⟩, .string ⟨#[]⟩, .int .u64 0, .slice (some ⟨wr.heap.size + 3, 0, none⟩) 2 2] (by rfl) (by rfl) hB0 (by rfl) (by kernel_rfl) (by simp [Value.oneCell']) ?_
        intro w6 hB6 hg6
        simp only [Act.put]
        have hav : Avoids gx (Dor (wr.heap.size + 2) (wr.heap.size + 3) (.node kd op nm nu A c ks)) := or_avoids (by omega) (by omega) HAV.out
        have hfin : Grows w n gx (.int .i64 ((m : Int) + 1)) w6 :=
          ⟨m + 1, Dor (wr.heap.size + 2) (wr.heap.size + 3) (.node kd op nm nu A c ks), rfl, by omega, by omega, deep_or HOK.out hm2 _ _, (exIn_turned hi5 hav hg6 (Nat.le_refl _)).wider hg6.size, hav, hB6,
            below_only (below_step HBW.out (Nat.le_refl _) hb5) hgw (by have := HBW.out.size; have := hb5.size; omega) hg6, hgw⟩
        clear r0 r1 r2 r3 r4 r5
        go_wp2
        go_roundw
        case rel => exact hfin
        case measure => simp [intOf]; omega
    · obtain rfl : n = (m : Int) := by omega
      go_upto_region 13 with (fail)
      have hat := allocs_at [.cells #[.int .i64 kd, .string op, .string nm, .int .u64 nu, .slice A ks.length c] 26, .cells (Drule wr.heap.size (.node kd op nm nu A c ks)).cells.toArray 31, .cells (Dpart wr.heap.size (.node kd op nm nu A c ks)).cells.toArray 34, .cells (Dpol wr.heap.size (.node kd op nm nu A c ks)).cells.toArray 37, .cells #[.string ⟨#[112]⟩] 9, .cells (Dunt wr.heap.size (.node kd op nm nu A c ks)).cells.toArray 41] wr
      have hbl := allocs_below [.cells #[.int .i64 kd, .string op, .string nm, .int .u64 nu, .slice A ks.length c] 26, .cells (Drule wr.heap.size (.node kd op nm nu A c ks)).cells.toArray 31, .cells (Dpart wr.heap.size (.node kd op nm nu A c ks)).cells.toArray 34, .cells (Dpol wr.heap.size (.node kd op nm nu A c ks)).cells.toArray 37, .cells #[.string ⟨#[112]⟩] 9, .cells (Dunt wr.heap.size (.node kd op nm nu A c ks)).cells.toArray 41] wr
      change Code.wp _ _ _ _ (List.foldl World.alloc wr [.cells #[.int .i64 kd, .string op, .string nm, .int .u64 nu, .slice A ks.length c] 26, .cells (Drule wr.heap.size (.node kd op nm nu A c ks)).cells.toArray 31, .cells (Dpart wr.heap.size (.node kd op nm nu A c ks)).cells.toArray 34, .cells (Dpol wr.heap.size (.node kd op nm nu A c ks)).cells.toArray 37, .cells #[.string ⟨#[112]⟩] 9, .cells (Dunt wr.heap.size (.node kd op nm nu A c ks)).cells.toArray 41])
      generalize List.foldl World.alloc wr [.cells #[.int .i64 kd, .string op, .string nm, .int .u64 nu, .slice A ks.length c] 26, .cells (Drule wr.heap.size (.node kd op nm nu A c ks)).cells.toArray 31, .cells (Dpart wr.heap.size (.node kd op nm nu A c ks)).cells.toArray 34, .cells (Dpol wr.heap.size (.node kd op nm nu A c ks)).cells.toArray 37, .cells #[.string ⟨#[112]⟩] 9, .cells (Dunt wr.heap.size (.node kd op nm nu A c ks)).cells.toArray 41] = W at *
      simp only [Nat.add_assoc, Nat.reduceAdd]
      have b0 : Box W wr.heap.size 26 #[.int .i64 kd, .string op, .string nm, .int .u64 nu, .slice A ks.length c] := hat 0 _ rfl
      have b1 : Box W (wr.heap.size + 1) 31 (Drule wr.heap.size (.node kd op nm nu A c ks)).cells.toArray := hat 1 _ rfl
      have b2 : Box W (wr.heap.size + 2) 34 (Dpart wr.heap.size (.node kd op nm nu A c ks)).cells.toArray := hat 2 _ rfl
      have b3 : Box W (wr.heap.size + 3) 37 (Dpol wr.heap.size (.node kd op nm nu A c ks)).cells.toArray := hat 3 _ rfl
      have b4 : Box W (wr.heap.size + 4) 9 #[.string ⟨#[112]⟩] := hat 4 _ rfl
      have b5 : Box W (wr.heap.size + 5) 41 #[.slice none 0 0, .slice (some ⟨wr.heap.size + 3, 0, none⟩) 1 1, .slice (some ⟨wr.heap.size + 4, 0, none⟩) 1 1, .int .i64 6, .int .i64 0] := hat 5 _ rfl
      have hbw : Below w.heap.size w W := below_step HBW.out (Nat.le_refl _) hbl
      have heW : ExIn W W.heap.size (.node kd op nm nu A c ks) := HIN.out.next hbl
      have huW : UntIn W W.heap.size (Dunt wr.heap.size (.node kd op nm nu A c ks)) := unt_in heW b0 b1 b2 b3 b4
      have hxW : Box W gx 26 #[.int .i64 kd, .string op, .string nm, .int .u64 nu, .slice A ks.length c] := HB.out.step hbl
      have hm60 : m ≤ 60 := by omega
      have C1 : Hid (∀ W', Below W.heap.size W W' → Calls Tryd.prog 6 #[.agg #[.int .i64 kd, .string op, .string nm, .int .u64 nu, .slice A ks.length c]] W' (Quietly (.int .i64 (m : Int)) W')) := fun W' hW => by
        have h := R.depth _ W' (HY.out _ (below_step hbw (Nat.le_refl _) hW)) (heW.next hW) HOK.out.small (by rw [HOK.out.depth]; omega)
        rw [HOK.out.depth] at h
        exact h
      have C2 : Hid (∀ W', Below W.heap.size W W' → Calls Tryd.prog 7 #[.agg #[.int .i64 kd, .string op, .string nm, .int .u64 nu, .slice A ks.length c]] W' (Quietly (.bool true) W')) := fun W' hW => by
        have h := R.bool _ W' (HY.out _ (below_step hbw (Nat.le_refl _) hW)) (heW.next hW) HOK.out.small (by rw [HOK.out.depth]; omega)
        rw [HOK.out.ok] at h
        exact h
      have C3 : Hid (∀ W', Below W.heap.size W W' → Calls Tryd.prog 8 #[.agg #[.slice none 0 0, .slice (some ⟨wr.heap.size + 3, 0, none⟩) 1 1, .slice (some ⟨wr.heap.size + 4, 0, none⟩) 1 1, .int .i64 6, .int .i64 0]] W' (Quietly (.bool (decide (m ≤ 30))) W')) := fun W' hW => by
        have h := R.right _ W' (HY.out _ (below_step hbw (Nat.le_refl _) hW)) (huW.next hW) (unt_small HOK.out (by omega) _)
        rw [unt_right HOK.out] at h
        exact h
      have box_now : ∀ {g : Nat} {t : TypeId} {cs : Array Value} (_ : Box W g t cs) (i : Nat) (u : Value) (_ : cs[i]? = some u) (W' : World), Below W.heap.size W W' → W'.cell? ⟨g, i, none⟩ = some u := fun {g t cs} h i u hu W' hW => by
        rw [hW.cell (p := ⟨g, i, none⟩) h.lt, h.cell i]
        exact hu
      have g0 := box_now hxW 0 _ rfl
      have g1 := box_now hxW 1 _ rfl
      have g2 := box_now hxW 2 _ rfl
      have g3 := box_now hxW 3 _ rfl
      have g4 := box_now hxW 4 _ rfl
      have u0 := box_now b5 0 _ rfl
      have u1 := box_now b5 1 _ rfl
      have u2 := box_now b5 2 _ rfl
      have u3 := box_now b5 3 _ rfl
      have u4 := box_now b5 4 _ rfl
      have s0 : Below W.heap.size W W := Below.refl _ _
      have hdd : decide ((m : Int) ≤ 30) = decide (m ≤ 30) := by rw [decide_eq_decide]; omega
      have HDD := Lib.hid hdd
      clear b0 b1 b2 b3 b4 b5 hat hbl heW huW hxW box_now hm60 hdd q0 q1 q2 q3 q4 q5 hgxw HB HOK HIN HAV HBW hlt hmn hn60 hn2 d1 d2 hn HY hm2
      go_wp2_with fail
      refine (C1.out _ s0).mono ?_
      rintro r x1 ⟨rfl, y1⟩
      have s1 : Below W.heap.size W x1 := below_step s0 (Nat.le_refl _) y1
      clear y1
      go_wp2_with fail
      refine (C2.out _ s1).mono ?_
      rintro r x2 ⟨rfl, y2⟩
      have s2 : Below W.heap.size W x2 := below_step s1 (Nat.le_refl _) y2
      clear y2
      go_wp2_with fail
      refine (C3.out _ s2).mono ?_
      rintro r x3 ⟨rfl, y3⟩
      have s3 : Below W.heap.size W x3 := below_step s2 (Nat.le_refl _) y3
      clear y3
      go_wp2
      go_ret
      exact ⟨by simp; omega, below_step hbw (Nat.le_refl _) s3⟩

end Go.Proofs.YtogpicfofifbkaaDoor
