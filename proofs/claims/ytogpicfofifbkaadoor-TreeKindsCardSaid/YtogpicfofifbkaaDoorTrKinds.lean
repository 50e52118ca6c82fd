/- The walk of TreeKinds, given the landed code's contract. -/
import Derived.Test.YtogpicfofifbkaaDoorTrKindsP
import Derived.Deep.DeepCutAuto
import Derived.Deep.RegionHeld3
namespace Go.Proofs.YtogpicfofifbkaaDoor
open Go.RowKit

set_option maxRecDepth 100000 in
set_option maxHeartbeats 16000000 in
theorem kinds_any {Y : World → Prop} (R : TreeSays Y) (k : Int) (w : World) (hk : I64 k) (hY : Y w) : Calls Tryd.prog 4 #[.int .i64 k] w (Quietly (.bool true) w) := by
  have HAL := Lib.hid (tree_alive R w hY)
  have HY : Hid (∀ W : World, Below w.heap.size w W → Y W) := fun W hW => R.keep _ _ hY hW
  clear hY
  go_enter Tryd.func4, Tryd.ntmps4
  go_wp2_with fail
  refine HAL.out.mono ?_
  rintro r w1 ⟨rfl, hb1⟩
  go_upto_region 10 with (fail)
  have hin := kinds_in w1
  have hbl := allocs_below (kobjs w1.heap.size) w1
  have hat := allocs_at (kobjs w1.heap.size) w1
  have hsz := allocs_size (kobjs w1.heap.size) w1
  change Code.wp _ _ _ _ ((kobjs w1.heap.size).foldl World.alloc w1)
  generalize (kobjs w1.heap.size).foldl World.alloc w1 = W at *
  simp only [Nat.add_assoc, Nat.reduceAdd]
  have hbw : Below w.heap.size w W := below_step hb1 (Nat.le_refl _) hbl
  generalize w1.heap.size = h at *
  by_cases h1 : k < 0
  · clear hin hat
    go_wp2
    go_ret
    exact ⟨rfl, hbw⟩
  by_cases h2 : 19 ≤ k
  · clear hin hat
    go_wp2
    go_ret
    exact ⟨rfl, hbw⟩
  obtain ⟨i, hi⟩ : ∃ i : Nat, k = (i : Int) := ⟨k.toNat, by omega⟩
  subst hi
  have hi19 : i < 19 := by omega
  have hlen : (kindsL h).length = 19 := rfl
  obtain ⟨b, o, kd, op, nm, nu, A, c, ks, hA, hbW, hx, hxin, hxm, e0, e1, e2, e3, e4⟩ := hin.ex (k := i) (by rw [hlen]; exact hi19)
  have e := Option.some.inj hA
  simp only [Addr.mk.injEq] at e
  obtain ⟨rfl, rfl, _⟩ := e
  clear hA
  have hbn : Box W (h + 19) 4 (numbersL.map Value.bool).toArray := hat 19 _ rfl
  have hbc : Box W (h + 20) 4 (condsL.map Value.bool).toArray := hat 20 _ rfl
  have hgn : numbersL[i]? = some (numOk (.node kd op nm nu A c ks)) := by rw [← kinds_num h, List.getElem?_map, hx]; rfl
  have hgc : condsL[i]? = some (boolOk (.node kd op nm nu A c ks)) := by rw [← kinds_bool h, List.getElem?_map, hx]; rfl
  have hsm := kinds_small h _ hxm
  have hdp : depthOf (.node kd op nm nu A c ks) ≤ 1000 := by
    have := List.all_eq_true.1 (kinds_deep h) _ hxm
    simpa using this
  have C1 : Hid (∀ W', Below W.heap.size W W' → Calls Tryd.prog 9 #[.agg #[.int .i64 kd, .string op, .string nm, .int .u64 nu, .slice A ks.length c]] W' (Quietly (.bool (numOk (.node kd op nm nu A c ks))) W')) := fun W' hW => R.number _ W' (HY.out _ (below_step hbw (Nat.le_refl _) hW)) (hxin.next hW) hsm hdp
  have C2 : Hid (∀ W', Below W.heap.size W W' → Calls Tryd.prog 7 #[.agg #[.int .i64 kd, .string op, .string nm, .int .u64 nu, .slice A ks.length c]] W' (Quietly (.bool (boolOk (.node kd op nm nu A c ks))) W')) := fun W' hW => R.bool _ W' (HY.out _ (below_step hbw (Nat.le_refl _) hW)) (hxin.next hW) hsm hdp
  generalize numOk (.node kd op nm nu A c ks) = B1 at *
  generalize boolOk (.node kd op nm nu A c ks) = B2 at *
  have cn : W.cell? ⟨h + 19, i, none⟩ = some (.bool B1) := by
    rw [hbn.cell i, ← Array.getElem?_toList]
    simp only [List.getElem?_map, hgn]
    rfl
  have cb : W.cell? ⟨h + 20, i, none⟩ = some (.bool B2) := by
    rw [hbc.cell i, ← Array.getElem?_toList]
    simp only [List.getElem?_map, hgc]
    rfl
  have hn1 := hbn.lt
  have hn2 := hbc.lt
  rw [Nat.zero_add] at e0 e1 e2 e3 e4
  have g0 : ∀ W', Below W.heap.size W W' → W'.cell? ⟨h + 18, i * 5, none⟩ = some (.int .i64 kd) := fun W' hW => (hW.cell (p := ⟨h + 18, i * 5, none⟩) hbW).trans e0
  have g1 : ∀ W', Below W.heap.size W W' → W'.cell? ⟨h + 18, i * 5 + 1, none⟩ = some (.string op) := fun W' hW => (hW.cell (p := ⟨h + 18, i * 5 + 1, none⟩) hbW).trans e1
  have g2 : ∀ W', Below W.heap.size W W' → W'.cell? ⟨h + 18, i * 5 + 2, none⟩ = some (.string nm) := fun W' hW => (hW.cell (p := ⟨h + 18, i * 5 + 2, none⟩) hbW).trans e2
  have g3 : ∀ W', Below W.heap.size W W' → W'.cell? ⟨h + 18, i * 5 + 3, none⟩ = some (.int .u64 nu) := fun W' hW => (hW.cell (p := ⟨h + 18, i * 5 + 3, none⟩) hbW).trans e3
  have g4 : ∀ W', Below W.heap.size W W' → W'.cell? ⟨h + 18, i * 5 + 4, none⟩ = some (.slice A ks.length c) := fun W' hW => (hW.cell (p := ⟨h + 18, i * 5 + 4, none⟩) hbW).trans e4
  have g5 : ∀ W', Below W.heap.size W W' → W'.cell? ⟨h + 19, i, none⟩ = some (.bool B1) := fun W' hW => (hW.cell (p := ⟨h + 19, i, none⟩) hn1).trans cn
  have g6 : ∀ W', Below W.heap.size W W' → W'.cell? ⟨h + 20, i, none⟩ = some (.bool B2) := fun W' hW => (hW.cell (p := ⟨h + 20, i, none⟩) hn2).trans cb
  have k1 : ¬ (i : Int) < 0 := by omega
  have k2 : ¬ (19 : Int) ≤ (i : Int) := by omega
  have k3 : (i : Int) < 19 := by omega
  have k4 : (0 : Int) ≤ (i : Int) := by omega
  have s0 : Below W.heap.size W W := Below.refl _ _
  clear h1 h2 hi19 hlen hbn hbc hgn hgc hsm hdp cn cb hn1 hn2 e0 e1 e2 e3 e4 hx hxin hxm hin hat hbl hsz hb1 hbW hk HY HAL
  go_wp2_with fail
  have hd : Below W.heap.size W W.drew := s0.drew
  go_region_held3 (fun W' => Below W.heap.size W W') (first | exact hd | exact n1 | exact n2) (first
    | (go_at_call 9; refine (C1.out _ hd).mono ?_; rintro r x1 ⟨rfl, hb1⟩; have n1 := below_step hd (Nat.le_refl _) hb1)
    | (go_at_call 7; refine (C2.out _ n1).mono ?_; rintro r x2 ⟨rfl, hb2⟩; have n2 := below_step n1 (Nat.le_refl _) hb2))
  all_goals
    go_wp2
    go_ret
    exact ⟨by simp, below_step hbw (Nat.le_refl _) n2⟩

end Go.Proofs.YtogpicfofifbkaaDoor
