/- The walk of TreeTells, given the landed code's contract. -/
import Derived.Test.YtogpicfofifbkaaGreatDoorPart5
namespace Go.Proofs.YtogpicfofifbkaaGreatDoor
open Go.RowKit

theorem box_third (w : World) (a b : Obj) (t : TypeId) (cs : Array Value) : Box (((w.alloc a).alloc b).alloc (.cells cs t)) (w.heap.size + 2) t cs := by
  have h := Box.new ((w.alloc a).alloc b) t cs
  have e : ((w.alloc a).alloc b).heap.size = w.heap.size + 2 := by simp
  rwa [e] at h
theorem three_below (w : World) (a b c : Obj) : Below w.heap.size w (((w.alloc a).alloc b).alloc c) := below_alloc (below_alloc (boxed w a) (Nat.le_refl _) b) (Nat.le_refl _) c
/-- A box's cell in every world that keeps what was. -/
theorem box_later {w1 : World} {g : Nat} {t : TypeId} {cs : Array Value} (h : Box w1 g t cs) (i : Nat) (u : Value) (hu : cs[i]? = some u) (W : World) (hW : Below w1.heap.size w1 W) : W.cell? ⟨g, i, none⟩ = some u := by
  rw [hW.cell (p := ⟨g, i, none⟩) h.lt, h.cell i]
  exact hu

mutual
theorem same_ex : ∀ e : Ex, sameEx e e = true
  | .node kd op nm nu A c ks => by
    rw [same_node, same_exs ks]
    simp
theorem same_exs : ∀ l : List Ex, samesEx l l = true
  | [] => by unfold samesEx; rfl
  | a :: l => by
    unfold samesEx
    rw [same_ex a, same_exs l]
    rfl
end
theorem alikes_refl {α : Type} {f : α → α → Bool} (h : ∀ x, f x x = true) (l : List α) : alikes f l l = true := alikes_all l l rfl fun k x y _ h1 h2 => by
  rw [h1] at h2
  rw [← Option.some.inj h2]
  exact h x
theorem same_str (s : ByteArray) : sameStr s s = true := by unfold sameStr; simp
theorem same_rul (r : Rul) : sameRul r r = true := rul_all (same_str _) (alikes_refl same_str _) (alikes_refl same_ex _)
theorem same_par (p : Par) : samePar p p = true := par_all (same_str _) (by simp) (alikes_refl same_rul _)
theorem same_pol (p : Pol) : samePol p p = true := pol_all (same_str _) (alikes_refl same_par _)
theorem same_dfn (d : Dfn) : sameDfn d d = true := dfn_all (same_str _) (same_ex _)
theorem same_unt (u : Unt) : sameUnt u u = true := unt_all (alikes_refl same_dfn _) (alikes_refl same_pol _) (alikes_refl same_str _) (by simp)

set_option maxRecDepth 100000 in
set_option maxHeartbeats 16000000 in
theorem ttells_in {Y : World → Prop} (R : TreeSays Y) (S : SameSays) (s : ByteArray) (e : Ex) (u v : Unt) (w : World) (hY : Y w) (he : ExIn w w.heap.size e) (hu : UntIn w w.heap.size u) (hv : UntIn w w.heap.size v) (hs : s.size ≤ 60) :
    Calls Tryz.prog 3 #[.string s, e.val, u.val, v.val] w (Quietly (.bool true) w) := by
  have HY : Hid (∀ W : World, Below w.heap.size w W → Y W) := fun W hW => R.keep _ _ hY hW
  have HE := Lib.hid he
  have HU := Lib.hid hu
  have HV := Lib.hid hv
  have hsI : ¬ (60 : Int) < (s.size : Int) := by omega
  have HF := Lib.hid (fun W (hW : Below w.heap.size w W) => few_any e W (he.next hW))
  have HFU := Lib.hid (fun W (hW : Below w.heap.size w W) => fewUnit_any u W (hu.next hW))
  have HFV := Lib.hid (fun W (hW : Below w.heap.size w W) => fewUnit_any v W (hv.next hW))
  have HSM : Hid (fewE e = true → ExSmall e ∧ depthOf e ≤ 300) := few_small
  obtain ⟨q, hq⟩ : ∃ q, q = fewE e := ⟨_, rfl⟩
  rw [← hq] at HF HSM
  clear hq he hu hv hY
  obtain ⟨kd, op, nm, nu, A, c, ks⟩ := e
  obtain ⟨dA, dc, defs, pA, pc, pols, mA, mc, main, kind, data⟩ := u
  obtain ⟨dA', dc', defs', pA', pc', pols', mA', mc', main', kind', data'⟩ := v
  unfold Ex.val Unt.val at *
  simp only at HF HFU HFV ⊢
  have hx := three_below w (.cells #[.int .i64 kd, .string op, .string nm, .int .u64 nu, .slice A ks.length c] 25) (.cells #[.slice dA defs.length dc, .slice pA pols.length pc, .slice mA main.length mc, .int .i64 kind, .int .i64 data] 32) (.cells #[.slice dA' defs'.length dc', .slice pA' pols'.length pc', .slice mA' main'.length mc', .int .i64 kind', .int .i64 data'] 32)
  have HB1 := Lib.hid (((Box.new w 25 #[.int .i64 kd, .string op, .string nm, .int .u64 nu, .slice A ks.length c]).alloc (.cells #[.slice dA defs.length dc, .slice pA pols.length pc, .slice mA main.length mc, .int .i64 kind, .int .i64 data] 32)).alloc (.cells #[.slice dA' defs'.length dc', .slice pA' pols'.length pc', .slice mA' main'.length mc', .int .i64 kind', .int .i64 data'] 32))
  have HB2 := Lib.hid ((box_two w (.cells #[.int .i64 kd, .string op, .string nm, .int .u64 nu, .slice A ks.length c] 25) 32 #[.slice dA defs.length dc, .slice pA pols.length pc, .slice mA main.length mc, .int .i64 kind, .int .i64 data]).alloc (.cells #[.slice dA' defs'.length dc', .slice pA' pols'.length pc', .slice mA' main'.length mc', .int .i64 kind', .int .i64 data'] 32))
  have HB3 := Lib.hid (box_third w (.cells #[.int .i64 kd, .string op, .string nm, .int .u64 nu, .slice A ks.length c] 25) (.cells #[.slice dA defs.length dc, .slice pA pols.length pc, .slice mA main.length mc, .int .i64 kind, .int .i64 data] 32) 32 #[.slice dA' defs'.length dc', .slice pA' pols'.length pc', .slice mA' main'.length mc', .int .i64 kind', .int .i64 data'])
  have HX := Lib.hid hx
  clear hx
  go_enter Tryz.func3, Tryz.ntmps3
  go_wp2_with fail
  refine (tree_alive R _ (HY.out _ HX.out)).mono ?_
  rintro r w1 ⟨rfl, hb1⟩
  have hx1 := HB1.out.step hb1
  have hx2 := HB2.out.step hb1
  have hx3 := HB3.out.step hb1
  have hbw := below_step HX.out (Nat.le_refl _) hb1
  have HW1 := Lib.hid hbw
  have e0 := box_later hx1 0 _ rfl
  have e1 := box_later hx1 1 _ rfl
  have e2 := box_later hx1 2 _ rfl
  have e3 := box_later hx1 3 _ rfl
  have e4 := box_later hx1 4 _ rfl
  have u0 := box_later hx2 0 _ rfl
  have u1 := box_later hx2 1 _ rfl
  have u2 := box_later hx2 2 _ rfl
  have u3 := box_later hx2 3 _ rfl
  have u4 := box_later hx2 4 _ rfl
  have v0 := box_later hx3 0 _ rfl
  have v1 := box_later hx3 1 _ rfl
  have v2 := box_later hx3 2 _ rfl
  have v3 := box_later hx3 3 _ rfl
  have v4 := box_later hx3 4 _ rfl
  have s1 : Below w1.heap.size w1 w1 := Below.refl _ _
  clear HB1 HB2 HB3 HX hb1 hx1 hx2 hx3
  cases q with
  | false =>
    go_wp2_with fail
    refine (HF.out _ hbw).mono ?_
    rintro r w2 ⟨rfl, hb2⟩
    go_wp2
    go_ret
    exact ⟨rfl, below_step hbw (Nat.le_refl _) hb2⟩
  | true =>
    go_wp2_with fail
    refine (HF.out _ hbw).mono ?_
    rintro r w2 ⟨rfl, hb2⟩
    have s2 : Below w1.heap.size w1 w2 := hb2
    go_wp2_with fail
    refine (HFU.out _ (below_step hbw (Nat.le_refl _) hb2)).mono ?_
    rintro r w3 ⟨b, rfl, hbu, hb3⟩
    have s3 : Below w1.heap.size w1 w3 := below_step s2 (Nat.le_refl _) hb3
    have HBU := Lib.hid hbu
    clear hb2 hb3 hbu
    cases b with
    | false =>
      go_wp2
      go_ret
      exact ⟨rfl, below_step hbw (Nat.le_refl _) s3⟩
    | true =>
      go_wp2_with fail
      refine (HFV.out _ (below_step hbw (Nat.le_refl _) s3)).mono ?_
      rintro r w4 ⟨b, rfl, hbv, hb4⟩
      have s4 : Below w1.heap.size w1 w4 := below_step s3 (Nat.le_refl _) hb4
      have HBV := Lib.hid hbv
      clear hb4 hbv
      cases b with
      | false =>
        go_wp2
        go_ret
        exact ⟨rfl, below_step hbw (Nat.le_refl _) s4⟩
      | true =>
        obtain ⟨hsm, hdp⟩ := HSM.out (by simp)
        have hus := HBU.out (by simp)
        have hvs := HBV.out (by simp)
        obtain ⟨N, hN⟩ : ∃ N, N = nameOk s := ⟨_, rfl⟩
        obtain ⟨Q, hQ⟩ : ∃ Q, Q = numOk (.node kd op nm nu A c ks) := ⟨_, rfl⟩
        obtain ⟨T, hT⟩ : ∃ T, T = boolOk (.node kd op nm nu A c ks) := ⟨_, rfl⟩
        obtain ⟨D, hD⟩ : ∃ D, D = depthOf (.node kd op nm nu A c ks) := ⟨_, rfl⟩
        obtain ⟨G, hG⟩ : ∃ G, G = rightOk ⟨dA, dc, defs, pA, pc, pols, mA, mc, main, kind, data⟩ := ⟨_, rfl⟩
        obtain ⟨Z, hZ⟩ : ∃ Z, Z = sameUnt ⟨dA, dc, defs, pA, pc, pols, mA, mc, main, kind, data⟩ ⟨dA', dc', defs', pA', pc', pols', mA', mc', main', kind', data'⟩ := ⟨_, rfl⟩
        have C1 : Hid (∀ W : World, Below w1.heap.size w1 W → Calls Tryz.prog 7 #[.string s] W (Quietly (.bool N) W)) := fun W hW => by
          have hW2 := below_step HW1.out (Nat.le_refl _) hW
          rw [hN]; exact R.name s W (HY.out _ hW2) (by omega)
        have C2 : Hid (∀ W : World, Below w1.heap.size w1 W → Calls Tryz.prog 8 #[.string s] W (Quietly (.bool N) W)) := fun W hW => by
          have hW2 := below_step HW1.out (Nat.le_refl _) hW
          rw [hN]; exact refName_any s W (by omega)
        have C3 : Hid (∀ W : World, Below w1.heap.size w1 W → Calls Tryz.prog 9 #[.agg #[.int .i64 kd, .string op, .string nm, .int .u64 nu, .slice A ks.length c]] W (Quietly (.bool Q) W)) := fun W hW => by
          have hW2 := below_step HW1.out (Nat.le_refl _) hW
          rw [hQ]; exact R.number _ W (HY.out _ hW2) (HE.out.next hW2) hsm (by omega)
        have C4 : Hid (∀ W : World, Below w1.heap.size w1 W → Calls Tryz.prog 10 #[.agg #[.int .i64 kd, .string op, .string nm, .int .u64 nu, .slice A ks.length c]] W (Quietly (.bool Q) W)) := fun W hW => by
          have hW2 := below_step HW1.out (Nat.le_refl _) hW
          rw [hQ]; exact refNumber_any _ hsm W (HE.out.next hW2)
        have C5 : Hid (∀ W : World, Below w1.heap.size w1 W → Calls Tryz.prog 11 #[.agg #[.int .i64 kd, .string op, .string nm, .int .u64 nu, .slice A ks.length c]] W (Quietly (.bool T) W)) := fun W hW => by
          have hW2 := below_step HW1.out (Nat.le_refl _) hW
          rw [hT]; exact R.bool _ W (HY.out _ hW2) (HE.out.next hW2) hsm (by omega)
        have C6 : Hid (∀ W : World, Below w1.heap.size w1 W → Calls Tryz.prog 12 #[.agg #[.int .i64 kd, .string op, .string nm, .int .u64 nu, .slice A ks.length c]] W (Quietly (.bool T) W)) := fun W hW => by
          have hW2 := below_step HW1.out (Nat.le_refl _) hW
          rw [hT]; exact refBool_any _ hsm W (HE.out.next hW2)
        have C7 : Hid (∀ W : World, Below w1.heap.size w1 W → Calls Tryz.prog 13 #[.agg #[.int .i64 kd, .string op, .string nm, .int .u64 nu, .slice A ks.length c]] W (Quietly (.int .i64 (D : Nat)) W)) := fun W hW => by
          have hW2 := below_step HW1.out (Nat.le_refl _) hW
          rw [hD]; exact R.depth _ W (HY.out _ hW2) (HE.out.next hW2) hsm (by omega)
        have C8 : Hid (∀ W : World, Below w1.heap.size w1 W → Calls Tryz.prog 14 #[.agg #[.int .i64 kd, .string op, .string nm, .int .u64 nu, .slice A ks.length c]] W (Quietly (.int .i64 (D : Nat)) W)) := fun W hW => by
          have hW2 := below_step HW1.out (Nat.le_refl _) hW
          rw [hD]; exact refDepth_any _ hsm W (HE.out.next hW2) (by omega)
        have C9 : Hid (∀ W : World, Below w1.heap.size w1 W → Calls Tryz.prog 15 #[.agg #[.slice dA defs.length dc, .slice pA pols.length pc, .slice mA main.length mc, .int .i64 kind, .int .i64 data]] W (Quietly (.bool G) W)) := fun W hW => by
          have hW2 := below_step HW1.out (Nat.le_refl _) hW
          rw [hG]; exact R.right _ W (HY.out _ hW2) (HU.out.next hW2) hus
        have C10 : Hid (∀ W : World, Below w1.heap.size w1 W → Calls Tryz.prog 16 #[.agg #[.slice dA defs.length dc, .slice pA pols.length pc, .slice mA main.length mc, .int .i64 kind, .int .i64 data]] W (Quietly (.bool G) W)) := fun W hW => by
          have hW2 := below_step HW1.out (Nat.le_refl _) hW
          rw [hG]; exact refRight_any _ W (HU.out.next hW2) hus
        have C11 : Hid (∀ W : World, Below w1.heap.size w1 W → Calls Tryz.prog 17 #[.agg #[.slice dA defs.length dc, .slice pA pols.length pc, .slice mA main.length mc, .int .i64 kind, .int .i64 data], .agg #[.slice dA' defs'.length dc', .slice pA' pols'.length pc', .slice mA' main'.length mc', .int .i64 kind', .int .i64 data']] W (Quietly (.bool Z) W)) := fun W hW => by
          have hW2 := below_step HW1.out (Nat.le_refl _) hW
          rw [hZ]; exact S.same _ _ W (HU.out.next hW2) (HV.out.next hW2) hus hvs
        have C12 : Hid (∀ W : World, Below w1.heap.size w1 W → Calls Tryz.prog 18 #[.agg #[.slice dA defs.length dc, .slice pA pols.length pc, .slice mA main.length mc, .int .i64 kind, .int .i64 data], .agg #[.slice dA' defs'.length dc', .slice pA' pols'.length pc', .slice mA' main'.length mc', .int .i64 kind', .int .i64 data']] W (Quietly (.bool Z) W)) := fun W hW => by
          have hW2 := below_step HW1.out (Nat.le_refl _) hW
          rw [hZ]; exact refSame_any _ _ W (HU.out.next hW2) (HV.out.next hW2) hus
        have C13 : Hid (∀ W : World, Below w1.heap.size w1 W → Calls Tryz.prog 17 #[.agg #[.slice dA defs.length dc, .slice pA pols.length pc, .slice mA main.length mc, .int .i64 kind, .int .i64 data], .agg #[.slice dA defs.length dc, .slice pA pols.length pc, .slice mA main.length mc, .int .i64 kind, .int .i64 data]] W (Quietly (.bool true) W)) := fun W hW => by
          have hW2 := below_step HW1.out (Nat.le_refl _) hW
          rw [← same_unt ⟨dA, dc, defs, pA, pc, pols, mA, mc, main, kind, data⟩]; exact S.same _ _ W (HU.out.next hW2) (HU.out.next hW2) hus hus
        clear hN hQ hT hD hG hZ hsm hdp hus hvs HSM HBU HBV HF HFU HFV s1 s2 s3 HY HE HU HV HW1
        go_wp2_with fail
        have hd : Below w1.heap.size w1 w4.drew := s4.drew
        go_region_held3 (fun W => Below w1.heap.size w1 W) (first | exact hd | exact n1 | exact n2 | exact n3 | exact n4 | exact n5 | exact n6 | exact n7 | exact n8 | exact n9 | exact n10 | exact n11 | exact n12 | exact n13) (first
          | (go_at_call 17; refine (C13.out _ n12).mono ?_; rintro r x13 ⟨rfl, hb13⟩; have n13 := below_step n12 (Nat.le_refl _) hb13)
          | (go_at_call 7; refine (C1.out _ hd).mono ?_; rintro r x1 ⟨rfl, hb1⟩; have n1 := below_step hd (Nat.le_refl _) hb1)
          | (go_at_call 8; refine (C2.out _ n1).mono ?_; rintro r x2 ⟨rfl, hb2⟩; have n2 := below_step n1 (Nat.le_refl _) hb2)
          | (go_at_call 9; refine (C3.out _ n2).mono ?_; rintro r x3 ⟨rfl, hb3⟩; have n3 := below_step n2 (Nat.le_refl _) hb3)
          | (go_at_call 10; refine (C4.out _ n3).mono ?_; rintro r x4 ⟨rfl, hb4⟩; have n4 := below_step n3 (Nat.le_refl _) hb4)
          | (go_at_call 11; refine (C5.out _ n4).mono ?_; rintro r x5 ⟨rfl, hb5⟩; have n5 := below_step n4 (Nat.le_refl _) hb5)
          | (go_at_call 12; refine (C6.out _ n5).mono ?_; rintro r x6 ⟨rfl, hb6⟩; have n6 := below_step n5 (Nat.le_refl _) hb6)
          | (go_at_call 13; refine (C7.out _ n6).mono ?_; rintro r x7 ⟨rfl, hb7⟩; have n7 := below_step n6 (Nat.le_refl _) hb7)
          | (go_at_call 14; refine (C8.out _ n7).mono ?_; rintro r x8 ⟨rfl, hb8⟩; have n8 := below_step n7 (Nat.le_refl _) hb8)
          | (go_at_call 15; refine (C9.out _ n8).mono ?_; rintro r x9 ⟨rfl, hb9⟩; have n9 := below_step n8 (Nat.le_refl _) hb9)
          | (go_at_call 16; refine (C10.out _ n9).mono ?_; rintro r x10 ⟨rfl, hb10⟩; have n10 := below_step n9 (Nat.le_refl _) hb10)
          | (go_at_call 17; refine (C11.out _ n10).mono ?_; rintro r x11 ⟨rfl, hb11⟩; have n11 := below_step n10 (Nat.le_refl _) hb11)
          | (go_at_call 18; refine (C12.out _ n11).mono ?_; rintro r x12 ⟨rfl, hb12⟩; have n12 := below_step n11 (Nat.le_refl _) hb12))
        all_goals
          go_wp2
          go_ret
          exact ⟨rfl, below_step hbw (Nat.le_refl _) n13⟩

set_option maxHeartbeats 1000000 in
theorem ttells_any {Y : World → Prop} (R : TreeSays Y) (S : SameSays) (s : ByteArray) (e : Ex) (u v : Unt) (w : World) (hY : Y w) (he : ExIn w w.heap.size e) (hu : UntIn w w.heap.size u) (hv : UntIn w w.heap.size v) :
    Calls Tryz.prog 3 #[.string s, e.val, u.val, v.val] w (Quietly (.bool true) w) := by
  by_cases hs : s.size ≤ 60
  · exact ttells_in R S s e u v w hY he hu hv hs
  · have hsI : (60 : Int) < (s.size : Int) := by omega
    have HY : Hid (∀ W : World, Below w.heap.size w W → Y W) := fun W hW => R.keep _ _ hY hW
    clear he hu hv hY
    obtain ⟨kd, op, nm, nu, A, c, ks⟩ := e
    unfold Ex.val Unt.val
    simp only
    have hx := three_below w (.cells #[.int .i64 kd, .string op, .string nm, .int .u64 nu, .slice A ks.length c] 25) (.cells #[.slice u.dA u.defs.length u.dc, .slice u.pA u.pols.length u.pc, .slice u.mA u.main.length u.mc, .int .i64 u.kind, .int .i64 u.data] 32) (.cells #[.slice v.dA v.defs.length v.dc, .slice v.pA v.pols.length v.pc, .slice v.mA v.main.length v.mc, .int .i64 v.kind, .int .i64 v.data] 32)
    have HX := Lib.hid hx
    clear hx
    go_enter Tryz.func3, Tryz.ntmps3
    go_wp2_with fail
    refine (tree_alive R _ (HY.out _ HX.out)).mono ?_
    rintro r w1 ⟨rfl, hb1⟩
    go_wp2
    go_ret
    exact ⟨rfl, below_step HX.out (Nat.le_refl _) hb1⟩

end Go.Proofs.YtogpicfofifbkaaGreatDoor
