/- What the landed sameExprs gives. No condition but sizes. -/
import Derived.Test.YtogpicfofifbkaaGreatDoorPart11
import Derived.Test.YtogpicfofifbkaaGreatDoorTreeThree
import Derived.Test.YtogpicfofifbkaaGreatDoorTreeHd
import Derived.Maps.AppendAt
namespace Go.Proofs.YtogpicfofifbkaaGreatDoor.LandedT
open Go.RowKit

/-! ### Two lists, first without their kids, then these -/
def kidsOk : List Ex → List Ex → Bool
  | x :: a, y :: b => alikes sameEx x.kids y.kids && kidsOk a b
  | _, _ => true
theorem same_parts (x y : Ex) : sameEx x y = (alikeB x y && alikes sameEx x.kids y.kids) := by
  obtain ⟨kd, op, nm, nu, A, c, ks⟩ := x
  obtain ⟨kd', op', nm', nu', A', c', ks'⟩ := y
  rw [same_node]
  unfold alikeB Ex.kids
  simp only
  by_cases h : ks.length = ks'.length
  · rw [sames_alikes ks ks' h, beq_iff_eq.2 h]
    simp [Bool.and_assoc]
  · rw [alikes_len ks ks' h, beq_eq_false_iff_ne.2 h]
    simp
theorem alikes_parts : ∀ a b : List Ex, alikes sameEx a b = (alikes alikeB a b && kidsOk a b)
  | [], [] => rfl
  | [], _ :: _ => rfl
  | _ :: _, [] => rfl
  | x :: a, y :: b => by
    have e1 : alikes sameEx (x :: a) (y :: b) = (sameEx x y && alikes sameEx a b) := rfl
    have e2 : alikes alikeB (x :: a) (y :: b) = (alikeB x y && alikes alikeB a b) := rfl
    have e3 : kidsOk (x :: a) (y :: b) = (alikes sameEx x.kids y.kids && kidsOk a b) := rfl
    rw [e1, e2, e3, same_parts, alikes_parts a b]
    cases alikeB x y <;> cases alikes sameEx x.kids y.kids <;> cases alikes alikeB a b <;> cases kidsOk a b <;> rfl
theorem alikes_lens {l m : List Ex} (h : alikes alikeB l m = true) : l.length = m.length := by
  by_cases he : l.length = m.length
  · exact he
  · rw [alikes_len l m he] at h
    cases h

/-! ### The row of pairs: the top comes first -/
def rowP (st : List (Hd × Hd)) : List Value := st.reverse.flatMap fun p => [p.1.val, p.2.val]
theorem rowP_len (st : List (Hd × Hd)) : (rowP st).length = st.length * 2 := by
  unfold rowP
  have h : ∀ l : List (Hd × Hd), (l.flatMap fun p => [p.1.val, p.2.val]).length = l.length * 2 := by
    intro l
    induction l with
    | nil => rfl
    | cons x l ih => rw [List.flatMap_cons, List.length_append, ih, List.length_cons]; simp; omega
  rw [h, List.length_reverse]
theorem rowP_cons (p : Hd × Hd) (st : List (Hd × Hd)) : rowP (p :: st) = rowP st ++ [p.1.val, p.2.val] := by
  unfold rowP
  rw [List.reverse_cons, List.flatMap_append]
  rfl
theorem rowP_top (p : Hd × Hd) (st : List (Hd × Hd)) : (rowP (p :: st))[st.length * 2]? = some p.1.val ∧ (rowP (p :: st))[st.length * 2 + 1]? = some p.2.val := by
  rw [rowP_cons]
  constructor
  · rw [List.getElem?_append_right (by rw [rowP_len]; exact Nat.le_refl _), rowP_len]
    simp
  · rw [List.getElem?_append_right (by rw [rowP_len]; omega), rowP_len]
    simp

/-- Lists of no great size, as they came in. -/
structure ListIn (w : World) (h : Hd) : Prop where
  lies : SlIn w w.heap.size 5 Ex.cells (ExIn w w.heap.size) h.A h.c h.l
  len : h.l.length ≤ 1048576
  small : ∀ x ∈ h.l, ExSmall x

/-- What sameExprs has still to do. -/
def Pairs (w : World) (V : Bool) (D : Nat) (v : Value) (n : Nat) (wr : World) : Prop :=
  ∃ st : List (Hd × Hd), wst (st.map Prod.fst) = n ∧ st.all (fun p => alikes sameEx p.1.l p.2.l) = V ∧ Room 1048576 D (st.map Prod.fst) ∧ (∀ p ∈ st, ListIn w p.1 ∧ ListIn w p.2) ∧
    wr.ownsRow w.heap.size 119 2 v st.length (rowP st) ∧ Below w.heap.size w wr
/-- The same, within two lists. -/
def Halves2 (w : World) (V : Bool) (D M R gp : Nat) (h h' : Hd) (v i : Value) (wr : World) : Prop :=
  ∃ (k : Nat) (st : List (Hd × Hd)), k ≤ h.l.length ∧ i = .int .i64 k ∧ (st.all (fun p => alikes sameEx p.1.l p.2.l) && kidsOk (h.l.drop k) (h'.l.drop k)) = V ∧ Room 1048576 D (st.map Prod.fst) ∧ st.length ≤ R + k ∧
    wst (st.map Prod.fst) + weighs (h.l.drop k) < M ∧ (∀ p ∈ st, ListIn w p.1 ∧ ListIn w p.2) ∧ wr.ownsRow w.heap.size 119 2 v st.length (rowP st) ∧ v.ownBlock ≠ some gp ∧
    Box wr gp 119 #[h.val, h'.val] ∧ Below w.heap.size w wr

theorem infoPair : (Tryz.prog.info? 119).map (fun i => (i.zero, i.size, i.bytes)) = some (some (.agg #[.slice none 0 0, .slice none 0 0]), 2, 48) := by kernel_rfl

set_option maxRecDepth 100000 in
set_option maxHeartbeats 8000000 in
theorem sameExprs_any (a b : Hd) (w : World) (ha : ListIn w a) (hb : ListIn w b) (hd : depthsOf 0 a.l ≤ 1000) : Calls Tryz.prog 67 #[a.val, b.val] w (Quietly (.bool (alikes sameEx a.l b.l)) w) := by
  obtain ⟨i0, hi, hz0, hz1, hz2⟩ := info_parts infoPair
  obtain ⟨D, hD⟩ : ∃ D, D = depthsOf 0 a.l := ⟨_, rfl⟩
  obtain ⟨V, hV⟩ : ∃ V, V = alikes sameEx a.l b.l := ⟨_, rfl⟩
  rw [← hV]
  obtain ⟨mv, hmv⟩ := least_measure (fun n (p : Value × World) => Pairs w V D p.1 n p.2)
  have HM := Lib.hid hmv
  have HA : Hid (Pairs w V D (.slice (some ⟨w.heap.size, 0, none⟩) 1 1) (wst [a]) (w.alloc (.cells #[a.val, b.val] 119))) := by
    refine ⟨[(a, b)], rfl, ?_, ⟨?_, trivial⟩, fun p hp => ?_, ⟨rfl, .inr ⟨w.heap.size, 1, _, rfl, Nat.le_refl _, Box.new _ _ _, Nat.le_refl _, by decide, rfl, rfl⟩⟩, boxed _ _⟩
    · rw [hV]; simp
    · show 0 + 1048576 * depthsOf 0 a.l ≤ 1048576 * D
      rw [hD]
      omega
    · have : p = (a, b) := by simpa using hp
      rw [this]
      exact ⟨ha, hb⟩
  have HD : Hid (D ≤ 1000) := by rw [hD]; exact hd
  clear hmv hD hd hV ha hb
  obtain ⟨A, c, la⟩ := a
  obtain ⟨A', c', lb⟩ := b
  unfold Hd.val at *
  simp only at HA ⊢
  go_enter Tryz.func67, Tryz.ntmps67
  go_wp2
  go_loopw [5] (fun v wr => ∃ n, Pairs w V D v n wr) (fun v wr => mv (v, wr))
  case atStart => exact ⟨_, HA.out⟩
  case round =>
    clear HA
    rename World => wo
    obtain ⟨n1, hr⟩ := hrel
    obtain ⟨⟨st, hwst, hV, hroom, hall, hown, hbw⟩, _⟩ := HM.out (_, wo) n1 hr
    clear hr
    simp only at hwst hown hbw
    rcases st with _ | ⟨⟨h0, h1⟩, rs⟩
    · have hV' : V = true := by rw [← hV]; rfl
      obtain ⟨A3, c3, rfl, _, _⟩ := own_form hown
      have HP := Lib.hid hV'
      clear hV hV' hwst hroom hall hown
      go_wp2
      go_ret
      exact ⟨by rw [HP.out]; rfl, hbw⟩
    · obtain ⟨N, hN⟩ : ∃ N, N = rs.length + 1 := ⟨_, rfl⟩
      obtain ⟨K, hK⟩ : ∃ K, K = rs.length := ⟨_, rfl⟩
      have hNK : N = K + 1 := by omega
      have hlen : ((h0, h1) :: rs).length = N := by rw [hN]; rfl
      rw [hlen] at hown
      have hro := room_len hroom
      rw [List.length_map, hlen] at hro
      obtain ⟨g, cap, rfl⟩ : ∃ g cap, u5 = .slice (some ⟨g, 0, none⟩) N cap := by rw [hNK] at hown ⊢; exact ownsRow_succ hown
      obtain ⟨cur, hbx, hgB, hncap, hcapm, _, _⟩ := own_box hown
      obtain ⟨cc0, _, cl⟩ := own_cell hown (rowP_top (h0, h1) rs).1
      obtain ⟨cc1, _, _⟩ := own_cell hown (rowP_top (h0, h1) rs).2
      rw [← hK] at cc0 cc1
      unfold Hd.val at cc0 cc1
      simp only at cc0 cc1
      have hN1 : N ≤ 1048576001 := by have := HD.out; omega
      have m1 : IntKind.i64.wrap ((N : Int) - 1) = (K : Int) := by rw [IntWalk.i64_in _ (by omega)]; omega
      have m2 : (0 : Int) < (N : Int) := by omega
      have m2n : 0 < N := by omega
      have m2d : decide (0 < N) = true := by simp; omega
      have m3 : (K : Int) < (N : Int) := by omega
      have m4 : (0 : Int) ≤ (K : Int) := by omega
      have m5 : (K : Int) ≤ (cap : Int) := by omega
      have HNK : Hid (N = rs.length + 1 ∧ K = rs.length) := ⟨hN, hK⟩
      have hpop := hown
      rw [hNK, rowP_cons] at hpop
      obtain ⟨g', cap', hge, hpop⟩ := own_pop (by rw [rowP_len, hK]) hpop
      cases hge
      obtain ⟨l0, l1⟩ := hall _ (List.mem_cons_self ..)
      have HL0 := Lib.hid l0
      have HL1 := Lib.hid l1
      have HROOM := Lib.hid hroom
      have HALL : Hid (∀ p ∈ rs, ListIn w p.1 ∧ ListIn w p.2) := fun p hp => hall p (List.mem_cons_of_mem _ hp)
      have HPOP := Lib.hid hpop
      have HWST := Lib.hid hwst
      have HV : Hid ((alikes sameEx h0.l h1.l && rs.all (fun p => alikes sameEx p.1.l p.2.l)) = V) := hV
      have HG := Lib.hid cl
      have HN1 := Lib.hid hN1
      clear hN hK hNK hlen hro hbx hwst hroom hall hown hN1 hncap hcapm hgB hpop hV cl l0 l1
      obtain ⟨A0, c0, l0⟩ := h0
      obtain ⟨A1, c1, l1⟩ := h1
      simp only at cc0 cc1 HL0 HL1 HV
      have HB := Lib.hid (Box.new wo 119 #[.slice A0 l0.length c0, .slice A1 l1.length c1])
      have HE := Lib.hid (fun W (hW : Below w.heap.size w W) => eqfEx alikeB l0 l1 A0 A1 c0 c1 W (HL0.out.lies.nextE hW) (HL1.out.lies.nextE hW) HL0.out.len (fun x _ y _ W' _ => alikeF_any x y W'))
      obtain ⟨q, hq⟩ : ∃ q, q = alikes alikeB l0 l1 := ⟨_, rfl⟩
      rw [← hq] at HE
      have HQ := Lib.hid hq
      have hbn := below_alloc hbw (Nat.le_refl _) (.cells #[.slice A0 l0.length c0, .slice A1 l1.length c1] 119)
      have HBN := Lib.hid hbn
      clear hq hbn
      cases q
      · have hF : V = false := by rw [← HV.out, alikes_parts, ← HQ.out]; rfl
        have HF := Lib.hid hF
        clear hF
        go_wp2_with fail
        refine (HE.out _ HBN.out).mono ?_
        rintro r w1 ⟨rfl, hb1⟩
        go_wp2
        go_ret
        exact ⟨by rw [HF.out]; rfl, below_step HBN.out (Nat.le_refl _) hb1⟩
      · go_wp2_with fail
        refine (HE.out _ HBN.out).mono ?_
        rintro r w1 ⟨rfl, hb1⟩
        have hbx1 := HB.out.step hb1
        have hbw1 := below_step HBN.out (Nat.le_refl _) hb1
        have hown1 := own_below (HPOP.out.alloc (.cells #[.slice A0 l0.length c0, .slice A1 l1.length c1] 119)) hb1
        have p0 := hbx1.cell 0
        have p1 := hbx1.cell 1
        have hl01 : l0.length = l1.length := alikes_lens HQ.out.symm
        obtain ⟨M, hM⟩ : ∃ M, M = mv (.slice (some ⟨g, 0, none⟩) N cap, wo) := ⟨_, rfl⟩
        have HS : Hid (Halves2 w V D M rs.length wo.heap.size ⟨A0, c0, l0⟩ ⟨A1, c1, l1⟩ (.slice (some ⟨g, 0, none⟩) K cap) (.int .i64 0) w1) := by
          refine ⟨0, rs, Nat.zero_le _, rfl, ?_, HROOM.out.2, Nat.le_refl _, ?_, HALL.out, by have := hown1; rw [HNK.out.2] at this ⊢; exact this, ?_, hbx1, hbw1⟩
          · rw [← HV.out, alikes_parts, ← HQ.out, Bool.true_and, Bool.and_comm]
            rfl
          · have := HWST.out
            rw [List.map_cons, wst_cons] at this
            rw [hM, ← this, List.drop_zero]
            show _ + weighs l0 < weighs l0 + 1 + _
            omega
          · intro e
            have e2 : g = wo.heap.size := by injection e
            have := HG.out
            omega
        have HR0 : Hid (rs.length + 1048576 * depthsOf 0 l0 ≤ 1048576 * D) := by
          have := HROOM.out.1
          rw [List.length_map] at this
          exact this
        have HMM := Lib.hid hM
        have HL01 := Lib.hid hl01
        have HGW : Hid (w.heap.size ≤ wo.heap.size) := hbw.size
        clear hM hl01 hbx1 hbw1 hown1 hb1 HB HBN HE HPOP HALL HROOM HWST HV HQ
        go_wp2
        clear cc0 cc1 m1 m2 m2n m2d m3 m4 m5 p0 p1 hbw
        go_loopw [5, 37] (fun v i wr => Halves2 w V D M rs.length wo.heap.size ⟨A0, c0, l0⟩ ⟨A1, c1, l1⟩ v i wr) (fun _ i _ => l0.length - (intOf i).toNat)
        case atStart => exact HS.out
        case round =>
          clear HS
          obtain ⟨k, st, hk, rfl, hV, hroom, hlen, hwst, hall, hown, hgp, hbx, hbw⟩ := hrel
          simp only at hk hV hwst
          obtain ⟨A3, c3, rfl, _, _⟩ := own_form hown
          by_cases hlt : k < l0.length
          · obtain ⟨b0, o0, kx, ox, nx, ux, Ax, cx, lx, hA0, hb0, hx, hxin, hxm, e0, e1, e2, e3, e4⟩ := (HL0.out.lies.mono hbw (Q := ExIn w w.heap.size) fun _ _ h => h).ex hlt
            obtain ⟨b1, o1, ky, oy, ny, uy, Ay, cy, ly, hA1, hb1, hy, hyin, hym, f0, f1, f2, f3, f4⟩ := (HL1.out.lies.mono hbw (Q := ExIn w w.heap.size) fun _ _ h => h).ex (k := k) (by have := HL01.out; show k < l1.length; omega)
            simp only at hA0 hA1 hx hy hxm hym
            subst hA0 hA1
            have hb0w : b0 < wr.heap.size := Nat.lt_of_lt_of_le hb0 hbw.size
            have hb1w : b1 < wr.heap.size := Nat.lt_of_lt_of_le hb1 hbw.size
            have hgpw : wo.heap.size < wr.heap.size := hbx.lt
            obtain ⟨hx1, hy1⟩ : lx.length ≤ 1048576 ∧ ly.length ≤ 1048576 := by
              refine ⟨?_, ?_⟩
              · cases HL0.out.small _ hxm with | mk _ _ h _ => exact h
              · cases HL1.out.small _ hym with | mk _ _ h _ => exact h
            have hdx : depthsOf 0 lx + 1 ≤ depthsOf 0 l0 := by
              have := depth_kid hxm
              rw [depth_node] at this
              exact this
            have hlx : ListIn w ⟨Ax, cx, lx⟩ := ⟨hxin.kids, hx1, by cases HL0.out.small _ hxm with | mk _ _ _ h => exact h⟩
            have hly : ListIn w ⟨Ay, cy, ly⟩ := ⟨hyin.kids, hy1, by cases HL1.out.small _ hym with | mk _ _ _ h => exact h⟩
            have hd0 : l0.drop k = .node kx ox nx ux Ax cx lx :: l0.drop (k + 1) := by
              obtain ⟨h1, h2⟩ := List.getElem?_eq_some_iff.1 hx
              rw [← h2]
              exact List.drop_eq_getElem_cons h1
            have hd1 : l1.drop k = .node ky oy ny uy Ay cy ly :: l1.drop (k + 1) := by
              obtain ⟨h1, h2⟩ := List.getElem?_eq_some_iff.1 hy
              rw [← h2]
              exact List.drop_eq_getElem_cons h1
            have hV2 : (st.all (fun p => alikes sameEx p.1.l p.2.l) && (alikes sameEx lx ly && kidsOk (l0.drop (k + 1)) (l1.drop (k + 1)))) = V := by
              rw [← hV, hd0, hd1]
              rfl
            rw [hd0, weighs_cons, weigh_node] at hwst
            have hls : st.length ≤ 1048576001 + 1048576 := by have := HR0.out; have := HD.out; have := HL0.out.len; simp only at this; omega
            have hl0m : l0.length ≤ 1048576 := HL0.out.len
            have hki : (k : Int) < (l0.length : Int) := by omega
            have hki1 : (k : Int) < (l1.length : Int) := by have := HL01.out; omega
            have hsum : IntKind.i64.wrap ((lx.length : Int) + (ly.length : Int)) = (lx.length : Int) + (ly.length : Int) := IntWalk.i64_in _ (by omega)
            have p0 := hbx.cell 0
            have p1 := hbx.cell 1
            unfold Hd.val at p0 p1
            have HV := Lib.hid hV2
            have HROOM := Lib.hid hroom
            have HLEN := Lib.hid hlen
            have HWST := Lib.hid hwst
            have HALL := Lib.hid hall
            have HOWN := Lib.hid hown
            have HGP := Lib.hid hgp
            have HBX := Lib.hid hbx
            have HBW := Lib.hid hbw
            have HDX := Lib.hid hdx
            have HLX := Lib.hid hlx
            have HLY := Lib.hid hly
            clear hd0 hd1 hV2 hV hroom hlen hwst hall hown hgp hbx hbw hdx hlx hly hx hy hxin hyin hxm hym hb0 hb1
            by_cases hz : lx.length + ly.length = 0
            · obtain rfl : lx = [] := List.eq_nil_of_length_eq_zero (by omega)
              obtain rfl : ly = [] := List.eq_nil_of_length_eq_zero (by omega)
              clear hz hsum hx1 hy1
              go_wp2
              have hst := two_below wr (.cells #[.int .i64 kx, .string ox, .string nx, .int .u64 ux, .slice Ax 0 cx] 25) (.cells #[.int .i64 ky, .string oy, .string ny, .int .u64 uy, .slice Ay 0 cy] 25)
              refine ⟨⟨k + 1, st, by show k + 1 ≤ l0.length; omega, rfl, ?_, HROOM.out, by have := HLEN.out; omega, ?_, HALL.out, (HOWN.out.alloc _).alloc _, HGP.out, (HBX.out.alloc _).alloc _, below_step HBW.out (Nat.le_refl _) hst⟩, by simp [intOf]; omega⟩
              · rw [← HV.out]
                show _ = (_ && (true && _))
                rw [Bool.true_and]
              · have := HWST.out
                show wst (st.map Prod.fst) + weighs (l0.drop (k + 1)) < M
                omega
            · have hzz : (0 : Int) < (lx.length : Int) + (ly.length : Int) := by omega
              clear hz
              go_wp2_with (at_builtin; refine wpList_append_own_at _ rfl (.tmp 55) (.tmp 61) _ rfl w.heap.size 119 i0 _ 2 48 Tryz.underlying120 hi hz0 hz1 hz2 rfl (by decide) _ st.length _ rfl (((HOWN.out.alloc _).alloc _).alloc _) ⟨wr.heap.size + 1 + 1, 0, none⟩ 1 1 [.slice Ax lx.length cx, .slice Ay ly.length cy] rfl rfl (by have h := cell_two_new ((wr.alloc (.cells #[.int .i64 kx, .string ox, .string nx, .int .u64 ux, .slice Ax lx.length cx] 25)).alloc (.cells #[.int .i64 ky, .string oy, .string ny, .int .u64 uy, .slice Ay ly.length cy] 25)) (.slice Ax lx.length cx) (.slice Ay ly.length cy) 119; simp only [World.size_alloc] at h; exact h) (by simp [Value.oneCell']) (by unfold maxLen; omega) (by omega) (by have := HBW.out.size; simp; omega) ?_; intro v2 w2 hown2 hgrow2 _ hat2)
              have hst0 : Below wr.heap.size wr (((wr.alloc (.cells #[.int .i64 kx, .string ox, .string nx, .int .u64 ux, .slice Ax lx.length cx] 25)).alloc (.cells #[.int .i64 ky, .string oy, .string ny, .int .u64 uy, .slice Ay ly.length cy] 25)).alloc (.cells #[.slice Ax lx.length cx, .slice Ay ly.length cy] 119)) := below_alloc (two_below wr _ _) (Nat.le_refl _) _
              have hown3 := ((HOWN.out.alloc (.cells #[.int .i64 kx, .string ox, .string nx, .int .u64 ux, .slice Ax lx.length cx] 25)).alloc (.cells #[.int .i64 ky, .string oy, .string ny, .int .u64 uy, .slice Ay ly.length cy] 25)).alloc (.cells #[.slice Ax lx.length cx, .slice Ay ly.length cy] 119)
              have hst : Below w.heap.size w w2 := below_grown (below_step HBW.out (Nat.le_refl _) hst0) hown3 (Nat.le_refl _) (by have := HBW.out.size; simp; omega) hgrow2
              have hbx2 : Box w2 wo.heap.size 119 #[.slice (some ⟨b0, o0, none⟩) l0.length c0, .slice (some ⟨b1, o1, none⟩) l1.length c1] := (hgrow2.block _ (by simp; omega) (fun e => HGP.out e.symm)).trans (HBX.out.step hst0)
              have hgp2 : v2.ownBlock ≠ some wo.heap.size := by
                rcases hat2 with h | h
                · rw [h]; exact HGP.out
                · rw [h]
                  intro e
                  have := Option.some.inj e
                  simp at this
                  omega
              have hfin : Halves2 w V D M rs.length wo.heap.size ⟨some ⟨b0, o0, none⟩, c0, l0⟩ ⟨some ⟨b1, o1, none⟩, c1, l1⟩ v2 (.int .i64 ((k : Int) + 1)) w2 := by
                refine ⟨k + 1, (⟨Ax, cx, lx⟩, ⟨Ay, cy, ly⟩) :: st, by show k + 1 ≤ l0.length; omega, rfl, ?_, ⟨?_, HROOM.out⟩, ?_, ?_, ?_, ?_, hgp2, hbx2, hst⟩
                · rw [← HV.out, List.all_cons]
                  show (alikes sameEx lx ly && st.all (fun p => alikes sameEx p.1.l p.2.l) && kidsOk (l0.drop (k + 1)) (l1.drop (k + 1))) = _
                  generalize alikes sameEx lx ly = q1
                  generalize st.all (fun p => alikes sameEx p.1.l p.2.l) = q2
                  generalize kidsOk (l0.drop (k + 1)) (l1.drop (k + 1)) = q3
                  cases q1 <;> cases q2 <;> cases q3 <;> rfl
                · have h1 := HLEN.out
                  have h2 := HR0.out
                  have h3 := HDX.out
                  show (st.map Prod.fst).length + 1048576 * depthsOf 0 lx ≤ 1048576 * D
                  rw [List.length_map]
                  omega
                · have := HLEN.out
                  show st.length + 1 ≤ rs.length + (k + 1)
                  omega
                · have := HWST.out
                  rw [List.map_cons, wst_cons]
                  show weighs lx + 1 + wst (st.map Prod.fst) + weighs (l0.drop (k + 1)) < M
                  omega
                · intro y hy
                  rcases List.mem_cons.1 hy with rfl | hy
                  · exact ⟨HLX.out, HLY.out⟩
                  · exact HALL.out y hy
                · rw [rowP_cons]
                  exact hown2
              go_roundw
              case rel => exact hfin
              case measure => simp [intOf]; omega
          · obtain rfl : k = l0.length := by omega
            have hd1 : l1.drop l0.length = [] := List.drop_eq_nil_of_le (by have := HL01.out; omega)
            rw [List.drop_length] at hwst hV
            have hfin : Pairs w V D (.slice A3 st.length c3) (wst (st.map Prod.fst)) wr := ⟨st, rfl, by rw [← hV]; unfold kidsOk; rw [Bool.and_true], hroom, hall, hown, hbw⟩
            have HFIN := Lib.hid hfin
            have HW := Lib.hid hwst
            clear hV hroom hlen hwst hall hown hgp hbx hbw hfin hd1
            go_wp2
            go_roundw
            case rel => exact ⟨_, HFIN.out⟩
            case measure =>
              refine Nat.lt_of_le_of_lt (HM.out (_, wr) _ HFIN.out).2 ?_
              have := HW.out
              rw [HMM.out, weighs_nil] at this
              exact this

end Go.Proofs.YtogpicfofifbkaaGreatDoor.LandedT
