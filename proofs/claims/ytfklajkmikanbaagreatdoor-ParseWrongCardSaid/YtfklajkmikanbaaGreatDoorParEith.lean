/- What the landed parser's either gives. Condition: what the start lays, as far as the library reads it. -/
import Derived.Test.YtfklajkmikanbaaGreatDoorPart16
namespace Go.Proofs.YtfklajkmikanbaaGreatDoor.LandedP
open Go.RowKit

/-! ### What is left is less -/
theorem numLoop_len : ∀ (f : Nat) (e x : Ex) (R R' : List Tk), numLoop f e R = .ok (x, R') → R'.length ≤ R.length
  | 0, e, x, R, R', h => by cases h; exact Nat.le_refl _
  | f + 1, e, x, R, R', h => by
    unfold numLoop at h
    split at h
    · split at h
      · cases h
      · rename_i y R2 hy
        have h1 := numLoop_len f _ _ _ _ h
        have h2 := single_len hy
        have h3 : R.tail.length ≤ R.length := by simp
        omega
    · cases h; exact Nat.le_refl _
theorem number_len {R R' : List Tk} {e : Ex} (h : numberX R = .ok (e, R')) : R'.length < R.length := by
  unfold numberX at h
  split at h
  · cases h
  · rename_i y R2 hy
    have h1 := numLoop_len _ _ _ _ _ h
    have h2 := single_len hy
    omega
theorem tail_le (R : List Tk) : R.tail.length ≤ R.length := by simp
theorem compared_len {R R' : List Tk} {e : Ex} (h : comparedX R = .ok (e, R')) : R'.length < R.length := by
  unfold comparedX at h
  split at h
  · cases h
  · rename_i s hs
    obtain ⟨t, r, rfl, _⟩ := nameH_cons hs
    split at h
    · split at h
      · cases h
      · rename_i y R2 hy
        cases h
        have h2 := single_len hy
        have h3 := tail_le (t :: r).tail
        simp only [List.tail_cons, List.length_cons] at h2 h3 ⊢
        omega
    · cases h
      simp
theorem comparison_len {R R' : List Tk} {e : Ex} (h : comparisonX R = .ok (e, R')) : R'.length < R.length := by
  unfold comparisonX at h
  split at h
  · cases h
  · rename_i a R1 ha
    split at h
    · cases h
    · split at h
      · cases h
      · rename_i b R2 hb
        cases h
        have h1 := compared_len ha
        have h2 := number_len hb
        have h3 := tail_le R1
        omega
theorem sg_tail {s : List UInt8} {R : List Tk} (h : sgL s R = true) : R.tail.length + 1 = R.length := by
  obtain ⟨t, r, rfl, _⟩ := isL_cons h
  rfl
theorem goes_tail {x y : Lvl} {e : Ex} {R : List Tk} (h : goesX x e R = some y) : R.tail.length + 1 = R.length := by
  unfold goesX at h
  split at h
  · rename_i h1; exact sg_tail h1
  · split at h
    · rename_i h1; exact sg_tail h1
    · cases h

/-! ### One round -/
def afterClose (f : Nat) : Clo → Rx Ex
  | .goes ar now R => eitherX f ar now R
  | .done e R => .ok (e, R)
  | .bad R => .error (3, R)
theorem either_open {f : Nat} {ar : List Lvl} {now : Lvl} {R : List Tk} (h : sgL [40] (R.drop (notsN R)) = true) : eitherX (f + 1) ar now R = eitherX f ({ now with nots := notsN R } :: ar) Lvl.zero (R.drop (notsN R)).tail := by
  rw [eitherX, if_pos h]
theorem either_bad {f : Nat} {ar : List Lvl} {now : Lvl} {R : List Tk} {x : Int × List Tk} (h : sgL [40] (R.drop (notsN R)) = false) (hc : comparisonX (R.drop (notsN R)) = .error x) : eitherX (f + 1) ar now R = .error x := by
  rw [eitherX, if_neg (by rw [h]; decide), hc]
theorem either_op {f : Nat} {ar : List Lvl} {now : Lvl} {R R2 : List Tk} {e : Ex} (h : sgL [40] (R.drop (notsN R)) = false) (hc : comparisonX (R.drop (notsN R)) = .ok (e, R2)) : eitherX (f + 1) ar now R = afterClose f (closeX ar { now with nots := notsN R } e R2) := by
  rw [eitherX, if_neg (by rw [h]; decide), hc]
  dsimp only
  cases closeX ar { now with nots := notsN R } e R2 <;> rfl
theorem close_goes {ar : List Lvl} {now x : Lvl} {e : Ex} {R : List Tk} (h : goesX now e R = some x) : closeX ar now e R = .goes ar x R.tail := by
  unfold closeX; rw [h]
theorem close_done {now : Lvl} {e : Ex} {R : List Tk} (h : goesX now e R = none) : closeX [] now e R = .done (now.whole e) R := by
  unfold closeX; rw [h]
theorem close_pop {top : Lvl} {ar : List Lvl} {now : Lvl} {e : Ex} {R : List Tk} (h : goesX now e R = none) (hs : sgL [41] R = true) : closeX (top :: ar) now e R = closeX ar top (now.whole e) R.tail := by
  rw [closeX, h]
  dsimp only
  rw [if_pos hs]
theorem close_bad {top : Lvl} {ar : List Lvl} {now : Lvl} {e : Ex} {R : List Tk} (h : goesX now e R = none) (hs : sgL [41] R = false) : closeX (top :: ar) now e R = .bad R := by
  rw [closeX, h]
  dsimp only
  rw [if_neg (by rw [hs]; decide)]

def lenV : Value → Nat
  | .slice _ n _ => n
  | _ => 0

/-- Where the outer loop stands: n rounds at most. -/
def OutSt (w : World) (g : Nat) (E : Env) (X : Rx Ex) (n : Nat) (b : Value × World) : Prop := ∃ (L : List Lvl) (now : Lvl) (R : List Tk), EitAt w g E w.heap.size L now R b.1 b.2 ∧ X = eitherX n (L.map Lvl.bare).reverse now.bare R ∧ R.length < n ∧ L.length + R.length ≤ 1000000
/-- Where the inner loop stands; k: the operand's block. -/
def InSt (w : World) (g : Nat) (E : Env) (X : Rx Ex) (f k : Nat) (b : Value × World) : Prop := ∃ (L : List Lvl) (now : Lvl) (R : List Tk) (e : Ex), EitAt w g E k L now R b.1 b.2 ∧ Box b.2 k 48 e.cells.toArray ∧ ExP (Free w.heap.size b.1 k) b.2 e ∧ b.1.ownBlock ≠ some k ∧ w.heap.size + 2 ≤ k ∧
  X = afterClose f (closeX (L.map Lvl.bare).reverse now.bare e.bare R) ∧ R.length < f ∧ L.length + R.length ≤ 1000000

theorem lvls_len : ∀ L : List Lvl, (L.flatMap Lvl.cells).length = L.length * 3
  | [] => rfl
  | a :: l => by rw [List.flatMap_cons, List.length_append, lvls_len l, List.length_cons]; show 3 + _ = _; omega
theorem lvl_top (L : List Lvl) (top : Lvl) (j : Nat) : ((L ++ [top]).flatMap Lvl.cells)[L.length * 3 + j]? = top.cells[j]? := by
  rw [List.flatMap_append, List.getElem?_append_right (by rw [lvls_len]; omega), lvls_len, show L.length * 3 + j - L.length * 3 = j from by omega]
  simp
theorem map_top (L : List Lvl) (top : Lvl) : ((L ++ [top]).map Lvl.bare).reverse = top.bare :: (L.map Lvl.bare).reverse := by simp

theorem infoLvl : (Tryz.prog.info? 137).map (fun i => (i.zero, i.size, i.bytes)) = some (some (.agg #[.slice none 0 0, .slice none 0 0, .int .i64 0]), 3, 56) := by kernel_rfl

section
variable {w : World} {g : Nat} {E : Env} {R : List Tk}

theorem out_start (h : RdrAt 66 w g E R Flt.none) (W : World) (hW : W = (w.alloc (.cells #[.int .i64 0, .string ⟨#[]⟩, .string ⟨#[]⟩, .int .u64 0, .slice none 0 0] 48)).alloc (.cells #[.slice none 0 0, .slice none 0 0, .int .i64 0] 137)) :
    OutSt w g E (eitherX (R.length + 1) [] Lvl.zero R) (R.length + 1) (.slice none 0 0, W) := by
  subst hW
  have hl := h.len
  refine ⟨[], Lvl.zero, R, ⟨only_below (below2 _ _ _) g, h.lt, (Box.new _ _ _).alloc _, new2 _ _ _ _, ⟨rfl, .inl ⟨rfl, rfl⟩⟩, fun x hx => absurd hx (by simp), ⟨.nil _ _ _ _ _, .nil _ _ _ _ _, ⟨Nat.zero_le _, Nat.zero_le _⟩, Nat.zero_le _⟩, (h.alloc _).alloc _⟩, rfl, Nat.lt_succ_self _, by simp; exact hl⟩

set_option maxRecDepth 100000 in
set_option maxHeartbeats 16000000 in
theorem either_any (hE : ∀ W, E.laid W → Laid W) (h : RdrAt 66 w g E R Flt.none) :
    Calls Tryz.prog 58 #[.pointer (some ⟨g, 0, none⟩)] w (Gave 66 g E (ExNew w.heap.size) ExShape (eitherX (R.length + 1) [] Lvl.zero R) w) := by
  obtain ⟨i0, hi, hz0, hz1, hz2⟩ := info_parts infoLvl
  have H0 := Lib.hid (out_start h)
  have HGL := Lib.hid h.lt
  obtain ⟨m, hm⟩ := least_measure (OutSt w g E (eitherX (R.length + 1) [] Lvl.zero R))
  have HM := Lib.hid hm
  obtain ⟨X, hX⟩ : ∃ X, X = eitherX (R.length + 1) [] Lvl.zero R := ⟨_, rfl⟩
  rw [← hX] at H0 HM ⊢
  clear hm h hX
  go_enter Tryz.func58, Tryz.ntmps58
  go_wp2_with fail
  go_loopw [4] (fun v wr => ∃ n, OutSt w g E X n (v, wr)) (fun v wr => m (v, wr))
  case atStart => exact ⟨_, H0.out _ rfl⟩
  case round =>
    clear H0
    obtain ⟨n, hr⟩ := hrel
    obtain ⟨⟨L, now, R', hE1, hX, hRn, hLR⟩, _⟩ := HM.out _ n hr
    clear hr
    obtain ⟨A, c, hS, hnc, _⟩ := own_form hE1.row
    dsimp only at hE1 hS
    subst hS
    obtain ⟨f, hf⟩ : ∃ f, m (.slice A L.length c, wr) = f + 1 := ⟨m (.slice A L.length c, wr) - 1, by omega⟩
    rw [hf] at hX hRn
    have HF := Lib.hid hf
    have HX := Lib.hid hX
    have HRN := Lib.hid (And.intro hRn hLR)
    have HE1 := Lib.hid hE1
    have HN := Lib.hid (nots_any hE1.rdr hE1.rdr.len)
    have hN1 : notsN R' ≤ 1000000 := Nat.le_trans (notsN_le R') hE1.rdr.len
    have HNL := Lib.hid (notsN_le R')
    clear hE1 hX hRn hLR hf hnc
    obtain ⟨K, hK⟩ : ∃ K, K = notsN R' := ⟨_, rfl⟩
    rw [← hK] at HN hN1 HNL
    have HK := Lib.hid hK
    clear hK
    go_wp2_with fail
    refine HN.out.mono ?_
    rintro e w1 ⟨rfl, h1, hg1⟩
    have HE2 := Lib.hid (HE1.out.call hg1 h1)
    have HE3 := Lib.hid (HE2.out.nots hN1)
    have hq := HE2.out.box
    have q2 := hq.cell 2
    have z2 := hq.free 2
    have ql := hq.lt
    have HSG := Lib.hid (sign_any HE3.out.rdr ⟨#[40]⟩)
    rw [show ((⟨#[40]⟩ : ByteArray)).data.toList = [40] from rfl] at HSG
    have q2' : w1.cell? ⟨w.heap.size + 1, 2, none⟩ = some (.int .i64 (now.nots : Int)) := q2
    clear hq q2 h1 hg1 HN HE1
    cases hsg : sgL [40] (R'.drop K)
    · rw [hsg] at HSG
      have HSN : Hid (sgL [40] (R'.drop (notsN R')) = false) := by rw [← HK.out]; exact hsg
      clear hsg
      go_wp2_with fail
      refine HSG.out.mono ?_
      rintro e w2 ⟨rfl, h2, hg2⟩
      have HE4 := Lib.hid (HE3.out.call hg2 (show RdrAt 66 w2 g E (R'.drop K) Flt.none from h2))
      have HCO := Lib.hid (comparison_any hE HE4.out.rdr)
      clear h2 hg2 HSG HE3 HE2 q2' z2 ql
      go_wp2_with fail
      refine HCO.out.mono ?_
      rintro e w3 ⟨hg3, h3⟩
      clear HCO
      rcases h3 with ⟨a, R2, v, hx, rfl, ⟨e1, rfl, rfl, hin⟩, hr⟩ | ⟨err, R2, v, hx, rfl, ⟨e1, rfl⟩, hr⟩
      · have hz2 : w.heap.size + 2 ≤ w2.heap.size := HE4.out.box.lt
        have hS2 : ∀ b, (Value.slice A L.length c).ownBlock = some b → b < w2.heap.size := fun b hb => (HE4.out.row.lt b hb).2
        have hz3 : w2.heap.size ≤ w3.heap.size := hg3.size
        have HIN : Hid (InSt w g E X f w3.heap.size (.slice A L.length c, w3.alloc (.cells e1.cells.toArray 48))) := by
          refine ⟨L, { now with nots := K }, R2, e1, ((HE4.out.call hg3 hr).apart (.inl (Nat.le_refl _))).step ((Below.refl _ _).alloc (Nat.le_refl _) _), Box.new _ _ _, hin.move (Move.grown (World.grownBy_alloc w3 _ none) fun b hb hp => ⟨⟨by omega, fun e => by have := hS2 b e; omega, Nat.ne_of_lt hb⟩, by simp⟩), fun e => by have := hS2 _ e; omega, by omega, ?_, ?_, ?_⟩
          · have := HX.out
            rw [either_op HSN.out (by rw [← HK.out]; exact hx), ← HK.out] at this
            exact this
          · have h1 := comparison_len hx
            have h2 := HRN.out
            have h3 : (R'.drop K).length ≤ R'.length := by simp
            omega
          · have h1 := comparison_len hx
            have h2 := HRN.out
            have h3 : (R'.drop K).length ≤ R'.length := by simp
            show L.length + R2.length ≤ _
            omega
        have HG3 := Lib.hid hz3
        clear hx hr hg3 HX HE4 hin hz2 hS2 hz3 HRN HSN
        obtain ⟨kd, op, nm, nu, A1, c1, ks⟩ := e1
        unfold Ex.cells at HIN
        unfold Ex.val
        dsimp only at HIN ⊢
        go_wp2_with fail
        go_loopw [4] (fun v wr => InSt w g E X f w3.heap.size (v, wr)) (fun v _ => lenV v)
        case atStart => exact HIN.out
        case round =>
          clear HIN
          obtain ⟨L2, now2, R3, e2, hE2, hbx, hin, hS, hk, hX, hR, hLR⟩ := hrel
          dsimp only at hE2 hbx hin hS
          obtain ⟨A2, c2, hS2, hnc2, _⟩ := own_form hE2.row
          subst hS2
          have hlow := hE2.low
          have hkl := hbx.lt
          have HKE : Hid (w.heap.size + 2 ≤ w3.heap.size ∧ (Value.slice A2 L2.length c2).ownBlock ≠ some w3.heap.size) := ⟨hk, hS⟩
          have HP : Hid ((∀ b, wr.heap.size ≤ b → Free w.heap.size (.slice A2 L2.length c2) w3.heap.size b) ∧ ∀ b, Free w.heap.size (.slice A2 L2.length c2) w3.heap.size b → b ≠ g ∧ b ≠ w.heap.size + 1) :=
            ⟨fun b hb => ⟨by omega, fun e => by have := (hE2.row.lt b e).2; omega, by omega⟩, fun b hb => ⟨by have := hb.1; omega, by have := hb.1; omega⟩⟩
          have HGO := Lib.hid (goes_any HP.out.1 HP.out.2 (show g < w.heap.size + 1 by omega) now2 e2 hE2.nowP hin hE2.box hE2.rdr)
          have HE4 := Lib.hid hE2
          have HIN := Lib.hid hin
          have HBX := Lib.hid hbx
          have HX2 := Lib.hid hX
          have HR2 := Lib.hid (And.intro hR hLR)
          clear hE2 hin hX hR hLR hS hk hnc2
          obtain ⟨kd2, op2, nm2, nu2, A3, c3, ks2⟩ := e2
          unfold Ex.val at HGO
          unfold Ex.cells at HBX hbx
          dsimp only at HGO HBX hbx
          obtain ⟨q0, q1, q2, q3, q4, z0, z1, z2, z3, z4, _⟩ := box5 hbx
          clear hbx
          go_wp2_with fail
          refine HGO.out.mono ?_
          rintro e w4 h4
          rcases h4 with ⟨x', x2, hx, hb2, rfl, hbox, hlv, hrd, w5, hg5, hg6⟩ | ⟨hx, rfl, hrd, hg5⟩
          · have hfin : OutSt w g E X f (.slice A2 L2.length c2, w4) := by
              have h5 := goes_tail hx
              have h6 := HR2.out
              refine ⟨L2, x2, R3.tail, (HE4.out.two hg5 hg6 hbox hlv hrd).apart (.inr (by omega)), ?_, by omega, by omega⟩
              have := HX2.out
              rw [close_goes hx] at this
              rw [hb2]
              exact this
            have HFIN := Lib.hid hfin
            clear hfin hx hb2 hbox hlv hrd hg5 hg6 HGO HX2 HIN HBX HE4 HP
            go_wp2
            exact ⟨⟨f, HFIN.out⟩, Nat.lt_of_le_of_lt (HM.out _ _ HFIN.out).2 (by rw [HF.out]; omega)⟩
          · have HX3 := Lib.hid hx
            have hgl := HGL.out
            have HE5 := Lib.hid (HE4.out.call hg5 hrd)
            have hbx5 := box_only HBX.out (show w3.heap.size ≠ g by have := HKE.out.1; omega) hg5
            have HBX5 := Lib.hid hbx5
            have hk5 := hbx5.lt
            have HIN5 := Lib.hid (HIN.out.move (Q := Free w.heap.size (.slice A2 L2.length c2) w3.heap.size) (Move.grown hg5 fun b hb hp => ⟨hp, fun e => (HP.out.2 b hp).1 (Option.some.inj e).symm⟩))
            have HW := Lib.hid (whole_any (P := Free w.heap.size (.slice A2 L2.length c2) w3.heap.size) (fun b hb => ⟨by have := HKE.out.1; omega, fun e => by have := (HE5.out.row.lt b e).2; omega, by omega⟩) now2 (.node kd2 op2 nm2 nu2 A3 c3 ks2) HE5.out.nowP HIN5.out)
            have HBL := Lib.hid HE5.out.box
            clear hx hrd hg5 HGO HE4 HIN HBX HP hbx5 q0 q1 q2 q3 q4 z0 z1 z2 z3 z4
            generalize hwh : now2.bare.whole (Ex.node kd2 op2 nm2 nu2 A3 c3 ks2).bare = WH at HW
            have HWH := Lib.hid hwh
            clear hwh
            obtain ⟨oA, oc, ors, aA, ac, ands, N⟩ := now2
            unfold Lvl.val Ex.val at HW
            unfold Lvl.cells at HBL
            dsimp only at HW HBL
            obtain ⟨q0, q1, q2, q3, q4, z0, z1, z2, z3, z4, hl⟩ := box5 HBX5.out
            obtain ⟨p0, p1, p2, y0, y1, y2, hl2⟩ := box3 HBL.out
            go_wp2_with fail
            refine HW.out.mono ?_
            rintro e w6 ⟨hb6, r, hrb, rfl, hin6⟩
            have HE6 := Lib.hid (HE5.out.step hb6)
            have HBX6 := Lib.hid (HBX5.out.step hb6)
            have HIN6 := Lib.hid hin6
            have HRB := Lib.hid hrb
            clear hb6 hrb hin6 HW HE5 HBX5 HIN5 HBL q0 q1 q2 q3 q4 z0 z1 z2 z3 z4 hl p0 p1 p2 y0 y1 y2 hl2
            obtain ⟨kd, op, nm, nu, A4, c4, ks4⟩ := r
            unfold Ex.val
            dsimp only
            obtain ⟨q0, q1, q2, q3, q4, z0, z1, z2, z3, z4, hl⟩ := box5 HBX6.out
            go_upto_region 12 with (fail)
            have HBX7 := Lib.hid (set5_box (a0 := .int .i64 kd) (a1 := .string op) (a2 := .string nm) (a3 := .int .u64 nu) (a4 := .slice A4 ks4.length c4) HBX6.out)
            have hO7 : w6.grownBy (((((w6.setCell ⟨w3.heap.size, 0, none⟩ (.int .i64 kd)).setCell ⟨w3.heap.size, 1, none⟩ (.string op)).setCell ⟨w3.heap.size, 2, none⟩ (.string nm)).setCell ⟨w3.heap.size, 3, none⟩ (.int .u64 nu)).setCell ⟨w3.heap.size, 4, none⟩ (.slice A4 ks4.length c4)) (some w3.heap.size) := set5_only
            generalize ((((w6.setCell ⟨w3.heap.size, 0, none⟩ (.int .i64 kd)).setCell ⟨w3.heap.size, 1, none⟩ (.string op)).setCell ⟨w3.heap.size, 2, none⟩ (.string nm)).setCell ⟨w3.heap.size, 3, none⟩ (.int .u64 nu)).setCell ⟨w3.heap.size, 4, none⟩ (.slice A4 ks4.length c4) = w7 at *
            have HE7 := Lib.hid (HE6.out.other hO7 HKE.out.1 HKE.out.2 rfl)
            have HIN7 := Lib.hid (HIN6.out.move (Q := Free w.heap.size (.slice A2 L2.length c2) w3.heap.size) (Move.grown hO7 fun b hb hp => ⟨hp, fun e => hp.2.2 (Option.some.inj e).symm⟩))
            clear hO7 HBX6 HE6 HIN6 q0 q1 q2 q3 q4 z0 z1 z2 z3 z4 hl
            rcases List.eq_nil_or_concat L2 with hL | ⟨L3, top, hL⟩
            · subst hL
              have HEQ : Hid (X = .ok ((Ex.node kd op nm nu A4 c4 ks4).bare, R3)) := by
                have := HX2.out
                rw [show (List.map Lvl.bare []).reverse = [] from rfl, close_done HX3.out, HWH.out, ← HRB.out] at this
                exact this
              obtain ⟨q0, q1, q2, q3, q4, z0, z1, z2, z3, z4, hl⟩ := box5 HBX7.out
              obtain ⟨p0, p1, p2, p3, p4, y0, y1, y2, y3, y4, hl2⟩ := box5 HE7.out.res
              simp only [List.length_nil]
              go_wp2_with fail
              try simp only [Exit.inBlock, Exit.then]
              refine bodyPost_ret (results_box_tmp rfl _ _ w.heap.size 48 _ rfl (set5_box HE7.out.res) _ Tryz.underlying48 rfl exSize) rfl ⟨grow_new HE7.out.frame set5_only (Nat.le_refl _), .inl ⟨_, R3, _, HEQ.out, rfl, ⟨_, rfl, rfl, ?_⟩, HE7.out.rdr.other set5_only HGL.out⟩⟩
              exact HIN7.out.move (Move.grown set5_only fun b hb hp => ⟨by have := hp.1; omega, fun e => by have := Option.some.inj e; have := hp.1; omega⟩)
            · rw [List.concat_eq_append] at hL
              subst hL
              have HSG := Lib.hid (sign_any HE7.out.rdr ⟨#[41]⟩)
              rw [show ((⟨#[41]⟩ : ByteArray)).data.toList = [41] from rfl] at HSG
              obtain ⟨K2, hK2⟩ : ∃ K2, K2 = L3.length := ⟨_, rfl⟩
              obtain ⟨N2, hN2⟩ : ∃ N2, N2 = K2 + 1 := ⟨_, rfl⟩
              have hlen : (L3 ++ [top]).length = N2 := by simp; omega
              have hNb : N2 ≤ 1000000 := by have := HR2.out.2; omega
              have m2 : ¬ (N2 : Int) = 0 := by omega
              have HNK := Lib.hid (And.intro hK2 (And.intro hN2 hlen))
              rw [hlen]
              clear hK2 hlen
              cases hsg : sgL [41] R3
              · rw [hsg] at HSG
                have HEQ : Hid (X = .error (3, R3)) := by
                  have := HX2.out
                  rw [map_top, close_bad HX3.out hsg] at this
                  exact this
                clear hsg
                go_wp2_with fail
                refine HSG.out.mono ?_
                rintro e w8 ⟨rfl, h8, hg8⟩
                have HE8 := Lib.hid (HE7.out.call hg8 (show RdrAt 66 w8 g E R3 Flt.none from h8))
                obtain ⟨p0, p1, p2, p3, p4, y0, y1, y2, y3, y4, hl2⟩ := box5 HE8.out.res
                clear h8 hg8 HSG HE7
                go_wp2_with fail
                try simp only [Exit.inBlock, Exit.then]
                exact bodyPost_ret (results_box_tmp rfl _ _ w.heap.size 48 _ rfl (set5_box HE8.out.res) _ Tryz.underlying48 rfl exSize) rfl ⟨grow_new HE8.out.frame set5_only (Nat.le_refl _), .inr ⟨3, R3, _, HEQ.out, rfl, ⟨.node 0 ⟨#[]⟩ ⟨#[]⟩ 0 none 0 [], rfl⟩, .inl ⟨rfl, HE8.out.rdr.other set5_only HGL.out⟩⟩⟩
              · rw [hsg] at HSG
                have HEQ : Hid (X = afterClose f (closeX (L3.map Lvl.bare).reverse top.bare (Ex.node kd op nm nu A4 c4 ks4).bare R3.tail)) := by
                  have := HX2.out
                  rw [map_top, close_pop HX3.out hsg, HWH.out, ← HRB.out] at this
                  exact this
                have HTL := Lib.hid (sg_tail hsg)
                clear hsg
                go_wp2_with fail
                refine HSG.out.mono ?_
                rintro e w8 ⟨rfl, h8, hg8⟩
                have HE8 := Lib.hid (HE7.out.call hg8 (show RdrAt 66 w8 g E R3.tail Flt.none from h8))
                have HBX8 := Lib.hid (box_only HBX7.out (show w3.heap.size ≠ g by have := HKE.out.1; omega) hg8)
                have HIN8 := Lib.hid (HIN7.out.move (Q := Free w.heap.size (.slice A2 (L3 ++ [top]).length c2) w3.heap.size) (Move.grown hg8 fun b hb hp => ⟨hp, fun e => by have := Option.some.inj e; have := hp.1; omega⟩))
                clear h8 hg8 HSG HE7 HBX7 HIN7
                have hown := HE8.out.row
                obtain ⟨gs, cap, hA2⟩ : ∃ gs cap, (Value.slice A2 (L3 ++ [top]).length c2) = .slice (some ⟨gs, 0, none⟩) (L3.length + 1) cap := by
                  have := hown
                  rw [show (L3 ++ [top]).length = L3.length + 1 from by simp] at this ⊢
                  exact ownsRow_succ this
                injection hA2 with e1 e2 e3
                subst e1 e3
                rw [HNK.out.2.2] at hown
                obtain ⟨cc0, cz0, cl⟩ := LandedT.own_cell hown (k := L3.length * 3) (v := .slice top.oA top.or.length top.oc) (by have := lvl_top L3 top 0; rw [Nat.add_zero] at this; rw [this]; rfl)
                obtain ⟨cc1, _, _⟩ := LandedT.own_cell hown (k := L3.length * 3 + 1) (v := .slice top.aA top.and.length top.ac) (by rw [lvl_top]; rfl)
                obtain ⟨cc2, _, _⟩ := LandedT.own_cell hown (k := L3.length * 3 + 2) (v := .int .i64 (top.nots : Int)) (by rw [lvl_top]; rfl)
                rw [← HNK.out.1] at cc0 cc1 cc2
                obtain ⟨cur, hbx, hgB, hncap, hcapm, _, _⟩ := LandedT.own_box hown
                have hHL := HE8.out.box
                obtain ⟨p0, p1, p2, y0, y1, y2, hl2⟩ := box3 (show Box w8 (w.heap.size + 1) 137 #[.slice oA ors.length oc, .slice aA ands.length ac, .int .i64 (N : Int)] from hHL)
                have m1 : IntKind.i64.wrap ((N2 : Int) - 1) = (K2 : Int) := by rw [IntWalk.i64_in _ (by omega)]; omega
                have m3 : (K2 : Int) < (N2 : Int) := by omega
                have m4 : (0 : Int) ≤ (K2 : Int) := by omega
                have m5 : (K2 : Int) ≤ (c2 : Int) := by omega
                have m6 : (0 : Int) < (N2 : Int) := by omega
                have m7 : 0 < N2 := by omega
                have hgs : Hid (gs ≠ w.heap.size + 1) := fun e => by omega
                clear hown hbx hgB hncap hcapm hHL e2 hN2
                go_wp2
                obtain ⟨hk2, hn2, hlen2⟩ := HNK.out
                have hS9 : (Value.slice (some ⟨gs, 0, none⟩) (L3 ++ [top]).length c2).ownBlock = (Value.slice (some ⟨gs, 0, none⟩) K2 c2).ownBlock := rfl
                have hbox9 := set3_box (a0 := .slice top.oA top.or.length top.oc) (a1 := .slice top.aA top.and.length top.ac) (a2 := .int .i64 (top.nots : Int)) HE8.out.box
                have hO9 : w8.grownBy (((w8.setCell ⟨w.heap.size + 1, 0, none⟩ (.slice top.oA top.or.length top.oc)).setCell ⟨w.heap.size + 1, 1, none⟩ (.slice top.aA top.and.length top.ac)).setCell ⟨w.heap.size + 1, 2, none⟩ (.int .i64 (top.nots : Int))) (some (w.heap.size + 1)) := set3_only
                have hEE : EitAt w g E w3.heap.size (L3 ++ [top]) ⟨oA, oc, ors, aA, ac, ands, N⟩ R3.tail (.slice (some ⟨gs, 0, none⟩) (K2 + 1) c2) w8 := by
                  have := HE8.out
                  rw [hlen2, hn2] at this
                  exact this
                have hpop := hEE.pop hk2 hO9 hbox9
                refine ⟨⟨L3, top, R3.tail, .node kd op nm nu A4 c4 ks4, hpop, box_only HBX8.out (by have := HKE.out.1; omega) hO9, ?_, fun e => HKE.out.2 (by rw [hS9]; exact e), HKE.out.1, HEQ.out, ?_, ?_⟩, ?_⟩
                · exact HIN8.out.move (Move.grown hO9 fun b hb hp => ⟨⟨hp.1, by rw [← hS9]; exact hp.2.1, hp.2.2⟩, fun e => by have := Option.some.inj e; have := hp.1; omega⟩)
                · have := HTL.out; have := HR2.out.1; omega
                · have := HTL.out; have h7 := HR2.out.2; rw [hlen2] at h7; omega
                · show K2 < (L3 ++ [top]).length
                  omega
      · have HEQ : Hid (X = .error (err, R2)) := by
          have := HX.out
          rw [either_bad HSN.out (by rw [← HK.out]; exact hx)] at this
          exact this
        have HG3 := Lib.hid (only_trans HE4.out.frame hg3)
        have HB3 := Lib.hid (box_only HE4.out.res (by have := HGL.out; omega) hg3)
        have HWR := Lib.hid hr
        obtain ⟨q0, q1, q2, q3, q4, z0, z1, z2, z3, z4, hl⟩ := box5 HB3.out
        clear hx hr hg3 HX HE4
        obtain ⟨kd, op, nm, nu, A1, c1, ks⟩ := e1
        unfold Ex.val
        dsimp only
        go_wp2_with fail
        try simp only [Exit.inBlock, Exit.then]
        exact bodyPost_ret (results_box_tmp rfl _ _ w.heap.size 48 _ rfl ((set5_box HB3.out).alloc _) _ Tryz.underlying48 rfl exSize) rfl ⟨grow_alloc (grow_new HG3.out set5_only (Nat.le_refl _)) _, .inr ⟨err, R2, _, HEQ.out, rfl, ⟨.node 0 ⟨#[]⟩ ⟨#[]⟩ 0 none 0 [], rfl⟩, (HWR.out.other set5_only HGL.out).step ((Below.refl _ _).alloc (Nat.le_refl _) _)⟩⟩
    · rw [hsg] at HSG
      have HEQ : Hid (X = eitherX f ({ now.bare with nots := K } :: (L.map Lvl.bare).reverse) Lvl.zero (R'.drop K).tail) := by
        have := HX.out
        rw [HK.out] at hsg ⊢
        rw [either_open hsg] at this
        exact this
      have HTL : Hid ((R'.drop K).tail.length < f ∧ (L.length + 1) + (R'.drop K).tail.length ≤ 1000000) := by
        have h1 := sg_tail hsg
        have h2 := HRN.out
        have h3 : (R'.drop K).length ≤ R'.length := by simp
        exact ⟨by omega, by omega⟩
      clear hsg HX
      go_wp2_with fail
      refine HSG.out.mono ?_
      rintro e w2 ⟨rfl, h2, hg2⟩
      have HE4 := Lib.hid (HE3.out.call hg2 (show RdrAt 66 w2 g E (R'.drop K).tail Flt.none from h2))
      obtain ⟨p0, p1, p2, y0, y1, y2, pl⟩ := box3 (show Box w2 (w.heap.size + 1) 137 #[.slice now.oA now.or.length now.oc, .slice now.aA now.and.length now.ac, .int .i64 (K : Int)] from HE4.out.box)
      clear h2 hg2 HSG HE3 HE2 q2' z2 ql
      have hown := HE4.out.row
      have hLb : L.length ≤ 1000000 := by have := HTL.out; omega
      have hbase : w.heap.size + 2 ≤ w2.heap.size := pl
      go_wp2_with (at_builtin; go_loud (refine wpList_append_lit_at _ rfl (.tmp 13) (.tmp 15) _ rfl (w.heap.size + 2) 137 i0 _ 3 56 Tryz.underlying135 hi hz0 hz1 hz2 rfl (by omega) _ _ _ rfl hown _ _ 1 1 rfl rfl ?c1 ?c2 ?c3 ?c4 ?_))
      case c1 => simp [Value.oneCell']
      case c2 => unfold maxLen; omega
      case c3 => omega
      case c4 => exact hbase
      · intro v' w' hown4 hg4 hv4
        have HE5 := Lib.hid (HE4.out.push (now := { now with nots := K }) hown4 hg4 hv4)
        have HBX := Lib.hid (show Box w' (w.heap.size + 1) 137 #[.slice now.oA now.or.length now.oc, .slice now.aA now.and.length now.ac, .int .i64 (K : Int)] from HE5.out.box)
        clear hown4 hg4 hv4 hown hbase p0 p1 p2 y0 y1 y2 pl HE4
        obtain ⟨p0, p1, p2, y0, y1, y2, pl⟩ := box3 HBX.out
        go_wp2
        have hfin : OutSt w g E X f (v', ((w'.setCell ⟨w.heap.size + 1, 0, none⟩ (.slice none 0 0)).setCell ⟨w.heap.size + 1, 1, none⟩ (.slice none 0 0)).setCell ⟨w.heap.size + 1, 2, none⟩ (.int .i64 0)) := by
          refine ⟨L ++ [{ now with nots := K }], Lvl.zero, _, HE5.out.level set3_only (set3_box HBX.out) ⟨.nil _ _ _ _ _, .nil _ _ _ _ _, ⟨Nat.zero_le _, Nat.zero_le _⟩, Nat.zero_le _⟩, ?_, HTL.out.1, by simpa using HTL.out.2⟩
          rw [List.map_append, List.reverse_append]
          exact HEQ.out
        exact ⟨⟨f, hfin⟩, Nat.lt_of_le_of_lt (HM.out _ _ hfin).2 (by rw [HF.out]; omega)⟩
end

end Go.Proofs.YtfklajkmikanbaaGreatDoor.LandedP
