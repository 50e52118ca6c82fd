/- Texts of mine put together (a claim has at most so many files): ParHere, ParRow, TreeSeq. -/
import Derived.Test.YtfklajkmikanbaaGreatDoorPart8
import Derived.Test.YtfklajkmikanbaaGreatDoorTokOne
import Derived.StillTailTactics
import Derived.Test.YtfklajkmikanbaaGreatDoorPart12
import Derived.Test.YtfklajkmikanbaaGreatDoorChecked
import Derived.Test.YtfklajkmikanbaaGreatDoorPart16
import Derived.Test.YtfklajkmikanbaaGreatDoorPart11
import Derived.WalkKit
import Derived.OwnWalkIn
import Derived.TacticsInMore
import Derived.LoopNIn
import Derived.LoopIn
/- What the landed parser's here and wrong give. No condition. -/
namespace Go.Proofs.YtfklajkmikanbaaGreatDoor.LandedP
open Go.RowKit

theorem fltSize : (Tryz.prog.info? 33).map (·.size) = some 3 := by kernel_rfl

section
variable {w : World} {g : Nat} {E : Env} {R : List Tk}

/-- A fault came back. -/
def Told (f : Flt) (w : World) : Ending → World → Prop := fun e w' => e = .returned f.val ∧ Below w.heap.size w w'

theorem box3_set {w : World} {g : Nat} {T : TypeId} {z0 z1 z2 a b c : Value} (h : Box w g T #[z0, z1, z2]) : Box (((w.setCell ⟨g, 0, none⟩ a).setCell ⟨g, 1, none⟩ b).setCell ⟨g, 2, none⟩ c) g T #[a, b, c] := by
  have := ((h.set 0 a).set 1 b).set 2 c
  simpa using this

set_option maxRecDepth 100000 in
set_option maxHeartbeats 4000000 in
theorem here_any (err : Int) (F : Flt) (h : RdrAt 66 w g E R F) :
    Calls Tryz.prog 19 #[.pointer (some ⟨g, 0, none⟩), .int .i64 err] w (Told (hereV E err R) w) := by
  obtain ⟨A, c, h⟩ := h
  have c0 : w.cell? ⟨g, 0, none⟩ = some (.slice A R.length c) := h.box.cell 0
  have c2 : w.cell? ⟨g, 2, none⟩ = some (.int .i64 E.file) := h.box.cell 2
  have c3 : w.cell? ⟨g, 3, none⟩ = some (.complex .f64 E.re E.im) := h.box.cell 3
  have hst := store_cx
  have hgl := h.box.lt
  cases R with
  | nil =>
    clear h
    simp only [List.length_nil] at c0
    go_enter Tryz.func19, Tryz.ntmps19
    go_wp2_with fail
    refine wp_region_still_tail 12 (by kernel_rfl) (by kernel_rfl) ?_
    simp only [List.take_succ_cons, List.take_zero, List.drop_succ_cons, List.drop_zero]
    change wpStill _ _ (World.drew _) _ _ _
    repeat still_step
    refine wpStill_nil ?_
    change wpList _ _ _ _ _ (World.drew _)
    go_wp2_with fail
    try simp only [Exit.inBlock, Exit.then]
    refine bodyPost_ret (results_box rfl _ _ w.heap.size 33 _ rfl (Box.new _ _ _).drew _ Tryz.underlying33 rfl fltSize) rfl ⟨rfl, ?_⟩
    exact (below_alloc (Below.refl _ _) (Nat.le_refl _) _).drew
  | cons t r =>
    obtain ⟨b, o, rfl, hb, q0, q1, q2, q3⟩ := h.first
    have hbl : b < w.heap.size := Nat.lt_trans hb hgl
    simp only [List.length_cons] at c0
    obtain ⟨n, hn⟩ : ∃ n, n = r.length + 1 := ⟨_, rfl⟩
    rw [← hn] at c0
    have hn0 : 0 < n := by omega
    have hnI : (0 : Int) < (n : Int) := by omega
    have hnz : ¬ (n : Int) = 0 := by omega
    have hnzn : ¬ n = 0 := by omega
    clear hn h
    go_enter Tryz.func19, Tryz.ntmps19
    go_wp2_with fail
    refine wp_region_still_tail 16 (by kernel_rfl) (by kernel_rfl) ?_
    simp only [List.take_succ_cons, List.take_zero, List.drop_succ_cons, List.drop_zero]
    change wpStill _ _ (World.drew _) _ _ _
    repeat still_step
    refine wpStill_nil ?_
    change wpList _ _ _ _ _ (World.drew _)
    go_wp2_with fail
    try simp only [Exit.inBlock, Exit.then]
    refine bodyPost_ret (results_box rfl _ _ w.heap.size 33 _ rfl (Box.new _ _ _).drew _ Tryz.underlying33 rfl fltSize) rfl ⟨rfl, ?_⟩
    exact (below_alloc (Below.refl _ _) (Nat.le_refl _) _).drew

set_option maxRecDepth 100000 in
set_option maxHeartbeats 4000000 in
theorem wrong_any (err : Int) (h : Wrong 66 w g E err R) :
    Calls Tryz.prog 18 #[.pointer (some ⟨g, 0, none⟩)] w (Told (hereV E err R) w) := by
  have hst := store_cx
  rcases h with ⟨rfl, h⟩ | ⟨h0, R', h⟩
  · obtain ⟨A, c, h⟩ := h
    have c4 : w.cell? ⟨g, 4, none⟩ = some (.int .i64 0) := h.box.cell 4
    have hgl := h.box.lt
    have HH := Lib.hid (here_any 3 _ (⟨A, c, h.alloc (.cells #[.int .i64 0, .int .i64 0, .complex .f64 0 0] 33)⟩ : RdrAt _ _ _ _ _ _))
    clear h
    generalize hereV E 3 R = F at HH ⊢
    obtain ⟨fe, ff, fr, fi⟩ := F
    go_enter Tryz.func18, Tryz.ntmps18
    go_wp2_with fail
    refine HH.out.mono ?_
    rintro e w1 ⟨rfl, hb⟩
    obtain ⟨hc, hf⟩ := cells_below hb
    have hB := (Box.new w 33 #[.int .i64 0, .int .i64 0, .complex .f64 0 0]).step hb
    have HB := Lib.hid hB
    have hz := hb.size
    simp only [World.size_alloc] at hz hc hf
    have hgl1 : w.heap.size < w1.heap.size := by omega
    have HN := Lib.hid ((below_alloc (Below.refl _ w) (Nat.le_refl _) (.cells #[.int .i64 0, .int .i64 0, .complex .f64 0 0] 33)).trans (hb.mono (by simp)))
    have q0 := hB.cell 0
    have q1 := hB.cell 1
    have q2 := hB.cell 2
    have z0 := hB.free 0
    have z1 := hB.free 1
    have z2 := hB.free 2
    simp only [List.getElem?_toArray, List.getElem?_cons_zero, List.getElem?_cons_succ] at q0 q1 q2
    clear hb hc hf hB HH
    unfold Flt.val
    dsimp only
    go_wp2_with fail
    try simp only [Exit.inBlock, Exit.then]
    refine bodyPost_ret (results_box rfl _ _ w.heap.size 33 _ rfl (box3_set HB.out) _ Tryz.underlying33 rfl fltSize) rfl ⟨rfl, ?_⟩
    exact below_set (Nat.le_refl _) (below_set (Nat.le_refl _) (below_set (Nat.le_refl _) HN.out))
  · have he : (hereV E err R).e = err := by cases R <;> rfl
    generalize hereV E err R = F at h he
    obtain ⟨fe, ff, fr, fi⟩ := F
    obtain rfl : fe = err := he
    obtain ⟨A, c, h⟩ := h
    have c4 : w.cell? ⟨g, 4, none⟩ = some (.int .i64 fe) := h.box.cell 4
    have c5 : w.cell? ⟨g, 5, none⟩ = some (.int .i64 ff) := h.box.cell 5
    have c6 : w.cell? ⟨g, 6, none⟩ = some (.complex .f64 fr fi) := h.box.cell 6
    have hgl := h.box.lt
    have h1 : (fe != 0) = true := by simp [h0]
    have h2 : (fe == 0) = false := by simp [h0]
    clear h h0
    go_enter Tryz.func18, Tryz.ntmps18
    go_wp2_with fail
    try simp only [Exit.inBlock, Exit.then]
    refine bodyPost_ret (results_box rfl _ _ w.heap.size 33 _ rfl (Box.new _ _ _) _ Tryz.underlying33 rfl fltSize) rfl ⟨rfl, ?_⟩
    exact below_alloc (Below.refl _ _) (Nat.le_refl _) _
end

end Go.Proofs.YtfklajkmikanbaaGreatDoor.LandedP

/- A row that grows while tokens are read; what slices of names and of expressions come back. No condition. -/
namespace Go.Proofs.YtfklajkmikanbaaGreatDoor.LandedP
open Go.RowKit

section
variable {w W W' : World} {g : Nat} {E : Env} {R : List Tk} {F : Flt} {e : TypeId} {size n : Nat} {v v' : Value} {xs : List Value}

/-- An append to a row of the call's own. -/
theorem row_push (hr : RdrAt 66 W g E R F) (hw : w.grownBy W (some g)) (hl : g < w.heap.size) (own : W.ownsRow w.heap.size e size v n xs) (o : Obj) (hg : (W.alloc o).grownBy W' v.ownBlock) :
    w.grownBy W' (some g) ∧ RdrAt 66 W' g E R F := by
  have hne : ∀ b, b < w.heap.size → v.ownBlock ≠ some b := fun b hb e => by have := (own.lt b e).1; omega
  have h1 := grow_alloc hw o
  refine ⟨⟨hg.os.trans h1.os, hg.tape.trans h1.tape, hg.output.trans h1.output, Nat.le_trans h1.size hg.size, fun b hb hn => (hg.block b (Nat.lt_of_lt_of_le hb h1.size) (fun e => hne b hb e.symm)).trans (h1.block b hb hn)⟩, ?_⟩
  obtain ⟨A, c, hr⟩ := hr.alloc o
  have hgl := hr.box.lt
  exact ⟨A, c, (hg.block g hgl (fun e => hne g hl e.symm)).trans hr.box, hr.lies.keep fun p hp => World.cell?_of_block (hg.block p.block (by omega) (fun e => hne p.block (by omega) e.symm)), hr.cap, hr.room, hr.ok,
    fun W2 hW2 => hr.laid W2 ((⟨hg.os, hg.tape, hg.output, hg.size, fun i hi => hg.block i (by omega) (fun e => hne i (by omega) e.symm)⟩ : Below g _ W').trans hW2)⟩

/-- Such a row behind a call of the reader's. -/
theorem own_ne' (h : W.ownsRow w.heap.size e size v n xs) (hg : W.grownBy W' (some g)) (hl : g < w.heap.size) : W'.ownsRow w.heap.size e size v n xs :=
  h.kept hg (.inr fun e => by have := (h.lt g e).1; omega)
theorem own_cap {A : Option Addr} {c : Nat} {B : Nat} (h : W.ownsRow B e size (.slice A n c) n xs) : c ≤ maxLen := by
  rcases h.2 with ⟨h0, _⟩ | ⟨_, _, _, h0, _, _, _, h1, _⟩
  · cases h0; decide
  · cases h0; exact h1

/-- New blocks, but the row's own. -/
def Out (B : Nat) (v : Value) (b : Nat) : Prop := B ≤ b ∧ v.ownBlock ≠ some b

/-- What lies outside the row lies outside the row behind an append. -/
theorem move_push {B : Nat} (o : Obj) (hg : (W.alloc o).grownBy W' v.ownBlock) (hat : v'.ownBlock = v.ownBlock ∨ v'.ownBlock = some (W.heap.size + 1)) : Move (Out B v) (Out B v') W W' :=
  ⟨Nat.le_trans (by simp) hg.size, fun b hb hp => ⟨⟨hp.1, fun e => by
    rcases hat with h | h
    · exact hp.2 (h ▸ e)
    · rw [h] at e
      have := Option.some.inj e
      omega⟩, (hg.block b (by simp; omega) (fun e => hp.2 e.symm)).trans (Below.heap_alloc W _ b hb)⟩⟩
end

/-! ### What comes back -/
def StrsNew (n : Nat) (W : World) (l : List ByteArray) (v : Value) : Prop := ∃ A c, v = .slice A l.length c ∧ SlP (fun b => n ≤ b) W 1 strCells StrIn A c l
def SlShape (v : Value) : Prop := ∃ A n c, v = .slice A n c
def ExsNew (n : Nat) (W : World) (l : List Ex) (v : Value) : Prop := ∃ A c l', l'.map Ex.bare = l ∧ v = .slice A l'.length c ∧ SlP (fun b => n ≤ b) W 5 Ex.cells (ExP (fun b => n ≤ b) W) A c l'
def lenS : Value → Nat
  | .slice _ n _ => n
  | _ => 0
theorem strs_flat (l : List ByteArray) : l.flatMap strCells = l.map Value.string := by
  induction l with
  | nil => rfl
  | cons a l ih => rw [List.flatMap_cons, ih]; rfl
theorem infoStr : (Tryz.prog.info? 9).map (fun i => (i.zero, i.size, i.bytes)) = some (some (.string ⟨#[]⟩), 1, 16) := by kernel_rfl

end Go.Proofs.YtfklajkmikanbaaGreatDoor.LandedP

/- The landed depths: the iterator that it hands back gives how deep each expression stands, in the order in which they are met. No condition but sizes. -/
namespace Go.Proofs.YtfklajkmikanbaaGreatDoor.LandedT
open Go.RowKit

attribute [local go_sem] Oper.semAt_some

theorem infoList : (Tryz.prog.info? 46).map (fun i => (i.zero, i.size, i.bytes)) = some (some (.slice none 0 0), 1, 24) := by kernel_rfl

/-- Where the iterator stands between two rounds. -/
def Goes (e : Ex) (B0 D : Nat) (w0 W : World) (J : List Nat → World → Prop) (v : Value) (n : Nat) (wr : World) : Prop :=
  ∃ (pre : List Nat) (st : List Hd), preD 1 e = pre ++ restD st ∧ wst st = n ∧ Room 1 D st ∧ (∀ h ∈ st, HdAt (fun b => b < B0 ∨ b = W.heap.size) w0 B0 wr h) ∧
    wr.ownsRow (W.heap.size + 1) 46 1 v st.length (rowOf st) ∧ J pre wr ∧ W.heap.size + 1 ≤ wr.heap.size ∧ Below B0 w0 wr

set_option maxRecDepth 100000 in
set_option maxHeartbeats 8000000 in
theorem iter_in (n : Nat) (hn : 1 ≤ n) (B0 Bx l : Nat) (e : Ex) (w0 W : World) (he : ExIn w0 B0 e) (hw : Below B0 w0 W) (hB : B0 ≤ W.heap.size) (hd : depthOf e ≤ 1000000) (J Jx : List Nat → World → Prop)
    (hJ : ∀ pre W1 W2, J pre W1 → W.heap.size ≤ W1.heap.size → Below W.heap.size W1 W2 → J pre W2)
    (hY : ∀ pre x W1, J pre W1 → W.heap.size ≤ W1.heap.size → (∃ r, preD 1 e = pre ++ x :: r) → YieldAt Fence.wide (n - 1) Tryz.prog l #[.int .i64 ((x : Nat) : Int)] W1 fun e W' =>
      (e = .returned (.bool true) ∧ J (pre ++ [x]) W' ∧ Spares B0 W.heap.size W1 W') ∨ (e = .returned (.bool false) ∧ Jx (pre ++ [x]) W'))
    (hbx : Box W Bx 48 e.cells.toArray) (hJ0 : J [] W) :
    CallsIn Fence.wide n Tryz.prog 89 #[.func (.yield l) #[] #[], .pointer (some ⟨Bx, 0, none⟩)] W fun e' W' =>
      (∃ v, e' = .returned v) ∧ (J (preD 1 e) W' ∨ ∃ pre, pre <+: preD 1 e ∧ Jx pre W') := by
  obtain ⟨i0, hi, hz0, hz1, hz2⟩ := info_parts infoList
  obtain ⟨D, hD⟩ : ∃ D, D = depthOf e := ⟨_, rfl⟩
  have HJ := Lib.hid hJ
  have HY := Lib.hid hY
  obtain ⟨mv, hmv⟩ := least_measure (fun n (p : Value × World) => Goes e B0 D w0 W J p.1 n p.2)
  have HM := Lib.hid hmv
  have HA : Hid (Goes e B0 D w0 W J (.slice (some ⟨W.heap.size + 1, 0, none⟩) 1 1) (wst [⟨some ⟨W.heap.size, 0, none⟩, 1, [e]⟩]) ((W.alloc (.cells e.cells.toArray 48)).alloc (.cells #[.slice (some ⟨W.heap.size, 0, none⟩) 1 1] 46))) := by
    obtain ⟨x0, x1⟩ := two_boxes W e.cells.toArray #[.slice (some ⟨W.heap.size, 0, none⟩) 1 1] 48 46
    have hbe := two_below W (.cells e.cells.toArray 48) (.cells #[.slice (some ⟨W.heap.size, 0, none⟩) 1 1] 46)
    refine ⟨[], _, ?_, rfl, ⟨?_, trivial⟩, fun h hh => ?_, row_start x1 (Nat.le_refl _), hJ _ _ _ hJ0 (Nat.le_refl _) hbe, by simp, hw.trans (hbe.mono hB)⟩
    · show preD 1 e = [] ++ (presD 1 [e] ++ [])
      rw [pre_one, List.append_nil, List.nil_append]
    · show 0 + 1 * depthsOf 0 [e] ≤ 1 * D
      rw [depths_one, hD]
      omega
    · have : h = ⟨some ⟨W.heap.size, 0, none⟩, 1, [e]⟩ := by simpa using hh
      rw [this]
      exact hd_start he (.inr rfl) x0
  obtain ⟨kd, op, nm, nu, A, c, ks⟩ := e
  obtain ⟨q0, q1, q2, q3, q4, q5⟩ := box_ex (show Box W Bx 48 #[.int .i64 kd, .string op, .string nm, .int .u64 nu, .slice A ks.length c] from hbx)
  have HD : Hid (D ≤ 1000000) := by rw [hD]; exact hd
  clear hJ hY hbx hJ0 hmv hD hd
  refine callsIn_of_wp Tryz.func89 rfl trivial ?_ rfl
  simp only [Tryz.ntmps89, List.size_toArray, List.length_cons, List.length_nil, Nat.reduceAdd, Nat.reduceSub, Array.replicate_succ, Array.replicate_zero, List.push_toArray, List.append_toArray, List.nil_append, List.cons_append]
  gi_wp2
  gi_loopw [3] (fun v wr => ∃ n, Goes (.node kd op nm nu A c ks) B0 D w0 W J v n wr) (fun v wr => mv (v, wr))
  case atStart => exact ⟨_, HA.out⟩
  case round =>
    clear HA q0 q1 q2 q3 q4 q5 he hw
    obtain ⟨n1, hr⟩ := hrel
    obtain ⟨⟨pre, st, hpre, hwst, hroom, hall, hown, hj, hsz, hbw⟩, _⟩ := HM.out (_, wr) n1 hr
    clear hr
    simp only at hwst hall hown hj hsz hbw
    rcases st with _ | ⟨⟨A1, c1, l1⟩, rs⟩
    · have hpre' : preD 1 (.node kd op nm nu A c ks) = pre := by rw [hpre]; unfold restD; rw [List.append_nil]
      obtain ⟨A3, c3, rfl, _, _⟩ := own_form hown
      have HP := Lib.hid hpre'
      clear hpre hpre' hwst hroom hall hown
      gi_wp2
      go_end0
      exact ⟨⟨_, rfl⟩, .inl (by rw [HP.out]; exact hj)⟩
    · obtain ⟨N, hN⟩ : ∃ N, N = rs.length + 1 := ⟨_, rfl⟩
      obtain ⟨K, hK⟩ : ∃ K, K = rs.length := ⟨_, rfl⟩
      have hNK : N = K + 1 := by omega
      have hlen : ((⟨A1, c1, l1⟩ : Hd) :: rs).length = N := by rw [hN]; rfl
      rw [hlen] at hown
      have hro := room_len hroom
      rw [hlen] at hro
      obtain ⟨g, cap, rfl⟩ : ∃ g cap, u3 = .slice (some ⟨g, 0, none⟩) N cap := by rw [hNK] at hown ⊢; exact ownsRow_succ hown
      obtain ⟨cur, hbx, hgB, hncap, hcapm, _, _⟩ := own_box hown
      obtain ⟨cc, cf, cl⟩ := own_cell hown (by rw [hN] at hlen; exact row_top (⟨A1, c1, l1⟩ : Hd) rs)
      rw [← hK] at cc cf
      unfold Hd.val at cc
      simp only at cc
      have hN1 : N ≤ 1000001 := by have := HD.out; omega
      have HN1 := Lib.hid hN1
      have m1 : IntKind.i64.wrap ((N : Int) - 1) = (K : Int) := by rw [IntWalk.i64_in _ (by omega)]; omega
      have m2 : (0 : Int) < (N : Int) := by omega
      have m3 : (K : Int) < (N : Int) := by omega
      have m4 : (0 : Int) ≤ (K : Int) := by omega
      have m5 : (K : Int) ≤ (cap : Int) := by omega
      have HNK : Hid (N = rs.length + 1 ∧ K = rs.length) := ⟨hN, hK⟩
      have HC := Lib.hid hcapm
      have HPRE := Lib.hid hpre
      have HWST := Lib.hid hwst
      have HROOM := Lib.hid hroom
      have HALL := Lib.hid hall
      have HOWN := Lib.hid hown
      have HG := Lib.hid hgB
      rcases l1 with _ | ⟨⟨kx, ox, nx, ux, Ax, cx, lx⟩, r⟩
      · have hN1' := HNK.out.1
        rw [hN1', row_cons] at hown
        obtain ⟨g', cap', hge, hpop⟩ := own_pop (by rw [row_len, Nat.mul_one]) hown
        cases hge
        have HPOP := Lib.hid hpop
        clear hN hK hNK hlen hro hbx hpre hwst hroom hall hown hN1 hncap hcapm hgB HC hN1' hpop
        gi_wp2
        have hfin : Goes (.node kd op nm nu A c ks) B0 D w0 W J (.slice (some ⟨g, 0, none⟩) K cap) (wst rs) wr :=
          ⟨pre, rs, by rw [HPRE.out]; rfl, rfl, HROOM.out.2, fun h hh => HALL.out h (List.mem_cons_of_mem _ hh), by have := HPOP.out; rw [HNK.out.2]; exact this, hj, hsz, hbw⟩
        go_roundw
        case rel => exact ⟨_, hfin⟩
        case measure =>
          refine Nat.lt_of_le_of_lt (HM.out (_, wr) _ hfin).2 ?_
          rw [← HWST.out, wst_cons]
          omega
      · obtain ⟨fn, tmps, assign, body, hy, hR⟩ := HY.out pre N wr hj (by omega) ⟨presD (rs.length + 2) lx ++ (presD (rs.length + 1) r ++ restD rs), by rw [hpre, rest_cons, hN]⟩
        have HR := Lib.hid hR
        have len1 : (((r.length + 1 : Nat) : Int) == 0) = false := by rw [beq_eq_false_iff_ne]; omega
        rw [List.length_cons] at cc
        clear hN hK hNK hlen hro hbx hpre hwst hroom hall hown hN1 hncap hcapm hgB hR hj
        gi_wp2
        refine HR.out.mono ?_
        rintro e' W3 (⟨rfl, hJ3, hsp⟩ | ⟨rfl, hJx3⟩)
        · have hown3 := own_same HOWN.out (hsp.block g cl (.inr (by have := HG.out; omega)))
          have hall3 : ∀ h ∈ (⟨A1, c1, .node kx ox nx ux Ax cx lx :: r⟩ : Hd) :: rs, HdAt (fun b => b < B0 ∨ b = W.heap.size) w0 B0 W3 h := fun h hh => (HALL.out h hh).keep fun b hT => by
            rcases hT with hT | hT
            · exact hsp.block b (by omega) (.inl hT)
            · exact hsp.block b (by omega) (.inr (by omega))
          have htop := hall3 _ (List.mem_cons_self ..)
          obtain ⟨b1, o1, hA1, hT1, hat, hkin⟩ := htop.at (k := 0) rfl
          subst hA1
          have htl := htop.tail
          have hcl := htop.len
          rw [Nat.zero_mul, Nat.add_zero] at hat
          obtain ⟨_, _, _, _, e4⟩ := hat
          obtain ⟨d0, d1, d2⟩ := own_cell hown3 (k := K) (by rw [HNK.out.2]; exact row_top _ rs)
          unfold Hd.val at d0
          simp only [List.length_cons] at d0 hcl
          have hc1 : (r.length : Int) + 1 ≤ (c1 : Int) := by omega
          have hc2 : (1 : Int) ≤ (r.length : Int) + 1 := by omega
          clear cc cf cl len1
          have hsz3 : W.heap.size + 1 ≤ W3.heap.size := Nat.le_trans hsz hsp.size
          have hbw3 : Below B0 w0 W3 := hbw.trans (hsp.belowOf (by omega))
          by_cases h1 : c1 = 1
          · subst h1
            obtain rfl : r = [] := by
              cases r with
              | nil => rfl
              | cons y r => simp only [List.length_cons] at hcl; omega
            simp only [List.length_nil, Nat.zero_add] at d0
            clear hc1 hc2
            have hth : HdAt (fun b => b < B0 ∨ b = W.heap.size) w0 B0 W3 ⟨some ⟨b1, o1, none⟩, 0, []⟩ := ⟨Nat.le_refl _, Nat.zero_le _, fun hp => absurd hp (Nat.lt_irrefl _), htl.kids⟩
            have hown4 := own_put hown3 K (Hd.val ⟨some ⟨b1, o1, none⟩, 0, []⟩)
            rw [HNK.out.2, row_set] at hown4
            unfold Hd.val at hown4
            simp only [List.length_nil] at hown4
            rw [← HNK.out.2] at hown4
            have HOWN4 := Lib.hid hown4
            have HTH := Lib.hid hth
            clear htl hth hown3 hown4
            have hN2 : N ≤ 1000001 := HN1.out
            gi_wp2_with (gi_at_builtin; refine wpListIn_append_own _ rfl _ _ 155 rfl (W.heap.size + 1) 46 i0 (.slice none 0 0) 1 24 Tryz.underlying155 hi hz0 hz1 hz2 rfl (by decide) _ N _ rfl (HOWN4.out.alloc _) ⟨W3.heap.size, 0, none⟩ 1 1 [.slice Ax lx.length cx] rfl rfl (by have h := cell_one_new (W3.setCell ⟨g, K, none⟩ (.slice (some ⟨b1, o1, none⟩) 0 0)) (.slice Ax lx.length cx) 46; simp only [World.size_setCell] at h; exact h) (by simp [Value.oneCell']) (by unfold maxLen; omega) (by omega) (by simp; omega) ?_; intro v1 w1 hown1 hgrow1 _)
            have hst : Below (W.heap.size + 1) W3 w1 := below_grown (((Below.refl _ W3).setCell HG.out _).alloc (by simp; omega) _) (HOWN4.out.alloc _) (Nat.le_refl _) (by simp; omega) hgrow1
            have hfin : Goes (.node kd op nm nu A c ks) B0 D w0 W J v1 (wst (⟨Ax, cx, lx⟩ :: ⟨some ⟨b1, o1, none⟩, 0, []⟩ :: rs)) w1 := by
              have hr0 := HROOM.out
              have hdp := depths_head kx ux ox nx Ax cx lx []
              refine ⟨pre ++ [N], ⟨Ax, cx, lx⟩ :: ⟨some ⟨b1, o1, none⟩, 0, []⟩ :: rs, ?_, rfl, ⟨?_, ?_, hr0.2⟩, ?_, ?_, HJ.out _ _ _ hJ3 (by omega) (hst.mono (by omega)), by have := hst.size; omega, hbw3.trans (hst.mono (by omega))⟩
              · rw [HPRE.out, rest_cons, HNK.out.1, List.append_assoc]
                rfl
              · have := hr0.1
                simp only [List.length_cons] at this ⊢
                omega
              · have := hr0.1
                simp only at this ⊢
                omega
              · intro h hh
                rcases List.mem_cons.1 hh with rfl | hh
                · exact .of_kids hkin.kids (hbw3.trans (hst.mono (by omega))) (fun b hb => .inl hb)
                · refine HdAt.keep (w := W3) ?_ (fun b hT => hst.block b (by omega))
                  rcases List.mem_cons.1 hh with rfl | hh
                  · exact HTH.out
                  · exact hall3 h (List.mem_cons_of_mem _ hh)
              · rw [row_cons]
                have := hown1
                rw [HNK.out.1] at this
                exact this
            go_roundw
            case rel => exact ⟨_, hfin⟩
            case measure =>
              refine Nat.lt_of_le_of_lt (HM.out (_, w1) _ hfin).2 ?_
              rw [← HWST.out]
              simp only [wst_cons, weighs_cons, weigh_node]
              omega
          · have HH1 := Lib.hid h1
            have hth : HdAt (fun b => b < B0 ∨ b = W.heap.size) w0 B0 W3 ⟨some ⟨b1, o1 + 5, none⟩, c1 - 1, r⟩ := htl
            have hown4 := own_put hown3 K (Hd.val ⟨some ⟨b1, o1 + 5, none⟩, c1 - 1, r⟩)
            rw [HNK.out.2, row_set] at hown4
            unfold Hd.val at hown4
            simp only at hown4
            rw [← HNK.out.2] at hown4
            have HOWN4 := Lib.hid hown4
            have HTH := Lib.hid hth
            clear htl hth hown3 hown4
            have hN2 : N ≤ 1000001 := HN1.out
            gi_wp2_with (gi_at_builtin; refine wpListIn_append_own _ rfl _ _ 155 rfl (W.heap.size + 1) 46 i0 (.slice none 0 0) 1 24 Tryz.underlying155 hi hz0 hz1 hz2 rfl (by decide) _ N _ rfl (HOWN4.out.alloc _) ⟨W3.heap.size, 0, none⟩ 1 1 [.slice Ax lx.length cx] rfl rfl (by have h := cell_one_new (W3.setCell ⟨g, K, none⟩ (.slice (some ⟨b1, o1 + 5, none⟩) r.length (c1 - 1))) (.slice Ax lx.length cx) 46; simp only [World.size_setCell] at h; exact h) (by simp [Value.oneCell']) (by unfold maxLen; omega) (by omega) (by simp; omega) ?_; intro v1 w1 hown1 hgrow1 _)
            have hst : Below (W.heap.size + 1) W3 w1 := below_grown (((Below.refl _ W3).setCell HG.out _).alloc (by simp; omega) _) (HOWN4.out.alloc _) (Nat.le_refl _) (by simp; omega) hgrow1
            have hfin : Goes (.node kd op nm nu A c ks) B0 D w0 W J v1 (wst (⟨Ax, cx, lx⟩ :: ⟨some ⟨b1, o1 + 5, none⟩, c1 - 1, r⟩ :: rs)) w1 := by
              have hr0 := HROOM.out
              have hdp := depths_head kx ux ox nx Ax cx lx r
              refine ⟨pre ++ [N], ⟨Ax, cx, lx⟩ :: ⟨some ⟨b1, o1 + 5, none⟩, c1 - 1, r⟩ :: rs, ?_, rfl, ⟨?_, ?_, hr0.2⟩, ?_, ?_, HJ.out _ _ _ hJ3 (by omega) (hst.mono (by omega)), by have := hst.size; omega, hbw3.trans (hst.mono (by omega))⟩
              · rw [HPRE.out, rest_cons, HNK.out.1, List.append_assoc]
                rfl
              · have := hr0.1
                simp only [List.length_cons] at this ⊢
                omega
              · have := hr0.1
                simp only at this ⊢
                omega
              · intro h hh
                rcases List.mem_cons.1 hh with rfl | hh
                · exact .of_kids hkin.kids (hbw3.trans (hst.mono (by omega))) (fun b hb => .inl hb)
                · refine HdAt.keep (w := W3) ?_ (fun b hT => hst.block b (by omega))
                  rcases List.mem_cons.1 hh with rfl | hh
                  · exact HTH.out
                  · exact hall3 h (List.mem_cons_of_mem _ hh)
              · rw [row_cons]
                have := hown1
                rw [HNK.out.1] at this
                exact this
            go_roundw
            case rel => exact ⟨_, hfin⟩
            case measure =>
              refine Nat.lt_of_le_of_lt (HM.out (_, w1) _ hfin).2 ?_
              rw [← HWST.out]
              simp only [wst_cons, weighs_cons, weigh_node]
              omega
        · gi_wp2
          refine bodyPost_ret (results_none rfl _ _ _) rfl ?_
          exact ⟨⟨_, rfl⟩, .inr ⟨pre ++ [N], ⟨_, by rw [HPRE.out, rest_cons, HNK.out.1, List.append_assoc]; rfl⟩, hJx3⟩⟩

/-- The iterator's contract. -/
theorem depths_give (n : Nat) (hn : 1 ≤ n) (B0 Bx : Nat) (e : Ex) (w0 w : World) (he : ExIn w0 B0 e) (hw : Below B0 w0 w) (hB : B0 ≤ w.heap.size) (hd : depthOf e ≤ 1000000) (hbx : Box w Bx 48 e.cells.toArray) :
    SeqFree Fence.wide n Tryz.prog 89 #[.pointer (some ⟨Bx, 0, none⟩)] (fun x : Nat => #[.int .i64 (x : Int)]) B0 (preD 1 e) w :=
  fun l J Jx W hW hJ hY hJ0 => iter_in n hn B0 Bx l e w0 W he (hw.trans (hW.mono hB)) (Nat.le_trans hB hW.size) hd J Jx hJ hY (hbx.below hW hbx.lt) hJ0

theorem depths_any (e : Ex) (w : World) : Calls Tryz.prog 71 #[e.val] w fun r w' => r = .returned (.func (.func 89) #[] #[.pointer (some ⟨w.heap.size, 0, none⟩)]) ∧ w' = w.alloc (.cells e.cells.toArray 48) := by
  obtain ⟨kd, op, nm, nu, A, c, ks⟩ := e
  unfold Ex.val Ex.cells
  simp only
  go_enter Tryz.func71, Tryz.ntmps71
  go_wp2
  go_ret
  exact ⟨rfl, rfl⟩

end Go.Proofs.YtfklajkmikanbaaGreatDoor.LandedT
