/- What the landed sameRule, samePart, samePolicy, sameDefine and Same give. No condition but sizes. -/
import Derived.Test.YtogpicfofifbkaaGreatDoorTreeSmE
import Derived.Test.YtogpicfofifbkaaGreatDoorPart12
import Derived.Test.YtogpicfofifbkaaGreatDoorPart13
namespace Go.Proofs.YtogpicfofifbkaaGreatDoor.LandedT
open Go.RowKit

theorem depths_le (n : Nat) : ∀ l : List Ex, (∀ k ∈ l, depthOf k ≤ n) → depthsOf 0 l ≤ n
  | [], _ => by unfold depthsOf; omega
  | k :: r, h => by
    have e : depthsOf 0 (k :: r) = depthsOf (if 0 < depthOf k then depthOf k else 0) r := by conv => lhs; unfold depthsOf
    have h2 := depths_max r (if 0 < depthOf k then depthOf k else 0)
    have h3 := depths_le n r (fun x hx => h x (List.mem_cons_of_mem _ hx))
    have h4 := h k (List.mem_cons_self ..)
    rw [e, h2]
    split <;> omega

section
variable {w : World}
theorem later_two (a b : Array Value) (t : TypeId) : Box ((w.alloc (.cells a t)).alloc (.cells b t)) w.heap.size t a ∧ Box ((w.alloc (.cells a t)).alloc (.cells b t)) (w.heap.size + 1) t b := two_boxes w a b t t
theorem list_in {W : World} {A : Option Addr} {c : Nat} {l : List Ex} (h : SlIn w w.heap.size 5 Ex.cells (ExIn w w.heap.size) A c l) (hn : l.length ≤ 1048576) (hs : ∀ x ∈ l, ExSmall x) (hW : Below w.heap.size w W) : ListIn W ⟨A, c, l⟩ := ⟨h.nextE hW, hn, hs⟩
/-- An expression that has just been laid in a block of its own. -/
theorem list_one {W : World} {g : Nat} {t : TypeId} {e : Ex} (hb : Box W g t e.cells.toArray) (he : ExIn W W.heap.size e) (hs : ExSmall e) : ListIn W ⟨some ⟨g, 0, none⟩, 1, [e]⟩ := by
  refine ⟨⟨⟨by simp [Ex.cells_len], fun _ => ⟨g, 0, rfl, hb.lt, fun j u hu => ?_⟩⟩, fun x hx => ?_, Nat.le_refl _, by show 1 ≤ maxLen; decide⟩, by simp, fun x hx => ?_⟩
  · rw [hb.cell (0 + j), Nat.zero_add]
    have : [e].flatMap Ex.cells = e.cells := by simp
    rw [this] at hu
    simpa using hu
  · have : x = e := by simpa using hx
    rw [this]; exact he
  · have : x = e := by simpa using hx
    rw [this]; exact hs
end

set_option maxRecDepth 100000 in
set_option maxHeartbeats 2000000 in
theorem sameRule_any (a b : Rul) (w : World) (ha : RulIn w w.heap.size a) (hb : RulIn w w.heap.size b) (sa : RulSmall a) (sb : RulSmall b) : Calls Tryz.prog 85 #[a.val, b.val] w (Quietly (.bool (sameRul a b)) w) := by
  have HP := Lib.hid (fun W (hW : Below w.heap.size w W) => eqStr a.pA b.pA a.pc b.pc a.params b.params W (ha.params.nextS hW) (hb.params.nextS hW) (Nat.le_trans sa.nparams (by decide)))
  have HC := Lib.hid (fun W (hW : Below w.heap.size w W) => sameExprs_any ⟨a.cA, a.cc, a.cond⟩ ⟨b.cA, b.cc, b.cond⟩ W (list_in ha.cond sa.ncond (fun x hx => (sa.cond x hx).1) hW) (list_in hb.cond sb.ncond (fun x hx => (sb.cond x hx).1) hW) (depths_le 1000 _ fun x hx => (sa.cond x hx).2))
  obtain ⟨x0, y0⟩ := later_two (w := w) #[.string a.call, .slice a.pA a.params.length a.pc, .slice a.cA a.cond.length a.cc] #[.string b.call, .slice b.pA b.params.length b.pc, .slice b.cA b.cond.length b.cc] 50
  have HX := Lib.hid x0
  have HY := Lib.hid y0
  unfold sameRul sameStr
  obtain ⟨P, hP⟩ : ∃ P, P = alikes sameStr a.params b.params := ⟨_, rfl⟩
  obtain ⟨Q, hQ⟩ : ∃ Q, Q = alikes sameEx a.cond b.cond := ⟨_, rfl⟩
  have e1 : alikes (fun a b : ByteArray => a.toList == b.toList) a.params b.params = P := by rw [hP]; rfl
  rw [← hP] at HP
  rw [← hQ] at HC
  try rw [e1]
  rw [← hQ]
  clear hP hQ ha hb sa sb x0 y0 e1
  unfold Rul.val
  unfold Hd.val at HC
  simp only at HC
  cases h1 : (a.call.toList == b.call.toList)
  ·
    go_enter Tryz.func85, Tryz.ntmps85
    go_wp2
    go_ret
    exact ⟨by simp, two_below w _ _⟩
  cases P
  ·
    go_enter Tryz.func85, Tryz.ntmps85
    go_wp2_with fail
    refine (HP.out _ (two_below _ _ _)).mono ?_
    rintro r w1 ⟨rfl, hb1⟩
    have hbw := below_step (two_below w _ _) (Nat.le_refl _) hb1
    have hx1 := HX.out.step hb1
    have hy1 := HY.out.step hb1
    have e0 := box_after hx1 0 _ rfl
    have f0 := box_after hy1 0 _ rfl
    have e1 := box_after hx1 1 _ rfl
    have f1 := box_after hy1 1 _ rfl
    have e2 := box_after hx1 2 _ rfl
    have f2 := box_after hy1 2 _ rfl
    have s1 : Below w1.heap.size w1 w1 := Below.refl _ _
    clear hb1 hx1 hy1
    go_wp2
    go_ret
    exact ⟨by simp, below_step hbw (Nat.le_refl _) s1⟩
  ·
    go_enter Tryz.func85, Tryz.ntmps85
    go_wp2_with fail
    refine (HP.out _ (two_below _ _ _)).mono ?_
    rintro r w1 ⟨rfl, hb1⟩
    have hbw := below_step (two_below w _ _) (Nat.le_refl _) hb1
    have hx1 := HX.out.step hb1
    have hy1 := HY.out.step hb1
    have e0 := box_after hx1 0 _ rfl
    have f0 := box_after hy1 0 _ rfl
    have e1 := box_after hx1 1 _ rfl
    have f1 := box_after hy1 1 _ rfl
    have e2 := box_after hx1 2 _ rfl
    have f2 := box_after hy1 2 _ rfl
    have s1 : Below w1.heap.size w1 w1 := Below.refl _ _
    clear hb1 hx1 hy1
    go_wp2_with fail
    refine (HC.out _ (below_step hbw (Nat.le_refl _) s1)).mono ?_
    rintro r w2 ⟨rfl, hb2⟩
    have s2 : Below w1.heap.size w1 w2 := below_step s1 (Nat.le_refl _) hb2
    clear hb2 s1
    go_wp2
    go_ret
    exact ⟨by simp, below_step hbw (Nat.le_refl _) s2⟩

set_option maxRecDepth 100000 in
set_option maxHeartbeats 2000000 in
theorem samePart_any (a b : Par) (w : World) (ha : ParIn w w.heap.size a) (hb : ParIn w w.heap.size b) (sa : ParSmall a) (sb : ParSmall b) : Calls Tryz.prog 69 #[a.val, b.val] w (Quietly (.bool (samePar a b)) w) := by
  have HC := Lib.hid (fun W (hW : Below w.heap.size w W) => eqfRul sameRul a.rules b.rules a.rA b.rA a.rc b.rc W ((ha.rules.mono hW fun _ _ h => h.below hW).wide hW.size fun _ _ h => h.wider hW.size) ((hb.rules.mono hW fun _ _ h => h.below hW).wide hW.size fun _ _ h => h.wider hW.size) sa.nrules
    fun x hx y hy W' hW' => sameRule_any x y W' ((ha.rules.all x hx).next (below_step hW (Nat.le_refl _) hW')) ((hb.rules.all y hy).next (below_step hW (Nat.le_refl _) hW')) (sa.rules x hx) (sb.rules y hy))
  obtain ⟨x0, y0⟩ := later_two (w := w) #[.string a.use, .int .i64 a.kind, .int .i64 a.data, .slice a.rA a.rules.length a.rc] #[.string b.use, .int .i64 b.kind, .int .i64 b.data, .slice b.rA b.rules.length b.rc] 48
  have HX := Lib.hid x0
  have HY := Lib.hid y0
  unfold samePar sameStr
  obtain ⟨Q, hQ⟩ : ∃ Q, Q = alikes sameRul a.rules b.rules := ⟨_, rfl⟩
  rw [← hQ] at HC ⊢
  clear hQ ha hb sa sb x0 y0
  unfold Par.val
  cases h1 : (a.use.toList == b.use.toList)
  ·
    go_enter Tryz.func69, Tryz.ntmps69
    go_wp2
    go_ret
    exact ⟨by simp, two_below w _ _⟩
  cases h2 : (a.kind == b.kind)
  ·
    go_enter Tryz.func69, Tryz.ntmps69
    go_wp2
    go_ret
    exact ⟨by simp, two_below w _ _⟩
  cases h3 : (a.data == b.data)
  ·
    go_enter Tryz.func69, Tryz.ntmps69
    go_wp2
    go_ret
    exact ⟨by simp, two_below w _ _⟩
  ·
    go_enter Tryz.func69, Tryz.ntmps69
    go_wp2_with fail
    refine (HC.out _ (two_below _ _ _)).mono ?_
    rintro r w1 ⟨rfl, hb1⟩
    have hbw := below_step (two_below w _ _) (Nat.le_refl _) hb1
    have hx1 := HX.out.step hb1
    have hy1 := HY.out.step hb1
    have e0 := box_after hx1 0 _ rfl
    have f0 := box_after hy1 0 _ rfl
    have e1 := box_after hx1 1 _ rfl
    have f1 := box_after hy1 1 _ rfl
    have e2 := box_after hx1 2 _ rfl
    have f2 := box_after hy1 2 _ rfl
    have e3 := box_after hx1 3 _ rfl
    have f3 := box_after hy1 3 _ rfl
    have s1 : Below w1.heap.size w1 w1 := Below.refl _ _
    clear hb1 hx1 hy1
    go_wp2
    go_ret
    exact ⟨by simp, below_step hbw (Nat.le_refl _) s1⟩

set_option maxRecDepth 100000 in
set_option maxHeartbeats 2000000 in
theorem samePolicy_any (a b : Pol) (w : World) (ha : PolIn w w.heap.size a) (hb : PolIn w w.heap.size b) (sa : PolSmall a) (sb : PolSmall b) : Calls Tryz.prog 44 #[a.val, b.val] w (Quietly (.bool (samePol a b)) w) := by
  have HC := Lib.hid (fun W (hW : Below w.heap.size w W) => eqfPar samePar a.parts b.parts a.A b.A a.c b.c W ((ha.parts.mono hW fun _ _ h => h.below hW).wide hW.size fun _ _ h => h.wider hW.size) ((hb.parts.mono hW fun _ _ h => h.below hW).wide hW.size fun _ _ h => h.wider hW.size) sa.nparts
    fun x hx y hy W' hW' => samePart_any x y W' ((ha.parts.all x hx).next (below_step hW (Nat.le_refl _) hW')) ((hb.parts.all y hy).next (below_step hW (Nat.le_refl _) hW')) (sa.parts x hx) (sb.parts y hy))
  obtain ⟨x0, y0⟩ := later_two (w := w) #[.string a.name, .slice a.A a.parts.length a.c] #[.string b.name, .slice b.A b.parts.length b.c] 45
  have HX := Lib.hid x0
  have HY := Lib.hid y0
  unfold samePol sameStr
  obtain ⟨Q, hQ⟩ : ∃ Q, Q = alikes samePar a.parts b.parts := ⟨_, rfl⟩
  rw [← hQ] at HC ⊢
  clear hQ ha hb sa sb x0 y0
  unfold Pol.val
  cases h1 : (a.name.toList == b.name.toList)
  ·
    go_enter Tryz.func44, Tryz.ntmps44
    go_wp2
    go_ret
    exact ⟨by simp, two_below w _ _⟩
  ·
    go_enter Tryz.func44, Tryz.ntmps44
    go_wp2_with fail
    refine (HC.out _ (two_below _ _ _)).mono ?_
    rintro r w1 ⟨rfl, hb1⟩
    have hbw := below_step (two_below w _ _) (Nat.le_refl _) hb1
    have hx1 := HX.out.step hb1
    have hy1 := HY.out.step hb1
    have e0 := box_after hx1 0 _ rfl
    have f0 := box_after hy1 0 _ rfl
    have e1 := box_after hx1 1 _ rfl
    have f1 := box_after hy1 1 _ rfl
    have s1 : Below w1.heap.size w1 w1 := Below.refl _ _
    clear hb1 hx1 hy1
    go_wp2
    go_ret
    exact ⟨by simp, below_step hbw (Nat.le_refl _) s1⟩

set_option maxRecDepth 100000 in
set_option maxHeartbeats 2000000 in
theorem sameDefine_any (a b : Dfn) (w : World) (ha : DfnIn w w.heap.size a) (hb : DfnIn w w.heap.size b) (sa : DfnSmall a) (sb : DfnSmall b) : Calls Tryz.prog 42 #[Dfn.val a, Dfn.val b] w (Quietly (.bool (sameDfn a b)) w) := by
  have HC : Hid (∀ (W : World) (g g' : Nat) (t : TypeId), Below w.heap.size w W → Box W g t a.ex.cells.toArray → Box W g' t b.ex.cells.toArray → Calls Tryz.prog 67 #[.slice (some ⟨g, 0, none⟩) 1 1, .slice (some ⟨g', 0, none⟩) 1 1] W (Quietly (.bool (sameEx a.ex b.ex)) W)) := by
    intro W g g' t hW h1 h2
    have h := sameExprs_any ⟨some ⟨g, 0, none⟩, 1, [a.ex]⟩ ⟨some ⟨g', 0, none⟩, 1, [b.ex]⟩ W (list_one h1 (ha.ex.next hW) sa.ex) (list_one h2 (hb.ex.next hW) sb.ex) (by show depthsOf 0 [a.ex] ≤ 1000; rw [depths_one]; exact sa.deep)
    have e : alikes sameEx [a.ex] [b.ex] = sameEx a.ex b.ex := by
      show (sameEx a.ex b.ex && true) = _
      rw [Bool.and_true]
    rw [← e]
    exact h
  unfold sameDfn sameStr
  obtain ⟨Q, hQ⟩ : ∃ Q, Q = sameEx a.ex b.ex := ⟨_, rfl⟩
  rw [← hQ] at HC ⊢
  clear hQ ha hb sa sb
  obtain ⟨na, ka, oa, ma, ua, Aa, ca, la⟩ := a
  obtain ⟨nb, kb, ob, mb, ub, Ab, cb, lb⟩ := b
  unfold Ex.cells at HC
  simp only at HC
  obtain ⟨x0, y0⟩ := later_two (w := w) #[.string na, .int .i64 ka, .string oa, .string ma, .int .u64 ua, .slice Aa la.length ca] #[.string nb, .int .i64 kb, .string ob, .string mb, .int .u64 ub, .slice Ab lb.length cb] 42
  have HX := Lib.hid x0
  have HY := Lib.hid y0
  clear x0 y0
  unfold Dfn.val
  simp only
  cases h1 : (na.toList == nb.toList)
  ·
    go_enter Tryz.func42, Tryz.ntmps42
    go_wp2
    go_ret
    exact ⟨by simp, two_below w _ _⟩
  · have HE : Hid (∀ X : World, w.heap.size + 2 = X.heap.size → Below w.heap.size w X → Calls Tryz.prog 67 #[.slice (some ⟨w.heap.size + 1 + 1, 0, none⟩) 1 1, .slice (some ⟨w.heap.size + 1 + 1 + 1, 0, none⟩) 1 1]
        ((X.alloc (.cells #[.int .i64 ka, .string oa, .string ma, .int .u64 ua, .slice Aa la.length ca] 25)).alloc (.cells #[.int .i64 kb, .string ob, .string mb, .int .u64 ub, .slice Ab lb.length cb] 25))
        (Quietly (.bool Q) ((X.alloc (.cells #[.int .i64 ka, .string oa, .string ma, .int .u64 ua, .slice Aa la.length ca] 25)).alloc (.cells #[.int .i64 kb, .string ob, .string mb, .int .u64 ub, .slice Ab lb.length cb] 25)))) := by
      intro X hX hW
      obtain ⟨z0, z1⟩ := later_two (w := X) #[.int .i64 ka, .string oa, .string ma, .int .u64 ua, .slice Aa la.length ca] #[.int .i64 kb, .string ob, .string mb, .int .u64 ub, .slice Ab lb.length cb] 25
      rw [← hX] at z0 z1
      exact HC.out _ _ _ _ (below_step hW (Nat.le_refl _) (two_below X _ _)) z0 z1
    go_enter Tryz.func42, Tryz.ntmps42
    go_wp2_with fail
    refine (HE.out _ (by simp) (two_below w _ _)).mono ?_
    rintro r w1 ⟨rfl, hb1⟩
    go_wp2
    go_ret
    exact ⟨by simp, below_step (below_step (two_below w _ _) (Nat.le_refl _) (two_below _ _ _)) (Nat.le_refl _) hb1⟩

set_option maxRecDepth 100000 in
set_option maxHeartbeats 4000000 in
theorem sameUnit_any (a b : Unt) (w : World) (ha : UntIn w w.heap.size a) (hb : UntIn w w.heap.size b) (sa : UntSmall a) (sb : UntSmall b) : Calls Tryz.prog 17 #[a.val, b.val] w (Quietly (.bool (sameUnt a b)) w) := by
  have HD := Lib.hid (fun W (hW : Below w.heap.size w W) => eqfDfn sameDfn a.defs b.defs a.dA b.dA a.dc b.dc W ((ha.defs.mono hW fun _ _ h => h.below hW).wide hW.size fun _ _ h => h.wider hW.size) ((hb.defs.mono hW fun _ _ h => h.below hW).wide hW.size fun _ _ h => h.wider hW.size) sa.ndefs
    fun x hx y hy W' hW' => sameDefine_any x y W' ((ha.defs.all x hx).next (below_step hW (Nat.le_refl _) hW')) ((hb.defs.all y hy).next (below_step hW (Nat.le_refl _) hW')) (sa.defs x hx) (sb.defs y hy))
  have HP := Lib.hid (fun W (hW : Below w.heap.size w W) => eqfPol samePol a.pols b.pols a.pA b.pA a.pc b.pc W ((ha.pols.mono hW fun _ _ h => h.below hW).wide hW.size fun _ _ h => h.wider hW.size) ((hb.pols.mono hW fun _ _ h => h.below hW).wide hW.size fun _ _ h => h.wider hW.size) sa.npols
    fun x hx y hy W' hW' => samePolicy_any x y W' ((ha.pols.all x hx).next (below_step hW (Nat.le_refl _) hW')) ((hb.pols.all y hy).next (below_step hW (Nat.le_refl _) hW')) (sa.pols x hx) (sb.pols y hy))
  have HM := Lib.hid (fun W (hW : Below w.heap.size w W) => eqStr a.mA b.mA a.mc b.mc a.main b.main W (ha.main.nextS hW) (hb.main.nextS hW) (Nat.le_trans sa.nmain (by decide)))
  obtain ⟨x0, y0⟩ := later_two (w := w) #[.slice a.dA a.defs.length a.dc, .slice a.pA a.pols.length a.pc, .slice a.mA a.main.length a.mc, .int .i64 a.kind, .int .i64 a.data] #[.slice b.dA b.defs.length b.dc, .slice b.pA b.pols.length b.pc, .slice b.mA b.main.length b.mc, .int .i64 b.kind, .int .i64 b.data] 32
  have HX := Lib.hid x0
  have HY := Lib.hid y0
  unfold sameUnt
  obtain ⟨D, hD⟩ : ∃ D, D = alikes sameDfn a.defs b.defs := ⟨_, rfl⟩
  obtain ⟨P, hP⟩ : ∃ P, P = alikes samePol a.pols b.pols := ⟨_, rfl⟩
  obtain ⟨M, hM⟩ : ∃ M, M = alikes sameStr a.main b.main := ⟨_, rfl⟩
  rw [← hD] at HD ⊢
  rw [← hP] at HP ⊢
  rw [← hM] at HM ⊢
  clear hD hP hM ha hb sa sb x0 y0
  unfold Unt.val
  cases D
  ·
    go_enter Tryz.func17, Tryz.ntmps17
    go_wp2_with fail
    refine (HD.out _ (two_below _ _ _)).mono ?_
    rintro r w1 ⟨rfl, hb1⟩
    have hbw := below_step (two_below w _ _) (Nat.le_refl _) hb1
    have hx1 := HX.out.step hb1
    have hy1 := HY.out.step hb1
    have e0 := box_after hx1 0 _ rfl
    have f0 := box_after hy1 0 _ rfl
    have e1 := box_after hx1 1 _ rfl
    have f1 := box_after hy1 1 _ rfl
    have e2 := box_after hx1 2 _ rfl
    have f2 := box_after hy1 2 _ rfl
    have e3 := box_after hx1 3 _ rfl
    have f3 := box_after hy1 3 _ rfl
    have e4 := box_after hx1 4 _ rfl
    have f4 := box_after hy1 4 _ rfl
    have s1 : Below w1.heap.size w1 w1 := Below.refl _ _
    clear hb1 hx1 hy1
    go_wp2
    go_ret
    exact ⟨by simp, below_step hbw (Nat.le_refl _) s1⟩
  cases P
  ·
    go_enter Tryz.func17, Tryz.ntmps17
    go_wp2_with fail
    refine (HD.out _ (two_below _ _ _)).mono ?_
    rintro r w1 ⟨rfl, hb1⟩
    have hbw := below_step (two_below w _ _) (Nat.le_refl _) hb1
    have hx1 := HX.out.step hb1
    have hy1 := HY.out.step hb1
    have e0 := box_after hx1 0 _ rfl
    have f0 := box_after hy1 0 _ rfl
    have e1 := box_after hx1 1 _ rfl
    have f1 := box_after hy1 1 _ rfl
    have e2 := box_after hx1 2 _ rfl
    have f2 := box_after hy1 2 _ rfl
    have e3 := box_after hx1 3 _ rfl
    have f3 := box_after hy1 3 _ rfl
    have e4 := box_after hx1 4 _ rfl
    have f4 := box_after hy1 4 _ rfl
    have s1 : Below w1.heap.size w1 w1 := Below.refl _ _
    clear hb1 hx1 hy1
    go_wp2_with fail
    refine (HP.out _ (below_step hbw (Nat.le_refl _) s1)).mono ?_
    rintro r w2 ⟨rfl, hb2⟩
    have s2 : Below w1.heap.size w1 w2 := below_step s1 (Nat.le_refl _) hb2
    clear hb2 s1
    go_wp2
    go_ret
    exact ⟨by simp, below_step hbw (Nat.le_refl _) s2⟩
  cases M
  ·
    go_enter Tryz.func17, Tryz.ntmps17
    go_wp2_with fail
    refine (HD.out _ (two_below _ _ _)).mono ?_
    rintro r w1 ⟨rfl, hb1⟩
    have hbw := below_step (two_below w _ _) (Nat.le_refl _) hb1
    have hx1 := HX.out.step hb1
    have hy1 := HY.out.step hb1
    have e0 := box_after hx1 0 _ rfl
    have f0 := box_after hy1 0 _ rfl
    have e1 := box_after hx1 1 _ rfl
    have f1 := box_after hy1 1 _ rfl
    have e2 := box_after hx1 2 _ rfl
    have f2 := box_after hy1 2 _ rfl
    have e3 := box_after hx1 3 _ rfl
    have f3 := box_after hy1 3 _ rfl
    have e4 := box_after hx1 4 _ rfl
    have f4 := box_after hy1 4 _ rfl
    have s1 : Below w1.heap.size w1 w1 := Below.refl _ _
    clear hb1 hx1 hy1
    go_wp2_with fail
    refine (HP.out _ (below_step hbw (Nat.le_refl _) s1)).mono ?_
    rintro r w2 ⟨rfl, hb2⟩
    have s2 : Below w1.heap.size w1 w2 := below_step s1 (Nat.le_refl _) hb2
    clear hb2 s1
    go_wp2_with fail
    refine (HM.out _ (below_step hbw (Nat.le_refl _) s2)).mono ?_
    rintro r w3 ⟨rfl, hb3⟩
    have s3 : Below w1.heap.size w1 w3 := below_step s2 (Nat.le_refl _) hb3
    clear hb3 s2
    go_wp2
    go_ret
    exact ⟨by simp, below_step hbw (Nat.le_refl _) s3⟩
  cases h2 : (a.kind == b.kind)
  ·
    go_enter Tryz.func17, Tryz.ntmps17
    go_wp2_with fail
    refine (HD.out _ (two_below _ _ _)).mono ?_
    rintro r w1 ⟨rfl, hb1⟩
    have hbw := below_step (two_below w _ _) (Nat.le_refl _) hb1
    have hx1 := HX.out.step hb1
    have hy1 := HY.out.step hb1
    have e0 := box_after hx1 0 _ rfl
    have f0 := box_after hy1 0 _ rfl
    have e1 := box_after hx1 1 _ rfl
    have f1 := box_after hy1 1 _ rfl
    have e2 := box_after hx1 2 _ rfl
    have f2 := box_after hy1 2 _ rfl
    have e3 := box_after hx1 3 _ rfl
    have f3 := box_after hy1 3 _ rfl
    have e4 := box_after hx1 4 _ rfl
    have f4 := box_after hy1 4 _ rfl
    have s1 : Below w1.heap.size w1 w1 := Below.refl _ _
    clear hb1 hx1 hy1
    go_wp2_with fail
    refine (HP.out _ (below_step hbw (Nat.le_refl _) s1)).mono ?_
    rintro r w2 ⟨rfl, hb2⟩
    have s2 : Below w1.heap.size w1 w2 := below_step s1 (Nat.le_refl _) hb2
    clear hb2 s1
    go_wp2_with fail
    refine (HM.out _ (below_step hbw (Nat.le_refl _) s2)).mono ?_
    rintro r w3 ⟨rfl, hb3⟩
    have s3 : Below w1.heap.size w1 w3 := below_step s2 (Nat.le_refl _) hb3
    clear hb3 s2
    go_wp2
    go_ret
    exact ⟨by simp, below_step hbw (Nat.le_refl _) s3⟩
  cases h3 : (a.data == b.data)
  ·
    go_enter Tryz.func17, Tryz.ntmps17
    go_wp2_with fail
    refine (HD.out _ (two_below _ _ _)).mono ?_
    rintro r w1 ⟨rfl, hb1⟩
    have hbw := below_step (two_below w _ _) (Nat.le_refl _) hb1
    have hx1 := HX.out.step hb1
    have hy1 := HY.out.step hb1
    have e0 := box_after hx1 0 _ rfl
    have f0 := box_after hy1 0 _ rfl
    have e1 := box_after hx1 1 _ rfl
    have f1 := box_after hy1 1 _ rfl
    have e2 := box_after hx1 2 _ rfl
    have f2 := box_after hy1 2 _ rfl
    have e3 := box_after hx1 3 _ rfl
    have f3 := box_after hy1 3 _ rfl
    have e4 := box_after hx1 4 _ rfl
    have f4 := box_after hy1 4 _ rfl
    have s1 : Below w1.heap.size w1 w1 := Below.refl _ _
    clear hb1 hx1 hy1
    go_wp2_with fail
    refine (HP.out _ (below_step hbw (Nat.le_refl _) s1)).mono ?_
    rintro r w2 ⟨rfl, hb2⟩
    have s2 : Below w1.heap.size w1 w2 := below_step s1 (Nat.le_refl _) hb2
    clear hb2 s1
    go_wp2_with fail
    refine (HM.out _ (below_step hbw (Nat.le_refl _) s2)).mono ?_
    rintro r w3 ⟨rfl, hb3⟩
    have s3 : Below w1.heap.size w1 w3 := below_step s2 (Nat.le_refl _) hb3
    clear hb3 s2
    go_wp2
    go_ret
    exact ⟨by simp, below_step hbw (Nat.le_refl _) s3⟩
  ·
    go_enter Tryz.func17, Tryz.ntmps17
    go_wp2_with fail
    refine (HD.out _ (two_below _ _ _)).mono ?_
    rintro r w1 ⟨rfl, hb1⟩
    have hbw := below_step (two_below w _ _) (Nat.le_refl _) hb1
    have hx1 := HX.out.step hb1
    have hy1 := HY.out.step hb1
    have e0 := box_after hx1 0 _ rfl
    have f0 := box_after hy1 0 _ rfl
    have e1 := box_after hx1 1 _ rfl
    have f1 := box_after hy1 1 _ rfl
    have e2 := box_after hx1 2 _ rfl
    have f2 := box_after hy1 2 _ rfl
    have e3 := box_after hx1 3 _ rfl
    have f3 := box_after hy1 3 _ rfl
    have e4 := box_after hx1 4 _ rfl
    have f4 := box_after hy1 4 _ rfl
    have s1 : Below w1.heap.size w1 w1 := Below.refl _ _
    clear hb1 hx1 hy1
    go_wp2_with fail
    refine (HP.out _ (below_step hbw (Nat.le_refl _) s1)).mono ?_
    rintro r w2 ⟨rfl, hb2⟩
    have s2 : Below w1.heap.size w1 w2 := below_step s1 (Nat.le_refl _) hb2
    clear hb2 s1
    go_wp2_with fail
    refine (HM.out _ (below_step hbw (Nat.le_refl _) s2)).mono ?_
    rintro r w3 ⟨rfl, hb3⟩
    have s3 : Below w1.heap.size w1 w3 := below_step s2 (Nat.le_refl _) hb3
    clear hb3 s2
    go_wp2
    go_ret
    exact ⟨by simp, below_step hbw (Nat.le_refl _) s3⟩

end Go.Proofs.YtogpicfofifbkaaGreatDoor.LandedT
