/- Texts of mine put together (a claim has at most so many files): ParRule, ParLen. -/
import Derived.Test.YtfklajkmikanbaaGreatDoorPart18
import Derived.Test.YtfklajkmikanbaaGreatDoorPart19
/- What the landed parser's rule gives. Condition: what the start lays, as far as the library reads it. -/
namespace Go.Proofs.YtfklajkmikanbaaGreatDoor.LandedP
open Go.RowKit

def RulNew (n : Nat) (W : World) (a : Rul) (v : Value) : Prop := ∃ r : Rul, r.bare = a ∧ v = r.val ∧ RulP (fun b => n ≤ b) W r
def RulShape (v : Value) : Prop := ∃ s A n c B m d, v = .agg #[.string s, .slice A n c, .slice B m d]
theorem rulSize : (Tryz.prog.info? 75).map (·.size) = some 3 := by kernel_rfl

section
variable {w : World} {g : Nat} {E : Env} {R : List Tk}

theorem cond_all (hE : ∀ W, E.laid W → Laid W) (h : RdrAt 66 w g E R Flt.none) :
    Calls Tryz.prog 50 #[.pointer (some ⟨g, 0, none⟩)] w (Gave 66 g E (ExsNew w.heap.size) SlShape (condX R) w) :=
  cond_any hE (fun e R1 he => by have h1 := either_depth he; have h2 := h.len; have h3 := tail_less R; omega) h

abbrev zRul : Array Value := #[.string ⟨#[]⟩, .slice none 0 0, .slice none 0 0]

set_option maxRecDepth 100000 in
set_option maxHeartbeats 8000000 in
theorem rule_any (hE : ∀ W, E.laid W → Laid W) (h : RdrAt 66 w g E R Flt.none) :
    Calls Tryz.prog 42 #[.pointer (some ⟨g, 0, none⟩)] w (Gave 66 g E (RulNew w.heap.size) RulShape (ruleX R) w) := by
  have HNA := Lib.hid (name_any (h.alloc (.cells zRul 75)))
  have HGL := Lib.hid h.lt
  clear h
  go_enter Tryz.func42, Tryz.ntmps42
  go_wp2_with fail
  refine HNA.out.mono ?_
  rintro e w1 ⟨hg1, h1⟩
  have HB1 := Lib.hid (box_only (Box.new w 75 zRul) (by have := HGL.out; omega) hg1)
  have HG1 := Lib.hid (only_trans (only_alloc w (.cells zRul 75) g) hg1)
  clear HNA hg1
  rcases h1 with ⟨s, hs, rfl, h1, hsi⟩ | ⟨hs, rfl, h1⟩
  · have HS := Lib.hid hs
    have HSI := Lib.hid hsi
    have HPA := Lib.hid (params_any h1)
    have HZ1 := Lib.hid HB1.out.lt
    clear hs hsi h1
    go_wp2_with fail
    refine HPA.out.mono ?_
    rintro e w2 ⟨hg2, h2⟩
    have HB2 := Lib.hid (box_only HB1.out (by have := HGL.out; omega) hg2)
    have HG2 := Lib.hid (only_trans HG1.out hg2)
    clear HPA hg2 HB1 HG1
    rcases h2 with ⟨l, R2, v, hx, rfl, ⟨A, c, rfl, hsl⟩, hr⟩ | ⟨err, R2, v, hx, rfl, ⟨A, n, c, rfl⟩, hr⟩
    · have HX := Lib.hid hx
      have HSL := Lib.hid (hsl.move (Q := fun b => w.heap.size < b) (R' := StrIn) (Move.of _ fun b _ hp => Nat.lt_of_lt_of_le HZ1.out hp) fun _ _ h => h)
      have HCO := Lib.hid (cond_all hE hr)
      have HZ2 := Lib.hid HB2.out.lt
      clear hx hsl hr
      go_wp2_with fail
      refine HCO.out.mono ?_
      rintro e w3 ⟨hg3, h3⟩
      have HB3 := Lib.hid (box_only HB2.out (by have := HGL.out; omega) hg3)
      have HG3 := Lib.hid (only_trans HG2.out hg3)
      have HSL3 := Lib.hid (HSL.out.move (Q := fun b => w.heap.size < b) (R' := StrIn) (Move.grown hg3 fun b _ hp => ⟨hp, fun e => by have := Option.some.inj e; have := HGL.out; omega⟩) fun _ _ h => h)
      clear HCO hg3 HB2 HG2 HSL
      obtain ⟨p0, p1, p2, y0, y1, y2, hl⟩ := box3 HB3.out
      rcases h3 with ⟨cs, R3, v, hx, rfl, ⟨cA, cc, cl, hcl, rfl, hcs⟩, hr⟩ | ⟨err, R3, v, hx, rfl, ⟨cA, n, cc, rfl⟩, hr⟩
      · have HEQ : Hid (ruleX R = .ok (⟨s, none, 0, l, none, 0, cl.map Ex.bare⟩, R3)) := by
          show ruleX R = _
          unfold ruleX
          rw [HS.out]
          dsimp only
          rw [HX.out]
          dsimp only
          rw [hx, hcl]
        have hm0 : Move (fun b => w2.heap.size ≤ b) (fun b => w.heap.size < b) w3 w3 := Move.of _ fun b _ hp => Nat.lt_of_lt_of_le HZ2.out hp
        have HCS := Lib.hid (hcs.move hm0 fun _ _ h => h.move hm0)
        have HRR := Lib.hid hr
        clear hx hcs hr hcl hm0
        go_wp2_with fail
        try simp only [Exit.inBlock, Exit.then]
        refine bodyPost_ret (results_box_tmp rfl _ _ w.heap.size 75 _ rfl (set3_box HB3.out) _ Tryz.underlying75 rfl rulSize) rfl ⟨grow_new HG3.out set3_only (Nat.le_refl _), .inl ⟨_, R3, _, HEQ.out, rfl, ⟨⟨s, A, c, l, cA, cc, cl⟩, rfl, rfl, ?_⟩, HRR.out.other set3_only HGL.out⟩⟩
        have hm : ∀ a b d, Move (fun b => w.heap.size < b) (fun b => w.heap.size ≤ b) w3 (((w3.setCell ⟨w.heap.size, 0, none⟩ a).setCell ⟨w.heap.size, 1, none⟩ b).setCell ⟨w.heap.size, 2, none⟩ d) := fun a b d => Move.grown set3_only fun b _ hp => ⟨Nat.le_of_lt hp, fun e => by have := Option.some.inj e; omega⟩
        exact ⟨HSI.out, HSL3.out.move (hm _ _ _) fun _ _ h => h, HCS.out.move (hm _ _ _) fun _ _ h => h.move (hm _ _ _)⟩
      · have HEQ : Hid (ruleX R = .error (err, R3)) := by
          show ruleX R = _
          unfold ruleX
          rw [HS.out]
          dsimp only
          rw [HX.out]
          dsimp only
          rw [hx]
        have HRR := Lib.hid hr
        clear hx hr
        go_wp2_with fail
        try simp only [Exit.inBlock, Exit.then]
        exact bodyPost_ret (results_box_tmp rfl _ _ w.heap.size 75 _ rfl (set3_box HB3.out) _ Tryz.underlying75 rfl rulSize) rfl ⟨grow_new HG3.out set3_only (Nat.le_refl _), .inr ⟨err, R3, _, HEQ.out, rfl, ⟨_, _, _, _, _, _, _, rfl⟩, HRR.out.other set3_only HGL.out⟩⟩
    · have HEQ : Hid (ruleX R = .error (err, R2)) := by
        show ruleX R = _
        unfold ruleX
        rw [HS.out]
        dsimp only
        rw [hx]
      have HRR := Lib.hid hr
      obtain ⟨p0, p1, p2, y0, y1, y2, hl⟩ := box3 HB2.out
      clear hx hr
      go_wp2_with fail
      try simp only [Exit.inBlock, Exit.then]
      exact bodyPost_ret (results_box_tmp rfl _ _ w.heap.size 75 _ rfl (set3_box HB2.out) _ Tryz.underlying75 rfl rulSize) rfl ⟨grow_new HG2.out set3_only (Nat.le_refl _), .inr ⟨err, R2, _, HEQ.out, rfl, ⟨_, _, _, _, _, _, _, rfl⟩, HRR.out.other set3_only HGL.out⟩⟩
  · have HEQ : Hid (ruleX R = .error (3, R)) := by
      show ruleX R = _
      unfold ruleX
      rw [hs]
    have HRR := Lib.hid h1
    obtain ⟨p0, p1, p2, y0, y1, y2, hl⟩ := box3 HB1.out
    clear hs h1
    go_wp2_with fail
    try simp only [Exit.inBlock, Exit.then]
    exact bodyPost_ret (results_box_tmp rfl _ _ w.heap.size 75 _ rfl (set3_box HB1.out) _ Tryz.underlying75 rfl rulSize) rfl ⟨grow_new HG1.out set3_only (Nat.le_refl _), .inr ⟨3, R, _, HEQ.out, rfl, ⟨_, _, _, _, _, _, _, rfl⟩, .inl ⟨rfl, HRR.out.other set3_only HGL.out⟩⟩⟩
end

end Go.Proofs.YtfklajkmikanbaaGreatDoor.LandedP

/- What is left behind a rule, a part, a policy is less. No program. -/
namespace Go.Proofs.YtfklajkmikanbaaGreatDoor.LandedP
open Go.RowKit

theorem name_len {R : List Tk} {s : ByteArray} (h : nameH R = some s) : R.tail.length + 1 = R.length := by
  obtain ⟨t, r, rfl, _⟩ := nameH_cons h
  rfl
theorem isL_len {k : Int} {s : List UInt8} {R : List Tk} (h : isL k s R = true) : R.tail.length + 1 = R.length := by
  obtain ⟨t, r, rfl, _⟩ := isL_cons h
  rfl
theorem namesLoop_len : ∀ (f : Nat) (l m : List ByteArray) (R R' : List Tk), namesLoop f l R = .ok (m, R') → R'.length < R.length
  | 0, l, m, R, R', h => by cases h
  | f + 1, l, m, R, R', h => by
    unfold namesLoop at h
    split at h
    · cases h
    · rename_i s hs
      have h1 := name_len hs
      split at h
      · rename_i hsg
        have h2 := namesLoop_len f _ _ _ _ h
        have h3 := sg_less hsg
        omega
      · cases h
        omega
theorem names_len {R R' : List Tk} {m : List ByteArray} (h : namesX R = .ok (m, R')) : R'.length < R.length := namesLoop_len _ _ _ _ _ h
theorem params_len {R R' : List Tk} {m : List ByteArray} (h : paramsX R = .ok (m, R')) : R'.length ≤ R.length := by
  unfold paramsX at h
  split at h
  · rename_i h1
    have l1 := sg_less h1
    split at h
    · rename_i h2
      have l2 := sg_less h2
      cases h
      omega
    · split at h
      · cases h
      · rename_i l R1 hl
        have l2 := names_len hl
        split at h
        · rename_i h3
          have l3 := sg_less h3
          cases h
          omega
        · cases h
  · cases h
    exact Nat.le_refl _
theorem cond_len {R R' : List Tk} {m : List Ex} (h : condX R = .ok (m, R')) : R'.length ≤ R.length := by
  unfold condX at h
  split at h
  · rename_i h1
    have l1 := sg_less h1
    split at h
    · cases h
    · rename_i e R1 he
      have l2 := either_nodes _ _ _ _ _ _ he
      have l3 : WL [] + W0 Lvl.zero = 0 := rfl
      split at h
      · cases h
      · split at h
        · rename_i h3
          have l4 := sg_less h3
          cases h
          omega
        · cases h
  · cases h
    exact Nat.le_refl _
theorem rule_len {R R' : List Tk} {m : Rul} (h : ruleX R = .ok (m, R')) : R'.length < R.length := by
  unfold ruleX at h
  split at h
  · cases h
  · rename_i s hs
    have l0 := name_len hs
    split at h
    · cases h
    · rename_i l R1 hl
      have l1 := params_len hl
      split at h
      · cases h
      · rename_i c R2 hc
        have l2 := cond_len hc
        cases h
        omega
theorem rest_le (b : Bool) (R : List Tk) : (restL b R).length ≤ R.length := by
  unfold restL
  split
  · simp
  · exact Nat.le_refl _
theorem braced_len {α : Type} {one : List Tk → Rx α} (ho : ∀ R a R', one R = .ok (a, R') → R'.length < R.length) : ∀ (f : Nat) (l m : List α) (R R' : List Tk), bracedLoop one f l R = .ok (m, R') → R'.length < R.length
  | 0, l, m, R, R', h => by cases h
  | f + 1, l, m, R, R', h => by
    unfold bracedLoop at h
    split at h
    · rename_i h1
      have l1 := sg_less h1
      cases h
      omega
    · split at h
      · cases h
      · rename_i x R2 hx
        have l1 := ho _ _ _ hx
        have l2 := braced_len ho f _ _ _ _ h
        have l3 := rest_le (!l.isEmpty && sgL [44] R) R
        omega
/-- Behind one of them. -/
def bracedNext {α : Type} (one : List Tk → Rx α) (f : Nat) (l : List α) : Rx α → Rx (List α)
  | .error x => .error x
  | .ok (x, R2) => bracedLoop one f (l ++ [x]) R2
theorem braced_next {α : Type} {one : List Tk → Rx α} {f : Nat} {l : List α} {R : List Tk} (h : sgL [125] R = false) : bracedLoop one (f + 1) l R = bracedNext one f l (one (restL (!l.isEmpty && sgL [44] R) R)) := by
  rw [bracedLoop, if_neg (by rw [h]; decide)]
  cases one (restL (!l.isEmpty && sgL [44] R) R) <;> rfl
theorem bracedX_len {α : Type} {one : List Tk → Rx α} (ho : ∀ R a R', one R = .ok (a, R') → R'.length < R.length) {R R' : List Tk} {m : List α} (h : bracedX one R = .ok (m, R')) : R'.length < R.length := by
  unfold bracedX at h
  split at h
  · rename_i h1
    have l1 := sg_less h1
    have l2 := braced_len ho _ _ _ _ _ h
    omega
  · cases h
theorem data_len {kd : Int} {R R' : List Tk} {a : Int × Int} (h : dataX kd R = .ok (a, R')) : R'.length ≤ R.length := by
  unfold dataX at h
  split at h
  · split at h
    · cases h
    · split at h
      · cases h
        simp
        omega
      · cases h
  · cases h
theorem action_len {R R' : List Tk} {a : Int × Int} (h : actionX R = .ok (a, R')) : R'.length < R.length := by
  unfold actionX at h
  split at h
  · rename_i h1; have l1 := isL_len h1; cases h; omega
  split at h
  · rename_i h1; have l1 := isL_len h1; cases h; omega
  split at h
  · rename_i h1; have l1 := isL_len h1; cases h; omega
  split at h
  · rename_i h1; have l1 := isL_len h1; cases h; omega
  split at h
  · rename_i h1; have l1 := isL_len h1; have l2 := data_len h; omega
  split at h
  · rename_i h1; have l1 := isL_len h1; have l2 := data_len h; omega
  split at h
  · rename_i h1; have l1 := isL_len h1; have l2 := data_len h; omega
  cases h
theorem part_len {R R' : List Tk} {a : Par} (h : partX R = .ok (a, R')) : R'.length < R.length := by
  unfold partX at h
  split at h
  · rename_i h1
    have l1 := isL_len h1
    split at h
    · cases h
    · rename_i s hs
      have l2 := name_len hs
      cases h
      omega
  · split at h
    · cases h
    · rename_i x R1 hx
      have l1 := action_len hx
      split at h
      · cases h
      · rename_i l R2 hl
        have l2 := bracedX_len (fun _ _ _ h => rule_len h) hl
        cases h
        omega
theorem policy_len {R R' : List Tk} {a : Pol} (h : policyX R = .ok (a, R')) : R'.length < R.length := by
  unfold policyX at h
  split at h
  · cases h
  · rename_i s hs
    have l1 := name_len hs
    split at h
    · cases h
    · rename_i l R1 hl
      have l2 := bracedX_len (fun _ _ _ h => part_len h) hl
      cases h
      omega
theorem number_less {R R' : List Tk} {e : Ex} (h : numberX R = .ok (e, R')) : R'.length ≤ R.length := by
  have := number_nodes h
  omega
theorem item_len {u u' : Unt} {R R' : List Tk} (h : itemX u R = .ok (u', R')) : R'.length < R.length := by
  unfold itemX at h
  split at h
  · rename_i h1
    have l1 := isL_len h1
    split at h
    · cases h
    · rename_i d R1 hd
      cases h
      unfold defineX at hd
      split at hd
      · cases hd
      · rename_i s hs
        have l2 := name_len hs
        split at hd
        · cases hd
        · rename_i e R3 he
          have l3 := number_less he
          cases hd
          omega
  split at h
  · rename_i h1
    have l1 := isL_len h1
    split at h
    · cases h
    · rename_i d R1 hd
      have l2 := policy_len hd
      cases h
      omega
  split at h
  · rename_i h1
    have l1 := isL_len h1
    unfold mainX at h
    split at h
    · cases h
    · rename_i l R1 hl
      have l2 := names_len hl
      split at h
      · rename_i h2
        have l3 := isL_len h2
        split at h
        · cases h
        · rename_i a R2 ha
          have l4 := action_len ha
          split at h
          · cases h
          · cases h
            omega
      · cases h
  cases h

end Go.Proofs.YtfklajkmikanbaaGreatDoor.LandedP
