/- Texts of mine put together (a claim has at most so many files): ParNames, ParParams, ParDeep. -/
import Derived.Test.YtfklajkmikanbaaGreatDoorPart17
import Derived.Test.YtfklajkmikanbaaGreatDoorPart11
import Derived.Test.YtfklajkmikanbaaGreatDoorPart8
/- What the landed parser's names gives. No condition but sizes. -/
namespace Go.Proofs.YtfklajkmikanbaaGreatDoor.LandedP
open Go.RowKit

def NamesSt (w : World) (g : Nat) (E : Env) (X : Rx (List ByteArray)) (M : Nat) (v : Value) (W : World) : Prop := ∃ (l : List ByteArray) (n : Nat) (R : List Tk), X = namesLoop n l R ∧ R.length < n ∧ W.ownsRow w.heap.size 9 1 v l.length (l.flatMap strCells) ∧ w.grownBy W (some g) ∧
  RdrAt 66 W g E R Flt.none ∧ l.length + R.length ≤ M ∧ ∀ s ∈ l, StrIn s

section
variable {w : World} {g : Nat} {E : Env} {R : List Tk}

set_option maxRecDepth 100000 in
set_option maxHeartbeats 8000000 in
theorem names_any (h : RdrAt 66 w g E R Flt.none) :
    Calls Tryz.prog 35 #[.pointer (some ⟨g, 0, none⟩)] w (Gave 66 g E (StrsNew w.heap.size) SlShape (namesX R) w) := by
  obtain ⟨i0, hi, hz0, hz1, hz2⟩ := info_parts infoStr
  obtain ⟨X, hX⟩ : ∃ X, X = namesX R := ⟨_, rfl⟩
  have HGL := Lib.hid h.lt
  obtain ⟨M, hM⟩ : ∃ M, M = R.length := ⟨_, rfl⟩
  have hMb : M ≤ 1000000 := by rw [hM]; exact h.len
  have H0 : Hid (NamesSt w g E X M (.slice none 0 0) w) := ⟨[], R.length + 1, R, hX, Nat.lt_succ_self _, ⟨rfl, .inl ⟨rfl, rfl⟩⟩, only_refl _ _, h, by rw [hM]; simp, fun s hs => absurd hs (by simp)⟩
  rw [← hX]
  clear h hX hM
  go_enter Tryz.func35, Tryz.ntmps35
  go_wp2_with fail
  go_loopw [4] (fun v wr => Hid (NamesSt w g E X M v wr)) (fun v _ => M + 1 - lenS v)
  case atStart => exact H0
  case round =>
    obtain ⟨l, n, R', hX, hn, hown, hw, hrd, hlM, hall⟩ := hrel.out
    clear H0 hrel
    obtain ⟨A, c, hS, hnc, _⟩ := own_form hown
    subst hS
    obtain ⟨f, rfl⟩ : ∃ f, n = f + 1 := ⟨n - 1, by omega⟩
    have HX := Lib.hid hX
    have HNA := Lib.hid (name_any hrd)
    have HOWN := Lib.hid hown
    have HW := Lib.hid hw
    have HALL := Lib.hid hall
    have HB := Lib.hid (And.intro hn hlM)
    have hll : l.length ≤ 1000000 := by omega
    have HNC := Lib.hid hnc
    clear hX hn hown hw hrd hlM hall hnc
    obtain ⟨k, hk⟩ : ∃ k, k = l.length := ⟨_, rfl⟩
    rw [← hk] at HOWN hll HB HNC ⊢
    have HK := Lib.hid hk
    clear hk
    go_wp2_with fail
    refine HNA.out.mono ?_
    rintro e w1 ⟨hg1, h1⟩
    have HOWN1 := Lib.hid (own_ne' HOWN.out hg1 HGL.out)
    have HW1 := Lib.hid (only_trans HW.out hg1)
    clear hg1 HNA HOWN HW
    rcases h1 with ⟨s, hs, rfl, h1, hsi⟩ | ⟨hs, rfl, h1⟩
    · have HS := Lib.hid hs
      have HSI := Lib.hid hsi
      have HR1 := Lib.hid h1
      have HT : Hid (R'.tail.length + 1 = R'.length) := by
        obtain ⟨t, r, rfl, _⟩ := nameH_cons hs
        rfl
      have hbase : w.heap.size ≤ w1.heap.size := HW1.out.size
      have hown := HOWN1.out
      clear hs hsi h1
      go_wp2_with (at_builtin; go_loud (refine wpList_append_lit_at _ rfl (.tmp 14) (.tmp 16) _ rfl w.heap.size 9 i0 _ 1 16 Tryz.underlying23 hi hz0 hz1 hz2 rfl (by omega) _ _ _ rfl hown _ _ 1 1 rfl rfl ?c1 ?c2 ?c3 ?c4 ?_))
      case c1 => simp [Value.oneCell']
      case c2 => unfold maxLen; omega
      case c3 => omega
      case c4 => exact hbase
      · intro v' w2 hown2 hg2 hv2
        obtain ⟨hw2, hr2⟩ := row_push HR1.out HW1.out HGL.out hown _ hg2
        have HOWN2 : Hid (w2.ownsRow w.heap.size 9 1 v' (k + 1) ((l ++ [s]).flatMap strCells)) := by
          have := hown2
          rw [List.flatMap_append]
          exact this
        have HW2 := Lib.hid hw2
        have HSG := Lib.hid (sign_any hr2 ⟨#[44]⟩)
        rw [show ((⟨#[44]⟩ : ByteArray)).data.toList = [44] from rfl] at HSG
        clear hown2 hg2 hv2 hown hbase hw2 hr2 HOWN1 HW1 HR1
        have HALL2 : Hid (∀ x ∈ l ++ [s], StrIn x) := fun x hx => by
          rcases List.mem_append.1 hx with hx | hx
          · exact HALL.out x hx
          · obtain rfl : x = s := by simpa using hx
            exact HSI.out
        cases hsg : sgL [44] R'.tail
        · rw [hsg] at HSG
          have HE : Hid (X = .ok (l ++ [s], R'.tail)) := by
            have := HX.out
            rw [namesLoop, HS.out] at this
            dsimp only at this
            rw [if_neg (by rw [hsg]; decide)] at this
            exact this
          clear hsg
          go_wp2_with fail
          refine HSG.out.mono ?_
          rintro e w3 ⟨rfl, h3, hg3⟩
          have HR3 := Lib.hid h3
          have HW3 := Lib.hid (only_trans HW2.out hg3)
          have HOWN3 := Lib.hid (own_ne' HOWN2.out hg3 HGL.out)
          clear h3 hg3 HSG HOWN2 HW2
          go_wp2
          go_ret2
          obtain ⟨A3, c3, rfl, hc3, _⟩ := own_form HOWN3.out
          refine ⟨HW3.out, .inl ⟨l ++ [s], R'.tail, _, HE.out, rfl, ⟨A3, c3, ?_, ?_⟩, HR3.out⟩⟩
          · rw [List.length_append, ← HK.out]; rfl
          · have hl : (l ++ [s]).length = k + 1 := by rw [List.length_append, ← HK.out]; rfl
            refine ⟨by rw [hl]; exact LiesP.of_own HOWN3.out (fun b o _ _ hb => hb), HALL2.out, by rw [hl]; exact hc3, own_cap HOWN3.out⟩
        · rw [hsg] at HSG
          have HE : Hid (X = namesLoop f (l ++ [s]) R'.tail.tail) := by
            have := HX.out
            rw [namesLoop, HS.out] at this
            dsimp only at this
            rw [if_pos hsg] at this
            exact this
          have HT2 : Hid (R'.tail.tail.length + 1 = R'.tail.length) := by
            obtain ⟨t, r, h, _⟩ := isL_cons hsg
            rw [h]; rfl
          clear hsg
          go_wp2_with fail
          refine HSG.out.mono ?_
          rintro e w3 ⟨rfl, h3, hg3⟩
          have HR3 := Lib.hid h3
          have HW3 := Lib.hid (only_trans HW2.out hg3)
          have HOWN3 := Lib.hid (own_ne' HOWN2.out hg3 HGL.out)
          clear h3 hg3 HSG HOWN2 HW2
          have HN : Hid (NamesSt w g E X M v' w3) := by
            have h1 := HB.out; have h2 := HT.out; have h3 := HT2.out; have h4 := HK.out
            have hl : (l ++ [s]).length = k + 1 := by rw [List.length_append, ← h4]; rfl
            exact ⟨l ++ [s], f, R'.tail.tail, HE.out, by omega, by rw [hl]; exact HOWN3.out, HW3.out, HR3.out, by omega, HALL2.out⟩
          obtain ⟨A3, c3, rfl, hc3, _⟩ := own_form HOWN3.out
          have HB2 := Lib.hid (show k < M + 1 by have := HB.out; omega)
          go_wp2
          go_roundw
          case rel => exact HN
          case measure =>
            have := HB2.out
            show M + 1 - (k + 1) < M + 1 - k
            omega
    · have HE : Hid (X = .error (3, R')) := by
        have := HX.out
        rw [namesLoop, hs] at this
        exact this
      have HR1 := Lib.hid h1
      clear hs h1
      go_wp2
      go_ret2
      exact ⟨HW1.out, .inr ⟨3, R', _, HE.out, rfl, ⟨none, 0, 0, rfl⟩, .inl ⟨rfl, HR1.out⟩⟩⟩
end

end Go.Proofs.YtfklajkmikanbaaGreatDoor.LandedP

/- What the landed parser's params gives. No condition but sizes. -/
namespace Go.Proofs.YtfklajkmikanbaaGreatDoor.LandedP
open Go.RowKit

section
variable {w : World} {g : Nat} {E : Env} {R : List Tk}

set_option maxRecDepth 100000 in
set_option maxHeartbeats 8000000 in
theorem params_any (h : RdrAt 66 w g E R Flt.none) :
    Calls Tryz.prog 49 #[.pointer (some ⟨g, 0, none⟩)] w (Gave 66 g E (StrsNew w.heap.size) SlShape (paramsX R) w) := by
  have HSG := Lib.hid (sign_any h ⟨#[40]⟩)
  rw [show ((⟨#[40]⟩ : ByteArray)).data.toList = [40] from rfl] at HSG
  have HGL := Lib.hid h.lt
  clear h
  cases hsg : sgL [40] R
  · rw [hsg] at HSG
    have HEQ : Hid (paramsX R = .ok ([], R)) := by
      show paramsX R = _
      unfold paramsX
      rw [if_neg (by rw [hsg]; decide)]
    clear hsg
    go_enter Tryz.func49, Tryz.ntmps49
    go_wp2_with fail
    refine HSG.out.mono ?_
    rintro e w1 ⟨rfl, h1, hg1⟩
    have HR1 := Lib.hid h1
    have HG1 := Lib.hid hg1
    clear h1 hg1 HSG
    go_wp2
    go_ret2
    exact ⟨HG1.out, .inl ⟨[], R, _, HEQ.out, rfl, ⟨none, 0, rfl, .nil _ _ _ _ _⟩, HR1.out⟩⟩
  · rw [hsg] at HSG
    have HEQ : Hid (paramsX R = if sgL [41] R.tail = true then .ok ([], R.tail.tail) else match namesX R.tail with
        | .error x => .error x
        | .ok (l, R1) => if sgL [41] R1 = true then .ok (l, R1.tail) else .error (3, R1)) := by
      show paramsX R = _
      unfold paramsX
      rw [if_pos hsg]
      rfl
    clear hsg
    go_enter Tryz.func49, Tryz.ntmps49
    go_wp2_with fail
    refine HSG.out.mono ?_
    rintro e w1 ⟨rfl, h1, hg1⟩
    have HG1 := Lib.hid hg1
    have HS1 := Lib.hid (sign_any (show RdrAt 66 w1 g E R.tail Flt.none from h1) ⟨#[41]⟩)
    rw [show ((⟨#[41]⟩ : ByteArray)).data.toList = [41] from rfl] at HS1
    clear h1 hg1 HSG
    cases hs1 : sgL [41] R.tail
    · rw [hs1] at HS1
      have HE1 : Hid (paramsX R = match namesX R.tail with
          | .error x => .error x
          | .ok (l, R1) => if sgL [41] R1 = true then .ok (l, R1.tail) else .error (3, R1)) := by
        have := HEQ.out
        rw [if_neg (by rw [hs1]; decide)] at this
        exact this
      clear hs1 HEQ
      go_wp2_with fail
      refine HS1.out.mono ?_
      rintro e w2 ⟨rfl, h2, hg2⟩
      have HG2 := Lib.hid (only_trans HG1.out hg2)
      have HN := Lib.hid (names_any (show RdrAt 66 w2 g E R.tail Flt.none from h2))
      have hz2 : w.heap.size ≤ w2.heap.size := HG2.out.size
      have HZ2 := Lib.hid hz2
      clear h2 hg2 HS1 HG1 hz2
      go_wp2_with fail
      refine HN.out.mono ?_
      rintro e w3 ⟨hg3, h3⟩
      have HG3 := Lib.hid (only_trans HG2.out hg3)
      clear hg3 HN HG2
      rcases h3 with ⟨l, R1, v, hx, rfl, ⟨A, c, rfl, hsl⟩, hr⟩ | ⟨err, R1, v, hx, rfl, ⟨A, n, c, rfl⟩, hr⟩
      · have HE2 : Hid (paramsX R = if sgL [41] R1 = true then .ok (l, R1.tail) else .error (3, R1)) := by
          have := HE1.out
          rw [hx] at this
          exact this
        have HSL := Lib.hid hsl
        have HS3 := Lib.hid (sign_any hr ⟨#[41]⟩)
        rw [show ((⟨#[41]⟩ : ByteArray)).data.toList = [41] from rfl] at HS3
        clear hx hsl hr HE1
        go_wp2_with fail
        refine HS3.out.mono ?_
        rintro e w4 ⟨rfl, h4, hg4⟩
        have HG4 := Lib.hid (only_trans HG3.out hg4)
        have HSL4 := Lib.hid (HSL.out.move (Q := fun b => w.heap.size ≤ b) (R' := StrIn) (Move.grown hg4 fun b _ hp => ⟨Nat.le_trans HZ2.out hp, fun e => by have := Option.some.inj e; have := HGL.out; have := HZ2.out; omega⟩) fun _ _ h => h)
        have HR4 := Lib.hid h4
        clear h4 hg4 HS3 HSL HG3
        cases hs4 : sgL [41] R1
        · have HE3 : Hid (paramsX R = .error (3, R1)) := by
            have := HE2.out
            rw [if_neg (by rw [hs4]; decide)] at this
            exact this
          rw [hs4] at HR4
          clear hs4
          go_wp2
          go_ret2
          exact ⟨HG4.out, .inr ⟨3, R1, _, HE3.out, rfl, ⟨_, _, _, rfl⟩, .inl ⟨rfl, HR4.out⟩⟩⟩
        · have HE3 : Hid (paramsX R = .ok (l, R1.tail)) := by
            have := HE2.out
            rw [if_pos hs4] at this
            exact this
          rw [hs4] at HR4
          clear hs4
          go_wp2
          go_ret2
          exact ⟨HG4.out, .inl ⟨l, R1.tail, _, HE3.out, rfl, ⟨A, c, rfl, HSL4.out⟩, HR4.out⟩⟩
      · have HE2 : Hid (paramsX R = .error (err, R1)) := by
          have := HE1.out
          rw [hx] at this
          exact this
        have HR3 := Lib.hid hr
        clear hx hr HE1
        go_wp2
        go_ret2
        exact ⟨HG3.out, .inr ⟨err, R1, _, HE2.out, rfl, ⟨_, _, _, rfl⟩, HR3.out⟩⟩
    · rw [hs1] at HS1
      have HE1 : Hid (paramsX R = .ok ([], R.tail.tail)) := by
        have := HEQ.out
        rw [if_pos hs1] at this
        exact this
      clear hs1 HEQ
      go_wp2_with fail
      refine HS1.out.mono ?_
      rintro e w2 ⟨rfl, h2, hg2⟩
      have HR2 := Lib.hid h2
      have HG2 := Lib.hid (only_trans HG1.out hg2)
      clear h2 hg2 HS1 HG1
      go_wp2
      go_ret2
      exact ⟨HG2.out, .inl ⟨[], R.tail.tail, _, HE1.out, rfl, ⟨none, 0, rfl, .nil _ _ _ _ _⟩, HR2.out⟩⟩
end

end Go.Proofs.YtfklajkmikanbaaGreatDoor.LandedP

/- A condition is no deeper than the tokens that it was read from. No program. -/
namespace Go.Proofs.YtfklajkmikanbaaGreatDoor.LandedP
open Go.RowKit

mutual
def nodesE : Ex → Nat
  | .node _ _ _ _ _ _ ks => nodesL ks + 1
def nodesL : List Ex → Nat
  | [] => 0
  | k :: r => nodesE k + nodesL r
end
mutual
theorem depth_nodes : ∀ e : Ex, depthOf e ≤ nodesE e
  | .node kd op nm nu A c ks => by
    unfold depthOf nodesE
    have := depths_nodes ks 0
    omega
theorem depths_nodes : ∀ (l : List Ex) (n : Nat), depthsOf n l ≤ n + nodesL l
  | [], n => by unfold depthsOf nodesL; omega
  | k :: r, n => by
    unfold depthsOf nodesL
    have h1 := depth_nodes k
    have h2 := depths_nodes r (if n < depthOf k then depthOf k else n)
    split at h2 <;> rename_i h <;> (simp only [h, if_true, if_false] at *; omega)
end

theorem tail_less (R : List Tk) : R.tail.length ≤ R.length := by simp
theorem sg_less {s : List UInt8} {R : List Tk} (h : sgL s R = true) : R.tail.length + 1 = R.length := by
  obtain ⟨t, r, rfl, _⟩ := isL_cons h
  rfl
theorem single_nodes {R R' : List Tk} {e : Ex} (h : singleX R = .ok (e, R')) : nodesE e + R'.length ≤ R.length := by
  unfold singleX at h
  split at h
  · rename_i v hv
    obtain ⟨t, r, rfl, _⟩ := numH_cons hv
    cases h
    simp [nodesE, nodesL, leafN]
    omega
  · split at h
    · rename_i s hs
      obtain ⟨t, r, rfl, _⟩ := nameH_cons hs
      cases h
      simp [nodesE, nodesL, leafS]
      omega
    · cases h
theorem nodes_pair (kd : Int) (a b : Ex) : nodesE (pairE kd a b) = nodesE a + nodesE b + 1 := by
  simp [pairE, nodesE, nodesL]
theorem numLoop_nodes : ∀ (f : Nat) (e x : Ex) (R R' : List Tk), numLoop f e R = .ok (x, R') → nodesE x + R'.length ≤ nodesE e + R.length
  | 0, e, x, R, R', h => by cases h; exact Nat.le_refl _
  | f + 1, e, x, R, R', h => by
    unfold numLoop at h
    split at h
    · rename_i hs
      split at h
      · cases h
      · rename_i y R2 hy
        have h1 := numLoop_nodes f _ _ _ _ h
        have h2 := single_nodes hy
        have h3 := sg_less hs
        rw [nodes_pair] at h1
        omega
    · cases h; exact Nat.le_refl _
theorem number_nodes {R R' : List Tk} {e : Ex} (h : numberX R = .ok (e, R')) : nodesE e + R'.length ≤ R.length := by
  unfold numberX at h
  split at h
  · cases h
  · rename_i y R2 hy
    have h1 := numLoop_nodes _ _ _ _ _ h
    have h2 := single_nodes hy
    omega
theorem compared_nodes {R R' : List Tk} {e : Ex} (h : comparedX R = .ok (e, R')) : nodesE e + R'.length ≤ R.length := by
  unfold comparedX at h
  split at h
  · cases h
  · rename_i s hs
    obtain ⟨t, r, rfl, _⟩ := nameH_cons hs
    split at h
    · rename_i hsg
      split at h
      · cases h
      · rename_i y R2 hy
        cases h
        have h2 := single_nodes hy
        have h3 := sg_less hsg
        simp only [nodesE, nodesL, List.tail_cons, List.length_cons] at h2 h3 ⊢
        omega
    · cases h
      simp [leafS, nodesE, nodesL]
      omega
theorem comparison_nodes {R R' : List Tk} {e : Ex} (h : comparisonX R = .ok (e, R')) : nodesE e + R'.length ≤ R.length := by
  unfold comparisonX at h
  split at h
  · cases h
  · rename_i a R1 ha
    split at h
    · cases h
    · rename_i s hs
      split at h
      · cases h
      · rename_i b R2 hb
        cases h
        have h1 := compared_nodes ha
        have h2 := number_nodes hb
        have h3 : R1.tail.length + 1 = R1.length := by
          simp only [opsL, opH] at hs
          split at hs
          · rename_i h; exact sg_less h
          split at hs
          · rename_i h; exact sg_less h
          split at hs
          · rename_i h; exact sg_less h
          split at hs
          · rename_i h; exact sg_less h
          split at hs
          · rename_i h; exact sg_less h
          split at hs
          · rename_i h; exact sg_less h
          cases hs
        simp only [nodesE, nodesL]
        omega

/-- A level's weight, without its nots, and with these. -/
def W0 (x : Lvl) : Nat := nodesL x.or + x.or.length + (nodesL x.and + x.and.length)
def W1 (x : Lvl) : Nat := W0 x + x.nots
def WL : List Lvl → Nat
  | [] => 0
  | x :: r => W1 x + WL r
theorem joined_nodes (kd : Int) (l : List Ex) (e : Ex) : nodesE (joinedE kd l e) ≤ nodesL l + l.length + nodesE e := by
  cases l with
  | nil => simp [joinedE]
  | cons a r =>
    simp only [joinedE, nodes_pair, nodesL, List.length_cons]
    omega
theorem nots_nodes : ∀ (n : Nat) (e : Ex), nodesE (notsE n e) = n + nodesE e
  | 0, e => by simp [notsE]
  | n + 1, e => by
    rw [notsE, nots_nodes n]
    simp only [notE, nodesE, nodesL]
    omega
theorem ands_nodes (x : Lvl) (e : Ex) : nodesE (x.ands e) ≤ nodesL x.and + x.and.length + x.nots + nodesE e := by
  have := joined_nodes 2 x.and (notsE x.nots e)
  rw [nots_nodes] at this
  unfold Lvl.ands
  omega
theorem whole_nodes (x : Lvl) (e : Ex) : nodesE (x.whole e) ≤ W1 x + nodesE e := by
  have h1 := joined_nodes 1 x.or (x.ands e)
  have h2 := ands_nodes x e
  unfold Lvl.whole W1 W0
  omega
theorem goes_nodes {x y : Lvl} {e : Ex} {R : List Tk} (h : goesX x e R = some y) : W0 y + R.tail.length ≤ W1 x + nodesE e + R.length := by
  unfold goesX at h
  split at h
  · rename_i hs
    cases h
    have h1 := ands_nodes x e
    have h2 := sg_less hs
    simp only [W0, W1, nodesL, List.length_cons, List.length_nil]
    omega
  · split at h
    · rename_i hs
      cases h
      have h1 := whole_nodes x e
      have h2 := sg_less hs
      simp only [W0, nodesL, List.length_cons, List.length_nil]
      omega
    · cases h
theorem close_nodes : ∀ (ar : List Lvl) (now : Lvl) (e : Ex) (R : List Tk),
    (∀ ar' y R', closeX ar now e R = .goes ar' y R' → WL ar' + W0 y + R'.length ≤ WL ar + W1 now + nodesE e + R.length) ∧ (∀ e' R', closeX ar now e R = .done e' R' → nodesE e' + R'.length ≤ WL ar + W1 now + nodesE e + R.length)
  | [], now, e, R => by
    cases hg : goesX now e R with
    | some x =>
      have he : closeX [] now e R = .goes [] x R.tail := by rw [closeX, hg]
      rw [he]
      refine ⟨fun ar' y R' h => ?_, fun e' R' h => (by cases h)⟩
      cases h
      have := goes_nodes hg
      omega
    | none =>
      have he : closeX [] now e R = .done (now.whole e) R := by rw [closeX, hg]
      rw [he]
      refine ⟨fun ar' y R' h => (by cases h), fun e' R' h => ?_⟩
      cases h
      have := whole_nodes now e
      omega
  | top :: ar, now, e, R => by
    cases hg : goesX now e R with
    | some x =>
      have he : closeX (top :: ar) now e R = .goes (top :: ar) x R.tail := by rw [closeX, hg]
      rw [he]
      refine ⟨fun ar' y R' h => ?_, fun e' R' h => (by cases h)⟩
      cases h
      have := goes_nodes hg
      omega
    | none =>
      by_cases hs : sgL [41] R = true
      · have he : closeX (top :: ar) now e R = closeX ar top (now.whole e) R.tail := by
          rw [closeX, hg]
          dsimp only
          rw [if_pos hs]
        rw [he]
        obtain ⟨h1, h2⟩ := close_nodes ar top (now.whole e) R.tail
        have h3 := whole_nodes now e
        have h4 := sg_less hs
        refine ⟨fun ar' y R' h => ?_, fun e' R' h => ?_⟩
        · have := h1 _ _ _ h
          simp only [WL]
          omega
        · have := h2 _ _ h
          simp only [WL]
          omega
      · have he : closeX (top :: ar) now e R = .bad R := by
          rw [closeX, hg]
          dsimp only
          rw [if_neg hs]
        rw [he]
        exact ⟨fun ar' y R' h => (by cases h), fun e' R' h => (by cases h)⟩
theorem notsN_less : ∀ R : List Tk, (R.drop (notsN R)).length + notsN R = R.length
  | [] => rfl
  | t :: r => by
    unfold notsN
    split
    · rw [List.drop_succ_cons, List.length_cons]
      have := notsN_less r
      omega
    · rw [List.drop_zero]
      omega
theorem either_nodes : ∀ (f : Nat) (ar : List Lvl) (now : Lvl) (R R' : List Tk) (e : Ex), eitherX f ar now R = .ok (e, R') → nodesE e + R'.length ≤ WL ar + W0 now + R.length
  | 0, ar, now, R, R', e, h => by cases h
  | f + 1, ar, now, R, R', e, h => by
    have hn := notsN_less R
    unfold eitherX at h
    split at h
    · rename_i hs
      have h1 := either_nodes f _ _ _ _ _ h
      have h2 := sg_less hs
      have h3 : W0 Lvl.zero = 0 := rfl
      have h4 : W1 { now with nots := notsN R } = W0 now + notsN R := rfl
      simp only [WL] at h1
      omega
    · split at h
      · cases h
      · rename_i a R2 ha
        have h1 := comparison_nodes ha
        have h4 : W1 { now with nots := notsN R } = W0 now + notsN R := rfl
        obtain ⟨h5, h6⟩ := close_nodes ar { now with nots := notsN R } a R2
        split at h
        · rename_i ar' now' R3 hc
          have h2 := either_nodes f _ _ _ _ _ h
          have h3 := h5 _ _ _ hc
          omega
        · rename_i e' R3 hc
          cases h
          have h3 := h6 _ _ hc
          omega
        · cases h
theorem either_depth {f : Nat} {R R' : List Tk} {e : Ex} (h : eitherX f [] Lvl.zero R = .ok (e, R')) : depthOf e ≤ R.length := by
  have h1 := either_nodes f _ _ _ _ _ h
  have h2 := depth_nodes e
  have h3 : WL [] + W0 Lvl.zero = 0 := rfl
  omega

end Go.Proofs.YtfklajkmikanbaaGreatDoor.LandedP
