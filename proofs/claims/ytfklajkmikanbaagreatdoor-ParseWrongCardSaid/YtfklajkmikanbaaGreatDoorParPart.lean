/- What the landed parser's part gives. Condition: what the start lays, as far as the library reads it. -/
import Derived.Test.YtfklajkmikanbaaGreatDoorPart21
import Derived.Test.YtfklajkmikanbaaGreatDoorParAction
namespace Go.Proofs.YtfklajkmikanbaaGreatDoor.LandedP
open Go.RowKit

def ParNew (n : Nat) (W : World) (a : Par) (v : Value) : Prop := ∃ r : Par, r.bare = a ∧ v = r.val ∧ ParP (fun b => n ≤ b) W r
def ParShape (v : Value) : Prop := ∃ s k d A n c, v = .agg #[.string s, .int .i64 k, .int .i64 d, .slice A n c]
theorem parSize : (Tryz.prog.info? 73).map (·.size) = some 4 := by kernel_rfl

section
variable {w : World} {g : Nat} {E : Env} {R : List Tk}

abbrev zPar : Array Value := #[.string ⟨#[]⟩, .int .i64 0, .int .i64 0, .slice none 0 0]

set_option maxRecDepth 100000 in
set_option maxHeartbeats 8000000 in
theorem part_use (h : RdrAt 66 w g E R Flt.none) (hu : isL 1 useL R = true) :
    Calls Tryz.prog 34 #[.pointer (some ⟨g, 0, none⟩)] w (Gave 66 g E (ParNew w.heap.size) ParShape (partX R) w) := by
  have HT : Hid (Calls Tryz.prog 26 #[.pointer (some ⟨g, 0, none⟩), .int .i64 1, .string ⟨#[85, 83, 69]⟩] (w.alloc (.cells zPar 73)) (Took g E R (isL 1 useL R) (w.alloc (.cells zPar 73)))) := by
    obtain ⟨A, c, h⟩ := h.alloc (.cells zPar 73)
    exact take_any h 1 ⟨#[85, 83, 69]⟩
  rw [hu] at HT
  have HGL := Lib.hid h.lt
  have HU := Lib.hid hu
  clear h hu
  go_enter Tryz.func34, Tryz.ntmps34
  go_wp2_with fail
  refine HT.out.mono ?_
  rintro e w1 ⟨rfl, h1, hg1⟩
  have HB1 := Lib.hid (box_only (Box.new w 73 zPar) (by have := HGL.out; omega) hg1)
  have HG1 := Lib.hid (only_trans (only_alloc w (.cells zPar 73) g) hg1)
  have HNA := Lib.hid (name_any (show RdrAt 66 w1 g E R.tail Flt.none from h1))
  clear h1 hg1 HT
  go_wp2_with fail
  refine HNA.out.mono ?_
  rintro e w2 ⟨hg2, h2⟩
  have HB2 := Lib.hid (box_only HB1.out (by have := HGL.out; omega) hg2)
  have HG2 := Lib.hid (only_trans HG1.out hg2)
  obtain ⟨p0, p1, p2, p3, y0, y1, y2, y3, hl⟩ := box4 HB2.out
  clear hg2 HNA HB1 HG1
  rcases h2 with ⟨s, hs, rfl, h2, hsi⟩ | ⟨hs, rfl, h2⟩
  · have HEQ : Hid (partX R = .ok (⟨s, 0, 0, none, 0, []⟩, R.tail.tail)) := by
      show partX R = _
      unfold partX
      rw [if_pos HU.out, hs]
    have HSI := Lib.hid hsi
    have HRR := Lib.hid h2
    clear hs h2 hsi
    go_wp2_with fail
    try simp only [Exit.inBlock, Exit.then]
    exact bodyPost_ret (results_box_tmp rfl _ _ w.heap.size 73 _ rfl (set4_box HB2.out) _ Tryz.underlying73 rfl parSize) rfl ⟨grow_new HG2.out set4_only (Nat.le_refl _), .inl ⟨_, R.tail.tail, _, HEQ.out, rfl, ⟨⟨s, 0, 0, none, 0, []⟩, rfl, rfl, ⟨HSI.out, by unfold I64; dsimp only; omega, by unfold I64; dsimp only; omega, .nil _ _ _ _ _⟩⟩, HRR.out.other set4_only HGL.out⟩⟩
  · have HEQ : Hid (partX R = .error (3, R.tail)) := by
      show partX R = _
      unfold partX
      rw [if_pos HU.out, hs]
    have HRR := Lib.hid h2
    clear hs h2
    go_wp2_with fail
    try simp only [Exit.inBlock, Exit.then]
    exact bodyPost_ret (results_box_tmp rfl _ _ w.heap.size 73 _ rfl (set4_box HB2.out) _ Tryz.underlying73 rfl parSize) rfl ⟨grow_new HG2.out set4_only (Nat.le_refl _), .inr ⟨3, R.tail, _, HEQ.out, rfl, ⟨_, _, _, _, _, _, rfl⟩, .inl ⟨rfl, HRR.out.other set4_only HGL.out⟩⟩⟩

set_option maxRecDepth 100000 in
set_option maxHeartbeats 8000000 in
theorem part_act (hE : ∀ W, E.laid W → Laid W) (h : RdrAt 66 w g E R Flt.none) (hu : isL 1 useL R = false) :
    Calls Tryz.prog 34 #[.pointer (some ⟨g, 0, none⟩)] w (Gave 66 g E (ParNew w.heap.size) ParShape (partX R) w) := by
  have HT : Hid (Calls Tryz.prog 26 #[.pointer (some ⟨g, 0, none⟩), .int .i64 1, .string ⟨#[85, 83, 69]⟩] (w.alloc (.cells zPar 73)) (Took g E R (isL 1 useL R) (w.alloc (.cells zPar 73)))) := by
    obtain ⟨A, c, h⟩ := h.alloc (.cells zPar 73)
    exact take_any h 1 ⟨#[85, 83, 69]⟩
  rw [hu] at HT
  have HGL := Lib.hid h.lt
  have HU : Hid (¬ isL 1 useL R = true) := by
    show ¬ isL 1 useL R = true
    rw [hu]; decide
  clear h hu
  go_enter Tryz.func34, Tryz.ntmps34
  go_wp2_with fail
  refine HT.out.mono ?_
  rintro e w1 ⟨rfl, h1, hg1⟩
  have HB1 := Lib.hid (box_only (Box.new w 73 zPar) (by have := HGL.out; omega) hg1)
  have HG1 := Lib.hid (only_trans (only_alloc w (.cells zPar 73) g) hg1)
  have HAC := Lib.hid (action_any hE (show RdrAt 66 w1 g E R Flt.none from h1))
  clear h1 hg1 HT
  go_wp2_with fail
  refine HAC.out.mono ?_
  rintro e w2 ⟨hg2, h2⟩
  have HB2 := Lib.hid (box_only HB1.out (by have := HGL.out; omega) hg2)
  have HG2 := Lib.hid (only_trans HG1.out hg2)
  clear hg2 HAC HB1 HG1
  rcases h2 with ⟨⟨ak, ad⟩, R2, v, hx, rfl, ⟨rfl, b1, b2⟩, hr⟩ | ⟨err, R2, v, hx, rfl, ⟨ak, ad, rfl⟩, hr⟩
  · have HX := Lib.hid hx
    have HBB := Lib.hid (And.intro b1 b2)
    have HBR := Lib.hid (bracedRul_any hE (hr.alloc (.cells #[.int .i64 ak, .int .i64 ad] 27)))
    have HBA := Lib.hid (Box.new w2 27 #[.int .i64 ak, .int .i64 ad])
    have HB2' := Lib.hid (HB2.out.alloc (.cells #[.int .i64 ak, .int .i64 ad] 27))
    have HG2' := Lib.hid (grow_alloc HG2.out (.cells #[.int .i64 ak, .int .i64 ad] 27))
    have HZ2 := Lib.hid HB2.out.lt
    clear hx hr b1 b2 HB2 HG2
    dsimp only
    go_wp2_with fail
    refine HBR.out.mono ?_
    rintro e w3 ⟨hg3, h3⟩
    have HB3 := Lib.hid (box_only HB2'.out (by have := HGL.out; omega) hg3)
    have HBA3 := Lib.hid (box_only HBA.out (by have := HGL.out; have := HZ2.out; omega) hg3)
    have HG3 := Lib.hid (only_trans HG2'.out hg3)
    obtain ⟨p0, p1, p2, p3, y0, y1, y2, y3, hl⟩ := box4 HB3.out
    obtain ⟨q0, q1, z0, z1, hl2⟩ := box2 HBA3.out
    clear hg3 HBR HB2' HG2' HBA
    rcases h3 with ⟨rs, R3, v, hy, rfl, ⟨rA, rc, rl, hrl, rfl, hrs⟩, hr⟩ | ⟨err, R3, v, hy, rfl, ⟨rA, n, rc, rfl⟩, hr⟩
    · have HEQ : Hid (partX R = .ok (⟨⟨#[]⟩, ak, ad, none, 0, rl.map Rul.bare⟩, R3)) := by
        show partX R = _
        unfold partX
        rw [if_neg HU.out, HX.out]
        dsimp only
        rw [hy, hrl]
      have hm0 : Move (fun b => (w2.alloc (.cells #[.int .i64 ak, .int .i64 ad] 27)).heap.size ≤ b) (fun b => w.heap.size < b) w3 w3 := Move.of _ fun b _ hp => by have := HZ2.out; simp at hp; omega
      have HRS := Lib.hid (hrs.move hm0 fun _ _ h => h.move hm0)
      have HRR := Lib.hid hr
      clear hy hrs hr hrl hm0
      go_wp2_with fail
      try simp only [Exit.inBlock, Exit.then]
      refine bodyPost_ret (results_box_tmp rfl _ _ w.heap.size 73 _ rfl (set4_box HB3.out) _ Tryz.underlying73 rfl parSize) rfl ⟨grow_new HG3.out set4_only (Nat.le_refl _), .inl ⟨_, R3, _, HEQ.out, rfl, ⟨⟨⟨#[]⟩, ak, ad, rA, rc, rl⟩, rfl, rfl, ?_⟩, HRR.out.other set4_only HGL.out⟩⟩
      have hm : ∀ a b d e, Move (fun b => w.heap.size < b) (fun b => w.heap.size ≤ b) w3 ((((w3.setCell ⟨w.heap.size, 0, none⟩ a).setCell ⟨w.heap.size, 1, none⟩ b).setCell ⟨w.heap.size, 2, none⟩ d).setCell ⟨w.heap.size, 3, none⟩ e) := fun a b d e => Move.grown set4_only fun b _ hp => ⟨Nat.le_of_lt hp, fun e => by have := Option.some.inj e; omega⟩
      exact ⟨by show (0 : Nat) ≤ _; omega, HBB.out.1, HBB.out.2, HRS.out.move (hm _ _ _ _) fun _ _ h => h.move (hm _ _ _ _)⟩
    · have HEQ : Hid (partX R = .error (err, R3)) := by
        show partX R = _
        unfold partX
        rw [if_neg HU.out, HX.out]
        dsimp only
        rw [hy]
      have HRR := Lib.hid hr
      clear hy hr
      go_wp2_with fail
      try simp only [Exit.inBlock, Exit.then]
      exact bodyPost_ret (results_box_tmp rfl _ _ w.heap.size 73 _ rfl (set4_box HB3.out) _ Tryz.underlying73 rfl parSize) rfl ⟨grow_new HG3.out set4_only (Nat.le_refl _), .inr ⟨err, R3, _, HEQ.out, rfl, ⟨_, _, _, _, _, _, rfl⟩, HRR.out.other set4_only HGL.out⟩⟩
  · have HEQ : Hid (partX R = .error (err, R2)) := by
      show partX R = _
      unfold partX
      rw [if_neg HU.out, hx]
    have HRR := Lib.hid hr
    obtain ⟨p0, p1, p2, p3, y0, y1, y2, y3, hl⟩ := box4 HB2.out
    clear hx hr
    go_wp2_with fail
    try simp only [Exit.inBlock, Exit.then]
    exact bodyPost_ret (results_box_tmp rfl _ _ w.heap.size 73 _ rfl ((set4_box HB2.out).alloc _) _ Tryz.underlying73 rfl parSize) rfl ⟨grow_alloc (grow_new HG2.out set4_only (Nat.le_refl _)) _, .inr ⟨err, R2, _, HEQ.out, rfl, ⟨_, _, _, _, _, _, rfl⟩, (HRR.out.other set4_only HGL.out).step ((Below.refl _ _).alloc (Nat.le_refl _) _)⟩⟩

theorem part_any (hE : ∀ W, E.laid W → Laid W) (h : RdrAt 66 w g E R Flt.none) :
    Calls Tryz.prog 34 #[.pointer (some ⟨g, 0, none⟩)] w (Gave 66 g E (ParNew w.heap.size) ParShape (partX R) w) := by
  cases hu : isL 1 useL R
  · exact part_act hE h hu
  · exact part_use h hu
end

end Go.Proofs.YtfklajkmikanbaaGreatDoor.LandedP
