/- What the landed parser's number gives. Condition: what the start lays, as far as the library reads it. -/
import Derived.Test.YtfklajkmikanbaaGreatDoorPart12
import Derived.Test.YtfklajkmikanbaaGreatDoorSeqFree
namespace Go.Proofs.YtfklajkmikanbaaGreatDoor.LandedP
open Go.RowKit

abbrev exZero : Array Value := #[.int .i64 0, .string ⟨#[]⟩, .string ⟨#[]⟩, .int .u64 0, .slice none 0 0]

/-- The loop's state: a number so far, in block k, and n rounds at most; or what is wrong. -/
def NumSt (w0 : World) (g k : Nat) (E : Env) (X : Rx Ex) (n : Nat) (b : Value × World) : Prop :=
  Box b.2 w0.heap.size 48 exZero ∧ w0.grownBy b.2 (some g) ∧
  ((∃ (m : Nat) (e : Ex) (R' : List Tk), n = m + 1 ∧ b.1 = .bool true ∧ X = numLoop (m + 1) e.bare R' ∧ R'.length ≤ m ∧ Box b.2 k 48 e.cells.toArray ∧ ExP (fun x => w0.heap.size < x ∧ x ≠ k) b.2 e ∧ RdrAt 66 b.2 g E R' Flt.none) ∨
   (n = 0 ∧ ∃ (err : Int) (R' : List Tk) (e : Ex), b.1 = .bool false ∧ X = .error (err, R') ∧ Box b.2 k 48 e.cells.toArray ∧ Wrong 66 b.2 g E err R'))

theorem single_len {R R' : List Tk} {e : Ex} (h : singleX R = .ok (e, R')) : R'.length + 1 = R.length := by
  unfold singleX at h
  split at h
  · rename_i v hv
    obtain ⟨t, r, rfl, _⟩ := numH_cons hv
    cases h
    rfl
  · split at h
    · rename_i s hs
      obtain ⟨t, r, rfl, _⟩ := nameH_cons hs
      cases h
      rfl
    · cases h

section
variable {w : World} {g : Nat} {E : Env} {R : List Tk}

theorem pair_bare (kd : Int) (A : Option Addr) (c : Nat) (a b : Ex) : (Ex.node kd ⟨#[]⟩ ⟨#[]⟩ 0 A c [a, b]).bare = pairE kd a.bare b.bare := rfl
/-- Two kids that have just been laid. -/
theorem pair_in {P : Nat → Prop} {w w1 : World} {kd : Int} {T : TypeId} {a b : Ex} (k : Nat) (hk : k = w.heap.size) (hkd : I64 kd) (hw : w1 = w.alloc (.cells (a.cells.toArray ++ b.cells.toArray) T)) (hP : P k) (ha : ExP P w1 a) (hb : ExP P w1 b) :
    ExP P w1 (.node kd ⟨#[]⟩ ⟨#[]⟩ 0 (some ⟨k, 0, none⟩) 2 [a, b]) := by
  subst hw
  refine .mk (.new k hk (by simp) (by simp [Ex.cells_len]) hP) (fun x hx => ?_) (Nat.le_refl _) (by decide) hkd (by decide) (by decide) (by unfold U64; omega)
  rcases List.mem_cons.1 hx with rfl | hx
  · exact ha
  · obtain rfl : x = b := by simpa using hx
    exact hb

set_option maxRecDepth 100000 in
set_option maxHeartbeats 4000000 in
theorem number_any (hE : ∀ W, E.laid W → Laid W) (h : RdrAt 66 w g E R Flt.none) :
    Calls Tryz.prog 32 #[.pointer (some ⟨g, 0, none⟩)] w (Gave 66 g E (ExNew w.heap.size) ExShape (numberX R) w) := by
  have HSI := Lib.hid (single_any hE (h.alloc (.cells exZero 48)))
  have HGL := Lib.hid h.lt
  clear h
  go_enter Tryz.func32, Tryz.ntmps32
  go_wp2_with fail
  refine HSI.out.mono ?_
  rintro e w1 ⟨hg1, h1⟩
  have hB1 := box_only (Box.new w 48 exZero) (by have := HGL.out; omega) hg1
  have hG1 := only_trans (only_alloc w (.cells exZero 48) g) hg1
  obtain ⟨m, hm⟩ := least_measure (NumSt w g w1.heap.size E (numberX R))
  have HM := Lib.hid hm
  clear HSI hg1 hm
  have hkk : w.heap.size < w1.heap.size := hB1.lt
  have hgg : g < w1.heap.size := Nat.lt_trans HGL.out hkk
  have H1 : Hid (∃ (b : Bool) (e1 : Ex), e = .returned (.tuple #[e1.val, .bool b]) ∧ ∃ n, NumSt w g w1.heap.size E (numberX R) n (.bool b, w1.alloc (.cells e1.cells.toArray 48))) := by
    rcases h1 with ⟨a, R', v, hx, rfl, ⟨e1, rfl, rfl, he⟩, hr⟩ | ⟨err, R', v, hx, rfl, ⟨e1, rfl⟩, hr⟩
    · refine ⟨true, e1, rfl, R'.length + 1, hB1.alloc _, grow_alloc hG1 _, .inl ⟨R'.length, e1, R', rfl, rfl, ?_, Nat.le_refl _, Box.new _ _ _, (he.move (Move.grown (World.grownBy_alloc w1 _ none) fun b hb hp => ⟨⟨?_, Nat.ne_of_lt hb⟩, by simp⟩)), hr.alloc _⟩⟩
      · unfold numberX; rw [hx]
      · simp at hp; omega
    · refine ⟨false, e1, rfl, 0, hB1.alloc _, grow_alloc hG1 _, .inr ⟨rfl, err, R', e1, rfl, ?_, Box.new _ _ _, hr.step ((Below.refl _ _).alloc (Nat.le_refl _) _)⟩⟩
      unfold numberX; rw [hx]
  clear h1 hB1 hG1
  obtain ⟨b, e1, rfl, HN⟩ := H1.out
  clear H1
  have HN := Lib.hid HN
  obtain ⟨kd, op, nm, nu, A, c, ks⟩ := e1
  unfold Ex.val Ex.cells at *
  dsimp only at HN ⊢
  go_wp2_with fail
  go_loopw [5] (fun v wr => ∃ n, NumSt w g w1.heap.size E (numberX R) n (v, wr)) (fun v wr => m (v, wr))
  case atStart => exact HN.out
  case round =>
    clear HN
    obtain ⟨n, hr⟩ := hrel
    obtain ⟨⟨hz, hg, hs⟩, _⟩ := HM.out _ n hr
    clear hr
    rcases hs with ⟨f, e, R', hf, rfl, hX, hR', hbx, hex, hrd⟩ | ⟨hf, err, R', e, rfl, hX, hbx, hwr⟩
    · have HSG := Lib.hid (sign_any hrd ⟨#[124]⟩)
      rw [show ((⟨#[124]⟩ : ByteArray)).data.toList = [124] from rfl] at HSG
      have HZ := Lib.hid hz
      have HG := Lib.hid hg
      have HX := Lib.hid hX
      have HBX := Lib.hid hbx
      have HEX := Lib.hid hex
      have HF := Lib.hid hf
      have HR' := Lib.hid hR'
      clear hz hg hX hbx hex hrd hf hR'
      obtain ⟨kd', op', nm', nu', A', c', ks'⟩ := e
      unfold Ex.cells at HBX
      dsimp only at HBX
      cases hsg : sgL [124] R'
      · rw [hsg] at HSG
        have HE : Hid (numberX R = .ok ((Ex.node kd' op' nm' nu' A' c' ks').bare, R')) := by
          have := HX.out
          rw [numLoop, if_neg (by rw [hsg]; decide)] at this
          exact this
        clear hsg HX
        go_wp2_with fail
        refine HSG.out.mono ?_
        rintro e w2 ⟨rfl, h3, h4⟩
        have HB2 := Lib.hid (box_only HBX.out (by have := hgg; omega) h4)
        have HZ2 := Lib.hid (box_only HZ.out (by have := HGL.out; omega) h4)
        have HG2 := Lib.hid (only_trans HG.out h4)
        have HEX2 := Lib.hid (HEX.out.move (Q := fun x => w.heap.size < x ∧ x ≠ w1.heap.size) (Move.grown h4 fun b hb hp => ⟨hp, by have := HGL.out; simp; omega⟩))
        have HR2 := Lib.hid h3
        clear h3 h4 HBX HZ HG HEX HSG
        obtain ⟨q0, q1, q2, q3, q4, z0, z1, z2, z3, z4, hl⟩ := box5 HB2.out
        obtain ⟨p0, p1, p2, p3, p4, y0, y1, y2, y3, y4, hl2⟩ := box5 HZ2.out
        go_wp2_with fail
        try simp only [Exit.inBlock, Exit.then]
        refine bodyPost_ret (results_box_tmp rfl _ _ w.heap.size 48 _ rfl (set5_box HZ2.out) _ Tryz.underlying48 rfl exSize) rfl ⟨grow_new HG2.out set5_only (Nat.le_refl _), .inl ⟨_, R', _, HE.out, rfl, ⟨_, rfl, rfl, ?_⟩, HR2.out.other set5_only HGL.out⟩⟩
        exact HEX2.out.move (Move.grown set5_only fun b hb hp => ⟨Nat.le_of_lt hp.1, fun e => by have := Option.some.inj e; omega⟩)
      · rw [hsg] at HSG
        have HE : Hid (f = f ∧ numberX R = match singleX R'.tail with
            | .error x => .error x
            | .ok (x, R2) => numLoop f (pairE 8 (Ex.node kd' op' nm' nu' A' c' ks').bare x) R2) := by
          have := HX.out
          rw [numLoop, if_pos hsg] at this
          exact ⟨rfl, this⟩
        have hlt : R'.tail.length < f := by
          obtain ⟨t, r, rfl, _⟩ := isL_cons hsg
          have := HR'.out
          simp only [List.length_cons, List.tail_cons] at this ⊢
          omega
        have HLT := Lib.hid hlt
        clear hsg HX hlt
        go_wp2_with fail
        refine HSG.out.mono ?_
        rintro e w2 ⟨rfl, h3, h4⟩
        have HB2 := Lib.hid (box_only HBX.out (by have := hgg; omega) h4)
        have HZ2 := Lib.hid (box_only HZ.out (by have := HGL.out; omega) h4)
        have HG2 := Lib.hid (only_trans HG.out h4)
        have HEX2 := Lib.hid (HEX.out.move (Q := fun x => w.heap.size < x ∧ x ≠ w1.heap.size) (Move.grown h4 fun b hb hp => ⟨hp, by have := HGL.out; simp; omega⟩))
        have HSI := Lib.hid (single_any hE (h3.alloc (.cells exZero 48)))
        clear h3 h4 HBX HZ HG HEX HSG
        go_wp2_with fail
        refine HSI.out.mono ?_
        rintro e w3 ⟨hg3, h3⟩
        have hgl2 : g < w2.heap.size := Nat.lt_trans hgg HB2.out.lt
        have HBN := Lib.hid (box_only (Box.new w2 48 exZero) (by omega) hg3)
        have HB3 := Lib.hid (box_only (HB2.out.alloc (.cells exZero 48)) (by have := hgg; omega) hg3)
        have HZ3 := Lib.hid (box_only (HZ2.out.alloc (.cells exZero 48)) (by have := HGL.out; omega) hg3)
        have HG3 := Lib.hid (only_trans (only_trans HG2.out (only_alloc w2 (.cells exZero 48) g)) hg3)
        have HEX3 := Lib.hid (HEX2.out.move (Q := fun x => w.heap.size < x ∧ x ≠ w1.heap.size ∧ x ≠ w2.heap.size) (Move.grown (only_trans (only_alloc w2 (.cells exZero 48) g) hg3) fun b hb hp => ⟨⟨hp.1, hp.2, Nat.ne_of_lt hb⟩, by have := HGL.out; simp; omega⟩))
        have hk2 := HB2.out.lt
        have HK2 := Lib.hid hk2
        have H3 : Hid (∃ (b : Bool) (e2 : Ex), e = .returned (.tuple #[e2.val, .bool b]) ∧ ((b = true ∧ ∃ R2, singleX R'.tail = .ok (e2.bare, R2) ∧ ExP (fun x => w2.heap.size < x) w3 e2 ∧ RdrAt 66 w3 g E R2 Flt.none) ∨ (b = false ∧ ∃ err R2, singleX R'.tail = .error (err, R2) ∧ Wrong 66 w3 g E err R2))) := by
          rcases h3 with ⟨a, R2, v, hx, rfl, ⟨e2, rfl, rfl, he⟩, hr⟩ | ⟨err, R2, v, hx, rfl, ⟨e2, rfl⟩, hr⟩
          · exact ⟨true, e2, rfl, .inl ⟨rfl, R2, hx, he.move (Move.of _ fun b hb hp => by simp at hp; omega), hr⟩⟩
          · exact ⟨false, e2, rfl, .inr ⟨rfl, err, R2, hx, hr⟩⟩
        clear h3 hg3 HB2 HZ2 HG2 HEX2 HSI
        obtain ⟨b, e2, rfl, H4⟩ := H3.out
        have H4 := Lib.hid H4
        clear H3
        obtain ⟨kd2, op2, nm2, nu2, A2, c2, ks2⟩ := e2
        unfold Ex.val
        dsimp only
        obtain ⟨q0, q1, q2, q3, q4, z0, z1, z2, z3, z4, hl⟩ := box5 HBN.out
        go_upto_region 5 with (fail)
        have HBN4 := Lib.hid (set5_box (a0 := .int .i64 kd2) (a1 := .string op2) (a2 := .string nm2) (a3 := .int .u64 nu2) (a4 := .slice A2 ks2.length c2) HBN.out)
        have HO4 : Hid (w3.grownBy (((((w3.setCell ⟨w2.heap.size, 0, none⟩ (.int .i64 kd2)).setCell ⟨w2.heap.size, 1, none⟩ (.string op2)).setCell ⟨w2.heap.size, 2, none⟩ (.string nm2)).setCell ⟨w2.heap.size, 3, none⟩ (.int .u64 nu2)).setCell ⟨w2.heap.size, 4, none⟩ (.slice A2 ks2.length c2)) (some w2.heap.size)) := set5_only
        generalize ((((w3.setCell ⟨w2.heap.size, 0, none⟩ (.int .i64 kd2)).setCell ⟨w2.heap.size, 1, none⟩ (.string op2)).setCell ⟨w2.heap.size, 2, none⟩ (.string nm2)).setCell ⟨w2.heap.size, 3, none⟩ (.int .u64 nu2)).setCell ⟨w2.heap.size, 4, none⟩ (.slice A2 ks2.length c2) = w4 at *
        clear q0 q1 q2 q3 q4 z0 z1 z2 z3 z4 hl HBN
        have HB4 := Lib.hid (box_only HB3.out (Nat.ne_of_lt HK2.out) HO4.out)
        have HZ4 := Lib.hid (box_only HZ3.out (by have := HK2.out; omega) HO4.out)
        have HG4 := Lib.hid (grow_new HG3.out HO4.out (by have := HK2.out; omega))
        have HEX4 := Lib.hid (HEX3.out.move (Q := fun x => w.heap.size < x ∧ x ≠ w1.heap.size) (Move.grown HO4.out fun b hb hp => ⟨⟨hp.1, hp.2.1⟩, by simp; omega⟩))
        obtain ⟨q0, q1, q2, q3, q4, z0, z1, z2, z3, z4, hl⟩ := box5 HB4.out
        obtain ⟨p0, p1, p2, p3, p4, y0, y1, y2, y3, y4, hl2⟩ := box5 HBN4.out
        clear HB3 HZ3 HG3 HEX3
        go_wp2
        have hB5 := set5_box (a0 := .int .i64 8) (a1 := .string ⟨#[]⟩) (a2 := .string ⟨#[]⟩) (a3 := .int .u64 0) (a4 := .slice (some ⟨w4.heap.size, 0, none⟩) 2 2) HB4.out
        have hO5 : w4.grownBy (((((w4.setCell ⟨w1.heap.size, 0, none⟩ (.int .i64 8)).setCell ⟨w1.heap.size, 1, none⟩ (.string ⟨#[]⟩)).setCell ⟨w1.heap.size, 2, none⟩ (.string ⟨#[]⟩)).setCell ⟨w1.heap.size, 3, none⟩ (.int .u64 0)).setCell ⟨w1.heap.size, 4, none⟩ (.slice (some ⟨w4.heap.size, 0, none⟩) 2 2)) (some w1.heap.size) := set5_only
        have hs5 : (((((w4.setCell ⟨w1.heap.size, 0, none⟩ (.int .i64 8)).setCell ⟨w1.heap.size, 1, none⟩ (.string ⟨#[]⟩)).setCell ⟨w1.heap.size, 2, none⟩ (.string ⟨#[]⟩)).setCell ⟨w1.heap.size, 3, none⟩ (.int .u64 0)).setCell ⟨w1.heap.size, 4, none⟩ (.slice (some ⟨w4.heap.size, 0, none⟩) 2 2)).heap.size = w4.heap.size := by simp [World.setCell]
        generalize ((((w4.setCell ⟨w1.heap.size, 0, none⟩ (.int .i64 8)).setCell ⟨w1.heap.size, 1, none⟩ (.string ⟨#[]⟩)).setCell ⟨w1.heap.size, 2, none⟩ (.string ⟨#[]⟩)).setCell ⟨w1.heap.size, 3, none⟩ (.int .u64 0)).setCell ⟨w1.heap.size, 4, none⟩ (.slice (some ⟨w4.heap.size, 0, none⟩) 2 2) = w5 at *
        have hk4 := HB4.out.lt
        have hn4 := HBN4.out.lt
        have hex5 := HEX4.out.move (Q := fun x => w.heap.size < x ∧ x ≠ w1.heap.size) ((Move.grown (Q := fun x => w.heap.size < x ∧ x ≠ w1.heap.size) hO5 fun b hb hp => ⟨hp, by simp; omega⟩).trans (Move.grown (World.grownBy_alloc w5 (.cells ((Ex.node kd' op' nm' nu' A' c' ks').cells.toArray ++ (Ex.node kd2 op2 nm2 nu2 A2 c2 ks2).cells.toArray) 48) none) fun b hb hp => ⟨hp, by simp⟩))
        have hfin : ∃ n', n' ≤ f ∧ NumSt w g w1.heap.size E (numberX R) n' (.bool b, w5.alloc (.cells ((Ex.node kd' op' nm' nu' A' c' ks').cells.toArray ++ (Ex.node kd2 op2 nm2 nu2 A2 c2 ks2).cells.toArray) 48)) := by
          have hz5 := box_only HZ4.out (Nat.ne_of_lt hkk) hO5
          have hg5 := grow_alloc (grow_new HG4.out hO5 (Nat.le_of_lt hkk)) (.cells ((Ex.node kd' op' nm' nu' A' c' ks').cells.toArray ++ (Ex.node kd2 op2 nm2 nu2 A2 c2 ks2).cells.toArray) 48)
          rcases H4.out with ⟨rfl, R2, hx, he2, hr2⟩ | ⟨rfl, err, R2, hx, hr2⟩
          · have hl2 := single_len hx
            have hlt := HLT.out
            obtain ⟨f', rfl⟩ : ∃ f', f = f' + 1 := ⟨f - 1, by omega⟩
            refine ⟨f' + 1, Nat.le_refl _, hz5.alloc _, hg5, .inl ⟨f', .node 8 ⟨#[]⟩ ⟨#[]⟩ 0 (some ⟨w4.heap.size, 0, none⟩) 2 [.node kd' op' nm' nu' A' c' ks', .node kd2 op2 nm2 nu2 A2 c2 ks2], R2, rfl, rfl, ?_, by omega, hB5.alloc _, ?_, ?_⟩⟩
            · have := HE.out
              rw [hx] at this
              rw [pair_bare]
              exact this.2
            · refine pair_in w4.heap.size hs5.symm (by unfold I64; omega) rfl ⟨by omega, by omega⟩ hex5 ?_
              refine he2.move ((Move.grown (Q := fun x => w2.heap.size < x) HO4.out fun b hb hp => ⟨hp, by simp; omega⟩).trans ((Move.grown (Q := fun x => w2.heap.size < x) hO5 fun b hb hp => ⟨hp, by simp; omega⟩).trans (Move.grown (World.grownBy_alloc w5 _ none) fun b hb hp => ⟨⟨by omega, by omega⟩, by simp⟩)))
            · exact ((hr2.other HO4.out (by omega)).other hO5 hgg).alloc _
          · refine ⟨0, Nat.zero_le _, hz5.alloc _, hg5, .inr ⟨rfl, err, R2, .node 8 ⟨#[]⟩ ⟨#[]⟩ 0 (some ⟨w4.heap.size, 0, none⟩) 2 [.node kd' op' nm' nu' A' c' ks', .node kd2 op2 nm2 nu2 A2 c2 ks2], rfl, ?_, hB5.alloc _, ?_⟩⟩
            · have := HE.out
              rw [hx] at this
              exact this.2
            · exact ((hr2.other HO4.out (by omega)).other hO5 hgg).step ((Below.refl _ _).alloc (Nat.le_refl _) _)
        obtain ⟨n', hn', hfin⟩ := hfin
        refine ⟨⟨n', hfin⟩, Nat.lt_of_le_of_lt ((HM.out _ _ hfin).2) ?_⟩
        rw [HF.out]
        omega
    · have HX := Lib.hid hX
      have HG := Lib.hid hg
      have HZ := Lib.hid hz
      have HWR := Lib.hid hwr
      obtain ⟨kd', op', nm', nu', A', c', ks'⟩ := e
      unfold Ex.cells at hbx
      dsimp only at hbx
      obtain ⟨q0, q1, q2, q3, q4, z0, z1, z2, z3, z4, hl⟩ := box5 hbx
      obtain ⟨p0, p1, p2, p3, p4, y0, y1, y2, y3, y4, hl2⟩ := box5 hz
      clear hX hg hz hwr hbx hf
      go_wp2_with fail
      try simp only [Exit.inBlock, Exit.then]
      exact bodyPost_ret (results_box_tmp rfl _ _ w.heap.size 48 _ rfl (set5_box HZ.out) _ Tryz.underlying48 rfl exSize) rfl ⟨grow_new HG.out set5_only (Nat.le_refl _), .inr ⟨err, R', _, HX.out, rfl, ⟨Ex.node kd' op' nm' nu' A' c' ks', rfl⟩, HWR.out.other set5_only HGL.out⟩⟩
end

end Go.Proofs.YtfklajkmikanbaaGreatDoor.LandedP
