/- What the statements' own size and Few give; what is few is small. -/
import Derived.Test.YtogpicfofifbkaaGreatDoorTreePlain
import Derived.Test.YtogpicfofifbkaaGreatDoorPart3
import Derived.Test.YtogpicfofifbkaaGreatDoorChecked
namespace Go.Proofs.YtogpicfofifbkaaGreatDoor
open Go.RowKit

mutual
theorem size_bd : ∀ (e : Ex) (d : Nat), d ≤ 101 → sizeL d e ≤ 1000 * (102 - d)
  | .node kd op nm nu A c ks, d, h => by
    unfold sizeL
    split
    · omega
    · have := sizes_bd ks (d + 1) 1 (by omega)
      omega
theorem sizes_bd : ∀ (l : List Ex) (d n : Nat), d ≤ 101 → sizesL d n l ≤ max n (999 + 1000 * (102 - d))
  | [], d, n, h => by unfold sizesL; omega
  | k :: r, d, n, h => by
    unfold sizesL
    split
    · have h1 := size_bd k d h
      have h2 := sizes_bd r d (n + sizeL d k) h
      omega
    · omega
end
theorem sizes_ge : ∀ (l : List Ex) (d n : Nat), n ≤ sizesL d n l
  | [], d, n => by unfold sizesL; omega
  | k :: r, d, n => by
    unfold sizesL
    split
    · have := sizes_ge r d (n + sizeL d k)
      omega
    · omega
theorem size_pos : ∀ (e : Ex) (d : Nat), 1 ≤ sizeL d e
  | .node kd op nm nu A c ks, d => by
    unfold sizeL
    split
    · omega
    · exact sizes_ge ks (d + 1) 1
theorem sizes_stop : ∀ (l m : List Ex) (d n : Nat), 1000 ≤ sizesL d n l → sizesL d n (l ++ m) = sizesL d n l
  | [], [], d, n, _ => rfl
  | [], y :: m, d, n, h => by
    rw [List.nil_append]
    unfold sizesL at h ⊢
    rw [if_neg (by omega)]
  | x :: l, m, d, n, h => by
    rw [List.cons_append]
    unfold sizesL at h ⊢
    split at h <;> rename_i hn
    · rw [if_pos hn, if_pos hn]
      exact sizes_stop l m d _ h
    · rw [if_neg hn, if_neg hn]
theorem sizes_snoc : ∀ (l : List Ex) (d n : Nat) (x : Ex), sizesL d n l < 1000 → sizesL d n (l ++ [x]) = sizesL d n l + sizeL d x
  | [], d, n, x, h => by
    rw [List.nil_append]
    unfold sizesL at h
    rw [show sizesL d n [x] = if n < 1000 then sizesL d (n + sizeL d x) [] else n from by conv => lhs; unfold sizesL, if_pos h]
    unfold sizesL
    rfl
  | y :: l, d, n, x, h => by
    rw [List.cons_append]
    unfold sizesL at h ⊢
    split at h <;> rename_i hn
    · rw [if_pos hn, if_pos hn]
      exact sizes_snoc l d _ x h
    · omega

mutual
theorem size_small : ∀ (e : Ex) (d : Nat), sizeL d e < 1000 → ExSmall e ∧ depthOf e ≤ sizeL d e
  | .node kd op nm nu A c ks, d, h => by
    unfold sizeL at h ⊢
    split at h <;> rename_i hq
    · omega
    · rw [if_neg hq]
      obtain ⟨h1, h2, h3⟩ := sizes_small ks (d + 1) 1 h
      refine ⟨.mk (by omega) (by omega) (by omega) h1, ?_⟩
      rw [depth_node]
      have := h3 0
      omega
theorem sizes_small : ∀ (l : List Ex) (d n : Nat), sizesL d n l < 1000 → (∀ k ∈ l, ExSmall k) ∧ l.length + n ≤ sizesL d n l ∧ ∀ m, depthsOf m l + n ≤ max (m + n) (sizesL d n l)
  | [], d, n, h => by
    unfold sizesL at h ⊢
    refine ⟨fun k hk => absurd hk (by simp), by simp, fun m => ?_⟩
    unfold depthsOf
    omega
  | k :: r, d, n, h => by
    unfold sizesL at h ⊢
    split at h <;> rename_i hn
    · rw [if_pos hn]
      obtain ⟨h1, h2, h3⟩ := sizes_small r d (n + sizeL d k) h
      have hp := size_pos k d
      obtain ⟨h4, h5⟩ := size_small k d (by have := sizes_ge r d (n + sizeL d k); omega)
      refine ⟨fun x hx => ?_, by simp only [List.length_cons]; omega, fun m => ?_⟩
      · rcases List.mem_cons.1 hx with rfl | hx
        · exact h4
        · exact h1 x hx
      · unfold depthsOf
        have := h3 (if m < depthOf k then depthOf k else m)
        split at this <;> rename_i hm <;> simp only [hm, if_true, if_false] <;> omega
    · omega
end

def Sizing (e : Ex) (ks : List Ex) (d : Nat) (w : World) (n i : Value) (wr : World) : Prop :=
  (∃ k : Nat, k ≤ ks.length ∧ i = .int .i64 k ∧ n = .int .i64 (sizesL (d + 1) 1 (ks.take k) : Nat)) ∧ Below w.heap.size w wr ∧ Box wr w.heap.size 25 e.cells.toArray

set_option maxRecDepth 100000 in
set_option maxHeartbeats 1000000 in
theorem size_in {w0 : World} {B : Nat} {e : Ex} (hin : ExIn w0 B e) : ∀ (w : World) (d : Nat), Below B w0 w → B ≤ w.heap.size → d ≤ 101 →
    Calls Tryz.prog 19 #[e.val, .int .i64 (d : Int)] w (Quietly (.int .i64 (sizeL d e : Nat)) w) := by
  induction hin with
  | @mk kd op nm nu A c ks lies all cap room hk ho hn hu ih =>
  intro w d hbw hB hd
  have hml : maxLen = 9223372036854775807 := by decide
  have hcl : ks.length ≤ 9223372036854775807 := by rw [← hml]; exact Nat.le_trans cap room
  clear hml
  have hks : SlIn w B 5 Ex.cells (ExIn w0 B) A c ks := ⟨lies.below hbw, all, cap, room⟩
  obtain ⟨V, hV⟩ : ∃ V, V = sizeL d (.node kd op nm nu A c ks) := ⟨_, rfl⟩
  rw [← hV]
  have HV : Hid (V = if 100 < d ∨ 60 < nm.size ∨ 20 < op.size then 1000 else sizesL (d + 1) 1 ks) := by
    unfold Hid
    rw [hV]
    conv => lhs; unfold sizeL
  clear hV lies all
  unfold Ex.val
  simp only
  by_cases h1 : 100 < d
  · have HF : Hid (V = 1000) := by unfold Hid; rw [HV.out, if_pos (.inl h1)]
    have h1I : (100 : Int) < (d : Int) := by omega
    clear ih hks
    go_enter Tryz.func19, Tryz.ntmps19
    go_wp2
    go_ret
    exact ⟨by rw [HF.out]; rfl, boxed _ _⟩
  · have h1I : ¬ (100 : Int) < (d : Int) := by omega
    by_cases h2 : 60 < nm.size
    · have HF : Hid (V = 1000) := by unfold Hid; rw [HV.out, if_pos (.inr (.inl h2))]
      have h2I : (60 : Int) < (nm.size : Int) := by omega
      clear ih hks
      go_enter Tryz.func19, Tryz.ntmps19
      go_wp2
      go_ret
      exact ⟨by rw [HF.out]; rfl, boxed _ _⟩
    · have h2I : ¬ (60 : Int) < (nm.size : Int) := by omega
      by_cases h3 : 20 < op.size
      · have HF : Hid (V = 1000) := by unfold Hid; rw [HV.out, if_pos (.inr (.inr h3))]
        have h3I : (20 : Int) < (op.size : Int) := by omega
        clear ih hks
        go_enter Tryz.func19, Tryz.ntmps19
        go_wp2
        go_ret
        exact ⟨by rw [HF.out]; rfl, boxed _ _⟩
      · have h3I : ¬ (20 : Int) < (op.size : Int) := by omega
        have HF : Hid (V = sizesL (d + 1) 1 ks) := by unfold Hid; rw [HV.out, if_neg (by omega)]
        clear h2 h3
        go_enter Tryz.func19, Tryz.ntmps19
        go_wp2
        go_loopw [5, 6] (fun n i wr => Sizing (.node kd op nm nu A c ks) ks d w n i wr) (fun _ i _ => ks.length - (intOf i).toNat)
        case atStart => exact ⟨⟨0, Nat.zero_le _, rfl, by rw [List.take_zero]; unfold sizesL; rfl⟩, boxed _ _, Box.new _ _ _⟩
        case round =>
          obtain ⟨⟨k, hkl, rfl, rfl⟩, hnx, hbx⟩ := hrel
          have HB := Lib.hid hbx
          obtain ⟨_, _, _, q3, q4, q5⟩ := box_ex (show Box wr w.heap.size 25 #[.int .i64 kd, .string op, .string nm, .int .u64 nu, .slice A ks.length c] from hbx)
          clear hbx
          have hbd := sizes_bd (ks.take k) (d + 1) 1 (by omega)
          obtain ⟨M, hM⟩ : ∃ M, M = sizesL (d + 1) 1 (ks.take k) := ⟨_, rfl⟩
          by_cases hlt : k < ks.length
          · have hkI : (k : Int) < (ks.length : Int) := by omega
            by_cases h4 : M < 1000
            · have h4I : (M : Int) < 1000 := by omega
              obtain ⟨b, o, kd0, op0, nm0, nu0, A0, c0, ks0, hA, hb, hx, hin0, hm, e0, e1, e2, e3, e4⟩ := (hks.mono (hnx.mono hB) (Q := ExIn w0 B) fun _ _ h => h).ex hlt
              rw [hA] at q4
              have hsn := sizes_snoc (ks.take k) (d + 1) 1 (.node kd0 op0 nm0 nu0 A0 c0 ks0) (by omega)
              rw [← take_one hx, ← hM] at hsn
              have hbk := size_bd (.node kd0 op0 nm0 nu0 A0 c0 ks0) (d + 1) (by omega)
              have HI := Lib.hid (ih _ hm wr (d + 1) (hbw.trans (hnx.mono hB)) (Nat.le_trans hB hnx.size) (by omega))
              obtain ⟨D, hD⟩ : ∃ D, D = sizeL (d + 1) (.node kd0 op0 nm0 nu0 A0 c0 ks0) := ⟨_, rfl⟩
              rw [← hD] at hsn hbk HI
              rw [← hM] at hbd ⊢
              have HS := Lib.hid hsn
              unfold Ex.val at HI
              simp only at HI
              have HA := Lib.hid hA
              clear hsn hD hM hx hin0 hm hks ih hA
              go_wp2_with fail
              refine (HI.out).mono ?_
              rintro r w2 ⟨rfl, hb2⟩
              go_wp2
              go_roundw
              case rel => exact ⟨⟨k + 1, by omega, by go_num, by rw [HS.out]; go_num⟩, below_step hnx (Nat.le_refl _) hb2, HB.out.step hb2⟩
              case measure => simp [intOf]; omega
            · have h4I : ¬ (M : Int) < 1000 := by omega
              have HE : Hid (V = M) := by
                have := sizes_stop (ks.take k) (ks.drop k) (d + 1) 1 (by omega)
                rw [List.take_append_drop] at this
                unfold Hid
                rw [HF.out, this, hM]
              rw [← hM]
              clear hM h4 hks ih
              go_wp2
              go_ret
              exact ⟨by rw [HE.out]; rfl, hnx⟩
          · obtain rfl : k = ks.length := by omega
            have HE : Hid (V = M) := by unfold Hid; rw [HF.out, hM, List.take_length]
            rw [← hM]
            clear hM hks ih
            go_wp2
            go_ret
            exact ⟨by rw [HE.out]; rfl, hnx⟩

theorem few_any (e : Ex) (w : World) (hin : ExIn w w.heap.size e) : Calls Tryz.prog 5 #[e.val] w (Quietly (.bool (fewE e)) w) := by
  have HS : Hid (∀ W : World, Below w.heap.size w W → Calls Tryz.prog 19 #[e.val, .int .i64 0] W (Quietly (.int .i64 (sizeL 0 e : Nat)) W)) := fun W hW => size_in hin W 0 hW hW.size (by omega)
  have hbd := size_bd e 0 (by omega)
  have HF : Hid (fewE e = decide (sizeL 0 e ≤ 300)) := rfl
  rw [HF.out]
  obtain ⟨D, hD⟩ : ∃ D, D = sizeL 0 e := ⟨_, rfl⟩
  rw [← hD] at HS hbd ⊢
  clear hD hin HF
  obtain ⟨kd, op, nm, nu, A, c, ks⟩ := e
  unfold Ex.val at HS ⊢
  simp only at HS ⊢
  by_cases h : D ≤ 300
  · have hI : (D : Int) ≤ 300 := by omega
    go_enter Tryz.func5, Tryz.ntmps5
    go_wp2_with fail
    refine (HS.out _ (boxed _ _)).mono ?_
    rintro r w1 ⟨rfl, hb1⟩
    go_wp2
    go_ret
    exact ⟨ret_bool (by simp [h]), unbox hb1⟩
  · have hI : ¬ (D : Int) ≤ 300 := by omega
    go_enter Tryz.func5, Tryz.ntmps5
    go_wp2_with fail
    refine (HS.out _ (boxed _ _)).mono ?_
    rintro r w1 ⟨rfl, hb1⟩
    go_wp2
    go_ret
    exact ⟨ret_bool (by simp [h]; omega), unbox hb1⟩

end Go.Proofs.YtogpicfofifbkaaGreatDoor
