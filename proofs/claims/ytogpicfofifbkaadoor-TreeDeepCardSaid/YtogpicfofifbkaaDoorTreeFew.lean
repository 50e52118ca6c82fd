/- What the statements' own size and Few give; what is few is small. -/
import Derived.Test.YtogpicfofifbkaaDoorTreePlain
import Derived.Test.YtogpicfofifbkaaDoorLetters
import Derived.Test.YtogpicfofifbkaaDoorChecked
namespace Go.Proofs.YtogpicfofifbkaaDoor
open Go.RowKit

mutual
theorem size_bd : ∀ (e : Ex) (d : Nat), d ≤ 101 → sizeL d e ≤ 1000 * (102 - d)
  | .node kd op nm nu A c ks, d, h => by
    unfold sizeL
    split
    · omega
    · have := sizes_bd ks (d + 1) 1 (by omega)
      omega
theorem sizes_bd : ∀ (l : List Ex) (d n : Nat), d ≤ 101 → sizesL d n l ≤ max n (999 + 1000 * (102 - d))
  | [], d, n, h => by unfold sizesL; omega
  | k :: r, d, n, h => by
    unfold sizesL
    split
    · have h1 := size_bd k d h
      have h2 := sizes_bd r d (n + sizeL d k) h
      omega
    · omega
end
theorem sizes_ge : ∀ (l : List Ex) (d n : Nat), n ≤ sizesL d n l
  | [], d, n => by unfold sizesL; omega
  | k :: r, d, n => by
    unfold sizesL
    split
    · have := sizes_ge r d (n + sizeL d k)
      omega
    · omega
theorem size_pos : ∀ (e : Ex) (d : Nat), 1 ≤ sizeL d e
  | .node kd op nm nu A c ks, d => by
    unfold sizeL
    split
    · omega
    · exact sizes_ge ks (d + 1) 1
theorem sizes_stop : ∀ (l m : List Ex) (d n : Nat), 1000 ≤ sizesL d n l → sizesL d n (l ++ m) = sizesL d n l
  | [], [], d, n, _ => rfl
  | [], y :: m, d, n, h => by
    rw [List.nil_append]
    unfold sizesL at h ⊢
    rw [if_neg (by omega)]
  | x :: l, m, d, n, h => by
    rw [List.cons_append]
    unfold sizesL at h ⊢
    split at h <;> rename_i hn
    · rw [if_pos hn, if_pos hn]
      exact sizes_stop l m d _ h
    · rw [if_neg hn, if_neg hn]
theorem sizes_snoc : ∀ (l : List Ex) (d n : Nat) (x : Ex), sizesL d n l < 1000 → sizesL d n (l ++ [x]) = sizesL d n l + sizeL d x
  | [], d, n, x, h => by
    rw [List.nil_append]
    unfold sizesL at h
    rw [show sizesL d n [x] = if n < 1000 then sizesL d (n + sizeL d x) [] else n from by conv => lhs; unfold sizesL, if_pos h]
    unfold sizesL
    rfl
  | y :: l, d, n, x, h => by
    rw [List.cons_append]
    unfold sizesL at h ⊢
    split at h <;> rename_i hn
    · rw [if_pos hn, if_pos hn]
      exact sizes_snoc l d _ x h
    · omega

mutual
theorem size_small : ∀ (e : Ex) (d : Nat), sizeL d e < 1000 → ExSmall e ∧ depthOf e ≤ sizeL d e
  | .node kd op nm nu A c ks, d, h => by
    unfold sizeL at h ⊢
    split at h <;> rename_i hq
    · omega
    · rw [if_neg hq]
      obtain ⟨h1, h2, h3⟩ := sizes_small ks (d + 1) 1 h
      refine ⟨.mk (by omega) (by omega) (by omega) h1, ?_⟩
      rw [depth_node]
      have := h3 0
      omega
theorem sizes_small : ∀ (l : List Ex) (d n : Nat), sizesL d n l < 1000 → (∀ k ∈ l, ExSmall k) ∧ l.length + n ≤ sizesL d n l ∧ ∀ m, depthsOf m l + n ≤ max (m + n) (sizesL d n l)
  | [], d, n, h => by
    unfold sizesL at h ⊢
    refine ⟨fun k hk => absurd hk (by simp), by simp, fun m => ?_⟩
    unfold depthsOf
    omega
  | k :: r, d, n, h => by
    unfold sizesL at h ⊢
    split at h <;> rename_i hn
    · rw [if_pos hn]
      obtain ⟨h1, h2, h3⟩ := sizes_small r d (n + sizeL d k) h
      have hp := size_pos k d
      obtain ⟨h4, h5⟩ := size_small k d (by have := sizes_ge r d (n + sizeL d k); omega)
      refine ⟨fun x hx => ?_, by simp only [List.length_cons]; omega, fun m => ?_⟩
      · rcases List.mem_cons.1 hx with rfl | hx
        · exact h4
        · exact h1 x hx
      · unfold depthsOf
        have := h3 (if m < depthOf k then depthOf k else m)
        split at this <;> rename_i hm <;> simp only [hm, if_true, if_false] <;> omega
    · omega
end

def Sizing (e : Ex) (ks : List Ex) (d : Nat) (w : World) (n i : Value) (wr : World) : Prop :=
  (∃ k : Nat, k ≤ ks.length ∧ i = .int .i64 k ∧ n = .int .i64 (sizesL (d + 1) 1 (ks.take k) : Nat)) ∧ Below w.heap.size w wr ∧ Box wr w.heap.size 26 e.cells.toArray

end Go.Proofs.YtogpicfofifbkaaDoor
