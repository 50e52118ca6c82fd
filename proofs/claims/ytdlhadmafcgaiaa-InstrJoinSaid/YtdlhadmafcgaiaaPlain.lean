/- Plain facts on instructions and their bytes: there and back. -/
import Derived.Test.YtdlhadmafcgaiaaAlive
namespace Go.Proofs.Ytdlhadmafcgaiaa
open Go.RowKit

theorem u8_eq (n : Int) (b : UInt8) (h : n % 256 = (b.toNat : Int)) : u8 n = b := by
  apply UInt8.toNat_inj.1
  have := u8_val n
  omega

theorem insOf_fits (b0 b1 b2 b3 b4 b5 b6 b7 : UInt8) : (insOf b0 b1 b2 b3 b4 b5 b6 b7).fits = true := by
  have h0 := byte_lt b0
  have h1 := byte_lt b1
  have h2 := byte_lt b2
  have h3 := byte_lt b3
  unfold Ins.fits inB insOf
  simp only [Bool.and_eq_true, decide_eq_true_eq]
  omega

theorem insOf_bytes (b0 b1 b2 b3 b4 b5 b6 b7 : UInt8) : (insOf b0 b1 b2 b3 b4 b5 b6 b7).bytes = [b0, b1, b2, b3, b4, b5, b6, b7] := by
  have h0 := byte_lt b0
  have h1 := byte_lt b1
  have h2 := byte_lt b2
  have h3 := byte_lt b3
  have h4 := byte_lt b4
  have h5 := byte_lt b5
  have h6 := byte_lt b6
  have h7 := byte_lt b7
  unfold Ins.bytes insOf
  dsimp only
  rw [u8_eq _ b0 (by omega), u8_eq _ b1 (by omega), u8_eq _ b2 (by omega), u8_eq _ b3 (by omega), u8_eq _ b4 (by omega), u8_eq _ b5 (by omega), u8_eq _ b6 (by omega), u8_eq _ b7 (by omega)]

theorem insAt_bytes (l : List UInt8) (k : Nat) (h : 8 * k + 8 ≤ l.length) : (insAt l k).bytes = (l.drop (8 * k)).take 8 := by
  unfold insAt
  rw [insOf_bytes]
  have g : ∀ j, j < 8 → ((l.drop (8 * k)).take 8)[j]? = some (l.getD (8 * k + j) 0) := by
    intro j hj
    rw [List.getElem?_take, if_pos hj, List.getElem?_drop, List.getElem?_eq_getElem (by omega)]
    simp [List.getD, List.getElem?_eq_getElem (show 8 * k + j < l.length by omega)]
  apply List.ext_getElem?
  intro j
  by_cases hj : j < 8
  · rw [g j hj]
    rcases (show j = 0 ∨ j = 1 ∨ j = 2 ∨ j = 3 ∨ j = 4 ∨ j = 5 ∨ j = 6 ∨ j = 7 from by omega) with rfl | rfl | rfl | rfl | rfl | rfl | rfl | rfl <;> rfl
  · rw [List.getElem?_eq_none (by simp; omega), List.getElem?_eq_none (by simp; omega)]

theorem raw_insTake (l : List UInt8) : ∀ k, 8 * k ≤ l.length → rawBytes (insTake l k) = l.take (8 * k)
  | 0, _ => by simp [insTake, rawBytes]
  | k + 1, h => by
    have ih := raw_insTake l k (by omega)
    have e : rawBytes (insTake l (k + 1)) = rawBytes (insTake l k) ++ (insAt l k).bytes := by simp [insTake, rawBytes, List.range_succ]
    rw [e, ih, insAt_bytes l k (by omega), show 8 * (k + 1) = 8 * k + 8 from by omega, List.take_add]

theorem insTake_fits (l : List UInt8) (k : Nat) : ∀ y ∈ insTake l k, y.fits = true := by
  intro y hy
  obtain ⟨j, _, rfl⟩ := List.mem_map.1 hy
  exact insOf_fits _ _ _ _ _ _ _ _

/-- Whole instructions' bytes are those bytes again. -/
theorem bytes_read (l : List UInt8) (h : l.length % 8 = 0) : bytesOf (readOf l) = l := by
  have e : readOf l = insTake l (l.length / 8) := by unfold readOf; rw [if_pos h]
  rw [e, bytesOf_yes (insTake_fits _ _), raw_insTake _ _ (by omega), List.take_of_length_le (by omega)]

theorem bytes_len (l : List Ins) : (bytesOf l).length % 8 = 0 := by
  unfold bytesOf
  split
  · rw [raw_len]; omega
  · rfl

theorem code_bytes (l : List Ins) : readCode (bytesOf l) = 0 := by
  unfold readCode
  rw [if_pos (bytes_len l)]

/-- Its last number is of its kind. -/
def Ins.kOk (x : Ins) : Prop := 0 ≤ x.k ∧ x.k ≤ 4294967295

theorem ins_back (x : Ins) (hf : x.fits = true) (hk : x.kOk) : insOf (u8 x.code) (u8 (x.code / 256)) (u8 x.jt) (u8 x.jf) (u8 x.k) (u8 (x.k / 256)) (u8 (x.k / 65536)) (u8 (x.k / 16777216)) = x := by
  obtain ⟨a, b, c, d⟩ := x
  simp [Ins.fits, inB] at hf
  obtain ⟨h0, h1⟩ := hk
  dsimp only at h0 h1
  unfold insOf
  simp only [u8_val]
  congr 1 <;> omega

theorem ins_at (l : List Ins) (k : Nat) (x : Ins) (h : l[k]? = some x) (hf : x.fits = true) (hk : x.kOk) : insAt (rawBytes l) k = x := by
  obtain ⟨hkl, e⟩ := List.getElem?_eq_some_iff.1 h
  have g : ∀ j u, x.bytes[j]? = some u → (rawBytes l)[8 * k + j]? = some u := by
    clear e
    induction l generalizing k with
    | nil => simp at h
    | cons y l ih =>
      have er : rawBytes (y :: l) = y.bytes ++ rawBytes l := by simp [rawBytes]
      cases k with
      | zero =>
        intro j u hu
        obtain rfl : y = x := by simpa using h
        rw [er, Nat.mul_zero, Nat.zero_add, List.getElem?_append_left (List.getElem?_eq_some_iff.1 hu).1]
        exact hu
      | succ k =>
        intro j u hu
        rw [er, List.getElem?_append_right (by simp [Ins.bytes]; omega), show 8 * (k + 1) + j - y.bytes.length = 8 * k + j from by simp [Ins.bytes]; omega]
        exact ih k (by simpa using h) (by simpa using hkl) j u hu
  have d : ∀ j u, x.bytes[j]? = some u → (rawBytes l).getD (8 * k + j) 0 = u := fun j u hu => by simp [List.getD, g j u hu]
  unfold insAt
  have d0 : (rawBytes l).getD (8 * k) 0 = _ := d 0 _ rfl
  rw [d0, d 1 _ rfl, d 2 _ rfl, d 3 _ rfl, d 4 _ rfl, d 5 _ rfl, d 6 _ rfl, d 7 _ rfl]
  exact ins_back x hf hk

/-- Instructions that can be written are read back. -/
theorem read_bytes (l : List Ins) (hf : ∀ y ∈ l, y.fits = true) (hk : ∀ y ∈ l, y.kOk) : readOf (bytesOf l) = l := by
  have e : readOf (bytesOf l) = insTake (rawBytes l) l.length := by
    unfold readOf
    rw [if_pos (bytes_len l), bytesOf_yes hf, raw_len]
    congr 1
    omega
  rw [e]
  apply List.ext_getElem?
  intro k
  by_cases h : k < l.length
  · have hx := List.getElem?_eq_getElem h
    rw [hx]
    have := ins_at l k l[k] hx (hf _ (List.getElem_mem h)) (hk _ (List.getElem_mem h))
    simp [insTake, h, this]
  · rw [List.getElem?_eq_none (by rw [insTake_len]; omega), List.getElem?_eq_none (by omega)]

theorem all_fit (l : List Ins) (h : bytesOf l ≠ []) : ∀ y ∈ l, y.fits = true := by
  unfold bytesOf at h
  split at h
  · rename_i ha
    exact List.all_eq_true.1 ha
  · exact absurd rfl h

theorem bytes_le (l : List Ins) : (bytesOf l).length ≤ 8 * l.length := by
  unfold bytesOf
  split
  · rw [raw_len]; exact Nat.le_refl _
  · simp

theorem read_len (l : List UInt8) : (readOf l).length ≤ l.length := by
  unfold readOf
  split
  · rw [insTake_len]; omega
  · simp

theorem raw_append (l m : List Ins) : rawBytes (l ++ m) = rawBytes l ++ rawBytes m := by simp [rawBytes]
theorem cells_append (l m : List Ins) : cellsOf (l ++ m) = cellsOf l ++ cellsOf m := by simp [cellsOf]
theorem cells_one (l : List Ins) : ∀ u ∈ cellsOf l, u.oneCell' = true := by
  intro u hu
  obtain ⟨x, _, hx⟩ := List.mem_flatMap.1 hu
  simp [Ins.cells] at hx
  rcases hx with rfl | rfl | rfl | rfl <;> rfl

/-- What lies below a row of the call's own lies there behind an append to that row. -/
theorem lies_grown {w w' : World} {B base size n k sz : Nat} {A : Option Addr} {xs ys : List Value} {e : TypeId} {v : Value} (h : Lies w B size A n xs) (hown : w.ownsRow base e sz v k ys) (hB : B ≤ base) (hBw : B ≤ w.heap.size) (hg : w.grownBy w' v.ownBlock) : Lies w' B size A n xs :=
  h.keep fun p hp => World.cell?_of_block (hg.block p.block (by omega) (fun e => by have := (hown.lt p.block e.symm).1; omega))

theorem code_odd (l : List UInt8) (h : l.length % 8 = 1) : readCode l = 2 := by
  unfold readCode
  rw [if_neg (by omega)]

theorem strOf_append (a b : List UInt8) : (⟨a.toArray⟩ : ByteArray) ++ ⟨b.toArray⟩ = ⟨(a ++ b).toArray⟩ := by
  apply ByteArray.ext
  simp

end Go.Proofs.Ytdlhadmafcgaiaa
