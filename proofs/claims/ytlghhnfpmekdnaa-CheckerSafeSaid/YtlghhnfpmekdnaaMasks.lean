/- Which cells are surely stored: plain facts. -/
import Derived.Test.YtlghhnfpmekdnaaRefused
namespace Go.Proofs.Ytlghhnfpmekdnaa
open Go.RowKit

def putAnd (o : List Int) (j : Nat) (h : Int) : List Int := o.set j (bits .and .i64 (o.getD j 0) h)
/-- What an instruction brings to those behind it. -/
def spread (x : Ins) (i : Nat) (o : List Int) : List Int :=
  if x.code = 6 ∨ x.code = 22 then o
  else if x.code = 5 then putAnd o (i + 1 + x.k.toNat) (o.getD i 0)
  else if isJump x.code then putAnd (putAnd o (i + 1 + x.jt.toNat) (o.getD i 0)) (i + 1 + x.jf.toNat) (o.getD i 0)
  else putAnd o (i + 1) (if x.code = 2 ∨ x.code = 3 then bits .or .i64 (o.getD i 0) (2 ^ x.k.toNat) else o.getD i 0)
def masks (l : List Ins) (o : List Int) : Nat → List Int
  | 0 => o
  | k + 1 => match l[k]? with
    | none => masks l o k
    | some x => spread x k (masks l o k)
def startMask (n : Nat) : List Int := (List.replicate n 65535).set 0 0

theorem putAnd_len (o : List Int) (j : Nat) (h : Int) : (putAnd o j h).length = o.length := by simp [putAnd]
theorem spread_len (x : Ins) (i : Nat) (o : List Int) : (spread x i o).length = o.length := by
  unfold spread
  repeat' split
  all_goals simp [putAnd_len]
theorem masks_len (l : List Ins) (o : List Int) : ∀ k, (masks l o k).length = o.length
  | 0 => rfl
  | k + 1 => by
    unfold masks
    split
    · exact masks_len l o k
    · rw [spread_len, masks_len l o k]
theorem masks_step (l : List Ins) (o : List Int) (k : Nat) (x : Ins) (h : l[k]? = some x) : masks l o (k + 1) = spread x k (masks l o k) := by
  rw [masks, h]
theorem start_len (n : Nat) : (startMask n).length = n := by simp [startMask]

/-- What is not refused. -/
structure Fine (x : Ins) (left : Int) : Prop where
  plain : x.plain
  ja : x.code = 5 → x.k < left
  jump : isJump x.code = true → x.jt < left ∧ x.jf < left
  mem : x.code = 2 ∨ x.code = 3 ∨ x.code = 96 ∨ x.code = 97 → x.k < 16
  more : ¬ (x.code = 6 ∨ x.code = 22) → left ≠ 0

theorem fine_of (x : Ins) (left : Int) (hk : 0 ≤ x.k) (h : refusedB x left = false) : Fine x left := by
  have hp : x.plain := by
    unfold refusedB at h
    split at h
    · cases h
    · rename_i hb
      simp only [not_or] at hb
      exact ⟨by omega, by omega, by omega, by omega, by simpa using hb.2.2.2.2⟩
  have hp' := hp
  obtain ⟨p0, p1, p2, p3, p4⟩ := hp'
  rw [refusedB_plain x left hp] at h
  by_cases h32 : x.code = 32
  · rw [if_pos h32] at h
    simp only [Bool.or_eq_false_iff] at h
    have hj : isJump x.code = false := by rw [h32]; rfl
    exact ⟨hp, by omega, by simp [hj], by omega, fun _ => by simpa using h.2⟩
  rw [if_neg h32] at h
  by_cases hm : x.code = 2 ∨ x.code = 3 ∨ x.code = 96 ∨ x.code = 97
  · rw [if_pos hm] at h
    simp only [Bool.or_eq_false_iff] at h
    have hj : isJump x.code = false := by rcases hm with e | e | e | e <;> rw [e] <;> rfl
    exact ⟨hp, by omega, by simp [hj], fun _ => by simpa using h.1, fun _ => by simpa using h.2⟩
  rw [if_neg hm] at h
  by_cases h52 : x.code = 52
  · rw [if_pos h52] at h
    simp only [Bool.or_eq_false_iff] at h
    have hj : isJump x.code = false := by rw [h52]; rfl
    exact ⟨hp, by omega, by simp [hj], fun e => absurd e hm, fun _ => by simpa using h.2⟩
  rw [if_neg h52] at h
  by_cases hs : x.code = 100 ∨ x.code = 116
  · rw [if_pos hs] at h
    simp only [Bool.or_eq_false_iff] at h
    have hj : isJump x.code = false := by rcases hs with e | e <;> rw [e] <;> rfl
    exact ⟨hp, by omega, by simp [hj], fun e => absurd e hm, fun _ => by simpa using h.2⟩
  rw [if_neg hs] at h
  by_cases h5 : x.code = 5
  · rw [if_pos h5] at h
    have hj : isJump x.code = false := by rw [h5]; rfl
    have hlt : x.k < left := by simpa using h
    exact ⟨hp, fun _ => hlt, by simp [hj], fun e => absurd e hm, fun _ => by omega⟩
  rw [if_neg h5] at h
  by_cases hj : isJump x.code = true
  · rw [if_pos hj] at h
    simp only [Bool.or_eq_false_iff, decide_eq_false_iff_not, Int.not_le] at h
    exact ⟨hp, fun e => absurd e h5, fun _ => h, fun e => absurd e hm, fun _ => by omega⟩
  rw [if_neg hj] at h
  by_cases hr : x.code = 6 ∨ x.code = 22
  · exact ⟨hp, fun e => absurd e h5, fun e => absurd e hj, fun e => absurd e hm, fun e => absurd hr e⟩
  rw [if_neg hr] at h
  exact ⟨hp, fun e => absurd e h5, fun e => absurd e hj, fun e => absurd e hm, fun _ => by simpa using h⟩

/-! ### Rows of integers, whole -/
def intsV (o : List Int) : Array Value := (o.map (Value.int .i64)).toArray
theorem intsV_set (o : List Int) (j : Nat) (u : Int) : (intsV o).setIfInBounds j (.int .i64 u) = intsV (o.set j u) := by
  simp [intsV, List.map_set]
theorem intsV_at (o : List Int) (j : Nat) (h : j < o.length) : (intsV o)[j]? = some (.int .i64 (o.getD j 0)) := by
  simp [intsV, List.getElem?_eq_getElem h, List.getD]

theorem box_of_own {w : World} {base g n : Nat} {e : TypeId} {xs : List Value} (h : w.ownsRow base e 1 (.slice (some ⟨g, 0, none⟩) n n) n xs) : base ≤ g ∧ Box w g e xs.toArray := by
  obtain ⟨h1, h2⟩ := h
  rcases h2 with ⟨h2, _⟩ | ⟨g', cap, cur, hv, hb, hg, _, _, hs, ht⟩
  · cases h2
  · simp only [Value.slice.injEq, Option.some.injEq, Addr.mk.injEq, and_true, true_and] at hv
    obtain ⟨rfl, rfl⟩ := hv
    refine ⟨hb, ?_⟩
    unfold Box
    rw [hg]
    have : cur.toList = xs := by rw [← ht, List.take_of_length_le (by rw [Array.length_toList]; omega)]
    rw [← this]

theorem own_of_box {w : World} {base g n : Nat} {e : TypeId} {xs : List Value} (h : Box w g e xs.toArray) (hb : base ≤ g) (hx : xs.length = n) (hn : n ≤ maxLen) : w.ownsRow base e 1 (.slice (some ⟨g, 0, none⟩) n n) n xs :=
  ⟨by omega, .inr ⟨g, n, xs.toArray, rfl, hb, h, Nat.le_refl _, hn, by simp [hx], List.take_of_length_le (by simp [hx])⟩⟩

theorem made_ints (n : Nat) : (madeCells #[Value.int .i64 0] n).toList = (List.replicate n (0 : Int)).map (Value.int .i64) := by
  apply List.ext_getElem
  · simp [madeCells]
  · intro i h1 h2
    simp [madeCells, Nat.mod_one]

/-- So many of the first set to 65535. -/
def fillMask (n k : Nat) : List Int := List.replicate k 65535 ++ List.replicate (n - k) 0
theorem fill_none (n : Nat) : fillMask n 0 = List.replicate n 0 := by simp [fillMask]
theorem fill_all (n : Nat) : fillMask n n = List.replicate n 65535 := by simp [fillMask]
theorem fill_step (n k : Nat) (h : k < n) : (fillMask n k).set k 65535 = fillMask n (k + 1) := by
  unfold fillMask
  rw [List.set_append_right _ _ (by simp), List.length_replicate, Nat.sub_self, show n - k = (n - (k + 1)) + 1 from by omega, List.replicate_succ, List.set_cons_zero, List.replicate_succ', List.append_assoc]
  rfl
theorem fill_len (n k : Nat) (h : k ≤ n) : (fillMask n k).length = n := by simp [fillMask]; omega

end Go.Proofs.Ytlghhnfpmekdnaa
