/- What the document's own Parts gives: a text, parted at each such byte. -/
import Derived.Test.YtgcdmcdolpdjdaaDoorStr
import Derived.Test.YtgcdmcdolpdjdaaDoorStore
import Derived.Test.YtgcdmcdolpdjdaaDoorChecked
import Derived.Lib.Hide
import Derived.Lib.Strings
namespace Go.Proofs.YtgcdmcdolpdjdaaDoor
open Go.RowKit

/-- A text at each such byte; what is read of the part that is open comes first. -/
def splitAcc (c : UInt8) : List UInt8 → List UInt8 → List (List UInt8)
  | cur, [] => [cur]
  | cur, x :: r => if x = c then cur :: splitAcc c [] r else splitAcc c (cur ++ [x]) r
def partsOf (c : UInt8) (s : List UInt8) : List (List UInt8) := splitAcc c [] s
theorem split_len (c : UInt8) : ∀ (s cur : List UInt8), (splitAcc c cur s).length ≤ s.length + 1
  | [], cur => by simp [splitAcc]
  | x :: r, cur => by
    rw [splitAcc]
    split
    · have := split_len c r []
      simp
      omega
    · have := split_len c r (cur ++ [x])
      simp
      omega
theorem split_at {c x : UInt8} {s cur : List UInt8} {k : Nat} (h : s[k]? = some x) (hx : x = c) : splitAcc c cur (s.drop k) = cur :: splitAcc c [] (s.drop (k + 1)) := by
  obtain ⟨hk, e⟩ := List.getElem?_eq_some_iff.1 h
  rw [List.drop_eq_getElem_cons hk, e, splitAcc, if_pos hx]
theorem split_on {c x : UInt8} {s cur : List UInt8} {k : Nat} (h : s[k]? = some x) (hx : ¬ x = c) : splitAcc c cur (s.drop k) = splitAcc c (cur ++ [x]) (s.drop (k + 1)) := by
  obtain ⟨hk, e⟩ := List.getElem?_eq_some_iff.1 h
  rw [List.drop_eq_getElem_cons hk, e, splitAcc, if_neg hx]

theorem infoStrP : (Tryd.prog.info? 9).map (fun i => (i.zero, i.size, i.bytes)) = some (some (.string ⟨#[]⟩), 1, 16) := by kernel_rfl

/-- The part from 'from' on up to k. -/
def midOf (s : List UInt8) (f k : Nat) : List UInt8 := (s.drop f).take (k - f)
theorem mid_snoc {s : List UInt8} {f k : Nat} {x : UInt8} (h : s[k]? = some x) (hf : f ≤ k) : midOf s f (k + 1) = midOf s f k ++ [x] := by
  unfold midOf
  rw [show k + 1 - f = (k - f) + 1 from by omega]
  refine take_one ?_
  rw [List.getElem?_drop, show f + (k - f) = k from by omega]
  exact h
theorem mid_nil (s : List UInt8) (k : Nat) : midOf s k k = [] := by simp [midOf]
theorem mid_str (s : ByteArray) (f k : Nat) : s.extract f k = strOf (midOf s.data.toList f k) := Go.Lib.extract_eq s f k

/-- Where the loop stands. -/
def Parting (s : ByteArray) (c : UInt8) (w : World) (v f i : Value) (wr : World) : Prop :=
  ∃ (k g : Nat) (done : List (List UInt8)), k ≤ s.size + 1 ∧ g ≤ k ∧ i = .int .i64 k ∧ f = .int .i64 g ∧ wr.ownsRow w.heap.size 9 1 v done.length (strsV done) ∧ done.length ≤ k ∧ Below w.heap.size w wr ∧
    ((k ≤ s.size ∧ done ++ splitAcc c (midOf s.data.toList g k) (s.data.toList.drop k) = partsOf c s.data.toList) ∨ (k = s.size + 1 ∧ done = partsOf c s.data.toList))

set_option maxRecDepth 100000 in
set_option maxHeartbeats 4000000 in
theorem parts_any (s : ByteArray) (c : UInt8) (w : World) (hs : s.size ≤ 1099511627776) :
    Calls Tryd.prog 15 #[.string s, .int .u8 (c.toNat : Int)] w (NewRow 9 1 (partsOf c s.data.toList).length (strsV (partsOf c s.data.toList)) w) := by
  obtain ⟨i0, hi, hz0, hz1, hz2⟩ := info_parts infoStrP
  obtain ⟨P, hP⟩ : ∃ P, P = partsOf c s.data.toList := ⟨_, rfl⟩
  rw [← hP]
  have HP := Lib.hid hP
  have hc := byte_lt c
  clear hP
  go_enter Tryd.func15, Tryd.ntmps15
  go_wp2
  go_loopw [5, 6, 7] (fun v f i wr => Parting s c w v f i wr) (fun _ _ i _ => s.size + 1 - (intOf i).toNat)
  case atStart => exact ⟨0, 0, [], by omega, by omega, rfl, rfl, World.ownsRow_nil _ _ _ _, by simp, Below.refl _ _, .inl ⟨by omega, by rw [mid_nil]; simp [partsOf]⟩⟩
  case round =>
    obtain ⟨k, g, done, hk, hg, rfl, rfl, hown, hdl, hnx, hst⟩ := hrel
    have hsz := hnx.size
    by_cases hlt : k < s.size
    · have hx := str_at s k hlt
      have hb1 := byte_lt (s[k]'hlt)
      have hst' : done ++ splitAcc c (midOf s.data.toList g k) (s.data.toList.drop k) = P := by
        rw [HP.out]
        rcases hst with h | h
        · exact h.2
        · omega
      clear hst
      have hne : ((k : Int) == (s.size : Int)) = false := by rw [beq_eq_false_iff_ne]; omega
      by_cases hq : s[k]'hlt = c
      · have HST : Hid ((done ++ [midOf s.data.toList g k]) ++ splitAcc c (midOf s.data.toList (k + 1) (k + 1)) (s.data.toList.drop (k + 1)) = partsOf c s.data.toList) := by
          unfold Hid
          rw [mid_nil, List.append_assoc, ← HP.out, ← hst', split_at hx hq]
          rfl
        have hq' : (((s[k]'hlt).toNat : Int) == (c.toNat : Int)) = true := by rw [hq]; simp
        clear hst' hx hq
        go_wp2_with (at_builtin; go_loud (refine wpList_append_lit _ rfl (.tmp 25) (.tmp 30) _ rfl w.heap.size 9 i0 _ 1 16 Tryd.underlying39 hi hz0 hz1 hz2 rfl (by omega) _ _ _ rfl hown _ _ 1 1 rfl rfl ?c1 ?c2 ?c3 ?c4 ?_))
        case c1 => simp [Value.oneCell']
        case c2 => unfold maxLen; omega
        case c3 => omega
        case c4 => omega
        intro v' w' hown3 hg3
        have hnx3 : Below w.heap.size w w' := below_grown (hnx.alloc (by omega) _) (hown.alloc _) (Nat.le_refl _) (by simp; omega) hg3
        have hown4 : w'.ownsRow w.heap.size 9 1 v' (done ++ [midOf s.data.toList g k]).length (strsV (done ++ [midOf s.data.toList g k])) := by
          rw [strsV_snoc, List.length_append, ← mid_str]
          exact hown3
        have HO := Lib.hid hown4
        clear hown3 hg3 hown hnx hown4
        go_wp2
        go_roundw
        case rel => exact ⟨k + 1, k + 1, _, by omega, by omega, by go_num, by go_num, HO.out, by simp; omega, hnx3, .inl ⟨by omega, HST.out⟩⟩
        case measure => simp [intOf]; omega
      · have HST : Hid (done ++ splitAcc c (midOf s.data.toList g (k + 1)) (s.data.toList.drop (k + 1)) = partsOf c s.data.toList) := by
          unfold Hid
          rw [mid_snoc hx hg, ← HP.out, ← hst', split_on hx hq]
        have hq' : (((s[k]'hlt).toNat : Int) == (c.toNat : Int)) = false := by
          rw [beq_eq_false_iff_ne]
          intro e
          exact hq (UInt8.toNat_inj.1 (by omega))
        clear hst' hx hq
        go_wp2
        go_roundw
        case rel => exact ⟨k + 1, g, done, by omega, by omega, by go_num, rfl, hown, by omega, hnx, .inl ⟨by omega, HST.out⟩⟩
        case measure => simp [intOf]; omega
    · by_cases heq : k = s.size
      · obtain rfl : k = s.size := heq
        have HST : Hid (done ++ [midOf s.data.toList g s.size] = partsOf c s.data.toList) := by
          rcases hst with h | h
          · have := h.2
            rw [List.drop_eq_nil_of_le (by simp)] at this
            exact this
          · omega
        clear hst
        go_wp2_with (at_builtin; go_loud (refine wpList_append_lit _ rfl (.tmp 25) (.tmp 30) _ rfl w.heap.size 9 i0 _ 1 16 Tryd.underlying39 hi hz0 hz1 hz2 rfl (by omega) _ _ _ rfl hown _ _ 1 1 rfl rfl ?d1 ?d2 ?d3 ?d4 ?_))
        case d1 => simp [Value.oneCell']
        case d2 => unfold maxLen; omega
        case d3 => omega
        case d4 => omega
        intro v' w' hown3 hg3
        have hnx3 : Below w.heap.size w w' := below_grown (hnx.alloc (by omega) _) (hown.alloc _) (Nat.le_refl _) (by simp; omega) hg3
        have hown4 : w'.ownsRow w.heap.size 9 1 v' (done ++ [midOf s.data.toList g s.size]).length (strsV (done ++ [midOf s.data.toList g s.size])) := by
          rw [strsV_snoc, List.length_append, ← mid_str]
          exact hown3
        have HO := Lib.hid hown4
        clear hown3 hg3 hown hnx hown4
        go_wp2
        go_roundw
        case rel => exact ⟨s.size + 1, s.size + 1, _, by omega, by omega, by go_num, by go_num, HO.out, by simp; omega, hnx3, .inr ⟨rfl, HST.out⟩⟩
        case measure => simp [intOf]
      · obtain rfl : k = s.size + 1 := by omega
        have hd : done = P := by
          rw [HP.out]
          rcases hst with h | h
          · omega
          · exact h.2
        have HD := Lib.hid hd
        clear hd hst
        go_wp2
        go_ret
        exact ⟨_, rfl, by rw [← HD.out]; exact hown, hnx⟩

end Go.Proofs.YtgcdmcdolpdjdaaDoor
