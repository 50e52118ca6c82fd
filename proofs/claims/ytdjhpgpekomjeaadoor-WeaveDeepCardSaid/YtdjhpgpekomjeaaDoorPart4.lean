/- Texts of mine put together (a claim has at most so many files): Parts, CleanPlain, CleanRef, FileRef. -/
import Derived.Test.YtdjhpgpekomjeaaDoorPart1
import Derived.Test.YtdjhpgpekomjeaaDoorStore
import Derived.Test.YtdjhpgpekomjeaaDoorChecked
import Derived.Lib.Hide
import Derived.Lib.Strings
import Derived.Test.YtdjhpgpekomjeaaDoorPart3
/- What the document's own Parts gives: a text, parted at each such byte. -/
namespace Go.Proofs.YtdjhpgpekomjeaaDoor
open Go.RowKit

/-- A text at each such byte; what is read of the part that is open comes first. -/
def splitAcc (c : UInt8) : List UInt8 → List UInt8 → List (List UInt8)
  | cur, [] => [cur]
  | cur, x :: r => if x = c then cur :: splitAcc c [] r else splitAcc c (cur ++ [x]) r
def partsOf (c : UInt8) (s : List UInt8) : List (List UInt8) := splitAcc c [] s
theorem split_len (c : UInt8) : ∀ (s cur : List UInt8), (splitAcc c cur s).length ≤ s.length + 1
  | [], cur => by simp [splitAcc]
  | x :: r, cur => by
    rw [splitAcc]
    split
    · have := split_len c r []
      simp
      omega
    · have := split_len c r (cur ++ [x])
      simp
      omega
theorem split_at {c x : UInt8} {s cur : List UInt8} {k : Nat} (h : s[k]? = some x) (hx : x = c) : splitAcc c cur (s.drop k) = cur :: splitAcc c [] (s.drop (k + 1)) := by
  obtain ⟨hk, e⟩ := List.getElem?_eq_some_iff.1 h
  rw [List.drop_eq_getElem_cons hk, e, splitAcc, if_pos hx]
theorem split_on {c x : UInt8} {s cur : List UInt8} {k : Nat} (h : s[k]? = some x) (hx : ¬ x = c) : splitAcc c cur (s.drop k) = splitAcc c (cur ++ [x]) (s.drop (k + 1)) := by
  obtain ⟨hk, e⟩ := List.getElem?_eq_some_iff.1 h
  rw [List.drop_eq_getElem_cons hk, e, splitAcc, if_neg hx]

theorem infoStrP : (Tryd.prog.info? 9).map (fun i => (i.zero, i.size, i.bytes)) = some (some (.string ⟨#[]⟩), 1, 16) := by kernel_rfl

/-- The part from 'from' on up to k. -/
def midOf (s : List UInt8) (f k : Nat) : List UInt8 := (s.drop f).take (k - f)
theorem mid_snoc {s : List UInt8} {f k : Nat} {x : UInt8} (h : s[k]? = some x) (hf : f ≤ k) : midOf s f (k + 1) = midOf s f k ++ [x] := by
  unfold midOf
  rw [show k + 1 - f = (k - f) + 1 from by omega]
  refine take_one ?_
  rw [List.getElem?_drop, show f + (k - f) = k from by omega]
  exact h
theorem mid_nil (s : List UInt8) (k : Nat) : midOf s k k = [] := by simp [midOf]
theorem mid_str (s : ByteArray) (f k : Nat) : s.extract f k = strOf (midOf s.data.toList f k) := Go.Lib.extract_eq s f k

/-- Where the loop stands. -/
def Parting (s : ByteArray) (c : UInt8) (w : World) (v f i : Value) (wr : World) : Prop :=
  ∃ (k g : Nat) (done : List (List UInt8)), k ≤ s.size + 1 ∧ g ≤ k ∧ i = .int .i64 k ∧ f = .int .i64 g ∧ wr.ownsRow w.heap.size 9 1 v done.length (strsV done) ∧ done.length ≤ k ∧ Below w.heap.size w wr ∧
    ((k ≤ s.size ∧ done ++ splitAcc c (midOf s.data.toList g k) (s.data.toList.drop k) = partsOf c s.data.toList) ∨ (k = s.size + 1 ∧ done = partsOf c s.data.toList))

end Go.Proofs.YtdjhpgpekomjeaaDoor

/- Plain facts for the document's own clean: the parts of a path, cleaned and joined. -/
namespace Go.Proofs.YtdjhpgpekomjeaaDoor
open Go.RowKit

def cleanStep (l : List (List UInt8)) (p : List UInt8) : Option (List (List UInt8)) :=
  if p = [] ∨ p = [46] then some l else if p = [46, 46] then (if l = [] then none else some l.dropLast) else some (l ++ [p])
/-- The parts that are left; nothing: one led too far up. -/
def cleanFrom (l : List (List UInt8)) : List (List UInt8) → Option (List (List UInt8))
  | [] => some l
  | p :: r => match cleanStep l p with
    | none => none
    | some m => cleanFrom m r
def joinOf : List (List UInt8) → List UInt8
  | [] => []
  | x :: r => x ++ r.flatMap fun y => 47 :: y
def cleanEnd : Option (List (List UInt8)) → List UInt8 × Bool
  | none => ([], false)
  | some [] => ([], false)
  | some (x :: r) => (joinOf (x :: r), true)
def cleanOf (ps : List (List UInt8)) : List UInt8 × Bool := cleanEnd (cleanFrom [] ps)

theorem clean_drop {l : List (List UInt8)} {ps : List (List UInt8)} {p : List UInt8} {k : Nat} (h : ps[k]? = some p) : cleanFrom l (ps.drop k) = match cleanStep l p with
    | none => none
    | some m => cleanFrom m (ps.drop (k + 1)) := by
  obtain ⟨hl, e⟩ := List.getElem?_eq_some_iff.1 h
  rw [List.drop_eq_getElem_cons hl, e]
  rfl

theorem strs_front {w : World} {B n : Nat} {A : Option Addr} {l : List (List UInt8)} (h : Lies w B 1 A n (strsV l)) (k : Nat) (hk : k ≤ n) : Lies w B 1 A k (strsV (l.take k)) := by
  have hln : l.length = n := by have := h.1; rw [strsV_len] at this; omega
  refine ⟨by rw [strsV_len, List.length_take]; omega, fun h0 => ?_⟩
  obtain ⟨b, o, e, hb, hc⟩ := h.2 (by omega)
  refine ⟨b, o, e, hb, fun j u hu => hc j u ?_⟩
  unfold strsV at hu ⊢
  rw [List.map_take, List.getElem?_take] at hu
  split at hu
  · exact hu
  · cases hu

end Go.Proofs.YtdjhpgpekomjeaaDoor

/- What the document's own clean gives. -/
namespace Go.Proofs.YtdjhpgpekomjeaaDoor
open Go.RowKit

def tot (l : List (List UInt8)) : Nat := (l.map fun x => x.length + 1).sum
theorem tot_nil : tot [] = 0 := rfl
theorem tot_cons (x : List UInt8) (l : List (List UInt8)) : tot (x :: l) = x.length + 1 + tot l := by simp [tot]
theorem tot_snoc (l : List (List UInt8)) (x : List UInt8) : tot (l ++ [x]) = tot l + (x.length + 1) := by simp [tot]
theorem tot_append (l m : List (List UInt8)) : tot (l ++ m) = tot l + tot m := by simp [tot]
theorem tot_drop {ps : List (List UInt8)} {k : Nat} {p : List UInt8} (h : ps[k]? = some p) : tot (ps.drop k) = p.length + 1 + tot (ps.drop (k + 1)) := by
  obtain ⟨hk, e⟩ := List.getElem?_eq_some_iff.1 h
  rw [List.drop_eq_getElem_cons hk, e, tot_cons]
theorem tot_last : ∀ l : List (List UInt8), tot l.dropLast ≤ tot l
  | [] => Nat.le_refl _
  | [x] => by simp [tot]
  | x :: y :: l => by
    have := tot_last (y :: l)
    rw [List.dropLast_cons_cons, tot_cons, tot_cons]
    omega
theorem tot_take (l : List (List UInt8)) (k : Nat) : tot (l.take k) ≤ tot l := by
  have : tot l = tot (l.take k) + tot (l.drop k) := by rw [← tot_append, List.take_append_drop]
  omega
theorem tot_len (l : List (List UInt8)) : l.length ≤ tot l := by
  induction l with
  | nil => exact Nat.le_refl _
  | cons x l ih => rw [tot_cons, List.length_cons]; omega
theorem join_len : ∀ l : List (List UInt8), (joinOf l).length ≤ tot l
  | [] => Nat.le_refl _
  | x :: l => by
    have h : ∀ r : List (List UInt8), (r.flatMap fun y => (47 : UInt8) :: y).length = tot r := by
      intro r
      induction r with
      | nil => rfl
      | cons y r ih => rw [List.flatMap_cons, List.length_append, ih, tot_cons, List.length_cons]
    rw [joinOf, List.length_append, h, tot_cons]
    omega
theorem join_step (l : List (List UInt8)) (k : Nat) (x : List UInt8) (h : l[k]? = some x) (hk : 1 ≤ k) : joinOf (l.take (k + 1)) = joinOf (l.take k) ++ 47 :: x := by
  cases l with
  | nil => simp at h
  | cons y l =>
    obtain ⟨j, rfl⟩ : ∃ j, k = j + 1 := ⟨k - 1, by omega⟩
    have h' : l[j]? = some x := by simpa using h
    rw [List.take_succ_cons, List.take_succ_cons, joinOf, joinOf, take_one h', List.flatMap_append]
    simp

/-- What a function that hands back a text and a bool gives. -/
def StrBool (t : List UInt8 × Bool) (w : World) : Ending → World → Prop := fun r w' => r = .returned (.tuple #[.string (strOf t.1), .bool t.2]) ∧ Below w.heap.size w w'

/-- Where the first loop stands. -/
def Cleaning (ps : List (List UInt8)) (n T : Nat) (w : World) (v i : Value) (wr : World) : Prop :=
  ∃ (k : Nat) (L : List (List UInt8)) (Al : Option Addr) (cl : Nat), k ≤ n ∧ i = .int .i64 k ∧ v = .slice Al L.length cl ∧ L.length ≤ cl ∧ Lies wr wr.heap.size 1 Al L.length (strsV L) ∧ L.length ≤ k ∧
    tot L + tot (ps.drop k) ≤ T ∧ Hid (cleanFrom [] ps = cleanFrom L (ps.drop k)) ∧ Below w.heap.size w wr

theorem infoStrC : (Tryd.prog.info? 9).map (fun i => (i.zero, i.size, i.bytes)) = some (some (.string ⟨#[]⟩), 1, 16) := by kernel_rfl

end Go.Proofs.YtdjhpgpekomjeaaDoor

/- What the document's own Clean, Join and FindFile give. -/
namespace Go.Proofs.YtdjhpgpekomjeaaDoor
open Go.RowKit

def cleanPath (s : List UInt8) : List UInt8 × Bool := cleanOf (partsOf 47 s)
def joinPath (f p : List UInt8) : List UInt8 × Bool := if p.head? = some 47 then cleanPath p else cleanOf ((partsOf 47 f).dropLast ++ partsOf 47 p)

/-- Files, as cells. -/
def filesV (l : List (ByteArray × ByteArray)) : List Value := l.flatMap fun f => [.string f.1, .string f.2]
theorem filesV_len (l : List (ByteArray × ByteArray)) : (filesV l).length = l.length * 2 := by
  unfold filesV
  induction l with
  | nil => rfl
  | cons f l ih => simp at ih ⊢; omega
theorem filesV_at : ∀ (l : List (ByteArray × ByteArray)) (k : Nat) (f : ByteArray × ByteArray), l[k]? = some f → (filesV l)[k * 2]? = some (.string f.1) ∧ (filesV l)[k * 2 + 1]? = some (.string f.2)
  | [], k, f, h => by simp at h
  | g :: l, 0, f, h => by
    obtain rfl : g = f := by simpa using h
    exact ⟨rfl, rfl⟩
  | g :: l, k + 1, f, h => by
    obtain ⟨h0, h1⟩ := filesV_at l k f (by simpa using h)
    have e : ∀ j, (filesV (g :: l))[(k + 1) * 2 + j]? = (filesV l)[k * 2 + j]? := fun j => by
      unfold filesV
      rw [List.flatMap_cons, List.getElem?_append_right (by simp; omega)]
      congr 1
      simp
      omega
    exact ⟨(e 0).trans h0, (e 1).trans h1⟩

/-- Does a file's path lead where a clean path does? -/
def isFile (p : List UInt8) (f : ByteArray × ByteArray) : Bool := (cleanPath f.1.data.toList).2 && ((cleanPath f.1.data.toList).1 == p)
def fileFrom (p : List UInt8) (k : Nat) : List (ByteArray × ByteArray) → Int × Bool
  | [] => (0, false)
  | f :: r => if isFile p f then ((k : Int), true) else fileFrom p (k + 1) r
def fileOf (l : List (ByteArray × ByteArray)) (s : List UInt8) : Int × Bool := if (cleanPath s).2 then fileFrom (cleanPath s).1 0 l else (0, false)

/-- What a function that hands back a number and a bool gives. -/
def NumBool (t : Int × Bool) (w : World) : Ending → World → Prop := fun r w' => r = .returned (.tuple #[.int .i64 t.1, .bool t.2]) ∧ Below w.heap.size w w'

theorem split_tot (c : UInt8) : ∀ (s cur : List UInt8), tot (splitAcc c cur s) ≤ cur.length + s.length + 1
  | [], cur => by simp [splitAcc, tot]
  | x :: r, cur => by
    rw [splitAcc]
    split
    · have := split_tot c r []
      rw [tot_cons]
      simp at this ⊢
      omega
    · have := split_tot c r (cur ++ [x])
      simp at this ⊢
      omega
theorem parts_tot (c : UInt8) (s : ByteArray) : tot (partsOf c s.data.toList) ≤ s.size + 1 := by
  have := split_tot c s.data.toList []
  simp at this
  exact this
theorem split_some (c : UInt8) : ∀ (s cur : List UInt8), 1 ≤ (splitAcc c cur s).length
  | [], cur => by simp [splitAcc]
  | x :: r, cur => by
    rw [splitAcc]
    split
    · simp
    · exact split_some c r _

theorem head_str (s : ByteArray) (h : 0 < s.size) : s.data.toList.head? = some (s[0]'h) := by
  rw [List.head?_eq_getElem?]
  exact str_at s 0 h

/-- Where the search stands. -/
theorem file_drop {l : List (ByteArray × ByteArray)} {k : Nat} {f : ByteArray × ByteArray} (p : List UInt8) (h : l[k]? = some f) : fileFrom p k (l.drop k) = if isFile p f then ((k : Int), true) else fileFrom p (k + 1) (l.drop (k + 1)) := by
  obtain ⟨hk, e⟩ := List.getElem?_eq_some_iff.1 h
  rw [List.drop_eq_getElem_cons hk, e, fileFrom]

end Go.Proofs.YtdjhpgpekomjeaaDoor
