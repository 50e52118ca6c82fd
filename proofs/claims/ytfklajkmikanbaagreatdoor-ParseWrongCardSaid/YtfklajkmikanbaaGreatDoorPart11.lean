/- Texts of mine put together (a claim has at most so many files): TreeName, TreeLib, TreeExpr, TreeSet, ParName. -/
import Derived.Test.YtfklajkmikanbaaGreatDoorPart3
import Derived.Test.YtfklajkmikanbaaGreatDoorPart4
import Derived.Test.YtfklajkmikanbaaGreatDoorPart9
import Derived.Test.YtfklajkmikanbaaGreatDoorChecked
import Derived.Shelf.Strings.SlTrimAscii
import Derived.Shelf.Strings.Search3
import Derived.Lib.SlTrimSet
import Derived.Test.YtfklajkmikanbaaGreatDoorTreeTold
import Derived.OwnWalk
import Derived.Test.YtfklajkmikanbaaGreatDoorPart8
/- What the document's own in and Name give. -/
namespace Go.Proofs.YtfklajkmikanbaaGreatDoor
open Go.RowKit

theorem any_yes {α : Type} {p : α → Bool} {l : List α} {k : Nat} {x : α} (h : l[k]? = some x) (hp : p x = true) : l.any p = true := List.any_eq_true.2 ⟨x, List.mem_of_getElem? h, hp⟩
theorem any_no {α : Type} {p : α → Bool} {l : List α} (h : ∀ j x, j < l.length → l[j]? = some x → p x = false) : l.any p = false := by
  rw [List.any_eq_false]
  intro x hx
  obtain ⟨j, hj⟩ := List.mem_iff_getElem?.1 hx
  rw [h j x (List.getElem?_eq_some_iff.1 hj).1 hj]
  decide
theorem all_yes {α : Type} {p : α → Bool} {l : List α} (h : ∀ j x, j < l.length → l[j]? = some x → p x = true) : l.all p = true := by
  rw [List.all_eq_true]
  intro x hx
  obtain ⟨j, hj⟩ := List.mem_iff_getElem?.1 hx
  exact h j x (List.getElem?_eq_some_iff.1 hj).1 hj
theorem all_no {α : Type} {p : α → Bool} {l : List α} {k : Nat} {x : α} (h : l[k]? = some x) (hp : p x = false) : l.all p = false := by
  cases ha : l.all p with
  | false => rfl
  | true =>
    rw [List.all_eq_true] at ha
    rw [ha x (List.mem_of_getElem? h)] at hp
    cases hp

def inL (l : List ByteArray) (s : ByteArray) : Bool := l.any fun x => x.toList == s.toList

def barredS : List ByteArray := [⟨#[80, 79, 76, 73, 67, 89]⟩, ⟨#[85, 83, 69]⟩, ⟨#[68, 69, 70, 65, 85, 76, 84]⟩, ⟨#[65, 76, 76, 79, 87]⟩, ⟨#[76, 79, 71]⟩, ⟨#[75, 73, 76, 76]⟩, ⟨#[75, 73, 76, 76, 95, 80, 82, 79, 67, 69, 83, 83]⟩, ⟨#[84, 82, 65, 80]⟩, ⟨#[69, 82, 82, 78, 79]⟩, ⟨#[84, 82, 65, 67, 69]⟩]
theorem in_barred (s : ByteArray) : inL barredS s = barred.any (· == s.data.toList) := by
  unfold inL
  rw [show (s.toList) = s.data.toList from ByteArray.toList_eq s]
  simp only [barredS, barred, List.any_cons, List.any_nil, ByteArray.toList_eq]

theorem name_nil {s : ByteArray} (h : s.size = 0) : nameOk s = false := by
  have : s.data.toList = [] := List.eq_nil_of_length_eq_zero (by
    rw [Array.length_toList]
    exact h)
  unfold nameOk
  rw [this]
  rfl
theorem name_first {s : ByteArray} (h : 0 < s.size) (hq : letterB (s[0]'h) = false) : nameOk s = false := by
  have hx := str_at s 0 h
  unfold nameOk
  cases hd : s.data.toList with
  | nil => rfl
  | cons c r =>
    rw [hd] at hx
    have : c = s[0]'h := by simpa using hx
    simp only [nameL]
    rw [this, hq]
    rfl
theorem name_at {s : ByteArray} {k : Nat} (h : k < s.size) (hq : wordB (s[k]'h) = false) : nameOk s = false := by
  have hx := str_at s k h
  have ha := all_no (p := wordB) hx hq
  unfold nameOk
  cases hd : s.data.toList with
  | nil => rfl
  | cons c r =>
    rw [hd] at ha
    simp only [nameL]
    rw [ha]
    simp
theorem name_end {s : ByteArray} (h : 0 < s.size) (hq : letterB (s[0]'h) = true) (ha : ∀ j (hj : j < s.size), wordB (s[j]'hj) = true) : nameOk s = !inL barredS s := by
  have hx := str_at s 0 h
  have hall : s.data.toList.all wordB = true := all_yes fun j x hj hx => by
    have hj' : j < s.size := by simpa using hj
    rw [str_at s j hj'] at hx
    rw [← Option.some.inj hx]
    exact ha j hj'
  rw [in_barred]
  unfold nameOk
  cases hd : s.data.toList with
  | nil => rw [hd] at hx; cases hx
  | cons c r =>
    rw [hd] at hx hall
    have : c = s[0]'h := by simpa using hx
    simp only [nameL]
    rw [hall, this, hq]
    rfl

end Go.Proofs.YtfklajkmikanbaaGreatDoor

/- The library's functions that the landed tree calls, as contracts at this translation; sets of bytes. No condition. -/
namespace Go.Proofs.YtfklajkmikanbaaGreatDoor.LandedT
open Go.RowKit

theorem every_byte {p : UInt8 → Bool} (h : (List.range 256).all (fun n => p (UInt8.ofNat n)) = true) (c : UInt8) : p c = true := by
  have := List.all_eq_true.1 h c.toNat (List.mem_range.2 c.toNat_lt)
  simpa using this

def digitsL : List UInt8 := [48, 49, 50, 51, 52, 53, 54, 55, 56, 57]
def inWordL : List UInt8 := [48, 49, 50, 51, 52, 53, 54, 55, 56, 57, 97, 98, 99, 100, 101, 102, 103, 104, 105, 106, 107, 108, 109, 110, 111, 112, 113, 114, 115, 116, 117, 118, 119, 120, 121, 122, 65, 66, 67, 68, 69, 70, 71, 72, 73, 74, 75, 76, 77, 78, 79, 80, 81, 82, 83, 84, 85, 86, 87, 88, 89, 90, 95]

theorem in_digits (c : UInt8) : digitsL.contains c = digB c := eq_of_beq (every_byte (p := fun c => digitsL.contains c == digB c) (by decide +kernel) c)
theorem in_word (c : UInt8) : inWordL.contains c = wordB c := eq_of_beq (every_byte (p := fun c => inWordL.contains c == wordB c) (by decide +kernel) c)
theorem word_first (c : UInt8) : letterB c = (wordB c && !digB c) := eq_of_beq (every_byte (p := fun c => letterB c == (wordB c && !digB c)) (by decide +kernel) c)

theorem drop_all (p : UInt8 → Bool) : ∀ l : List UInt8, (l.dropWhile p == []) = l.all p
  | [] => rfl
  | c :: r => by
    rw [List.dropWhile_cons, List.all_cons]
    cases h : p c
    · simp
    · simp only [if_true, Bool.true_and]
      exact drop_all p r

theorem trim_words (s : ByteArray) (w : World) :
    Calls Tryz.prog 45 #[.string s, .string ⟨inWordL.toArray⟩] w fun e w' => e = .returned (.string (strOf (s.data.toList.dropWhile (inWordL.contains ·)))) ∧ Below w.heap.size w w' :=
  Calls.mono (f := 45) (Any.strings_TrimLeft_laid Tryz.lays161 (by kernel_rfl) s ⟨inWordL.toArray⟩ w (by decide +kernel) (ascii_of_all (by decide +kernel))) fun _ _ h => h

theorem digits_has (c : UInt8) (w : World) :
    Calls Tryz.prog 44 #[.string ⟨digitsL.toArray⟩, .string ⟨#[c]⟩] w fun e w' => e = .returned (.bool (digB c)) ∧ w = w' :=
  Calls.mono (f := 44) (Any.strings_Contains_one Tryz.lays144 ⟨digitsL.toArray⟩ c w) fun _ _ ⟨h1, h2⟩ => ⟨by rw [h1, ← Lib.contains_iff_indexByte]; exact congrArg (fun b => Ending.returned (.bool b)) (in_digits c), h2.symm⟩

set_option maxRecDepth 100000 in
set_option maxHeartbeats 1000000 in
theorem taken_any (s : ByteArray) (w : World) : Calls Tryz.prog 46 #[.string s] w fun e w' => e = .returned (.bool (barred.any (· == s.data.toList))) ∧ w' = w := by
  have hs : s.toList = s.data.toList := ByteArray.toList_eq s
  by_cases h : s.data.toList ∈ barred
  · have hb : barred.any (· == s.data.toList) = true := List.any_eq_true.2 ⟨_, h, by simp⟩
    rw [hb]
    unfold barred at h
    simp only [List.mem_cons, List.not_mem_nil, or_false] at h
    have HS := Lib.hid hs
    clear hs hb
    rcases h with h | h | h | h | h | h | h | h | h | h
    all_goals
      rw [h] at HS
      obtain ⟨l, hl⟩ : ∃ l, l = s.toList := ⟨_, rfl⟩
      have he : s.toList = _ := HS.out
      clear h hl HS
      go_enter Tryz.func46, Tryz.ntmps46
      go_wp2
      go_ret
      exact ⟨rfl, rfl⟩
  · have hb : barred.any (· == s.data.toList) = false := by
      rw [Bool.eq_false_iff]
      intro e
      obtain ⟨x, hx, he⟩ := List.any_eq_true.1 e
      have : x = s.data.toList := by simpa using he
      exact h (this ▸ hx)
    rw [hb]
    unfold barred at h
    simp only [List.mem_cons, List.not_mem_nil, or_false, not_or] at h
    obtain ⟨h1, h2, h3, h4, h5, h6, h7, h8, h9, h10⟩ := h
    replace h1 := beq_eq_false_iff_ne.2 h1
    replace h2 := beq_eq_false_iff_ne.2 h2
    replace h3 := beq_eq_false_iff_ne.2 h3
    replace h4 := beq_eq_false_iff_ne.2 h4
    replace h5 := beq_eq_false_iff_ne.2 h5
    replace h6 := beq_eq_false_iff_ne.2 h6
    replace h7 := beq_eq_false_iff_ne.2 h7
    replace h8 := beq_eq_false_iff_ne.2 h8
    replace h9 := beq_eq_false_iff_ne.2 h9
    replace h10 := beq_eq_false_iff_ne.2 h10
    rw [← hs] at h1 h2 h3 h4 h5 h6 h7 h8 h9 h10
    clear hs hb
    go_enter Tryz.func46, Tryz.ntmps46
    go_wp2
    go_ret
    exact ⟨rfl, rfl⟩

end Go.Proofs.YtfklajkmikanbaaGreatDoor.LandedT

/- What the document's own prim, Number, Op give. -/
namespace Go.Proofs.YtfklajkmikanbaaGreatDoor
open Go.RowKit

/-- The sign of a comparison, by what is told of it. -/
theorem op_kinds (s : ByteArray) : (s.toList = [61, 61] ∧ opOf s.data.toList = 1) ∨ (s.toList = [33, 61] ∧ opOf s.data.toList = 2) ∨ (s.toList = [60] ∧ opOf s.data.toList = 3) ∨ (s.toList = [60, 61] ∧ opOf s.data.toList = 4) ∨
    (s.toList = [62] ∧ opOf s.data.toList = 5) ∨ (s.toList = [62, 61] ∧ opOf s.data.toList = 6) ∨ (((s.toList == [61, 61]) = false ∧ (s.toList == [33, 61]) = false ∧ (s.toList == [60]) = false ∧ (s.toList == [60, 61]) = false ∧ (s.toList == [62]) = false ∧ (s.toList == [62, 61]) = false) ∧ opOf s.data.toList = 0) := by
  rw [ByteArray.toList_eq]
  generalize s.data.toList = l
  by_cases h1 : l = [61, 61]
  · subst h1; exact .inl ⟨rfl, rfl⟩
  by_cases h2 : l = [33, 61]
  · subst h2; exact .inr (.inl ⟨rfl, rfl⟩)
  by_cases h3 : l = [60]
  · subst h3; exact .inr (.inr (.inl ⟨rfl, rfl⟩))
  by_cases h4 : l = [60, 61]
  · subst h4; exact .inr (.inr (.inr (.inl ⟨rfl, rfl⟩)))
  by_cases h5 : l = [62]
  · subst h5; exact .inr (.inr (.inr (.inr (.inl ⟨rfl, rfl⟩))))
  by_cases h6 : l = [62, 61]
  · subst h6; exact .inr (.inr (.inr (.inr (.inr (.inl ⟨rfl, rfl⟩)))))
  refine .inr (.inr (.inr (.inr (.inr (.inr ⟨?_, ?_⟩)))))
  · simp only [beq_eq_false_iff_ne]
    exact ⟨h1, h2, h3, h4, h5, h6⟩
  · unfold opOf
    rw [if_neg h1, if_neg h2, if_neg h3, if_neg h4, if_neg h5, if_neg h6]

end Go.Proofs.YtfklajkmikanbaaGreatDoor

/- What the landed alike, has, isOp, taken, Name and told give. Condition: what the start lays of bytealg.MaxLen. -/
namespace Go.Proofs.YtfklajkmikanbaaGreatDoor.LandedT
open Go.RowKit

/-- Whether two are the same but for their kids. -/
def alikeB : Ex → Ex → Bool
  | .node kd op nm nu _ _ _, .node kd' op' nm' nu' _ _ _ => kd == kd' && (op.toList == op'.toList && (nm.toList == nm'.toList && nu == nu'))

theorem two_below (w : World) (a b : Obj) : Below w.heap.size w ((w.alloc a).alloc b) := below_alloc (boxed w a) (Nat.le_refl _) b

/-! ### isOp, Name -/
theorem nameL_cons (c : UInt8) (r : List UInt8) : nameL (c :: r) = (!digB c && ((c :: r).all wordB && !(barred.any (· == c :: r)))) := by
  have h : nameL (c :: r) = (letterB c && (c :: r).all wordB && !(barred.any (· == c :: r))) := rfl
  rw [h, word_first, List.all_cons]
  cases wordB c <;> cases digB c <;> simp

theorem trimmed_none (l : List UInt8) : ((strOf (l.dropWhile (inWordL.contains ·))).toList == []) = l.all wordB := by
  rw [strOf_toList]
  have h : (fun x => inWordL.contains x) = wordB := funext in_word
  rw [h]
  cases hd : l.dropWhile wordB with
  | nil =>
    have := drop_all wordB l
    rw [hd] at this
    rw [← this]
  | cons a r =>
    have := drop_all wordB l
    rw [hd] at this
    rw [← this]

set_option maxRecDepth 100000 in
set_option maxHeartbeats 1000000 in
theorem name_some (s : ByteArray) (c : UInt8) (r : List UInt8) (hl : s.data.toList = c :: r) (w : World) : Calls Tryz.prog 37 #[.string s] w (Quietly (.bool (nameL (c :: r))) w) := by
  have htl : s.toList = c :: r := (ByteArray.toList_eq s).trans hl
  have hsz : s.size = s.data.toList.length := by rw [Array.length_toList]; rfl
  have HTR : Hid (∀ W, Calls Tryz.prog 45 #[.string s, .string ⟨#[48, 49, 50, 51, 52, 53, 54, 55, 56, 57, 97, 98, 99, 100, 101, 102, 103, 104, 105, 106, 107, 108, 109, 110, 111, 112, 113, 114, 115, 116, 117, 118, 119, 120, 121, 122, 65, 66, 67, 68, 69, 70, 71, 72, 73, 74, 75, 76, 77, 78, 79, 80, 81, 82, 83, 84, 85, 86, 87, 88, 89, 90, 95]⟩] W
    fun e w' => ∃ x : ByteArray, e = .returned (.string x) ∧ (x.toList == []) = (c :: r).all wordB ∧ Below W.heap.size W w') := fun W => (trim_words s W).mono fun e w' ⟨h1, h2⟩ => ⟨_, h1, by rw [trimmed_none, hl], h2⟩
  have HTK : Hid (∀ W, Calls Tryz.prog 46 #[.string s] W fun e w' => e = .returned (.bool (barred.any (· == c :: r))) ∧ w' = W) := fun W => by
    have := taken_any s W
    rw [hl] at this
    exact this
  have HD : Hid (∀ W, Calls Tryz.prog 44 #[.string ⟨#[48, 49, 50, 51, 52, 53, 54, 55, 56, 57]⟩, .string ⟨#[c]⟩] W fun e w' => e = .returned (.bool (digB c)) ∧ W = w') := fun W => digits_has c W
  have h0 : (s.toList == []) = false := by rw [htl]; rfl
  have hx : s.extract 0 1 = ⟨#[c]⟩ := by
    apply Go.WideShapes.bytes_inj
    rw [Go.Lib.extract_eq, hl]
    simp
  have h1 : (1 : Int) ≤ (s.size : Int) := by rw [hsz, hl, List.length_cons]; omega
  rw [nameL_cons]
  clear htl hl hsz
  generalize (c :: r).all wordB = a at *
  generalize (barred.any (· == c :: r)) = k at *
  generalize digB c = d at *
  cases d
  · cases a
    · go_enter Tryz.func37, Tryz.ntmps37
      go_wp2_with fail
      refine (HD.out _).mono ?_
      rintro e w1 ⟨rfl, rfl⟩
      go_wp2_with fail
      refine (HTR.out _).mono ?_
      rintro e w2 ⟨x, rfl, hx0, hb2⟩
      go_wp2
      go_ret
      exact ⟨rfl, hb2⟩
    · go_enter Tryz.func37, Tryz.ntmps37
      go_wp2_with fail
      refine (HD.out _).mono ?_
      rintro e w1 ⟨rfl, rfl⟩
      go_wp2_with fail
      refine (HTR.out _).mono ?_
      rintro e w2 ⟨x, rfl, hx0, hb2⟩
      go_wp2_with fail
      refine (HTK.out _).mono ?_
      rintro e w3 ⟨rfl, rfl⟩
      go_wp2
      go_ret
      exact ⟨rfl, hb2⟩
  · go_enter Tryz.func37, Tryz.ntmps37
    go_wp2_with fail
    refine (HD.out _).mono ?_
    rintro e w1 ⟨rfl, rfl⟩
    go_wp2
    go_ret
    exact ⟨rfl, Below.refl _ _⟩

set_option maxRecDepth 100000 in
theorem name_any (s : ByteArray) (w : World) : Calls Tryz.prog 37 #[.string s] w (Quietly (.bool (nameOk s)) w) := by
  have hno : nameOk s = nameL s.data.toList := rfl
  rw [hno]
  cases hl : s.data.toList with
  | nil =>
    have h0 : (s.toList == []) = true := by rw [ByteArray.toList_eq, hl]; rfl
    unfold nameL
    clear hno hl
    go_enter Tryz.func37, Tryz.ntmps37
    go_wp2
    go_ret
    exact ⟨rfl, Below.refl _ _⟩
  | cons c r => exact name_some s c r hl w

end Go.Proofs.YtfklajkmikanbaaGreatDoor.LandedT

/- What the landed parser's name gives. No condition but sizes. -/
namespace Go.Proofs.YtfklajkmikanbaaGreatDoor.LandedP
open Go.RowKit

/-- A name is taken, or not. -/
def Named (g : Nat) (E : Env) (R : List Tk) (w : World) : Ending → World → Prop := fun e w' => w.grownBy w' (some g) ∧
  ((∃ s, nameH R = some s ∧ e = .returned (.tuple #[.string s, .bool true]) ∧ RdrAt 66 w' g E R.tail Flt.none ∧ StrIn s) ∨
   (nameH R = none ∧ e = .returned (.tuple #[.string ⟨#[]⟩, .bool false]) ∧ RdrAt 66 w' g E R Flt.none))

section
variable {w : World} {g : Nat} {E : Env} {R : List Tk}

set_option maxRecDepth 100000 in
set_option maxHeartbeats 4000000 in
theorem name_any (h : RdrAt 66 w g E R Flt.none) :
    Calls Tryz.prog 31 #[.pointer (some ⟨g, 0, none⟩)] w (Named g E R w) := by
  obtain ⟨A, c, h⟩ := h
  have c0 : w.cell? ⟨g, 0, none⟩ = some (.slice A R.length c) := h.box.cell 0
  have hgl := h.box.lt
  have hcap := h.cap
  have hroom := h.room
  cases R with
  | nil =>
    have H0 := Lib.hid h
    clear h
    simp only [List.length_nil] at c0 hcap
    go_enter Tryz.func31, Tryz.ntmps31
    go_wp2
    go_ret2
    exact ⟨only_refl _ _, .inr ⟨rfl, rfl, ⟨A, c, H0.out⟩⟩⟩
  | cons t r =>
    obtain ⟨b, o, rfl, hb, q0, q1, q2, q3⟩ := h.first
    have hbl : b < w.heap.size := Nat.lt_trans hb hgl
    have htz := (h.ok t (by simp)).size
    simp only [List.length_cons] at c0 hcap hroom
    obtain ⟨m, hm⟩ : ∃ m, m = r.length := ⟨_, rfl⟩
    rw [← hm] at c0 hcap hroom
    have hnI : (0 : Int) < ((m + 1 : Nat) : Int) := by omega
    have hnz : ¬ ((m + 1 : Nat) : Int) = 0 := by omega
    by_cases hk : t.kind = 1
    · have hk1 : (t.kind != 1) = false := by simp [hk]
      have hk2 : (t.kind == 1) = true := by simp [hk]
      have HN := Lib.hid (LandedT.name_any t.text w)
      cases ho : nameOk t.text
      · have HE : Hid (nameH (t :: r) = none) := by
          show nameH (t :: r) = none
          simp only [nameH]
          rw [if_pos hk, if_neg (by rw [ho]; decide)]
        rw [ho] at HN
        have H0 := Lib.hid h
        clear h ho hk hm
        go_enter Tryz.func31, Tryz.ntmps31
        go_wp2_with fail
        refine HN.out.mono ?_
        rintro e w1 ⟨rfl, hb1⟩
        have HB := Lib.hid hb1
        clear hb1
        go_wp2
        go_ret2
        exact ⟨only_below HB.out g, .inr ⟨HE.out, rfl, ⟨_, c, H0.out.step HB.out⟩⟩⟩
      · have HE : Hid (nameH (t :: r) = some t.text) := by
          show nameH (t :: r) = some t.text
          simp only [nameH]
          rw [if_pos hk, if_pos ho]
        rw [ho] at HN
        have HCL := Lib.hid (fun W => clone_any t.text W htz)
        have HST : Hid (StrIn t.text) := by
          show t.text.size ≤ maxLen
          exact Nat.le_trans htz (by decide)
        have H0 := Lib.hid h
        have hr0 : Hid (m = 0 → r = []) := fun h => List.length_eq_zero_iff.1 (by omega)
        clear h ho hk
        have hc1 : m + 1 ≤ 1000000 := by omega
        have HM := Lib.hid hm
        clear hm
        go_enter Tryz.func31, Tryz.ntmps31
        go_wp2_with fail
        refine HN.out.mono ?_
        rintro e w1 ⟨rfl, hb1⟩
        obtain ⟨hc, hf⟩ := cells_below hb1
        have hz := hb1.size
        have HB := Lib.hid hb1
        clear hb1 HN
        go_wp2_with fail
        refine (HCL.out _).mono ?_
        rintro e w2 ⟨rfl, hb2⟩
        have HB2 := Lib.hid (HB.out.trans (hb2.mono HB.out.size))
        have c0' : w2.cell? ⟨g, 0, none⟩ = some (.slice (some ⟨b, o, none⟩) (m + 1) c) := (HB2.out.cell (p := ⟨g, 0, none⟩) hgl).trans c0
        have z0' : w2.frozen? ⟨g, 0, none⟩ = false := (HB2.out.frozen (p := ⟨g, 0, none⟩) hgl).trans (H0.out.box.free 0)
        have hgl2 : g < w2.heap.size := Nat.lt_of_lt_of_le hgl HB2.out.size
        have H2 := Lib.hid (H0.out.step HB2.out)
        have HNX := Lib.hid (fun (A' : Option Addr) (c' : Nat) (w3 : World) => rdr_next (w1 := w3) H2.out (A' := A') (c' := c'))
        rw [← HM.out] at HNX
        clear hb2 hc hf c0 q0 q1 q2 q3 hz HB
        by_cases hcc : c = 1
        · subst hcc
          obtain rfl : m = 0 := by omega
          go_wp2
          go_ret2
          obtain ⟨h1, h2⟩ := HNX.out _ _ _ rfl (.inl (by simpa using hr0.out)) (Nat.le_refl _)
          exact ⟨only_trans (only_below HB2.out g) h2, .inl ⟨_, HE.out, rfl, h1, HST.out⟩⟩
        · have hcc3 : ¬ (1 = c) := fun e => hcc e.symm
          have hcI : ¬ ((c : Int) = 1) := by omega
          have hcI2 : (1 : Int) ≤ (c : Int) := by omega
          go_wp2
          go_ret2
          obtain ⟨h1, h2⟩ := HNX.out _ (c - 1) _ rfl (.inr rfl) (by omega)
          exact ⟨only_trans (only_below HB2.out g) h2, .inl ⟨_, HE.out, rfl, h1, HST.out⟩⟩
    · have hk1 : (t.kind != 1) = true := by simp [hk]
      have hk2 : (t.kind == 1) = false := by simp [hk]
      have HE : Hid (nameH (t :: r) = none) := by
        show nameH (t :: r) = none
        simp only [nameH]
        rw [if_neg hk]
      have H0 := Lib.hid h
      clear h hk hm
      go_enter Tryz.func31, Tryz.ntmps31
      go_wp2
      go_ret2
      exact ⟨only_refl _ _, .inr ⟨HE.out, rfl, ⟨_, c, H0.out⟩⟩⟩
end

end Go.Proofs.YtfklajkmikanbaaGreatDoor.LandedP
