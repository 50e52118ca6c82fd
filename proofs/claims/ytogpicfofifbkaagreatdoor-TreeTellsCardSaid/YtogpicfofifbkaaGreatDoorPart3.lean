/- Texts of mine put together (a claim has at most so many files): Letters, TreeName. -/
import Derived.Test.YtogpicfofifbkaaGreatDoorPart2
import Derived.Test.YtogpicfofifbkaaGreatDoorChecked
import Derived.Lib.Hide
import Derived.BigQuiet
import Derived.Test.YtogpicfofifbkaaGreatDoorTreePlain
/- What the document's own tests of letters and digits give. -/
namespace Go.Proofs.YtogpicfofifbkaaGreatDoor
open Go.RowKit

/-- A value, and nothing turns. -/
def Plainly (v : Value) (w : World) : Ending → World → Prop := fun r w' => r = .returned v ∧ w = w'
/-- A value; the memory stands. -/
def Quietly (v : Value) (w : World) : Ending → World → Prop := fun r w' => r = .returned v ∧ Below w.heap.size w w'
theorem to_quiet {P : Program} {f : Nat} {vs : Array Value} {v : Value} {w : World} (h : Calls P f vs w (Plainly v w)) : Calls P f vs w (Quietly v w) := h.mono fun _ _ ⟨h1, h2⟩ => ⟨h1, h2 ▸ Below.refl _ _⟩

theorem digit_any (c : UInt8) (w : World) : Calls Tryz.prog 24 #[.int .u8 (c.toNat : Int)] w (Plainly (.bool (digB c)) w) := by
  cases h0 : decide (48 ≤ (c.toNat : Int))
  · have e0 : ¬ 48 ≤ (c.toNat : Int) := of_decide_eq_false h0
    go_enter Tryz.func24, Tryz.ntmps24
    go_wp2
    go_ret
    exact ⟨by rw [digB, h0]; rfl, rfl⟩
  · have e0 : 48 ≤ (c.toNat : Int) := of_decide_eq_true h0
    go_enter Tryz.func24, Tryz.ntmps24
    go_wp2
    go_ret
    exact ⟨by rw [digB, h0]; rfl, rfl⟩

set_option maxRecDepth 100000 in
set_option maxHeartbeats 2000000 in
theorem letter_any (c : UInt8) (w : World) : Calls Tryz.prog 23 #[.int .u8 (c.toNat : Int)] w (Plainly (.bool (letterB c)) w) := by
  by_cases h : letterB c = true
  · rw [h]
    have hp : (97 ≤ (c.toNat : Int) ∧ (c.toNat : Int) ≤ 122) ∨ (65 ≤ (c.toNat : Int) ∧ (c.toNat : Int) ≤ 90) ∨ (c.toNat : Int) = 95 := by
      simpa [letterB] using h
    clear h
    obtain ⟨n, hn⟩ : ∃ n : Int, n = (c.toNat : Int) := ⟨_, rfl⟩
    rw [← hn] at hp ⊢
    clear hn
    rcases hp with ⟨h1, h2⟩ | ⟨h1, h2⟩ | h1
    · go_enter Tryz.func23, Tryz.ntmps23
      go_wp2
      go_ret
      exact ⟨rfl, rfl⟩
    · have e1 : decide (97 ≤ n) = false := decide_eq_false (by omega)
      go_enter Tryz.func23, Tryz.ntmps23
      go_wp2
      go_ret
      exact ⟨rfl, rfl⟩
    · subst h1
      go_enter Tryz.func23, Tryz.ntmps23
      go_wp2
      go_ret
      exact ⟨rfl, rfl⟩
  · have hf : letterB c = false := by simpa using h
    rw [hf]
    have hp : ¬ ((97 ≤ (c.toNat : Int) ∧ (c.toNat : Int) ≤ 122) ∨ (65 ≤ (c.toNat : Int) ∧ (c.toNat : Int) ≤ 90) ∨ (c.toNat : Int) = 95) := by
      intro hp
      refine h ?_
      simpa [letterB] using hp
    clear h hf
    obtain ⟨n, hn⟩ : ∃ n : Int, n = (c.toNat : Int) := ⟨_, rfl⟩
    rw [← hn] at hp ⊢
    clear hn
    have b5 : (n == 95) = false := by rw [beq_eq_false_iff_ne]; omega
    by_cases h1 : 97 ≤ n
    · have e2 : decide (n ≤ 122) = false := decide_eq_false (by omega)
      have e3 : 65 ≤ n := by omega
      have e4 : decide (n ≤ 90) = false := decide_eq_false (by omega)
      clear hp
      go_enter Tryz.func23, Tryz.ntmps23
      go_wp2
      go_ret
      exact ⟨rfl, rfl⟩
    · have e1 : decide (97 ≤ n) = false := decide_eq_false h1
      by_cases h2 : 65 ≤ n
      · have e4 : decide (n ≤ 90) = false := decide_eq_false (by omega)
        clear hp
        go_enter Tryz.func23, Tryz.ntmps23
        go_wp2
        go_ret
        exact ⟨rfl, rfl⟩
      · have e3 : decide (65 ≤ n) = false := decide_eq_false h2
        clear hp
        go_enter Tryz.func23, Tryz.ntmps23
        go_wp2
        go_ret
        exact ⟨rfl, rfl⟩

end Go.Proofs.YtogpicfofifbkaaGreatDoor

/- What the document's own in and Name give. -/
namespace Go.Proofs.YtogpicfofifbkaaGreatDoor
open Go.RowKit

theorem any_yes {α : Type} {p : α → Bool} {l : List α} {k : Nat} {x : α} (h : l[k]? = some x) (hp : p x = true) : l.any p = true := List.any_eq_true.2 ⟨x, List.mem_of_getElem? h, hp⟩
theorem any_no {α : Type} {p : α → Bool} {l : List α} (h : ∀ j x, j < l.length → l[j]? = some x → p x = false) : l.any p = false := by
  rw [List.any_eq_false]
  intro x hx
  obtain ⟨j, hj⟩ := List.mem_iff_getElem?.1 hx
  rw [h j x (List.getElem?_eq_some_iff.1 hj).1 hj]
  decide
theorem all_yes {α : Type} {p : α → Bool} {l : List α} (h : ∀ j x, j < l.length → l[j]? = some x → p x = true) : l.all p = true := by
  rw [List.all_eq_true]
  intro x hx
  obtain ⟨j, hj⟩ := List.mem_iff_getElem?.1 hx
  exact h j x (List.getElem?_eq_some_iff.1 hj).1 hj
theorem all_no {α : Type} {p : α → Bool} {l : List α} {k : Nat} {x : α} (h : l[k]? = some x) (hp : p x = false) : l.all p = false := by
  cases ha : l.all p with
  | false => rfl
  | true =>
    rw [List.all_eq_true] at ha
    rw [ha x (List.mem_of_getElem? h)] at hp
    cases hp

def inL (l : List ByteArray) (s : ByteArray) : Bool := l.any fun x => x.toList == s.toList

set_option maxRecDepth 100000 in
theorem in_any (A : Option Addr) (c : Nat) (l : List ByteArray) (s : ByteArray) (w : World) (hl : SlIn w w.heap.size 1 strCells (fun _ => True) A c l) (hn : l.length ≤ 1099511627776) :
    Calls Tryz.prog 25 #[.slice A l.length c, .string s] w (Quietly (.bool (inL l s)) w) := by
  have HY : Hid (∀ (k : Nat) (x : ByteArray), l[k]? = some x → (x.toList == s.toList) = true → inL l s = true) := fun k x h hp => any_yes h hp
  have HN : Hid ((∀ (j : Nat) (x : ByteArray), j < l.length → l[j]? = some x → (x.toList == s.toList) = false) → inL l s = false) := fun h => any_no h
  obtain ⟨V, hV⟩ : ∃ V, V = inL l s := ⟨_, rfl⟩
  rw [← hV] at HY HN ⊢
  clear hV
  go_enter Tryz.func25, Tryz.ntmps25
  go_wp2
  go_loopw [5] (fun i wr => ∃ k : Nat, k ≤ l.length ∧ i = .int .i64 k ∧ Hid (∀ (j : Nat) (x : ByteArray), j < k → l[j]? = some x → (x.toList == s.toList) = false) ∧ Below w.heap.size w wr) (fun i _ => l.length - (intOf i).toNat)
  case atStart => exact ⟨0, Nat.zero_le _, rfl, fun j x h => absurd h (by omega), Below.refl _ _⟩
  case round =>
    obtain ⟨k, hk, rfl, HB, hnx⟩ := hrel
    by_cases hlt : k < l.length
    · obtain ⟨b, o, x, rfl, hb, hx, _, e0⟩ := (hl.mono hnx (Q := fun _ => True) fun _ _ _ => trivial).str hlt
      cases hq : (x.toList == s.toList) with
      | true =>
        have HV := Lib.hid (HY.out k x hx hq)
        clear hx
        go_wp2
        go_ret
        exact ⟨by rw [HV.out]; rfl, hnx⟩
      | false =>
        have HB2 : Hid (∀ (j : Nat) (x : ByteArray), j < k + 1 → l[j]? = some x → (x.toList == s.toList) = false) := fun j y hj hy => by
          by_cases h : j = k
          · subst h
            rw [hx] at hy
            rw [← Option.some.inj hy]
            exact hq
          · exact HB.out j y (by omega) hy
        clear hx
        go_wp2
        go_roundw
        case rel => exact ⟨k + 1, by omega, by go_num, HB2, hnx⟩
        case measure => simp [intOf]; omega
    · obtain rfl : k = l.length := by omega
      have HV := Lib.hid (HN.out HB.out)
      go_wp2
      go_ret
      exact ⟨by rw [HV.out]; rfl, hnx⟩

def barredS : List ByteArray := [⟨#[80, 79, 76, 73, 67, 89]⟩, ⟨#[85, 83, 69]⟩, ⟨#[68, 69, 70, 65, 85, 76, 84]⟩, ⟨#[65, 76, 76, 79, 87]⟩, ⟨#[76, 79, 71]⟩, ⟨#[75, 73, 76, 76]⟩, ⟨#[75, 73, 76, 76, 95, 80, 82, 79, 67, 69, 83, 83]⟩, ⟨#[84, 82, 65, 80]⟩, ⟨#[69, 82, 82, 78, 79]⟩, ⟨#[84, 82, 65, 67, 69]⟩]
theorem in_barred (s : ByteArray) : inL barredS s = barred.any (· == s.data.toList) := by
  unfold inL
  rw [show (s.toList) = s.data.toList from ByteArray.toList_eq s]
  simp only [barredS, barred, List.any_cons, List.any_nil, ByteArray.toList_eq]

theorem name_nil {s : ByteArray} (h : s.size = 0) : nameOk s = false := by
  have : s.data.toList = [] := List.eq_nil_of_length_eq_zero (by
    rw [Array.length_toList]
    exact h)
  unfold nameOk
  rw [this]
  rfl
theorem name_first {s : ByteArray} (h : 0 < s.size) (hq : letterB (s[0]'h) = false) : nameOk s = false := by
  have hx := str_at s 0 h
  unfold nameOk
  cases hd : s.data.toList with
  | nil => rfl
  | cons c r =>
    rw [hd] at hx
    have : c = s[0]'h := by simpa using hx
    simp only [nameL]
    rw [this, hq]
    rfl
theorem name_at {s : ByteArray} {k : Nat} (h : k < s.size) (hq : wordB (s[k]'h) = false) : nameOk s = false := by
  have hx := str_at s k h
  have ha := all_no (p := wordB) hx hq
  unfold nameOk
  cases hd : s.data.toList with
  | nil => rfl
  | cons c r =>
    rw [hd] at ha
    simp only [nameL]
    rw [ha]
    simp
theorem name_end {s : ByteArray} (h : 0 < s.size) (hq : letterB (s[0]'h) = true) (ha : ∀ j (hj : j < s.size), wordB (s[j]'hj) = true) : nameOk s = !inL barredS s := by
  have hx := str_at s 0 h
  have hall : s.data.toList.all wordB = true := all_yes fun j x hj hx => by
    have hj' : j < s.size := by simpa using hj
    rw [str_at s j hj'] at hx
    rw [← Option.some.inj hx]
    exact ha j hj'
  rw [in_barred]
  unfold nameOk
  cases hd : s.data.toList with
  | nil => rw [hd] at hx; cases hx
  | cons c r =>
    rw [hd] at hx hall
    have : c = s[0]'h := by simpa using hx
    simp only [nameL]
    rw [hall, this, hq]
    rfl

set_option maxRecDepth 100000 in
set_option maxHeartbeats 2000000 in
theorem refName_any (s : ByteArray) (w : World) (hs : s.size ≤ 1099511627776) : Calls Tryz.prog 8 #[.string s] w (Quietly (.bool (nameOk s)) w) := by
  have HL : Hid (∀ (c : UInt8) (W : World), Calls Tryz.prog 23 #[.int .u8 (c.toNat : Int)] W (Plainly (.bool (letterB c)) W)) := letter_any
  have HD : Hid (∀ (c : UInt8) (W : World), Calls Tryz.prog 24 #[.int .u8 (c.toNat : Int)] W (Plainly (.bool (digB c)) W)) := digit_any
  by_cases h0 : s.size = 0
  · rw [name_nil h0]
    have e0 : s = ⟨#[]⟩ := by
      obtain ⟨⟨l⟩⟩ := s
      have : l = [] := List.eq_nil_of_length_eq_zero h0
      rw [this]
    subst e0
    go_enter Tryz.func8, Tryz.ntmps8
    go_wp2
    go_ret
    exact ⟨rfl, Below.refl _ _⟩
  · have hp : 0 < s.size := by omega
    have hne1 : ¬ s.toList = [] := by
      intro e
      have h1 : s.data.toList.length = 0 := by rw [← ByteArray.toList_eq, e]; rfl
      have h2 : s.data.toList.length = s.size := by simp
      omega
    have hne : (s.toList == []) = false := beq_eq_false_iff_ne.2 hne1
    have HF : Hid (letterB (s[0]'hp) = false → nameOk s = false) := name_first hp
    have HA : Hid (∀ k (h : k < s.size), wordB (s[k]'h) = false → nameOk s = false) := fun k h => name_at h
    have HE : Hid (letterB (s[0]'hp) = true → (∀ j (hj : j < s.size), wordB (s[j]'hj) = true) → nameOk s = !inL barredS s) := name_end hp
    obtain ⟨V, hV⟩ : ∃ V, V = nameOk s := ⟨_, rfl⟩
    rw [← hV] at HF HA HE ⊢
    clear hV
    cases hq : letterB (s[0]'hp) with
    | false =>
      have HV := Lib.hid (HF.out hq)
      go_enter Tryz.func8, Tryz.ntmps8
      go_wp2_with fail
      refine (HL.out _ _).mono ?_
      rintro r w1 ⟨rfl, rfl⟩
      rw [hq]
      go_wp2
      go_ret
      exact ⟨by rw [HV.out]; rfl, Below.refl _ _⟩
    | true =>
      have HQ := Lib.hid hq
      go_enter Tryz.func8, Tryz.ntmps8
      go_wp2_with fail
      refine (HL.out _ _).mono ?_
      rintro r w1 ⟨rfl, rfl⟩
      rw [hq]
      clear hq
      go_wp2
      go_loopw [3] (fun i wr => ∃ k : Nat, k ≤ s.size ∧ i = .int .i64 k ∧ Hid (∀ j (hj : j < s.size), j < k → wordB (s[j]'hj) = true) ∧ Below w.heap.size w wr) (fun i _ => s.size - (intOf i).toNat)
      case atStart => exact ⟨0, Nat.zero_le _, rfl, fun j hj h => absurd h (by omega), Below.refl _ _⟩
      case round =>
        obtain ⟨k, hk, rfl, HB, hnx⟩ := hrel
        by_cases hlt : k < s.size
        · cases h1 : letterB (s[k]'hlt) with
          | true =>
            have HB2 : Hid (∀ j (hj : j < s.size), j < k + 1 → wordB (s[j]'hj) = true) := fun j hj h => by
              by_cases e : j = k
              · subst e
                unfold wordB
                rw [h1]
                rfl
              · exact HB.out j hj (by omega)
            go_wp2_with fail
            refine (HL.out _ _).mono ?_
            rintro r w1 ⟨rfl, rfl⟩
            rw [h1]
            go_wp2
            go_roundw
            case rel => exact ⟨k + 1, by omega, by go_num, HB2, hnx⟩
            case measure => simp [intOf]; omega
          | false =>
            cases h2 : digB (s[k]'hlt) with
            | true =>
              have HB2 : Hid (∀ j (hj : j < s.size), j < k + 1 → wordB (s[j]'hj) = true) := fun j hj h => by
                by_cases e : j = k
                · subst e
                  unfold wordB
                  rw [h1, h2]
                  rfl
                · exact HB.out j hj (by omega)
              go_wp2_with fail
              refine (HL.out _ _).mono ?_
              rintro r w1 ⟨rfl, rfl⟩
              rw [h1]
              go_wp2_with fail
              refine (HD.out _ _).mono ?_
              rintro r w1 ⟨rfl, rfl⟩
              rw [h2]
              go_wp2
              go_roundw
              case rel => exact ⟨k + 1, by omega, by go_num, HB2, hnx⟩
              case measure => simp [intOf]; omega
            | false =>
              have HV := Lib.hid (HA.out k hlt (by unfold wordB; rw [h1, h2]; rfl))
              go_wp2_with fail
              refine (HL.out _ _).mono ?_
              rintro r w1 ⟨rfl, rfl⟩
              rw [h1]
              go_wp2_with fail
              refine (HD.out _ _).mono ?_
              rintro r w1 ⟨rfl, rfl⟩
              rw [h2]
              go_wp2
              go_ret
              exact ⟨by rw [HV.out]; rfl, hnx⟩
        · obtain rfl : k = s.size := by omega
          have HV := Lib.hid (HE.out HQ.out (fun j hj => HB.out j hj hj))
          go_wp2_with fail
          refine (in_any (some ⟨_, 0, none⟩) 10 barredS s _ ⟨lies_new _ _ _ (by simp) rfl rfl, fun _ _ => trivial, by decide, by decide⟩ (by decide)).mono ?_
          rintro r w1 ⟨rfl, hb1⟩
          go_wp2
          go_ret
          exact ⟨by rw [HV.out]; rfl, below_step (hnx.alloc (by first | exact Below.size hnx | omega) _) (by simp) hb1⟩

end Go.Proofs.YtogpicfofifbkaaGreatDoor
