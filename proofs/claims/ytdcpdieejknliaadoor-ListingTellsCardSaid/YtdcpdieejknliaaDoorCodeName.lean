/- What the document's own table of codes gives. -/
import Derived.Test.YtdcpdieejknliaaDoorStore
import Derived.Test.YtdcpdieejknliaaDoorChecked
import Derived.Lib.SlicesS
namespace Go.Proofs.YtdcpdieejknliaaDoor
open Go.RowKit

/-- Each code with its name. -/
def codeTab : List (Int × List UInt8) := [(0, [108, 100, 105, 109, 109]), (1, [108, 100, 120, 105, 109, 109]), (2, [115, 116]), (3, [115, 116, 120]), (4, [97, 100, 100, 107]), (5, [106, 97]), (6, [114, 101, 116, 107]), (7, [116, 97, 120]), (12, [97, 100, 100, 120]), (20, [115, 117, 98, 107]), (21, [106, 101, 113, 107]), (22, [114, 101, 116, 97]), (28, [115, 117, 98, 120]), (29, [106, 101, 113, 120]), (32, [108, 100, 97, 98, 115]), (36, [109, 117, 108, 107]), (37, [106, 103, 116, 107]), (44, [109, 117, 108, 120]), (45, [106, 103, 116, 120]), (52, [100, 105, 118, 107]), (53, [106, 103, 101, 107]), (60, [100, 105, 118, 120]), (61, [106, 103, 101, 120]), (68, [111, 114, 107]), (69, [106, 115, 101, 116, 107]), (76, [111, 114, 120]), (77, [106, 115, 101, 116, 120]), (84, [97, 110, 100, 107]), (92, [97, 110, 100, 120]), (96, [108, 100, 109, 101, 109]), (97, [108, 100, 120, 109, 101, 109]), (100, [108, 115, 104, 107]), (108, [108, 115, 104, 120]), (116, [114, 115, 104, 107]), (124, [114, 115, 104, 120]), (128, [108, 100, 108, 101, 110]), (129, [108, 100, 120, 108, 101, 110]), (132, [110, 101, 103]), (135, [116, 120, 97]), (164, [120, 111, 114, 107]), (172, [120, 111, 114, 120])]
def nameIn (c : Int) : List (Int × List UInt8) → List UInt8
  | [] => []
  | t :: r => if t.1 = c then t.2 else nameIn c r
def nameOf (c : Int) : List UInt8 := nameIn c codeTab
def isCode (c : Int) : Bool := (codeTab.map Prod.fst).contains c

def TabLies (w : World) (g h : Nat) : Prop := Lies w w.heap.size 1 (some ⟨g, 0, none⟩) 41 (codeTab.map fun t => .int .i64 t.1) ∧ Lies w w.heap.size 1 (some ⟨h, 0, none⟩) 41 (codeTab.map fun t => .string (strOf t.2))

def TwoTabs (w : World) : Ending → World → Prop := fun r w' => ∃ g h, r = .returned (.tuple #[.slice (some ⟨g, 0, none⟩) 41 41, .slice (some ⟨h, 0, none⟩) 41 41]) ∧ TabLies w' g h ∧ Below w.heap.size w w'

/-- Its cells. -/
def codeCells : List Value := [.int .i64 0, .int .i64 1, .int .i64 2, .int .i64 3, .int .i64 4, .int .i64 5, .int .i64 6, .int .i64 7, .int .i64 12, .int .i64 20, .int .i64 21, .int .i64 22, .int .i64 28, .int .i64 29, .int .i64 32, .int .i64 36, .int .i64 37, .int .i64 44, .int .i64 45, .int .i64 52, .int .i64 53, .int .i64 60, .int .i64 61, .int .i64 68, .int .i64 69, .int .i64 76, .int .i64 77, .int .i64 84, .int .i64 92, .int .i64 96, .int .i64 97, .int .i64 100, .int .i64 108, .int .i64 116, .int .i64 124, .int .i64 128, .int .i64 129, .int .i64 132, .int .i64 135, .int .i64 164, .int .i64 172]
def nameCells : List Value := [.string ⟨#[108, 100, 105, 109, 109]⟩, .string ⟨#[108, 100, 120, 105, 109, 109]⟩, .string ⟨#[115, 116]⟩, .string ⟨#[115, 116, 120]⟩, .string ⟨#[97, 100, 100, 107]⟩, .string ⟨#[106, 97]⟩, .string ⟨#[114, 101, 116, 107]⟩, .string ⟨#[116, 97, 120]⟩, .string ⟨#[97, 100, 100, 120]⟩, .string ⟨#[115, 117, 98, 107]⟩, .string ⟨#[106, 101, 113, 107]⟩, .string ⟨#[114, 101, 116, 97]⟩, .string ⟨#[115, 117, 98, 120]⟩, .string ⟨#[106, 101, 113, 120]⟩, .string ⟨#[108, 100, 97, 98, 115]⟩, .string ⟨#[109, 117, 108, 107]⟩, .string ⟨#[106, 103, 116, 107]⟩, .string ⟨#[109, 117, 108, 120]⟩, .string ⟨#[106, 103, 116, 120]⟩, .string ⟨#[100, 105, 118, 107]⟩, .string ⟨#[106, 103, 101, 107]⟩, .string ⟨#[100, 105, 118, 120]⟩, .string ⟨#[106, 103, 101, 120]⟩, .string ⟨#[111, 114, 107]⟩, .string ⟨#[106, 115, 101, 116, 107]⟩, .string ⟨#[111, 114, 120]⟩, .string ⟨#[106, 115, 101, 116, 120]⟩, .string ⟨#[97, 110, 100, 107]⟩, .string ⟨#[97, 110, 100, 120]⟩, .string ⟨#[108, 100, 109, 101, 109]⟩, .string ⟨#[108, 100, 120, 109, 101, 109]⟩, .string ⟨#[108, 115, 104, 107]⟩, .string ⟨#[108, 115, 104, 120]⟩, .string ⟨#[114, 115, 104, 107]⟩, .string ⟨#[114, 115, 104, 120]⟩, .string ⟨#[108, 100, 108, 101, 110]⟩, .string ⟨#[108, 100, 120, 108, 101, 110]⟩, .string ⟨#[110, 101, 103]⟩, .string ⟨#[116, 120, 97]⟩, .string ⟨#[120, 111, 114, 107]⟩, .string ⟨#[120, 111, 114, 120]⟩]
theorem codeCells_eq : (codeTab.map fun t => Value.int .i64 t.1) = codeCells := rfl
theorem nameCells_eq : (codeTab.map fun t => Value.string (strOf t.2)) = nameCells := rfl

theorem tabs_lie (w : World) (T S : TypeId) : TabLies ((w.alloc (.cells codeCells.toArray T)).alloc (.cells nameCells.toArray S)) w.heap.size (w.heap.size + 1) := by
  have h1 := (Box.new w T codeCells.toArray).alloc (.cells nameCells.toArray S)
  have h2 := Box.new (w.alloc (.cells codeCells.toArray T)) S nameCells.toArray
  unfold TabLies
  rw [codeCells_eq, nameCells_eq]
  refine ⟨⟨rfl, fun _ => ⟨w.heap.size, 0, rfl, h1.lt, fun j u hu => by rw [Nat.zero_add, h1.cell j]; simpa using hu⟩⟩, ⟨rfl, fun _ => ⟨w.heap.size + 1, 0, rfl, by simp, fun j u hu => ?_⟩⟩⟩
  rw [show w.heap.size + 1 = (w.alloc (.cells codeCells.toArray T)).heap.size from by simp, Nat.zero_add, h2.cell j]
  simpa using hu

set_option maxRecDepth 100000 in
set_option maxHeartbeats 1000000 in
theorem codes_any (w : World) : Calls Tryd.prog 26 #[] w (TwoTabs w) := by
  have H1 := Lib.hid (tabs_lie w 3 9)
  unfold codeCells nameCells at H1
  go_enter Tryd.func26, Tryd.ntmps26
  go_wp2
  go_ret2
  exact ⟨w.heap.size, w.heap.size + 1, rfl, H1.out, below_alloc (below_alloc (Below.refl _ _) (Nat.le_refl _) _) (Nat.le_refl _) _⟩

theorem tab_at (k : Nat) (h : k < 41) : ∃ t, codeTab[k]? = some t ∧ codeTab.drop k = t :: codeTab.drop (k + 1) :=
  ⟨codeTab[k], List.getElem?_eq_getElem h, List.drop_eq_getElem_cons h⟩

set_option maxHeartbeats 1000000 in
theorem codeName_any (c : Int) (w : World) : Calls Tryd.prog 20 #[.int .i64 c] w fun r w' => r = .returned (.string (strOf (nameOf c))) ∧ Below w.heap.size w w' := by
  go_enter Tryd.func20, Tryd.ntmps20
  go_wp2_with fail
  refine (codes_any _).mono ?_
  rintro r w1 ⟨g, h, rfl, ⟨hl1, hl2⟩, hb1⟩
  go_wp2_with fail
  go_loop [5] (fun i => ∃ k : Nat, k ≤ 41 ∧ i = .int .i64 k ∧ Hid (nameIn c (codeTab.drop k) = nameOf c)) (fun i => 41 - (intOf i).toNat)
  case atStart => exact ⟨0, by omega, rfl, rfl⟩
  case round =>
    obtain ⟨k, hk, rfl, HN⟩ := hrel
    by_cases hlt : k < 41
    · obtain ⟨b1, o1, e1, _, hc1⟩ := hl1.2 (by omega)
      obtain ⟨b2, o2, e2, _, hc2⟩ := hl2.2 (by omega)
      simp only [Option.some.injEq, Addr.mk.injEq, and_true] at e1 e2
      obtain ⟨rfl, rfl⟩ := e1
      obtain ⟨rfl, rfl⟩ := e2
      obtain ⟨t, ht, hd⟩ := tab_at k hlt
      have x1 := hc1 k (.int .i64 t.1) (by rw [List.getElem?_map, ht]; rfl)
      have x2 := hc2 k (.string (strOf t.2)) (by rw [List.getElem?_map, ht]; rfl)
      rw [Nat.zero_add] at x1 x2
      have HD := Lib.hid hd
      clear hc1 hc2 hd ht hl1 hl2
      cases hq : (t.1 == c)
      · have hne : ¬ t.1 = c := by simpa using hq
        have HM : Hid (nameIn c (codeTab.drop (k + 1)) = nameOf c) := by
          have := HN.out
          rw [HD.out, nameIn, if_neg hne] at this
          exact this
        have HNE := Lib.hid hne
        clear hne
        go_wp2
        go_round
        case rel => exact ⟨k + 1, by omega, by go_num, HM⟩
        case measure => simp [intOf]; omega
      · have he : t.1 = c := by simpa using hq
        have HM : Hid (nameOf c = t.2) := by
          have := HN.out
          rw [HD.out, nameIn, if_pos he] at this
          exact this.symm
        have HE := Lib.hid he
        clear he
        go_wp2
        go_ret
        exact ⟨by rw [HM.out]; rfl, hb1⟩
    · obtain rfl : k = 41 := by omega
      go_wp2
      go_ret
      exact ⟨by rw [← HN.out]; rfl, hb1⟩

theorem nameIn_none (c : Int) : ∀ l : List (Int × List UInt8), (l.map Prod.fst).contains c = false → nameIn c l = []
  | [], _ => rfl
  | t :: r, h => by
    simp only [List.map_cons, List.contains_cons, Bool.or_eq_false_iff] at h
    have : ¬ t.1 = c := fun e => by rw [e] at h; simp at h
    rw [nameIn, if_neg this]
    exact nameIn_none c r h.2

theorem nameIn_some (c : Int) : ∀ l : List (Int × List UInt8), (∀ t ∈ l, t.2 ≠ []) → (l.map Prod.fst).contains c = true → nameIn c l ≠ []
  | [], _, h => by simp at h
  | t :: r, hl, h => by
    rw [nameIn]
    by_cases e : t.1 = c
    · rw [if_pos e]
      exact hl t (List.mem_cons_self ..)
    · rw [if_neg e]
      refine nameIn_some c r (fun u hu => hl u (List.mem_cons_of_mem _ hu)) ?_
      simp only [List.map_cons, List.contains_cons, Bool.or_eq_true] at h
      rcases h with h | h
      · exact absurd (by simpa using h : c = t.1).symm e
      · exact h

theorem name_not (c : Int) (h : isCode c = false) : nameOf c = [] := nameIn_none c codeTab h
theorem name_code (c : Int) (h : isCode c = true) : nameOf c ≠ [] := nameIn_some c codeTab (by decide) h

theorem strOf_empty (l : List UInt8) (h : l ≠ []) : (strOf l).toList.isEmpty = false ∧ ((strOf l).toList == []) = false := by
  have e : (strOf l).toList = l := by rw [ByteArray.toList_eq]; rfl
  rw [e]
  cases l with
  | nil => exact absurd rfl h
  | cons a l => exact ⟨rfl, rfl⟩

theorem codeName_not (c : Int) (w : World) (h : isCode c = false) : Calls Tryd.prog 20 #[.int .i64 c] w fun r w' => r = .returned (.string ⟨#[]⟩) ∧ Below w.heap.size w w' := by
  have := codeName_any c w
  rw [name_not c h] at this
  exact this

theorem codeName_yes (c : Int) (w : World) (h : isCode c = true) : Calls Tryd.prog 20 #[.int .i64 c] w fun r w' => ∃ s, r = .returned (.string s) ∧ s.toList.isEmpty = false ∧ (s.toList == []) = false ∧ Below w.heap.size w w' :=
  (codeName_any c w).mono fun _ _ ⟨he, hb⟩ => ⟨_, he, (strOf_empty _ (name_code c h)).1, (strOf_empty _ (name_code c h)).2, hb⟩

end Go.Proofs.YtdcpdieejknliaaDoor
