/- The landed listing's small functions: within, fits, nameOf, codeOf. -/
import Derived.Test.YtdcpdieejknliaaDoorListNum
import Derived.Test.YtdcpdieejknliaaDoorRight
import Derived.BigQuiet
import Derived.Deep.DeepCutAuto
namespace Go.Proofs.YtdcpdieejknliaaDoor
open Go.RowKit

/-! ### Bounds -/
theorem within_any (n : Int) (k : Int) (b : Int) (hb : (b = 16 ∧ k = 65535) ∨ (b = 8 ∧ k = 255)) (w : World) :
    Calls Tryd.prog 27 #[.int .i64 n, .int .i64 b] w fun e w' => e = .returned (.bool (inB n k)) ∧ w' = w := by
  rcases hb with ⟨rfl, rfl⟩ | ⟨rfl, rfl⟩
  · by_cases h0 : 0 ≤ n
    · by_cases h1 : n < 65536
      all_goals
        go_enter Tryd.func27, Tryd.ntmps27
        go_wp2
        go_ret
        exact ⟨by simp [inB]; omega, rfl⟩
    · go_enter Tryd.func27, Tryd.ntmps27
      go_wp2
      go_ret
      exact ⟨by simp [inB]; omega, rfl⟩
  · by_cases h0 : 0 ≤ n
    · by_cases h1 : n < 256
      all_goals
        go_enter Tryd.func27, Tryd.ntmps27
        go_wp2
        go_ret
        exact ⟨by simp [inB]; omega, rfl⟩
    · go_enter Tryd.func27, Tryd.ntmps27
      go_wp2
      go_ret
      exact ⟨by simp [inB]; omega, rfl⟩

set_option maxHeartbeats 1000000 in
theorem fits_any (x : Ins) (w : World) :
    Calls Tryd.prog 17 #[x.val] w fun e w' => e = .returned (.bool x.fits) ∧ Below w.heap.size w w' := by
  obtain ⟨a, b, c, d⟩ := x
  unfold Ins.val Ins.fits
  dsimp only
  cases hA : inB a 65535
  · go_enter Tryd.func17, Tryd.ntmps17
    go_wp2_with (go_at_call 27; refine (within_any _ _ _ (by first | exact .inl ⟨rfl, rfl⟩ | exact .inr ⟨rfl, rfl⟩) _).mono ?_; rintro r w' ⟨rfl, rfl⟩)
    go_ret
    exact ⟨rfl, (Below.refl _ _).alloc (Nat.le_refl _) _⟩
  · cases hB : inB b 255
    · go_enter Tryd.func17, Tryd.ntmps17
      go_wp2_with (go_at_call 27; refine (within_any _ _ _ (by first | exact .inl ⟨rfl, rfl⟩ | exact .inr ⟨rfl, rfl⟩) _).mono ?_; rintro r w' ⟨rfl, rfl⟩)
      go_ret
      exact ⟨rfl, (Below.refl _ _).alloc (Nat.le_refl _) _⟩
    · go_enter Tryd.func17, Tryd.ntmps17
      go_wp2_with (go_at_call 27; refine (within_any _ _ _ (by first | exact .inl ⟨rfl, rfl⟩ | exact .inr ⟨rfl, rfl⟩) _).mono ?_; rintro r w' ⟨rfl, rfl⟩)
      go_ret
      exact ⟨rfl, (Below.refl _ _).alloc (Nat.le_refl _) _⟩

/-! ### The table of names -/
theorem land_codes : ∀ t ∈ landTab, nameIn t.1 codeTab = t.2 := by decide +kernel
theorem land_all : ∀ t ∈ codeTab, nameIn t.1 landTab = t.2 := by decide +kernel
theorem land_size : (Tryd.prog.info? 69).map (·.size) = some landCells.length := by kernel_rfl

theorem land_name (c : Int) : nameIn c landTab = nameOf c := by
  have out : ∀ l : List (Int × List UInt8), nameIn c l ≠ [] → (c, nameIn c l) ∈ l := name_mem c
  by_cases h : nameOf c = []
  · by_cases h2 : nameIn c landTab = []
    · rw [h, h2]
    · have := land_codes _ (out landTab h2)
      exact absurd (this.symm.trans h) h2
  · exact land_all _ (out codeTab h)

theorem land_cut : ∀ (l : List (Int × List UInt8)) (k : Nat) (t : Int × List UInt8), l[k]? = some t → ((l.flatMap landRow).drop (k * 2)).take 2 = landRow t
  | [], k, t, h => by simp at h
  | x :: r, 0, t, h => by
    obtain rfl : x = t := by simpa using h
    simp [landRow]
  | x :: r, k + 1, t, h => by
    have := land_cut r k t (by simpa using h)
    rw [List.flatMap_cons, show (k + 1) * 2 = 2 + k * 2 from by omega, ← List.drop_drop]
    exact this

theorem land_at (k : Nat) (t : Int × List UInt8) (h : landTab[k]? = some t) (w : World) :
    (Go.Instr.index 69 (.agg landCells.toArray) (.int .i64 k)).run Tryd.prog w = .ok (.agg #[.int .i64 t.1, .string (strOf t.2)]) w := by
  have hk : k < 41 := (List.getElem?_eq_some_iff.1 h).1
  have e : landCells.toArray.extract (k * 2) (k * 2 + 2) = #[.int .i64 t.1, .string (strOf t.2)] := by
    rw [List.extract_toArray, List.extract_eq_take_drop, show k * 2 + 2 - k * 2 = 2 from by omega]
    unfold landCells
    rw [land_cut landTab k t h]
    rfl
  simp only [Go.Instr.index, asIntOf, Sem.run_bind, Sem.run_pure, Result.andThen_ok, run_underlying Tryd.underlying69, part]
  rw [if_pos ⟨by omega, by omega⟩]
  simp only [Sem.run_bind, Sem.run_pure, Result.andThen_ok, Tryd.sizeOf68, Tryd.isAgg68, if_true, Int.toNat_natCast, e]

def LandAt (c : Int) (w : World) (i : Value) (wr : World) : Prop :=
  ∃ k : Nat, k ≤ 41 ∧ i = .int .i64 k ∧ nameIn c (landTab.drop k) = nameOf c ∧ Below w.heap.size w wr

set_option maxRecDepth 100000 in
set_option maxHeartbeats 2000000 in
theorem nameOf_any (c : Int) (w : World) (hL : Laid w) :
    Calls Tryd.prog 28 #[.int .i64 c] w fun e w' => e = .returned (.tuple #[.string (strOf (nameOf c)), .bool (!(nameOf c).isEmpty)]) ∧ Below w.heap.size w w' := by
  have hnames := Lib.hid hL.names
  have HN := Lib.hid (land_name c)
  clear hL
  go_enter Tryd.func28, Tryd.ntmps28
  go_wp2
  refine wp_load_mid 69 (.global 0) rfl 0 0 rfl landCells _ hnames.out Tryd.underlying69 rfl land_size ?_
  have HX := Lib.hid land_at
  generalize landCells.toArray = T at HX ⊢
  simp only [Act.put]
  go_wp2_with fail
  go_loopw [7] (fun i wr => LandAt c w i wr) (fun i _ => 41 - (intOf i).toNat)
  case atStart => exact ⟨0, by omega, rfl, HN.out, Below.refl _ _⟩
  case round =>
    obtain ⟨k, hk, rfl, hrest, hnx⟩ := hrel
    by_cases hlt : k < 41
    · obtain ⟨t, ht⟩ : ∃ t, landTab[k]? = some t := ⟨_, List.getElem?_eq_getElem hlt⟩
      have hix := HX.out k t ht wr
      have hd : landTab.drop k = t :: landTab.drop (k + 1) := by
        obtain ⟨h1, h2⟩ := List.getElem?_eq_some_iff.1 ht
        rw [List.drop_eq_getElem_cons h1, h2]
      have hm := List.mem_of_getElem? ht
      rw [hd, nameIn] at hrest
      have HT := Lib.hid ht
      have HM := Lib.hid hm
      have HR := Lib.hid hrest
      have HNX := Lib.hid hnx
      clear ht hd hm hrest hnx HX HN
      by_cases hc : t.1 = c
      · have hq : (t.1 == c) = true := by simpa using hc
        have hne : t.2 ≠ [] := by
          have : ∀ u ∈ landTab, u.2 ≠ [] := by decide +kernel
          exact this t HM.out
        have hr : nameOf c = t.2 := by
          have := HR.out
          rw [if_pos hc] at this
          exact this.symm
        have HE : Hid ((!(nameOf c).isEmpty) = true) := by
          unfold Hid
          rw [hr]
          cases h : t.2 with
          | nil => exact absurd h hne
          | cons a r => rfl
        have HW := Lib.hid hr
        clear hc hne hr
        go_wp2_with fail
        go_ret2
        exact ⟨by rw [HE.out, HW.out]; rfl, (below_alloc HNX.out (Nat.le_refl _) _)⟩
      · have hq : (t.1 == c) = false := by simpa using hc
        have HW : Hid (nameIn c (landTab.drop (k + 1)) = nameOf c) := by
          have := HR.out
          rw [if_neg hc] at this
          exact this
        clear hc
        go_wp2_with fail
        go_roundw
        case rel => exact ⟨k + 1, by omega, by go_num, HW.out, below_alloc HNX.out (Nat.le_refl _) _⟩
        case measure => simp [intOf]; omega
    · obtain rfl : k = 41 := by omega
      have hr : nameOf c = [] := by
        rw [← hrest]
        rfl
      have HW := Lib.hid hr
      clear hrest hr
      go_wp2
      go_ret2
      exact ⟨by rw [HW.out]; rfl, hnx⟩

/-! ### Codes by their names -/
def codeIn (p : List UInt8) : List (Int × List UInt8) → Int
  | [] => -1
  | t :: r => if t.2 = p then t.1 else codeIn p r
theorem codeIn_not (p : List UInt8) : ∀ l : List (Int × List UInt8), (∀ t ∈ l, t.2 ≠ p) → codeIn p l = -1
  | [], _ => rfl
  | t :: r, h => by
    rw [codeIn, if_neg (h t (List.mem_cons_self ..))]
    exact codeIn_not p r fun u hu => h u (List.mem_cons_of_mem _ hu)
theorem codeAt_not (p : List UInt8) : ∀ (l : List (Int × List UInt8)) (a : Int), (∀ t ∈ l, t.2 ≠ p) → l.foldl (fun c t => if t.2 = p then t.1 else c) a = a
  | [], _, _ => rfl
  | t :: r, a, h => by
    rw [List.foldl_cons, if_neg (h t (List.mem_cons_self ..))]
    exact codeAt_not p r a fun u hu => h u (List.mem_cons_of_mem _ hu)
theorem land_code : ∀ t ∈ landTab, codeIn t.2 landTab = codeAt t.2 := by decide +kernel
theorem land_sub : ∀ t ∈ codeTab, t ∈ landTab := by decide +kernel
theorem land_pos : ∀ t ∈ landTab, 0 ≤ t.1 := by decide +kernel
theorem land_find (p : List UInt8) : codeIn p landTab = codeAt p := by
  by_cases h : ∃ t ∈ landTab, t.2 = p
  · obtain ⟨t, ht, rfl⟩ := h
    exact land_code t ht
  · have h' : ∀ t ∈ landTab, t.2 ≠ p := fun t ht e => h ⟨t, ht, e⟩
    rw [codeIn_not p _ h']
    exact (codeAt_not p codeTab (-1) fun t ht => h' t (land_sub t ht)).symm

/-- What is handed back of a name's code: 0, where it is none. -/
def codeGet (p : List UInt8) : Int := if codeAt p < 0 then 0 else codeAt p
def codeHas (p : List UInt8) : Bool := decide (0 ≤ codeAt p)

def CodeFrom (p : List UInt8) (w : World) (i : Value) (wr : World) : Prop :=
  ∃ k : Nat, k ≤ 41 ∧ i = .int .i64 k ∧ codeIn p (landTab.drop k) = codeAt p ∧ Below w.heap.size w wr

set_option maxRecDepth 100000 in
set_option maxHeartbeats 2000000 in
theorem codeOf_any (p : List UInt8) (w : World) (hL : Laid w) :
    Calls Tryd.prog 31 #[.string (strOf p)] w fun e w' => e = .returned (.tuple #[.int .i64 (codeGet p), .bool (codeHas p)]) ∧ Below w.heap.size w w' := by
  have hnames := Lib.hid hL.names
  have HN := Lib.hid (land_find p)
  clear hL
  go_enter Tryd.func31, Tryd.ntmps31
  go_wp2
  refine wp_load_mid 69 (.global 0) rfl 0 0 rfl landCells _ hnames.out Tryd.underlying69 rfl land_size ?_
  have HX := Lib.hid land_at
  generalize landCells.toArray = T at HX ⊢
  simp only [Act.put]
  go_wp2_with fail
  go_loopw [7] (fun i wr => CodeFrom p w i wr) (fun i _ => 41 - (intOf i).toNat)
  case atStart => exact ⟨0, by omega, rfl, HN.out, Below.refl _ _⟩
  case round =>
    obtain ⟨k, hk, rfl, hrest, hnx⟩ := hrel
    by_cases hlt : k < 41
    · obtain ⟨t, ht⟩ : ∃ t, landTab[k]? = some t := ⟨_, List.getElem?_eq_getElem hlt⟩
      have hix := HX.out k t ht wr
      have hd : landTab.drop k = t :: landTab.drop (k + 1) := by
        obtain ⟨h1, h2⟩ := List.getElem?_eq_some_iff.1 ht
        rw [List.drop_eq_getElem_cons h1, h2]
      have hm := List.mem_of_getElem? ht
      rw [hd, codeIn] at hrest
      have HT := Lib.hid ht
      have HM := Lib.hid hm
      have HR := Lib.hid hrest
      have HNX := Lib.hid hnx
      clear ht hd hm hrest hnx HX HN
      by_cases hc : t.2 = p
      · have hq : ((strOf t.2).toList == (strOf p).toList) = true := by rw [strOf_toList, strOf_toList]; simpa using hc
        have hr : codeAt p = t.1 := by
          have := HR.out
          rw [if_pos hc] at this
          exact this.symm
        have HE : Hid (codeGet p = t.1 ∧ codeHas p = true) := by
          unfold Hid codeGet codeHas
          rw [hr]
          have := land_pos t HM.out
          exact ⟨if_neg (by omega), by simpa using this⟩
        clear hc hr
        go_wp2_with fail
        go_ret2
        exact ⟨by rw [HE.out.1, HE.out.2]; rfl, (below_alloc HNX.out (Nat.le_refl _) _)⟩
      · have hq : ((strOf t.2).toList == (strOf p).toList) = false := by rw [strOf_toList, strOf_toList]; simpa using hc
        have HW : Hid (codeIn p (landTab.drop (k + 1)) = codeAt p) := by
          have := HR.out
          rw [if_neg hc] at this
          exact this
        clear hc
        go_wp2_with fail
        go_roundw
        case rel => exact ⟨k + 1, by omega, by go_num, HW.out, below_alloc HNX.out (Nat.le_refl _) _⟩
        case measure => simp [intOf]; omega
    · obtain rfl : k = 41 := by omega
      have hr : codeAt p = -1 := by
        rw [← hrest]
        rfl
      have HW := Lib.hid hr
      clear hrest hr
      go_wp2
      go_ret2
      exact ⟨by rw [show codeGet p = 0 from by unfold codeGet; rw [HW.out]; rfl, show codeHas p = false from by unfold codeHas; rw [HW.out]; rfl]; rfl, hnx⟩

end Go.Proofs.YtdcpdieejknliaaDoor
