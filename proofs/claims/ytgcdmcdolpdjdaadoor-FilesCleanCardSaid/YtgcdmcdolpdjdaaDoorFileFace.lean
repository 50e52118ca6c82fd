/- What package files' functions say: to be shown of the code as it landed; the statements' own test of the document's example; the walk of FilesTell. -/
import Derived.Test.YtgcdmcdolpdjdaaDoorFileRef
namespace Go.Proofs.YtgcdmcdolpdjdaaDoor
open Go.RowKit

/-- The landed code's contract. -/
structure FileSays : Prop where
  clean : ∀ (s : ByteArray) (w : World), s.size ≤ 1099511627776 → Calls Tryd.prog 6 #[.string s] w (StrBool (cleanPath s.data.toList) w)
  find : ∀ (A : Option Addr) (n c : Nat) (fs : List (ByteArray × ByteArray)) (s : ByteArray) (w : World), Lies w w.heap.size 2 A n (filesV fs) → n ≤ c → n ≤ 4398046511104 → s.size ≤ 1099511627776 → (∀ f ∈ fs, f.1.size ≤ 1099511627776) →
    Calls Tryd.prog 8 #[.slice A n c, .string s] w (NumBool (fileOf fs s.data.toList) w)
  join : ∀ (f s : ByteArray) (w : World), f.size ≤ 1099511627776 → s.size ≤ 1099511627776 → Calls Tryd.prog 10 #[.string f, .string s] w (StrBool (joinPath f.data.toList s.data.toList) w)

theorem clean_ex : cleanPath [97, 47, 46, 47, 98, 47, 46, 46, 47, 99] = ([97, 47, 99], true) := by decide +kernel
theorem file_ex : fileOf [(strOf [120], ⟨#[]⟩), (strOf [97, 47, 99], ⟨#[]⟩)] [47, 97, 47, 47, 99] = (1, true) := by decide +kernel

set_option maxRecDepth 100000 in
set_option maxHeartbeats 1000000 in
theorem falive_any (R : FileSays) (w : World) : Calls Tryd.prog 5 #[] w fun e w' => e = .returned (.bool true) ∧ Below w.heap.size w w' := by
  have HC : Hid (∀ W : World, Calls Tryd.prog 6 #[.string ⟨#[97, 47, 46, 47, 98, 47, 46, 46, 47, 99]⟩] W (StrBool ([97, 47, 99], true) W)) := fun W => by
    have := R.clean (strOf [97, 47, 46, 47, 98, 47, 46, 46, 47, 99]) W (by decide)
    rw [strOf_data, clean_ex] at this
    exact this
  have HF : Hid (∀ (g : Nat) (W : World), Lies W W.heap.size 2 (some ⟨g, 0, none⟩) 2 [.string ⟨#[120]⟩, .string ⟨#[]⟩, .string ⟨#[97, 47, 99]⟩, .string ⟨#[]⟩] → Calls Tryd.prog 8 #[.slice (some ⟨g, 0, none⟩) 2 2, .string ⟨#[47, 97, 47, 47, 99]⟩] W (NumBool (1, true) W)) := fun g W hl => by
    have := R.find (some ⟨g, 0, none⟩) 2 2 [(strOf [120], ⟨#[]⟩), (strOf [97, 47, 99], ⟨#[]⟩)] (strOf [47, 97, 47, 47, 99]) W hl (Nat.le_refl _) (by decide) (by decide) (by
      intro f hf
      simp only [List.mem_cons, List.not_mem_nil, or_false] at hf
      rcases hf with rfl | rfl <;> decide)
    rw [strOf_data, file_ex] at this
    exact this
  go_enter Tryd.func5, Tryd.ntmps5
  go_wp2_with fail
  refine (HC.out _).mono ?_
  rintro r w1 ⟨rfl, hb1⟩
  go_wp2_with fail
  refine (HF.out _ _ (lies_new _ 2 2 rfl rfl rfl)).mono ?_
  rintro r w2 ⟨rfl, hb2⟩
  have hn2 := below_step (below_alloc hb1 (Nat.le_refl _) _) (Nat.le_refl _) hb2
  have hq : ((strOf [97, 47, 99]).toList == [97, 47, 99]) = true := by rw [strOf_toList]; rfl
  clear hb1 hb2
  go_wp2
  go_ret
  exact ⟨rfl, hn2⟩

set_option maxRecDepth 100000 in
set_option maxHeartbeats 4000000 in
theorem ftells_in (R : FileSays) (A : Option Addr) (n c : Nat) (fs : List (ByteArray × ByteArray)) (a b : ByteArray) (w : World) (hl : Lies w w.heap.size 2 A n (filesV fs)) (hnc : n ≤ c) (hn : n ≤ 30) (ha : a.size ≤ 200) (hb : b.size ≤ 200) :
    Calls Tryd.prog 3 #[.slice A n c, .string a, .string b] w fun e w' => e = .returned (.bool true) ∧ Below w.heap.size w w' := by
  have H1 : Hid (∀ W : World, Calls Tryd.prog 6 #[.string a] W (StrBool (cleanPath a.data.toList) W)) := fun W => R.clean a W (by omega)
  have H2 : Hid (∀ W : World, Calls Tryd.prog 7 #[.string a] W (StrBool (cleanPath a.data.toList) W)) := fun W => refClean_any a W (by omega)
  have H5 : Hid (∀ W : World, Calls Tryd.prog 10 #[.string a, .string b] W (StrBool (joinPath a.data.toList b.data.toList) W)) := fun W => R.join a b W (by omega) (by omega)
  have H6 : Hid (∀ W : World, Calls Tryd.prog 11 #[.string a, .string b] W (StrBool (joinPath a.data.toList b.data.toList) W)) := fun W => refJoin_any a b W (by omega) (by omega)
  have H3 : Hid ((∀ f ∈ fs, f.1.size ≤ 200) → ∀ W : World, Lies W W.heap.size 2 A n (filesV fs) → Calls Tryd.prog 8 #[.slice A n c, .string a] W (NumBool (fileOf fs a.data.toList) W)) := fun hf W hW => R.find A n c fs a W hW hnc (by omega) (by omega) (fun f h => by have := hf f h; omega)
  have H4 : Hid ((∀ f ∈ fs, f.1.size ≤ 200) → ∀ W : World, Lies W W.heap.size 2 A n (filesV fs) → Calls Tryd.prog 9 #[.slice A n c, .string a] W (NumBool (fileOf fs a.data.toList) W)) := fun hf W hW => refFile_any A n c fs a W hW (by omega) (by omega) (fun f h => by have := hf f h; omega)
  have hln : fs.length = n := by have := hl.1; rw [filesV_len] at this; omega
  have HLN := Lib.hid hln
  have HL := Lib.hid hl
  obtain ⟨C, hC⟩ : ∃ C, C = cleanPath a.data.toList := ⟨_, rfl⟩
  obtain ⟨F, hF⟩ : ∃ F, F = fileOf fs a.data.toList := ⟨_, rfl⟩
  obtain ⟨J, hJ⟩ : ∃ J, J = joinPath a.data.toList b.data.toList := ⟨_, rfl⟩
  rw [← hC] at H1 H2
  rw [← hF] at H3 H4
  rw [← hJ] at H5 H6
  clear hln hl hC hF hJ
  obtain ⟨cs, cb⟩ := C
  obtain ⟨fi, fb⟩ := F
  obtain ⟨js, jb⟩ := J
  have n30 : (n : Int) ≤ 30 := by omega
  have a200 : (a.size : Int) ≤ 200 := by omega
  have b200 : (b.size : Int) ≤ 200 := by omega
  go_enter Tryd.func3, Tryd.ntmps3
  go_wp2_with fail
  refine (falive_any R _).mono ?_
  rintro r w1 ⟨rfl, hb1⟩
  go_wp2_with fail
  go_loop [8] (fun i => ∃ k : Nat, k ≤ n ∧ i = .int .i64 k ∧ Hid (∀ j f, j < k → fs[j]? = some f → f.1.size ≤ 200)) (fun i => n - (intOf i).toNat)
  case atStart => exact ⟨0, by omega, rfl, fun j f hj => absurd hj (by omega)⟩
  case round =>
    obtain ⟨k, hk, rfl, HB⟩ := hrel
    by_cases hlt : k < n
    · obtain ⟨f, hf⟩ : ∃ f, fs[k]? = some f := ⟨_, List.getElem?_eq_getElem (by have := HLN.out; omega)⟩
      obtain ⟨a0, _⟩ := filesV_at fs k f hf
      obtain ⟨bb, bo, rfl, hbb, hcc⟩ := HL.out.2 (by omega)
      have e0 := (hb1.cell (p := ⟨bb, bo + k * 2, none⟩) hbb).trans (hcc _ _ a0)
      have hbw : bb < w1.heap.size := Nat.lt_of_lt_of_le hbb hb1.size
      have HFK := Lib.hid hf
      clear a0 hcc hf
      by_cases hs : 200 < f.1.size
      · have hs' : (200 : Int) < (f.1.size : Int) := by omega
        go_wp2
        go_ret
        exact ⟨rfl, hb1⟩
      · have hs' : (f.1.size : Int) ≤ 200 := by omega
        have hs2 : f.1.size ≤ 200 := by omega
        have HS := Lib.hid hs2
        go_wp2
        go_round
        case rel => exact ⟨k + 1, by omega, by go_num, fun j g hj hg => by
          by_cases e : j = k
          · subst e
            obtain rfl : f = g := Option.some.inj (HFK.out.symm.trans hg)
            exact HS.out
          · exact HB.out j g (by omega) hg⟩
        case measure => simp [intOf]; omega
    · obtain rfl : k = n := by omega
      have hall : ∀ f ∈ fs, f.1.size ≤ 200 := fun f hf => by
        obtain ⟨j, hj, rfl⟩ := List.mem_iff_getElem.1 hf
        exact HB.out j _ (by have := HLN.out; omega) (List.getElem?_eq_getElem hj)
      have HALL := Lib.hid hall
      clear hall HB
      go_wp2_with fail
      refine (H1.out _).mono ?_
      rintro r w2 ⟨rfl, hb2⟩
      have hn2 := below_step hb1 (Nat.le_refl _) hb2
      clear hb2
      go_wp2_with fail
      refine (H2.out _).mono ?_
      rintro r w3 ⟨rfl, hb3⟩
      have hn3 := below_step hn2 (Nat.le_refl _) hb3
      have hl3 := (HL.out.below hn3).wider hn3.size
      clear hb3 hn2
      go_wp2_with fail
      refine (H3.out HALL.out _ hl3).mono ?_
      rintro r w4 ⟨rfl, hb4⟩
      have hn4 := below_step hn3 (Nat.le_refl _) hb4
      have hl4 := (HL.out.below hn4).wider hn4.size
      clear hb4 hn3 hl3
      go_wp2_with fail
      refine (H4.out HALL.out _ hl4).mono ?_
      rintro r w5 ⟨rfl, hb5⟩
      have hn5 := below_step hn4 (Nat.le_refl _) hb5
      clear hb5 hn4 hl4
      go_wp2_with fail
      refine (H5.out _).mono ?_
      rintro r w6 ⟨rfl, hb6⟩
      have hn6 := below_step hn5 (Nat.le_refl _) hb6
      clear hb6 hn5
      go_wp2_with fail
      refine (H6.out _).mono ?_
      rintro r w7 ⟨rfl, hb7⟩
      have hn7 := below_step hn6 (Nat.le_refl _) hb7
      clear hb7 hn6
      go_wp2
      go_ret
      exact ⟨by simp, hn7⟩

set_option maxRecDepth 100000 in
theorem ftells_any (R : FileSays) (A : Option Addr) (n c : Nat) (fs : List (ByteArray × ByteArray)) (a b : ByteArray) (w : World) (hl : Lies w w.heap.size 2 A n (filesV fs)) (hnc : n ≤ c) :
    Calls Tryd.prog 3 #[.slice A n c, .string a, .string b] w fun e w' => e = .returned (.bool true) ∧ Below w.heap.size w w' := by
  by_cases hn : n ≤ 30
  · by_cases ha : a.size ≤ 200
    · by_cases hb : b.size ≤ 200
      · exact ftells_in R A n c fs a b w hl hnc hn ha hb
      · have n30 : (n : Int) ≤ 30 := by omega
        have a200 : (a.size : Int) ≤ 200 := by omega
        have b200 : (200 : Int) < (b.size : Int) := by omega
        clear hn ha hb
        go_enter Tryd.func3, Tryd.ntmps3
        go_wp2_with fail
        refine (falive_any R _).mono ?_
        rintro r w1 ⟨rfl, hb1⟩
        go_wp2
        go_ret
        exact ⟨rfl, hb1⟩
    · have n30 : (n : Int) ≤ 30 := by omega
      have a200 : (200 : Int) < (a.size : Int) := by omega
      clear hn ha
      go_enter Tryd.func3, Tryd.ntmps3
      go_wp2_with fail
      refine (falive_any R _).mono ?_
      rintro r w1 ⟨rfl, hb1⟩
      go_wp2
      go_ret
      exact ⟨rfl, hb1⟩
  · have n30 : (30 : Int) < (n : Int) := by omega
    clear hn
    go_enter Tryd.func3, Tryd.ntmps3
    go_wp2_with fail
    refine (falive_any R _).mono ?_
    rintro r w1 ⟨rfl, hb1⟩
    go_wp2
    go_ret
    exact ⟨rfl, hb1⟩

end Go.Proofs.YtgcdmcdolpdjdaaDoor
