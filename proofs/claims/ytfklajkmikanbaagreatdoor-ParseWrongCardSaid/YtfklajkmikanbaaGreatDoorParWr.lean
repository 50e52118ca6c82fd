/- The walk of ParseWrong. Condition: what the start lays. -/
import Derived.Test.YtfklajkmikanbaaGreatDoorPart26
import Derived.Deep.QuietTactic
import Derived.BigQuiet
namespace Go.Proofs.YtfklajkmikanbaaGreatDoor.LandedP
open Go.RowKit

/-- Where the three lists lie. -/
theorem wrongP_lie (w : World) (T S : TypeId) (m : Nat) (t : List UInt8 × Nat × Nat) (ht : wrongP[m]? = some t) :
    (((w.alloc (.cells wrongPV.toArray T)).alloc (.cells wrongPE.toArray S)).alloc (.cells wrongPA.toArray S)).cell? ⟨w.heap.size, m, none⟩ = some (.string (strOf t.1)) ∧
    (((w.alloc (.cells wrongPV.toArray T)).alloc (.cells wrongPE.toArray S)).alloc (.cells wrongPA.toArray S)).cell? ⟨w.heap.size + 1, m, none⟩ = some (.int .i64 (t.2.1 : Int)) ∧
    (((w.alloc (.cells wrongPV.toArray T)).alloc (.cells wrongPE.toArray S)).alloc (.cells wrongPA.toArray S)).cell? ⟨w.heap.size + 2, m, none⟩ = some (.int .i64 (t.2.2 : Int)) := by
  have h1 := ((Box.new w T wrongPV.toArray).alloc (.cells wrongPE.toArray S)).alloc (.cells wrongPA.toArray S)
  have h2 := (new2 w (.cells wrongPV.toArray T) S wrongPE.toArray).alloc (.cells wrongPA.toArray S)
  have h3 := new3 w (.cells wrongPV.toArray T) (.cells wrongPE.toArray S) S wrongPA.toArray
  refine ⟨(h1.cell m).trans ?_, (h2.cell m).trans ?_, (h3.cell m).trans ?_⟩
  · rw [← wrongPV_eq]; simp [ht]
  · rw [← wrongPE_eq]; simp [ht]
  · rw [← wrongPA_eq]; simp [ht]

set_option maxRecDepth 100000 in
set_option maxHeartbeats 8000000 in
theorem wrong_in (m : Nat) (hm : m < 24) (w : World) (hL : Laid w) : Calls Tryz.prog 4 #[.int .i64 (m : Int)] w (Quietly (.bool true) w) := by
  obtain ⟨t, ht⟩ : ∃ t, wrongP[m]? = some t := ⟨_, List.getElem?_eq_getElem hm⟩
  have hok : wrongIs t = true := List.all_eq_true.1 wrong_is t (List.mem_of_getElem? ht)
  have HL : Hid (∀ W : World, _) := fun W => wrongP_lie W 9 3 m t ht
  unfold wrongPV wrongPE wrongPA at HL
  unfold wrongIs at hok
  simp only [Bool.and_eq_true] at hok
  obtain ⟨hgood, hres⟩ := hok
  have HRD : Hid (∀ W : World, Below w.heap.size w W → Calls Tryz.prog 6 #[.string (strOf t.1)] W (ParseRes (endE Laid) (parseX (toksOf t.1)) W)) := fun W hW => by
    have := read_any (strOf t.1) (by rw [strOf_data]; exact hgood) W (hL.below hW)
    rw [strOf_data] at this
    exact this
  have HAL := Lib.hid (alive_any w hL)
  obtain ⟨x, er, at_⟩ := t
  dsimp only at HL HRD hres hgood
  obtain ⟨X, hX⟩ : ∃ X, X = strOf x := ⟨_, rfl⟩
  rw [← hX] at HL HRD
  have hst := store_cx
  have o0 := ord_0
  have o7 := ord_7
  have hcx := fun W => eq_cx 0 0 W ord_0 ord_0
  have hc7 := fun W => eq_cx 4619567317775286272 4619567317775286272 W ord_7 ord_7
  have hcf := fun W => eq_cx (fl 1) (fl (at_ : Int)) W (ord_fl _) (ord_fl _)
  have m24 : (m : Int) < 24 := by omega
  have m0 : (0 : Int) ≤ (m : Int) := by omega
  clear ht hX hL hgood
  generalize parseX (toksOf x) = P at HRD hres
  go_enter Tryz.func4, Tryz.ntmps4
  go_wp2_with fail
  refine HAL.out.mono ?_
  rintro e w1 ⟨rfl, hb1⟩
  obtain ⟨c0, c1, c2⟩ := HL.out w1
  have HC := Lib.hid (And.intro c0 (And.intro c1 c2))
  clear c0 c1 c2 HL HAL
  go_upto_region 5 with (fail)
  have HN0 := Lib.hid (below_alloc (below_alloc (below_alloc hb1 (Nat.le_refl _) (.cells #[.string ⟨#[85, 83, 69, 32, 112, 32, 68, 69, 70, 65, 85, 76, 84, 32, 76, 79, 71]⟩, .string ⟨#[85, 83, 69, 32, 112]⟩, .string ⟨#[85, 83, 69, 32, 112, 44, 32, 68, 69, 70, 65, 85, 76, 84, 32, 76, 79, 71]⟩, .string ⟨#[85, 83, 69, 32, 85, 83, 69, 32, 68, 69, 70, 65, 85, 76, 84, 32, 76, 79, 71]⟩, .string ⟨#[80, 79, 76, 73, 67, 89, 32, 112, 32, 123, 32, 125]⟩, .string ⟨#[80, 79, 76, 73, 67, 89, 32, 112, 32, 123, 32, 125, 32, 85, 83, 69, 32, 112, 32, 68, 69, 70, 65, 85, 76, 84, 32, 76, 79, 71, 32, 85, 83, 69, 32, 112, 32, 68, 69, 70, 65, 85, 76, 84, 32, 76, 79, 71]⟩, .string ⟨#[80, 79, 76, 73, 67, 89, 32, 112, 32, 123, 32, 44, 32, 125, 32, 85, 83, 69, 32, 112, 32, 68, 69, 70, 65, 85, 76, 84, 32, 76, 79, 71]⟩, .string ⟨#[80, 79, 76, 73, 67, 89, 32, 112, 32, 123, 32, 85, 83, 69, 32, 113, 44, 32, 125, 32, 85, 83, 69, 32, 112, 32, 68, 69, 70, 65, 85, 76, 84, 32, 76, 79, 71]⟩, .string ⟨#[80, 79, 76, 73, 67, 89, 32, 112, 32, 123, 32, 85, 83, 69, 32, 113, 32, 85, 83, 69, 32, 114, 32, 125, 32, 85, 83, 69, 32, 112, 32, 68, 69, 70, 65, 85, 76, 84, 32, 76, 79, 71]⟩, .string ⟨#[80, 79, 76, 73, 67, 89, 32, 112, 32, 123, 32, 65, 76, 76, 79, 87, 32, 123, 32, 114, 101, 97, 100, 44, 32, 119, 114, 105, 116, 101, 32, 125, 32, 76, 79, 71, 32, 123, 32, 125, 32, 125, 32, 85, 83, 69, 32, 112, 32, 68, 69, 70, 65, 85, 76, 84, 32, 76, 79, 71]⟩, .string ⟨#[80, 79, 76, 73, 67, 89, 32, 112, 32, 123, 32, 65, 76, 76, 79, 87, 32, 123, 32, 114, 101, 97, 100, 44, 32, 125, 32, 125, 32, 85, 83, 69, 32, 112, 32, 68, 69, 70, 65, 85, 76, 84, 32, 76, 79, 71]⟩, .string ⟨#[85, 83, 69, 32, 112, 32, 68, 69, 70, 65, 85, 76, 84, 32, 69, 82, 82, 78, 79, 40, 54, 53, 53, 51, 53, 41]⟩, .string ⟨#[85, 83, 69, 32, 112, 32, 68, 69, 70, 65, 85, 76, 84, 32, 69, 82, 82, 78, 79, 40, 54, 53, 53, 51, 54, 41]⟩, .string ⟨#[85, 83, 69, 32, 112, 32, 68, 69, 70, 65, 85, 76, 84, 32, 69, 82, 82, 78, 79]⟩, .string ⟨#[85, 83, 69, 32, 112, 32, 68, 69, 70, 65, 85, 76, 84, 32, 76, 79, 71, 40, 49, 41]⟩, .string ⟨#[35, 100, 101, 102, 105, 110, 101, 32, 65, 32, 49, 32, 124, 32, 66, 32, 85, 83, 69, 32, 112, 32, 68, 69, 70, 65, 85, 76, 84, 32, 76, 79, 71]⟩, .string ⟨#[35, 100, 101, 102, 105, 110, 101, 32, 85, 83, 69, 32, 49]⟩, .string ⟨#[35, 100, 101, 102, 105, 110, 101, 32, 65]⟩, .string ⟨#[80, 79, 76, 73, 67, 89, 32, 112, 32, 123, 32, 65, 76, 76, 79, 87, 32, 123, 32, 114, 101, 97, 100, 40, 41, 32, 125, 32, 125, 32, 85, 83, 69, 32, 112, 32, 68, 69, 70, 65, 85, 76, 84, 32, 76, 79, 71]⟩, .string ⟨#[80, 79, 76, 73, 67, 89, 32, 112, 32, 123, 32, 65, 76, 76, 79, 87, 32, 123, 32, 114, 101, 97, 100, 40, 97, 32, 98, 41, 32, 125, 32, 125, 32, 85, 83, 69, 32, 112, 32, 68, 69, 70, 65, 85, 76, 84, 32, 76, 79, 71]⟩, .string ⟨#[80, 79, 76, 73, 67, 89, 32, 112, 32, 123, 32, 65, 76, 76, 79, 87, 32, 123, 32, 114, 101, 97, 100, 32, 123, 32, 125, 32, 125, 32, 125, 32, 85, 83, 69, 32, 112, 32, 68, 69, 70, 65, 85, 76, 84, 32, 76, 79, 71]⟩, .string ⟨#[80, 79, 76, 73, 67, 89, 32, 112, 32, 123, 32, 65, 76, 76, 79, 87, 32, 123, 32, 114, 101, 97, 100, 32, 123, 32, 49, 32, 61, 61, 32, 97, 32, 125, 32, 125, 32, 125, 32, 85, 83, 69, 32, 112, 32, 68, 69, 70, 65, 85, 76, 84, 32, 76, 79, 71]⟩, .string ⟨#[80, 79, 76, 73, 67, 89, 32, 112, 32, 123, 32, 65, 76, 76, 79, 87, 32, 123, 32, 114, 101, 97, 100, 32, 123, 32, 97, 32, 38, 32, 49, 32, 124, 32, 50, 32, 61, 61, 32, 51, 32, 125, 32, 125, 32, 125, 32, 85, 83, 69, 32, 112, 32, 68, 69, 70, 65, 85, 76, 84, 32, 76, 79, 71]⟩, .string ⟨#[120]⟩] 9)) (Nat.le_refl _) (.cells #[.int .i64 0, .int .i64 3, .int .i64 3, .int .i64 3, .int .i64 11, .int .i64 11, .int .i64 3, .int .i64 3, .int .i64 0, .int .i64 0, .int .i64 3, .int .i64 0, .int .i64 3, .int .i64 3, .int .i64 3, .int .i64 0, .int .i64 3, .int .i64 3, .int .i64 0, .int .i64 3, .int .i64 3, .int .i64 3, .int .i64 3, .int .i64 3] 3)) (Nat.le_refl _) (.cells #[.int .i64 0, .int .i64 0, .int .i64 8, .int .i64 5, .int .i64 0, .int .i64 32, .int .i64 12, .int .i64 19, .int .i64 0, .int .i64 0, .int .i64 26, .int .i64 0, .int .i64 21, .int .i64 0, .int .i64 18, .int .i64 0, .int .i64 9, .int .i64 0, .int .i64 0, .int .i64 27, .int .i64 27, .int .i64 27, .int .i64 33, .int .i64 1] 3))
  have hz0 : (((w1.alloc (.cells #[.string ⟨#[85, 83, 69, 32, 112, 32, 68, 69, 70, 65, 85, 76, 84, 32, 76, 79, 71]⟩, .string ⟨#[85, 83, 69, 32, 112]⟩, .string ⟨#[85, 83, 69, 32, 112, 44, 32, 68, 69, 70, 65, 85, 76, 84, 32, 76, 79, 71]⟩, .string ⟨#[85, 83, 69, 32, 85, 83, 69, 32, 68, 69, 70, 65, 85, 76, 84, 32, 76, 79, 71]⟩, .string ⟨#[80, 79, 76, 73, 67, 89, 32, 112, 32, 123, 32, 125]⟩, .string ⟨#[80, 79, 76, 73, 67, 89, 32, 112, 32, 123, 32, 125, 32, 85, 83, 69, 32, 112, 32, 68, 69, 70, 65, 85, 76, 84, 32, 76, 79, 71, 32, 85, 83, 69, 32, 112, 32, 68, 69, 70, 65, 85, 76, 84, 32, 76, 79, 71]⟩, .string ⟨#[80, 79, 76, 73, 67, 89, 32, 112, 32, 123, 32, 44, 32, 125, 32, 85, 83, 69, 32, 112, 32, 68, 69, 70, 65, 85, 76, 84, 32, 76, 79, 71]⟩, .string ⟨#[80, 79, 76, 73, 67, 89, 32, 112, 32, 123, 32, 85, 83, 69, 32, 113, 44, 32, 125, 32, 85, 83, 69, 32, 112, 32, 68, 69, 70, 65, 85, 76, 84, 32, 76, 79, 71]⟩, .string ⟨#[80, 79, 76, 73, 67, 89, 32, 112, 32, 123, 32, 85, 83, 69, 32, 113, 32, 85, 83, 69, 32, 114, 32, 125, 32, 85, 83, 69, 32, 112, 32, 68, 69, 70, 65, 85, 76, 84, 32, 76, 79, 71]⟩, .string ⟨#[80, 79, 76, 73, 67, 89, 32, 112, 32, 123, 32, 65, 76, 76, 79, 87, 32, 123, 32, 114, 101, 97, 100, 44, 32, 119, 114, 105, 116, 101, 32, 125, 32, 76, 79, 71, 32, 123, 32, 125, 32, 125, 32, 85, 83, 69, 32, 112, 32, 68, 69, 70, 65, 85, 76, 84, 32, 76, 79, 71]⟩, .string ⟨#[80, 79, 76, 73, 67, 89, 32, 112, 32, 123, 32, 65, 76, 76, 79, 87, 32, 123, 32, 114, 101, 97, 100, 44, 32, 125, 32, 125, 32, 85, 83, 69, 32, 112, 32, 68, 69, 70, 65, 85, 76, 84, 32, 76, 79, 71]⟩, .string ⟨#[85, 83, 69, 32, 112, 32, 68, 69, 70, 65, 85, 76, 84, 32, 69, 82, 82, 78, 79, 40, 54, 53, 53, 51, 53, 41]⟩, .string ⟨#[85, 83, 69, 32, 112, 32, 68, 69, 70, 65, 85, 76, 84, 32, 69, 82, 82, 78, 79, 40, 54, 53, 53, 51, 54, 41]⟩, .string ⟨#[85, 83, 69, 32, 112, 32, 68, 69, 70, 65, 85, 76, 84, 32, 69, 82, 82, 78, 79]⟩, .string ⟨#[85, 83, 69, 32, 112, 32, 68, 69, 70, 65, 85, 76, 84, 32, 76, 79, 71, 40, 49, 41]⟩, .string ⟨#[35, 100, 101, 102, 105, 110, 101, 32, 65, 32, 49, 32, 124, 32, 66, 32, 85, 83, 69, 32, 112, 32, 68, 69, 70, 65, 85, 76, 84, 32, 76, 79, 71]⟩, .string ⟨#[35, 100, 101, 102, 105, 110, 101, 32, 85, 83, 69, 32, 49]⟩, .string ⟨#[35, 100, 101, 102, 105, 110, 101, 32, 65]⟩, .string ⟨#[80, 79, 76, 73, 67, 89, 32, 112, 32, 123, 32, 65, 76, 76, 79, 87, 32, 123, 32, 114, 101, 97, 100, 40, 41, 32, 125, 32, 125, 32, 85, 83, 69, 32, 112, 32, 68, 69, 70, 65, 85, 76, 84, 32, 76, 79, 71]⟩, .string ⟨#[80, 79, 76, 73, 67, 89, 32, 112, 32, 123, 32, 65, 76, 76, 79, 87, 32, 123, 32, 114, 101, 97, 100, 40, 97, 32, 98, 41, 32, 125, 32, 125, 32, 85, 83, 69, 32, 112, 32, 68, 69, 70, 65, 85, 76, 84, 32, 76, 79, 71]⟩, .string ⟨#[80, 79, 76, 73, 67, 89, 32, 112, 32, 123, 32, 65, 76, 76, 79, 87, 32, 123, 32, 114, 101, 97, 100, 32, 123, 32, 125, 32, 125, 32, 125, 32, 85, 83, 69, 32, 112, 32, 68, 69, 70, 65, 85, 76, 84, 32, 76, 79, 71]⟩, .string ⟨#[80, 79, 76, 73, 67, 89, 32, 112, 32, 123, 32, 65, 76, 76, 79, 87, 32, 123, 32, 114, 101, 97, 100, 32, 123, 32, 49, 32, 61, 61, 32, 97, 32, 125, 32, 125, 32, 125, 32, 85, 83, 69, 32, 112, 32, 68, 69, 70, 65, 85, 76, 84, 32, 76, 79, 71]⟩, .string ⟨#[80, 79, 76, 73, 67, 89, 32, 112, 32, 123, 32, 65, 76, 76, 79, 87, 32, 123, 32, 114, 101, 97, 100, 32, 123, 32, 97, 32, 38, 32, 49, 32, 124, 32, 50, 32, 61, 61, 32, 51, 32, 125, 32, 125, 32, 125, 32, 85, 83, 69, 32, 112, 32, 68, 69, 70, 65, 85, 76, 84, 32, 76, 79, 71]⟩, .string ⟨#[120]⟩] 9)).alloc (.cells #[.int .i64 0, .int .i64 3, .int .i64 3, .int .i64 3, .int .i64 11, .int .i64 11, .int .i64 3, .int .i64 3, .int .i64 0, .int .i64 0, .int .i64 3, .int .i64 0, .int .i64 3, .int .i64 3, .int .i64 3, .int .i64 0, .int .i64 3, .int .i64 3, .int .i64 0, .int .i64 3, .int .i64 3, .int .i64 3, .int .i64 3, .int .i64 3] 3)).alloc (.cells #[.int .i64 0, .int .i64 0, .int .i64 8, .int .i64 5, .int .i64 0, .int .i64 32, .int .i64 12, .int .i64 19, .int .i64 0, .int .i64 0, .int .i64 26, .int .i64 0, .int .i64 21, .int .i64 0, .int .i64 18, .int .i64 0, .int .i64 9, .int .i64 0, .int .i64 0, .int .i64 27, .int .i64 27, .int .i64 27, .int .i64 33, .int .i64 1] 3)).heap.size = w1.heap.size + 3 := by simp
  simp only [Nat.add_assoc, Nat.reduceAdd]
  obtain ⟨ga, hga⟩ : ∃ ga, ga = w1.heap.size := ⟨_, rfl⟩
  obtain ⟨gb, hgb⟩ : ∃ gb, gb = w1.heap.size + 1 := ⟨_, rfl⟩
  obtain ⟨gc, hgc⟩ : ∃ gc, gc = w1.heap.size + 2 := ⟨_, rfl⟩
  have HC0 := HC.out
  clear HC hb1
  generalize ((w1.alloc (.cells #[.string ⟨#[85, 83, 69, 32, 112, 32, 68, 69, 70, 65, 85, 76, 84, 32, 76, 79, 71]⟩, .string ⟨#[85, 83, 69, 32, 112]⟩, .string ⟨#[85, 83, 69, 32, 112, 44, 32, 68, 69, 70, 65, 85, 76, 84, 32, 76, 79, 71]⟩, .string ⟨#[85, 83, 69, 32, 85, 83, 69, 32, 68, 69, 70, 65, 85, 76, 84, 32, 76, 79, 71]⟩, .string ⟨#[80, 79, 76, 73, 67, 89, 32, 112, 32, 123, 32, 125]⟩, .string ⟨#[80, 79, 76, 73, 67, 89, 32, 112, 32, 123, 32, 125, 32, 85, 83, 69, 32, 112, 32, 68, 69, 70, 65, 85, 76, 84, 32, 76, 79, 71, 32, 85, 83, 69, 32, 112, 32, 68, 69, 70, 65, 85, 76, 84, 32, 76, 79, 71]⟩, .string ⟨#[80, 79, 76, 73, 67, 89, 32, 112, 32, 123, 32, 44, 32, 125, 32, 85, 83, 69, 32, 112, 32, 68, 69, 70, 65, 85, 76, 84, 32, 76, 79, 71]⟩, .string ⟨#[80, 79, 76, 73, 67, 89, 32, 112, 32, 123, 32, 85, 83, 69, 32, 113, 44, 32, 125, 32, 85, 83, 69, 32, 112, 32, 68, 69, 70, 65, 85, 76, 84, 32, 76, 79, 71]⟩, .string ⟨#[80, 79, 76, 73, 67, 89, 32, 112, 32, 123, 32, 85, 83, 69, 32, 113, 32, 85, 83, 69, 32, 114, 32, 125, 32, 85, 83, 69, 32, 112, 32, 68, 69, 70, 65, 85, 76, 84, 32, 76, 79, 71]⟩, .string ⟨#[80, 79, 76, 73, 67, 89, 32, 112, 32, 123, 32, 65, 76, 76, 79, 87, 32, 123, 32, 114, 101, 97, 100, 44, 32, 119, 114, 105, 116, 101, 32, 125, 32, 76, 79, 71, 32, 123, 32, 125, 32, 125, 32, 85, 83, 69, 32, 112, 32, 68, 69, 70, 65, 85, 76, 84, 32, 76, 79, 71]⟩, .string ⟨#[80, 79, 76, 73, 67, 89, 32, 112, 32, 123, 32, 65, 76, 76, 79, 87, 32, 123, 32, 114, 101, 97, 100, 44, 32, 125, 32, 125, 32, 85, 83, 69, 32, 112, 32, 68, 69, 70, 65, 85, 76, 84, 32, 76, 79, 71]⟩, .string ⟨#[85, 83, 69, 32, 112, 32, 68, 69, 70, 65, 85, 76, 84, 32, 69, 82, 82, 78, 79, 40, 54, 53, 53, 51, 53, 41]⟩, .string ⟨#[85, 83, 69, 32, 112, 32, 68, 69, 70, 65, 85, 76, 84, 32, 69, 82, 82, 78, 79, 40, 54, 53, 53, 51, 54, 41]⟩, .string ⟨#[85, 83, 69, 32, 112, 32, 68, 69, 70, 65, 85, 76, 84, 32, 69, 82, 82, 78, 79]⟩, .string ⟨#[85, 83, 69, 32, 112, 32, 68, 69, 70, 65, 85, 76, 84, 32, 76, 79, 71, 40, 49, 41]⟩, .string ⟨#[35, 100, 101, 102, 105, 110, 101, 32, 65, 32, 49, 32, 124, 32, 66, 32, 85, 83, 69, 32, 112, 32, 68, 69, 70, 65, 85, 76, 84, 32, 76, 79, 71]⟩, .string ⟨#[35, 100, 101, 102, 105, 110, 101, 32, 85, 83, 69, 32, 49]⟩, .string ⟨#[35, 100, 101, 102, 105, 110, 101, 32, 65]⟩, .string ⟨#[80, 79, 76, 73, 67, 89, 32, 112, 32, 123, 32, 65, 76, 76, 79, 87, 32, 123, 32, 114, 101, 97, 100, 40, 41, 32, 125, 32, 125, 32, 85, 83, 69, 32, 112, 32, 68, 69, 70, 65, 85, 76, 84, 32, 76, 79, 71]⟩, .string ⟨#[80, 79, 76, 73, 67, 89, 32, 112, 32, 123, 32, 65, 76, 76, 79, 87, 32, 123, 32, 114, 101, 97, 100, 40, 97, 32, 98, 41, 32, 125, 32, 125, 32, 85, 83, 69, 32, 112, 32, 68, 69, 70, 65, 85, 76, 84, 32, 76, 79, 71]⟩, .string ⟨#[80, 79, 76, 73, 67, 89, 32, 112, 32, 123, 32, 65, 76, 76, 79, 87, 32, 123, 32, 114, 101, 97, 100, 32, 123, 32, 125, 32, 125, 32, 125, 32, 85, 83, 69, 32, 112, 32, 68, 69, 70, 65, 85, 76, 84, 32, 76, 79, 71]⟩, .string ⟨#[80, 79, 76, 73, 67, 89, 32, 112, 32, 123, 32, 65, 76, 76, 79, 87, 32, 123, 32, 114, 101, 97, 100, 32, 123, 32, 49, 32, 61, 61, 32, 97, 32, 125, 32, 125, 32, 125, 32, 85, 83, 69, 32, 112, 32, 68, 69, 70, 65, 85, 76, 84, 32, 76, 79, 71]⟩, .string ⟨#[80, 79, 76, 73, 67, 89, 32, 112, 32, 123, 32, 65, 76, 76, 79, 87, 32, 123, 32, 114, 101, 97, 100, 32, 123, 32, 97, 32, 38, 32, 49, 32, 124, 32, 50, 32, 61, 61, 32, 51, 32, 125, 32, 125, 32, 125, 32, 85, 83, 69, 32, 112, 32, 68, 69, 70, 65, 85, 76, 84, 32, 76, 79, 71]⟩, .string ⟨#[120]⟩] 9)).alloc (.cells #[.int .i64 0, .int .i64 3, .int .i64 3, .int .i64 3, .int .i64 11, .int .i64 11, .int .i64 3, .int .i64 3, .int .i64 0, .int .i64 0, .int .i64 3, .int .i64 0, .int .i64 3, .int .i64 3, .int .i64 3, .int .i64 0, .int .i64 3, .int .i64 3, .int .i64 0, .int .i64 3, .int .i64 3, .int .i64 3, .int .i64 3, .int .i64 3] 3)).alloc (.cells #[.int .i64 0, .int .i64 0, .int .i64 8, .int .i64 5, .int .i64 0, .int .i64 32, .int .i64 12, .int .i64 19, .int .i64 0, .int .i64 0, .int .i64 26, .int .i64 0, .int .i64 21, .int .i64 0, .int .i64 18, .int .i64 0, .int .i64 9, .int .i64 0, .int .i64 0, .int .i64 27, .int .i64 27, .int .i64 27, .int .i64 33, .int .i64 1] 3) = w0 at *
  rw [← hgb, ← hgc, ← hga] at HC0 ⊢
  have hg1 : ga < w0.heap.size := by omega
  have hg2 : gb < w0.heap.size := by omega
  have hg3 : gc < w0.heap.size := by omega
  obtain ⟨c0, c1, c2⟩ := HC0
  clear hga hgb hgc hz0
  go_wp2_with fail
  refine (HRD.out _ HN0.out).mono ?_
  rintro e w2 ⟨hb2, h2⟩
  have HN2 := Lib.hid (below_step HN0.out (Nat.le_refl _) hb2)
  have d1 := (hb2.cell (p := ⟨gb, m, none⟩) hg2).trans c1
  have d2 := (hb2.cell (p := ⟨gc, m, none⟩) hg3).trans c2
  have hh2 : gb < w2.heap.size := Nat.lt_of_lt_of_le hg2 hb2.size
  have hh3 : gc < w2.heap.size := Nat.lt_of_lt_of_le hg3 hb2.size
  clear hb2 c0 c1 c2 HRD HN0 hg1 hg2 hg3
  rcases h2 with ⟨u, hx, rfl, _⟩ | ⟨err, R', hx, rfl⟩
  · rw [hx] at hres
    have her : er = 0 := by simpa using hres
    subst her
    clear hx hres
    obtain ⟨dA, dc, ds, pA, pc, ps, mA, mc, mm, ak, ad⟩ := u
    unfold Unt.val Flt.none Flt.val
    dsimp only
    go_wp2
    go_ret
    exact ⟨by simp, below_alloc (below_alloc HN2.out (Nat.le_refl _) _) (Nat.le_refl _) _⟩
  · rw [hx] at hres
    dsimp only at hres
    simp only [Bool.and_eq_true, Bool.not_eq_true', beq_eq_false_iff_ne, beq_iff_eq] at hres
    obtain ⟨her, hee, hR⟩ := hres
    subst hee
    have e1 : ¬ (er : Int) = 0 := by omega
    have e2 : ((er : Int) == 0) = false := by simp; omega
    cases R' with
    | nil =>
      have hat : at_ = 0 := by simpa using hR
      subst hat
      clear hx hR her
      unfold hereV endE Flt.val
      dsimp only
      go_wp2_with fail
      go_quiet (fail)
      go_wp2
      go_ret
      exact ⟨by simp, below_drewN (below_alloc (below_alloc HN2.out (Nat.le_refl _) _) (Nat.le_refl _) _) _⟩
    | cons k r =>
      dsimp only at hR
      simp only [Bool.and_eq_true, Bool.not_eq_true', beq_eq_false_iff_ne, beq_iff_eq] at hR
      obtain ⟨hat, hfi, hre, him⟩ := hR
      have e3 : ¬ (at_ : Int) = 0 := by omega
      have e4 : ((at_ : Int) == 0) = false := by simp; omega
      have HH : Hid ((hereV (endE Laid) (er : Int) (k :: r)).val = .agg #[.int .i64 (er : Int), .int .i64 0, .complex .f64 (fl 1) (fl (at_ : Int))]) := by
        show Value.agg #[.int .i64 (er : Int), .int .i64 k.file, .complex .f64 k.re k.im] = _
        rw [hfi, hre, him]
      rw [HH.out]
      clear hx hat hfi hre him her HH
      go_wp2_with fail
      go_quiet ((go_at_call 8; exact Calls.quiet_of_same ((spot_any _ _ _).mono fun _ _ h => ⟨h.1, h.2.symm⟩)))
      go_wp2
      go_ret
      exact ⟨by simp, below_drewN (below_alloc (below_alloc HN2.out (Nat.le_refl _) _) (Nat.le_refl _) _) _⟩

set_option maxRecDepth 100000 in
set_option maxHeartbeats 4000000 in
theorem wrong_far (i : Int) (hi : i < 0 ∨ 24 ≤ i) (w : World) (hL : Laid w) : Calls Tryz.prog 4 #[.int .i64 i] w (Quietly (.bool true) w) := by
  have HAL := Lib.hid (alive_any w hL)
  clear hL
  rcases hi with hi | hi
  all_goals
    go_enter Tryz.func4, Tryz.ntmps4
    go_wp2_with fail
    refine HAL.out.mono ?_
    rintro e w1 ⟨rfl, hb1⟩
    go_wp2
    go_ret
    exact ⟨rfl, below_alloc (below_alloc (below_alloc hb1 (Nat.le_refl _) _) (Nat.le_refl _) _) (Nat.le_refl _) _⟩
theorem pwrong_any (i : Int) (w : World) (hL : Laid w) : Calls Tryz.prog 4 #[.int .i64 i] w (Quietly (.bool true) w) := by
  by_cases h : i < 0 ∨ 24 ≤ i
  · exact wrong_far i h w hL
  · obtain ⟨m, rfl⟩ : ∃ m : Nat, i = (m : Int) := ⟨i.toNat, by omega⟩
    exact wrong_in m (by omega) w hL

end Go.Proofs.YtfklajkmikanbaaGreatDoor.LandedP
