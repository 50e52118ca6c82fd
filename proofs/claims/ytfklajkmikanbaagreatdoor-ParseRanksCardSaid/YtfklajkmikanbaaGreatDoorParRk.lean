/- The walk of ParseRanks. Condition: what the start lays. -/
import Derived.Test.YtfklajkmikanbaaGreatDoorPart26
namespace Go.Proofs.YtfklajkmikanbaaGreatDoor.LandedP
open Go.RowKit

def rankT : List (List UInt8 × List UInt8 × List UInt8) := List.zip rankA (List.zip rankB rankC)
def rankIs (t : List UInt8 × List UInt8 × List UInt8) : Bool := toksGood (fullR t.1) && (toksGood (fullR t.2.1) && (toksGood (fullR t.2.2) && (match parseX (toksOf (fullR t.1)), parseX (toksOf (fullR t.2.1)), parseX (toksOf (fullR t.2.2)) with
  | .ok x, .ok y, .ok z => sameUnt x y && (!sameUnt x z && smallUnt x)
  | _, _, _ => false)))
theorem rank_is : rankT.all rankIs = true := by decide +kernel
theorem rank_short : ∀ t ∈ rankT, t.1.length ≤ 60 ∧ t.2.1.length ≤ 60 ∧ t.2.2.length ≤ 60 := by decide +kernel
theorem rankA_at : ∀ m, m < 8 → ∃ t, rankT[m]? = some t ∧ rankAV[m]? = some (.string (strOf t.1)) ∧ rankBV[m]? = some (.string (strOf t.2.1)) ∧ rankCV[m]? = some (.string (strOf t.2.2)) := by
  intro m hm
  rcases (by omega : m = 0 ∨ m = 1 ∨ m = 2 ∨ m = 3 ∨ m = 4 ∨ m = 5 ∨ m = 6 ∨ m = 7) with rfl | rfl | rfl | rfl | rfl | rfl | rfl | rfl
  all_goals exact ⟨_, rfl, rfl, rfl, rfl⟩

theorem rank_lie (w : World) (T : TypeId) (m : Nat) (t : List UInt8 × List UInt8 × List UInt8) (h1 : rankAV[m]? = some (.string (strOf t.1))) (h2 : rankBV[m]? = some (.string (strOf t.2.1))) (h3 : rankCV[m]? = some (.string (strOf t.2.2))) :
    (((w.alloc (.cells rankAV.toArray T)).alloc (.cells rankBV.toArray T)).alloc (.cells rankCV.toArray T)).cell? ⟨w.heap.size, m, none⟩ = some (.string (strOf t.1)) ∧
    (((w.alloc (.cells rankAV.toArray T)).alloc (.cells rankBV.toArray T)).alloc (.cells rankCV.toArray T)).cell? ⟨w.heap.size + 1, m, none⟩ = some (.string (strOf t.2.1)) ∧
    (((w.alloc (.cells rankAV.toArray T)).alloc (.cells rankBV.toArray T)).alloc (.cells rankCV.toArray T)).cell? ⟨w.heap.size + 2, m, none⟩ = some (.string (strOf t.2.2)) := by
  have k1 := ((Box.new w T rankAV.toArray).alloc (.cells rankBV.toArray T)).alloc (.cells rankCV.toArray T)
  have k2 := (new2 w (.cells rankAV.toArray T) T rankBV.toArray).alloc (.cells rankCV.toArray T)
  have k3 := new3 w (.cells rankAV.toArray T) (.cells rankBV.toArray T) T rankCV.toArray
  refine ⟨(k1.cell m).trans ?_, (k2.cell m).trans ?_, (k3.cell m).trans ?_⟩
  · simpa using h1
  · simpa using h2
  · simpa using h3

/-- Its text, put together. -/
theorem full_str (s : List UInt8) : ((⟨#[80, 79, 76, 73, 67, 89, 32, 112, 32, 123, 32, 65, 76, 76, 79, 87, 32, 123, 32, 114, 101, 97, 100, 32, 123, 32]⟩ : ByteArray) ++ strOf s) ++ (⟨#[32, 125, 32, 125, 32, 125, 32, 85, 83, 69, 32, 112, 32, 68, 69, 70, 65, 85, 76, 84, 32, 76, 79, 71]⟩ : ByteArray) = strOf (fullR s) := by
  rw [show (⟨#[80, 79, 76, 73, 67, 89, 32, 112, 32, 123, 32, 65, 76, 76, 79, 87, 32, 123, 32, 114, 101, 97, 100, 32, 123, 32]⟩ : ByteArray) = strOf rankPre from rfl, show (⟨#[32, 125, 32, 125, 32, 125, 32, 85, 83, 69, 32, 112, 32, 68, 69, 70, 65, 85, 76, 84, 32, 76, 79, 71]⟩ : ByteArray) = strOf rankSuf from rfl]
  unfold strOf fullR
  simp only [strOf_append]
theorem read_full (s : List UInt8) (X : ByteArray) (hX : X = strOf s) (hg : toksGood (fullR s) = true) (W : World) (hL : Laid W) :
    Calls Tryz.prog 6 #[.string (((⟨#[80, 79, 76, 73, 67, 89, 32, 112, 32, 123, 32, 65, 76, 76, 79, 87, 32, 123, 32, 114, 101, 97, 100, 32, 123, 32]⟩ : ByteArray) ++ X) ++ (⟨#[32, 125, 32, 125, 32, 125, 32, 85, 83, 69, 32, 112, 32, 68, 69, 70, 65, 85, 76, 84, 32, 76, 79, 71]⟩ : ByteArray))] W (ParseRes (endE Laid) (parseX (toksOf (fullR s))) W) := by
  rw [hX, full_str]
  have := read_any (strOf (fullR s)) (by rw [strOf_data]; exact hg) W hL
  rwa [strOf_data] at this

/-- A text that is read as x. -/
theorem read_is {x : Unt} {s : List UInt8} {w : World} {e : Ending} {w' : World} (hx : parseX (toksOf (fullR s)) = .ok x) (h : ParseRes (endE Laid) (parseX (toksOf (fullR s))) w e w') :
    Below w.heap.size w w' ∧ ∃ u : Unt, u.bare = x ∧ e = .returned (.tuple #[u.val, Flt.none.val]) ∧ UntIn w' w'.heap.size u := by
  obtain ⟨hb, ⟨u, h1, h2, h3⟩ | ⟨err, R', h1, _⟩⟩ := h
  · rw [hx] at h1
    injection h1 with h1
    exact ⟨hb, u, h1.symm, h2, h3.unt⟩
  · rw [hx] at h1
    cases h1

set_option maxRecDepth 100000 in
set_option maxHeartbeats 16000000 in
theorem ranks_in (m : Nat) (hm : m < 8) (w : World) (hL : Laid w) : Calls Tryz.prog 3 #[.int .i64 (m : Int)] w (Quietly (.bool true) w) := by
  obtain ⟨t, ht, t1, t2, t3⟩ := rankA_at m hm
  have hmem := List.mem_of_getElem? ht
  have hok : rankIs t = true := List.all_eq_true.1 rank_is t hmem
  obtain ⟨s1, s2, s3⟩ := rank_short t hmem
  have HL : Hid (∀ W : World, _) := fun W => rank_lie W 9 m t t1 t2 t3
  unfold rankAV rankBV rankCV at HL
  unfold rankIs at hok
  simp only [Bool.and_eq_true] at hok
  obtain ⟨ga1, ga2, ga3, hres⟩ := hok
  obtain ⟨a, b, c⟩ := t
  dsimp only at HL ga1 ga2 ga3 hres s1 s2 s3
  obtain ⟨XA, hXA⟩ : ∃ XA, XA = strOf a := ⟨_, rfl⟩
  obtain ⟨XB, hXB⟩ : ∃ XB, XB = strOf b := ⟨_, rfl⟩
  obtain ⟨XC, hXC⟩ : ∃ XC, XC = strOf c := ⟨_, rfl⟩
  have za : XA.size ≤ 60 := by rw [hXA, strOf_size]; exact s1
  have zb : XB.size ≤ 60 := by rw [hXB, strOf_size]; exact s2
  have zc : XC.size ≤ 60 := by rw [hXC, strOf_size]; exact s3
  have HA := Lib.hid (fun W (hW : Below w.heap.size w W) => read_full a XA hXA ga1 W (hL.below hW))
  have HB := Lib.hid (fun W (hW : Below w.heap.size w W) => read_full b XB hXB ga2 W (hL.below hW))
  have HC := Lib.hid (fun W (hW : Below w.heap.size w W) => read_full c XC hXC ga3 W (hL.below hW))
  have HAL := Lib.hid (alive_any w hL)
  rw [← hXA, ← hXB, ← hXC] at HL
  have H3 : ∃ x y z, parseX (toksOf (fullR a)) = .ok x ∧ parseX (toksOf (fullR b)) = .ok y ∧ parseX (toksOf (fullR c)) = .ok z ∧ sameUnt x y = true ∧ sameUnt x z = false ∧ smallUnt x = true := by
    split at hres
    · rename_i x y z hx hy hz
      simp only [Bool.and_eq_true, Bool.not_eq_true'] at hres
      exact ⟨x, y, z, hx, hy, hz, hres.1, hres.2.1, hres.2.2⟩
    · cases hres
  obtain ⟨x, y, z, hx, hy, hz, hxy, hxz, hsm⟩ := H3
  have HX := Lib.hid hx
  have HY := Lib.hid hy
  have HZ := Lib.hid hz
  have HXY := Lib.hid hxy
  have HXZ := Lib.hid hxz
  have HSM := Lib.hid hsm
  have hst := store_cx
  have o0 := ord_0
  have hcx := fun W => eq_cx 0 0 W ord_0 ord_0
  have m8 : (m : Int) < 8 := by omega
  have m0 : (0 : Int) ≤ (m : Int) := by omega
  clear ht t1 t2 t3 hmem s1 s2 s3 ga1 ga2 ga3 hres hXA hXB hXC hL hx hy hz hxy hxz hsm
  go_enter Tryz.func3, Tryz.ntmps3
  go_wp2_with fail
  refine HAL.out.mono ?_
  rintro e w1 ⟨rfl, hb1⟩
  have HC0 := HL.out w1
  clear HL HAL
  go_upto_region 5 with (fail)
  have HN0 := Lib.hid (below_alloc (below_alloc (below_alloc hb1 (Nat.le_refl _) (.cells #[.string ⟨#[97, 32, 61, 61, 32, 49, 32, 124, 124, 32, 98, 32, 61, 61, 32, 50, 32, 38, 38, 32, 99, 32, 61, 61, 32, 51]⟩, .string ⟨#[97, 32, 61, 61, 32, 49, 32, 38, 38, 32, 98, 32, 61, 61, 32, 50, 32, 124, 124, 32, 99, 32, 61, 61, 32, 51]⟩, .string ⟨#[33, 97, 32, 61, 61, 32, 49, 32, 38, 38, 32, 98, 32, 61, 61, 32, 50]⟩, .string ⟨#[97, 32, 61, 61, 32, 49, 32, 124, 124, 32, 98, 32, 61, 61, 32, 50, 32, 124, 124, 32, 99, 32, 61, 61, 32, 51]⟩, .string ⟨#[97, 32, 61, 61, 32, 49, 32, 38, 38, 32, 98, 32, 61, 61, 32, 50, 32, 38, 38, 32, 99, 32, 61, 61, 32, 51]⟩, .string ⟨#[33, 33, 97, 32, 61, 61, 32, 49]⟩, .string ⟨#[97, 32, 38, 32, 49, 32, 61, 61, 32, 49, 32, 124, 32, 50, 32, 38, 38, 32, 98, 32, 60, 32, 51]⟩, .string ⟨#[40, 40, 97, 32, 61, 61, 32, 49, 41, 41]⟩] 9)) (Nat.le_refl _) (.cells #[.string ⟨#[97, 32, 61, 61, 32, 49, 32, 124, 124, 32, 40, 98, 32, 61, 61, 32, 50, 32, 38, 38, 32, 99, 32, 61, 61, 32, 51, 41]⟩, .string ⟨#[40, 97, 32, 61, 61, 32, 49, 32, 38, 38, 32, 98, 32, 61, 61, 32, 50, 41, 32, 124, 124, 32, 99, 32, 61, 61, 32, 51]⟩, .string ⟨#[40, 33, 40, 97, 32, 61, 61, 32, 49, 41, 41, 32, 38, 38, 32, 98, 32, 61, 61, 32, 50]⟩, .string ⟨#[40, 97, 32, 61, 61, 32, 49, 32, 124, 124, 32, 98, 32, 61, 61, 32, 50, 41, 32, 124, 124, 32, 99, 32, 61, 61, 32, 51]⟩, .string ⟨#[40, 97, 32, 61, 61, 32, 49, 32, 38, 38, 32, 98, 32, 61, 61, 32, 50, 41, 32, 38, 38, 32, 99, 32, 61, 61, 32, 51]⟩, .string ⟨#[33, 40, 33, 40, 97, 32, 61, 61, 32, 49, 41, 41]⟩, .string ⟨#[40, 97, 32, 38, 32, 49, 32, 61, 61, 32, 49, 32, 124, 32, 50, 41, 32, 38, 38, 32, 40, 98, 32, 60, 32, 51, 41]⟩, .string ⟨#[97, 32, 61, 61, 32, 49]⟩] 9)) (Nat.le_refl _) (.cells #[.string ⟨#[40, 97, 32, 61, 61, 32, 49, 32, 124, 124, 32, 98, 32, 61, 61, 32, 50, 41, 32, 38, 38, 32, 99, 32, 61, 61, 32, 51]⟩, .string ⟨#[97, 32, 61, 61, 32, 49, 32, 38, 38, 32, 40, 98, 32, 61, 61, 32, 50, 32, 124, 124, 32, 99, 32, 61, 61, 32, 51, 41]⟩, .string ⟨#[33, 40, 97, 32, 61, 61, 32, 49, 32, 38, 38, 32, 98, 32, 61, 61, 32, 50, 41]⟩, .string ⟨#[97, 32, 61, 61, 32, 49, 32, 124, 124, 32, 40, 98, 32, 61, 61, 32, 50, 32, 124, 124, 32, 99, 32, 61, 61, 32, 51, 41]⟩, .string ⟨#[97, 32, 61, 61, 32, 49, 32, 38, 38, 32, 40, 98, 32, 61, 61, 32, 50, 32, 38, 38, 32, 99, 32, 61, 61, 32, 51, 41]⟩, .string ⟨#[33, 40, 97, 32, 61, 61, 32, 49, 41]⟩, .string ⟨#[97, 32, 38, 32, 49, 32, 61, 61, 32, 49, 32, 38, 38, 32, 98, 32, 60, 32, 51]⟩, .string ⟨#[33, 40, 97, 32, 61, 61, 32, 49, 41]⟩] 9))
  have hz0 : (((w1.alloc (.cells #[.string ⟨#[97, 32, 61, 61, 32, 49, 32, 124, 124, 32, 98, 32, 61, 61, 32, 50, 32, 38, 38, 32, 99, 32, 61, 61, 32, 51]⟩, .string ⟨#[97, 32, 61, 61, 32, 49, 32, 38, 38, 32, 98, 32, 61, 61, 32, 50, 32, 124, 124, 32, 99, 32, 61, 61, 32, 51]⟩, .string ⟨#[33, 97, 32, 61, 61, 32, 49, 32, 38, 38, 32, 98, 32, 61, 61, 32, 50]⟩, .string ⟨#[97, 32, 61, 61, 32, 49, 32, 124, 124, 32, 98, 32, 61, 61, 32, 50, 32, 124, 124, 32, 99, 32, 61, 61, 32, 51]⟩, .string ⟨#[97, 32, 61, 61, 32, 49, 32, 38, 38, 32, 98, 32, 61, 61, 32, 50, 32, 38, 38, 32, 99, 32, 61, 61, 32, 51]⟩, .string ⟨#[33, 33, 97, 32, 61, 61, 32, 49]⟩, .string ⟨#[97, 32, 38, 32, 49, 32, 61, 61, 32, 49, 32, 124, 32, 50, 32, 38, 38, 32, 98, 32, 60, 32, 51]⟩, .string ⟨#[40, 40, 97, 32, 61, 61, 32, 49, 41, 41]⟩] 9)).alloc (.cells #[.string ⟨#[97, 32, 61, 61, 32, 49, 32, 124, 124, 32, 40, 98, 32, 61, 61, 32, 50, 32, 38, 38, 32, 99, 32, 61, 61, 32, 51, 41]⟩, .string ⟨#[40, 97, 32, 61, 61, 32, 49, 32, 38, 38, 32, 98, 32, 61, 61, 32, 50, 41, 32, 124, 124, 32, 99, 32, 61, 61, 32, 51]⟩, .string ⟨#[40, 33, 40, 97, 32, 61, 61, 32, 49, 41, 41, 32, 38, 38, 32, 98, 32, 61, 61, 32, 50]⟩, .string ⟨#[40, 97, 32, 61, 61, 32, 49, 32, 124, 124, 32, 98, 32, 61, 61, 32, 50, 41, 32, 124, 124, 32, 99, 32, 61, 61, 32, 51]⟩, .string ⟨#[40, 97, 32, 61, 61, 32, 49, 32, 38, 38, 32, 98, 32, 61, 61, 32, 50, 41, 32, 38, 38, 32, 99, 32, 61, 61, 32, 51]⟩, .string ⟨#[33, 40, 33, 40, 97, 32, 61, 61, 32, 49, 41, 41]⟩, .string ⟨#[40, 97, 32, 38, 32, 49, 32, 61, 61, 32, 49, 32, 124, 32, 50, 41, 32, 38, 38, 32, 40, 98, 32, 60, 32, 51, 41]⟩, .string ⟨#[97, 32, 61, 61, 32, 49]⟩] 9)).alloc (.cells #[.string ⟨#[40, 97, 32, 61, 61, 32, 49, 32, 124, 124, 32, 98, 32, 61, 61, 32, 50, 41, 32, 38, 38, 32, 99, 32, 61, 61, 32, 51]⟩, .string ⟨#[97, 32, 61, 61, 32, 49, 32, 38, 38, 32, 40, 98, 32, 61, 61, 32, 50, 32, 124, 124, 32, 99, 32, 61, 61, 32, 51, 41]⟩, .string ⟨#[33, 40, 97, 32, 61, 61, 32, 49, 32, 38, 38, 32, 98, 32, 61, 61, 32, 50, 41]⟩, .string ⟨#[97, 32, 61, 61, 32, 49, 32, 124, 124, 32, 40, 98, 32, 61, 61, 32, 50, 32, 124, 124, 32, 99, 32, 61, 61, 32, 51, 41]⟩, .string ⟨#[97, 32, 61, 61, 32, 49, 32, 38, 38, 32, 40, 98, 32, 61, 61, 32, 50, 32, 38, 38, 32, 99, 32, 61, 61, 32, 51, 41]⟩, .string ⟨#[33, 40, 97, 32, 61, 61, 32, 49, 41]⟩, .string ⟨#[97, 32, 38, 32, 49, 32, 61, 61, 32, 49, 32, 38, 38, 32, 98, 32, 60, 32, 51]⟩, .string ⟨#[33, 40, 97, 32, 61, 61, 32, 49, 41]⟩] 9)).heap.size = w1.heap.size + 3 := by simp
  simp only [Nat.add_assoc, Nat.reduceAdd]
  obtain ⟨ga, hga⟩ : ∃ ga, ga = w1.heap.size := ⟨_, rfl⟩
  obtain ⟨gb, hgb⟩ : ∃ gb, gb = w1.heap.size + 1 := ⟨_, rfl⟩
  obtain ⟨gc, hgc⟩ : ∃ gc, gc = w1.heap.size + 2 := ⟨_, rfl⟩
  clear hb1
  generalize ((w1.alloc (.cells #[.string ⟨#[97, 32, 61, 61, 32, 49, 32, 124, 124, 32, 98, 32, 61, 61, 32, 50, 32, 38, 38, 32, 99, 32, 61, 61, 32, 51]⟩, .string ⟨#[97, 32, 61, 61, 32, 49, 32, 38, 38, 32, 98, 32, 61, 61, 32, 50, 32, 124, 124, 32, 99, 32, 61, 61, 32, 51]⟩, .string ⟨#[33, 97, 32, 61, 61, 32, 49, 32, 38, 38, 32, 98, 32, 61, 61, 32, 50]⟩, .string ⟨#[97, 32, 61, 61, 32, 49, 32, 124, 124, 32, 98, 32, 61, 61, 32, 50, 32, 124, 124, 32, 99, 32, 61, 61, 32, 51]⟩, .string ⟨#[97, 32, 61, 61, 32, 49, 32, 38, 38, 32, 98, 32, 61, 61, 32, 50, 32, 38, 38, 32, 99, 32, 61, 61, 32, 51]⟩, .string ⟨#[33, 33, 97, 32, 61, 61, 32, 49]⟩, .string ⟨#[97, 32, 38, 32, 49, 32, 61, 61, 32, 49, 32, 124, 32, 50, 32, 38, 38, 32, 98, 32, 60, 32, 51]⟩, .string ⟨#[40, 40, 97, 32, 61, 61, 32, 49, 41, 41]⟩] 9)).alloc (.cells #[.string ⟨#[97, 32, 61, 61, 32, 49, 32, 124, 124, 32, 40, 98, 32, 61, 61, 32, 50, 32, 38, 38, 32, 99, 32, 61, 61, 32, 51, 41]⟩, .string ⟨#[40, 97, 32, 61, 61, 32, 49, 32, 38, 38, 32, 98, 32, 61, 61, 32, 50, 41, 32, 124, 124, 32, 99, 32, 61, 61, 32, 51]⟩, .string ⟨#[40, 33, 40, 97, 32, 61, 61, 32, 49, 41, 41, 32, 38, 38, 32, 98, 32, 61, 61, 32, 50]⟩, .string ⟨#[40, 97, 32, 61, 61, 32, 49, 32, 124, 124, 32, 98, 32, 61, 61, 32, 50, 41, 32, 124, 124, 32, 99, 32, 61, 61, 32, 51]⟩, .string ⟨#[40, 97, 32, 61, 61, 32, 49, 32, 38, 38, 32, 98, 32, 61, 61, 32, 50, 41, 32, 38, 38, 32, 99, 32, 61, 61, 32, 51]⟩, .string ⟨#[33, 40, 33, 40, 97, 32, 61, 61, 32, 49, 41, 41]⟩, .string ⟨#[40, 97, 32, 38, 32, 49, 32, 61, 61, 32, 49, 32, 124, 32, 50, 41, 32, 38, 38, 32, 40, 98, 32, 60, 32, 51, 41]⟩, .string ⟨#[97, 32, 61, 61, 32, 49]⟩] 9)).alloc (.cells #[.string ⟨#[40, 97, 32, 61, 61, 32, 49, 32, 124, 124, 32, 98, 32, 61, 61, 32, 50, 41, 32, 38, 38, 32, 99, 32, 61, 61, 32, 51]⟩, .string ⟨#[97, 32, 61, 61, 32, 49, 32, 38, 38, 32, 40, 98, 32, 61, 61, 32, 50, 32, 124, 124, 32, 99, 32, 61, 61, 32, 51, 41]⟩, .string ⟨#[33, 40, 97, 32, 61, 61, 32, 49, 32, 38, 38, 32, 98, 32, 61, 61, 32, 50, 41]⟩, .string ⟨#[97, 32, 61, 61, 32, 49, 32, 124, 124, 32, 40, 98, 32, 61, 61, 32, 50, 32, 124, 124, 32, 99, 32, 61, 61, 32, 51, 41]⟩, .string ⟨#[97, 32, 61, 61, 32, 49, 32, 38, 38, 32, 40, 98, 32, 61, 61, 32, 50, 32, 38, 38, 32, 99, 32, 61, 61, 32, 51, 41]⟩, .string ⟨#[33, 40, 97, 32, 61, 61, 32, 49, 41]⟩, .string ⟨#[97, 32, 38, 32, 49, 32, 61, 61, 32, 49, 32, 38, 38, 32, 98, 32, 60, 32, 51]⟩, .string ⟨#[33, 40, 97, 32, 61, 61, 32, 49, 41]⟩] 9) = w0 at *
  rw [← hgb, ← hgc, ← hga] at HC0 ⊢
  have hg1 : ga < w0.heap.size := by omega
  have hg2 : gb < w0.heap.size := by omega
  have hg3 : gc < w0.heap.size := by omega
  obtain ⟨c0, c1, c2⟩ := HC0
  clear hga hgb hgc hz0
  go_wp2_with fail
  refine (HA.out _ HN0.out).mono ?_
  intro e w2 h2
  obtain ⟨hb2, u, hu, rfl, hui⟩ := read_is HX.out h2
  have c1_0 := c1; have c2_0 := c2; have hgb_0 := hg2; have hgc_0 := hg3; clear c0 c1 c2 hg1 hg2 hg3
  have HN2 := Lib.hid (below_step HN0.out (Nat.le_refl _) hb2)
  have c1_2 := (hb2.cell (p := ⟨gb, m, none⟩) hgb_0).trans c1_0
  have hgb_2 : gb < w2.heap.size := Nat.lt_of_lt_of_le hgb_0 hb2.size
  have c2_2 := (hb2.cell (p := ⟨gc, m, none⟩) hgc_0).trans c2_0
  have hgc_2 : gc < w2.heap.size := Nat.lt_of_lt_of_le hgc_0 hb2.size
  have Ix_2 := Lib.hid hui
  have Hx := Lib.hid hu
  clear hui hu h2 hb2 c1_0 hgb_0 c2_0 hgc_0  HN0 HA
  obtain ⟨dA, dc, ds, pA, pc, ps, mA, mc, mm, ak, ad⟩ := u
  unfold Unt.val Flt.none Flt.val
  dsimp only
  go_upto_region 8 with (fail)
  have hb := below2 w2 (.cells #[.slice dA ds.length dc, .slice pA ps.length pc, .slice mA mm.length mc, .int .i64 ak, .int .i64 ad] 29) (.cells #[.int .i64 0, .int .i64 0, .complex .f64 0 0] 33)
  have HN2b := Lib.hid (below_step HN2.out (Nat.le_refl _) hb)
  have Bx_b : Hid (Box ((w2.alloc (.cells #[.slice dA ds.length dc, .slice pA ps.length pc, .slice mA mm.length mc, .int .i64 ak, .int .i64 ad] 29)).alloc (.cells #[.int .i64 0, .int .i64 0, .complex .f64 0 0] 33)) w2.heap.size 29 #[.slice dA ds.length dc, .slice pA ps.length pc, .slice mA mm.length mc, .int .i64 ak, .int .i64 ad]) := (Box.new _ _ _).alloc _
  have Bf_b := Lib.hid (new2 w2 (.cells #[.slice dA ds.length dc, .slice pA ps.length pc, .slice mA mm.length mc, .int .i64 ak, .int .i64 ad] 29) 33 #[.int .i64 0, .int .i64 0, .complex .f64 0 0])
  have Ix_b := Lib.hid (Ix_2.out.next hb)
  have c1_b := (hb.cell (p := ⟨gb, m, none⟩) hgb_2).trans c1_2
  have hgb_b := Nat.lt_of_lt_of_le hgb_2 hb.size
  have c2_b := (hb.cell (p := ⟨gc, m, none⟩) hgc_2).trans c2_2
  have hgc_b := Nat.lt_of_lt_of_le hgc_2 hb.size
  obtain ⟨jx, hjx⟩ : ∃ j, j = w2.heap.size := ⟨_, rfl⟩
  obtain ⟨jf, hjf⟩ : ∃ j, j = w2.heap.size + 1 := ⟨_, rfl⟩
  clear hb HN2 Ix_2 c1_2 hgb_2 c2_2 hgc_2 
  try simp only [Nat.add_assoc, Nat.reduceAdd]
  generalize ((w2.alloc (.cells #[.slice dA ds.length dc, .slice pA ps.length pc, .slice mA mm.length mc, .int .i64 ak, .int .i64 ad] 29)).alloc (.cells #[.int .i64 0, .int .i64 0, .complex .f64 0 0] 33)) = w3 at *
  rw [← hjf] at Bf_b ⊢
  rw [← hjx] at Bx_b ⊢
  clear hjx hjf
  have HN2 := HN2b; clear HN2b; have Bx_2 := Bx_b; clear Bx_b; have Bf_2 := Bf_b; clear Bf_b; have Ix_2 := Ix_b; clear Ix_b; have c1_2 := c1_b; clear c1_b; have hgb_2 := hgb_b; clear hgb_b; have c2_2 := c2_b; clear c2_b; have hgc_2 := hgc_b; clear hgc_b
  go_wp2_with fail
  refine (HB.out _ HN2.out).mono ?_
  intro e w4 h4
  obtain ⟨hb4, u, hu, rfl, hui⟩ := read_is HY.out h4
  have HN4 := Lib.hid (below_step HN2.out (Nat.le_refl _) hb4)
  have c2_4 := (hb4.cell (p := ⟨gc, m, none⟩) hgc_2).trans c2_2
  have hgc_4 : gc < w4.heap.size := Nat.lt_of_lt_of_le hgc_2 hb4.size
  have Bx_4 := Lib.hid (Bx_2.out.step hb4)
  have Ix_4 := Lib.hid (Ix_2.out.next hb4)
  have Bf_4 := Lib.hid (Bf_2.out.step hb4)
  have Ix'_4 := Lib.hid hui
  have Hx' := Lib.hid hu
  clear hui hu h4 hb4 c2_2 hgc_2 Bx_2 Ix_2 Bf_2 HN2 HB
  obtain ⟨dA', dc', ds', pA', pc', ps', mA', mc', mm', ak', ad'⟩ := u
  unfold Unt.val Flt.none Flt.val
  dsimp only
  go_upto_region 9 with (fail)
  have hb := below2 w4 (.cells #[.slice dA' ds'.length dc', .slice pA' ps'.length pc', .slice mA' mm'.length mc', .int .i64 ak', .int .i64 ad'] 29) (.cells #[.int .i64 0, .int .i64 0, .complex .f64 0 0] 33)
  have HN4b := Lib.hid (below_step HN4.out (Nat.le_refl _) hb)
  have Bx'_b : Hid (Box ((w4.alloc (.cells #[.slice dA' ds'.length dc', .slice pA' ps'.length pc', .slice mA' mm'.length mc', .int .i64 ak', .int .i64 ad'] 29)).alloc (.cells #[.int .i64 0, .int .i64 0, .complex .f64 0 0] 33)) w4.heap.size 29 #[.slice dA' ds'.length dc', .slice pA' ps'.length pc', .slice mA' mm'.length mc', .int .i64 ak', .int .i64 ad']) := (Box.new _ _ _).alloc _
  have Bf'_b := Lib.hid (new2 w4 (.cells #[.slice dA' ds'.length dc', .slice pA' ps'.length pc', .slice mA' mm'.length mc', .int .i64 ak', .int .i64 ad'] 29) 33 #[.int .i64 0, .int .i64 0, .complex .f64 0 0])
  have Ix'_b := Lib.hid (Ix'_4.out.next hb)
  have c2_b := (hb.cell (p := ⟨gc, m, none⟩) hgc_4).trans c2_4
  have hgc_b := Nat.lt_of_lt_of_le hgc_4 hb.size
  have Bx_b := Lib.hid (Bx_4.out.step hb)
  have Ix_b := Lib.hid (Ix_4.out.next hb)
  have Bf_b := Lib.hid (Bf_4.out.step hb)
  obtain ⟨jx', hjx⟩ : ∃ j, j = w4.heap.size := ⟨_, rfl⟩
  obtain ⟨jf', hjf⟩ : ∃ j, j = w4.heap.size + 1 := ⟨_, rfl⟩
  clear hb HN4 Ix'_4 c2_4 hgc_4 Bx_4 Ix_4 Bf_4
  try simp only [Nat.add_assoc, Nat.reduceAdd]
  generalize ((w4.alloc (.cells #[.slice dA' ds'.length dc', .slice pA' ps'.length pc', .slice mA' mm'.length mc', .int .i64 ak', .int .i64 ad'] 29)).alloc (.cells #[.int .i64 0, .int .i64 0, .complex .f64 0 0] 33)) = w5 at *
  rw [← hjf] at Bf'_b ⊢
  rw [← hjx] at Bx'_b ⊢
  clear hjx hjf
  have HN4 := HN4b; clear HN4b; have Bx'_4 := Bx'_b; clear Bx'_b; have Bf'_4 := Bf'_b; clear Bf'_b; have Ix'_4 := Ix'_b; clear Ix'_b; have c2_4 := c2_b; clear c2_b; have hgc_4 := hgc_b; clear hgc_b; have Bx_4 := Bx_b; clear Bx_b; have Ix_4 := Ix_b; clear Ix_b; have Bf_4 := Bf_b; clear Bf_b
  go_wp2_with fail
  refine (HC.out _ HN4.out).mono ?_
  intro e w6 h6
  obtain ⟨hb6, u, hu, rfl, hui⟩ := read_is HZ.out h6
  have HN6 := Lib.hid (below_step HN4.out (Nat.le_refl _) hb6)
  have Bx_6 := Lib.hid (Bx_4.out.step hb6)
  have Ix_6 := Lib.hid (Ix_4.out.next hb6)
  have Bf_6 := Lib.hid (Bf_4.out.step hb6)
  have Bx'_6 := Lib.hid (Bx'_4.out.step hb6)
  have Ix'_6 := Lib.hid (Ix'_4.out.next hb6)
  have Bf'_6 := Lib.hid (Bf'_4.out.step hb6)
  have Ix''_6 := Lib.hid hui
  have Hx'' := Lib.hid hu
  clear hui hu h6 hb6  Bx_4 Ix_4 Bf_4 Bx'_4 Ix'_4 Bf'_4 HN4 HC
  obtain ⟨dA'', dc'', ds'', pA'', pc'', ps'', mA'', mc'', mm'', ak'', ad''⟩ := u
  unfold Unt.val Flt.none Flt.val
  dsimp only
  go_upto_region 10 with (fail)
  have hb := below2 w6 (.cells #[.slice dA'' ds''.length dc'', .slice pA'' ps''.length pc'', .slice mA'' mm''.length mc'', .int .i64 ak'', .int .i64 ad''] 29) (.cells #[.int .i64 0, .int .i64 0, .complex .f64 0 0] 33)
  have HN6b := Lib.hid (below_step HN6.out (Nat.le_refl _) hb)
  have Bx''_b : Hid (Box ((w6.alloc (.cells #[.slice dA'' ds''.length dc'', .slice pA'' ps''.length pc'', .slice mA'' mm''.length mc'', .int .i64 ak'', .int .i64 ad''] 29)).alloc (.cells #[.int .i64 0, .int .i64 0, .complex .f64 0 0] 33)) w6.heap.size 29 #[.slice dA'' ds''.length dc'', .slice pA'' ps''.length pc'', .slice mA'' mm''.length mc'', .int .i64 ak'', .int .i64 ad'']) := (Box.new _ _ _).alloc _
  have Bf''_b := Lib.hid (new2 w6 (.cells #[.slice dA'' ds''.length dc'', .slice pA'' ps''.length pc'', .slice mA'' mm''.length mc'', .int .i64 ak'', .int .i64 ad''] 29) 33 #[.int .i64 0, .int .i64 0, .complex .f64 0 0])
  have Ix''_b := Lib.hid (Ix''_6.out.next hb)
  have Bx_b := Lib.hid (Bx_6.out.step hb)
  have Ix_b := Lib.hid (Ix_6.out.next hb)
  have Bf_b := Lib.hid (Bf_6.out.step hb)
  have Bx'_b := Lib.hid (Bx'_6.out.step hb)
  have Ix'_b := Lib.hid (Ix'_6.out.next hb)
  have Bf'_b := Lib.hid (Bf'_6.out.step hb)
  obtain ⟨jx'', hjx⟩ : ∃ j, j = w6.heap.size := ⟨_, rfl⟩
  obtain ⟨jf'', hjf⟩ : ∃ j, j = w6.heap.size + 1 := ⟨_, rfl⟩
  clear hb HN6 Ix''_6  Bx_6 Ix_6 Bf_6 Bx'_6 Ix'_6 Bf'_6
  try simp only [Nat.add_assoc, Nat.reduceAdd]
  generalize ((w6.alloc (.cells #[.slice dA'' ds''.length dc'', .slice pA'' ps''.length pc'', .slice mA'' mm''.length mc'', .int .i64 ak'', .int .i64 ad''] 29)).alloc (.cells #[.int .i64 0, .int .i64 0, .complex .f64 0 0] 33)) = w7 at *
  rw [← hjf] at Bf''_b ⊢
  rw [← hjx] at Bx''_b ⊢
  clear hjx hjf
  have HN6 := HN6b; clear HN6b; have Bx''_6 := Bx''_b; clear Bx''_b; have Bf''_6 := Bf''_b; clear Bf''_b; have Ix''_6 := Ix''_b; clear Ix''_b; have Bx_6 := Bx_b; clear Bx_b; have Ix_6 := Ix_b; clear Ix_b; have Bf_6 := Bf_b; clear Bf_b; have Bx'_6 := Bx'_b; clear Bx'_b; have Ix'_6 := Ix'_b; clear Ix'_b; have Bf'_6 := Bf'_b; clear Bf'_b
  have C1 : Hid (∀ W, Below w7.heap.size w7 W → Calls Tryz.prog 7 #[.agg #[.slice dA ds.length dc, .slice pA ps.length pc, .slice mA mm.length mc, .int .i64 ak, .int .i64 ad], .agg #[.slice dA' ds'.length dc', .slice pA' ps'.length pc', .slice mA' mm'.length mc', .int .i64 ak', .int .i64 ad']] W (Quietly (.bool true) W)) := fun W hW => by
    have h := refSame_any ⟨dA, dc, ds, pA, pc, ps, mA, mc, mm, ak, ad⟩ ⟨dA', dc', ds', pA', pc', ps', mA', mc', mm', ak', ad'⟩ W (Ix_6.out.next hW) (Ix'_6.out.next hW) (smallUnt_ok (by rw [Hx.out]; exact HSM.out))
    rw [← sameUnt_bare, Hx.out, Hx'.out, HXY.out] at h
    exact h
  have C2 : Hid (∀ W, Below w7.heap.size w7 W → Calls Tryz.prog 7 #[.agg #[.slice dA ds.length dc, .slice pA ps.length pc, .slice mA mm.length mc, .int .i64 ak, .int .i64 ad], .agg #[.slice dA'' ds''.length dc'', .slice pA'' ps''.length pc'', .slice mA'' mm''.length mc'', .int .i64 ak'', .int .i64 ad'']] W (Quietly (.bool false) W)) := fun W hW => by
    have h := refSame_any ⟨dA, dc, ds, pA, pc, ps, mA, mc, mm, ak, ad⟩ ⟨dA'', dc'', ds'', pA'', pc'', ps'', mA'', mc'', mm'', ak'', ad''⟩ W (Ix_6.out.next hW) (Ix''_6.out.next hW) (smallUnt_ok (by rw [Hx.out]; exact HSM.out))
    rw [← sameUnt_bare, Hx.out, Hx''.out, HXZ.out] at h
    exact h
  clear Ix_6 Ix'_6 Ix''_6 Hx Hx' Hx'' HX HY HZ HXY HXZ HSM
  have n7 := Below.refl w7.heap.size w7
  have V := Lib.hid (And.intro (box5 Bx_6.out) (And.intro (box5 Bx'_6.out) (And.intro (box5 Bx''_6.out) (And.intro (box3 Bf_6.out) (And.intro (box3 Bf'_6.out) (box3 Bf''_6.out))))))
  obtain ⟨⟨a0, a1, a2, a3, a4, _, _, _, _, _, al⟩, ⟨b0, b1, b2, b3, b4, _, _, _, _, _, bl⟩, _, ⟨f0, f1, f2, _, _, _, fl0⟩, ⟨g0, g1, g2, _, _, _, fl1⟩, ⟨i0, i1, i2, _, _, _, fl2⟩⟩ := V.out
  clear V
  go_wp2_with fail
  refine (C1.out _ n7).mono ?_
  rintro e w8 ⟨rfl, hb8⟩
  have HN8 := Lib.hid (below_step HN6.out (Nat.le_refl _) hb8)
  have n8 := below_step n7 (Nat.le_refl _) hb8
  have k0 := (hb8.cell (p := ⟨jx, 0, none⟩) al).trans a0
  have k1 := (hb8.cell (p := ⟨jx, 1, none⟩) al).trans a1
  have k2 := (hb8.cell (p := ⟨jx, 2, none⟩) al).trans a2
  have k3 := (hb8.cell (p := ⟨jx, 3, none⟩) al).trans a3
  have k4 := (hb8.cell (p := ⟨jx, 4, none⟩) al).trans a4
  obtain ⟨d0, d1, d2, d3, d4, _, _, _, _, _, dl⟩ := box5 (Bx''_6.out.step hb8)
  clear a0 a1 a2 a3 a4 b0 b1 b2 b3 b4 al bl f0 f1 f2 fl0 g0 g1 g2 fl1 i0 i1 i2 fl2 hb8 Bx_6 Bx'_6 Bx''_6 Bf_6 Bf'_6 Bf''_6 C1 HN6
  go_wp2_with fail
  refine (C2.out _ n8).mono ?_
  rintro e w9 ⟨rfl, hb9⟩
  have HN9 := Lib.hid (below_step HN8.out (Nat.le_refl _) hb9)
  clear hb9 k0 k1 k2 k3 k4 d0 d1 d2 d3 d4 dl n8 n7 C2 HN8
  go_wp2
  go_ret
  exact ⟨by simp, HN9.out⟩

set_option maxRecDepth 100000 in
set_option maxHeartbeats 4000000 in
theorem ranks_far (i : Int) (hi : i < 0 ∨ 8 ≤ i) (w : World) (hL : Laid w) : Calls Tryz.prog 3 #[.int .i64 i] w (Quietly (.bool true) w) := by
  have HAL := Lib.hid (alive_any w hL)
  clear hL
  rcases hi with hi | hi
  all_goals
    go_enter Tryz.func3, Tryz.ntmps3
    go_wp2_with fail
    refine HAL.out.mono ?_
    rintro e w1 ⟨rfl, hb1⟩
    go_wp2
    go_ret
    exact ⟨rfl, below_alloc (below_alloc (below_alloc hb1 (Nat.le_refl _) _) (Nat.le_refl _) _) (Nat.le_refl _) _⟩
theorem pranks_any (i : Int) (w : World) (hL : Laid w) : Calls Tryz.prog 3 #[.int .i64 i] w (Quietly (.bool true) w) := by
  by_cases h : i < 0 ∨ 8 ≤ i
  · exact ranks_far i h w hL
  · obtain ⟨m, rfl⟩ : ∃ m : Nat, i = (m : Int) := ⟨i.toNat, by omega⟩
    exact ranks_in m (by omega) w hL

end Go.Proofs.YtfklajkmikanbaaGreatDoor.LandedP
