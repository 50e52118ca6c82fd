/- The walk of TokenWrong, given the landed code's contract. -/
import Derived.Test.YtgabeacpgmomhaaDoorTokFace
namespace Go.Proofs.YtgabeacpgmomhaaDoor
open Go.RowKit

def wrongTab : List (List UInt8 × Bool) := [([48, 120, 49, 70], true), ([48, 120], false), ([49, 97], false), ([48, 120, 49, 103], false), ([49, 56, 52, 52, 54, 55, 52, 52, 48, 55, 51, 55, 48, 57, 53, 53, 49, 54, 49, 53], true), ([49, 56, 52, 52, 54, 55, 52, 52, 48, 55, 51, 55, 48, 57, 53, 53, 49, 54, 49, 54], false), ([48, 120, 70, 70, 70, 70, 70, 70, 70, 70, 70, 70, 70, 70, 70, 70, 70, 70], true), ([48, 120, 49, 48, 48, 48, 48, 48, 48, 48, 48, 48, 48, 48, 48, 48, 48, 48, 48], false), ([34, 97, 34], true), ([34, 97], false), ([34, 97, 10, 34], false), ([35, 105, 110, 99, 108, 117, 100, 101], true), ([35, 105, 110, 99, 108, 117, 100, 101, 115], false), ([35, 100, 101, 102, 105, 110, 101, 95], false), ([35], false), ([47, 42, 32, 120], false), ([47, 42, 47], false), ([47, 47, 32, 120], true), ([97, 45, 98], false), ([38, 38, 38], true), ([61], false), ([33, 61, 61], false), ([48, 48, 55], true), ([0], false)]
def wrongOk (t : List UInt8 × Bool) : Bool := match splitOf ([32, 10, 32] ++ t.1) with
  | .ok _ => t.2
  | .error (e, p) => !t.2 && (e == 3 && p.1 == 2)
theorem wrong_all : wrongTab.all wrongOk = true := by decide +kernel
def wrongStrs : List Value := [.string ⟨#[48, 120, 49, 70]⟩, .string ⟨#[48, 120]⟩, .string ⟨#[49, 97]⟩, .string ⟨#[48, 120, 49, 103]⟩, .string ⟨#[49, 56, 52, 52, 54, 55, 52, 52, 48, 55, 51, 55, 48, 57, 53, 53, 49, 54, 49, 53]⟩, .string ⟨#[49, 56, 52, 52, 54, 55, 52, 52, 48, 55, 51, 55, 48, 57, 53, 53, 49, 54, 49, 54]⟩, .string ⟨#[48, 120, 70, 70, 70, 70, 70, 70, 70, 70, 70, 70, 70, 70, 70, 70, 70, 70]⟩, .string ⟨#[48, 120, 49, 48, 48, 48, 48, 48, 48, 48, 48, 48, 48, 48, 48, 48, 48, 48, 48]⟩, .string ⟨#[34, 97, 34]⟩, .string ⟨#[34, 97]⟩, .string ⟨#[34, 97, 10, 34]⟩, .string ⟨#[35, 105, 110, 99, 108, 117, 100, 101]⟩, .string ⟨#[35, 105, 110, 99, 108, 117, 100, 101, 115]⟩, .string ⟨#[35, 100, 101, 102, 105, 110, 101, 95]⟩, .string ⟨#[35]⟩, .string ⟨#[47, 42, 32, 120]⟩, .string ⟨#[47, 42, 47]⟩, .string ⟨#[47, 47, 32, 120]⟩, .string ⟨#[97, 45, 98]⟩, .string ⟨#[38, 38, 38]⟩, .string ⟨#[61]⟩, .string ⟨#[33, 61, 61]⟩, .string ⟨#[48, 48, 55]⟩, .string ⟨#[0]⟩]
def wrongBools : List Value := [.bool true, .bool false, .bool false, .bool false, .bool true, .bool false, .bool true, .bool false, .bool true, .bool false, .bool false, .bool true, .bool false, .bool false, .bool false, .bool false, .bool false, .bool true, .bool false, .bool true, .bool false, .bool false, .bool true, .bool false]
theorem wrongStrs_eq : wrongTab.map (fun t => Value.string (strOf t.1)) = wrongStrs := rfl
theorem wrongBools_eq : wrongTab.map (fun t => Value.bool t.2) = wrongBools := rfl
theorem fl_2 : fl 2 = 4611686018427387904 := by decide +kernel
theorem ord_2 : FloatKind.f64.format.order 4611686018427387904 4611686018427387904 = some .eq := by decide +kernel

/-- Where the two lists lie. -/
theorem wrong_lie (w : World) (T S : TypeId) (m : Nat) (t : List UInt8 × Bool) (ht : wrongTab[m]? = some t) :
    ((w.alloc (.cells wrongStrs.toArray T)).alloc (.cells wrongBools.toArray S)).cell? ⟨w.heap.size, m, none⟩ = some (.string (strOf t.1)) ∧
    ((w.alloc (.cells wrongStrs.toArray T)).alloc (.cells wrongBools.toArray S)).cell? ⟨w.heap.size + 1, m, none⟩ = some (.bool t.2) := by
  have h1 := (Box.new w T wrongStrs.toArray).alloc (.cells wrongBools.toArray S)
  have h2 := Box.new (w.alloc (.cells wrongStrs.toArray T)) S wrongBools.toArray
  rw [show (w.alloc (.cells wrongStrs.toArray T)).heap.size = w.heap.size + 1 by simp] at h2
  refine ⟨(h1.cell m).trans ?_, (h2.cell m).trans ?_⟩
  · rw [← wrongStrs_eq]
    simp [ht]
  · rw [← wrongBools_eq]
    simp [ht]

set_option maxRecDepth 100000 in
set_option maxHeartbeats 4000000 in
theorem twrong_in {Y : World → Prop} (R : TokSays Y) (m : Nat) (w : World) (hY : Y w) (hm : m < 24) :
    Calls Tryd.prog 5 #[.int .i64 m] w fun e w' => e = .returned (.bool true) ∧ Below w.heap.size w w' := by
  obtain ⟨t, ht⟩ : ∃ t, wrongTab[m]? = some t := ⟨_, List.getElem?_eq_getElem hm⟩
  have hok : wrongOk t = true := List.all_eq_true.1 wrong_all t (List.mem_of_getElem? ht)
  have hlen : t.1.length ≤ 30 := by
    have : ∀ u ∈ wrongTab, u.1.length ≤ 30 := by decide +kernel
    exact this t (List.mem_of_getElem? ht)
  have HL : Hid (∀ W : World, _) := fun W => wrong_lie W 9 4 m t ht
  unfold wrongStrs wrongBools at HL
  have HS : Hid (∀ W : World, Below w.heap.size w W → Calls Tryd.prog 8 #[.string ((⟨#[32, 10, 32]⟩ : ByteArray) ++ strOf t.1), .int .i64 2] W (SplitRes 2 (splitOf ([32, 10, 32] ++ t.1)) W)) := fun W hW => by
    have e : (⟨#[32, 10, 32]⟩ : ByteArray) ++ strOf t.1 = strOf ([32, 10, 32] ++ t.1) := by
      rw [show (⟨#[32, 10, 32]⟩ : ByteArray) = strOf [32, 10, 32] from rfl]
      unfold strOf
      simp only [strOf_append]
    have hsz : (strOf ([32, 10, 32] ++ t.1)).size ≤ 1099511627776 := by
      rw [strOf_size, List.length_append]
      simp only [List.length_cons, List.length_nil]
      omega
    have := R.split _ 2 W (R.keep _ _ hY hW) hsz (by decide) (by decide)
    rw [strOf_data] at this
    rw [e]
    exact this
  have hz : (strOf t.1).size ≤ 30 := by rw [strOf_size]; exact hlen
  obtain ⟨x, ok⟩ := t
  unfold wrongOk at hok
  dsimp only at hok HL HS hz
  obtain ⟨X, hX⟩ : ∃ X, X = strOf x := ⟨_, rfl⟩
  rw [← hX] at HL HS hz
  have hst := store_cx
  have hcx := fun W => eq_cx 0 0 W ord_0 ord_0
  have o2 := ord_2
  have m24 : (m : Int) < 24 := by omega
  clear ht hlen hX
  cases hv : splitOf ([32, 10, 32] ++ x) with
  | ok l =>
    rw [hv] at HS hok
    have hok' : ok = true := hok
    subst hok'
    clear hok hv
    go_enter Tryd.func5, Tryd.ntmps5
    go_wp2_with fail
    refine (talive_any R _ hY).mono ?_
    rintro r w1 ⟨rfl, hb1⟩
    obtain ⟨c0, c1⟩ := HL.out w1
    have HC0 := Lib.hid c0
    have HC1 := Lib.hid c1
    clear c0 c1 HL
    go_upto_region 4 with (fail)
    obtain ⟨ga, hga⟩ : ∃ ga, ga = w1.heap.size := ⟨_, rfl⟩
    have c0 := HC0.out
    have c1 := HC1.out
    have HN0 := Lib.hid (below_alloc (below_alloc hb1 (Nat.le_refl _) (.cells #[.string ⟨#[48, 120, 49, 70]⟩, .string ⟨#[48, 120]⟩, .string ⟨#[49, 97]⟩, .string ⟨#[48, 120, 49, 103]⟩, .string ⟨#[49, 56, 52, 52, 54, 55, 52, 52, 48, 55, 51, 55, 48, 57, 53, 53, 49, 54, 49, 53]⟩, .string ⟨#[49, 56, 52, 52, 54, 55, 52, 52, 48, 55, 51, 55, 48, 57, 53, 53, 49, 54, 49, 54]⟩, .string ⟨#[48, 120, 70, 70, 70, 70, 70, 70, 70, 70, 70, 70, 70, 70, 70, 70, 70, 70]⟩, .string ⟨#[48, 120, 49, 48, 48, 48, 48, 48, 48, 48, 48, 48, 48, 48, 48, 48, 48, 48, 48]⟩, .string ⟨#[34, 97, 34]⟩, .string ⟨#[34, 97]⟩, .string ⟨#[34, 97, 10, 34]⟩, .string ⟨#[35, 105, 110, 99, 108, 117, 100, 101]⟩, .string ⟨#[35, 105, 110, 99, 108, 117, 100, 101, 115]⟩, .string ⟨#[35, 100, 101, 102, 105, 110, 101, 95]⟩, .string ⟨#[35]⟩, .string ⟨#[47, 42, 32, 120]⟩, .string ⟨#[47, 42, 47]⟩, .string ⟨#[47, 47, 32, 120]⟩, .string ⟨#[97, 45, 98]⟩, .string ⟨#[38, 38, 38]⟩, .string ⟨#[61]⟩, .string ⟨#[33, 61, 61]⟩, .string ⟨#[48, 48, 55]⟩, .string ⟨#[0]⟩] 9)) (Nat.le_refl _) (.cells #[.bool true, .bool false, .bool false, .bool false, .bool true, .bool false, .bool true, .bool false, .bool true, .bool false, .bool false, .bool true, .bool false, .bool false, .bool false, .bool false, .bool false, .bool true, .bool false, .bool true, .bool false, .bool false, .bool true, .bool false] 4))
    have hg2 : ga + 1 < ((w1.alloc (.cells #[.string ⟨#[48, 120, 49, 70]⟩, .string ⟨#[48, 120]⟩, .string ⟨#[49, 97]⟩, .string ⟨#[48, 120, 49, 103]⟩, .string ⟨#[49, 56, 52, 52, 54, 55, 52, 52, 48, 55, 51, 55, 48, 57, 53, 53, 49, 54, 49, 53]⟩, .string ⟨#[49, 56, 52, 52, 54, 55, 52, 52, 48, 55, 51, 55, 48, 57, 53, 53, 49, 54, 49, 54]⟩, .string ⟨#[48, 120, 70, 70, 70, 70, 70, 70, 70, 70, 70, 70, 70, 70, 70, 70, 70, 70]⟩, .string ⟨#[48, 120, 49, 48, 48, 48, 48, 48, 48, 48, 48, 48, 48, 48, 48, 48, 48, 48, 48]⟩, .string ⟨#[34, 97, 34]⟩, .string ⟨#[34, 97]⟩, .string ⟨#[34, 97, 10, 34]⟩, .string ⟨#[35, 105, 110, 99, 108, 117, 100, 101]⟩, .string ⟨#[35, 105, 110, 99, 108, 117, 100, 101, 115]⟩, .string ⟨#[35, 100, 101, 102, 105, 110, 101, 95]⟩, .string ⟨#[35]⟩, .string ⟨#[47, 42, 32, 120]⟩, .string ⟨#[47, 42, 47]⟩, .string ⟨#[47, 47, 32, 120]⟩, .string ⟨#[97, 45, 98]⟩, .string ⟨#[38, 38, 38]⟩, .string ⟨#[61]⟩, .string ⟨#[33, 61, 61]⟩, .string ⟨#[48, 48, 55]⟩, .string ⟨#[0]⟩] 9)).alloc (.cells #[.bool true, .bool false, .bool false, .bool false, .bool true, .bool false, .bool true, .bool false, .bool true, .bool false, .bool false, .bool true, .bool false, .bool false, .bool false, .bool false, .bool false, .bool true, .bool false, .bool true, .bool false, .bool false, .bool true, .bool false] 4)).heap.size := by rw [hga]; simp
    clear HC0 HC1 hb1
    generalize (w1.alloc (.cells #[.string ⟨#[48, 120, 49, 70]⟩, .string ⟨#[48, 120]⟩, .string ⟨#[49, 97]⟩, .string ⟨#[48, 120, 49, 103]⟩, .string ⟨#[49, 56, 52, 52, 54, 55, 52, 52, 48, 55, 51, 55, 48, 57, 53, 53, 49, 54, 49, 53]⟩, .string ⟨#[49, 56, 52, 52, 54, 55, 52, 52, 48, 55, 51, 55, 48, 57, 53, 53, 49, 54, 49, 54]⟩, .string ⟨#[48, 120, 70, 70, 70, 70, 70, 70, 70, 70, 70, 70, 70, 70, 70, 70, 70, 70]⟩, .string ⟨#[48, 120, 49, 48, 48, 48, 48, 48, 48, 48, 48, 48, 48, 48, 48, 48, 48, 48, 48]⟩, .string ⟨#[34, 97, 34]⟩, .string ⟨#[34, 97]⟩, .string ⟨#[34, 97, 10, 34]⟩, .string ⟨#[35, 105, 110, 99, 108, 117, 100, 101]⟩, .string ⟨#[35, 105, 110, 99, 108, 117, 100, 101, 115]⟩, .string ⟨#[35, 100, 101, 102, 105, 110, 101, 95]⟩, .string ⟨#[35]⟩, .string ⟨#[47, 42, 32, 120]⟩, .string ⟨#[47, 42, 47]⟩, .string ⟨#[47, 47, 32, 120]⟩, .string ⟨#[97, 45, 98]⟩, .string ⟨#[38, 38, 38]⟩, .string ⟨#[61]⟩, .string ⟨#[33, 61, 61]⟩, .string ⟨#[48, 48, 55]⟩, .string ⟨#[0]⟩] 9)).alloc (.cells #[.bool true, .bool false, .bool false, .bool false, .bool true, .bool false, .bool true, .bool false, .bool true, .bool false, .bool false, .bool true, .bool false, .bool false, .bool false, .bool false, .bool false, .bool true, .bool false, .bool true, .bool false, .bool false, .bool true, .bool false] 4) = w0 at *
    rw [← hga] at c0 c1 ⊢
    have hg1 : ga < w0.heap.size := by omega
    clear hga
    go_wp2_with fail
    refine (HS.out _ HN0.out).mono ?_
    intro r w2 h2
    obtain ⟨A2, k2, rfl, _, _, hb2⟩ := res_ok h2
    have hn2 := below_step HN0.out (Nat.le_refl _) hb2
    have d1 := (hb2.cell (p := ⟨ga + 1, m, none⟩) hg2).trans c1
    have hg3 : ga + 1 < w2.heap.size := Nat.lt_of_lt_of_le hg2 hb2.size
    have hn3 := below_alloc hn2 (Nat.le_refl _) (.cells (faultCells 0 0 0 0) 27)
    unfold faultCells at hn3
    clear h2 hb2 hn2 c0 c1 HN0
    dsimp only [faultCells]
    go_wp2
    go_ret
    exact ⟨by simp, hn3⟩
  | error ep =>
    obtain ⟨e, p1, p2⟩ := ep
    rw [hv] at HS hok
    simp only [Bool.and_eq_true, Bool.not_eq_true', beq_iff_eq] at hok
    obtain ⟨rfl, rfl, rfl⟩ := hok
    clear hv
    go_enter Tryd.func5, Tryd.ntmps5
    go_wp2_with fail
    refine (talive_any R _ hY).mono ?_
    rintro r w1 ⟨rfl, hb1⟩
    obtain ⟨c0, c1⟩ := HL.out w1
    have HC0 := Lib.hid c0
    have HC1 := Lib.hid c1
    clear c0 c1 HL
    go_upto_region 4 with (fail)
    obtain ⟨ga, hga⟩ : ∃ ga, ga = w1.heap.size := ⟨_, rfl⟩
    have c0 := HC0.out
    have c1 := HC1.out
    have HN0 := Lib.hid (below_alloc (below_alloc hb1 (Nat.le_refl _) (.cells #[.string ⟨#[48, 120, 49, 70]⟩, .string ⟨#[48, 120]⟩, .string ⟨#[49, 97]⟩, .string ⟨#[48, 120, 49, 103]⟩, .string ⟨#[49, 56, 52, 52, 54, 55, 52, 52, 48, 55, 51, 55, 48, 57, 53, 53, 49, 54, 49, 53]⟩, .string ⟨#[49, 56, 52, 52, 54, 55, 52, 52, 48, 55, 51, 55, 48, 57, 53, 53, 49, 54, 49, 54]⟩, .string ⟨#[48, 120, 70, 70, 70, 70, 70, 70, 70, 70, 70, 70, 70, 70, 70, 70, 70, 70]⟩, .string ⟨#[48, 120, 49, 48, 48, 48, 48, 48, 48, 48, 48, 48, 48, 48, 48, 48, 48, 48, 48]⟩, .string ⟨#[34, 97, 34]⟩, .string ⟨#[34, 97]⟩, .string ⟨#[34, 97, 10, 34]⟩, .string ⟨#[35, 105, 110, 99, 108, 117, 100, 101]⟩, .string ⟨#[35, 105, 110, 99, 108, 117, 100, 101, 115]⟩, .string ⟨#[35, 100, 101, 102, 105, 110, 101, 95]⟩, .string ⟨#[35]⟩, .string ⟨#[47, 42, 32, 120]⟩, .string ⟨#[47, 42, 47]⟩, .string ⟨#[47, 47, 32, 120]⟩, .string ⟨#[97, 45, 98]⟩, .string ⟨#[38, 38, 38]⟩, .string ⟨#[61]⟩, .string ⟨#[33, 61, 61]⟩, .string ⟨#[48, 48, 55]⟩, .string ⟨#[0]⟩] 9)) (Nat.le_refl _) (.cells #[.bool true, .bool false, .bool false, .bool false, .bool true, .bool false, .bool true, .bool false, .bool true, .bool false, .bool false, .bool true, .bool false, .bool false, .bool false, .bool false, .bool false, .bool true, .bool false, .bool true, .bool false, .bool false, .bool true, .bool false] 4))
    have hg2 : ga + 1 < ((w1.alloc (.cells #[.string ⟨#[48, 120, 49, 70]⟩, .string ⟨#[48, 120]⟩, .string ⟨#[49, 97]⟩, .string ⟨#[48, 120, 49, 103]⟩, .string ⟨#[49, 56, 52, 52, 54, 55, 52, 52, 48, 55, 51, 55, 48, 57, 53, 53, 49, 54, 49, 53]⟩, .string ⟨#[49, 56, 52, 52, 54, 55, 52, 52, 48, 55, 51, 55, 48, 57, 53, 53, 49, 54, 49, 54]⟩, .string ⟨#[48, 120, 70, 70, 70, 70, 70, 70, 70, 70, 70, 70, 70, 70, 70, 70, 70, 70]⟩, .string ⟨#[48, 120, 49, 48, 48, 48, 48, 48, 48, 48, 48, 48, 48, 48, 48, 48, 48, 48, 48]⟩, .string ⟨#[34, 97, 34]⟩, .string ⟨#[34, 97]⟩, .string ⟨#[34, 97, 10, 34]⟩, .string ⟨#[35, 105, 110, 99, 108, 117, 100, 101]⟩, .string ⟨#[35, 105, 110, 99, 108, 117, 100, 101, 115]⟩, .string ⟨#[35, 100, 101, 102, 105, 110, 101, 95]⟩, .string ⟨#[35]⟩, .string ⟨#[47, 42, 32, 120]⟩, .string ⟨#[47, 42, 47]⟩, .string ⟨#[47, 47, 32, 120]⟩, .string ⟨#[97, 45, 98]⟩, .string ⟨#[38, 38, 38]⟩, .string ⟨#[61]⟩, .string ⟨#[33, 61, 61]⟩, .string ⟨#[48, 48, 55]⟩, .string ⟨#[0]⟩] 9)).alloc (.cells #[.bool true, .bool false, .bool false, .bool false, .bool true, .bool false, .bool true, .bool false, .bool true, .bool false, .bool false, .bool true, .bool false, .bool false, .bool false, .bool false, .bool false, .bool true, .bool false, .bool true, .bool false, .bool false, .bool true, .bool false] 4)).heap.size := by rw [hga]; simp
    clear HC0 HC1 hb1
    generalize (w1.alloc (.cells #[.string ⟨#[48, 120, 49, 70]⟩, .string ⟨#[48, 120]⟩, .string ⟨#[49, 97]⟩, .string ⟨#[48, 120, 49, 103]⟩, .string ⟨#[49, 56, 52, 52, 54, 55, 52, 52, 48, 55, 51, 55, 48, 57, 53, 53, 49, 54, 49, 53]⟩, .string ⟨#[49, 56, 52, 52, 54, 55, 52, 52, 48, 55, 51, 55, 48, 57, 53, 53, 49, 54, 49, 54]⟩, .string ⟨#[48, 120, 70, 70, 70, 70, 70, 70, 70, 70, 70, 70, 70, 70, 70, 70, 70, 70]⟩, .string ⟨#[48, 120, 49, 48, 48, 48, 48, 48, 48, 48, 48, 48, 48, 48, 48, 48, 48, 48, 48]⟩, .string ⟨#[34, 97, 34]⟩, .string ⟨#[34, 97]⟩, .string ⟨#[34, 97, 10, 34]⟩, .string ⟨#[35, 105, 110, 99, 108, 117, 100, 101]⟩, .string ⟨#[35, 105, 110, 99, 108, 117, 100, 101, 115]⟩, .string ⟨#[35, 100, 101, 102, 105, 110, 101, 95]⟩, .string ⟨#[35]⟩, .string ⟨#[47, 42, 32, 120]⟩, .string ⟨#[47, 42, 47]⟩, .string ⟨#[47, 47, 32, 120]⟩, .string ⟨#[97, 45, 98]⟩, .string ⟨#[38, 38, 38]⟩, .string ⟨#[61]⟩, .string ⟨#[33, 61, 61]⟩, .string ⟨#[48, 48, 55]⟩, .string ⟨#[0]⟩] 9)).alloc (.cells #[.bool true, .bool false, .bool false, .bool false, .bool true, .bool false, .bool true, .bool false, .bool true, .bool false, .bool false, .bool true, .bool false, .bool false, .bool false, .bool false, .bool false, .bool true, .bool false, .bool true, .bool false, .bool false, .bool true, .bool false] 4) = w0 at *
    rw [← hga] at c0 c1 ⊢
    have hg1 : ga < w0.heap.size := by omega
    clear hga
    go_wp2_with fail
    refine (HS.out _ HN0.out).mono ?_
    intro r w2 h2
    obtain ⟨A2, k2, rfl, hb2⟩ := res_bad h2
    have hn2 := below_step HN0.out (Nat.le_refl _) hb2
    have d1 := (hb2.cell (p := ⟨ga + 1, m, none⟩) hg2).trans c1
    have hg3 : ga + 1 < w2.heap.size := Nat.lt_of_lt_of_le hg2 hb2.size
    have hn3 := below_alloc hn2 (Nat.le_refl _) (.cells (faultCells 3 2 4611686018427387904 (fl p2)) 27)
    unfold faultCells at hn3
    clear h2 hb2 hn2 c0 c1 HN0
    dsimp only [faultCells]
    rw [show fl ((2 : Nat) : Int) = 4611686018427387904 from fl_2]
    go_wp2
    go_ret
    exact ⟨by simp [*], hn3⟩

set_option maxRecDepth 100000 in
set_option maxHeartbeats 4000000 in
theorem twrong_any {Y : World → Prop} (R : TokSays Y) (m : Int) (w : World) (hY : Y w) (m0 : -9223372036854775808 ≤ m) (m1 : m ≤ 9223372036854775807) :
    Calls Tryd.prog 5 #[.int .i64 m] w fun e w' => e = .returned (.bool true) ∧ Below w.heap.size w w' := by
  by_cases h : 0 ≤ m ∧ m < 24
  · obtain ⟨k, rfl⟩ := Int.eq_ofNat_of_zero_le h.1
    exact twrong_in R k w hY (by omega)
  · by_cases h0 : m < 0
    · clear h
      go_enter Tryd.func5, Tryd.ntmps5
      go_wp2_with fail
      refine (talive_any R _ hY).mono ?_
      rintro r w1 ⟨rfl, hb1⟩
      have HN := Lib.hid (below_alloc (below_alloc hb1 (Nat.le_refl _) (.cells #[.string ⟨#[48, 120, 49, 70]⟩, .string ⟨#[48, 120]⟩, .string ⟨#[49, 97]⟩, .string ⟨#[48, 120, 49, 103]⟩, .string ⟨#[49, 56, 52, 52, 54, 55, 52, 52, 48, 55, 51, 55, 48, 57, 53, 53, 49, 54, 49, 53]⟩, .string ⟨#[49, 56, 52, 52, 54, 55, 52, 52, 48, 55, 51, 55, 48, 57, 53, 53, 49, 54, 49, 54]⟩, .string ⟨#[48, 120, 70, 70, 70, 70, 70, 70, 70, 70, 70, 70, 70, 70, 70, 70, 70, 70]⟩, .string ⟨#[48, 120, 49, 48, 48, 48, 48, 48, 48, 48, 48, 48, 48, 48, 48, 48, 48, 48, 48]⟩, .string ⟨#[34, 97, 34]⟩, .string ⟨#[34, 97]⟩, .string ⟨#[34, 97, 10, 34]⟩, .string ⟨#[35, 105, 110, 99, 108, 117, 100, 101]⟩, .string ⟨#[35, 105, 110, 99, 108, 117, 100, 101, 115]⟩, .string ⟨#[35, 100, 101, 102, 105, 110, 101, 95]⟩, .string ⟨#[35]⟩, .string ⟨#[47, 42, 32, 120]⟩, .string ⟨#[47, 42, 47]⟩, .string ⟨#[47, 47, 32, 120]⟩, .string ⟨#[97, 45, 98]⟩, .string ⟨#[38, 38, 38]⟩, .string ⟨#[61]⟩, .string ⟨#[33, 61, 61]⟩, .string ⟨#[48, 48, 55]⟩, .string ⟨#[0]⟩] 9)) (Nat.le_refl _) (.cells #[.bool true, .bool false, .bool false, .bool false, .bool true, .bool false, .bool true, .bool false, .bool true, .bool false, .bool false, .bool true, .bool false, .bool false, .bool false, .bool false, .bool false, .bool true, .bool false, .bool true, .bool false, .bool false, .bool true, .bool false] 4))
      clear hb1
      go_wp2
      go_ret
      exact ⟨rfl, HN.out⟩
    · have h3 : 24 ≤ m := by omega
      clear h
      go_enter Tryd.func5, Tryd.ntmps5
      go_wp2_with fail
      refine (talive_any R _ hY).mono ?_
      rintro r w1 ⟨rfl, hb1⟩
      have HN := Lib.hid (below_alloc (below_alloc hb1 (Nat.le_refl _) (.cells #[.string ⟨#[48, 120, 49, 70]⟩, .string ⟨#[48, 120]⟩, .string ⟨#[49, 97]⟩, .string ⟨#[48, 120, 49, 103]⟩, .string ⟨#[49, 56, 52, 52, 54, 55, 52, 52, 48, 55, 51, 55, 48, 57, 53, 53, 49, 54, 49, 53]⟩, .string ⟨#[49, 56, 52, 52, 54, 55, 52, 52, 48, 55, 51, 55, 48, 57, 53, 53, 49, 54, 49, 54]⟩, .string ⟨#[48, 120, 70, 70, 70, 70, 70, 70, 70, 70, 70, 70, 70, 70, 70, 70, 70, 70]⟩, .string ⟨#[48, 120, 49, 48, 48, 48, 48, 48, 48, 48, 48, 48, 48, 48, 48, 48, 48, 48, 48]⟩, .string ⟨#[34, 97, 34]⟩, .string ⟨#[34, 97]⟩, .string ⟨#[34, 97, 10, 34]⟩, .string ⟨#[35, 105, 110, 99, 108, 117, 100, 101]⟩, .string ⟨#[35, 105, 110, 99, 108, 117, 100, 101, 115]⟩, .string ⟨#[35, 100, 101, 102, 105, 110, 101, 95]⟩, .string ⟨#[35]⟩, .string ⟨#[47, 42, 32, 120]⟩, .string ⟨#[47, 42, 47]⟩, .string ⟨#[47, 47, 32, 120]⟩, .string ⟨#[97, 45, 98]⟩, .string ⟨#[38, 38, 38]⟩, .string ⟨#[61]⟩, .string ⟨#[33, 61, 61]⟩, .string ⟨#[48, 48, 55]⟩, .string ⟨#[0]⟩] 9)) (Nat.le_refl _) (.cells #[.bool true, .bool false, .bool false, .bool false, .bool true, .bool false, .bool true, .bool false, .bool true, .bool false, .bool false, .bool true, .bool false, .bool false, .bool false, .bool false, .bool false, .bool true, .bool false, .bool true, .bool false, .bool false, .bool true, .bool false] 4))
      clear hb1
      go_wp2
      go_ret
      exact ⟨rfl, HN.out⟩

end Go.Proofs.YtgabeacpgmomhaaDoor
