/- What package calls' functions say: to be shown of the code as it landed; the statements' own test of the document's example; the walk of CallsValues. -/
import Derived.Test.YtbibliakakjkiaaDoorCallFind
import Derived.BigQuiet
namespace Go.Proofs.YtbibliakakjkiaaDoor
open Go.RowKit

/-- The architectures, where they lie. -/
def TheArches (w : World) : Ending → World → Prop :=
  fun r w' => ∃ A c, r = .returned (.slice A 3 c) ∧ 3 ≤ c ∧ Lies w' w'.heap.size 1 A 3 (strsV [armB, x86B, amdB]) ∧ Below w.heap.size w w'

/-- The landed code's contract. L: what All and Find lean on of what lies there when they are called; it stands whatever is made behind. -/
structure CallSays (L : World → Prop) : Prop where
  keep : ∀ w w', L w → Below w.heap.size w w' → L w'
  arches : ∀ (w : World), Calls Tryd.prog 16 #[] w (TheArches w)
  number : ∀ (s : ByteArray) (w : World), s.size ≤ 1099511627776 → Calls Tryd.prog 7 #[.string s] w (U32Bool (numberOf s.data.toList) w)
  all : ∀ (s : ByteArray) (w : World), L w → s.size ≤ 1099511627776 → Calls Tryd.prog 13 #[.string s] w (NewCalls (callsOf s.data.toList) w)
  find : ∀ (s n : ByteArray) (w : World), L w → s.size ≤ 1099511627776 → n.size ≤ 1099511627776 → Calls Tryd.prog 9 #[.string s, .string n] w (OneCall (findOf s.data.toList n.data.toList) w)
  value : ∀ (k d : Int) (w : World), -9223372036854775808 ≤ k → k ≤ 9223372036854775807 → -9223372036854775808 ≤ d → d ≤ 9223372036854775807 →
    Calls Tryd.prog 11 #[.agg #[.int .i64 k, .int .i64 d]] w (U32Bool (valueOf k d) w)

variable {L : World → Prop}

theorem num_amd : numberOf [120, 56, 54, 95, 54, 52] = (3221225534, true) := by decide +kernel
theorem find_write : findOf [120, 56, 54, 95, 54, 52] [119, 114, 105, 116, 101] = (⟨[119, 114, 105, 116, 101], 1, [[102, 100], [98, 117, 102], [99, 111, 117, 110, 116]]⟩, true) := by decide +kernel

set_option maxRecDepth 100000 in
set_option maxHeartbeats 1000000 in
theorem kalive_any (R : CallSays L) (w : World) (hw : L w) : Calls Tryd.prog 6 #[] w fun e w' => e = .returned (.bool true) ∧ Below w.heap.size w w' := by
  have HN : Hid (∀ W : World, Calls Tryd.prog 7 #[.string ⟨#[120, 56, 54, 95, 54, 52]⟩] W (U32Bool (3221225534, true) W)) := fun W => by
    have := R.number (strOf [120, 56, 54, 95, 54, 52]) W (by decide)
    rw [strOf_data, num_amd] at this
    exact this
  have HF : Hid (∀ W : World, Below w.heap.size w W → Calls Tryd.prog 9 #[.string ⟨#[120, 56, 54, 95, 54, 52]⟩, .string ⟨#[119, 114, 105, 116, 101]⟩] W (OneCall (⟨[119, 114, 105, 116, 101], 1, [[102, 100], [98, 117, 102], [99, 111, 117, 110, 116]]⟩, true) W)) := fun W hW => by
    have := R.find (strOf [120, 56, 54, 95, 54, 52]) (strOf [119, 114, 105, 116, 101]) W (R.keep w W hw hW) (by decide) (by decide)
    rw [strOf_data, strOf_data, find_write] at this
    exact this
  clear hw
  go_enter Tryd.func6, Tryd.ntmps6
  go_wp2_with fail
  refine (HN.out _).mono ?_
  rintro r w1 ⟨rfl, hb1⟩
  go_wp2_with fail
  refine (HF.out _ hb1).mono ?_
  rintro r w2 ⟨P, c, rfl, _, hb2⟩
  have hn2 := below_step hb1 (Nat.le_refl _) hb2
  clear hb1 hb2
  go_wp2_with fail
  refine (R.arches _).mono ?_
  rintro r w3 ⟨A, k, rfl, _, _, hb3⟩
  have hn3 := below_step (below_alloc hn2 (Nat.le_refl _) _) (Nat.le_refl _) hb3
  clear hn2 hb3
  go_wp2
  go_ret
  exact ⟨rfl, hn3⟩

/-- A call is like itself, wherever it lies. -/
theorem same_yes (c : CallV) (P Q : Option Addr) (k d : Nat) (w : World) (hp : ParamsLie w w.heap.size (c, P, k)) (hq : ParamsLie w w.heap.size (c, Q, d)) (hn : c.params.length ≤ 4398046511104) :
    Calls Tryd.prog 15 #[.agg #[.string (strOf c.name), .int .u32 c.nr, .slice P c.params.length k], .agg #[.string (strOf c.name), .int .u32 c.nr, .slice Q c.params.length d]] w (fun r w' => r = .returned (.bool true) ∧ Below w.heap.size w w') := by
  have hb1 := (Box.new w 30 #[.string (strOf c.name), .int .u32 c.nr, .slice P c.params.length k]).alloc (.cells #[.string (strOf c.name), .int .u32 c.nr, .slice Q c.params.length d] 30)
  have hb2 := Box.new (w.alloc (.cells #[.string (strOf c.name), .int .u32 c.nr, .slice P c.params.length k] 30)) 30 #[.string (strOf c.name), .int .u32 c.nr, .slice Q c.params.length d]
  rw [show (w.alloc (.cells #[.string (strOf c.name), .int .u32 c.nr, .slice P c.params.length k] 30)).heap.size = w.heap.size + 1 by simp] at hb2
  have hnx0 : Below w.heap.size w ((w.alloc (.cells #[.string (strOf c.name), .int .u32 c.nr, .slice P c.params.length k] 30)).alloc (.cells #[.string (strOf c.name), .int .u32 c.nr, .slice Q c.params.length d] 30)) := below_alloc (below_alloc (Below.refl _ _) (Nat.le_refl _) _) (Nat.le_refl _) _
  have HB1 := Lib.hid hb1
  have HB2 := Lib.hid hb2
  have HN0 := Lib.hid hnx0
  have HP := Lib.hid hp
  have HQ := Lib.hid hq
  clear hb1 hb2 hnx0 hp hq
  go_enter Tryd.func15, Tryd.ntmps15
  go_wp2_with fail
  generalize (w.alloc (.cells #[.string (strOf c.name), .int .u32 c.nr, .slice P c.params.length k] 30)).alloc (.cells #[.string (strOf c.name), .int .u32 c.nr, .slice Q c.params.length d] 30) = w0 at *
  go_loopw [5] (fun i wr => ∃ m : Nat, m ≤ c.params.length ∧ i = .int .i64 m ∧ Below w0.heap.size w0 wr) (fun i _ => c.params.length - (intOf i).toNat)
  case atStart => exact ⟨0, by omega, rfl, Below.refl _ _⟩
  case round =>
    obtain ⟨m, hm, rfl, hnx⟩ := hrel
    have hx1 := HB1.out.step hnx
    have hx2 := HB2.out.step hnx
    have g1 := hx1.lt
    have g2 := hx2.lt
    have r0 : wr.cell? ⟨w.heap.size, 2, none⟩ = some (.slice P c.params.length k) := hx1.cell 2
    have r1 : wr.cell? ⟨w.heap.size + 1, 2, none⟩ = some (.slice Q c.params.length d) := hx2.cell 2
    clear hx1 hx2
    by_cases hlt : m < c.params.length
    · obtain ⟨x, hx⟩ : ∃ x, c.params[m]? = some x := ⟨_, List.getElem?_eq_getElem hlt⟩
      obtain ⟨b, o, e, hb, hc⟩ := HP.out.1.2 (show 0 < c.params.length by omega)
      obtain ⟨b', o', e', hb', hc'⟩ := HQ.out.1.2 (show 0 < c.params.length by omega)
      dsimp only at e e'
      subst e
      subst e'
      have hnw : Below w.heap.size w wr := HN0.out.trans (hnx.mono HN0.out.size)
      have e0 := (hnw.cell (p := ⟨b, o + m, none⟩) hb).trans (hc m (.string (strOf x)) (by simp only [strsV, List.getElem?_map, hx]; rfl))
      have e1 := (hnw.cell (p := ⟨b', o' + m, none⟩) hb').trans (hc' m (.string (strOf x)) (by simp only [strsV, List.getElem?_map, hx]; rfl))
      clear hc hc' hx hnw
      go_wp2_with fail
      go_quiet (fail)
      go_wp2
      go_roundw
      case rel => exact ⟨m + 1, by omega, by go_num, below_drewN hnx _⟩
      case measure => simp [intOf]; omega
    · obtain rfl : m = c.params.length := by omega
      go_wp2
      go_ret
      exact ⟨rfl, HN0.out.trans (hnx.mono HN0.out.size)⟩

end Go.Proofs.YtbibliakakjkiaaDoor
