/- strings.IndexRune in a text of a '"' and a line's end: a rune beyond ASCII is not there; what a byte beyond ASCII decodes to. No condition. -/
import Derived.Test.YtdjhpgpekomjeaaDoorTokLib
import Derived.Laws.Runes
import Derived.Laws.RangeAny
import Derived.WalkMore
import Derived.StillTailTactics
import Derived.BigQuiet
namespace Go.Proofs.YtdjhpgpekomjeaaDoor
open Go.RowKit

theorem get_here (s : ByteArray) (j : Nat) (h : j < s.size) : s.get! j = s[j]'h := get_at s j h

/-- A rune of more bytes than one: each of these is beyond ASCII. -/
theorem decode_wide (s : ByteArray) (i : Nat) (h : i < s.size) (ha : 128 ≤ (s[i]'h).toNat) :
    i + (Utf8.decode s i).2 ≤ s.size ∧ 1 ≤ (Utf8.decode s i).2 ∧ Utf8.valid (((Utf8.decode s i).1 : Nat) : Int) = true ∧ ∀ j, i ≤ j → j < i + (Utf8.decode s i).2 → 128 ≤ (s.get! j).toNat := by
  have hn : ¬ (s[i]'h).toNat < 128 := by omega
  have h0 := get_here s i h
  have herr : Utf8.valid ((Utf8.runeError : Nat) : Int) = true := by decide
  have here : ∀ j, i ≤ j → j < i + 1 → 128 ≤ (s.get! j).toNat := fun j h1 h2 => by
    obtain rfl : j = i := by omega
    rw [h0]
    exact ha
  have lt := (s[i]'h).toNat_lt
  simp only [Utf8.decode, get_at s i h, hn, if_false]
  split
  · rename_i c1
    simp only [Bool.and_eq_true, decide_eq_true_eq, beq_iff_eq] at c1
    obtain ⟨c0, c2, c3⟩ := c1
    split
    · refine ⟨by show i + 2 ≤ s.size; omega, Nat.le_add_left 1 1, ?_, fun j h1 h2 => ?_⟩
      · simp only [Utf8.valid, Bool.or_eq_true, Bool.and_eq_true, decide_eq_true_eq]
        exact .inl ⟨by omega, by omega⟩
      · have h2' : j < i + 2 := h2
        by_cases hj : j = i
        · subst hj; rw [h0]; exact ha
        · obtain rfl : j = i + 1 := by omega
          omega
    · exact ⟨by show i + 1 ≤ s.size; omega, by decide, herr, here⟩
  split
  · rename_i c1
    simp only [Bool.and_eq_true, decide_eq_true_eq, beq_iff_eq] at c1
    obtain ⟨⟨c0, c2, c3⟩, c4, c5⟩ := c1
    split
    · rename_i hv
      simp only [Bool.and_eq_true, decide_eq_true_eq] at hv
      refine ⟨by show i + 3 ≤ s.size; omega, Nat.le_add_left 1 2, hv.2, fun j h1 h2 => ?_⟩
      have h2' : j < i + 3 := h2
      by_cases hj : j = i
      · subst hj; rw [h0]; exact ha
      · by_cases hj2 : j = i + 1
        · subst hj2; omega
        · obtain rfl : j = i + 2 := by omega
          omega
    · exact ⟨by show i + 1 ≤ s.size; omega, by decide, herr, here⟩
  split
  · rename_i c1
    simp only [Bool.and_eq_true, decide_eq_true_eq, beq_iff_eq] at c1
    obtain ⟨⟨⟨c0, c2, c3⟩, c4, c5⟩, c6, c7⟩ := c1
    split
    · rename_i hv
      simp only [Bool.and_eq_true, decide_eq_true_eq] at hv
      refine ⟨by show i + 4 ≤ s.size; omega, Nat.le_add_left 1 3, hv.2, fun j h1 h2 => ?_⟩
      have h2' : j < i + 4 := h2
      by_cases hj : j = i
      · subst hj; rw [h0]; exact ha
      · by_cases hj2 : j = i + 1
        · subst hj2; omega
        · by_cases hj3 : j = i + 2
          · subst hj3; omega
          · obtain rfl : j = i + 3 := by omega
            omega
    · exact ⟨by show i + 1 ≤ s.size; omega, by decide, herr, here⟩
  · exact ⟨by show i + 1 ≤ s.size; omega, by decide, herr, here⟩

/-! ### A range over a string, in any world -/
theorem run_next_at {P : Program} (W : World) (b : Nat) (s : ByteArray) (pos : Nat) (ty : TypeId) (hb : W.heap[b]? = some (.stringIter s pos)) (h : pos < s.size) :
    (Instr.next (.pointer (some ⟨b, 0, none⟩)) true ty).run P W = .ok (.tuple #[.bool true, .int .i64 pos, .int .i32 (Utf8.decode s pos).1]) { W with heap := W.heap.setIfInBounds b (.stringIter s (pos + (Utf8.decode s pos).2)) } := by
  simp only [Instr.next, getObj, setObj, Sem.run_bind, Sem.run, hb, Result.andThen, h, if_true]
  simp [goInt]
theorem run_next_over {P : Program} (W : World) (b : Nat) (s : ByteArray) (pos : Nat) (ty : TypeId) (hb : W.heap[b]? = some (.stringIter s pos)) (h : ¬ pos < s.size) :
    (Instr.next (.pointer (some ⟨b, 0, none⟩)) true ty).run P W = .ok (.tuple #[.bool false]) W := by
  simp [Instr.next, getObj, Sem.run, hb, h]
theorem below_iter {B b : Nat} {a W : World} (o : Obj) (h : Below B a W) (hB : B ≤ b) : Below B a { W with heap := W.heap.setIfInBounds b o } :=
  ⟨h.os, h.tape, h.output, by simpa using h.size, fun k hk => by
    rw [← h.block k hk]
    have : b ≠ k := by omega
    simp [this]⟩

theorem next_step {P : Program} (W : World) (b : Nat) (s : ByteArray) (pos : Nat) (hb : W.heap[b]? = some (.stringIter s pos)) (h : pos < s.size) :
    ∃ W2 : World, (∀ ty, (Instr.next (.pointer (some ⟨b, 0, none⟩)) true ty).run P W = .ok (.tuple #[.bool true, .int .i64 pos, .int .i32 (Utf8.decode s pos).1]) W2) ∧ W2.heap[b]? = some (.stringIter s (pos + (Utf8.decode s pos).2)) ∧ W2.heap.size = W.heap.size ∧ ∀ B a, Below B a W → B ≤ b → Below B a W2 :=
  ⟨_, fun ty => run_next_at W b s pos ty hb h, by
    have hlt : b < W.heap.size := (Array.getElem?_eq_some_iff.1 hb).1
    simp [hlt], by simp, fun B a hB hle => below_iter _ hB hle⟩

/-! ### strings.IndexRune -/
theorem rune_ascii (x : UInt8) (hx : x.toNat < 128) (w : World) :
    Calls Tryd.prog 70 #[.string ⟨#[34, 10]⟩, .int .i32 (x.toNat : Int)] w fun e w' => e = .returned (.int .i64 (Lib.indexByte [34, 10] x)) ∧ w = w' :=
  Calls.mono (f := 70) (Any.strings_IndexRune_ascii { Tryd.lays153 with } ⟨#[34, 10]⟩ (x.toNat : Int) w (by omega) (by omega)) fun _ _ ⟨h1, h2⟩ => ⟨by rw [h1]; simp, h2.symm⟩

theorem byteAt_any (c : Int) (w : World)   : Calls Tryd.prog 83 #[.string ByteArray.empty, .int .u8 c] w fun e w' => e = .returned (.int .i64 (-1)) ∧ w = w' :=
  Calls.mono (f := 83) (Any.strings_IndexByte { Tryd.lays153 with } ByteArray.empty c w) fun _ _ ⟨h1, h2⟩ => ⟨by rw [h1]; rfl, h2.symm⟩

set_option maxHeartbeats 1000000 in
theorem valid_any (r : Nat) (hv : Utf8.valid (r : Int) = true) (w : World) : Calls Tryd.prog 84 #[.int .i32 (r : Int)] w fun e w' => e = .returned (.bool true) ∧ w = w' := by
  have hp : (r : Int) < 55296 ∨ (57343 < (r : Int) ∧ (r : Int) ≤ 1114111) := by
    simp only [Utf8.valid, Bool.or_eq_true, Bool.and_eq_true, decide_eq_true_eq] at hv
    omega
  clear hv
  have h0 : 0 ≤ (r : Int) := by omega
  rcases hp with h1 | ⟨h1, h2⟩
  · go_enter Tryd.func84, Tryd.ntmps84
    go_wp2
    go_ret
    exact ⟨rfl, rfl⟩
  · have h3 : ¬ (r : Int) < 55296 := by omega
    go_enter Tryd.func84, Tryd.ntmps84
    go_wp2
    go_ret
    exact ⟨rfl, rfl⟩

set_option maxRecDepth 100000 in
set_option maxHeartbeats 4000000 in
theorem rune_high (r : Nat) (h : 128 ≤ r) (hv : Utf8.valid (r : Int) = true) (w : World) :
    Calls Tryd.prog 70 #[.string ⟨#[34, 10]⟩, .int .i32 (r : Int)] w fun e w' => e = .returned (.int .i64 (-1)) ∧ Below w.heap.size w w' := by
  have HV := Lib.hid fun W => valid_any r hv W
  have h0 : 0 ≤ (r : Int) := by omega
  have h1 : ¬ (r : Int) < 128 := by omega
  by_cases he : r = 65533
  · subst he
    clear HV hv h h0 h1
    have a0 := fun ty => run_next_ascii (P := Tryd.prog) w ⟨#[34, 10]⟩ 0 ty (by decide) (by decide)
    have a1 := fun ty => run_next_ascii (P := Tryd.prog) w ⟨#[34, 10]⟩ 1 ty (by decide) (by decide)
    have a2 := fun ty => run_next_end (P := Tryd.prog) w ⟨#[34, 10]⟩ 2 ty (by decide)
    have hb : ∀ p, Below w.heap.size w (w.iter ⟨#[34, 10]⟩ p) := fun p => below_alloc (Below.refl _ _) (Nat.le_refl _) _
    have HB := Lib.hid hb
    clear hb
    go_enter Tryd.func70, Tryd.ntmps70
    go_wp2_with fail
    go_loopw [5, 6] (fun _ _ wx => ∃ i : Nat, i ≤ 2 ∧ wx = w.iter ⟨#[34, 10]⟩ i) (fun _ _ wx => 2 - wx.iterPos w.heap.size)
    case atStart => exact ⟨0, by omega, rfl⟩
    case round =>
      obtain ⟨i, hi, rfl⟩ := hrel
      rcases (show i = 0 ∨ i = 1 ∨ i = 2 by omega) with rfl | rfl | rfl
      · go_wp2_with fail
        go_roundw
        case rel => exact ⟨1, by omega, rfl⟩
        case measure => simp
      · go_wp2_with fail
        go_roundw
        case rel => exact ⟨2, by omega, rfl⟩
        case measure => simp
      · go_wp2_with fail
        go_ret
        exact ⟨rfl, HB.out _⟩
  · have h2 : ((r : Int) == 65533) = false := beq_eq_false_iff_ne.2 (by omega)
    obtain ⟨e1, e2, e3⟩ := encode_facts (r : Int) hv (by omega)
    obtain ⟨E, hE⟩ : ∃ E, E = Utf8.encode (r : Int) := ⟨_, rfl⟩
    rw [← hE] at e1 e2 e3
    have hcv : ∀ W, (convert 21 9 (.int .i32 (r : Int))).run Tryd.prog W = .ok (.string E) W := fun W => by
      rw [hE]
      exact run_convert_int_string W _ _ .i32 (r : Int) (by kernel_rfl) Tryd.underlying9
    clear hE hv he
    go_enter Tryd.func70, Tryd.ntmps70
    go_wp2_with fail
    refine (HV.out _).mono ?_
    rintro x wx ⟨rfl, rfl⟩
    obtain ⟨b, hb, hbE⟩ : ∃ b : UInt8, 128 ≤ (b.toNat : Int) ∧ ∀ h : E.size - 1 < E.size, E[E.size - 1]'h = b := by
      have hlt : E.size - 1 < E.size := by omega
      exact ⟨E[E.size - 1]'hlt, by have := e3 hlt; omega, fun _ => rfl⟩
    by_cases h2s : E.size = 2
    · have h2I : (E.size : Int) = 2 := by omega
      have hat : E[1]'(by omega) = b := by
        have := hbE (by omega)
        simpa [h2s] using this
      have hne : (((((⟨#[34, 10]⟩ : ByteArray)[1]'(by decide)).toNat : Nat) : Int) != (b.toNat : Int)) = true := by
        have e : ((((⟨#[34, 10]⟩ : ByteArray)[1]'(by decide)).toNat : Nat) : Int) = 10 := rfl
        rw [e, bne_iff_ne]
        omega
      have hw2 : IntKind.i64.wrap 2 = 2 := wrap_small 2 (by decide) (by decide)
      have hx2 : (⟨#[34, 10]⟩ : ByteArray).extract 2 2 = ByteArray.empty := by rfl
      have HBT := Lib.hid fun W => byteAt_any (b.toNat : Int) W
      clear hbE e1 e2 e3
      go_wp2_with fail
      go_step3
      go_wp2_with fail
      go_loop [9, 10] (fun vi vf => vi = .int .i64 1 ∧ vf = .int .i64 0) (fun _ _ => 0)
      case atStart => exact ⟨by go_num, rfl⟩
      case round =>
        obtain ⟨rfl, rfl⟩ := hrel
        go_wp2_with fail
        go_step3
        go_wp2_with fail
        go_quiet (fail)
        go_wp2_with fail
        refine wp_region_still_tail 7 (by kernel_rfl) (by kernel_rfl) ?_
        simp only [List.take_succ_cons, List.take_zero, List.drop_succ_cons, List.drop_zero]
        change wpStill _ _ (World.drew _) _ _ _
        iterate 7 still_step
        refine wpStill_nil ?_
        change wpList _ _ _ _ _ (World.drew _)
        go_wp2_with fail
        refine (HBT.out _).mono ?_
        rintro x wx ⟨rfl, rfl⟩
        go_wp2_with fail
        simp +zetaDelta only [Exit.inBlock, Exit.then, Exit.noGoto]
        go_ret
        exact ⟨rfl, below_drewN (Below.refl _ _) _⟩
    · have h3s : (2 : Int) ≤ (E.size : Int) - 1 := by omega
      clear hbE e1 e3
      go_wp2_with fail
      go_step3
      go_wp2_with fail
      go_loop [9, 10] (fun vi vf => vi = .int .i64 ((E.size : Int) - 1) ∧ vf = .int .i64 0) (fun _ _ => 0)
      case atStart => exact ⟨by go_num, rfl⟩
      case round =>
        obtain ⟨rfl, rfl⟩ := hrel
        go_wp2_with fail
        go_ret
        exact ⟨rfl, Below.refl _ _⟩

end Go.Proofs.YtdjhpgpekomjeaaDoor
