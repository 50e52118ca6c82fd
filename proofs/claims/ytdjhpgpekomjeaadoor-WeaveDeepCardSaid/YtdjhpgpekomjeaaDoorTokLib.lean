/- The library's functions that the landed token calls, as contracts at this translation; what is laid at the start. No condition. -/
import Derived.Test.YtdjhpgpekomjeaaDoorShelf
import Derived.Test.YtdjhpgpekomjeaaDoorTokSet
import Derived.Test.YtdjhpgpekomjeaaDoorChecked
import Derived.Shelf.Strings.SlTrimAscii
import Derived.Shelf.Strings.Search3
import Derived.Shelf.Strings.Cut
import Derived.Shelf.Strings.Prefix
import Derived.Shelf.Pu.Clone
namespace Go.Proofs.YtdjhpgpekomjeaaDoor
open Go.RowKit

/-- What the start lays, as far as the landed code reads it. -/
structure Laid (w : World) : Prop where
  most : ∃ m, w.cell? ⟨0, 0, none⟩ = some (.int .i64 m)
  syn : ∃ t p, w.cell? ⟨3, 0, none⟩ = some (.iface t p)
  rng : ∃ t p, w.cell? ⟨4, 0, none⟩ = some (.iface t p)
  size : 0 < w.heap.size ∧ 3 < w.heap.size ∧ 4 < w.heap.size

theorem Laid.below {w w' : World} (h : Laid w) (hb : Below w.heap.size w w') : Laid w' where
  most := by obtain ⟨m, hm⟩ := h.most; exact ⟨m, (hb.cell (p := ⟨0, 0, none⟩) h.size.1).trans hm⟩
  syn := by obtain ⟨t, p, hm⟩ := h.syn; exact ⟨t, p, (hb.cell (p := ⟨3, 0, none⟩) h.size.2.1).trans hm⟩
  rng := by obtain ⟨t, p, hm⟩ := h.rng; exact ⟨t, p, (hb.cell (p := ⟨4, 0, none⟩) h.size.2.2).trans hm⟩
  size := by have := hb.size; have := h.size; omega

theorem trim_any (s cs : ByteArray) (w : World) (hz : cs.size ≤ 1000) (hcs : cs.data.toList.all (fun b => decide (b.toNat < 128)) = true) :
    Calls Tryd.prog 46 #[.string s, .string cs] w fun e w' => e = .returned (.string (strOf (s.data.toList.dropWhile (cs.data.toList.contains ·)))) ∧ Below w.heap.size w w' :=
  Calls.mono (f := 46) (Any.strings_TrimLeft_laid Tryd.lays161 (by kernel_rfl) s cs w (by omega) (ascii_of_all hcs)) fun _ _ h => h

theorem contains_any (s : ByteArray) (c : UInt8) (w : World) :
    Calls Tryd.prog 31 #[.string s, .string ⟨#[c]⟩] w fun e w' => e = .returned (.bool (s.data.toList.contains c)) ∧ w = w' :=
  Calls.mono (f := 31) (Any.strings_Contains_one Tryd.lays144 s c w) fun _ _ ⟨h1, h2⟩ => ⟨by rw [h1, Lib.contains_iff_indexByte], h2.symm⟩

theorem prefix_any (s p : ByteArray) (w : World) :
    Calls Tryd.prog 47 #[.string s, .string p] w fun e w' => e = .returned (.bool (p.data.toList.isPrefixOf s.data.toList)) ∧ w = w' :=
  Calls.mono (f := 47) (Any.strings_HasPrefix Tryd.lays99 s p w) fun _ _ ⟨h1, h2⟩ => ⟨h1, h2.symm⟩

theorem index_any (s sub : ByteArray) (w : World) (hL : Laid w) (hs : s.size ≤ 1000000) :
    Calls Tryd.prog 30 #[.string s, .string sub] w fun e w' => e = .returned (.int .i64 (Lib.index s.data.toList sub.data.toList)) ∧ w = w' := by
  obtain ⟨m, hm⟩ := hL.most
  exact Calls.mono (f := 30) (Any.strings_Index Tryd.lays143 s sub m w (by omega) hm) fun _ _ ⟨h1, h2⟩ => ⟨h1, h2.symm⟩

/-! ### A line -/
theorem line_index : ∀ l : List UInt8, (Lib.index l [10] = -1 ∧ runLen (fun x => !(x == 10)) l = l.length) ∨ (Lib.index l [10] = (runLen (fun x => !(x == 10)) l : Int) ∧ runLen (fun x => !(x == 10)) l < l.length)
  | [] => .inl ⟨rfl, rfl⟩
  | c :: r => by
    rw [Lib.index, runLen]
    by_cases hc : c = 10
    · subst hc
      exact .inr ⟨by simp [List.isPrefixOf], by simp⟩
    · have h1 : ([10] : List UInt8).isPrefixOf (c :: r) = false := by
        simp [List.isPrefixOf]
        exact fun e => hc e.symm
      have h2 : (!(c == 10)) = true := by simpa using hc
      rw [h1, h2]
      rcases line_index r with ⟨e, h⟩ | ⟨e, h⟩
      · exact .inl ⟨by rw [e]; rfl, by simp [h]⟩
      · refine .inr ⟨?_, by simp; omega⟩
        rw [e, if_neg (by decide), if_neg (by simp), if_pos rfl]
        push_cast
        rfl

theorem line_cut (l : List UInt8) : (Lib.cut l [10]).1.length = runLen (fun x => !(x == 10)) l := by
  unfold Lib.cut
  rcases line_index l with ⟨e, h⟩ | ⟨e, h⟩
  · rw [e, if_neg (by decide), h]
  · rw [e, if_pos (by omega)]
    simp only [Int.toNat_natCast, List.length_take]
    omega

theorem line_any (s : ByteArray) (w : World) (hL : Laid w) (hs : s.size ≤ 1000000) :
    Calls Tryd.prog 49 #[.string s, .string ⟨#[10]⟩] w fun e w' => (∃ (a b : ByteArray) (c : Bool), e = .returned (.tuple #[.string a, .string b, .bool c]) ∧ a.size = runLen (fun x => !(x == 10)) s.data.toList) ∧ Below w.heap.size w w' := by
  obtain ⟨m, hm⟩ := hL.most
  refine Calls.mono (f := 49) (Any.strings_Cut Tryd.lays145 s ⟨#[10]⟩ m w (by omega) hm) fun _ _ ⟨h1, n, h2⟩ => ⟨⟨_, _, _, h1, ?_⟩, ?_⟩
  · show (Lib.cut s.data.toList [10]).1.toArray.size = _
    rw [List.size_toArray, line_cut]
  · rw [h2]
    exact below_drewN (Below.refl _ _) n

/-! ### strings.CutPrefix -/
theorem lite_prefix (s p : ByteArray) (w : World) :
    Calls Tryd.prog 65 #[.string s, .string p] w fun e w' => e = .returned (.bool (p.data.toList.isPrefixOf s.data.toList)) ∧ w = w' :=
  Calls.mono (f := 65) (Any.stringslite_HasPrefix { Tryd.lays103 with } s p w) fun _ _ ⟨h1, h2⟩ => ⟨h1, h2.symm⟩

theorem prefix_two (s : ByteArray) (h : ([47, 42] : List UInt8).isPrefixOf s.data.toList = true) : 2 ≤ s.size := by
  have h1 : ([47, 42] : List UInt8) <+: s.data.toList := List.isPrefixOf_iff_prefix.1 h
  have h2 := h1.length_le
  simpa using h2

set_option maxHeartbeats 1000000 in
theorem lite_cut (s : ByteArray) (w : World) :
    Calls Tryd.prog 69 #[.string s, .string ⟨#[47, 42]⟩] w fun e w' => e = .returned (if ([47, 42] : List UInt8).isPrefixOf s.data.toList = true then .tuple #[.string (s.extract 2 s.size), .bool true] else .tuple #[.string s, .bool false]) ∧ w = w' := by
  have H := Lib.hid (lite_prefix s ⟨#[47, 42]⟩ w)
  have e2 : (⟨#[47, 42]⟩ : ByteArray).data.toList = [47, 42] := rfl
  rw [e2] at H
  cases hp : ([47, 42] : List UInt8).isPrefixOf s.data.toList
  · rw [hp] at H
    rw [if_neg (by decide)]
    clear hp e2
    go_enter Tryd.func69, Tryd.ntmps69
    go_wp2_with fail
    refine (H.out).mono ?_
    rintro r w1 ⟨rfl, rfl⟩
    go_wp2
    go_ret2
    exact ⟨rfl, rfl⟩
  · rw [hp] at H
    rw [if_pos rfl]
    have h2 := prefix_two s hp
    have h2I : (2 : Int) ≤ (s.size : Int) := by omega
    clear hp e2
    go_enter Tryd.func69, Tryd.ntmps69
    go_wp2_with fail
    refine (H.out).mono ?_
    rintro r w1 ⟨rfl, rfl⟩
    go_wp2
    go_ret2
    exact ⟨rfl, rfl⟩

set_option maxHeartbeats 1000000 in
theorem cutPrefix_any (s : ByteArray) (w : World) :
    Calls Tryd.prog 50 #[.string s, .string ⟨#[47, 42]⟩] w fun e w' => e = .returned (if ([47, 42] : List UInt8).isPrefixOf s.data.toList = true then .tuple #[.string (s.extract 2 s.size), .bool true] else .tuple #[.string s, .bool false]) ∧ w = w' := by
  have H := Lib.hid (lite_cut s w)
  cases hp : ([47, 42] : List UInt8).isPrefixOf s.data.toList
  · rw [hp, if_neg (by decide)] at H
    rw [if_neg (by decide)]
    clear hp
    go_enter Tryd.func50, Tryd.ntmps50
    go_wp2_with fail
    refine (H.out).mono ?_
    rintro r w1 ⟨rfl, rfl⟩
    go_wp2
    go_ret2
    exact ⟨rfl, rfl⟩
  · rw [hp, if_pos rfl] at H
    rw [if_pos rfl]
    clear hp
    go_enter Tryd.func50, Tryd.ntmps50
    go_wp2_with fail
    refine (H.out).mono ?_
    rintro r w1 ⟨rfl, rfl⟩
    go_wp2
    go_ret2
    exact ⟨rfl, rfl⟩

/-! ### strings.Clone -/
theorem clone_any (s : ByteArray) (w : World) (hs : s.size ≤ 1000000) : Calls Tryd.prog 24 #[.string s] w fun e w' => e = .returned (.string s) ∧ Below w.heap.size w w' := by
  have H : Hid (∀ W : World, Calls Tryd.prog 39 #[.string s] W fun e w' => e = .returned (.string s) ∧ Below W.heap.size W w') := fun W =>
    Calls.mono (f := 39) (AnyPu.stringslite_Clone { Tryd.laysPu14 with } s W (by omega)) fun _ _ h => h
  go_enter Tryd.func24, Tryd.ntmps24
  go_wp2_with fail
  refine (H.out _).mono ?_
  rintro r w1 ⟨rfl, hb⟩
  go_wp2
  go_ret
  exact ⟨rfl, hb⟩

end Go.Proofs.YtdjhpgpekomjeaaDoor
