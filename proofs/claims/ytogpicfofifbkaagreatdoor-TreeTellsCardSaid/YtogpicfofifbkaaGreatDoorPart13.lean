/- Texts of mine put together (a claim has at most so many files): TreeEqPar, TreeEqPol, TreeEqDfn. -/
import Derived.Test.YtogpicfofifbkaaGreatDoorTreeAlike
import Derived.Test.YtogpicfofifbkaaGreatDoorPart3
import Derived.Test.YtogpicfofifbkaaGreatDoorChecked
import Derived.OwnWalk
import Derived.Test.YtogpicfofifbkaaGreatDoorPart10
/- What slices.EqualFunc gives of two lists, given what its function gives of each two. No condition but sizes. -/
namespace Go.Proofs.YtogpicfofifbkaaGreatDoor.LandedT
open Go.RowKit

theorem enter_samePar (args : Array Value) (w : World) : (callFunc 69 args).run Tryz.prog w = .ok (.enter 69 args) w := by kernel_rfl

/-- Where EqualFunc stands. -/
def TwoPar (rel : Par → Par → Bool) (l m : List Par) (w : World) (i : Value) (wr : World) : Prop :=
  (∃ k : Nat, k ≤ l.length ∧ i = .int .i64 k ∧ ∀ j x y, j < k → l[j]? = some x → m[j]? = some y → rel x y = true) ∧ Below w.heap.size w wr

set_option maxRecDepth 100000 in
set_option maxHeartbeats 2000000 in
theorem eqfPar (rel : Par → Par → Bool) (l m : List Par) (A B : Option Addr) (c d : Nat) (w : World) (hl : SlIn w w.heap.size 4 Par.cells (ParIn w w.heap.size) A c l) (hm : SlIn w w.heap.size 4 Par.cells (ParIn w w.heap.size) B d m) (hn : l.length ≤ 1048576)
    (HR : ∀ x ∈ l, ∀ y ∈ m, ∀ W, Below w.heap.size w W → Calls Tryz.prog 69 #[(Par.val) x, (Par.val) y] W (Quietly (.bool (rel x y)) W)) :
    Calls Tryz.prog 68 #[.slice A l.length c, .slice B m.length d, .func (.func 69) #[] #[]] w (Quietly (.bool (alikes rel l m)) w) := by
  have HL := Lib.hid hl
  have HM := Lib.hid hm
  have HC := Lib.hid HR
  have eg := enter_samePar
  clear hl hm HR
  by_cases hlen : l.length = m.length
  · have HY : Hid ((∀ (k : Nat) (x y : Par), k < l.length → l[k]? = some x → m[k]? = some y → rel x y = true) → alikes rel l m = true) := fun h => alikes_all l m hlen h
    have HN : Hid (∀ (k : Nat) (x y : Par), l[k]? = some x → m[k]? = some y → rel x y = false → alikes rel l m = false) := fun k x y h1 h2 h3 => alikes_at l m k x y h1 h2 h3
    generalize alikes rel l m = Z at *
    obtain ⟨n, hnl⟩ : ∃ n, n = l.length := ⟨_, rfl⟩
    have HLN := Lib.hid hlen
    have HNL := Lib.hid hnl
    rw [← hlen, ← hnl]
    have hn2 : n ≤ 1048576 := by omega
    clear hlen hnl hn
    go_enter Tryz.func68, Tryz.ntmps68
    go_wp2_with fail
    go_loopw [17] (fun i wr => TwoPar rel l m w i wr) (fun i _ => n - (intOf i).toNat)
    case atStart => exact ⟨⟨0, Nat.zero_le _, rfl, fun j x y h => absurd h (Nat.not_lt_zero _)⟩, Below.refl _ _⟩
    case round =>
      obtain ⟨⟨k, hk, rfl, hall⟩, hnx⟩ := hrel
      have HA := Lib.hid hall
      rw [← HNL.out] at hk
      clear hall
      by_cases hlt : k < n
      · obtain ⟨be, oe, re, hAe, hbe, hxe, hPe, e0, e1, e2, e3⟩ := (HL.out.mono hnx (Q := ParIn w w.heap.size) fun _ _ h => h).par (k := k) (by have := HNL.out; omega)
        obtain ⟨bf, of, rf, hAf, hbf, hxf, hPf, f0, f1, f2, f3⟩ := (HM.out.mono hnx (Q := ParIn w w.heap.size) fun _ _ h => h).par (k := k) (by have := HNL.out; have := HLN.out; omega)
        subst hAe hAf
        have hbew : be < wr.heap.size := Nat.lt_of_lt_of_le hbe hnx.size
        have hbfw : bf < wr.heap.size := Nat.lt_of_lt_of_le hbf hnx.size
        have HF := Lib.hid (fun W hW => HC.out _ (List.mem_of_getElem? hxe) _ (List.mem_of_getElem? hxf) W hW)
        have HNO := Lib.hid (HN.out k _ _ hxe hxf)
        have HS : Hid (∀ (h : rel (re) (rf) = true) j p q, j < k + 1 → l[j]? = some p → m[j]? = some q → rel p q = true) := by
          have HX := Lib.hid hxe
          have HXF := Lib.hid hxf
          clear hxe hxf
          intro h j p q hj hp hq
          rcases Nat.lt_or_ge j k with h1 | h1
          · exact HA.out j p q h1 hp hq
          · obtain rfl : j = k := by omega
            rw [HX.out] at hp
            rw [HXF.out] at hq
            have he := Option.some.inj hp
            have hf := Option.some.inj hq
            subst he
            subst hf
            exact h
        clear hxe hxf hPe hPf 
        unfold Par.val at HF
        skip
        generalize rel (re) (rf) = T at HF HNO HS
        have hbn := below_alloc (below_alloc hnx (Nat.le_refl _) (.cells (Par.cells (re)).toArray 48)) (Nat.le_refl _) (.cells (Par.cells (rf)).toArray 48)
        have HBN := Lib.hid hbn
        clear hbn
        cases T
        · have HZ : Hid (Z = false) := HNO.out rfl
          clear HNO HS
          go_wp2_with fail
          refine (HF.out _ HBN.out).mono ?_
          rintro r w1 ⟨rfl, hb1⟩
          go_wp2
          go_ret
          exact ⟨by rw [HZ.out]; rfl, below_step HBN.out (Nat.le_refl _) hb1⟩
        · have HS2 := Lib.hid (HS.out rfl)
          clear HNO HS
          go_wp2_with fail
          refine (HF.out _ HBN.out).mono ?_
          rintro r w1 ⟨rfl, hb1⟩
          go_wp2
          go_roundw
          case rel => exact ⟨⟨k + 1, by rw [← HNL.out]; omega, by go_num, HS2.out⟩, below_step HBN.out (Nat.le_refl _) hb1⟩
          case measure => simp [intOf]; omega
      · obtain rfl : k = n := by omega
        have HZ : Hid (Z = true) := HY.out fun j x y hj h1 h2 => HA.out j x y (by have := HNL.out; omega) h1 h2
        go_wp2
        go_ret
        exact ⟨by rw [HZ.out]; rfl, hnx⟩
  · have HZ : Hid (alikes rel l m = false) := alikes_len l m hlen
    have hne : ((l.length : Int) != (m.length : Int)) = true := by
      rw [bne_iff_ne]
      omega
    generalize alikes rel l m = Z at *
    clear hlen
    go_enter Tryz.func68, Tryz.ntmps68
    go_wp2
    go_ret
    exact ⟨by rw [HZ.out]; rfl, Below.refl _ _⟩

end Go.Proofs.YtogpicfofifbkaaGreatDoor.LandedT

/- What slices.EqualFunc gives of two lists, given what its function gives of each two. No condition but sizes. -/
namespace Go.Proofs.YtogpicfofifbkaaGreatDoor.LandedT
open Go.RowKit

theorem enter_samePol (args : Array Value) (w : World) : (callFunc 44 args).run Tryz.prog w = .ok (.enter 44 args) w := by kernel_rfl

/-- Where EqualFunc stands. -/
def TwoPol (rel : Pol → Pol → Bool) (l m : List Pol) (w : World) (i : Value) (wr : World) : Prop :=
  (∃ k : Nat, k ≤ l.length ∧ i = .int .i64 k ∧ ∀ j x y, j < k → l[j]? = some x → m[j]? = some y → rel x y = true) ∧ Below w.heap.size w wr

set_option maxRecDepth 100000 in
set_option maxHeartbeats 2000000 in
theorem eqfPol (rel : Pol → Pol → Bool) (l m : List Pol) (A B : Option Addr) (c d : Nat) (w : World) (hl : SlIn w w.heap.size 2 Pol.cells (PolIn w w.heap.size) A c l) (hm : SlIn w w.heap.size 2 Pol.cells (PolIn w w.heap.size) B d m) (hn : l.length ≤ 1048576)
    (HR : ∀ x ∈ l, ∀ y ∈ m, ∀ W, Below w.heap.size w W → Calls Tryz.prog 44 #[(Pol.val) x, (Pol.val) y] W (Quietly (.bool (rel x y)) W)) :
    Calls Tryz.prog 43 #[.slice A l.length c, .slice B m.length d, .func (.func 44) #[] #[]] w (Quietly (.bool (alikes rel l m)) w) := by
  have HL := Lib.hid hl
  have HM := Lib.hid hm
  have HC := Lib.hid HR
  have eg := enter_samePol
  clear hl hm HR
  by_cases hlen : l.length = m.length
  · have HY : Hid ((∀ (k : Nat) (x y : Pol), k < l.length → l[k]? = some x → m[k]? = some y → rel x y = true) → alikes rel l m = true) := fun h => alikes_all l m hlen h
    have HN : Hid (∀ (k : Nat) (x y : Pol), l[k]? = some x → m[k]? = some y → rel x y = false → alikes rel l m = false) := fun k x y h1 h2 h3 => alikes_at l m k x y h1 h2 h3
    generalize alikes rel l m = Z at *
    obtain ⟨n, hnl⟩ : ∃ n, n = l.length := ⟨_, rfl⟩
    have HLN := Lib.hid hlen
    have HNL := Lib.hid hnl
    rw [← hlen, ← hnl]
    have hn2 : n ≤ 1048576 := by omega
    clear hlen hnl hn
    go_enter Tryz.func43, Tryz.ntmps43
    go_wp2_with fail
    go_loopw [17] (fun i wr => TwoPol rel l m w i wr) (fun i _ => n - (intOf i).toNat)
    case atStart => exact ⟨⟨0, Nat.zero_le _, rfl, fun j x y h => absurd h (Nat.not_lt_zero _)⟩, Below.refl _ _⟩
    case round =>
      obtain ⟨⟨k, hk, rfl, hall⟩, hnx⟩ := hrel
      have HA := Lib.hid hall
      rw [← HNL.out] at hk
      clear hall
      by_cases hlt : k < n
      · obtain ⟨be, oe, re, hAe, hbe, hxe, hPe, e0, e1⟩ := (HL.out.mono hnx (Q := PolIn w w.heap.size) fun _ _ h => h).pol (k := k) (by have := HNL.out; omega)
        obtain ⟨bf, of, rf, hAf, hbf, hxf, hPf, f0, f1⟩ := (HM.out.mono hnx (Q := PolIn w w.heap.size) fun _ _ h => h).pol (k := k) (by have := HNL.out; have := HLN.out; omega)
        subst hAe hAf
        have hbew : be < wr.heap.size := Nat.lt_of_lt_of_le hbe hnx.size
        have hbfw : bf < wr.heap.size := Nat.lt_of_lt_of_le hbf hnx.size
        have HF := Lib.hid (fun W hW => HC.out _ (List.mem_of_getElem? hxe) _ (List.mem_of_getElem? hxf) W hW)
        have HNO := Lib.hid (HN.out k _ _ hxe hxf)
        have HS : Hid (∀ (h : rel (re) (rf) = true) j p q, j < k + 1 → l[j]? = some p → m[j]? = some q → rel p q = true) := by
          have HX := Lib.hid hxe
          have HXF := Lib.hid hxf
          clear hxe hxf
          intro h j p q hj hp hq
          rcases Nat.lt_or_ge j k with h1 | h1
          · exact HA.out j p q h1 hp hq
          · obtain rfl : j = k := by omega
            rw [HX.out] at hp
            rw [HXF.out] at hq
            have he := Option.some.inj hp
            have hf := Option.some.inj hq
            subst he
            subst hf
            exact h
        clear hxe hxf hPe hPf 
        unfold Pol.val at HF
        skip
        generalize rel (re) (rf) = T at HF HNO HS
        have hbn := below_alloc (below_alloc hnx (Nat.le_refl _) (.cells (Pol.cells (re)).toArray 45)) (Nat.le_refl _) (.cells (Pol.cells (rf)).toArray 45)
        have HBN := Lib.hid hbn
        clear hbn
        cases T
        · have HZ : Hid (Z = false) := HNO.out rfl
          clear HNO HS
          go_wp2_with fail
          refine (HF.out _ HBN.out).mono ?_
          rintro r w1 ⟨rfl, hb1⟩
          go_wp2
          go_ret
          exact ⟨by rw [HZ.out]; rfl, below_step HBN.out (Nat.le_refl _) hb1⟩
        · have HS2 := Lib.hid (HS.out rfl)
          clear HNO HS
          go_wp2_with fail
          refine (HF.out _ HBN.out).mono ?_
          rintro r w1 ⟨rfl, hb1⟩
          go_wp2
          go_roundw
          case rel => exact ⟨⟨k + 1, by rw [← HNL.out]; omega, by go_num, HS2.out⟩, below_step HBN.out (Nat.le_refl _) hb1⟩
          case measure => simp [intOf]; omega
      · obtain rfl : k = n := by omega
        have HZ : Hid (Z = true) := HY.out fun j x y hj h1 h2 => HA.out j x y (by have := HNL.out; omega) h1 h2
        go_wp2
        go_ret
        exact ⟨by rw [HZ.out]; rfl, hnx⟩
  · have HZ : Hid (alikes rel l m = false) := alikes_len l m hlen
    have hne : ((l.length : Int) != (m.length : Int)) = true := by
      rw [bne_iff_ne]
      omega
    generalize alikes rel l m = Z at *
    clear hlen
    go_enter Tryz.func43, Tryz.ntmps43
    go_wp2
    go_ret
    exact ⟨by rw [HZ.out]; rfl, Below.refl _ _⟩

end Go.Proofs.YtogpicfofifbkaaGreatDoor.LandedT

/- What slices.EqualFunc gives of two lists, given what its function gives of each two. No condition but sizes. -/
namespace Go.Proofs.YtogpicfofifbkaaGreatDoor.LandedT
open Go.RowKit

theorem enter_sameDfn (args : Array Value) (w : World) : (callFunc 42 args).run Tryz.prog w = .ok (.enter 42 args) w := by kernel_rfl

/-- Where EqualFunc stands. -/
def TwoDfn (rel : Dfn → Dfn → Bool) (l m : List Dfn) (w : World) (i : Value) (wr : World) : Prop :=
  (∃ k : Nat, k ≤ l.length ∧ i = .int .i64 k ∧ ∀ j x y, j < k → l[j]? = some x → m[j]? = some y → rel x y = true) ∧ Below w.heap.size w wr

set_option maxRecDepth 100000 in
set_option maxHeartbeats 2000000 in
theorem eqfDfn (rel : Dfn → Dfn → Bool) (l m : List Dfn) (A B : Option Addr) (c d : Nat) (w : World) (hl : SlIn w w.heap.size 6 Dfn.cells (DfnIn w w.heap.size) A c l) (hm : SlIn w w.heap.size 6 Dfn.cells (DfnIn w w.heap.size) B d m) (hn : l.length ≤ 1048576)
    (HR : ∀ x ∈ l, ∀ y ∈ m, ∀ W, Below w.heap.size w W → Calls Tryz.prog 42 #[(Dfn.val) x, (Dfn.val) y] W (Quietly (.bool (rel x y)) W)) :
    Calls Tryz.prog 41 #[.slice A l.length c, .slice B m.length d, .func (.func 42) #[] #[]] w (Quietly (.bool (alikes rel l m)) w) := by
  have HL := Lib.hid hl
  have HM := Lib.hid hm
  have HC := Lib.hid HR
  have eg := enter_sameDfn
  clear hl hm HR
  by_cases hlen : l.length = m.length
  · have HY : Hid ((∀ (k : Nat) (x y : Dfn), k < l.length → l[k]? = some x → m[k]? = some y → rel x y = true) → alikes rel l m = true) := fun h => alikes_all l m hlen h
    have HN : Hid (∀ (k : Nat) (x y : Dfn), l[k]? = some x → m[k]? = some y → rel x y = false → alikes rel l m = false) := fun k x y h1 h2 h3 => alikes_at l m k x y h1 h2 h3
    generalize alikes rel l m = Z at *
    obtain ⟨n, hnl⟩ : ∃ n, n = l.length := ⟨_, rfl⟩
    have HLN := Lib.hid hlen
    have HNL := Lib.hid hnl
    rw [← hlen, ← hnl]
    have hn2 : n ≤ 1048576 := by omega
    clear hlen hnl hn
    go_enter Tryz.func41, Tryz.ntmps41
    go_wp2_with fail
    go_loopw [17] (fun i wr => TwoDfn rel l m w i wr) (fun i _ => n - (intOf i).toNat)
    case atStart => exact ⟨⟨0, Nat.zero_le _, rfl, fun j x y h => absurd h (Nat.not_lt_zero _)⟩, Below.refl _ _⟩
    case round =>
      obtain ⟨⟨k, hk, rfl, hall⟩, hnx⟩ := hrel
      have HA := Lib.hid hall
      rw [← HNL.out] at hk
      clear hall
      by_cases hlt : k < n
      · obtain ⟨be, oe, namee, kde, ope, nme, nue, Ae, ce, kse, hAe, hbe, hxe, hPe, e0, e1, e2, e3, e4, e5⟩ := (HL.out.mono hnx (Q := DfnIn w w.heap.size) fun _ _ h => h).dfn (k := k) (by have := HNL.out; omega)
        obtain ⟨bf, of, namef, kdf, opf, nmf, nuf, Af, cf, ksf, hAf, hbf, hxf, hPf, f0, f1, f2, f3, f4, f5⟩ := (HM.out.mono hnx (Q := DfnIn w w.heap.size) fun _ _ h => h).dfn (k := k) (by have := HNL.out; have := HLN.out; omega)
        subst hAe hAf
        have hbew : be < wr.heap.size := Nat.lt_of_lt_of_le hbe hnx.size
        have hbfw : bf < wr.heap.size := Nat.lt_of_lt_of_le hbf hnx.size
        have HF := Lib.hid (fun W hW => HC.out _ (List.mem_of_getElem? hxe) _ (List.mem_of_getElem? hxf) W hW)
        have HNO := Lib.hid (HN.out k _ _ hxe hxf)
        have HS : Hid (∀ (h : rel (⟨namee, .node kde ope nme nue Ae ce kse⟩) (⟨namef, .node kdf opf nmf nuf Af cf ksf⟩) = true) j p q, j < k + 1 → l[j]? = some p → m[j]? = some q → rel p q = true) := by
          have HX := Lib.hid hxe
          have HXF := Lib.hid hxf
          clear hxe hxf
          intro h j p q hj hp hq
          rcases Nat.lt_or_ge j k with h1 | h1
          · exact HA.out j p q h1 hp hq
          · obtain rfl : j = k := by omega
            rw [HX.out] at hp
            rw [HXF.out] at hq
            have he := Option.some.inj hp
            have hf := Option.some.inj hq
            subst he
            subst hf
            exact h
        clear hxe hxf hPe hPf 
        unfold Dfn.val at HF
        simp only at HF
        generalize rel (⟨namee, .node kde ope nme nue Ae ce kse⟩) (⟨namef, .node kdf opf nmf nuf Af cf ksf⟩) = T at HF HNO HS
        have hbn := below_alloc (below_alloc hnx (Nat.le_refl _) (.cells (Dfn.cells (⟨namee, .node kde ope nme nue Ae ce kse⟩)).toArray 42)) (Nat.le_refl _) (.cells (Dfn.cells (⟨namef, .node kdf opf nmf nuf Af cf ksf⟩)).toArray 42)
        have HBN := Lib.hid hbn
        clear hbn
        cases T
        · have HZ : Hid (Z = false) := HNO.out rfl
          clear HNO HS
          go_wp2_with fail
          refine (HF.out _ HBN.out).mono ?_
          rintro r w1 ⟨rfl, hb1⟩
          go_wp2
          go_ret
          exact ⟨by rw [HZ.out]; rfl, below_step HBN.out (Nat.le_refl _) hb1⟩
        · have HS2 := Lib.hid (HS.out rfl)
          clear HNO HS
          go_wp2_with fail
          refine (HF.out _ HBN.out).mono ?_
          rintro r w1 ⟨rfl, hb1⟩
          go_wp2
          go_roundw
          case rel => exact ⟨⟨k + 1, by rw [← HNL.out]; omega, by go_num, HS2.out⟩, below_step HBN.out (Nat.le_refl _) hb1⟩
          case measure => simp [intOf]; omega
      · obtain rfl : k = n := by omega
        have HZ : Hid (Z = true) := HY.out fun j x y hj h1 h2 => HA.out j x y (by have := HNL.out; omega) h1 h2
        go_wp2
        go_ret
        exact ⟨by rw [HZ.out]; rfl, hnx⟩
  · have HZ : Hid (alikes rel l m = false) := alikes_len l m hlen
    have hne : ((l.length : Int) != (m.length : Int)) = true := by
      rw [bne_iff_ne]
      omega
    generalize alikes rel l m = Z at *
    clear hlen
    go_enter Tryz.func41, Tryz.ntmps41
    go_wp2
    go_ret
    exact ⟨by rw [HZ.out]; rfl, Below.refl _ _⟩

end Go.Proofs.YtogpicfofifbkaaGreatDoor.LandedT
