/- Texts of mine put together (a claim has at most so many files): TreeCode, TreeEqEx. -/
import Derived.Test.YtogpicfofifbkaaGreatDoorPart5
import Derived.Test.YtogpicfofifbkaaGreatDoorTreeRt
import Derived.Test.YtogpicfofifbkaaGreatDoorTreeAlike
import Derived.Test.YtogpicfofifbkaaGreatDoorPart3
import Derived.Test.YtogpicfofifbkaaGreatDoorChecked
import Derived.OwnWalk
/- What package tree's functions say, shown of the landed code: all but Same. No condition. -/
namespace Go.Proofs.YtogpicfofifbkaaGreatDoor
open Go.RowKit

theorem tree_says : TreeSays (fun _ => True) where
  keep := fun _ _ _ _ => trivial
  name := fun s w _ _ => LandedT.name_any s w
  number := fun e w _ hin _ _ => LandedT.number_any e w hin
  bool := fun e w _ hin _ hd => LandedT.bool_any e w hin hd
  depth := fun e w _ hin _ hd => LandedT.depth_any e w hin hd
  right := fun u w _ hin hs => LandedT.unit_any u w hin hs

end Go.Proofs.YtogpicfofifbkaaGreatDoor

/- What slices.EqualFunc gives of two lists, given what its function gives of each two. No condition but sizes. -/
namespace Go.Proofs.YtogpicfofifbkaaGreatDoor.LandedT
open Go.RowKit

theorem enter_sameEx (args : Array Value) (w : World) : (callFunc 74 args).run Tryz.prog w = .ok (.enter 74 args) w := by kernel_rfl

/-- Where EqualFunc stands. -/
def TwoEx (rel : Ex → Ex → Bool) (l m : List Ex) (w : World) (i : Value) (wr : World) : Prop :=
  (∃ k : Nat, k ≤ l.length ∧ i = .int .i64 k ∧ ∀ j x y, j < k → l[j]? = some x → m[j]? = some y → rel x y = true) ∧ Below w.heap.size w wr

set_option maxRecDepth 100000 in
set_option maxHeartbeats 2000000 in
theorem eqfEx (rel : Ex → Ex → Bool) (l m : List Ex) (A B : Option Addr) (c d : Nat) (w : World) (hl : SlIn w w.heap.size 5 Ex.cells (ExIn w w.heap.size) A c l) (hm : SlIn w w.heap.size 5 Ex.cells (ExIn w w.heap.size) B d m) (hn : l.length ≤ 1048576)
    (HR : ∀ x ∈ l, ∀ y ∈ m, ∀ W, Below w.heap.size w W → Calls Tryz.prog 74 #[(Ex.val) x, (Ex.val) y] W (Quietly (.bool (rel x y)) W)) :
    Calls Tryz.prog 83 #[.slice A l.length c, .slice B m.length d, .func (.func 74) #[] #[]] w (Quietly (.bool (alikes rel l m)) w) := by
  have HL := Lib.hid hl
  have HM := Lib.hid hm
  have HC := Lib.hid HR
  have eg := enter_sameEx
  clear hl hm HR
  by_cases hlen : l.length = m.length
  · have HY : Hid ((∀ (k : Nat) (x y : Ex), k < l.length → l[k]? = some x → m[k]? = some y → rel x y = true) → alikes rel l m = true) := fun h => alikes_all l m hlen h
    have HN : Hid (∀ (k : Nat) (x y : Ex), l[k]? = some x → m[k]? = some y → rel x y = false → alikes rel l m = false) := fun k x y h1 h2 h3 => alikes_at l m k x y h1 h2 h3
    generalize alikes rel l m = Z at *
    obtain ⟨n, hnl⟩ : ∃ n, n = l.length := ⟨_, rfl⟩
    have HLN := Lib.hid hlen
    have HNL := Lib.hid hnl
    rw [← hlen, ← hnl]
    have hn2 : n ≤ 1048576 := by omega
    clear hlen hnl hn
    go_enter Tryz.func83, Tryz.ntmps83
    go_wp2_with fail
    go_loopw [17] (fun i wr => TwoEx rel l m w i wr) (fun i _ => n - (intOf i).toNat)
    case atStart => exact ⟨⟨0, Nat.zero_le _, rfl, fun j x y h => absurd h (Nat.not_lt_zero _)⟩, Below.refl _ _⟩
    case round =>
      obtain ⟨⟨k, hk, rfl, hall⟩, hnx⟩ := hrel
      have HA := Lib.hid hall
      rw [← HNL.out] at hk
      clear hall
      by_cases hlt : k < n
      · obtain ⟨be, oe, kde, ope, nme, nue, Ae, ce, kse, hAe, hbe, hxe, hPe, hme, e0, e1, e2, e3, e4⟩ := (HL.out.mono hnx (Q := ExIn w w.heap.size) fun _ _ h => h).ex (k := k) (by have := HNL.out; omega)
        obtain ⟨bf, of, kdf, opf, nmf, nuf, Af, cf, ksf, hAf, hbf, hxf, hPf, hmf, f0, f1, f2, f3, f4⟩ := (HM.out.mono hnx (Q := ExIn w w.heap.size) fun _ _ h => h).ex (k := k) (by have := HNL.out; have := HLN.out; omega)
        subst hAe hAf
        have hbew : be < wr.heap.size := Nat.lt_of_lt_of_le hbe hnx.size
        have hbfw : bf < wr.heap.size := Nat.lt_of_lt_of_le hbf hnx.size
        have HF := Lib.hid (fun W hW => HC.out _ (List.mem_of_getElem? hxe) _ (List.mem_of_getElem? hxf) W hW)
        have HNO := Lib.hid (HN.out k _ _ hxe hxf)
        have HS : Hid (∀ (h : rel (.node kde ope nme nue Ae ce kse) (.node kdf opf nmf nuf Af cf ksf) = true) j p q, j < k + 1 → l[j]? = some p → m[j]? = some q → rel p q = true) := by
          have HX := Lib.hid hxe
          have HXF := Lib.hid hxf
          clear hxe hxf
          intro h j p q hj hp hq
          rcases Nat.lt_or_ge j k with h1 | h1
          · exact HA.out j p q h1 hp hq
          · obtain rfl : j = k := by omega
            rw [HX.out] at hp
            rw [HXF.out] at hq
            have he := Option.some.inj hp
            have hf := Option.some.inj hq
            subst he
            subst hf
            exact h
        clear hxe hxf hPe hPf hme hmf
        unfold Ex.val at HF
        simp only at HF
        generalize rel (.node kde ope nme nue Ae ce kse) (.node kdf opf nmf nuf Af cf ksf) = T at HF HNO HS
        have hbn := below_alloc (below_alloc hnx (Nat.le_refl _) (.cells (Ex.cells (.node kde ope nme nue Ae ce kse)).toArray 25)) (Nat.le_refl _) (.cells (Ex.cells (.node kdf opf nmf nuf Af cf ksf)).toArray 25)
        have HBN := Lib.hid hbn
        clear hbn
        cases T
        · have HZ : Hid (Z = false) := HNO.out rfl
          clear HNO HS
          go_wp2_with fail
          refine (HF.out _ HBN.out).mono ?_
          rintro r w1 ⟨rfl, hb1⟩
          go_wp2
          go_ret
          exact ⟨by rw [HZ.out]; rfl, below_step HBN.out (Nat.le_refl _) hb1⟩
        · have HS2 := Lib.hid (HS.out rfl)
          clear HNO HS
          go_wp2_with fail
          refine (HF.out _ HBN.out).mono ?_
          rintro r w1 ⟨rfl, hb1⟩
          go_wp2
          go_roundw
          case rel => exact ⟨⟨k + 1, by rw [← HNL.out]; omega, by go_num, HS2.out⟩, below_step HBN.out (Nat.le_refl _) hb1⟩
          case measure => simp [intOf]; omega
      · obtain rfl : k = n := by omega
        have HZ : Hid (Z = true) := HY.out fun j x y hj h1 h2 => HA.out j x y (by have := HNL.out; omega) h1 h2
        go_wp2
        go_ret
        exact ⟨by rw [HZ.out]; rfl, hnx⟩
  · have HZ : Hid (alikes rel l m = false) := alikes_len l m hlen
    have hne : ((l.length : Int) != (m.length : Int)) = true := by
      rw [bne_iff_ne]
      omega
    generalize alikes rel l m = Z at *
    clear hlen
    go_enter Tryz.func83, Tryz.ntmps83
    go_wp2
    go_ret
    exact ⟨by rw [HZ.out]; rfl, Below.refl _ _⟩

end Go.Proofs.YtogpicfofifbkaaGreatDoor.LandedT
