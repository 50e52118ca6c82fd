/- Texts of mine put together (a claim has at most so many files): TreeEqStr, TreeEqRul. -/
import Derived.Test.YtogpicfofifbkaaGreatDoorTreeAlike
import Derived.Test.YtogpicfofifbkaaGreatDoorPart3
import Derived.Test.YtogpicfofifbkaaGreatDoorChecked
import Derived.OwnWalk
/- What slices.Equal gives of two lists of texts. No condition but sizes. -/
namespace Go.Proofs.YtogpicfofifbkaaGreatDoor.LandedT
open Go.RowKit

set_option maxRecDepth 100000 in
set_option maxHeartbeats 1000000 in
theorem eqStr (A B : Option Addr) (c d : Nat) (l m : List ByteArray) (w : World) (hl : SlIn w w.heap.size 1 strCells StrIn A c l) (hm : SlIn w w.heap.size 1 strCells StrIn B d m) (hn : l.length ≤ 1099511627776) :
    Calls Tryz.prog 45 #[.slice A l.length c, .slice B m.length d] w (Quietly (.bool (alikes sameStr l m)) w) := by
  by_cases hlen : l.length = m.length
  · have HA : Hid (∀ (k : Nat) (x y : ByteArray), l[k]? = some x → m[k]? = some y → (x.toList == y.toList) = false → alikes sameStr l m = false) := fun k x y h1 h2 h3 => alikes_at l m k x y h1 h2 h3
    have HY : Hid ((∀ (k : Nat) (x y : ByteArray), k < l.length → l[k]? = some x → m[k]? = some y → sameStr x y = true) → alikes sameStr l m = true) := fun h => alikes_all l m hlen h
    obtain ⟨V, hV⟩ : ∃ V, V = alikes sameStr l m := ⟨_, rfl⟩
    rw [← hV] at HA HY ⊢
    clear hV
    rw [← hlen]
    have HLEN := Lib.hid hlen
    clear hlen
    have hnn : (((l.length : Int) != (l.length : Int)) = false) := by simp
    go_enter Tryz.func45, Tryz.ntmps45
    go_wp2
    go_loopw [13] (fun i wr => Alikes sameStr l m w i wr) (fun i _ => l.length - (intOf i).toNat)
    case atStart => exact ⟨⟨0, Nat.zero_le _, rfl, fun j x y h => absurd h (by omega)⟩, Below.refl _ _⟩
    case round =>
      obtain ⟨⟨k, hk, rfl, hall⟩, hnx⟩ := hrel
      have HALL := Lib.hid hall
      clear hall
      by_cases hlt : k < l.length
      · obtain ⟨b, o, x, rfl, hb, hx, _, e0⟩ := (hl.mono hnx (Q := StrIn) fun _ _ h => h).str hlt
        obtain ⟨b', o', y, rfl, hb', hy, _, f0⟩ := (hm.mono hnx (Q := StrIn) fun _ _ h => h).str (k := k) (by have := HLEN.out; omega)
        have p0 : (0 : Int) ≤ (k : Int) := by omega
        have p1 : (k : Int) < (l.length : Int) := by omega
        cases hq : (x.toList == y.toList) with
        | false =>
          have HF := Lib.hid (HA.out k x y hx hy hq)
          clear hx hy
          go_wp2
          go_quiet (fail)
          go_wp2
          go_ret
          exact ⟨by rw [HF.out]; rfl, below_drewN hnx _⟩
        | true =>
          have HALL2 : Hid (∀ (j : Nat) (x y : ByteArray), j < k + 1 → l[j]? = some x → m[j]? = some y → sameStr x y = true) := fun j x' y' hj h1 h2 => by
            by_cases e : j = k
            · rw [e, hx] at h1
              rw [e, hy] at h2
              rw [← Option.some.inj h1, ← Option.some.inj h2]
              exact hq
            · exact HALL.out j x' y' (by omega) h1 h2
          clear hx hy
          go_wp2
          go_quiet (fail)
          go_wp2
          go_roundw
          case rel => exact ⟨⟨k + 1, by omega, by go_num, HALL2.out⟩, below_drewN hnx _⟩
          case measure => simp [intOf]; omega
      · obtain rfl : k = l.length := by omega
        have HF := Lib.hid (HY.out HALL.out)
        go_wp2
        go_ret
        exact ⟨by rw [HF.out]; rfl, hnx⟩
  · rw [alikes_len l m hlen]
    have hnn : (((l.length : Int) != (m.length : Int)) = true) := by simp; omega
    clear hlen
    go_enter Tryz.func45, Tryz.ntmps45
    go_wp2
    go_ret
    exact ⟨rfl, Below.refl _ _⟩

end Go.Proofs.YtogpicfofifbkaaGreatDoor.LandedT

/- What slices.EqualFunc gives of two lists, given what its function gives of each two. No condition but sizes. -/
namespace Go.Proofs.YtogpicfofifbkaaGreatDoor.LandedT
open Go.RowKit

theorem enter_sameRul (args : Array Value) (w : World) : (callFunc 85 args).run Tryz.prog w = .ok (.enter 85 args) w := by kernel_rfl

/-- Where EqualFunc stands. -/
def TwoRul (rel : Rul → Rul → Bool) (l m : List Rul) (w : World) (i : Value) (wr : World) : Prop :=
  (∃ k : Nat, k ≤ l.length ∧ i = .int .i64 k ∧ ∀ j x y, j < k → l[j]? = some x → m[j]? = some y → rel x y = true) ∧ Below w.heap.size w wr

set_option maxRecDepth 100000 in
set_option maxHeartbeats 2000000 in
theorem eqfRul (rel : Rul → Rul → Bool) (l m : List Rul) (A B : Option Addr) (c d : Nat) (w : World) (hl : SlIn w w.heap.size 3 Rul.cells (RulIn w w.heap.size) A c l) (hm : SlIn w w.heap.size 3 Rul.cells (RulIn w w.heap.size) B d m) (hn : l.length ≤ 1048576)
    (HR : ∀ x ∈ l, ∀ y ∈ m, ∀ W, Below w.heap.size w W → Calls Tryz.prog 85 #[(Rul.val) x, (Rul.val) y] W (Quietly (.bool (rel x y)) W)) :
    Calls Tryz.prog 84 #[.slice A l.length c, .slice B m.length d, .func (.func 85) #[] #[]] w (Quietly (.bool (alikes rel l m)) w) := by
  have HL := Lib.hid hl
  have HM := Lib.hid hm
  have HC := Lib.hid HR
  have eg := enter_sameRul
  clear hl hm HR
  by_cases hlen : l.length = m.length
  · have HY : Hid ((∀ (k : Nat) (x y : Rul), k < l.length → l[k]? = some x → m[k]? = some y → rel x y = true) → alikes rel l m = true) := fun h => alikes_all l m hlen h
    have HN : Hid (∀ (k : Nat) (x y : Rul), l[k]? = some x → m[k]? = some y → rel x y = false → alikes rel l m = false) := fun k x y h1 h2 h3 => alikes_at l m k x y h1 h2 h3
    generalize alikes rel l m = Z at *
    obtain ⟨n, hnl⟩ : ∃ n, n = l.length := ⟨_, rfl⟩
    have HLN := Lib.hid hlen
    have HNL := Lib.hid hnl
    rw [← hlen, ← hnl]
    have hn2 : n ≤ 1048576 := by omega
    clear hlen hnl hn
    go_enter Tryz.func84, Tryz.ntmps84
    go_wp2_with fail
    go_loopw [17] (fun i wr => TwoRul rel l m w i wr) (fun i _ => n - (intOf i).toNat)
    case atStart => exact ⟨⟨0, Nat.zero_le _, rfl, fun j x y h => absurd h (Nat.not_lt_zero _)⟩, Below.refl _ _⟩
    case round =>
      obtain ⟨⟨k, hk, rfl, hall⟩, hnx⟩ := hrel
      have HA := Lib.hid hall
      rw [← HNL.out] at hk
      clear hall
      by_cases hlt : k < n
      · obtain ⟨be, oe, re, hAe, hbe, hxe, hPe, e0, e1, e2⟩ := (HL.out.mono hnx (Q := RulIn w w.heap.size) fun _ _ h => h).rul (k := k) (by have := HNL.out; omega)
        obtain ⟨bf, of, rf, hAf, hbf, hxf, hPf, f0, f1, f2⟩ := (HM.out.mono hnx (Q := RulIn w w.heap.size) fun _ _ h => h).rul (k := k) (by have := HNL.out; have := HLN.out; omega)
        subst hAe hAf
        have hbew : be < wr.heap.size := Nat.lt_of_lt_of_le hbe hnx.size
        have hbfw : bf < wr.heap.size := Nat.lt_of_lt_of_le hbf hnx.size
        have HF := Lib.hid (fun W hW => HC.out _ (List.mem_of_getElem? hxe) _ (List.mem_of_getElem? hxf) W hW)
        have HNO := Lib.hid (HN.out k _ _ hxe hxf)
        have HS : Hid (∀ (h : rel (re) (rf) = true) j p q, j < k + 1 → l[j]? = some p → m[j]? = some q → rel p q = true) := by
          have HX := Lib.hid hxe
          have HXF := Lib.hid hxf
          clear hxe hxf
          intro h j p q hj hp hq
          rcases Nat.lt_or_ge j k with h1 | h1
          · exact HA.out j p q h1 hp hq
          · obtain rfl : j = k := by omega
            rw [HX.out] at hp
            rw [HXF.out] at hq
            have he := Option.some.inj hp
            have hf := Option.some.inj hq
            subst he
            subst hf
            exact h
        clear hxe hxf hPe hPf 
        unfold Rul.val at HF
        skip
        generalize rel (re) (rf) = T at HF HNO HS
        have hbn := below_alloc (below_alloc hnx (Nat.le_refl _) (.cells (Rul.cells (re)).toArray 50)) (Nat.le_refl _) (.cells (Rul.cells (rf)).toArray 50)
        have HBN := Lib.hid hbn
        clear hbn
        cases T
        · have HZ : Hid (Z = false) := HNO.out rfl
          clear HNO HS
          go_wp2_with fail
          refine (HF.out _ HBN.out).mono ?_
          rintro r w1 ⟨rfl, hb1⟩
          go_wp2
          go_ret
          exact ⟨by rw [HZ.out]; rfl, below_step HBN.out (Nat.le_refl _) hb1⟩
        · have HS2 := Lib.hid (HS.out rfl)
          clear HNO HS
          go_wp2_with fail
          refine (HF.out _ HBN.out).mono ?_
          rintro r w1 ⟨rfl, hb1⟩
          go_wp2
          go_roundw
          case rel => exact ⟨⟨k + 1, by rw [← HNL.out]; omega, by go_num, HS2.out⟩, below_step HBN.out (Nat.le_refl _) hb1⟩
          case measure => simp [intOf]; omega
      · obtain rfl : k = n := by omega
        have HZ : Hid (Z = true) := HY.out fun j x y hj h1 h2 => HA.out j x y (by have := HNL.out; omega) h1 h2
        go_wp2
        go_ret
        exact ⟨by rw [HZ.out]; rfl, hnx⟩
  · have HZ : Hid (alikes rel l m = false) := alikes_len l m hlen
    have hne : ((l.length : Int) != (m.length : Int)) = true := by
      rw [bne_iff_ne]
      omega
    generalize alikes rel l m = Z at *
    clear hlen
    go_enter Tryz.func84, Tryz.ntmps84
    go_wp2
    go_ret
    exact ⟨by rw [HZ.out]; rfl, Below.refl _ _⟩

end Go.Proofs.YtogpicfofifbkaaGreatDoor.LandedT
