/- Plain facts on two lists that are alike; what the document's own same gives. -/
import Derived.Test.YtogpicfofifbkaaGreatDoorTreeSame
import Derived.Test.YtogpicfofifbkaaGreatDoorTreePart
namespace Go.Proofs.YtogpicfofifbkaaGreatDoor
open Go.RowKit

section
variable {α : Type} {f : α → α → Bool}
theorem alikes_len : ∀ (l m : List α), l.length ≠ m.length → alikes f l m = false
  | [], [], h => absurd rfl h
  | [], _ :: _, _ => rfl
  | _ :: _, [], _ => rfl
  | a :: l, b :: m, h => by
    unfold alikes
    rw [alikes_len l m (fun e => h (by simp [e]))]
    simp
theorem alikes_at : ∀ (l m : List α) (k : Nat) (x y : α), l[k]? = some x → m[k]? = some y → f x y = false → alikes f l m = false
  | [], _, k, x, y, h, _, _ => by simp at h
  | a :: l, [], k, x, y, _, h, _ => by simp at h
  | a :: l, b :: m, 0, x, y, h1, h2, h => by
    have e1 : a = x := by simpa using h1
    have e2 : b = y := by simpa using h2
    unfold alikes
    rw [e1, e2, h]
    rfl
  | a :: l, b :: m, k + 1, x, y, h1, h2, h => by
    unfold alikes
    rw [alikes_at l m k x y (by simpa using h1) (by simpa using h2) h]
    simp
theorem alikes_all : ∀ (l m : List α), l.length = m.length → (∀ (k : Nat) (x y : α), k < l.length → l[k]? = some x → m[k]? = some y → f x y = true) → alikes f l m = true
  | [], [], _, _ => rfl
  | [], _ :: _, h, _ => by cases h
  | _ :: _, [], h, _ => by cases h
  | a :: l, b :: m, hl, h => by
    unfold alikes
    rw [h 0 a b (by simp) rfl rfl, alikes_all l m (by simpa using hl) (fun k x y hk h1 h2 => h (k + 1) x y (by simp; omega) (by simpa using h1) (by simpa using h2))]
    rfl
end
theorem sames_alikes : ∀ (l m : List Ex), l.length = m.length → samesEx l m = alikes sameEx l m
  | [], [], _ => by unfold samesEx; rfl
  | [], _ :: _, h => by cases h
  | _ :: _, [], h => by cases h
  | a :: l, b :: m, h => by
    unfold samesEx alikes
    rw [sames_alikes l m (by simpa using h)]

def Alikes {α : Type} (f : α → α → Bool) (l m : List α) (w : World) (i : Value) (wr : World) : Prop :=
  (∃ k : Nat, k ≤ l.length ∧ i = .int .i64 k ∧ ∀ (j : Nat) (x y : α), j < k → l[j]? = some x → m[j]? = some y → f x y = true) ∧ Below w.heap.size w wr

set_option maxRecDepth 100000 in
set_option maxHeartbeats 1000000 in
theorem refSameL_any (A B : Option Addr) (c d : Nat) (l m : List ByteArray) (w : World) (hl : SlIn w w.heap.size 1 strCells StrIn A c l) (hm : SlIn w w.heap.size 1 strCells StrIn B d m) (hn : l.length ≤ 1099511627776) :
    Calls Tryz.prog 46 #[.slice A l.length c, .slice B m.length d] w (Quietly (.bool (alikes sameStr l m)) w) := by
  by_cases hlen : l.length = m.length
  · have HA : Hid (∀ (k : Nat) (x y : ByteArray), l[k]? = some x → m[k]? = some y → (x.toList == y.toList) = false → alikes sameStr l m = false) := fun k x y h1 h2 h3 => alikes_at l m k x y h1 h2 h3
    have HY : Hid ((∀ (k : Nat) (x y : ByteArray), k < l.length → l[k]? = some x → m[k]? = some y → sameStr x y = true) → alikes sameStr l m = true) := fun h => alikes_all l m hlen h
    obtain ⟨V, hV⟩ : ∃ V, V = alikes sameStr l m := ⟨_, rfl⟩
    rw [← hV] at HA HY ⊢
    clear hV
    rw [← hlen]
    have HLEN := Lib.hid hlen
    clear hlen
    have hnn : (((l.length : Int) != (l.length : Int)) = false) := by simp
    go_enter Tryz.func46, Tryz.ntmps46
    go_wp2
    go_loopw [5] (fun i wr => Alikes sameStr l m w i wr) (fun i _ => l.length - (intOf i).toNat)
    case atStart => exact ⟨⟨0, Nat.zero_le _, rfl, fun j x y h => absurd h (by omega)⟩, Below.refl _ _⟩
    case round =>
      obtain ⟨⟨k, hk, rfl, hall⟩, hnx⟩ := hrel
      have HALL := Lib.hid hall
      clear hall
      by_cases hlt : k < l.length
      · obtain ⟨b, o, x, rfl, hb, hx, _, e0⟩ := (hl.mono hnx (Q := StrIn) fun _ _ h => h).str hlt
        obtain ⟨b', o', y, rfl, hb', hy, _, f0⟩ := (hm.mono hnx (Q := StrIn) fun _ _ h => h).str (k := k) (by have := HLEN.out; omega)
        have p0 : (0 : Int) ≤ (k : Int) := by omega
        have p1 : (k : Int) < (l.length : Int) := by omega
        cases hq : (x.toList == y.toList) with
        | false =>
          have HF := Lib.hid (HA.out k x y hx hy hq)
          clear hx hy
          go_wp2
          go_quiet (fail)
          go_wp2
          go_ret
          exact ⟨by rw [HF.out]; rfl, below_drewN hnx _⟩
        | true =>
          have HALL2 : Hid (∀ (j : Nat) (x y : ByteArray), j < k + 1 → l[j]? = some x → m[j]? = some y → sameStr x y = true) := fun j x' y' hj h1 h2 => by
            by_cases e : j = k
            · rw [e, hx] at h1
              rw [e, hy] at h2
              rw [← Option.some.inj h1, ← Option.some.inj h2]
              exact hq
            · exact HALL.out j x' y' (by omega) h1 h2
          clear hx hy
          go_wp2
          go_quiet (fail)
          go_wp2
          go_roundw
          case rel => exact ⟨⟨k + 1, by omega, by go_num, HALL2.out⟩, below_drewN hnx _⟩
          case measure => simp [intOf]; omega
      · obtain rfl : k = l.length := by omega
        have HF := Lib.hid (HY.out HALL.out)
        go_wp2
        go_ret
        exact ⟨by rw [HF.out]; rfl, hnx⟩
  · rw [alikes_len l m hlen]
    have hnn : (((l.length : Int) != (m.length : Int)) = true) := by simp; omega
    clear hlen
    go_enter Tryz.func46, Tryz.ntmps46
    go_wp2
    go_ret
    exact ⟨rfl, Below.refl _ _⟩

end Go.Proofs.YtogpicfofifbkaaGreatDoor
