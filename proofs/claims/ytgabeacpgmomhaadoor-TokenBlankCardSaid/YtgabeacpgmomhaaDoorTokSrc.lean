/- A token stands by itself: what comes behind a blank does not change it. Plain facts. -/
import Derived.Test.YtgabeacpgmomhaaDoorTokLines
namespace Go.Proofs.YtgabeacpgmomhaaDoor
open Go.RowKit

theorem run_cut (p : UInt8 → Bool) {c : UInt8} (hc : p c = false) (rest : List UInt8) : ∀ r : List UInt8, runLen p (r.take (runLen p r) ++ c :: rest) = runLen p r
  | [] => by
    show runLen p (c :: rest) = 0
    exact run_no p hc
  | a :: r => by
    by_cases h : p a = true
    · rw [run_on p h, List.take_succ_cons, List.cons_append, run_on p h, run_cut p hc rest r]
    · rw [run_no p (by simpa using h), List.take_zero, List.nil_append, run_no p hc]

theorem digits_cut (base : Nat) {c : UInt8} (hc : isHex base c = false) (rest : List UInt8) : ∀ (r : List UInt8) (n v k : Nat), digitsOf base n r = some (v, k) → digitsOf base n (r.take k ++ c :: rest) = some (v, k)
  | [], n, v, k, h => by
    have h' : (n, 0) = (v, k) := Option.some.inj h
    simp only [Prod.mk.injEq] at h'
    obtain ⟨rfl, rfl⟩ := h'
    exact digits_no hc
  | a :: r, n, v, k, h => by
    by_cases ha : isHex base a = true
    · by_cases hb : (18446744073709551615 - (hexOf a).toNat) / base < n
      · rw [digits_far ha hb] at h
        cases h
      · rw [digits_on ha hb] at h
        cases hd : digitsOf base (n * base + (hexOf a).toNat) r with
        | none => rw [hd] at h; cases h
        | some t =>
          rw [hd] at h
          have h' : (t.1, t.2 + 1) = (v, k) := Option.some.inj h
          simp only [Prod.mk.injEq] at h'
          obtain ⟨rfl, rfl⟩ := h'
          rw [List.take_succ_cons, List.cons_append, digits_on ha hb, digits_cut base hc rest r _ _ _ hd]
          rfl
    · have ha' : isHex base a = false := by simpa using ha
      rw [digits_no ha'] at h
      have h' : (n, 0) = (v, k) := Option.some.inj h
      simp only [Prod.mk.injEq] at h'
      obtain ⟨rfl, rfl⟩ := h'
      rw [List.take_zero, List.nil_append, digits_no hc]

theorem ishex_sp (base : Nat) : isHex base 32 = false := by
  have : hexOf 32 = -1 := by decide
  unfold isHex
  rw [this]
  rfl
theorem goes_sp (rest : List UInt8) : goesOn (32 :: rest) = false := by
  show wordB 32 = false
  decide

theorem num_cut (rest r : List UInt8) (v k : Nat) (h : numL r = some (v, k)) : numL (r.take k ++ 32 :: rest) = some (v, k) := by
  have hk0 := num_pos h
  have hkl := num_len h
  unfold numL at h
  dsimp only at h
  cases hx : hexAhead r
  · rw [hx] at h
    simp only [Bool.false_eq_true, if_false, List.drop_zero, Nat.zero_add] at h
    cases hd : digitsOf 10 0 r with
    | none => rw [hd] at h; cases h
    | some u =>
      obtain ⟨v', k'⟩ := u
      rw [hd] at h
      dsimp only at h
      split at h
      · cases h
      · have h' : (v', k') = (v, k) := Option.some.inj h
        simp only [Prod.mk.injEq] at h'
        obtain ⟨rfl, rfl⟩ := h'
        have hx2 : hexAhead (r.take k' ++ 32 :: rest) = false := by
          match r, k', hk0, hkl, hx with
          | a :: u, 1, _, _, _ => simp [hexAhead]
          | a :: b :: u, k + 2, _, _, hx => simpa [hexAhead] using hx
        unfold numL
        dsimp only
        rw [hx2]
        simp only [Bool.false_eq_true, if_false, List.drop_zero, Nat.zero_add]
        rw [digits_cut 10 (ishex_sp 10) rest r _ _ _ hd]
        dsimp only
        have hlen : (r.take k').length = k' := by rw [List.length_take]; simp only at hkl; omega
        have hdr : (r.take k' ++ 32 :: rest).drop k' = 32 :: rest := by
          conv => lhs; rw [← hlen]
          simp
        rw [hdr, goes_sp, if_neg (by simp; simp only at hk0; omega)]
  · rw [hx] at h
    simp only [if_true] at h
    cases hd : digitsOf 16 0 (r.drop 2) with
    | none => rw [hd] at h; cases h
    | some u =>
      obtain ⟨v', k'⟩ := u
      rw [hd] at h
      dsimp only at h
      split at h
      · cases h
      · rename_i hc
        have h' : (v', 2 + k') = (v, k) := Option.some.inj h
        simp only [Prod.mk.injEq] at h'
        obtain ⟨rfl, rfl⟩ := h'
        obtain ⟨a, b, u, rfl⟩ : ∃ a b u, r = a :: b :: u := by
          match r, hx with
          | a :: b :: u, _ => exact ⟨a, b, u, rfl⟩
        have e : (a :: b :: u).take (2 + k') = a :: b :: u.take k' := by
          rw [Nat.add_comm]
          rfl
        have hx2 : hexAhead (a :: b :: (u.take k' ++ 32 :: rest)) = true := hx
        rw [e, List.cons_append, List.cons_append]
        unfold numL
        dsimp only
        rw [hx2]
        simp only [if_true]
        have hd' : digitsOf 16 0 u = some (v', k') := hd
        rw [show (a :: b :: (u.take k' ++ 32 :: rest)).drop 2 = u.take k' ++ 32 :: rest from rfl, digits_cut 16 (ishex_sp 16) rest u _ _ _ hd']
        dsimp only
        have hlen : (u.take k').length = k' := by
          rw [List.length_take]
          simp only [List.length_cons] at hkl
          omega
        have hdr : (a :: b :: (u.take k' ++ 32 :: rest)).drop (2 + k') = 32 :: rest := by
          rw [Nat.add_comm]
          show (u.take k' ++ 32 :: rest).drop k' = _
          conv => lhs; rw [← hlen]
          simp
        rw [hdr, goes_sp, if_neg (by
          intro hq
          rcases hq with hq | hq
          · exact hc (Or.inl hq)
          · cases hq)]

end Go.Proofs.YtgabeacpgmomhaaDoor
