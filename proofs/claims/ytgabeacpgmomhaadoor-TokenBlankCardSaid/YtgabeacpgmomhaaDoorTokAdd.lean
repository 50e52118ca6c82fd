/- Plain facts for TokenJoin: a column as it was, a line further down; where the tokens of a text stand; the first fault's number. -/
import Derived.Test.YtgabeacpgmomhaaDoorFloatSub
import Derived.Test.YtgabeacpgmomhaaDoorTokLines
import Derived.Test.YtgabeacpgmomhaaDoorTokFace
import Derived.Laws.ComplexArith
namespace Go.Proofs.YtgabeacpgmomhaaDoor
open Go.RowKit

theorem read_none : Ieee.double.read 0 = .number false 0 (-1074) := by decide +kernel

theorem add_fl0 (x : Nat) (hx : 1 ≤ x) (h : x < 9007199254740992) : Ieee.double.add (fl (x : Int)) 0 = some (fl (x : Int)) := by
  obtain ⟨_, _, hl⟩ := kept_bd x hx h
  unfold Ieee.Format.add
  rw [fl_read x hx h, read_none]
  unfold Ieee.Datum.sum
  simp only
  obtain ⟨B, hB⟩ : ∃ B : Nat, B = 1074 := ⟨_, rfl⟩
  rw [show min ((x.log2 : Int) - 52) (-1074) = -(B : Int) from by omega]
  have k : Ieee.signed false (keptOf x) ((x.log2 : Int) - 52 - -(B : Int)).toNat = ((x * 2 ^ B : Nat) : Int) := by
    unfold Ieee.signed keptOf
    simp only [Bool.false_eq_true, if_false]
    rw [Nat.shiftLeft_eq, Nat.mul_assoc, ← Nat.pow_add, show 52 - x.log2 + ((x.log2 : Int) - 52 - -(B : Int)).toNat = B from by omega]
  have k0 : Ieee.signed false 0 ((-1074 : Int) - -(B : Int)).toNat = 0 := by
    unfold Ieee.signed
    simp
  rw [k, k0]
  have hp : 0 < 2 ^ B := Nat.pow_pos (by decide)
  have hn := near_up x B hx h
  obtain ⟨P, hP⟩ : ∃ P, P = 2 ^ B := ⟨_, rfl⟩
  rw [← hP] at hp hn ⊢
  have hpos : 0 < x * P := Nat.mul_pos (by omega) hp
  rw [Int.add_zero, if_neg (by omega), show decide (((x * P : Nat) : Int) < 0) = false from decide_eq_false (by omega), Int.natAbs_natCast, Option.map_some, hn]

/-- A spot so many lines further down. -/
theorem add_spot (T : TypeId) (a b L : Nat) (W : World) (ha : 1 ≤ a) (hb : 1 ≤ b) (hL : 1 ≤ L) (ha2 : a ≤ 1000000) (hb2 : b ≤ 1000000) (hL2 : L ≤ 1000000) :
    (binOp .add T (.complex .f64 (fl a) (fl b)) (.complex .f64 (fl L) 0)).run Tryd.prog W = .ok (.complex .f64 (fl ((L + a : Nat) : Int)) (fl b)) W := by
  refine run_complex_sum W .add (Or.inl rfl) T .f64 _ _ _ _ _ _ ?_
  unfold cSumBits floatBits
  show ((Ieee.double.add (fl a) (fl L)).bind fun re => (Ieee.double.add (fl b) 0).bind fun im => some (re, im)) = _
  rw [add_fl a L ha hL (by omega), add_fl0 b hb (by omega), Nat.add_comm a L]
  rfl

theorem pos_ge : ∀ (l : List UInt8) (p : Nat × Nat), 1 ≤ p.1 → 1 ≤ p.2 → 1 ≤ (posFrom p l).1 ∧ 1 ≤ (posFrom p l).2
  | [], p, h1, h2 => ⟨h1, h2⟩
  | b :: l, p, h1, h2 => by
    show 1 ≤ (posFrom (stepPos p b) l).1 ∧ 1 ≤ (posFrom (stepPos p b) l).2
    unfold stepPos
    split
    · exact pos_ge l _ (by simp only; omega) (by simp)
    · exact pos_ge l _ h1 (by simp only; omega)

theorem splitL_place : ∀ (f : Nat) (p : Nat × Nat) (r : List UInt8) (l : List TokV), splitL f p r = .ok l → ∀ t ∈ l, ∃ u : List UInt8, u.length ≤ r.length ∧ t.place = posFrom p u
  | 0, p, r, l, h, t, ht => by
    have : [] = l := by injection h
    subst this
    cases ht
  | f + 1, p, [], l, h, t, ht => by
    have : [] = l := by injection h
    subst this
    cases ht
  | f + 1, p, c :: u, l, h, t, ht => by
    generalize hr : c :: u = r at *
    have hne : r ≠ [] := by rw [← hr]; simp
    cases hs : skipL r with
    | none => rw [split_far hne hs] at h; cases h
    | some n =>
      have hnl := skip_len hs
      by_cases hn : 0 < n
      · rw [split_skip hne hs hn] at h
        obtain ⟨v, hv, he⟩ := splitL_place f _ _ l h t ht
        have hd : (r.drop n).length = r.length - n := List.length_drop ..
        refine ⟨r.take n ++ v, ?_, by rw [he, pos_app]⟩
        rw [List.length_append]
        have := List.length_take_le n r
        omega
      · obtain rfl : n = 0 := by omega
        cases ho : oneL r with
        | none => rw [split_bad hne hs ho] at h; cases h
        | some v =>
          have hol := one_len ho
          rw [split_tok hne hs ho] at h
          cases hm : splitL f (posFrom p (r.take v.2.2)) (r.drop v.2.2) with
          | error e => rw [hm] at h; cases h
          | ok m =>
            rw [hm] at h
            have hl : (⟨v.1, v.2.1, p⟩ : TokV) :: m = l := by injection h
            subst hl
            rcases List.mem_cons.1 ht with rfl | ht
            · exact ⟨[], Nat.zero_le _, rfl⟩
            · obtain ⟨x, hx, he⟩ := splitL_place f _ _ m hm t ht
              have hd : (r.drop v.2.2).length = r.length - v.2.2 := List.length_drop ..
              refine ⟨r.take v.2.2 ++ x, ?_, by rw [he, pos_app]⟩
              rw [List.length_append]
              have := List.length_take_le v.2.2 r
              omega

theorem splitOf_place {s : List UInt8} {l : List TokV} (h : splitOf s = .ok l) (hs : s.length ≤ 500) {t : TokV} (ht : t ∈ l) : (1 ≤ t.place.1 ∧ t.place.1 ≤ 501) ∧ (1 ≤ t.place.2 ∧ t.place.2 ≤ 501) := by
  obtain ⟨u, hu, he⟩ := splitL_place _ _ _ _ (splitOf_ok h).2 t ht
  have h1 := pos_ge u (1, 1) (Nat.le_refl _) (Nat.le_refl _)
  have h2 := pos_le u (1, 1)
  rw [← he] at h1 h2
  simp only [Nat.max_self] at h2
  exact ⟨⟨h1.1, by omega⟩, h1.2, by omega⟩
theorem splitOf_few {s : List UInt8} {l : List TokV} (h : splitOf s = .ok l) : l.length ≤ s.length := splitL_len _ _ _ _ (splitOf_ok h).2
theorem splitOf_err {s : List UInt8} {e : Int} {p : Nat × Nat} (h : splitOf s = .error (e, p)) (hs : s.length ≤ 500) : e = 3 := by
  unfold splitOf at h
  rw [if_neg (by omega)] at h
  cases hv : splitL s.length (1, 1) s with
  | error q =>
    rw [hv] at h
    have h' : ((3 : Int), q) = (e, p) := by injection h
    exact (Prod.mk.inj h').1.symm
  | ok l => rw [hv] at h; cases h

/-- What such a call gives, told or not. -/
theorem res_any {file : Int} {X : Except (Int × Nat × Nat) (List TokV)} {w : World} {r : Ending} {w' : World} (h : SplitRes file X w r w') :
    ∃ (A : Option Addr) (n c : Nat) (e f : Int) (a b : Nat), r = .returned (.tuple #[.slice A n c, .agg (faultCells e f a b)]) ∧ Below w.heap.size w w' := by
  cases X with
  | error ep =>
    obtain ⟨e, p⟩ := ep
    obtain ⟨A, c, h1, h2⟩ := res_bad h
    exact ⟨A, 0, c, e, file, fl p.1, fl p.2, h1, h2⟩
  | ok l =>
    obtain ⟨A, c, h1, _, _, h2⟩ := res_ok h
    exact ⟨A, l.length, c, 0, 0, 0, 0, h1, h2⟩

end Go.Proofs.YtgabeacpgmomhaaDoor
