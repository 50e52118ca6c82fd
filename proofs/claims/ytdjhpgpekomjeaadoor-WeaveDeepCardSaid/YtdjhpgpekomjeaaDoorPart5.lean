/- Texts of mine put together (a claim has at most so many files): TokSplit, WeaveRef. -/
import Derived.Test.YtdjhpgpekomjeaaDoorTokLex
import Derived.StillTailTactics
import Derived.Deep.DeepCutAuto
import Derived.OneCell
import Derived.Test.YtdjhpgpekomjeaaDoorWeavePlain
import Derived.Test.YtdjhpgpekomjeaaDoorPart3
import Derived.BigQuiet
/- What the document's own Split gives. -/
namespace Go.Proofs.YtdjhpgpekomjeaaDoor
open Go.RowKit

theorem faultSize : (Tryd.prog.info? 30).map (·.size) = some 3 := by kernel_rfl
theorem Tryd.infoTok : (Tryd.prog.info? 35).map (fun i => (i.zero, i.size, i.bytes)) = some (some (.agg (tokCells 0 ⟨#[]⟩ 0 0 0)), 4, 48) := by kernel_rfl
theorem cut_at (s : ByteArray) (k : Nat) (h : k ≤ s.size) : posAt s.data.toList (k : Int) = posFrom (1, 1) (s.data.toList.take k) := by
  unfold posAt cutTo
  rw [if_neg (by omega), if_neg (by rw [Array.length_toList]; have : s.data.size = s.size := rfl; omega)]
  rfl

/-- With the error's number. -/
def told : Except (Nat × Nat) (List TokV) → Except (Int × Nat × Nat) (List TokV)
  | .error p => .error (3, p)
  | .ok l => .ok l

/-- Where the loop stands. -/
def Splitting (s : ByteArray) (file : Int) (S : Except (Nat × Nat) (List TokV)) (w0 : World) (v i : Value) (wr : World) : Prop :=
  ∃ (k f : Nat) (acc : List TokV), k ≤ s.size ∧ s.size - k ≤ f ∧ i = .int .i64 k ∧ acc.length ≤ k ∧ wr.ownsRow w0.heap.size 35 4 v acc.length (toksV file acc) ∧ Below w0.heap.size w0 wr ∧
    Hid (S = (splitL f (posFrom (1, 1) (s.data.toList.take k)) (s.data.toList.drop k)).map (acc ++ ·))

theorem fl_one : fl 1 = 4607182418800017408 := by decide +kernel

end Go.Proofs.YtdjhpgpekomjeaaDoor

/- What the document's own weave gives: the tokens of a file with what it includes. -/
namespace Go.Proofs.YtdjhpgpekomjeaaDoor
open Go.RowKit

theorem Tryd.infoIntW : (Tryd.prog.info? 3).map (fun i => (i.zero, i.size, i.bytes)) = some (some (.int .i64 0), 1, 8) := by kernel_rfl

def natsV (l : List Nat) : List Value := l.map fun (n : Nat) => Value.int .i64 (n : Int)
theorem natsV_len (l : List Nat) : (natsV l).length = l.length := by simp [natsV]
theorem natsV_one (l : List Nat) : ∀ u ∈ natsV l, u.oneCell' = true := by
  intro u hu
  obtain ⟨x, _, rfl⟩ := List.mem_map.1 hu
  rfl

theorem ftoksV_cells (l : List FTok) : ∀ u ∈ ftoksV l, u.oneCell' = true := by
  intro u hu
  obtain ⟨t, _, ht⟩ := List.mem_flatMap.1 hu
  simp only [ftokV, tokVals, List.mem_cons, List.not_mem_nil, or_false] at ht
  rcases ht with rfl | rfl | rfl | rfl <;> rfl

/-- Its block is another one. -/
def Clear (g : Nat) (A : Option Addr) : Prop := ∀ a, A = some a → a.block ≠ g

theorem lies_clear {w w' : World} {B g size n : Nat} {A : Option Addr} {xs : List Value} (h : Lies w B size A n xs) (hA : Clear g A) (hB : B ≤ w.heap.size) (ho : w.grownBy w' (some g)) : Lies w' B size A n xs := by
  refine ⟨h.1, fun hn => ?_⟩
  obtain ⟨b, o, rfl, hb, hc⟩ := h.2 hn
  have hbg : b ≠ g := hA _ rfl
  refine ⟨b, o, rfl, hb, fun j u hu => ?_⟩
  have := ho.block b (by omega) (fun e => hbg (Option.some.inj e))
  have h2 := hc j u hu
  unfold World.cell? at h2 ⊢
  rw [this]
  exact h2
theorem own_only {w w' : World} {base g size n : Nat} {e : TypeId} {v : Value} {xs : List Value} (h : w.ownsRow base e size v n xs) (hg : g < base) (ho : w.grownBy w' (some g)) : w'.ownsRow base e size v n xs := by
  obtain ⟨hl, h0 | ⟨k, cap, cur, hv, hb, hh, r⟩⟩ := h
  · exact ⟨hl, .inl h0⟩
  · have hk : k < w.heap.size := by
      rcases Nat.lt_or_ge k w.heap.size with h1 | h1
      · exact h1
      · rw [Array.getElem?_eq_none h1] at hh
        cases hh
    exact ⟨hl, .inr ⟨k, cap, cur, hv, hb, by rw [ho.block k hk (fun e => by have := Option.some.inj e; omega)]; exact hh, r⟩⟩
theorem only_step {a w w' : World} {g : Nat} (h : a.grownBy w (some g)) (hb : Below w.heap.size w w') : a.grownBy w' (some g) := only_trans h (only_below hb g)
theorem only_grown {a w w' : World} {base g size n : Nat} {e : TypeId} {v : Value} {xs : List Value} (h : a.grownBy w (some g)) (hown : w.ownsRow base e size v n xs) (hb : a.heap.size ≤ base) (hg : w.grownBy w' v.ownBlock) : a.grownBy w' (some g) :=
  ⟨hg.os.trans h.os, hg.tape.trans h.tape, hg.output.trans h.output, Nat.le_trans h.size hg.size, fun i hi hn => by
    rw [hg.block i (Nat.lt_of_lt_of_le hi h.size) (fun e => by have := (hown.lt i e.symm).1; omega)]
    exact h.block i hi hn⟩

theorem only_new_set {w W : World} {g k i : Nat} {u : Value} (h : w.grownBy W (some g)) (hk : w.heap.size ≤ k) : w.grownBy (W.setCell ⟨k, i, none⟩ u) (some g) :=
  ⟨h.os, h.tape, h.output, Nat.le_trans h.size (by simp), fun j hj hn => by
    rw [Below.heap_setCell _ _ _ _ (show j ≠ (⟨k, i, none⟩ : Addr).block from by show j ≠ k; omega)]
    exact h.block j hj hn⟩

/-- A file whose texts are so short. -/
def FileOk (f : FileV) : Prop := f.1.size ≤ 1048576 ∧ f.2.size ≤ 1048576

theorem split_num {s : List UInt8} {e : Int × Nat × Nat} (h : splitOf s = .error e) : e.1 = 3 ∨ e.1 = 9 := by
  unfold splitOf at h
  split at h
  · cases h; exact .inr rfl
  · cases hs : splitL s.length (1, 1) s with
    | error p => rw [hs] at h; cases h; exact .inl rfl
    | ok m => rw [hs] at h; cases h

theorem tok_cells (file : Int) : ∀ (l : List TokV) (k : Nat) (t : TokV), l[k]? = some t →
    (toksV file l)[k * 4]? = some (.int .i64 t.kind) ∧ (toksV file l)[k * 4 + 1]? = some (.string (strOf t.text)) ∧ (toksV file l)[k * 4 + 2]? = some (.int .i64 file) ∧ (toksV file l)[k * 4 + 3]? = some (.complex .f64 (fl t.place.1) (fl t.place.2))
  | [], k, t, h => by simp at h
  | x :: r, 0, t, h => by
    obtain rfl : x = t := by simpa using h
    exact ⟨rfl, rfl, rfl, rfl⟩
  | x :: r, k + 1, t, h => by
    have := tok_cells file r k t (by simpa using h)
    have e : ∀ j, (toksV file (x :: r))[(k + 1) * 4 + j]? = (toksV file r)[k * 4 + j]? := fun j => by
      rw [show (k + 1) * 4 + j = 4 + (k * 4 + j) from by omega]
      show (tokVals file x ++ toksV file r)[4 + (k * 4 + j)]? = _
      rw [List.getElem?_append_right (by simp [tokVals])]
      simp [tokVals]
    exact ⟨(e 0).trans this.1, (e 1).trans this.2.1, (e 2).trans this.2.2.1, (e 3).trans this.2.2.2⟩

/-- What the tokens of files together are, or what is wrong. -/
def WeaveRes (R : Except FaultV (List FTok)) (w : World) : Ending → World → Prop := fun r w' =>
  ((∃ (e : FaultV) (A : Option Addr) (c : Nat), R = .error e ∧ r = .returned (.tuple #[.slice A 0 c, .agg (faultCells e.1 e.2.1 (fl e.2.2.1) (fl e.2.2.2))])) ∨
   (∃ (l : List FTok) (A : Option Addr) (c : Nat), R = .ok l ∧ r = .returned (.tuple #[.slice A l.length c, .agg (faultCells 0 0 0 0)]) ∧ l.length ≤ c ∧ Lies w' w'.heap.size 4 A l.length (ftoksV l))) ∧ Below w.heap.size w w'

end Go.Proofs.YtdjhpgpekomjeaaDoor
