/- No include in a text, none among its tokens; what files of one include, or of the same one again and again, have together. Plain facts. -/
import Derived.Test.YtdjhpgpekomjeaaGreatDoorPart6
import Derived.Test.YtdjhpgpekomjeaaGreatDoorPart17
namespace Go.Proofs.YtdjhpgpekomjeaaGreatDoor
open Go.RowKit

theorem inc_drop : ∀ (k : Nat) (s : List UInt8), incCount (s.drop k) ≤ incCount s
  | 0, s => Nat.le_refl _
  | k + 1, [] => Nat.le_refl _
  | k + 1, c :: r => by
    have := inc_drop k r
    rw [List.drop_succ_cons, incCount]
    omega
theorem one_inc {r : List UInt8} {v : Int × List UInt8 × Nat} (h : oneL r = some v) (hk : v.1 = 5) (ht : v.2.1 = includeT) : 1 ≤ incCount r := by
  cases r with
  | nil => simp [oneL] at h
  | cons c t =>
    rw [oneL] at h
    split at h
    · rw [← Option.some.inj h] at hk; simp at hk
    split at h
    · obtain ⟨x, _, hx⟩ := Option.map_eq_some_iff.1 h
      rw [← hx] at hk
      simp at hk
    split at h
    · split at h
      · rw [← Option.some.inj h] at hk; simp at hk
      · cases h
    split at h
    · split at h
      · rename_i hb
        have hb := (Bool.and_eq_true_iff.1 hb).1
        have : ((c :: t).take 8 == includeT) = true := hb
        rw [incCount, this]
        simp
      · split at h
        · rw [← Option.some.inj h] at ht
          simp [includeT] at ht
        · cases h
    split at h
    · cases h
    · rw [← Option.some.inj h] at hk; simp at hk
theorem splitL_inc : ∀ (f : Nat) (p : Nat × Nat) (r : List UInt8) (l : List TokV), splitL f p r = .ok l → ∀ u ∈ l, isInc u = true → 1 ≤ incCount r
  | 0, p, r, l, h, u, hu, _ => by simp [splitL] at h; rw [h] at hu; cases hu
  | f + 1, p, [], l, h, u, hu, _ => by simp [splitL] at h; rw [h] at hu; cases hu
  | f + 1, p, c :: t, l, h, u, hu, hi => by
    rw [splitL] at h
    cases hs : skipL (c :: t) with
    | none => rw [hs] at h; cases h
    | some n =>
      rw [hs] at h
      dsimp only at h
      split at h
      · exact Nat.le_trans (splitL_inc f _ _ _ h u hu hi) (inc_drop _ _)
      · cases ho : oneL (c :: t) with
        | none => rw [ho] at h; cases h
        | some v =>
          rw [ho] at h
          dsimp only at h
          cases hr : splitL f (posFrom p ((c :: t).take v.2.2)) ((c :: t).drop v.2.2) with
          | error e => rw [hr] at h; cases h
          | ok m =>
            rw [hr] at h
            have hl : ⟨v.1, v.2.1, p⟩ :: m = l := Except.ok.inj h
            rw [← hl] at hu
            rcases List.mem_cons.1 hu with rfl | hu
            · obtain ⟨h1, h2⟩ := Bool.and_eq_true_iff.1 hi
              exact one_inc ho (eq_of_beq h2) (eq_of_beq h1)
            · exact Nat.le_trans (splitL_inc f _ _ _ hr u hu hi) (inc_drop _ _)
theorem split_inc {s : List UInt8} {l : List TokV} (h : splitOf s = .ok l) (h0 : incCount s = 0) : ∀ u ∈ l, isInc u = false := by
  intro u hu
  cases hi : isInc u
  · rfl
  · have := splitL_inc _ _ _ _ (splitOf_ok h).2 u hu hi
    omega
theorem split_err {s : List UInt8} {e : Int × Nat × Nat} (h : splitOf s = .error e) : e.1 ≠ 0 := by
  unfold splitOf at h
  split at h
  · injection h with h
    rw [← h]
    decide
  · split at h
    · injection h with h
      rw [← h]
      simp
    · cases h

/-- What a call of the document's Split gives, when it is told. -/
theorem sres_ok {file : Int} {l : List TokV} {w : World} {r : Ending} {w' : World} (h : SplitRes file (.ok l) w r w') :
    ∃ (A : Option Addr) (c : Nat), r = .returned (.tuple #[.slice A l.length c, .agg (faultCells 0 0 0 0)]) ∧ l.length ≤ c ∧ Lies w' w'.heap.size 4 A l.length (toksV file l) ∧ Below w.heap.size w w' := by
  obtain ⟨h, hb⟩ := h
  rcases h with ⟨e, p, A, c, h1, _⟩ | ⟨m, A, c, h1, h2, h3, h4⟩
  · cases h1
  · have : l = m := by injection h1
    subst this
    exact ⟨A, c, h2, h3, h4, hb⟩
/-- And whether it is told or not. -/
theorem sres_any {file : Int} {X : Except (Int × Nat × Nat) (List TokV)} {w : World} {r : Ending} {w' : World} (h : SplitRes file X w r w') :
    ∃ (A : Option Addr) (n c : Nat) (e fi : Int) (a b : Nat), r = .returned (.tuple #[.slice A n c, .agg (faultCells e fi a b)]) ∧ Below w.heap.size w w' ∧ (∀ x, X = .error x → e = x.1) := by
  obtain ⟨h, hb⟩ := h
  rcases h with ⟨e', p', A, c, h1, h2⟩ | ⟨m, A, c, h1, h2, h3, h4⟩
  · refine ⟨A, 0, c, e', file, fl p'.1, fl p'.2, h2, hb, fun x hx => ?_⟩
    rw [hx] at h1
    injection h1 with h1
    rw [h1]
  · refine ⟨A, _, c, 0, 0, 0, 0, h2, hb, fun x hx => ?_⟩
    rw [hx] at h1
    cases h1

/-- Tokens that are no include are taken as they are. -/
theorem toks_run (fs : List FileV) (rec : Nat → List Nat → Nat → WeaveR) (path : List UInt8) (file : Nat) (opened : List Nat) (r : List TokV) : ∀ (l : List TokV), (∀ u ∈ l, isInc u = false) → ∀ (acc : List FTok) (n : Nat),
    weaveToks fs rec path file opened (l ++ r) acc n = weaveToks fs rec path file opened r (acc ++ l.map fun t => ((file : Int), t)) n
  | [], _, acc, n => by simp
  | t :: l, h, acc, n => by
    rw [List.cons_append, toks_plain _ _ _ _ _ _ _ _ _ (h t (by simp)), toks_run fs rec path file opened r l (fun u hu => h u (by simp [hu]))]
    simp
theorem toks_all (fs : List FileV) (rec : Nat → List Nat → Nat → WeaveR) (path : List UInt8) (file : Nat) (opened : List Nat) (l : List TokV) (h : ∀ u ∈ l, isInc u = false) (acc : List FTok) (n : Nat) :
    weaveToks fs rec path file opened l acc n = (.ok (acc ++ l.map fun t => ((file : Int), t)), n) := by
  have := toks_run fs rec path file opened [] l h acc n
  rw [List.append_nil] at this
  rw [this]
  cases hm : (acc ++ l.map fun t => ((file : Int), t)) <;> rfl
theorem file_all (fs : List FileV) (rec : Nat → List Nat → Nat → WeaveR) (file : Nat) (opened : List Nat) (f : FileV) (l : List TokV) (hf : fs[file]? = some f) (hs : splitOf f.2.data.toList = .ok l) (h : ∀ u ∈ l, isInc u = false) (n : Nat) :
    weaveFile fs rec file opened n = (.ok (l.map fun t => ((file : Int), t)), n) := by
  unfold weaveFile
  rw [hf]
  dsimp only
  rw [hs]
  dsimp only
  rw [toks_all _ _ _ _ _ _ h]
  rfl
/-- An include of the second of the files, in the first. -/
theorem inc_second (fs : List FileV) (path nm : List UInt8) (g : FileV) (y : List TokV) (t u : TokV) (n : Nat) (hu : u.kind = 4) (hj : joinPath path u.text = (nm, true)) (hf : fileOf fs nm = (1, true)) (hg : fs[1]? = some g) (hs : splitOf g.2.data.toList = .ok y) (hy : ∀ v ∈ y, isInc v = false) (hn : n < 1000) :
    incStep fs (weaveL fs 6) path 0 [0] t u n = (.ok (y.map fun t => ((1 : Int), t)), n + 1) := by
  unfold incStep
  rw [hj, if_neg (by simp [hu]), hf, if_neg (by simp), if_neg (by decide), if_neg (by decide), if_neg (by omega)]
  have := file_all fs (weaveL fs 5) 1 ([0] ++ [1]) g y hg hs hy (n + 1)
  exact this
theorem weave_first (fs : List FileV) (root : List UInt8) (f : FileV) (T : List TokV) (hr : fileOf fs root = (0, true)) (hf : fs[0]? = some f) (hs : splitOf f.2.data.toList = .ok T) :
    weaveOf fs root = (weaveToks fs (weaveL fs 6) f.1.data.toList 0 [0] T [] 0).1 := by
  unfold weaveOf
  rw [hr, if_pos rfl]
  show (weaveFile fs (weaveL fs 6) 0 [0] 0).1 = _
  unfold weaveFile
  rw [hf]
  dsimp only
  rw [hs]

/-! ### An include in its place -/
def inlineText (a c : ByteArray) : ByteArray := a ++ ⟨#[10, 35, 105, 110, 99, 108, 117, 100, 101, 32, 34, 110, 34, 10]⟩ ++ c
theorem inline_inc : splitOf [35, 105, 110, 99, 108, 117, 100, 101, 32, 34, 110, 34] = .ok [⟨5, includeT, (1, 1)⟩, ⟨4, [110], (1, 10)⟩] := by kernel_rfl
theorem map_shift_inc (k : Nat) (l : List TokV) (h : ∀ u ∈ l, isInc u = false) : ∀ u ∈ l.map (shiftT k), isInc u = false := by
  intro u hu
  obtain ⟨v, hv, rfl⟩ := List.mem_map.1 hu
  exact h v hv
theorem weave_inline (a b c : ByteArray) (x y z : List TokV) (ha : splitOf a.data.toList = .ok x) (hb : splitOf b.data.toList = .ok y) (hc : splitOf c.data.toList = .ok z) (hx : ∀ u ∈ x, isInc u = false) (hy : ∀ u ∈ y, isInc u = false) (hz : ∀ u ∈ z, isInc u = false) (hl : a.size + c.size ≤ 10000) :
    ∃ k, weaveOf [(⟨#[109]⟩, inlineText a c), (⟨#[110]⟩, b)] [109] = .ok (x.map (fun t => ((0 : Int), t)) ++ (y.map (fun t => ((1 : Int), t)) ++ (z.map (shiftT k)).map fun t => ((0 : Int), t))) := by
  have sa : a.data.toList.length = a.size := by simp
  have sc : c.data.toList.length = c.size := by simp
  have hi := splitOf_join inline_inc hc (by simp; omega)
  have hj := splitOf_join ha hi (by simp; omega)
  have ht : (inlineText a c).data.toList = a.data.toList ++ 10 :: ([35, 105, 110, 99, 108, 117, 100, 101, 32, 34, 110, 34] ++ 10 :: c.data.toList) := by
    unfold inlineText
    simp
  rw [← ht] at hj
  obtain ⟨p, hp⟩ : ∃ p, p = (posFrom (1, 1) a.data.toList).1 := ⟨_, rfl⟩
  obtain ⟨q, hq⟩ : ∃ q, q = (posFrom (1, 1) [35, 105, 110, 99, 108, 117, 100, 101, 32, 34, 110, 34]).1 := ⟨_, rfl⟩
  rw [← hp, ← hq] at hj
  refine ⟨p + q, ?_⟩
  rw [weave_first _ [109] (⟨#[109]⟩, inlineText a c) _ rfl rfl hj, toks_run _ _ _ _ _ _ _ hx, List.map_append]
  show (weaveToks _ _ _ _ _ (shiftT p ⟨5, includeT, (1, 1)⟩ :: shiftT p ⟨4, [110], (1, 10)⟩ :: (z.map (shiftT q)).map (shiftT p)) _ _).1 = _
  rw [toks_inc _ _ _ _ _ _ _ _ _ _ rfl, inc_second _ _ [110] (⟨#[110]⟩, b) y _ _ _ rfl rfl rfl rfl hb hy (by decide)]
  dsimp only [afterInc]
  rw [toks_all _ _ _ _ _ _ (map_shift_inc _ _ (map_shift_inc _ _ hz))]
  have : (z.map (shiftT q)).map (shiftT p) = z.map (shiftT (p + q)) := by
    rw [List.map_map]
    refine List.map_congr_left fun t _ => ?_
    show (⟨t.kind, t.text, (p + (q + t.place.1), t.place.2)⟩ : TokV) = ⟨t.kind, t.text, (p + q + t.place.1, t.place.2)⟩
    rw [Nat.add_assoc]
  rw [this]
  simp

/-! ### The same file, again and again -/
def againLine : ByteArray := ⟨#[35, 105, 110, 99, 108, 117, 100, 101, 32, 34, 46, 47, 120, 47, 46, 46, 47, 98, 34, 32, 47, 47, 32, 97, 103, 97, 105, 110, 10]⟩
def againText : Nat → ByteArray
  | 0 => ⟨#[]⟩
  | n + 1 => againText n ++ againLine
theorem again_size : ∀ n, (againText n).size = n * 29
  | 0 => rfl
  | n + 1 => by
    rw [againText, ByteArray.size_append, again_size n]
    show n * 29 + 29 = _
    omega
def twoT (i : Nat) : List TokV := [⟨5, includeT, (i + 1, 1)⟩, ⟨4, [46, 47, 120, 47, 46, 46, 47, 98], (i + 1, 10)⟩]
def againB (n : Nat) : Bool := match splitOf (againText n).data.toList with
  | .ok l => decide (l = (List.range n).flatMap twoT)
  | .error _ => false
theorem again_check : ((List.range 21).all againB) = true := by kernel_rfl
theorem again_split (n : Nat) (h : n ≤ 20) : splitOf (againText n).data.toList = .ok ((List.range n).flatMap twoT) := by
  have := List.all_eq_true.1 again_check n (List.mem_range.2 (by omega))
  unfold againB at this
  split at this
  · rename_i l hl
    rw [hl, of_decide_eq_true this]
  · cases this
theorem again_join : joinPath [97] [46, 47, 120, 47, 46, 46, 47, 98] = ([98], true) := by kernel_rfl
theorem toks_again (t s : ByteArray) (y : List TokV) (hs : splitOf s.data.toList = .ok y) (hy : ∀ v ∈ y, isInc v = false) : ∀ (I : List Nat) (acc : List FTok) (n : Nat), n + I.length ≤ 1000 →
    weaveToks [(⟨#[97]⟩, t), (⟨#[98]⟩, s)] (weaveL [(⟨#[97]⟩, t), (⟨#[98]⟩, s)] 6) [97] 0 [0] (I.flatMap twoT) acc n = (.ok (acc ++ (List.replicate I.length (y.map fun t => ((1 : Int), t))).flatten), n + I.length)
  | [], acc, n, _ => by simp [weaveToks]
  | i :: I, acc, n, h => by
    rw [List.length_cons] at h
    rw [List.flatMap_cons]
    show weaveToks _ _ _ _ _ (⟨5, includeT, (i + 1, 1)⟩ :: ⟨4, [46, 47, 120, 47, 46, 46, 47, 98], (i + 1, 10)⟩ :: I.flatMap twoT) _ _ = _
    rw [toks_inc _ _ _ _ _ _ _ _ _ _ rfl, inc_second _ _ [98] (⟨#[98]⟩, s) y _ _ _ rfl again_join rfl rfl hs hy (by omega)]
    dsimp only [afterInc]
    rw [toks_again t s y hs hy I _ _ (by omega), List.length_cons, List.replicate_succ, List.flatten_cons, List.append_assoc, Nat.add_assoc, Nat.add_comm 1]
theorem weave_again (n : Nat) (h : n ≤ 20) (s : ByteArray) (y : List TokV) (hs : splitOf s.data.toList = .ok y) (hy : ∀ v ∈ y, isInc v = false) :
    weaveOf [(⟨#[97]⟩, againText n), (⟨#[98]⟩, s)] [47, 97] = .ok (List.replicate n (y.map fun t => ((1 : Int), t))).flatten := by
  rw [weave_first _ [47, 97] (⟨#[97]⟩, againText n) _ rfl rfl (again_split n h), toks_again _ s y hs hy _ _ _ (by simp; omega)]
  simp
theorem rep_len {α : Type} (Y : List α) : ∀ n, ((List.replicate n Y).flatten).length = n * Y.length := fun n => by simp
theorem rep_at {α : Type} (Y : List α) : ∀ (n i : Nat), i < n * Y.length → (List.replicate n Y).flatten[i]? = Y[i % Y.length]?
  | 0, i, h => by simp at h
  | n + 1, i, h => by
    rw [List.replicate_succ, List.flatten_cons]
    by_cases hi : i < Y.length
    · rw [List.getElem?_append_left hi, Nat.mod_eq_of_lt hi]
    · rw [List.getElem?_append_right (by omega), rep_at Y n _ (by rw [Nat.succ_mul] at h; omega), ← Nat.mod_eq_sub_mod (by omega)]

end Go.Proofs.YtdjhpgpekomjeaaGreatDoor
