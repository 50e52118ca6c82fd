/- Tokens written again with blanks and remarks between them are the same tokens. Plain facts. -/
import Derived.Test.YtgabeacpgmomhaaDoorTokAlone
import Derived.Test.YtgabeacpgmomhaaDoorTokFace
namespace Go.Proofs.YtgabeacpgmomhaaDoor
open Go.RowKit

/-- With as much fuel as there is text. -/
def splitN (p : Nat × Nat) (r : List UInt8) : Except (Nat × Nat) (List TokV) := splitL r.length p r
theorem splitN_fuel {f : Nat} {p : Nat × Nat} {r : List UInt8} (h : r.length ≤ f) : splitL f p r = splitN p r := splitL_fuel _ _ _ _ h (Nat.le_refl _)
theorem step_skip {p : Nat × Nat} {r : List UInt8} {n : Nat} (h : skipL r = some n) (hn : 0 < n) : splitN p r = splitN (posFrom p (r.take n)) (r.drop n) := by
  have hl := skip_len h
  have hd : (r.drop n).length = r.length - n := List.length_drop ..
  obtain ⟨m, hm⟩ : ∃ m, r.length = m + 1 := ⟨r.length - 1, by omega⟩
  have hr : r ≠ [] := by
    rintro rfl
    simp at hm
  unfold splitN
  rw [hm, split_skip hr h hn]
  exact splitN_fuel (by omega)

/-- Tells nothing. -/
def Skips (b : List UInt8) : Prop := ∀ (p : Nat × Nat) (rest : List UInt8), ∃ q, splitN p (b ++ rest) = splitN q rest
theorem Skips.app {a b : List UInt8} (ha : Skips a) (hb : Skips b) : Skips (a ++ b) := fun p rest => by
  obtain ⟨q, h1⟩ := ha p (b ++ rest)
  obtain ⟨q', h2⟩ := hb q rest
  exact ⟨q', by rw [List.append_assoc, h1, h2]⟩
theorem skips_of {b : List UInt8} (hb : b ≠ []) (h : ∀ rest, skipL (b ++ rest) = some b.length) : Skips b := fun p rest => by
  have hn : 0 < b.length := List.length_pos_iff.2 hb
  exact ⟨_, by rw [step_skip (h rest) hn, List.drop_left' rfl]⟩
theorem skips_byte {c : UInt8} (h : blankB c = true) : Skips [c] := skips_of (by simp) fun rest => skip_blank h

def sixBlanks : List (List UInt8) := [[32], [9, 10], [47, 47, 32, 120, 32, 34, 10], [47, 42, 32, 125, 32, 42, 47], [32, 47, 42, 42, 42, 47, 32], [13, 10, 10]]
theorem skips_line : Skips [47, 47, 32, 120, 32, 34, 10] := fun p rest => by
  have h : skipL ([47, 47, 32, 120, 32, 34] ++ 10 :: rest) = some 6 := rfl
  obtain ⟨q, hq⟩ := skips_byte (c := 10) (by decide) (posFrom p [47, 47, 32, 120, 32, 34]) rest
  refine ⟨q, ?_⟩
  rw [← hq]
  exact step_skip h (by decide)
theorem skips_note : Skips [47, 42, 32, 125, 32, 42, 47] := skips_of (by simp) fun rest => rfl
theorem skips_stars : Skips [47, 42, 42, 42, 47] := skips_of (by simp) fun rest => rfl
theorem six_skip : ∀ b ∈ sixBlanks, Skips b ∧ b.length ≤ 7 := by
  intro b hb
  simp only [sixBlanks, List.mem_cons, List.not_mem_nil, or_false] at hb
  rcases hb with rfl | rfl | rfl | rfl | rfl | rfl
  · exact ⟨skips_byte (by decide), by decide⟩
  · exact ⟨(skips_byte (c := 9) (by decide)).app (skips_byte (c := 10) (by decide)), by decide⟩
  · exact ⟨skips_line, by decide⟩
  · exact ⟨skips_note, by decide⟩
  · exact ⟨((skips_byte (c := 32) (by decide)).app skips_stars).app (skips_byte (c := 32) (by decide)), by decide⟩
  · exact ⟨((skips_byte (c := 13) (by decide)).app (skips_byte (c := 10) (by decide))).app (skips_byte (c := 10) (by decide)), by decide⟩

/-- The tokens from the i-th on, written again. -/
def blankText (bs : Nat → List UInt8) : Nat → List TokV → List UInt8
  | i, [] => 32 :: bs i
  | i, q :: l => 32 :: (bs i ++ (srcOf q.kind q.text ++ blankText bs (i + 1) l))
theorem blank_head (bs : Nat → List UInt8) (i : Nat) (l : List TokV) : ∃ rest, blankText bs i l = 32 :: rest := by
  cases l with
  | nil => exact ⟨_, rfl⟩
  | cons q l => exact ⟨_, rfl⟩

/-- What a token is, wherever it stands. -/
def ktOf (t : TokV) : Int × List UInt8 := (t.kind, t.text)
def IsTok (q : TokV) : Prop := ∃ (r : List UInt8) (v : Int × List UInt8 × Nat), oneL r = some v ∧ v.1 = q.kind ∧ v.2.1 = q.text

theorem blank_split (bs : Nat → List UInt8) (hbs : ∀ i, Skips (bs i)) : ∀ (l : List TokV) (i : Nat) (p : Nat × Nat), (∀ q ∈ l, IsTok q) → ∃ m, splitN p (blankText bs i l) = .ok m ∧ m.map ktOf = l.map ktOf
  | [], i, p, _ => by
    obtain ⟨q, h1⟩ := skips_byte (c := 32) (by decide) p (bs i)
    obtain ⟨q', h2⟩ := hbs i q []
    rw [List.append_nil] at h2
    exact ⟨[], (h1.trans h2).trans (split_nil 0 q'), rfl⟩
  | t :: l, i, p, h => by
    obtain ⟨q, h1⟩ := skips_byte (c := 32) (by decide) p (bs i ++ (srcOf t.kind t.text ++ blankText bs (i + 1) l))
    obtain ⟨q', h2⟩ := hbs i q (srcOf t.kind t.text ++ blankText bs (i + 1) l)
    obtain ⟨r, v, ho, hk, hx⟩ := h t (List.mem_cons_self ..)
    obtain ⟨rest, hr⟩ := blank_head bs (i + 1) l
    obtain ⟨h3, h4⟩ := one_cut rest r v ho
    have hlen := one_len ho
    rw [← hk, ← hx] at h1 h2
    rw [h4] at h3
    have hsl : (srcOf v.1 v.2.1).length = v.2.2 := by
      rw [← h4, List.length_take]
      omega
    obtain ⟨m, hm, hmk⟩ := blank_split bs hbs l (i + 1) (posFrom q' (srcOf v.1 v.2.1)) (fun q hq => h q (List.mem_cons_of_mem _ hq))
    refine ⟨⟨v.1, v.2.1, q'⟩ :: m, ?_, ?_⟩
    · show splitN p (32 :: (bs i ++ (srcOf t.kind t.text ++ blankText bs (i + 1) l))) = _
      rw [← hk, ← hx]
      refine (h1.trans h2).trans ?_
      rw [← hr] at h3
      obtain ⟨f, hf⟩ : ∃ f, (srcOf v.1 v.2.1 ++ blankText bs (i + 1) l).length = f + 1 := ⟨(srcOf v.1 v.2.1 ++ blankText bs (i + 1) l).length - 1, by rw [List.length_append, hsl]; omega⟩
      unfold splitN
      rw [hf, split_tok (by
        intro e
        rw [e] at hf
        simp at hf) (one_skip h3) h3, List.take_left' hsl, List.drop_left' hsl, splitN_fuel (by rw [List.length_append, hsl] at hf; omega), hm]
      rfl
    · rw [List.map_cons, List.map_cons, hmk]
      unfold ktOf
      rw [← hk, ← hx]

def srcSum (l : List TokV) : Nat := (l.map fun q => (srcOf q.kind q.text).length).sum
theorem blank_len (bs : Nat → List UInt8) (hbs : ∀ i, (bs i).length ≤ 7) : ∀ (l : List TokV) (i : Nat), (blankText bs i l).length ≤ srcSum l + 8 * (l.length + 1)
  | [], i => by
    have := hbs i
    show (32 :: bs i).length ≤ _
    rw [List.length_cons]
    simp only [List.length_nil]
    omega
  | q :: l, i => by
    have h1 := hbs i
    have ih := blank_len bs hbs l (i + 1)
    show (32 :: (bs i ++ (srcOf q.kind q.text ++ blankText bs (i + 1) l))).length ≤ _
    have e : srcSum (q :: l) = (srcOf q.kind q.text).length + srcSum l := by simp [srcSum]
    rw [List.length_cons, List.length_append, List.length_append, e, List.length_cons]
    omega

theorem splitL_toks : ∀ (f : Nat) (p : Nat × Nat) (r : List UInt8) (l : List TokV), splitL f p r = .ok l → (∀ q ∈ l, IsTok q) ∧ srcSum l ≤ r.length
  | 0, p, r, l, h => by
    have : [] = l := by injection h
    subst this
    exact ⟨(by intro q hq; cases hq), Nat.zero_le _⟩
  | f + 1, p, [], l, h => by
    have : [] = l := by injection h
    subst this
    exact ⟨(by intro q hq; cases hq), Nat.zero_le _⟩
  | f + 1, p, c :: u, l, h => by
    generalize hr : c :: u = r at *
    have hne : r ≠ [] := by rw [← hr]; simp
    cases hs : skipL r with
    | none => rw [split_far hne hs] at h; cases h
    | some n =>
      have hnl := skip_len hs
      by_cases hn : 0 < n
      · rw [split_skip hne hs hn] at h
        obtain ⟨h1, h2⟩ := splitL_toks f _ _ l h
        have hd : (r.drop n).length = r.length - n := List.length_drop ..
        exact ⟨h1, by omega⟩
      · obtain rfl : n = 0 := by omega
        cases ho : oneL r with
        | none => rw [split_bad hne hs ho] at h; cases h
        | some v =>
          have hol := one_len ho
          rw [split_tok hne hs ho] at h
          cases hm : splitL f (posFrom p (r.take v.2.2)) (r.drop v.2.2) with
          | error e => rw [hm] at h; cases h
          | ok m =>
            rw [hm] at h
            have hl : (⟨v.1, v.2.1, p⟩ : TokV) :: m = l := by injection h
            subst hl
            obtain ⟨h1, h2⟩ := splitL_toks f _ _ m hm
            have hd : (r.drop v.2.2).length = r.length - v.2.2 := List.length_drop ..
            refine ⟨?_, ?_⟩
            · intro q hq
              rcases List.mem_cons.1 hq with rfl | hq
              · exact ⟨r, v, ho, rfl, rfl⟩
              · exact h1 q hq
            · have e : srcSum ((⟨v.1, v.2.1, p⟩ : TokV) :: m) = (srcOf v.1 v.2.1).length + srcSum m := by simp [srcSum]
              rw [e, ← (one_cut [] r v ho).2, List.length_take]
              omega

/-- All of it: the tokens of a text, written again, are taken apart as before, but for their places. -/
theorem splitOf_blank (bs : Nat → List UInt8) (hbs : ∀ i, bs i ∈ sixBlanks) {s : List UInt8} {l : List TokV} (h : splitOf s = .ok l) (hs : s.length ≤ 500) :
    ∃ m, splitOf (blankText bs 0 l) = .ok m ∧ m.map ktOf = l.map ktOf ∧ (blankText bs 0 l).length ≤ 5000 := by
  obtain ⟨_, h1⟩ := splitOf_ok h
  obtain ⟨h2, h3⟩ := splitL_toks _ _ _ _ h1
  have h4 := splitL_len _ _ _ _ h1
  have h5 := blank_len bs (fun i => (six_skip _ (hbs i)).2) l 0
  obtain ⟨m, hm, hk⟩ := blank_split bs (fun i => (six_skip _ (hbs i)).1) l 0 (1, 1) h2
  refine ⟨m, ?_, hk, by omega⟩
  unfold splitOf
  rw [if_neg (by omega)]
  unfold splitN at hm
  rw [hm]

end Go.Proofs.YtgabeacpgmomhaaDoor
