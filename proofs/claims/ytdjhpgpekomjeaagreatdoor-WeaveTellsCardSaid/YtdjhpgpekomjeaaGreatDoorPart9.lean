/- Texts of mine put together (a claim has at most so many files): SeqBox, CleanLaw. -/
import Derived.RangeFuncBox
import Derived.RangeFuncLeaves
import Derived.Test.YtdjhpgpekomjeaaGreatDoorProg
import Derived.Test.YtdjhpgpekomjeaaGreatDoorFileRef
/- A loop over a function value that gives a known list, and that keeps its state in a box of its own: what such an iterator owes, and the walk of a loop over it. -/
namespace Go.Proofs.YtdjhpgpekomjeaaGreatDoor
open Go.RowKit

/-- What the iterator owes: it gives the elements of xs in their order, or stops where a round says so; between two rounds it writes the box Bx alone. -/
def SeqOwn {α : Type} (F : Fence) (n : Nat) (P : Program) (g : Nat) (lb : Array Value) (encs : α → Array Value) (Bx : Nat) (t : TypeId) (Kp : World → World → Prop) (xs : List α) (w : World) : Prop :=
  ∀ (l : Nat) (J Jx : List α → World → Prop) (W : World), Below w.heap.size w W →
    (∀ pre W1 v v', J pre W1 → Boxed W1 Bx t v → J pre (W1.setCell ⟨Bx, 0, none⟩ v')) →
    (∀ pre x W1, J pre W1 → (∃ r, xs = pre ++ x :: r) → YieldAt F (n - 1) P l (encs x) W1 fun e W' =>
      (e = .returned (.bool true) ∧ J (pre ++ [x]) W' ∧ Kp W1 W') ∨ (e = .returned (.bool false) ∧ Jx (pre ++ [x]) W')) →
    J [] W → CallsIn F n P g (#[.func (.yield l) #[] #[]] ++ lb) W fun e W' => (∃ v, e = .returned v) ∧ (J xs W' ∨ ∃ pre, pre <+: xs ∧ Jx pre W')

/-- The loop's record. -/
def recOf (fn : FuncId) (tmps : Array Value) (ps : Array Tmp) (assign body : Code) (D : Nat) (st : LoopState) (pe : Option Code) : Loop := { state := st, pending := pe, fn, tmps, params := ps, assign, body, defers := D }

/-- The two blocks that the loop lays for itself. -/
def Records (D : Nat) (rec : Loop) (W : World) : Prop := W.heap[D + 1]? = some (.loop rec) ∧ W.heap[D]? = some (.deferred (some []))

theorem Records.lt {D : Nat} {r : Loop} {W : World} (h : Records D r W) : D + 1 < W.heap.size := (Array.getElem?_eq_some_iff.1 h.1).1
theorem Records.put {D : Nat} {r : Loop} {W : World} (h : Records D r W) (r' : Loop) : Records D r' (W.putObj (D + 1) (.loop r')) :=
  ⟨World.putObj_heap_same h.lt, (World.putObj_heap_other (by omega)).trans h.2⟩
theorem Records.set {D b : Nat} {r : Loop} {W : World} (h : Records D r W) (hb : b < D) (v : Value) : Records D r (W.setCell ⟨b, 0, none⟩ v) :=
  ⟨(Below.heap_setCell W _ v _ (by simp only; omega)).trans h.1, (Below.heap_setCell W _ v _ (by simp only; omega)).trans h.2⟩
theorem Records.kept {D B : Nat} {r : Loop} {W W' : World} (h : Records D r W) (hk : KeepsFrom B W W') (hB : B ≤ D) : Records D r W' :=
  ⟨hk.same _ _ (by omega) h.1 rfl, hk.same _ _ hB h.2 rfl⟩

theorem wpIn_seqOwn {α : Type} {F : Fence} {n : Nat} {P : Program} {g : Operand} {ps : Array Tmp} {assign body : Code} {Q : Exit → Act → World → Prop} {a : Act} {w : World}
    (hro : F.round = none) (h1 : 1 ≤ n) {gf : Nat} {lb : Array Value} (hg : a.eval g = .func (.func gf) #[] lb) (hFg : F.fn gf) (eg : ∀ args w, (callFunc gf args).run P w = .ok (.enter gf args) w)
    {encs : α → Array Value} {Bx : Nat} {t : TypeId} {Kp : World → World → Prop} {xs : List α} (hseq : SeqOwn F (n - 1) P gf lb encs Bx t Kp xs w) (hBx : Bx < w.heap.size)
    (hKt : ∀ {A B C : World}, Kp A B → Kp B C → Kp A C) (hKb : ∀ (W : World) (l : Nat) (o o' : Obj), w.heap.size ≤ l → W.heap[l]? = some o → o.isCells = false → Kp W (W.putObj l o')) (hps : ∀ x, (encs x).size = ps.size)
    (I : List α → World → Prop) (Ix : Code → List α → World → Prop) (hI : OwnFrom w.heap.size I) (hIx : ∀ c, OwnFrom w.heap.size (Ix c))
    (hIs : ∀ pre W v v', I pre W → Boxed W Bx t v → I pre (W.setCell ⟨Bx, 0, none⟩ v')) (h0 : I [] w) (a₁ : α → Act)
    (hassign : ∀ (l : Nat) (x : α) (W : World) (K : Act → World → Prop), K (a₁ x) W →
      assign.wpIn (F.inRound l) (n - 1 - 1) P (Exit.then K (fun _ _ _ => False)) { tmps := (ps.zip (encs x)).foldl (fun t (p, v) => t.setIfInBounds p v) a.tmps, defers := [] } W)
    (hbody : ∀ (l : Nat) (pre : List α) (x : α) (W : World), I pre W → (∃ r, xs = pre ++ x :: r) → body.wpIn (F.inRound l) (n - 1 - 1) P (ownPostG w.heap.size Kp I Ix (pre ++ [x]) W) (a₁ x) W)
    (hdone : ∀ (D : Nat) (W : World), w.heap.size ≤ D → I xs W → W.heap[D]? = some (.deferred (some [])) → Q .normal { a with defers := { target := .collected D, args := #[] } :: a.defers } W)
    (hstop : ∀ (D : Nat) (c : Code) (pre : List α) (W : World), w.heap.size ≤ D → pre <+: xs → Ix c pre W → W.heap[D]? = some (.deferred (some [])) → c.wpIn F n P Q { a with defers := { target := .collected D, args := #[] } :: a.defers } W) :
    (Code.rangeFunc g ps assign body).wpIn F n P Q a w := by
  refine wpIn_rangeFunc fun fn hfn => ?_
  rw [hro]
  obtain ⟨rec, hrec⟩ : ∃ rec : LoopState → Option Code → Loop, rec = recOf fn a.tmps ps assign body w.heap.size := ⟨_, rfl⟩
  obtain ⟨D, hD⟩ : ∃ D, D = w.heap.size := ⟨_, rfl⟩
  obtain ⟨W1, hW1⟩ : ∃ W1, W1 = (w.alloc (.deferred (some []))).alloc (.loop (rec .ready none)) := ⟨_, rfl⟩
  have hR1 : Records D (rec .ready none) W1 := by
    have e := World.alloc_heap_new (w.alloc (.deferred (some []))) (.loop (rec .ready none))
    rw [World.size_alloc] at e
    rw [hW1, hD]
    exact ⟨e, (Below.heap_alloc _ _ _ (by simp)).trans (World.alloc_heap_new w _)⟩
  have hI1 : I [] W1 := by rw [hW1]; exact hI.alloc _ (hI.alloc _ h0)
  have hb1 : Below w.heap.size w W1 := by rw [hW1]; exact ((Below.refl _ w).alloc (Nat.le_refl _) _).alloc (by simp) _
  refine ⟨D + 1, [{ target := .collected D, args := #[] }], W1, { target := .fn (.func gf) lb, args := #[.func (.yield (D + 1)) #[] #[]] }, W1, gf, #[.func (.yield (D + 1)) #[] #[]] ++ lb, W1, ?_, ?_, ?_, ?_, fun _ => h1, ?_⟩
  · rw [hW1, hrec, hD]
    exact run_enterLoop_outer _ _ _ _ _
  · simp only [resolve, hg]
    simp [go_sem]
  · intro f' hf'
    simp [Target.leads] at hf'
    subst hf'
    exact hFg
  · simp [invoke, go_sem, eg]
  · have hcall := hseq (D + 1) (fun pre W => I pre W ∧ Records D (rec .ready none) W) (fun pre W => ∃ c, Ix c pre W ∧ Records D (rec .done (some c)) W) W1 hb1
      (fun pre W v v' hs hv => ⟨hIs pre W v v' hs.1 hv, hs.2.set (by omega) v'⟩)
      (fun pre x W hs hr => by
        obtain ⟨hi, hrc⟩ := hs
        have hy := run_yield (P := P) (args := encs x) hrc.1 (by rw [hrec]; exact hps x)
        rw [hrec] at hy
        refine ⟨fn, _, assign, body, hy, roundIn_of_wpIn hfn (hassign _ x W _ ⟨_, run_beginRound hrc.1 (by rw [hrec]; rfl), ?_⟩)⟩
        have hrb := hrc.put { rec .ready none with state := .busy }
        have hkb := hKb W (D + 1) _ (.loop { rec .ready none with state := .busy }) (by omega) hrc.1 rfl
        refine wpIn_mono (hbody _ pre x _ (hI.putObj _ hi (by omega) hrc.1 rfl) hr) ?_
        obtain ⟨Wb, hWb⟩ : ∃ Wb, Wb = W.putObj (D + 1) (.loop { rec .ready none with state := .busy }) := ⟨_, rfl⟩
        rw [← hWb] at hrb hkb ⊢
        have fin : ∀ (jump : Option Code) (W3 : World), KeepsFrom w.heap.size Wb W3 →
            (Instr.endRound (D + 1) jump).run P W3 = .ok (.bool jump.isNone) (W3.putObj (D + 1) (.loop (rec (if jump.isNone then .ready else .done) jump))) ∧
            Records D { rec .ready none with state := .busy } W3 := fun jump W3 hk => by
          have hr3 := hrb.kept hk (by omega)
          have e := run_endRound (P := P) jump hr3.1
          refine ⟨?_, hr3⟩
          rw [hrec] at e ⊢
          exact e
        rintro e a3 W3 hp
        cases e with
        | normal =>
          obtain ⟨hk, hkp, hi3⟩ := hp
          obtain ⟨hr3, hrc3⟩ := fin none W3 hk
          exact ⟨_, _, hr3, .inl ⟨rfl, ⟨hI.putObj _ hi3 (by omega) hrc3.1 rfl, hrc3.put _⟩, hKt (hKt hkb hkp) (hKb _ _ _ _ (by omega) hrc3.1 rfl)⟩⟩
        | ret =>
          obtain ⟨hk, hi3⟩ := hp
          obtain ⟨hr3, hrc3⟩ := fin (some .ret) W3 hk
          exact ⟨_, _, hr3, .inr ⟨rfl, .ret, (hIx _).putObj _ hi3 (by omega) hrc3.1 rfl, hrc3.put _⟩⟩
        | exit id =>
          obtain ⟨hk, hi3⟩ := hp
          obtain ⟨hr3, hrc3⟩ := fin (some (.exit id)) W3 hk
          exact ⟨_, _, hr3, .inr ⟨rfl, .exit id, (hIx _).putObj _ hi3 (by omega) hrc3.1 rfl, hrc3.put _⟩⟩
        | goto t =>
          obtain ⟨hk, hi3⟩ := hp
          obtain ⟨hr3, hrc3⟩ := fin (some (.goto t)) W3 hk
          exact ⟨_, _, hr3, .inr ⟨rfl, .goto t, (hIx _).putObj _ hi3 (by omega) hrc3.1 rfl, hrc3.put _⟩⟩
        | panic ch => exact hp.elim
        | outgrown => exact hp.elim)
      ⟨hI1, hR1⟩
    refine hcall.mono ?_
    rintro e W2 ⟨⟨v, rfl⟩, (⟨hi, hrc⟩ | ⟨pre, hpre, c, hi, hrc⟩)⟩
    · have e := run_endLoop (P := P) hrc.1 (by rw [hrec]; simp [recOf])
      refine ⟨none, _, by rw [hrec] at e; exact e, ?_⟩
      have h2 := hI.putObj (.loop { rec .ready none with state := .exhausted }) hi (show w.heap.size ≤ D + 1 by omega) hrc.1 rfl
      have h3 := (hrc.put { rec .ready none with state := .exhausted }).2
      rw [hrec] at h2 h3
      rw [hD] at h2 h3 ⊢
      exact hdone _ _ (Nat.le_refl _) h2 h3
    · have e := run_endLoop (P := P) hrc.1 (by rw [hrec]; simp [recOf])
      refine ⟨some c, _, by rw [hrec] at e; exact e, ?_⟩
      have h2 := (hIx c).putObj (.loop { rec .done (some c) with state := .exhausted }) hi (show w.heap.size ≤ D + 1 by omega) hrc.1 rfl
      have h3 := (hrc.put { rec .done (some c) with state := .exhausted }).2
      rw [hrec] at h2 h3
      rw [hD] at h2 h3 ⊢
      exact hstop _ _ _ _ (Nat.le_refl _) hpre h2 h3

end Go.Proofs.YtdjhpgpekomjeaaGreatDoor

/- A path that is clean stays so; behind itself, and back, leads to the first: plain facts. -/
namespace Go.Proofs.YtdjhpgpekomjeaaGreatDoor
open Go.RowKit

def Good (p : List UInt8) : Prop := p ≠ [] ∧ p ≠ [46] ∧ p ≠ [46, 46] ∧ (47 : UInt8) ∉ p

theorem split_append (c : UInt8) : ∀ (s cur t : List UInt8), splitAcc c cur (s ++ c :: t) = splitAcc c cur s ++ splitAcc c [] t
  | [], cur, t => by simp [splitAcc]
  | x :: s, cur, t => by
    rw [List.cons_append, splitAcc, splitAcc]
    split
    · rw [split_append c s [] t]; rfl
    · rw [split_append c s (cur ++ [x]) t]
theorem parts_append (c : UInt8) (s t : List UInt8) : partsOf c (s ++ c :: t) = partsOf c s ++ partsOf c t := split_append c s [] t

theorem split_none (c : UInt8) : ∀ (s cur : List UInt8), c ∉ s → splitAcc c cur s = [cur ++ s]
  | [], cur, _ => by simp [splitAcc]
  | x :: s, cur, h => by
    have h1 : ¬ x = c := fun e => h (by rw [e]; exact List.mem_cons_self ..)
    rw [splitAcc, if_neg h1, split_none c s _ (fun hm => h (List.mem_cons_of_mem _ hm)), List.append_assoc]
    rfl
theorem parts_one (c : UInt8) (s : List UInt8) (h : c ∉ s) : partsOf c s = [s] := split_none c s [] h

theorem split_clean (c : UInt8) : ∀ (s cur : List UInt8), c ∉ cur → ∀ p ∈ splitAcc c cur s, c ∉ p
  | [], cur, h, p, hp => by
    simp [splitAcc] at hp
    rw [hp]
    exact h
  | x :: s, cur, h, p, hp => by
    rw [splitAcc] at hp
    split at hp
    · rcases List.mem_cons.1 hp with e | hm
      · rw [e]; exact h
      · exact split_clean c s [] (by simp) p hm
    · rename_i hx
      exact split_clean c s _ (by
        intro hm
        rcases List.mem_append.1 hm with h1 | h1
        · exact h h1
        · exact hx (List.mem_singleton.1 h1).symm) p hp
theorem parts_clean (c : UInt8) (s : List UInt8) : ∀ p ∈ partsOf c s, c ∉ p := split_clean c s [] (by simp)

theorem split_count (c : UInt8) : ∀ (s cur : List UInt8), (splitAcc c cur s).length = s.count c + 1
  | [], cur => by simp [splitAcc]
  | x :: s, cur => by
    rw [splitAcc]
    split
    · rename_i h
      rw [List.length_cons, split_count c s [], h, List.count_cons_self]
    · rename_i h
      rw [split_count c s _, List.count_cons_of_ne h]

theorem parts_join : ∀ l : List (List UInt8), l ≠ [] → (∀ p ∈ l, (47 : UInt8) ∉ p) → partsOf 47 (joinOf l) = l
  | [], h, _ => absurd rfl h
  | [x], _, hp => by
    rw [joinOf, List.flatMap_nil, List.append_nil]
    exact parts_one 47 x (hp x (List.mem_cons_self ..))
  | x :: y :: r, _, hp => by
    have e : joinOf (x :: y :: r) = x ++ 47 :: joinOf (y :: r) := by simp [joinOf]
    rw [e, parts_append, parts_one 47 x (hp x (List.mem_cons_self ..)), parts_join (y :: r) (by simp) (fun p h => hp p (List.mem_cons_of_mem _ h))]
    rfl

theorem from_append : ∀ (ps qs L : List (List UInt8)), cleanFrom L (ps ++ qs) = match cleanFrom L ps with
    | none => none
    | some m => cleanFrom m qs
  | [], qs, L => rfl
  | p :: ps, qs, L => by
    rw [List.cons_append, cleanFrom, cleanFrom]
    cases cleanStep L p with
    | none => rfl
    | some m => exact from_append ps qs m

theorem step_good {L : List (List UInt8)} {p : List UInt8} (h : Good p) : cleanStep L p = some (L ++ [p]) := by
  obtain ⟨h1, h2, h3, _⟩ := h
  rw [cleanStep, if_neg (by rintro (e | e); exact h1 e; exact h2 e), if_neg h3]

theorem from_good : ∀ (ps L : List (List UInt8)), (∀ p ∈ ps, Good p) → cleanFrom L ps = some (L ++ ps)
  | [], L, _ => by simp [cleanFrom]
  | p :: ps, L, h => by
    rw [cleanFrom, step_good (h p (List.mem_cons_self ..))]
    show cleanFrom (L ++ [p]) ps = _
    rw [from_good ps _ (fun q hq => h q (List.mem_cons_of_mem _ hq))]
    simp

theorem good_from : ∀ (ps L M : List (List UInt8)), (∀ p ∈ ps, (47 : UInt8) ∉ p) → (∀ p ∈ L, Good p) → cleanFrom L ps = some M → ∀ p ∈ M, Good p
  | [], L, M, _, hL, h => by
    rw [cleanFrom] at h
    rw [← Option.some.inj h]
    exact hL
  | q :: ps, L, M, hp, hL, h => by
    rw [cleanFrom] at h
    cases hs : cleanStep L q with
    | none => rw [hs] at h; cases h
    | some m =>
      rw [hs] at h
      refine good_from ps m M (fun p hm => hp p (List.mem_cons_of_mem _ hm)) ?_ h
      unfold cleanStep at hs
      split at hs
      · rw [← Option.some.inj hs]; exact hL
      split at hs
      · split at hs
        · cases hs
        · rw [← Option.some.inj hs]
          exact fun p hm => hL p ((List.dropLast_sublist L).subset hm)
      · rename_i h1 h2
        rw [← Option.some.inj hs]
        intro p hm
        rcases List.mem_append.1 hm with h3 | h3
        · exact hL p h3
        · rw [List.mem_singleton.1 h3]
          exact ⟨fun e => h1 (.inl e), fun e => h1 (.inr e), h2, hp q (List.mem_cons_self ..)⟩

theorem from_ups : ∀ (M L : List (List UInt8)), cleanFrom (L ++ M) (List.replicate M.length [46, 46]) = some L := by
  intro M
  rw [← List.reverse_reverse M]
  generalize M.reverse = r
  induction r with
  | nil => intro L; simp [cleanFrom]
  | cons x r ih =>
    intro L
    rw [List.reverse_cons, List.length_append, List.length_cons, List.length_nil, Nat.zero_add, List.replicate_succ, cleanFrom]
    have : cleanStep (L ++ (r.reverse ++ [x])) [46, 46] = some (L ++ r.reverse) := by
      rw [cleanStep, if_neg (by decide), if_pos rfl, if_neg (by simp), ← List.append_assoc, List.dropLast_concat]
    rw [this]
    exact ih L

def ups : Nat → List UInt8
  | 0 => []
  | k + 1 => 47 :: 46 :: 46 :: ups k
theorem ups_len : ∀ k, (ups k).length = 3 * k
  | 0 => rfl
  | k + 1 => by rw [ups, List.length_cons, List.length_cons, List.length_cons, ups_len k]; omega
theorem ups_snoc : ∀ k, ups (k + 1) = ups k ++ [47, 46, 46]
  | 0 => rfl
  | k + 1 => by
    show 47 :: 46 :: 46 :: ups (k + 1) = (47 :: 46 :: 46 :: ups k) ++ [47, 46, 46]
    rw [ups_snoc k]
    rfl
theorem parts_ups : ∀ (k : Nat) (s : List UInt8), partsOf 47 (s ++ ups k) = partsOf 47 s ++ List.replicate k [46, 46]
  | 0, s => by simp [ups]
  | k + 1, s => by
    rw [ups, parts_append, show (46 : UInt8) :: 46 :: ups k = [46, 46] ++ ups k from rfl, parts_ups k, parts_one 47 [46, 46] (by decide), List.replicate_succ]
    rfl

/-- A clean path is its good parts, joined. -/
theorem clean_form {s x : List UInt8} (h : cleanPath s = (x, true)) : ∃ L : List (List UInt8), L ≠ [] ∧ (∀ p ∈ L, Good p) ∧ x = joinOf L := by
  unfold cleanPath cleanOf at h
  cases hc : cleanFrom [] (partsOf 47 s) with
  | none => rw [hc] at h; simp [cleanEnd] at h
  | some L =>
    rw [hc] at h
    cases L with
    | nil => simp [cleanEnd] at h
    | cons p L =>
      simp only [cleanEnd, Prod.mk.injEq, and_true] at h
      exact ⟨p :: L, by simp, good_from _ _ _ (parts_clean 47 s) (by simp) hc, h.symm⟩

theorem end_some {L : List (List UInt8)} (h : L ≠ []) : cleanEnd (some L) = (joinOf L, true) := by
  cases L with
  | nil => exact absurd rfl h
  | cons x L => rfl

theorem clean_again {s x : List UInt8} (h : cleanPath s = (x, true)) : cleanPath x = (x, true) := by
  obtain ⟨L, h0, hg, rfl⟩ := clean_form h
  unfold cleanPath cleanOf
  rw [parts_join L h0 (fun p hp => (hg p hp).2.2.2), from_good L [] hg]
  exact end_some h0

/-- x/y, and so many up. -/
theorem clean_back {s t x y : List UInt8} (hx : cleanPath s = (x, true)) (hy : cleanPath t = (y, true)) : cleanPath (x ++ 47 :: (y ++ ups (y.count 47 + 1))) = (x, true) := by
  obtain ⟨L, h0, hg, rfl⟩ := clean_form hx
  obtain ⟨M, m0, mg, rfl⟩ := clean_form hy
  have hM := parts_join M m0 (fun p hp => (mg p hp).2.2.2)
  have hlen : (joinOf M).count 47 + 1 = M.length := by
    rw [← split_count 47 (joinOf M) []]
    exact congrArg List.length hM
  unfold cleanPath cleanOf
  rw [hlen, parts_append, parts_ups, hM, parts_join L h0 (fun p hp => (hg p hp).2.2.2), from_append, from_good L [] hg]
  show cleanEnd (cleanFrom ([] ++ L) (M ++ List.replicate M.length [46, 46])) = _
  rw [List.nil_append, from_append, from_good M L mg]
  show cleanEnd (cleanFrom (L ++ M) (List.replicate M.length [46, 46])) = _
  rw [from_ups M L]
  exact end_some h0

/-- How far up, by what has been read of y. -/
def upTo (y : List UInt8) : Nat := match y with
  | [] => 0
  | _ :: r => r.count 47 + 1
theorem upTo_snoc (y : List UInt8) (c : UInt8) : upTo (y ++ [c]) = upTo y + (if y = [] ∨ c = 47 then 1 else 0) := by
  cases y with
  | nil => simp [upTo]
  | cons a y =>
    by_cases h : c = 47
    · simp [upTo, h]
    · simp [upTo, h, List.count_cons_of_ne h]
theorem upTo_all {t y : List UInt8} (hy : cleanPath t = (y, true)) : upTo y = y.count 47 + 1 := by
  obtain ⟨M, m0, mg, rfl⟩ := clean_form hy
  cases M with
  | nil => exact absurd rfl m0
  | cons p M =>
    obtain ⟨h1, _, _, h4⟩ := mg p (List.mem_cons_self ..)
    cases p with
    | nil => exact absurd rfl h1
    | cons a p =>
      have ha : ¬ a = 47 := fun e => h4 (by rw [e]; exact List.mem_cons_self ..)
      rw [joinOf, List.cons_append, upTo, List.count_cons_of_ne ha]
theorem join_root (f b : List UInt8) : joinPath f (47 :: b) = cleanPath b := by
  unfold joinPath
  rw [if_pos (show (47 :: b).head? = some 47 from rfl)]
  unfold cleanPath
  rw [show (47 : UInt8) :: b = [] ++ 47 :: b from rfl, parts_append]
  rfl
theorem clean_len {s x : List UInt8} {b : Bool} (h : cleanPath s = (x, b)) : x.length ≤ s.length + 1 := by
  unfold cleanPath cleanOf at h
  have key : ∀ (ps L M : List (List UInt8)), cleanFrom L ps = some M → tot M ≤ tot L + tot ps := by
    intro ps
    induction ps with
    | nil =>
      intro L M hc
      rw [cleanFrom] at hc
      rw [← Option.some.inj hc]
      exact Nat.le_add_right _ _
    | cons p ps ih =>
      intro L M hc
      rw [cleanFrom] at hc
      cases hs : cleanStep L p with
      | none => rw [hs] at hc; cases hc
      | some m =>
        rw [hs] at hc
        have h1 := ih m M hc
        have h2 : tot m ≤ tot L + (p.length + 1) := by
          unfold cleanStep at hs
          split at hs
          · rw [← Option.some.inj hs]; omega
          split at hs
          · split at hs
            · cases hs
            · rw [← Option.some.inj hs]
              have := tot_last L
              omega
          · rw [← Option.some.inj hs, tot_snoc]
            omega
        rw [tot_cons]
        omega
  have hp := split_tot 47 s []
  simp only [List.length_nil, Nat.zero_add] at hp
  cases hc : cleanFrom [] (partsOf 47 s) with
  | none =>
    rw [hc] at h
    simp only [cleanEnd, Prod.mk.injEq] at h
    rw [← h.1]
    simp
  | some M =>
    rw [hc] at h
    have h1 := key _ _ _ hc
    rw [tot_nil] at h1
    have h3 : tot (partsOf 47 s) ≤ s.length + 1 := hp
    cases M with
    | nil =>
      simp only [cleanEnd, Prod.mk.injEq] at h
      rw [← h.1]
      simp
    | cons a M =>
      simp only [cleanEnd, Prod.mk.injEq] at h
      rw [← h.1]
      have h2 := join_len (a :: M)
      omega

theorem clean_bad {s x : List UInt8} (h : cleanPath s = (x, false)) : x = [] := by
  unfold cleanPath cleanOf at h
  cases hc : cleanFrom [] (partsOf 47 s) with
  | none => rw [hc] at h; simp only [cleanEnd, Prod.mk.injEq] at h; exact h.1.symm
  | some M =>
    rw [hc] at h
    cases M with
    | nil => simp only [cleanEnd, Prod.mk.injEq] at h; exact h.1.symm
    | cons a M => simp [cleanEnd] at h

end Go.Proofs.YtdjhpgpekomjeaaGreatDoor
