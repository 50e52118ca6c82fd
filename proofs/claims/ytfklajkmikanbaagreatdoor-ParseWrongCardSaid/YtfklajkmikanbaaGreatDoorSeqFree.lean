/- A loop over a function value that gives a known list and works in memory of its own: what such an iterator owes, and the walk of a loop over it; a measure for loops whose round is bounded by what lies in memory. No program. -/
import Derived.Test.YtfklajkmikanbaaGreatDoorPart12
import Derived.Test.YtfklajkmikanbaaGreatDoorBase
namespace Go.Proofs.YtfklajkmikanbaaGreatDoor
open Go.RowKit

/-- For a family of relations by numbers: a measure that is the least number at which it holds. -/
theorem least_measure {β : Type} (R : Nat → β → Prop) : ∃ m : β → Nat, ∀ b n, R n b → R (m b) b ∧ m b ≤ n := by
  have h : ∀ b, ∃ k, (∃ n, R n b) → R k b ∧ ∀ n, R n b → k ≤ n := fun b => by
    by_cases hb : ∃ n, R n b
    · obtain ⟨n, hn⟩ := hb
      induction n using Nat.strongRecOn with
      | _ n ih =>
        by_cases hl : ∃ m, m < n ∧ R m b
        · obtain ⟨m, hm, hr⟩ := hl
          exact ih m hm hr
        · exact ⟨n, fun _ => ⟨hn, fun k hk => by
            rcases Nat.lt_or_ge k n with h | h
            · exact absurd ⟨k, h, hk⟩ hl
            · exact h⟩⟩
    · exact ⟨0, fun h => absurd h hb⟩
  refine ⟨fun b => Classical.choose (h b), fun b n hn => ?_⟩
  have := Classical.choose_spec (h b) ⟨n, hn⟩
  exact ⟨this.1, this.2 n hn⟩

/-- What lies below B0, and what lies from B on, lies as it lay. -/
structure Spares (B0 B : Nat) (W W' : World) : Prop where
  os : W'.os = W.os
  tape : W'.tape = W.tape
  output : W'.output = W.output
  size : W.heap.size ≤ W'.heap.size
  block : ∀ k, k < W.heap.size → (k < B0 ∨ B ≤ k) → W'.heap[k]? = W.heap[k]?

section
variable {B0 B B' : Nat} {W W' W'' : World}
theorem Spares.refl (B0 B : Nat) (W : World) : Spares B0 B W W := ⟨rfl, rfl, rfl, Nat.le_refl _, fun _ _ _ => rfl⟩
theorem Spares.trans (h : Spares B0 B W W') (k : Spares B0 B W' W'') : Spares B0 B W W'' :=
  ⟨k.os.trans h.os, k.tape.trans h.tape, k.output.trans h.output, Nat.le_trans h.size k.size, fun i hi hb => (k.block i (Nat.lt_of_lt_of_le hi h.size) hb).trans (h.block i hi hb)⟩
theorem Spares.above (h : Spares B0 B W W') (hB : B ≤ B') : Spares B0 B' W W' := ⟨h.os, h.tape, h.output, h.size, fun i hi hb => h.block i hi (by omega)⟩
theorem Spares.belowOf (h : Spares B0 B W W') (hs : B0 ≤ W.heap.size) : Below B0 W W' := ⟨h.os, h.tape, h.output, h.size, fun b hb => h.block b (by omega) (.inl hb)⟩
theorem Spares.put (W : World) (l : Nat) (o : Obj) (h0 : B0 ≤ l) (h1 : l < B) : Spares B0 B W (W.putObj l o) :=
  ⟨rfl, rfl, rfl, by simp, fun k _ hb => World.putObj_heap_other (by omega)⟩
theorem Spares.set (W : World) (l : Nat) (v : Value) (h0 : B0 ≤ l) (h1 : l < B) : Spares B0 B W (W.setCell ⟨l, 0, none⟩ v) :=
  ⟨rfl, rfl, rfl, (Below.setCell (Below.refl 0 W) (by simp) v).size, fun k _ hb => Below.heap_setCell W _ v _ (by show k ≠ l; omega)⟩
theorem below_put (W : World) (l B : Nat) (o : Obj) (h : B ≤ l) : Below B W (W.putObj l o) :=
  ⟨rfl, rfl, rfl, by simp, fun k hk => World.putObj_heap_other (by omega)⟩
theorem Records.spared {D : Nat} {r : Loop} (h : Records D r W) (hk : Spares B0 B W W') (hB : B ≤ D) : Records D r W' :=
  ⟨(hk.block _ h.lt (.inr (by omega))).trans h.1, (hk.block _ (by have := h.lt; omega) (.inr hB)).trans h.2⟩
theorem Records.keep {D : Nat} {r : Loop} (h : Records D r W) (hk : Below B W W') (hB : D + 1 < B) : Records D r W' :=
  ⟨(hk.block _ hB).trans h.1, (hk.block _ (by omega)).trans h.2⟩
end

/-- What the iterator owes: it gives the elements of xs in their order, or stops where a round says so; it writes only what it laid itself; a round spares what lies below B0, and what the iterator laid. -/
def SeqFree {α : Type} (F : Fence) (n : Nat) (P : Program) (g : Nat) (lb : Array Value) (encs : α → Array Value) (B0 : Nat) (xs : List α) (w : World) : Prop :=
  ∀ (l : Nat) (J Jx : List α → World → Prop) (W : World), Below w.heap.size w W →
    (∀ pre W1 W2, J pre W1 → W.heap.size ≤ W1.heap.size → Below W.heap.size W1 W2 → J pre W2) →
    (∀ pre x W1, J pre W1 → W.heap.size ≤ W1.heap.size → (∃ r, xs = pre ++ x :: r) → YieldAt F (n - 1) P l (encs x) W1 fun e W' =>
      (e = .returned (.bool true) ∧ J (pre ++ [x]) W' ∧ Spares B0 W.heap.size W1 W') ∨ (e = .returned (.bool false) ∧ Jx (pre ++ [x]) W')) →
    J [] W → CallsIn F n P g (#[.func (.yield l) #[] #[]] ++ lb) W fun e W' => (∃ v, e = .returned v) ∧ (J xs W' ∨ ∃ pre, pre <+: xs ∧ Jx pre W')

/-- How the body of a round may be left. -/
def freePost {α : Type} (B0 B : Nat) (I : List α → World → Prop) (Ix : Code → List α → World → Prop) (xs : List α) (W : World) : Exit → Act → World → Prop
  | .normal, _, W' => Spares B0 B W W' ∧ I xs W'
  | .ret, _, W' => Spares B0 B W W' ∧ Ix .ret xs W'
  | .exit id, _, W' => Spares B0 B W W' ∧ Ix (.exit id) xs W'
  | .goto t, _, W' => Spares B0 B W W' ∧ Ix (.goto t) xs W'
  | .panic _, _, _ => False
  | .outgrown, _, _ => False

theorem wpIn_seqFree {α : Type} {F : Fence} {n : Nat} {P : Program} {g : Operand} {ps : Array Tmp} {assign body : Code} {Q : Exit → Act → World → Prop} {a : Act} {w : World}
    (hro : F.round = none) (h1 : 1 ≤ n) {gf : Nat} {lb : Array Value} (hg : a.eval g = .func (.func gf) #[] lb) (hFg : F.fn gf) (eg : ∀ args w, (callFunc gf args).run P w = .ok (.enter gf args) w)
    {encs : α → Array Value} {B0 : Nat} {xs : List α} (hseq : SeqFree F (n - 1) P gf lb encs B0 xs w) (hB0 : B0 ≤ w.heap.size) (hps : ∀ x, (encs x).size = ps.size)
    (I : List α → World → Prop) (Ix : Code → List α → World → Prop) (hI : ∀ pre X Y, I pre X → w.heap.size ≤ X.heap.size → Below w.heap.size X Y → I pre Y) (hIx : ∀ c pre X Y, Ix c pre X → w.heap.size ≤ X.heap.size → Below w.heap.size X Y → Ix c pre Y)
    (h0 : I [] w) (a₁ : α → Act)
    (hassign : ∀ (l : Nat) (x : α) (W : World) (K : Act → World → Prop), K (a₁ x) W →
      assign.wpIn (F.inRound l) (n - 1 - 1) P (Exit.then K (fun _ _ _ => False)) { tmps := (ps.zip (encs x)).foldl (fun t (p, v) => t.setIfInBounds p v) a.tmps, defers := [] } W)
    (hbody : ∀ (l : Nat) (pre : List α) (x : α) (W : World), I pre W → w.heap.size ≤ W.heap.size → (∃ r, xs = pre ++ x :: r) → body.wpIn (F.inRound l) (n - 1 - 1) P (freePost B0 w.heap.size I Ix (pre ++ [x]) W) (a₁ x) W)
    (hdone : ∀ (D : Nat) (W : World), w.heap.size ≤ D → D < W.heap.size → I xs W → W.heap[D]? = some (.deferred (some [])) → Q .normal { a with defers := { target := .collected D, args := #[] } :: a.defers } W)
    (hstop : ∀ (D : Nat) (c : Code) (pre : List α) (W : World), w.heap.size ≤ D → D < W.heap.size → pre <+: xs → Ix c pre W → W.heap[D]? = some (.deferred (some [])) → c.wpIn F n P Q { a with defers := { target := .collected D, args := #[] } :: a.defers } W) :
    (Code.rangeFunc g ps assign body).wpIn F n P Q a w := by
  refine wpIn_rangeFunc fun fn hfn => ?_
  rw [hro]
  obtain ⟨rec, hrec⟩ : ∃ rec : LoopState → Option Code → Loop, rec = recOf fn a.tmps ps assign body w.heap.size := ⟨_, rfl⟩
  obtain ⟨D, hD⟩ : ∃ D, D = w.heap.size := ⟨_, rfl⟩
  obtain ⟨W1, hW1⟩ : ∃ W1, W1 = (w.alloc (.deferred (some []))).alloc (.loop (rec .ready none)) := ⟨_, rfl⟩
  have hR1 : Records D (rec .ready none) W1 := by
    have e := World.alloc_heap_new (w.alloc (.deferred (some []))) (.loop (rec .ready none))
    rw [World.size_alloc] at e
    rw [hW1, hD]
    exact ⟨e, (Below.heap_alloc _ _ _ (by simp)).trans (World.alloc_heap_new w _)⟩
  have hb1 : Below w.heap.size w W1 := by rw [hW1]; exact ((Below.refl _ w).alloc (Nat.le_refl _) _).alloc (by simp) _
  have hs1 : W1.heap.size = D + 2 := by rw [hW1, hD]; simp
  have hI1 : I [] W1 := hI _ _ _ h0 (Nat.le_refl _) hb1
  refine ⟨D + 1, [{ target := .collected D, args := #[] }], W1, { target := .fn (.func gf) lb, args := #[.func (.yield (D + 1)) #[] #[]] }, W1, gf, #[.func (.yield (D + 1)) #[] #[]] ++ lb, W1, ?_, ?_, ?_, ?_, fun _ => h1, ?_⟩
  · rw [hW1, hrec, hD]
    exact run_enterLoop_outer _ _ _ _ _
  · simp only [resolve, hg]
    simp [go_sem]
  · intro f' hf'
    simp [Target.leads] at hf'
    subst hf'
    exact hFg
  · simp [invoke, go_sem, eg]
  · have hput : ∀ (pre : List α) (X : World) (o : Obj), I pre X → w.heap.size ≤ X.heap.size → I pre (X.putObj (D + 1) o) := fun pre X o hi hs => hI _ _ _ hi hs (below_put X _ _ _ (by omega))
    have hcall := hseq (D + 1) (fun pre W => I pre W ∧ Records D (rec .ready none) W) (fun pre W => w.heap.size ≤ W.heap.size ∧ ∃ c, Ix c pre W ∧ Records D (rec .done (some c)) W) W1 hb1
      (fun pre X Y hs hx hb => ⟨hI _ _ _ hs.1 (Nat.le_trans hb1.size hx) (hb.mono hb1.size), hs.2.keep hb (by omega)⟩)
      (fun pre x W hs hx hr => by
        obtain ⟨hi, hrc⟩ := hs
        have hxw := Nat.le_trans hb1.size hx
        have hy := run_yield (P := P) (args := encs x) hrc.1 (by rw [hrec]; exact hps x)
        rw [hrec] at hy
        refine ⟨fn, _, assign, body, hy, roundIn_of_wpIn hfn (hassign _ x W _ ⟨_, run_beginRound hrc.1 (by rw [hrec]; rfl), ?_⟩)⟩
        have hrb := hrc.put { rec .ready none with state := .busy }
        have hkb : Spares B0 W1.heap.size W (W.putObj (D + 1) (.loop { rec .ready none with state := .busy })) := .put _ _ _ (by omega) (by omega)
        refine wpIn_mono (hbody _ pre x _ (hput _ _ _ hi hxw) (by simpa using hxw) hr) ?_
        have hsb : w.heap.size ≤ (W.putObj (D + 1) (.loop { rec .ready none with state := .busy })).heap.size := by simpa using hxw
        obtain ⟨Wb, hWb⟩ : ∃ Wb, Wb = W.putObj (D + 1) (.loop { rec .ready none with state := .busy }) := ⟨_, rfl⟩
        rw [← hWb] at hrb hkb hsb ⊢
        have fin : ∀ (jump : Option Code) (W3 : World), Spares B0 w.heap.size Wb W3 →
            (Instr.endRound (D + 1) jump).run P W3 = .ok (.bool jump.isNone) (W3.putObj (D + 1) (.loop (rec (if jump.isNone then .ready else .done) jump))) ∧
            Records D { rec .ready none with state := .busy } W3 := fun jump W3 hk => by
          have hr3 := hrb.spared hk (by omega)
          have e := run_endRound (P := P) jump hr3.1
          refine ⟨?_, hr3⟩
          rw [hrec] at e ⊢
          exact e
        rintro e a3 W3 hp
        cases e with
        | normal =>
          obtain ⟨hk, hi3⟩ := hp
          obtain ⟨hr3, hrc3⟩ := fin none W3 hk
          exact ⟨_, _, hr3, .inl ⟨rfl, ⟨hput _ _ _ hi3 (Nat.le_trans hsb hk.size), hrc3.put _⟩, (hkb.trans (hk.above hb1.size)).trans (.put _ _ _ (by omega) (by omega))⟩⟩
        | ret =>
          obtain ⟨hk, hi3⟩ := hp
          obtain ⟨hr3, hrc3⟩ := fin (some .ret) W3 hk
          exact ⟨_, _, hr3, .inr ⟨rfl, by simpa using Nat.le_trans hsb hk.size, .ret, hIx _ _ _ _ hi3 (Nat.le_trans hsb hk.size) (below_put _ _ _ _ (by omega)), hrc3.put _⟩⟩
        | exit id =>
          obtain ⟨hk, hi3⟩ := hp
          obtain ⟨hr3, hrc3⟩ := fin (some (.exit id)) W3 hk
          exact ⟨_, _, hr3, .inr ⟨rfl, by simpa using Nat.le_trans hsb hk.size, .exit id, hIx _ _ _ _ hi3 (Nat.le_trans hsb hk.size) (below_put _ _ _ _ (by omega)), hrc3.put _⟩⟩
        | goto t =>
          obtain ⟨hk, hi3⟩ := hp
          obtain ⟨hr3, hrc3⟩ := fin (some (.goto t)) W3 hk
          exact ⟨_, _, hr3, .inr ⟨rfl, by simpa using Nat.le_trans hsb hk.size, .goto t, hIx _ _ _ _ hi3 (Nat.le_trans hsb hk.size) (below_put _ _ _ _ (by omega)), hrc3.put _⟩⟩
        | panic ch => exact hp.elim
        | outgrown => exact hp.elim)
      ⟨hI1, hR1⟩
    refine hcall.mono ?_
    rintro e W2 ⟨⟨v, rfl⟩, (⟨hi, hrc⟩ | ⟨pre, hpre, hsz, c, hi, hrc⟩)⟩
    · have e := run_endLoop (P := P) hrc.1 (by rw [hrec]; simp [recOf])
      refine ⟨none, _, by rw [hrec] at e; exact e, ?_⟩
      have hlt := hrc.lt
      have h2 := hput _ _ (.loop { rec .ready none with state := .exhausted }) hi (by omega)
      have h3 := (hrc.put { rec .ready none with state := .exhausted }).2
      rw [hrec] at h2 h3
      have hlt2 : D < (W2.putObj (D + 1) (.loop { recOf fn a.tmps ps assign body w.heap.size .ready none with state := .exhausted })).heap.size := by simp; omega
      rw [hD] at h2 h3 hlt2 ⊢
      exact hdone _ _ (Nat.le_refl _) hlt2 h2 h3
    · have e := run_endLoop (P := P) hrc.1 (by rw [hrec]; simp [recOf])
      refine ⟨some c, _, by rw [hrec] at e; exact e, ?_⟩
      have hlt := hrc.lt
      have h2 := hIx c _ _ _ hi hsz (below_put W2 (D + 1) w.heap.size (.loop { rec .done (some c) with state := .exhausted }) (by omega))
      have h3 := (hrc.put { rec .done (some c) with state := .exhausted }).2
      rw [hrec] at h2 h3
      have hlt2 : D < (W2.putObj (D + 1) (.loop { recOf fn a.tmps ps assign body w.heap.size .done (some c) with state := .exhausted })).heap.size := by simp; omega
      rw [hD] at h2 h3 hlt2 ⊢
      exact hstop _ _ _ _ (Nat.le_refl _) hlt2 hpre h2 h3

end Go.Proofs.YtfklajkmikanbaaGreatDoor
