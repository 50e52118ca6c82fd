/- A loop over a function value that gives a known list, and that keeps its state in a box of its own: what such an iterator owes, and the walk of a loop over it. -/
import Derived.RangeFuncBox
import Derived.RangeFuncLeaves
import Derived.Test.YtogpicfofifbkaaDoorProg
namespace Go.Proofs.YtogpicfofifbkaaDoor
open Go.RowKit

/-- What the iterator owes: it gives the elements of xs in their order, or stops where a round says so; between two rounds it writes the box Bx alone. -/
def SeqOwn {α : Type} (F : Fence) (n : Nat) (P : Program) (g : Nat) (lb : Array Value) (encs : α → Array Value) (Bx : Nat) (t : TypeId) (Kp : World → World → Prop) (xs : List α) (w : World) : Prop :=
  ∀ (l : Nat) (J Jx : List α → World → Prop) (W : World), Below w.heap.size w W →
    (∀ pre W1 v v', J pre W1 → Boxed W1 Bx t v → J pre (W1.setCell ⟨Bx, 0, none⟩ v')) →
    (∀ pre x W1, J pre W1 → (∃ r, xs = pre ++ x :: r) → YieldAt F (n - 1) P l (encs x) W1 fun e W' =>
      (e = .returned (.bool true) ∧ J (pre ++ [x]) W' ∧ Kp W1 W') ∨ (e = .returned (.bool false) ∧ Jx (pre ++ [x]) W')) →
    J [] W → CallsIn F n P g (#[.func (.yield l) #[] #[]] ++ lb) W fun e W' => (∃ v, e = .returned v) ∧ (J xs W' ∨ ∃ pre, pre <+: xs ∧ Jx pre W')

/-- The loop's record. -/
def recOf (fn : FuncId) (tmps : Array Value) (ps : Array Tmp) (assign body : Code) (D : Nat) (st : LoopState) (pe : Option Code) : Loop := { state := st, pending := pe, fn, tmps, params := ps, assign, body, defers := D }

/-- The two blocks that the loop lays for itself. -/
def Records (D : Nat) (rec : Loop) (W : World) : Prop := W.heap[D + 1]? = some (.loop rec) ∧ W.heap[D]? = some (.deferred (some []))

theorem Records.lt {D : Nat} {r : Loop} {W : World} (h : Records D r W) : D + 1 < W.heap.size := (Array.getElem?_eq_some_iff.1 h.1).1
theorem Records.put {D : Nat} {r : Loop} {W : World} (h : Records D r W) (r' : Loop) : Records D r' (W.putObj (D + 1) (.loop r')) :=
  ⟨World.putObj_heap_same h.lt, (World.putObj_heap_other (by omega)).trans h.2⟩
theorem Records.set {D b : Nat} {r : Loop} {W : World} (h : Records D r W) (hb : b < D) (v : Value) : Records D r (W.setCell ⟨b, 0, none⟩ v) :=
  ⟨(Below.heap_setCell W _ v _ (by simp only; omega)).trans h.1, (Below.heap_setCell W _ v _ (by simp only; omega)).trans h.2⟩
theorem Records.kept {D B : Nat} {r : Loop} {W W' : World} (h : Records D r W) (hk : KeepsFrom B W W') (hB : B ≤ D) : Records D r W' :=
  ⟨hk.same _ _ (by omega) h.1 rfl, hk.same _ _ hB h.2 rfl⟩

theorem wpIn_seqOwn {α : Type} {F : Fence} {n : Nat} {P : Program} {g : Operand} {ps : Array Tmp} {assign body : Code} {Q : Exit → Act → World → Prop} {a : Act} {w : World}
    (hro : F.round = none) (h1 : 1 ≤ n) {gf : Nat} {lb : Array Value} (hg : a.eval g = .func (.func gf) #[] lb) (hFg : F.fn gf) (eg : ∀ args w, (callFunc gf args).run P w = .ok (.enter gf args) w)
    {encs : α → Array Value} {Bx : Nat} {t : TypeId} {Kp : World → World → Prop} {xs : List α} (hseq : SeqOwn F (n - 1) P gf lb encs Bx t Kp xs w) (hBx : Bx < w.heap.size)
    (hKt : ∀ {A B C : World}, Kp A B → Kp B C → Kp A C) (hKb : ∀ (W : World) (l : Nat) (o o' : Obj), w.heap.size ≤ l → W.heap[l]? = some o → o.isCells = false → Kp W (W.putObj l o')) (hps : ∀ x, (encs x).size = ps.size)
    (I : List α → World → Prop) (Ix : Code → List α → World → Prop) (hI : OwnFrom w.heap.size I) (hIx : ∀ c, OwnFrom w.heap.size (Ix c))
    (hIs : ∀ pre W v v', I pre W → Boxed W Bx t v → I pre (W.setCell ⟨Bx, 0, none⟩ v')) (h0 : I [] w) (a₁ : α → Act)
    (hassign : ∀ (l : Nat) (x : α) (W : World) (K : Act → World → Prop), K (a₁ x) W →
      assign.wpIn (F.inRound l) (n - 1 - 1) P (Exit.then K (fun _ _ _ => False)) { tmps := (ps.zip (encs x)).foldl (fun t (p, v) => t.setIfInBounds p v) a.tmps, defers := [] } W)
    (hbody : ∀ (l : Nat) (pre : List α) (x : α) (W : World), I pre W → (∃ r, xs = pre ++ x :: r) → body.wpIn (F.inRound l) (n - 1 - 1) P (ownPostG w.heap.size Kp I Ix (pre ++ [x]) W) (a₁ x) W)
    (hdone : ∀ (D : Nat) (W : World), w.heap.size ≤ D → I xs W → W.heap[D]? = some (.deferred (some [])) → Q .normal { a with defers := { target := .collected D, args := #[] } :: a.defers } W)
    (hstop : ∀ (D : Nat) (c : Code) (pre : List α) (W : World), w.heap.size ≤ D → pre <+: xs → Ix c pre W → W.heap[D]? = some (.deferred (some [])) → c.wpIn F n P Q { a with defers := { target := .collected D, args := #[] } :: a.defers } W) :
    (Code.rangeFunc g ps assign body).wpIn F n P Q a w := by
  refine wpIn_rangeFunc fun fn hfn => ?_
  rw [hro]
  obtain ⟨rec, hrec⟩ : ∃ rec : LoopState → Option Code → Loop, rec = recOf fn a.tmps ps assign body w.heap.size := ⟨_, rfl⟩
  obtain ⟨D, hD⟩ : ∃ D, D = w.heap.size := ⟨_, rfl⟩
  obtain ⟨W1, hW1⟩ : ∃ W1, W1 = (w.alloc (.deferred (some []))).alloc (.loop (rec .ready none)) := ⟨_, rfl⟩
  have hR1 : Records D (rec .ready none) W1 := by
    have e := World.alloc_heap_new (w.alloc (.deferred (some []))) (.loop (rec .ready none))
    rw [World.size_alloc] at e
    rw [hW1, hD]
    exact ⟨e, (Below.heap_alloc _ _ _ (by simp)).trans (World.alloc_heap_new w _)⟩
  have hI1 : I [] W1 := by rw [hW1]; exact hI.alloc _ (hI.alloc _ h0)
  have hb1 : Below w.heap.size w W1 := by rw [hW1]; exact ((Below.refl _ w).alloc (Nat.le_refl _) _).alloc (by simp) _
  refine ⟨D + 1, [{ target := .collected D, args := #[] }], W1, { target := .fn (.func gf) lb, args := #[.func (.yield (D + 1)) #[] #[]] }, W1, gf, #[.func (.yield (D + 1)) #[] #[]] ++ lb, W1, ?_, ?_, ?_, ?_, fun _ => h1, ?_⟩
  · rw [hW1, hrec, hD]
    exact run_enterLoop_outer _ _ _ _ _
  · simp only [resolve, hg]
    simp [go_sem]
  · intro f' hf'
    simp [Target.leads] at hf'
    subst hf'
    exact hFg
  · simp [invoke, go_sem, eg]
  · have hcall := hseq (D + 1) (fun pre W => I pre W ∧ Records D (rec .ready none) W) (fun pre W => ∃ c, Ix c pre W ∧ Records D (rec .done (some c)) W) W1 hb1
      (fun pre W v v' hs hv => ⟨hIs pre W v v' hs.1 hv, hs.2.set (by omega) v'⟩)
      (fun pre x W hs hr => by
        obtain ⟨hi, hrc⟩ := hs
        have hy := run_yield (P := P) (args := encs x) hrc.1 (by rw [hrec]; exact hps x)
        rw [hrec] at hy
        refine ⟨fn, _, assign, body, hy, roundIn_of_wpIn hfn (hassign _ x W _ ⟨_, run_beginRound hrc.1 (by rw [hrec]; rfl), ?_⟩)⟩
        have hrb := hrc.put { rec .ready none with state := .busy }
        have hkb := hKb W (D + 1) _ (.loop { rec .ready none with state := .busy }) (by omega) hrc.1 rfl
        refine wpIn_mono (hbody _ pre x _ (hI.putObj _ hi (by omega) hrc.1 rfl) hr) ?_
        obtain ⟨Wb, hWb⟩ : ∃ Wb, Wb = W.putObj (D + 1) (.loop { rec .ready none with state := .busy }) := ⟨_, rfl⟩
        rw [← hWb] at hrb hkb ⊢
        have fin : ∀ (jump : Option Code) (W3 : World), KeepsFrom w.heap.size Wb W3 →
            (Instr.endRound (D + 1) jump).run P W3 = .ok (.bool jump.isNone) (W3.putObj (D + 1) (.loop (rec (if jump.isNone then .ready else .done) jump))) ∧
            Records D { rec .ready none with state := .busy } W3 := fun jump W3 hk => by
          have hr3 := hrb.kept hk (by omega)
          have e := run_endRound (P := P) jump hr3.1
          refine ⟨?_, hr3⟩
          rw [hrec] at e ⊢
          exact e
        rintro e a3 W3 hp
        cases e with
        | normal =>
          obtain ⟨hk, hkp, hi3⟩ := hp
          obtain ⟨hr3, hrc3⟩ := fin none W3 hk
          exact ⟨_, _, hr3, .inl ⟨rfl, ⟨hI.putObj _ hi3 (by omega) hrc3.1 rfl, hrc3.put _⟩, hKt (hKt hkb hkp) (hKb _ _ _ _ (by omega) hrc3.1 rfl)⟩⟩
        | ret =>
          obtain ⟨hk, hi3⟩ := hp
          obtain ⟨hr3, hrc3⟩ := fin (some .ret) W3 hk
          exact ⟨_, _, hr3, .inr ⟨rfl, .ret, (hIx _).putObj _ hi3 (by omega) hrc3.1 rfl, hrc3.put _⟩⟩
        | exit id =>
          obtain ⟨hk, hi3⟩ := hp
          obtain ⟨hr3, hrc3⟩ := fin (some (.exit id)) W3 hk
          exact ⟨_, _, hr3, .inr ⟨rfl, .exit id, (hIx _).putObj _ hi3 (by omega) hrc3.1 rfl, hrc3.put _⟩⟩
        | goto t =>
          obtain ⟨hk, hi3⟩ := hp
          obtain ⟨hr3, hrc3⟩ := fin (some (.goto t)) W3 hk
          exact ⟨_, _, hr3, .inr ⟨rfl, .goto t, (hIx _).putObj _ hi3 (by omega) hrc3.1 rfl, hrc3.put _⟩⟩
        | panic ch => exact hp.elim
        | outgrown => exact hp.elim)
      ⟨hI1, hR1⟩
    refine hcall.mono ?_
    rintro e W2 ⟨⟨v, rfl⟩, (⟨hi, hrc⟩ | ⟨pre, hpre, c, hi, hrc⟩)⟩
    · have e := run_endLoop (P := P) hrc.1 (by rw [hrec]; simp [recOf])
      refine ⟨none, _, by rw [hrec] at e; exact e, ?_⟩
      have h2 := hI.putObj (.loop { rec .ready none with state := .exhausted }) hi (show w.heap.size ≤ D + 1 by omega) hrc.1 rfl
      have h3 := (hrc.put { rec .ready none with state := .exhausted }).2
      rw [hrec] at h2 h3
      rw [hD] at h2 h3 ⊢
      exact hdone _ _ (Nat.le_refl _) h2 h3
    · have e := run_endLoop (P := P) hrc.1 (by rw [hrec]; simp [recOf])
      refine ⟨some c, _, by rw [hrec] at e; exact e, ?_⟩
      have h2 := (hIx c).putObj (.loop { rec .done (some c) with state := .exhausted }) hi (show w.heap.size ≤ D + 1 by omega) hrc.1 rfl
      have h3 := (hrc.put { rec .done (some c) with state := .exhausted }).2
      rw [hrec] at h2 h3
      rw [hD] at h2 h3 ⊢
      exact hstop _ _ _ _ (Nat.le_refl _) hpre h2 h3

end Go.Proofs.YtogpicfofifbkaaDoor
