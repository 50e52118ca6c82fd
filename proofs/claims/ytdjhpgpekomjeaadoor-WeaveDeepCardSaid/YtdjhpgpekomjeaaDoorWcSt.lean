/- The landed weave's state in memory: what its blocks are, how they move. No condition. -/
import Derived.Test.YtdjhpgpekomjeaaDoorWcCat
import Derived.Test.YtdjhpgpekomjeaaDoorTokLib
import Derived.Maps.OwnSet
namespace Go.Proofs.YtdjhpgpekomjeaaDoor.LandedW
open Go.RowKit Go.Maps

/-- A map's element is read as what it is. -/
def heldR (v : Value) : Option (DataW Value × List MemPlace) := some (.held v, [])

/-! ### What a call of the landed weave may turn -/
/-- Of what was there only the blocks of X have turned; what is written now was written ahead, or is new. -/
structure Moved (X X' : Nat → Prop) (w w' : World) : Prop where
  os : w'.os = w.os
  tape : w'.tape = w.tape
  output : w'.output = w.output
  size : w.heap.size ≤ w'.heap.size
  block : ∀ b, b < w.heap.size → ¬ X b → w'.heap[b]? = w.heap[b]?
  less : ∀ b, b < w.heap.size → X' b → X b

section
variable {X X' X'' : Nat → Prop} {w w' w'' : World}
theorem Moved.trans (h : Moved X X' w w') (k : Moved X' X'' w' w'') : Moved X X'' w w'' :=
  ⟨k.os.trans h.os, k.tape.trans h.tape, k.output.trans h.output, Nat.le_trans h.size k.size,
    fun b hb hx => (k.block b (Nat.lt_of_lt_of_le hb h.size) (fun e => hx (h.less b hb e))).trans (h.block b hb hx),
    fun b hb hx => h.less b hb (k.less b (Nat.lt_of_lt_of_le hb h.size) hx)⟩
theorem Moved.of_below (X : Nat → Prop) (h : Below w.heap.size w w') : Moved X X w w' := ⟨h.os, h.tape, h.output, h.size, fun b hb _ => h.block b hb, fun _ _ h => h⟩
theorem Moved.of_grown {row : Option Nat} (h : w.grownBy w' row) (hr : ∀ b, row = some b → X b) (hl : ∀ b, b < w.heap.size → X' b → X b) : Moved X X' w w' :=
  ⟨h.os, h.tape, h.output, h.size, fun b hb hx => h.block b hb (fun e => hx (hr b e.symm)), hl⟩
/-- What lies outside lies there still. -/
theorem Moved.box {b : Nat} {t : TypeId} {cs : Array Value} (h : Moved X X' w w') (hb : Box w b t cs) (hx : ¬ X b) : Box w' b t cs := (h.block b hb.lt hx).trans hb
/-- Below a block from which on all that is written lies. -/
theorem Moved.below {a : World} {B : Nat} (h : Moved X X' w w') (hb : Below B a w) (hB : B ≤ w.heap.size) (hX : ∀ b, X b → B ≤ b) : Below B a w' :=
  hb.trans ⟨h.os, h.tape, h.output, h.size, fun b hlt => h.block b (by omega) (fun e => by have := hX b e; omega)⟩
end

/-- The slice lies in no block of X. -/
def LiesT (X : Nat → Prop) (w : World) (size : Nat) (A : Option Addr) (n : Nat) (xs : List Value) : Prop :=
  xs.length = n * size ∧ (0 < n → ∃ b o, A = some ⟨b, o, none⟩ ∧ b < w.heap.size ∧ ¬ X b ∧ ∀ j u, xs[j]? = some u → w.cell? ⟨b, o + j, none⟩ = some u)

section
variable {X X' : Nat → Prop} {w w' : World} {size n : Nat} {A : Option Addr} {xs : List Value}
theorem LiesT.lies (h : LiesT X w size A n xs) : Lies w w.heap.size size A n xs :=
  ⟨h.1, fun hn => by obtain ⟨b, o, h1, h2, _, h4⟩ := h.2 hn; exact ⟨b, o, h1, h2, h4⟩⟩
theorem LiesT.moved (h : LiesT X w size A n xs) (hm : Moved X X' w w') : LiesT X' w' size A n xs :=
  ⟨h.1, fun hn => by
    obtain ⟨b, o, h1, h2, h3, h4⟩ := h.2 hn
    refine ⟨b, o, h1, Nat.lt_of_lt_of_le h2 hm.size, fun e => h3 (hm.less b h2 e), fun j u hu => ?_⟩
    rw [World.cell?_of_block (w := w) (a := ⟨b, o + j, none⟩) (hm.block b h2 h3)]
    exact h4 j u hu⟩
/-- A row that is new lies in none of them. -/
theorem LiesT.of_own {base c : Nat} {e : TypeId} (h : w.ownsRow base e size (.slice A n c) n xs) (hx : ∀ b, b < w.heap.size → base ≤ b → ¬ X b) : LiesT X w size A n xs := by
  refine ⟨h.1, fun hn => ?_⟩
  obtain ⟨b, o, h1, h2, h4⟩ := (Lies.of_own h).2 hn
  subst h1
  exact ⟨b, o, rfl, h2, hx b h2 (h.lt b rfl).1, h4⟩
end

/-! ### Its state -/
/-- The files that came in, and where. -/
structure Came where
  A : Option Addr
  n : Nat
  c : Nat
  fs : List FileV
  w : World
  g : Nat
  m : Nat

/-- What it may write. -/
def Writes (C : Came) (R Q : Value) (b : Nat) : Prop := b = C.g ∨ b = C.m ∨ R.ownBlock = some b ∨ Q.ownBlock = some b

/-- R: the files that are being read; Q: the pieces; D: the map; o: R's numbers; k: how many were included; qs, ps: Q's lists as values and as lists of tokens; d: a bound on the map's entries. -/
structure Sta (C : Came) (R Q : Value) (D : DataW Value) (o : List Nat) (k : Nat) (qs : List Value) (ps : List (List FTok)) (d : Nat) (w : World) : Prop where
  below : Below C.w.heap.size C.w w
  fresh : ∀ b, Writes C R Q b → C.w.heap.size ≤ b
  box : Box w C.g 42 #[.slice C.A C.n C.c, .map (some C.m), R, .int .i64 (k : Int), Q]
  map : w.ownsMap Tryd.prog 3 heldR C.m d D
  reads : w.ownsRow C.w.heap.size 3 1 R o.length (natsV o)
  runs : w.ownsRow C.w.heap.size 26 1 Q ps.length qs
  gm : C.g ≠ C.m
  gR : R.ownBlock ≠ some C.g
  gQ : Q.ownBlock ≠ some C.g
  mR : R.ownBlock ≠ some C.m
  mQ : Q.ownBlock ≠ some C.m
  apart : Apart R Q
  piece : ∀ (i : Nat) (q : Value) (r : List FTok), qs[i]? = some q → ps[i]? = some r → ∃ (A : Option Addr) (c : Nat), q = Value.slice A r.length c ∧ LiesT (Writes C R Q) w 4 A r.length (ftoksV r)
  short : ∀ r ∈ ps, r.length ≤ 20000
  kept : ∀ (n : Nat) (f : FileV), C.fs[n]? = some f → Maps.has D (.int .i64 (n : Int)) = true → ∃ (A : Option Addr) (c : Nat) (t : List TokV), D.atKey (.int .i64 (n : Int)) (.held (.slice none 0 0)) = .held (.slice A t.length c) ∧ t.length ≤ c ∧ splitOf f.2.data.toList = .ok t ∧ LiesT (Writes C R Q) w 4 A t.length (toksV (n : Int) t)

section
variable {C : Came} {R Q : Value} {D : DataW Value} {o : List Nat} {k : Nat} {qs : List Value} {ps : List (List FTok)} {d : Nat} {w w' : World}

theorem Sta.lt (h : Sta C R Q D o k qs ps d w) : ∀ b, Writes C R Q b → b < w.heap.size := by
  rintro b (rfl | rfl | hb | hb)
  · exact h.box.lt
  · exact h.map.lt
  · exact (h.reads.lt b hb).2
  · exact (h.runs.lt b hb).2

/-- A call that writes nothing that was there. -/
theorem Sta.step (h : Sta C R Q D o k qs ps d w) (hb : Below w.heap.size w w') : Sta C R Q D o k qs ps d w' := by
  have hm := Moved.of_below (Writes C R Q) hb
  have hg : w.grownBy w' none := ⟨hb.os, hb.tape, hb.output, hb.size, fun i hi _ => hb.block i hi⟩
  refine ⟨h.below.trans (hb.mono h.below.size), h.fresh, h.box.step hb, h.map.kept hg (by simp), own_below h.reads hb, own_below h.runs hb, h.gm, h.gR, h.gQ, h.mR, h.mQ, h.apart, ?_, h.short, ?_⟩
  · intro i q r hq hr
    obtain ⟨A, c, h1, h2⟩ := h.piece i q r hq hr
    exact ⟨A, c, h1, h2.moved hm⟩
  · intro n f hf hn
    obtain ⟨A, c, t, h1, h2, h3, h4⟩ := h.kept n f hf hn
    exact ⟨A, c, t, h1, h2, h3, h4.moved hm⟩

theorem own_of_ne {e : TypeId} {size n base : Nat} {v : Value} {xs : List Value} {g : Nat} (h : w.ownsRow base e size v n xs) (hg : w.grownBy w' (some g)) (hn : v.ownBlock ≠ some g) : w'.ownsRow base e size v n xs :=
  h.kept hg (.inr hn)

/-- The number of includes is written. -/
theorem Sta.count (h : Sta C R Q D o k qs ps d w) (k' : Nat) : Sta C R Q D o k' qs ps d (w.setCell ⟨C.g, 3, none⟩ (.int .i64 (k' : Int))) ∧ Moved (Writes C R Q) (Writes C R Q) w (w.setCell ⟨C.g, 3, none⟩ (.int .i64 (k' : Int))) := by
  have ho := only_set w C.g 3 (.int .i64 (k' : Int))
  have hm : Moved (Writes C R Q) (Writes C R Q) w (w.setCell ⟨C.g, 3, none⟩ (.int .i64 (k' : Int))) := Moved.of_grown ho (fun b hb => .inl (Option.some.inj hb).symm) (fun _ _ h => h)
  have hbx := h.box.set 3 (.int .i64 (k' : Int))
  refine ⟨⟨hm.below h.below h.below.size h.fresh, h.fresh, by simpa using hbx, h.map.kept ho (fun e => h.gm (Option.some.inj e).symm), own_of_ne h.reads ho h.gR, own_of_ne h.runs ho h.gQ, h.gm, h.gR, h.gQ, h.mR, h.mQ, h.apart, ?_, h.short, ?_⟩, hm⟩
  · intro i q r hq hr
    obtain ⟨A, c, h1, h2⟩ := h.piece i q r hq hr
    exact ⟨A, c, h1, h2.moved hm⟩
  · intro n f hf hn
    obtain ⟨A, c, t, h1, h2, h3, h4⟩ := h.kept n f hf hn
    exact ⟨A, c, t, h1, h2, h3, h4.moved hm⟩

theorem moved_pieces {X X' : Nat → Prop} (hm : Moved X X' w w') (h : ∀ (i : Nat) (q : Value) (r : List FTok), qs[i]? = some q → ps[i]? = some r → ∃ (A : Option Addr) (c : Nat), q = Value.slice A r.length c ∧ LiesT X w 4 A r.length (ftoksV r)) :
    ∀ (i : Nat) (q : Value) (r : List FTok), qs[i]? = some q → ps[i]? = some r → ∃ (A : Option Addr) (c : Nat), q = Value.slice A r.length c ∧ LiesT X' w' 4 A r.length (ftoksV r) := by
  intro i q r hq hr
  obtain ⟨A, c, h1, h2⟩ := h i q r hq hr
  exact ⟨A, c, h1, h2.moved hm⟩

theorem moved_kept {X X' : Nat → Prop} {fs : List FileV} (hm : Moved X X' w w') (h : ∀ (n : Nat) (f : FileV), fs[n]? = some f → Maps.has D (.int .i64 (n : Int)) = true → ∃ (A : Option Addr) (c : Nat) (t : List TokV), D.atKey (.int .i64 (n : Int)) (.held (.slice none 0 0)) = .held (.slice A t.length c) ∧ t.length ≤ c ∧ splitOf f.2.data.toList = .ok t ∧ LiesT X w 4 A t.length (toksV (n : Int) t)) :
    ∀ (n : Nat) (f : FileV), fs[n]? = some f → Maps.has D (.int .i64 (n : Int)) = true → ∃ (A : Option Addr) (c : Nat) (t : List TokV), D.atKey (.int .i64 (n : Int)) (.held (.slice none 0 0)) = .held (.slice A t.length c) ∧ t.length ≤ c ∧ splitOf f.2.data.toList = .ok t ∧ LiesT X' w' 4 A t.length (toksV (n : Int) t) := by
  intro n f hf hn
  obtain ⟨A, c, t, h1, h2, h3, h4⟩ := h n f hf hn
  exact ⟨A, c, t, h1, h2, h3, h4.moved hm⟩

/-- R is a row of some other length in the same block, or in one that is new; its field is written. -/
theorem Sta.rowR {R' : Value} {o' : List Nat} {w1 : World} (h : Sta C R Q D o k qs ps d w) (ho : w1.ownsRow C.w.heap.size 3 1 R' o'.length (natsV o')) (hg : w.grownBy w1 R.ownBlock) (hat : R'.ownBlock = R.ownBlock ∨ ∃ b, R'.ownBlock = some b ∧ w.heap.size ≤ b) :
    Sta C R' Q D o' k qs ps d (w1.setCell ⟨C.g, 2, none⟩ R') ∧ Moved (Writes C R Q) (Writes C R' Q) w (w1.setCell ⟨C.g, 2, none⟩ R') := by
  have hx : ∀ x, x < w.heap.size → R.ownBlock ≠ some x → R'.ownBlock ≠ some x := by
    intro x hxl hx e
    rcases hat with e1 | ⟨b, e1, hb⟩
    · exact hx (e1 ▸ e)
    · rw [e1] at e
      have := Option.some.inj e
      omega
  have hless : ∀ b, b < w.heap.size → Writes C R' Q b → Writes C R Q b := by
    rintro b hb (e | e | e | e)
    · exact .inl e
    · exact .inr (.inl e)
    · exact .inr (.inr (.inl (Classical.byContradiction fun hn => hx b hb hn e)))
    · exact .inr (.inr (.inr e))
  have hm1 : Moved (Writes C R Q) (Writes C R' Q) w w1 := Moved.of_grown hg (fun b hb => .inr (.inr (.inl hb))) hless
  have ho2 := only_set w1 C.g 2 R'
  have hm2 : Moved (Writes C R' Q) (Writes C R' Q) w1 (w1.setCell ⟨C.g, 2, none⟩ R') := Moved.of_grown ho2 (fun b hb => .inl (Option.some.inj hb).symm) (fun _ _ h => h)
  have hm := hm1.trans hm2
  have hgR' : R'.ownBlock ≠ some C.g := hx _ h.box.lt h.gR
  have hmR' : R'.ownBlock ≠ some C.m := hx _ h.map.lt h.mR
  have hbx : Box w1 C.g 42 #[.slice C.A C.n C.c, .map (some C.m), R, .int .i64 (k : Int), Q] := (hg.block C.g h.box.lt (fun e => h.gR e.symm)).trans h.box
  have hbx2 := hbx.set 2 R'
  refine ⟨⟨hm.below h.below h.below.size h.fresh, ?_, by simpa using hbx2, (h.map.kept hg (fun e => h.mR e.symm)).kept ho2 (fun e => h.gm (Option.some.inj e).symm), own_of_ne ho ho2 hgR', own_of_ne (h.runs.kept hg ?_) ho2 h.gQ, h.gm, hgR', h.gQ, hmR', h.mQ, ?_, moved_pieces hm h.piece, h.short, moved_kept hm h.kept⟩, hm⟩
  · rintro b (e | e | e | e)
    · exact h.fresh b (.inl e)
    · exact h.fresh b (.inr (.inl e))
    · exact (ho.lt b e).1
    · exact h.fresh b (.inr (.inr (.inr e)))
  · cases hq : Q.ownBlock with
    | none => exact .inl rfl
    | some b => exact .inr fun e => h.apart b e.symm hq
  · intro b e1 e2
    exact hx b (h.runs.lt b e2).2 (fun e => h.apart b e e2) e1

/-- The same of the pieces, by one more. -/
theorem Sta.rowQ {Q' : Value} {A : Option Addr} {c : Nat} {r : List FTok} {w1 : World} (h : Sta C R Q D o k qs ps d w) (ho : w1.ownsRow C.w.heap.size 26 1 Q' (ps.length + 1) (qs ++ [.slice A r.length c])) (hg : w.grownBy w1 Q.ownBlock) (hat : Q'.ownBlock = Q.ownBlock ∨ ∃ b, Q'.ownBlock = some b ∧ w.heap.size ≤ b)
    (hr : LiesT (Writes C R Q) w 4 A r.length (ftoksV r)) (hrl : r.length ≤ 20000) :
    Sta C R Q' D o k (qs ++ [.slice A r.length c]) (ps ++ [r]) d (w1.setCell ⟨C.g, 4, none⟩ Q') ∧ Moved (Writes C R Q) (Writes C R Q') w (w1.setCell ⟨C.g, 4, none⟩ Q') := by
  have hx : ∀ x, x < w.heap.size → Q.ownBlock ≠ some x → Q'.ownBlock ≠ some x := by
    intro x hxl hx e
    rcases hat with e1 | ⟨b, e1, hb⟩
    · exact hx (e1 ▸ e)
    · rw [e1] at e
      have := Option.some.inj e
      omega
  have hless : ∀ b, b < w.heap.size → Writes C R Q' b → Writes C R Q b := by
    rintro b hb (e | e | e | e)
    · exact .inl e
    · exact .inr (.inl e)
    · exact .inr (.inr (.inl e))
    · exact .inr (.inr (.inr (Classical.byContradiction fun hn => hx b hb hn e)))
  have hm1 : Moved (Writes C R Q) (Writes C R Q') w w1 := Moved.of_grown hg (fun b hb => .inr (.inr (.inr hb))) hless
  have ho2 := only_set w1 C.g 4 Q'
  have hm2 : Moved (Writes C R Q') (Writes C R Q') w1 (w1.setCell ⟨C.g, 4, none⟩ Q') := Moved.of_grown ho2 (fun b hb => .inl (Option.some.inj hb).symm) (fun _ _ h => h)
  have hm := hm1.trans hm2
  have hgQ' : Q'.ownBlock ≠ some C.g := hx _ h.box.lt h.gQ
  have hmQ' : Q'.ownBlock ≠ some C.m := hx _ h.map.lt h.mQ
  have hbx : Box w1 C.g 42 #[.slice C.A C.n C.c, .map (some C.m), R, .int .i64 (k : Int), Q] := (hg.block C.g h.box.lt (fun e => h.gQ e.symm)).trans h.box
  have hbx2 := hbx.set 4 Q'
  have hql : qs.length = ps.length := by have := h.runs.1; omega
  have ho' : w1.ownsRow C.w.heap.size 26 1 Q' (ps ++ [r]).length (qs ++ [.slice A r.length c]) := by rw [List.length_append]; exact ho
  refine ⟨⟨hm.below h.below h.below.size h.fresh, ?_, by simpa using hbx2, (h.map.kept hg (fun e => h.mQ e.symm)).kept ho2 (fun e => h.gm (Option.some.inj e).symm), own_of_ne (h.reads.kept hg ?_) ho2 h.gR, own_of_ne ho' ho2 hgQ', h.gm, h.gR, hgQ', h.mR, hmQ', ?_, ?_, ?_, moved_kept hm h.kept⟩, hm⟩
  · rintro b (e | e | e | e)
    · exact h.fresh b (.inl e)
    · exact h.fresh b (.inr (.inl e))
    · exact h.fresh b (.inr (.inr (.inl e)))
    · exact (ho.lt b e).1
  · cases hq : R.ownBlock with
    | none => exact .inl rfl
    | some b => exact .inr fun e => h.apart b hq e.symm
  · intro b e1 e2
    exact hx b (h.reads.lt b e1).2 (fun e => h.apart b e1 e) e2
  · intro i q s hq hs
    rcases Nat.lt_or_ge i ps.length with hi | hi
    · rw [List.getElem?_append_left (by omega)] at hq
      rw [List.getElem?_append_left hi] at hs
      exact moved_pieces hm h.piece i q s hq hs
    · obtain rfl : i = ps.length := by
        have := (List.getElem?_eq_some_iff.1 hs).1
        rw [List.length_append, List.length_singleton] at this
        omega
      rw [List.getElem?_append_right (by omega), hql, Nat.sub_self] at hq
      rw [List.getElem?_append_right (Nat.le_refl _), Nat.sub_self] at hs
      obtain rfl : r = s := by simpa using hs
      have hq' : Value.slice A r.length c = q := by simpa using hq
      exact ⟨A, c, hq'.symm, hr.moved hm⟩
  · intro x hx
    rcases List.mem_append.1 hx with hx | hx
    · exact h.short x hx
    · rw [List.mem_singleton.1 hx]
      exact hrl

/-- A file's tokens are kept. -/
theorem Sta.learn {n : Nat} {f : FileV} {A : Option Addr} {c : Nat} {t : List TokV} {w1 : World} (h : Sta C R Q D o k qs ps d w) (hf : C.fs[n]? = some f) (ho : w1.ownsMap Tryd.prog 3 heldR C.m (d + 1) (D.put (.int .i64 (n : Int)) (.held (.slice A t.length c)))) (hg : w.grownBy w1 (some C.m))
    (ht : splitOf f.2.data.toList = .ok t) (htc : t.length ≤ c) (hl : LiesT (Writes C R Q) w 4 A t.length (toksV (n : Int) t)) :
    Sta C R Q (D.put (.int .i64 (n : Int)) (.held (.slice A t.length c))) o k qs ps (d + 1) w1 ∧ Moved (Writes C R Q) (Writes C R Q) w w1 := by
  have hm : Moved (Writes C R Q) (Writes C R Q) w w1 := Moved.of_grown hg (fun b hb => .inr (.inl (Option.some.inj hb).symm)) (fun _ _ h => h)
  refine ⟨⟨hm.below h.below h.below.size h.fresh, h.fresh, box_only h.box h.gm hg, ho, own_of_ne h.reads hg h.mR, own_of_ne h.runs hg h.mQ, h.gm, h.gR, h.gQ, h.mR, h.mQ, h.apart, moved_pieces hm h.piece, h.short, ?_⟩, hm⟩
  intro i f' hf' hi
  by_cases e : i = n
  · subst e
    rw [hf] at hf'
    obtain rfl := Option.some.inj hf'
    exact ⟨A, c, t, atKey_put_same h.map.isMap (by simp [WideAt.IsKeyLit]) _ _, htc, ht, hl.moved hm⟩
  · have hne : (Lit.int .i64 (i : Int)) ≠ .int .i64 (n : Int) := fun e2 => e (by injection e2 with _ e3; omega)
    rw [has_put_other hne] at hi
    rw [atKey_put_other hne]
    exact moved_kept hm h.kept i f' hf' hi

/-- A row without its last. -/
theorem own_less {base cap : Nat} {e : TypeId} {A : Option Addr} {l : List Value} {x : Value} (h : w.ownsRow base e 1 (.slice A (l.length + 1) cap) (l.length + 1) (l ++ [x])) : w.ownsRow base e 1 (.slice A l.length cap) l.length l := by
  obtain ⟨h1, ⟨h2, h3⟩ | ⟨g, cap', cur, hv, hb, hg, hn, hc, hs, ht⟩⟩ := h
  · omega
  · injection hv with e1 e2 e3
    subst e1 e3
    refine ⟨by omega, .inr ⟨g, cap, cur, rfl, hb, hg, by omega, hc, hs, ?_⟩⟩
    rw [Nat.mul_one] at ht ⊢
    have : cur.toList.take l.length = (cur.toList.take (l.length + 1)).take l.length := by rw [List.take_take]; congr 1; omega
    rw [this, ht]
    simp

end

end Go.Proofs.YtdjhpgpekomjeaaDoor.LandedW
