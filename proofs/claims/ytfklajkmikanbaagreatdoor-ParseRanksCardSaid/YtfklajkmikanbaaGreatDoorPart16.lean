/- Texts of mine put together (a claim has at most so many files): ParEit, TreeHd. -/
import Derived.Test.YtfklajkmikanbaaGreatDoorPart15
import Derived.Test.YtfklajkmikanbaaGreatDoorParCmp
import Derived.Test.YtfklajkmikanbaaGreatDoorTreeTold
import Derived.Test.YtfklajkmikanbaaGreatDoorPart2
import Derived.Test.YtfklajkmikanbaaGreatDoorSeqFree
import Derived.WalkSmall
/- The landed parser's levels in memory, while a condition is read. No condition. -/
namespace Go.Proofs.YtfklajkmikanbaaGreatDoor.LandedP
open Go.RowKit

theorem own_ne {w w' : World} {base size n g : Nat} {e : TypeId} {v : Value} {xs : List Value} (h : w.ownsRow base e size v n xs) (hg : w.grownBy w' (some g)) (hn : v.ownBlock ≠ some g) : w'.ownsRow base e size v n xs := h.kept hg (.inr hn)

/-- Where what is read may lie: behind the level's block, not in the row's, and not in k. -/
def Free (H : Nat) (S : Value) (k : Nat) (b : Nat) : Prop := H + 2 ≤ b ∧ S.ownBlock ≠ some b ∧ b ≠ k

/-- L: those around; now: the one that is being read; H: the result's block, and behind it now's. -/
structure EitAt (w : World) (g : Nat) (E : Env) (k : Nat) (L : List Lvl) (now : Lvl) (R : List Tk) (S : Value) (W : World) : Prop where
  frame : w.grownBy W (some g)
  low : g < w.heap.size
  res : Box W w.heap.size 48 #[.int .i64 0, .string ⟨#[]⟩, .string ⟨#[]⟩, .int .u64 0, .slice none 0 0]
  box : Box W (w.heap.size + 1) 137 now.cells.toArray
  row : W.ownsRow (w.heap.size + 2) 137 3 S L.length (L.flatMap Lvl.cells)
  lv : ∀ x ∈ L, LvP (Free w.heap.size S k) W x
  nowP : LvP (Free w.heap.size S k) W now
  rdr : RdrAt 66 W g E R Flt.none

section
variable {w W W' : World} {g k : Nat} {E : Env} {L : List Lvl} {now : Lvl} {R R' : List Tk} {S : Value}

theorem EitAt.ne (h : EitAt w g E k L now R S W) {b : Nat} (hb : b < w.heap.size + 2) : S.ownBlock ≠ some b := fun e => by
  have := (h.row.lt b e).1
  omega

/-- A call of the reader's. -/
theorem EitAt.call (h : EitAt w g E k L now R S W) (ho : W.grownBy W' (some g)) (hr : RdrAt 66 W' g E R' Flt.none) : EitAt w g E k L now R' S W' := by
  have hl := h.low
  have hm : Move (Free w.heap.size S k) (Free w.heap.size S k) W W' := Move.grown ho fun b _ hp => ⟨hp, fun e => by have := Option.some.inj e; have := hp.1; omega⟩
  exact ⟨only_trans h.frame ho, hl, box_only h.res (by omega) ho, box_only h.box (by omega) ho, own_ne h.row ho (h.ne (by omega)), fun x hx => (h.lv x hx).move hm, h.nowP.move hm, hr⟩

/-- Nothing that was there has turned. -/
theorem EitAt.step (h : EitAt w g E k L now R S W) (hb : Below W.heap.size W W') : EitAt w g E k L now R S W' := h.call (only_below hb g) (h.rdr.step hb)

/-- Another block was written. -/
theorem EitAt.other {j : Nat} (h : EitAt w g E k L now R S W) (ho : W.grownBy W' (some j)) (hj : w.heap.size + 2 ≤ j) (hS : S.ownBlock ≠ some j) (hk : j = k) : EitAt w g E k L now R S W' := by
  subst hk
  have hl := h.low
  have hm : Move (Free w.heap.size S j) (Free w.heap.size S j) W W' := Move.grown ho fun b _ hp => ⟨hp, fun e => hp.2.2 (Option.some.inj e).symm⟩
  exact ⟨grow_new h.frame ho (by omega), hl, box_only h.res (by omega) ho, box_only h.box (by omega) ho, own_ne h.row ho hS, fun x hx => (h.lv x hx).move hm, h.nowP.move hm, h.rdr.other ho (by omega)⟩

/-- Another block is kept apart. -/
theorem EitAt.apart {k' : Nat} (h : EitAt w g E k L now R S W) (hk : W.heap.size ≤ k' ∨ k' < w.heap.size + 2) : EitAt w g E k' L now R S W := by
  have hm : Move (Free w.heap.size S k) (Free w.heap.size S k') W W := Move.of _ fun b hb hp => ⟨hp.1, hp.2.1, by have := hp.1; omega⟩
  exact ⟨h.frame, h.low, h.res, h.box, h.row, fun x hx => (h.lv x hx).move hm, h.nowP.move hm, h.rdr⟩

/-- The reader was turned, then the level. -/
theorem EitAt.two {x : Lvl} {W1 : World} (h : EitAt w g E k L now R S W) (h1 : W.grownBy W1 (some g)) (h2 : W1.grownBy W' (some (w.heap.size + 1))) (hb : Box W' (w.heap.size + 1) 137 x.cells.toArray) (hx : LvP (Free w.heap.size S k) W' x) (hr : RdrAt 66 W' g E R' Flt.none) : EitAt w g E k L x R' S W' := by
  have hl := h.low
  have hm : Move (Free w.heap.size S k) (Free w.heap.size S k) W W' := (Move.grown (Q := Free w.heap.size S k) h1 fun b _ hp => ⟨hp, fun e => by have := Option.some.inj e; have := hp.1; omega⟩).trans (Move.grown h2 fun b _ hp => ⟨hp, fun e => by have := Option.some.inj e; have := hp.1; omega⟩)
  exact ⟨grow_new (only_trans h.frame h1) h2 (by omega), hl, box_only (box_only h.res (by omega) h1) (by omega) h2, hb, own_ne (own_ne h.row h1 (h.ne (by omega))) h2 (h.ne (by omega)), fun y hy => (h.lv y hy).move hm, hx, hr⟩

/-- The level is written. -/
theorem EitAt.level {x : Lvl} (h : EitAt w g E k L now R S W) (ho : W.grownBy W' (some (w.heap.size + 1))) (hb : Box W' (w.heap.size + 1) 137 x.cells.toArray) (hx : LvP (Free w.heap.size S k) W x) : EitAt w g E k L x R S W' := by
  have hl := h.low
  have hm : Move (Free w.heap.size S k) (Free w.heap.size S k) W W' := Move.grown ho fun b _ hp => ⟨hp, fun e => by have := Option.some.inj e; have := hp.1; omega⟩
  exact ⟨grow_new h.frame ho (by omega), hl, box_only h.res (by omega) ho, hb, own_ne h.row ho (h.ne (by omega)), fun y hy => (h.lv y hy).move hm, hx.move hm, h.rdr.other ho (by omega)⟩

/-- So many nots. -/
theorem EitAt.nots {n : Nat} (h : EitAt w g E k L now R S W) (hn : n ≤ 1000000) : EitAt w g E k L { now with nots := n } R S (W.setCell ⟨w.heap.size + 1, 2, none⟩ (.int .i64 (n : Int))) := by
  refine h.level (only_set _ _ _ _) ?_ ⟨h.nowP.or, h.nowP.and, h.nowP.one, hn⟩
  have := h.box.set 2 (.int .i64 (n : Int))
  unfold Lvl.cells at this ⊢
  simpa using this

/-- One more around. -/
theorem EitAt.push {S' : Value} {W1 : World} (h : EitAt w g E k L now R S W) (ho : W1.ownsRow (w.heap.size + 2) 137 3 S' (L.length + 1) (L.flatMap Lvl.cells ++ now.cells)) (hg : (W.alloc (.cells now.cells.toArray 137)).grownBy W1 S.ownBlock)
    (hat : S'.ownBlock = S.ownBlock ∨ S'.ownBlock = some (W.heap.size + 1)) : EitAt w g E k (L ++ [now]) now R S' W1 := by
  have hl := h.low
  have h1 := h.step ((Below.refl _ _).alloc (Nat.le_refl _) (.cells now.cells.toArray 137))
  have hne : ∀ b, b < w.heap.size + 2 → S.ownBlock ≠ some b := fun b hb => h.ne hb
  have hx : ∀ b, b < W.heap.size → S.ownBlock ≠ some b → S'.ownBlock ≠ some b := fun b hb hs e => by
    rcases hat with e1 | e1
    · exact hs (e1 ▸ e)
    · rw [e1] at e
      have := Option.some.inj e
      omega
  have hm0 : Move (Free w.heap.size S k) (Free w.heap.size S' k) W (W.alloc (.cells now.cells.toArray 137)) := Move.grown (World.grownBy_alloc W _ none) fun b hb hp => ⟨⟨hp.1, hx b hb hp.2.1, hp.2.2⟩, by simp⟩
  have hm : Move (Free w.heap.size S k) (Free w.heap.size S' k) W W1 :=
    ⟨Nat.le_trans (by simp) hg.size, fun b hb hp => ⟨⟨hp.1, hx b hb hp.2.1, hp.2.2⟩, (hg.block b (by simp; omega) (fun e => hp.2.1 e.symm)).trans (Below.heap_alloc W _ b hb)⟩⟩
  have hfr : w.grownBy W1 (some g) := ⟨hg.os.trans h.frame.os, hg.tape.trans h.frame.tape, hg.output.trans h.frame.output, Nat.le_trans h1.frame.size hg.size,
    fun b hb hn => (hg.block b (Nat.lt_of_lt_of_le hb h1.frame.size) (fun e => hne b (by omega) e.symm)).trans (h1.frame.block b hb hn)⟩
  refine ⟨hfr, hl, (hg.block _ h1.res.lt (fun e => hne _ (by omega) e.symm)).trans h1.res, (hg.block _ h1.box.lt (fun e => hne _ (by omega) e.symm)).trans h1.box, ?_, ?_, h.nowP.move hm, ?_⟩
  · rw [List.length_append, List.flatMap_append]
    simpa using ho
  · intro x hx2
    rcases List.mem_append.1 hx2 with hx2 | hx2
    · exact (h.lv x hx2).move hm
    · obtain rfl : x = now := by simpa using hx2
      exact h.nowP.move hm
  · obtain ⟨A, c, hr⟩ := h1.rdr
    have hgl := hr.box.lt
    exact ⟨A, c, (hg.block g hgl (fun e => hne g (by omega) e.symm)).trans hr.box, hr.lies.keep fun p hp => World.cell?_of_block (hg.block p.block (by omega) (fun e => hne p.block (by omega) e.symm)), hr.cap, hr.room, hr.ok,
      fun W2 hW2 => hr.laid W2 ((⟨hg.os, hg.tape, hg.output, hg.size, fun i hi => hg.block i (by omega) (fun e => hne i (by omega) e.symm)⟩ : Below g _ W1).trans hW2)⟩

/-- The last one around is the one that is read. -/
theorem EitAt.pop {top : Lvl} {A : Option Addr} {n c : Nat} (h : EitAt w g E k (L ++ [top]) now R (.slice A (n + 1) c) W) (hn : n = L.length) (ho : W.grownBy W' (some (w.heap.size + 1))) (hb : Box W' (w.heap.size + 1) 137 top.cells.toArray) : EitAt w g E k L top R (.slice A n c) W' := by
  subst hn
  have hS : (Value.slice A (L.length + 1) c).ownBlock = (Value.slice A L.length c).ownBlock := by cases A <;> rfl
  have hF : Free w.heap.size (.slice A (L.length + 1) c) k = Free w.heap.size (.slice A L.length c) k := by unfold Free; rw [hS]
  have h1 := h.level ho hb (h.lv top (by simp))
  refine ⟨h1.frame, h1.low, h1.res, h1.box, ?_, fun x hx => hF ▸ h1.lv x (by simp [hx]), hF ▸ h1.nowP, h1.rdr⟩
  have hr := h1.row
  rw [List.length_append, List.flatMap_append] at hr
  obtain ⟨e1, e2⟩ := hr
  have hcl : ∀ l : List Lvl, (l.flatMap Lvl.cells).length = l.length * 3 := by
    intro l
    induction l with
    | nil => rfl
    | cons a l ih => rw [List.flatMap_cons, List.length_append, ih, List.length_cons]; show 3 + _ = _; omega
  refine ⟨hcl L, ?_⟩
  rcases e2 with ⟨e2, _⟩ | ⟨g', cap, cur, hv, hbase, hbl, hnc, hcap, hsz, htk⟩
  · simp at e2
  · cases hv
    refine .inr ⟨g', c, cur, rfl, hbase, hbl, by simp at hnc; omega, hcap, hsz, ?_⟩
    have := congrArg (List.take (L.length * 3)) htk
    rw [List.take_take] at this
    rw [show min (L.length * 3) ((L.length + [top].length) * 3) = L.length * 3 from by simp] at this
    rw [this, List.take_left' (hcl L)]
end

end Go.Proofs.YtfklajkmikanbaaGreatDoor.LandedP

/- Lists of expressions that wait in a row of a call's own: what they hold, how the row moves. No program. -/
namespace Go.Proofs.YtfklajkmikanbaaGreatDoor.LandedT
open Go.RowKit

/-- A list of expressions, and where it lies. -/
structure Hd where
  A : Option Addr
  c : Nat
  l : List Ex
def Hd.val (h : Hd) : Value := .slice h.A h.l.length h.c

/-- It lies in blocks of T, its expressions' kids below block B0. -/
structure HdAt (T : Nat → Prop) (w0 : World) (B0 : Nat) (wr : World) (h : Hd) : Prop where
  len : h.l.length ≤ h.c
  room : h.c ≤ maxLen
  lies : 0 < h.l.length → ∃ b o, h.A = some ⟨b, o, none⟩ ∧ T b ∧ ∀ (k : Nat) (x : Ex), h.l[k]? = some x → ExAt wr b (o + k * 5) x
  kids : ∀ x ∈ h.l, ExIn w0 B0 x

section
variable {T : Nat → Prop} {w0 w w' : World} {B0 : Nat}
theorem exAt_same {b o : Nat} {x : Ex} (h : ExAt w b o x) (hs : w'.heap[b]? = w.heap[b]?) : ExAt w' b o x := by
  have hc : ∀ i, w'.cell? ⟨b, i, none⟩ = w.cell? ⟨b, i, none⟩ := fun i => World.cell?_of_block hs
  cases x with
  | node kd op nm nu A c ks =>
    obtain ⟨h0, h1, h2, h3, h4⟩ := h
    exact ⟨(hc _).trans h0, (hc _).trans h1, (hc _).trans h2, (hc _).trans h3, (hc _).trans h4⟩
theorem HdAt.keep {h : Hd} (h0 : HdAt T w0 B0 w h) (hk : ∀ b, T b → w'.heap[b]? = w.heap[b]?) : HdAt T w0 B0 w' h :=
  ⟨h0.len, h0.room, fun hp => by obtain ⟨b, o, h1, h2, h3⟩ := h0.lies hp; exact ⟨b, o, h1, h2, fun k x hx => exAt_same (h3 k x hx) (hk b h2)⟩, h0.kids⟩
theorem HdAt.of_kids {A : Option Addr} {c : Nat} {ks : List Ex} (h : SlIn w0 B0 5 Ex.cells (ExIn w0 B0) A c ks) (hb : Below B0 w0 w) (hT : ∀ b, b < B0 → T b) : HdAt T w0 B0 w ⟨A, c, ks⟩ :=
  ⟨h.cap, h.room, fun hp => by
    obtain ⟨x, hx⟩ : ∃ x, ks[0]? = some x := ⟨_, List.getElem?_eq_getElem hp⟩
    obtain ⟨b, o, hA, hlt, _, _⟩ := h.nth hx
    refine ⟨b, o, hA, hT b hlt, fun k y hy => ?_⟩
    obtain ⟨b', o', hA', _, _, e⟩ := h.nth hy
    rw [hA] at hA'
    cases hA'
    exact e.below hlt hb, h.all⟩
theorem HdAt.tail {b o c : Nat} {x : Ex} {r : List Ex} (h : HdAt T w0 B0 w ⟨some ⟨b, o, none⟩, c, x :: r⟩) : HdAt T w0 B0 w ⟨some ⟨b, o + 5, none⟩, c - 1, r⟩ := by
  obtain ⟨h1, h2, h3, h4⟩ := h
  simp only [List.length_cons] at h1 h2 h3
  refine ⟨by show r.length ≤ c - 1; omega, by show c - 1 ≤ maxLen; omega, fun _ => ?_, fun y hy => h4 y (List.mem_cons_of_mem _ hy)⟩
  obtain ⟨b', o', e, hT, hc⟩ := h3 (by omega)
  cases e
  exact ⟨b, o + 5, rfl, hT, fun k y hy => by rw [show o + 5 + k * 5 = o + (k + 1) * 5 from by omega]; exact hc (k + 1) y hy⟩
theorem HdAt.at {h : Hd} (h0 : HdAt T w0 B0 w h) {k : Nat} {x : Ex} (hx : h.l[k]? = some x) : ∃ b o, h.A = some ⟨b, o, none⟩ ∧ T b ∧ ExAt w b (o + k * 5) x ∧ ExIn w0 B0 x := by
  obtain ⟨hk, _⟩ := List.getElem?_eq_some_iff.1 hx
  obtain ⟨b, o, hA, hT, hc⟩ := h0.lies (by omega)
  exact ⟨b, o, hA, hT, hc k x hx, h0.kids x (List.mem_of_getElem? hx)⟩
end

/-! ### The row -/
section
variable {w : World} {base size n cap g : Nat} {e : TypeId} {xs : List Value}
theorem own_box (h : w.ownsRow base e size (.slice (some ⟨g, 0, none⟩) n cap) n xs) : ∃ cur, Box w g e cur ∧ base ≤ g ∧ n ≤ cap ∧ cap ≤ maxLen ∧ cur.size = cap * size ∧ cur.toList.take (n * size) = xs := by
  obtain ⟨_, h2⟩ := h
  rcases h2 with ⟨h0, _⟩ | ⟨g', cap', cur, hv, hg, hh, hn, hcap, hsz, htake⟩
  · cases h0
  · cases hv
    exact ⟨cur, hh, hg, hn, hcap, hsz, htake⟩
theorem own_cell (h : w.ownsRow base e size (.slice (some ⟨g, 0, none⟩) n cap) n xs) {k : Nat} {v : Value} (hv : xs[k]? = some v) : w.cell? ⟨g, k, none⟩ = some v ∧ w.frozen? ⟨g, k, none⟩ = false ∧ g < w.heap.size := by
  obtain ⟨cur, hb, _, _, _, _, ht⟩ := own_box h
  refine ⟨?_, hb.free k, hb.lt⟩
  rw [hb.cell k, ← Array.getElem?_toList]
  have hk := (List.getElem?_eq_some_iff.1 hv).1
  rw [← ht] at hv
  rw [List.getElem?_take] at hv
  split at hv
  · exact hv
  · cases hv
theorem own_put (h : w.ownsRow base e 1 (.slice (some ⟨g, 0, none⟩) n cap) n xs) (k : Nat) (v : Value) : (w.setCell ⟨g, k, none⟩ v).ownsRow base e 1 (.slice (some ⟨g, 0, none⟩) n cap) n (xs.set k v) := by
  obtain ⟨cur, hb, h1, h2, h3, h4, h5⟩ := own_box h
  refine ⟨by rw [List.length_set]; exact h.1, .inr ⟨g, cap, _, rfl, h1, hb.set k v, h2, h3, by rw [Array.size_setIfInBounds]; exact h4, ?_⟩⟩
  rw [← h5, Array.toList_setIfInBounds, List.take_set]
theorem own_pop {last : List Value} {v : Value} {k : Nat} (hx : xs.length = k * size) (h : w.ownsRow base e size v (k + 1) (xs ++ last)) : ∃ g cap, v = .slice (some ⟨g, 0, none⟩) (k + 1) cap ∧ w.ownsRow base e size (.slice (some ⟨g, 0, none⟩) k cap) k xs := by
  obtain ⟨g, cap, rfl⟩ := ownsRow_succ h
  exact ⟨g, cap, rfl, ownsRow_pop hx h⟩
theorem own_same {w' : World} (h : w.ownsRow base e size (.slice (some ⟨g, 0, none⟩) n cap) n xs) (hs : w'.heap[g]? = w.heap[g]?) : w'.ownsRow base e size (.slice (some ⟨g, 0, none⟩) n cap) n xs := by
  obtain ⟨cur, hb, h1, h2, h3, h4, h5⟩ := own_box h
  exact ⟨h.1, .inr ⟨g, cap, cur, rfl, h1, hs.trans hb, h2, h3, h4, h5⟩⟩
end

/-! ### Stacks: the top comes first -/
def Room (K D : Nat) : List Hd → Prop
  | [] => True
  | h :: r => r.length + K * depthsOf 0 h.l ≤ K * D ∧ Room K D r
def wst : List Hd → Nat
  | [] => 0
  | h :: r => weighs h.l + 1 + wst r
theorem wst_cons (h : Hd) (r : List Hd) : wst (h :: r) = weighs h.l + 1 + wst r := rfl
def rowOf (st : List Hd) : List Value := st.reverse.map Hd.val
theorem row_len (st : List Hd) : (rowOf st).length = st.length := by unfold rowOf; simp
theorem row_cons (h : Hd) (st : List Hd) : rowOf (h :: st) = rowOf st ++ [h.val] := by unfold rowOf; simp
theorem row_top (h : Hd) (st : List Hd) : (rowOf (h :: st))[st.length]? = some h.val := by
  rw [row_cons, List.getElem?_append_right (by rw [row_len]; exact Nat.le_refl _), row_len]
  simp
theorem row_set (h h' : Hd) (st : List Hd) : (rowOf (h :: st)).set st.length h'.val = rowOf (h' :: st) := by
  rw [row_cons, row_cons, List.set_append_right _ _ (by rw [row_len]; exact Nat.le_refl _), row_len]
  simp
theorem room_len {K D : Nat} : ∀ {st : List Hd}, Room K D st → st.length ≤ K * D + 1
  | [], _ => by simp
  | h :: r, hr => by have := hr.1; simp only [List.length_cons]; omega
/-- The depths that are still to come. -/
def restD : List Hd → List Nat
  | [] => []
  | h :: r => presD (r.length + 1) h.l ++ restD r

theorem rest_cons (A0 : Option Addr) (c0 : Nat) (kd nu : Int) (op nm : ByteArray) (A : Option Addr) (c : Nat) (ks r : List Ex) (rs : List Hd) :
    restD (⟨A0, c0, .node kd op nm nu A c ks :: r⟩ :: rs) = (rs.length + 1) :: (presD (rs.length + 2) ks ++ (presD (rs.length + 1) r ++ restD rs)) := by
  have h : restD (⟨A0, c0, .node kd op nm nu A c ks :: r⟩ :: rs) = presD (rs.length + 1) (.node kd op nm nu A c ks :: r) ++ restD rs := rfl
  rw [h, pres_cons, List.cons_append, List.append_assoc]

theorem depths_head (kd nu : Int) (op nm : ByteArray) (A : Option Addr) (c : Nat) (ks r : List Ex) : depthsOf 0 r ≤ depthsOf 0 (.node kd op nm nu A c ks :: r) ∧ depthsOf 0 ks + 1 ≤ depthsOf 0 (.node kd op nm nu A c ks :: r) := by
  have h1 := depth_kid (List.mem_cons_self (a := Ex.node kd op nm nu A c ks) (l := r))
  rw [depth_node] at h1
  refine ⟨?_, h1⟩
  have e : depthsOf 0 (.node kd op nm nu A c ks :: r) = depthsOf (if 0 < depthOf (.node kd op nm nu A c ks) then depthOf (.node kd op nm nu A c ks) else 0) r := by
    conv => lhs; unfold depthsOf
  have h2 := depths_max r (if 0 < depthOf (.node kd op nm nu A c ks) then depthOf (.node kd op nm nu A c ks) else 0)
  omega

/-! ### The start: a list of one expression, in a block of its own, and a row that holds it alone -/
theorem depths_one (e : Ex) : depthsOf 0 [e] = depthOf e := by
  have h := depths_snoc [] 0 e
  rw [List.nil_append] at h
  rw [h]
  have h0 : depthsOf 0 [] = 0 := by unfold depthsOf; rfl
  rw [h0]
  split <;> omega
theorem pre_one (e : Ex) (d : Nat) : presD d [e] = preD d e := by
  unfold presD
  rw [pres_nil, List.append_nil]
theorem two_boxes (W : World) (a b : Array Value) (t u : TypeId) : Box ((W.alloc (.cells a t)).alloc (.cells b u)) W.heap.size t a ∧ Box ((W.alloc (.cells a t)).alloc (.cells b u)) (W.heap.size + 1) u b := by
  refine ⟨(Box.new W t a).alloc _, ?_⟩
  have h := Box.new (W.alloc (.cells a t)) u b
  rwa [World.size_alloc] at h
theorem hd_start {T : Nat → Prop} {w0 X : World} {B0 g : Nat} {t : TypeId} {e : Ex} (he : ExIn w0 B0 e) (hT : T g) (hb : Box X g t e.cells.toArray) : HdAt T w0 B0 X ⟨some ⟨g, 0, none⟩, 1, [e]⟩ := by
  refine ⟨Nat.le_refl _, by show 1 ≤ maxLen; decide, fun _ => ⟨g, 0, rfl, hT, fun k x hx => ?_⟩, fun x hx => ?_⟩
  · rcases k with _ | k
    · have : e = x := by simpa using hx
      subst this
      cases e with
      | node kd op nm nu A c ks => exact ⟨hb.cell 0, hb.cell 1, hb.cell 2, hb.cell 3, hb.cell 4⟩
    · simp at hx
  · have : x = e := by simpa using hx
    rw [this]
    exact he
theorem row_start {X : World} {base g : Nat} {t : TypeId} {v : Value} (hb : Box X g t #[v]) (hg : base ≤ g) : X.ownsRow base t 1 (.slice (some ⟨g, 0, none⟩) 1 1) 1 [v] :=
  ⟨rfl, .inr ⟨g, 1, _, rfl, hg, hb, Nat.le_refl _, by decide, rfl, rfl⟩⟩

end Go.Proofs.YtfklajkmikanbaaGreatDoor.LandedT
