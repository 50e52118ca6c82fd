/- Where the landed Clean stands between two rounds: the bytes that are left, its results' boxes, the iterator's boxes; how each step keeps that. -/
import Derived.Test.YtdjhpgpekomjeaaDoorFileIter
import Derived.Lib.AppendStr
import Derived.Maps.AppendAt
namespace Go.Proofs.YtdjhpgpekomjeaaDoor
open Go.RowKit

/-! ### The bytes that are left: each part with a '/' ahead of it -/
def flat (L : List (List UInt8)) : List UInt8 := L.flatMap fun p => 47 :: p

theorem flat_nil : flat [] = [] := rfl
theorem flat_snoc (L : List (List UInt8)) (p : List UInt8) : flat (L ++ [p]) = flat L ++ 47 :: p := by simp [flat]
theorem flat_len (L : List (List UInt8)) : (flat L).length = tot L := by
  induction L with
  | nil => rfl
  | cons x L ih =>
    have e : flat (x :: L) = (47 :: x) ++ flat L := rfl
    rw [e, List.length_append, ih, tot_cons, List.length_cons]
theorem flat_none {L : List (List UInt8)} (h : (flat L).length = 0) : L = [] := by
  cases L with
  | nil => rfl
  | cons x L => rw [flat_len, tot_cons] at h; omega
theorem flat_join {L : List (List UInt8)} (h : L ≠ []) : (flat L).drop 1 = joinOf L := by
  cases L with
  | nil => exact absurd rfl h
  | cons x L =>
    have e : flat (x :: L) = 47 :: (x ++ L.flatMap fun y => 47 :: y) := rfl
    rw [e]
    rfl

theorem slash_unique {a b x p : List UInt8} (h : a ++ 47 :: b = x ++ 47 :: p) (hb : (47 : UInt8) ∉ b) (hp : (47 : UInt8) ∉ p) : a = x := by
  rcases List.append_eq_append_iff.1 h with ⟨c, e1, e2⟩ | ⟨c, e1, e2⟩
  · cases c with
    | nil => rw [e1, List.append_nil]
    | cons y c =>
      rw [List.cons_append] at e2
      have : b = c ++ 47 :: p := (List.cons.inj e2).2
      exact absurd (by rw [this]; simp) hb
  · cases c with
    | nil => rw [e1, List.append_nil]
    | cons y c =>
      rw [List.cons_append] at e2
      have : p = c ++ 47 :: b := (List.cons.inj e2).2
      exact absurd (by rw [this]; simp) hp

/-- Up to the last '/': the last part is gone. -/
theorem flat_cut {L : List (List UInt8)} {r : Int} (h : L ≠ []) (hL : ∀ p ∈ L, (47 : UInt8) ∉ p) (hr : LastSl (flat L) r) :
    ∃ k : Nat, r = (k : Int) ∧ k < (flat L).length ∧ (flat L).take k = flat L.dropLast ∧ k = (flat L.dropLast).length := by
  obtain ⟨M, p, rfl⟩ : ∃ M p, L = M ++ [p] := ⟨L.dropLast, L.getLast h, (List.dropLast_concat_getLast h).symm⟩
  have hp := hL p (by simp)
  rw [flat_snoc] at hr ⊢
  rw [List.dropLast_concat]
  rcases hr with ⟨_, hno⟩ | ⟨a, b, e, hb, rfl⟩
  · exact absurd (by simp) hno
  · obtain rfl := slash_unique e.symm hb hp
    exact ⟨_, rfl, by simp, by simp, rfl⟩

theorem from_cut : ∀ (ps L M : List (List UInt8)), (∀ p ∈ ps, (47 : UInt8) ∉ p) → (∀ p ∈ L, (47 : UInt8) ∉ p) → cleanFrom L ps = some M → ∀ p ∈ M, (47 : UInt8) ∉ p
  | [], L, M, _, hL, h => by
    obtain rfl := Option.some.inj h
    exact hL
  | q :: ps, L, M, hq, hL, h => by
    have hq1 := hq q (by simp)
    have hq2 : ∀ p ∈ ps, (47 : UInt8) ∉ p := fun p hp => hq p (by simp [hp])
    rw [cleanFrom, cleanStep] at h
    split at h
    · cases h
    · rename_i m hm
      refine from_cut ps m M hq2 ?_ h
      split at hm
      · obtain rfl := Option.some.inj hm
        exact hL
      · split at hm
        · split at hm
          · cases hm
          · obtain rfl := Option.some.inj hm
            exact fun p hp => hL p (List.dropLast_subset _ hp)
        · obtain rfl := Option.some.inj hm
          intro p hp
          rcases List.mem_append.1 hp with h1 | h1
          · exact hL p h1
          · obtain rfl : p = q := by simpa using h1
            exact hq1

theorem from_len : ∀ (ps L M : List (List UInt8)), cleanFrom L ps = some M → tot M ≤ tot L + tot ps
  | [], L, M, h => by
    obtain rfl := Option.some.inj h
    exact Nat.le_add_right _ _
  | q :: ps, L, M, h => by
    rw [cleanFrom, cleanStep] at h
    rw [tot_cons]
    split at h
    · cases h
    · rename_i m hm
      have ih := from_len ps m M h
      split at hm
      · obtain rfl := Option.some.inj hm
        omega
      · split at hm
        · split at hm
          · cases hm
          · obtain rfl := Option.some.inj hm
            have := tot_last L
            omega
        · obtain rfl := Option.some.inj hm
          rw [tot_snoc] at ih
          omega

/-! ### The state -/

theorem boxed_own' {W W' : World} {row : Option Nat} {k : Nat} {t : TypeId} {v : Value} (h : Boxed W k t v) (hg : W.grownBy W' row) (hr : ∀ r, row = some r → ∃ o : Obj, W.heap[r]? = some o ∧ o.isCells = false) : Boxed W' k t v :=
  h.kept hg fun e => by
    obtain ⟨o, ho, hc⟩ := hr k e.symm
    rw [show W.heap[k]? = _ from h] at ho
    cases ho
    cases hc

theorem row_own {W W' : World} {row : Option Nat} {base : Nat} {e : TypeId} {size n : Nat} {v : Value} {xs : List Value} (h : W.ownsRow base e size v n xs) (hg : W.grownBy W' row) (hr : ∀ r, row = some r → ∃ o : Obj, W.heap[r]? = some o ∧ o.isCells = false) : W'.ownsRow base e size v n xs := by
  refine h.kept hg ?_
  rcases h.2 with ⟨rfl, _⟩ | ⟨g, cap, cur, rfl, _, hgb, _⟩
  · exact .inl rfl
  · refine .inr fun e' => ?_
    obtain ⟨o, ho, hc⟩ := hr g (by simpa [Value.ownBlock] using e'.symm)
    rw [hgb] at ho
    cases ho
    cases hc

/-- The bytes t are left, in the slice v; nothing that lay has turned. -/
structure Cl (w : World) (v : Value) (t : List UInt8) (W : World) : Prop where
  left : Boxed W (w.heap.size + 2) 53 v
  row : W.ownsRow w.heap.size 5 1 v t.length (bytesV t)
  text : Boxed W w.heap.size 9 (.string ⟨#[]⟩)
  ok : Boxed W (w.heap.size + 1) 4 (.bool false)
  it0 : ∃ u, Boxed W (w.heap.size + 3) 9 u
  it1 : ∃ u, Boxed W (w.heap.size + 4) 9 u
  it2 : ∃ u, Boxed W (w.heap.size + 5) 3 u
  below : Below w.heap.size w W

theorem Cl.own {w W W' : World} {v : Value} {t : List UInt8} {row : Option Nat} (h : Cl w v t W) (hg : W.grownBy W' row) (hr : ∀ r, row = some r → w.heap.size ≤ r ∧ ∃ o : Obj, W.heap[r]? = some o ∧ o.isCells = false) : Cl w v t W' := by
  have hr' : ∀ r, row = some r → ∃ o : Obj, W.heap[r]? = some o ∧ o.isCells = false := fun r e => (hr r e).2
  obtain ⟨u0, h0⟩ := h.it0
  obtain ⟨u1, h1⟩ := h.it1
  obtain ⟨u2, h2⟩ := h.it2
  exact ⟨boxed_own' h.left hg hr', row_own h.row hg hr', boxed_own' h.text hg hr', boxed_own' h.ok hg hr', ⟨u0, boxed_own' h0 hg hr'⟩, ⟨u1, boxed_own' h1 hg hr'⟩, ⟨u2, boxed_own' h2 hg hr'⟩, h.below.grown hg h.below.size fun k e => (hr k e).1⟩

theorem Cl.alloc {w W : World} {v : Value} {t : List UInt8} (h : Cl w v t W) (o : Obj) : Cl w v t (W.alloc o) := h.own (World.grownBy_alloc W o none) (fun r e => by cases e)

/-- The iterator writes its own text's box. -/
theorem Cl.turn {w W : World} {v u u' : Value} {t : List UInt8} (h : Cl w v t W) (hb : Boxed W (w.heap.size + 3) 9 u) : Cl w v t (W.setCell ⟨w.heap.size + 3, 0, none⟩ u') := by
  have hg := grownBy_setCell' W (w.heap.size + 3) u'
  obtain ⟨u1, h1⟩ := h.it1
  obtain ⟨u2, h2⟩ := h.it2
  exact ⟨h.left.kept hg (by simp), h.row.kept hg (.inr (hb.not_row (by decide) h.row).symm), h.text.kept hg (by simp), h.ok.kept hg (by simp), ⟨_, hb.set u'⟩, ⟨u1, h1.kept hg (by simp)⟩, ⟨u2, h2.kept hg (by simp)⟩, h.below.setCell (p := ⟨w.heap.size + 3, 0, none⟩) (by simp) _⟩

/-- The slice's row has grown, or has been written; then the box holds the new slice. -/
theorem Cl.turned {w W W1 : World} {v v' : Value} {t t' : List UInt8} (h : Cl w v t W) (hg : W.grownBy W1 v.ownBlock) (hown : W1.ownsRow w.heap.size 5 1 v' t'.length (bytesV t')) :
    Boxed W1 (w.heap.size + 2) 53 v ∧ Cl w v' t' (W1.setCell ⟨w.heap.size + 2, 0, none⟩ v') ∧ KeepsOthers W (W1.setCell ⟨w.heap.size + 2, 0, none⟩ v') ∧ KeepsBoxes (w.heap.size + 3) W (W1.setCell ⟨w.heap.size + 2, 0, none⟩ v') := by
  obtain ⟨u0, h0⟩ := h.it0
  obtain ⟨u1, h1⟩ := h.it1
  obtain ⟨u2, h2⟩ := h.it2
  have k2 := h.left.kept hg (h.left.not_row (by decide) h.row)
  have kt := h.text.kept hg (h.text.not_row (by decide) h.row)
  have ko := h.ok.kept hg (h.ok.not_row (by decide) h.row)
  have k3 := h0.kept hg (h0.not_row (by decide) h.row)
  have k4 := h1.kept hg (h1.not_row (by decide) h.row)
  have k5 := h2.kept hg (h2.not_row (by decide) h.row)
  have hs := grownBy_setCell' W1 (w.heap.size + 2) v'
  have hcells : ∀ (j : Nat) (o : Obj), v.ownBlock = some j → W.heap[j]? = some o → w.heap.size ≤ j ∧ o.isCells = true := fun j o ej hj => by
    rcases h.row.2 with ⟨rfl, _⟩ | ⟨g, cap, cur, rfl, hb, hgb, _⟩
    · simp [Value.ownBlock] at ej
    · obtain rfl : g = j := by simpa [Value.ownBlock] using ej
      rw [hgb] at hj
      cases hj
      exact ⟨hb, rfl⟩
  have hbase : ∀ j, v.ownBlock = some j → w.heap.size ≤ j := fun j ej => by
    rcases h.row.2 with ⟨rfl, _⟩ | ⟨g, cap, cur, rfl, hb, hgb, _⟩
    · simp [Value.ownBlock] at ej
    · obtain rfl : g = j := by simpa [Value.ownBlock] using ej
      exact hb
  refine ⟨k2, ⟨k2.set v', hown.kept hs (.inr (k2.not_row (by decide) hown).symm), kt.kept hs (by simp), ko.kept hs (by simp), ⟨u0, k3.kept hs (by simp)⟩, ⟨u1, k4.kept hs (by simp)⟩, ⟨u2, k5.kept hs (by simp)⟩,
    (h.below.grown hg h.below.size hbase).setCell (p := ⟨w.heap.size + 2, 0, none⟩) (by simp) _⟩,
    (KeepsOthers.of_grownBy hg fun j o ej hj => (hcells j o ej hj).2).trans (KeepsOthers.setCell _ _ _), fun k o hk1 hk2 hk => ?_⟩
  refine (Below.heap_setCell W1 _ v' k (by simp only; omega)).trans ?_
  obtain rfl | rfl | rfl : k = w.heap.size + 3 ∨ k = w.heap.size + 4 ∨ k = w.heap.size + 5 := by omega
  · rw [show W.heap[_]? = _ from h0] at hk
    cases hk
    exact k3
  · rw [show W.heap[_]? = _ from h1] at hk
    cases hk
    exact k4
  · rw [show W.heap[_]? = _ from h2] at hk
    cases hk
    exact k5

/-- The slice, cut shorter. -/
theorem own_cut {W : World} {base : Nat} {e : TypeId} {A : Option Addr} {n c k : Nat} {xs : List Value} (h : W.ownsRow base e 1 (.slice A n c) n xs) (hk : k ≤ n) (hn : 0 < n) : W.ownsRow base e 1 (.slice A k c) k (xs.take k) := by
  rcases h.2 with ⟨_, h0⟩ | ⟨g, cap, cur, hv, hb, hg, hnc, hcm, hcs, ht⟩
  · omega
  · injection hv with h1 h2 h3
    subst h1 h3
    refine ⟨by rw [List.length_take, h.1]; omega, .inr ⟨g, c, cur, rfl, hb, hg, by omega, hcm, hcs, ?_⟩⟩
    rw [Nat.mul_one, ← ht, Nat.mul_one, List.take_take, Nat.min_eq_left hk]

/-- append(s, x...) of a text's bytes, inside a fence. -/
theorem wpListIn_append_str {F : Fence} {nF : Nat} {P : Program} {ops : Array Oper} {rest : List Oper} {o : Oper} {a : Act} {Q : Exit → Act → World → Prop} (w : World) (hgd : o.guard = none) (sl x : Operand) (t u : TypeId)
    (ho : o.op = .call { callee := .builtin .append, args := #[sl, x], argTypes := #[t, u] })
    (base : Nat) (e : TypeId) (i : TypeInfo) (ht : P.underlying t = some (.slice e)) (hu : P.underlying u = some .string) (hi : P.info? e = some i) (hz : i.zero = some (.int .u8 0)) (hsize : i.size = 1) (hby : i.bytes = 1)
    (v : Value) (n : Nat) (xs : List Value) (hs : a.eval sl = v) (hown : w.ownsRow base e 1 v n xs) (s : ByteArray) (hx : a.eval x = .string s)
    (h63 : n + s.size ≤ maxLen) (hbytes : n + s.size ≤ 140737488355328) (hbase : base ≤ w.heap.size)
    (h : ∀ v' w', w'.ownsRow base e 1 v' (n + s.size) (xs ++ Lib.strCells s) → w.grownBy w' v.ownBlock → wpListIn F nF P ops Q rest (a.put o.dst v') w') : wpListIn F nF P ops Q (o :: rest) a w := by
  refine wpListIn_plain hgd fun K hK => ?_
  obtain ⟨v', w', hr, h2, h3, _⟩ := Lib.run_append_own_string (P := P) w base t u o.type e i ht hu hi hz hsize hby v n xs hown s h63 hbytes hbase
  unfold Oper.wpIn
  refine ⟨?_, ?_⟩
  · simp [Oper.about, ho, resolve, Target.leads, Sem.run_pure]
  · rw [Oper.semAt_plain F _ _ (by rw [ho]; intro c hc'; cases hc')]
    simp [execOp, ho, resolve, invoke, builtin, hs, hx, hr, Result.andThen]
    exact hK _ _ (h v' w' h2 h3)

theorem strCells_of (l : List UInt8) : Lib.strCells (strOf l) = bytesV l := by
  unfold Lib.strCells bytesV byteV
  simp [strOf]

end Go.Proofs.YtdjhpgpekomjeaaDoor
