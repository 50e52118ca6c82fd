/- Texts of mine put together (a claim has at most so many files): Frame, OpenInts. -/
import Derived.Test.YtfklajkmikanbaaGreatDoorBase
/- The last step of a statement 'for every input the law returns true, each argument reads as it did', once for all laws: out of a walk that ends with true and writes nothing that was there. -/
namespace Go.Proofs.YtfklajkmikanbaaGreatDoor
open Go.RowKit Go.ChangeShapes Go.WideShapes Go.ChangeAt

theorem trodAll_below {H : Type} {enc : TypeId × Value → H} {P : Program} (hl : laidOutB P = true) {W W' : World} (hb : Below W.heap.size W W') :
    ∀ (ts : List TypeId) (vs : List Value) (ds : List (DataW H)) (ps : List MemPlace), (∀ t ∈ ts, P.readableRec t = true ∧ t < P.types.size) → DataW.TrodAll enc P W 0 (fun _ => true) true ts vs ds ps →
      DataW.TrodAll enc P W' 0 (fun b => decide (b < W.heap.size)) true ts vs ds ps
  | [], vs, ds, ps, _, h => by
    obtain ⟨rfl, rfl, rfl⟩ := trodAll_nil h
    exact trodAll_mk0
  | t :: ts, vs, ds, ps, hr, h => by
    obtain ⟨v, vs', d, ds', p, q, rfl, rfl, rfl, h0, r0⟩ := trodAll_cons h
    have hlt : ∀ x ∈ p, x.block < W.heap.size := by obtain ⟨m, hm⟩ := h0; exact DataW.trod_lt m _ _ _ hm
    obtain ⟨hrt, hrow⟩ := hr t (List.mem_cons_self ..)
    exact trodAll_cons_mk (Below.trod hl hrt hrow h0 hb hlt) (trodAll_below hl hb ts vs' ds' q (fun t' ht' => hr t' (List.mem_cons_of_mem _ ht')) r0)

theorem trodAll_len {H : Type} {enc : TypeId × Value → H} {P : Program} {W : World} {b : Nat} {sp : Nat → Bool} {hd : Bool} :
    ∀ (ts : List TypeId) (vs : List Value) (ds : List (DataW H)) (ps : List MemPlace), DataW.TrodAll enc P W b sp hd ts vs ds ps → vs.length = ts.length ∧ ds.length = ts.length
  | [], vs, ds, ps, h => by
    obtain ⟨rfl, rfl, rfl⟩ := trodAll_nil h
    exact ⟨rfl, rfl⟩
  | t :: ts, vs, ds, ps, h => by
    obtain ⟨v, vs', d, ds', p, q, rfl, rfl, rfl, h0, r0⟩ := trodAll_cons h
    obtain ⟨e1, e2⟩ := trodAll_len ts vs' ds' q r0
    exact ⟨by simp [e1], by simp [e2]⟩

/-- The walk that a law wants: true, whatever the arguments; nothing that was there is written. -/
def Walks (P : Program) (f : FuncId) (ts : List TypeId) : Prop :=
  ∀ (H : Type) (enc : TypeId × Value → H) (W : World) (base : Nat) (vs : List Value) (ds : List (DataW H)) (ps : List MemPlace),
    (∀ (j : Nat) t v, ts[j]? = some t → vs[j]? = some v → Value.okWide P W .any base t v) → DataW.TrodAll enc P W 0 (fun _ => true) true ts vs ds ps →
    (DataW.weightsEach P ts ds).all (· ≤ reachBytes) = true → Calls P f vs.toArray W fun e W' => e = .returned (.bool true) ∧ Below W.heap.size W W'

theorem law_handed {C : Checked} {os : Os} {f : FuncId} {fn : Func} {s : ChangeSpec} {H : Type} {enc : TypeId × Value → H} (bt : TypeId)
    (own : ownKnob C.prog.godebug = none) (started : os.Started) (noInit : C.prog.inits.idxOf? f = none) (hfn : C.prog.funcs[f]? = some fn)
    (witness : ∃ (w : World) (tape : Tape) (i : Input), w.os = os ∧ (w.forCall tape i).Shaped C.prog ∧ i.vars = [] ∧ Input.okWide C.prog (w.forCall tape i) .any w.heap.size f i ∧
      s.pre6 enc C.prog fn [] false (w.forCall tape i).memory i.args ∧ Assume.holds {} C.prog (lone (Frame.enter C.prog f i.args .normal) [] (w.forCall tape i)))
    (laid : laidOutB C.prog = true) (hvars : s.vars = []) (hvt : s.plain.varTypes C.prog = []) (hres : fn.resultTypes = #[bt]) (hb : C.prog.underlying bt = some .bool)
    (hread : (fn.params.toList.all fun t => C.prog.readableRec t && decide (t < C.prog.types.size)) = true)
    (hspec : ∀ ds : List (DataW H), ds.length = fn.params.toList.length → (s.fn H ds).results = [.lit (.bool true)] ∧ (s.fn H ds).args = ds ∧ (s.fn H ds).vars = [])
    (walk : Walks C.prog f fn.params.toList) :
    ReturnsInHanded {} C os f .any (s.pre6 enc C.prog fn [] false) (s.post enc C.prog fn false true false false) := by
  refine returnsInHanded_of_change_sized (C := C) own started noInit hfn witness ?_
  intro W base args ds gs before hval hW _ hsz _
  have hW' := hW
  obtain ⟨p, q, hA, hV, rfl, hfz, hnd⟩ := hW
  rw [hvars] at hV
  obtain ⟨rfl, rfl⟩ := trodVars_none hV
  rw [hvt, List.append_nil, List.append_nil] at hsz
  obtain ⟨_, hlen⟩ := trodAll_len _ _ _ _ hA
  obtain ⟨s1, s2, s3⟩ := hspec ds hlen
  have hv2 : ∀ (j : Nat) t v, fn.params.toList[j]? = some t → args.toList[j]? = some v → Value.okWide C.prog W .any base t v := fun j t v ht hv => hval j t v (by simpa using ht) (by simpa using hv)
  have hc := walk H enc W base args.toList ds p hv2 hA hsz
  rw [Array.toArray_toList] at hc
  refine hc.mono fun e W' ⟨he, bel⟩ => ?_
  subst he
  refine ⟨_, rfl, ds, [], _, [], p, [], hW', ?_, ?_, ?_, bel.frame _, fun h => by cases h⟩
  · rw [List.append_nil, s1, hres]
    exact trodAll_mk1 (shut_bool hb _)
  · rw [List.append_nil, s2]
    refine trodAll_below laid bel _ _ _ _ (fun t ht => ?_) hA
    have := List.all_eq_true.1 hread t ht
    simpa using this
  · rw [List.append_nil, s3, hvars]
    rfl

/-! ### Slices that came in, as lists -/
theorem lies_flatten {w : World} {B C n b o : Nat} {L : List (List Value)} (hL : L.length = n) (hC : ∀ cs ∈ L, cs.length = C) (hb : 0 < n * C → b < B)
    (hc : ∀ i cs, L[i]? = some cs → ∀ j u, cs[j]? = some u → w.cell? ⟨b, o + i * C + j, none⟩ = some u) (h0 : 0 < C) : Lies w B C (some ⟨b, o, none⟩) n L.flatten := by
  have hlen : ∀ M : List (List Value), (∀ cs ∈ M, cs.length = C) → M.flatten.length = M.length * C := by
    intro M
    induction M with
    | nil => intro _; simp
    | cons x M ih =>
      intro h
      rw [List.flatten_cons, List.length_append, h x (List.mem_cons_self ..), ih (fun cs hcs => h cs (List.mem_cons_of_mem _ hcs)), List.length_cons, Nat.add_mul]
      omega
  refine ⟨by rw [hlen L hC, hL], fun hn => ⟨b, o, rfl, hb (Nat.mul_pos hn h0), ?_⟩⟩
  clear hL hb
  induction L generalizing o with
  | nil => intro j u hu; simp at hu
  | cons x L ih =>
    intro j u hu
    have hx := hC x (List.mem_cons_self ..)
    rw [List.flatten_cons] at hu
    by_cases hj : j < C
    · rw [List.getElem?_append_left (by omega)] at hu
      have := hc 0 x rfl j u hu
      rwa [Nat.zero_mul, Nat.add_zero] at this
    · rw [List.getElem?_append_right (by omega), hx] at hu
      have := ih (o := o + C) (fun cs hcs => hC cs (List.mem_cons_of_mem _ hcs)) (fun i cs hi k v hk => by
        have := hc (i + 1) cs (by simpa using hi) k v hk
        rwa [show o + (i + 1) * C + k = o + C + i * C + k from by rw [Nat.add_mul]; omega] at this) (j - C) u hu
      rwa [show o + C + (j - C) = o + j from by omega] at this

section
variable {H : Type} {enc : TypeId × Value → H} {P : Program} {w : World} {spare : Nat → Bool} {held : Bool}

/-- A slice that came in: its elements' cells, each as its own reading has it. -/
theorem open_slice_lies {t e : TypeId} {fuel C n c : Nat} {A : Option Addr} {x : DataW H × List MemPlace} (ht : P.underlying t = some (.slice e)) (hC : P.cellsOf e = C) (h0 : 0 < C)
    (h : DataW.trod enc P w 0 spare held fuel t [.slice A n c] = some x) :
    n ≤ c ∧ ((n = 0 ∧ x.1 = .nil) ∨ ∃ el sp, x.1 = .slice el sp ∧ n ≤ el.length + sp.length) ∧
    ∃ L : List (List Value), L.length = n ∧ Lies w w.heap.size C A n L.flatten ∧ ∀ cs ∈ L, ∃ m y, DataW.trod enc P w 0 spare held m e cs = some y := by
  rcases Deep.open_slice ht h with ⟨h1, h2⟩ | ⟨a, len, cap, m, k, D, Pl, hcs, hb, hl, hm, hmm, hx, hi⟩
  · simp only [List.cons.injEq, Value.slice.injEq, and_true] at h1
    obtain ⟨rfl, rfl, rfl⟩ := h1
    exact ⟨Nat.le_refl _, .inl ⟨rfl, by rw [h2]⟩, [], rfl, Lies.empty _ _ _ _, fun cs hcs => by simp at hcs⟩
  · simp only [List.cons.injEq, Value.slice.injEq, and_true] at hcs
    obtain ⟨rfl, rfl, rfl⟩ := hcs
    have hnm : n ≤ m := by rw [hmm]; split <;> omega
    refine ⟨hl, .inr ⟨_, _, by rw [hx], by simp⟩, ?_⟩
    rw [hC] at hi
    -- the cells, element by element
    have hex : ∀ i, i < n → ∃ cs, cs.length = C ∧ (∀ j, j < C → w.cell? ((a.add (i * C)).add j) = cs[j]?) ∧ ∃ m y, DataW.trod enc P w 0 spare held m e cs = some y := by
      intro i hin
      obtain ⟨cs', hc, ht'⟩ := hi i (by omega)
      obtain ⟨_, hcl, hat⟩ := World.cells?_some hc
      exact ⟨cs', hcl, hat, _, _, ht'⟩
    have hlist : ∀ q, q ≤ n → ∃ L : List (List Value), L.length = q ∧ ∀ i cs, L[i]? = some cs → cs.length = C ∧ (∀ j, j < C → w.cell? ((a.add (i * C)).add j) = cs[j]?) ∧ ∃ m y, DataW.trod enc P w 0 spare held m e cs = some y := by
      intro q
      induction q with
      | zero => intro _; exact ⟨[], rfl, fun i cs hi => by simp at hi⟩
      | succ q ih =>
        intro hq
        obtain ⟨L, hL, hLi⟩ := ih (by omega)
        obtain ⟨cs, h1, h2, h3⟩ := hex q (by omega)
        refine ⟨L ++ [cs], by simp [hL], fun i cs' hi' => ?_⟩
        by_cases hiq : i < q
        · rw [List.getElem?_append_left (by omega)] at hi'
          exact hLi i cs' hi'
        · rw [List.getElem?_append_right (by omega)] at hi'
          have hiq' : i = q := by
            have := (List.getElem?_eq_some_iff.1 hi').1
            simp at this
            omega
          subst hiq'
          rw [hL, Nat.sub_self] at hi'
          simp at hi'
          subst hi'
          exact ⟨h1, h2, h3⟩
    obtain ⟨L, hL, hLi⟩ := hlist n (Nat.le_refl _)
    have hmem : ∀ cs ∈ L, cs.length = C ∧ ∃ m y, DataW.trod enc P w 0 spare held m e cs = some y := by
      intro cs hcs
      obtain ⟨i, hi'⟩ := List.mem_iff_getElem?.1 hcs
      exact ⟨(hLi i cs hi').1, (hLi i cs hi').2.2⟩
    refine ⟨L, hL, ?_, fun cs hcs => (hmem cs hcs).2⟩
    rcases Nat.eq_zero_or_pos n with hn | hn
    · subst hn
      obtain rfl := List.eq_nil_of_length_eq_zero hL
      exact Lies.empty _ _ _ _
    · -- the address has no spot: its first cell is there
      obtain ⟨cs0, h1, h2, _⟩ := hex 0 hn
      have hc0 : w.cell? a = some (cs0[0]'(by omega)) := by
        have := h2 0 h0
        rw [Nat.zero_mul, List.getElem?_eq_getElem (by omega)] at this
        simpa [Addr.add] using this
      have hsp := World.cell?_spot hc0
      obtain ⟨b, o, s⟩ := a
      simp only at hsp
      subst hsp
      have hbl := World.block_lt_of_cell? w _ hc0
      refine lies_flatten hL (fun cs hcs => (hmem cs hcs).1) (fun _ => hbl) (fun i cs hi' j u hu => ?_) h0
      have hjC : j < C := by rw [← (hLi i cs hi').1]; exact (List.getElem?_eq_some_iff.1 hu).1
      have := (hLi i cs hi').2.1 j hjC
      rw [addr_lit, addr_lit] at this
      rw [this, hu]

theorem list_of {α β : Type} {f : β → α} {p : β → Prop} : ∀ (L : List α), (∀ a ∈ L, ∃ b, a = f b ∧ p b) → ∃ M : List β, L = M.map f ∧ ∀ b ∈ M, p b
  | [], _ => ⟨[], rfl, fun b hb => by simp at hb⟩
  | a :: L, h => by
    obtain ⟨M, hM, hp⟩ := list_of L (fun x hx => h x (List.mem_cons_of_mem _ hx))
    obtain ⟨b, rfl, hb⟩ := h a (List.mem_cons_self ..)
    exact ⟨b :: M, by rw [hM]; rfl, fun y hy => by
      rcases List.mem_cons.1 hy with rfl | hy
      · exact hb
      · exact hp y hy⟩

end


end Go.Proofs.YtfklajkmikanbaaGreatDoor

/- Slices of integers that came in, as lists. No condition. -/
namespace Go.Proofs.YtfklajkmikanbaaGreatDoor
open Go.RowKit Go.ChangeShapes Go.WideShapes Go.ChangeAt

theorem open_ints {H : Type} {enc : TypeId × Value → H} {P : Program} {w : World} {spare : Nat → Bool} {held : Bool} {k : IntKind} {t e : TypeId} {fuel n c : Nat} {A : Option Addr} {x : DataW H × List MemPlace}
    (ht : P.underlying t = some (.slice e)) (he : P.underlying e = some (.int k)) (hC : P.cellsOf e = 1)
    (h : DataW.trod enc P w 0 spare held fuel t [.slice A n c] = some x) :
    n ≤ c ∧ ((n = 0 ∧ x.1 = .nil) ∨ ∃ el sp, x.1 = .slice el sp ∧ n ≤ el.length + sp.length) ∧ ∃ l : List Int, Lies w w.heap.size 1 A n (l.map (Value.int k)) ∧ ∀ y ∈ l, (Lit.int k y).wf = true := by
  obtain ⟨hnc, hr, L, hL, hl, hel⟩ := open_slice_lies ht (C := 1) hC (by omega) h
  refine ⟨hnc, hr, ?_⟩
  obtain ⟨M, hM, hw⟩ := list_of (f := fun b : Int => [Value.int k b]) (p := fun b => (Lit.int k b).wf = true) L (fun cs hcs => by
    obtain ⟨m, y, hy⟩ := hel cs hcs
    obtain ⟨q, rfl, _, hw⟩ := DataW.trod_int he hy
    exact ⟨q, rfl, hw⟩)
  refine ⟨M, ?_, hw⟩
  have e : L.flatten = M.map (Value.int k) := by
    rw [hM]
    clear hM hw
    induction M with
    | nil => rfl
    | cons b M ih => simp at ih ⊢; exact ih
  rw [← e]
  exact hl

theorem wf_bd_i64 {y : Int} (h : (Lit.int .i64 y).wf = true) : -9223372036854775808 ≤ y ∧ y ≤ 9223372036854775807 := by simpa [Lit.wf, IntKind.min, IntKind.max, IntKind.signed, IntKind.bits] using h
theorem wf_bd_u32 {y : Int} (h : (Lit.int .u32 y).wf = true) : 0 ≤ y ∧ y ≤ 4294967295 := by simpa [Lit.wf, IntKind.min, IntKind.max, IntKind.signed, IntKind.bits] using h
theorem wf_bd_u64 {y : Int} (h : (Lit.int .u64 y).wf = true) : 0 ≤ y ∧ y ≤ 18446744073709551615 := by simpa [Lit.wf, IntKind.min, IntKind.max, IntKind.signed, IntKind.bits] using h

end Go.Proofs.YtfklajkmikanbaaGreatDoor
