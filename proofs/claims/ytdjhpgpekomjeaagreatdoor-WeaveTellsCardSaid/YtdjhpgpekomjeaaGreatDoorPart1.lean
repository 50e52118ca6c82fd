/- Texts of mine put together (a claim has at most so many files): Frame, Str, Store. -/
import Derived.Test.YtdjhpgpekomjeaaGreatDoorBase
import Derived.Deep.MidRow
import Derived.Maps.AppendAt
/- The last step of a statement 'for every input the law returns true, each argument reads as it did', once for all laws: out of a walk that ends with true and writes nothing that was there. -/
namespace Go.Proofs.YtdjhpgpekomjeaaGreatDoor
open Go.RowKit Go.ChangeShapes Go.WideShapes Go.ChangeAt

theorem trodAll_below {H : Type} {enc : TypeId × Value → H} {P : Program} (hl : laidOutB P = true) {W W' : World} (hb : Below W.heap.size W W') :
    ∀ (ts : List TypeId) (vs : List Value) (ds : List (DataW H)) (ps : List MemPlace), (∀ t ∈ ts, P.readableRec t = true ∧ t < P.types.size) → DataW.TrodAll enc P W 0 (fun _ => true) true ts vs ds ps →
      DataW.TrodAll enc P W' 0 (fun b => decide (b < W.heap.size)) true ts vs ds ps
  | [], vs, ds, ps, _, h => by
    obtain ⟨rfl, rfl, rfl⟩ := trodAll_nil h
    exact trodAll_mk0
  | t :: ts, vs, ds, ps, hr, h => by
    obtain ⟨v, vs', d, ds', p, q, rfl, rfl, rfl, h0, r0⟩ := trodAll_cons h
    have hlt : ∀ x ∈ p, x.block < W.heap.size := by obtain ⟨m, hm⟩ := h0; exact DataW.trod_lt m _ _ _ hm
    obtain ⟨hrt, hrow⟩ := hr t (List.mem_cons_self ..)
    exact trodAll_cons_mk (Below.trod hl hrt hrow h0 hb hlt) (trodAll_below hl hb ts vs' ds' q (fun t' ht' => hr t' (List.mem_cons_of_mem _ ht')) r0)

theorem trodAll_len {H : Type} {enc : TypeId × Value → H} {P : Program} {W : World} {b : Nat} {sp : Nat → Bool} {hd : Bool} :
    ∀ (ts : List TypeId) (vs : List Value) (ds : List (DataW H)) (ps : List MemPlace), DataW.TrodAll enc P W b sp hd ts vs ds ps → vs.length = ts.length ∧ ds.length = ts.length
  | [], vs, ds, ps, h => by
    obtain ⟨rfl, rfl, rfl⟩ := trodAll_nil h
    exact ⟨rfl, rfl⟩
  | t :: ts, vs, ds, ps, h => by
    obtain ⟨v, vs', d, ds', p, q, rfl, rfl, rfl, h0, r0⟩ := trodAll_cons h
    obtain ⟨e1, e2⟩ := trodAll_len ts vs' ds' q r0
    exact ⟨by simp [e1], by simp [e2]⟩

/-- The walk that a law wants: true, whatever the arguments; nothing that was there is written. -/
def Walks (P : Program) (f : FuncId) (ts : List TypeId) : Prop :=
  ∀ (H : Type) (enc : TypeId × Value → H) (W : World) (base : Nat) (vs : List Value) (ds : List (DataW H)) (ps : List MemPlace),
    (∀ (j : Nat) t v, ts[j]? = some t → vs[j]? = some v → Value.okWide P W .any base t v) → DataW.TrodAll enc P W 0 (fun _ => true) true ts vs ds ps →
    (DataW.weightsEach P ts ds).all (· ≤ reachBytes) = true → Calls P f vs.toArray W fun e W' => e = .returned (.bool true) ∧ Below W.heap.size W W'

theorem law_handed {C : Checked} {os : Os} {f : FuncId} {fn : Func} {s : ChangeSpec} {H : Type} {enc : TypeId × Value → H} (bt : TypeId)
    (own : ownKnob C.prog.godebug = none) (started : os.Started) (noInit : C.prog.inits.idxOf? f = none) (hfn : C.prog.funcs[f]? = some fn)
    (witness : ∃ (w : World) (tape : Tape) (i : Input), w.os = os ∧ (w.forCall tape i).Shaped C.prog ∧ i.vars = [] ∧ Input.okWide C.prog (w.forCall tape i) .any w.heap.size f i ∧
      s.pre6 enc C.prog fn [] false (w.forCall tape i).memory i.args ∧ Assume.holds {} C.prog (lone (Frame.enter C.prog f i.args .normal) [] (w.forCall tape i)))
    (laid : laidOutB C.prog = true) (hvars : s.vars = []) (hvt : s.plain.varTypes C.prog = []) (hres : fn.resultTypes = #[bt]) (hb : C.prog.underlying bt = some .bool)
    (hread : (fn.params.toList.all fun t => C.prog.readableRec t && decide (t < C.prog.types.size)) = true)
    (hspec : ∀ ds : List (DataW H), ds.length = fn.params.toList.length → (s.fn H ds).results = [.lit (.bool true)] ∧ (s.fn H ds).args = ds ∧ (s.fn H ds).vars = [])
    (walk : Walks C.prog f fn.params.toList) :
    ReturnsInHanded {} C os f .any (s.pre6 enc C.prog fn [] false) (s.post enc C.prog fn false true false false) := by
  refine returnsInHanded_of_change_sized (C := C) own started noInit hfn witness ?_
  intro W base args ds gs before hval hW _ hsz _
  have hW' := hW
  obtain ⟨p, q, hA, hV, rfl, hfz, hnd⟩ := hW
  rw [hvars] at hV
  obtain ⟨rfl, rfl⟩ := trodVars_none hV
  rw [hvt, List.append_nil, List.append_nil] at hsz
  obtain ⟨_, hlen⟩ := trodAll_len _ _ _ _ hA
  obtain ⟨s1, s2, s3⟩ := hspec ds hlen
  have hv2 : ∀ (j : Nat) t v, fn.params.toList[j]? = some t → args.toList[j]? = some v → Value.okWide C.prog W .any base t v := fun j t v ht hv => hval j t v (by simpa using ht) (by simpa using hv)
  have hc := walk H enc W base args.toList ds p hv2 hA hsz
  rw [Array.toArray_toList] at hc
  refine hc.mono fun e W' ⟨he, bel⟩ => ?_
  subst he
  refine ⟨_, rfl, ds, [], _, [], p, [], hW', ?_, ?_, ?_, bel.frame _, fun h => by cases h⟩
  · rw [List.append_nil, s1, hres]
    exact trodAll_mk1 (shut_bool hb _)
  · rw [List.append_nil, s2]
    refine trodAll_below laid bel _ _ _ _ (fun t ht => ?_) hA
    have := List.all_eq_true.1 hread t ht
    simpa using this
  · rw [List.append_nil, s3, hvars]
    rfl

/-! ### Slices that came in, as lists -/
theorem lies_flatten {w : World} {B C n b o : Nat} {L : List (List Value)} (hL : L.length = n) (hC : ∀ cs ∈ L, cs.length = C) (hb : 0 < n * C → b < B)
    (hc : ∀ i cs, L[i]? = some cs → ∀ j u, cs[j]? = some u → w.cell? ⟨b, o + i * C + j, none⟩ = some u) (h0 : 0 < C) : Lies w B C (some ⟨b, o, none⟩) n L.flatten := by
  have hlen : ∀ M : List (List Value), (∀ cs ∈ M, cs.length = C) → M.flatten.length = M.length * C := by
    intro M
    induction M with
    | nil => intro _; simp
    | cons x M ih =>
      intro h
      rw [List.flatten_cons, List.length_append, h x (List.mem_cons_self ..), ih (fun cs hcs => h cs (List.mem_cons_of_mem _ hcs)), List.length_cons, Nat.add_mul]
      omega
  refine ⟨by rw [hlen L hC, hL], fun hn => ⟨b, o, rfl, hb (Nat.mul_pos hn h0), ?_⟩⟩
  clear hL hb
  induction L generalizing o with
  | nil => intro j u hu; simp at hu
  | cons x L ih =>
    intro j u hu
    have hx := hC x (List.mem_cons_self ..)
    rw [List.flatten_cons] at hu
    by_cases hj : j < C
    · rw [List.getElem?_append_left (by omega)] at hu
      have := hc 0 x rfl j u hu
      rwa [Nat.zero_mul, Nat.add_zero] at this
    · rw [List.getElem?_append_right (by omega), hx] at hu
      have := ih (o := o + C) (fun cs hcs => hC cs (List.mem_cons_of_mem _ hcs)) (fun i cs hi k v hk => by
        have := hc (i + 1) cs (by simpa using hi) k v hk
        rwa [show o + (i + 1) * C + k = o + C + i * C + k from by rw [Nat.add_mul]; omega] at this) (j - C) u hu
      rwa [show o + C + (j - C) = o + j from by omega] at this

section
variable {H : Type} {enc : TypeId × Value → H} {P : Program} {w : World} {spare : Nat → Bool} {held : Bool}

/-- A slice that came in: its elements' cells, each as its own reading has it. -/
theorem open_slice_lies {t e : TypeId} {fuel C n c : Nat} {A : Option Addr} {x : DataW H × List MemPlace} (ht : P.underlying t = some (.slice e)) (hC : P.cellsOf e = C) (h0 : 0 < C)
    (h : DataW.trod enc P w 0 spare held fuel t [.slice A n c] = some x) :
    n ≤ c ∧ ((n = 0 ∧ x.1 = .nil) ∨ ∃ el sp, x.1 = .slice el sp ∧ n ≤ el.length + sp.length) ∧
    ∃ L : List (List Value), L.length = n ∧ Lies w w.heap.size C A n L.flatten ∧ ∀ cs ∈ L, ∃ m y, DataW.trod enc P w 0 spare held m e cs = some y := by
  rcases Deep.open_slice ht h with ⟨h1, h2⟩ | ⟨a, len, cap, m, k, D, Pl, hcs, hb, hl, hm, hmm, hx, hi⟩
  · simp only [List.cons.injEq, Value.slice.injEq, and_true] at h1
    obtain ⟨rfl, rfl, rfl⟩ := h1
    exact ⟨Nat.le_refl _, .inl ⟨rfl, by rw [h2]⟩, [], rfl, Lies.empty _ _ _ _, fun cs hcs => by simp at hcs⟩
  · simp only [List.cons.injEq, Value.slice.injEq, and_true] at hcs
    obtain ⟨rfl, rfl, rfl⟩ := hcs
    have hnm : n ≤ m := by rw [hmm]; split <;> omega
    refine ⟨hl, .inr ⟨_, _, by rw [hx], by simp⟩, ?_⟩
    rw [hC] at hi
    -- the cells, element by element
    have hex : ∀ i, i < n → ∃ cs, cs.length = C ∧ (∀ j, j < C → w.cell? ((a.add (i * C)).add j) = cs[j]?) ∧ ∃ m y, DataW.trod enc P w 0 spare held m e cs = some y := by
      intro i hin
      obtain ⟨cs', hc, ht'⟩ := hi i (by omega)
      obtain ⟨_, hcl, hat⟩ := World.cells?_some hc
      exact ⟨cs', hcl, hat, _, _, ht'⟩
    have hlist : ∀ q, q ≤ n → ∃ L : List (List Value), L.length = q ∧ ∀ i cs, L[i]? = some cs → cs.length = C ∧ (∀ j, j < C → w.cell? ((a.add (i * C)).add j) = cs[j]?) ∧ ∃ m y, DataW.trod enc P w 0 spare held m e cs = some y := by
      intro q
      induction q with
      | zero => intro _; exact ⟨[], rfl, fun i cs hi => by simp at hi⟩
      | succ q ih =>
        intro hq
        obtain ⟨L, hL, hLi⟩ := ih (by omega)
        obtain ⟨cs, h1, h2, h3⟩ := hex q (by omega)
        refine ⟨L ++ [cs], by simp [hL], fun i cs' hi' => ?_⟩
        by_cases hiq : i < q
        · rw [List.getElem?_append_left (by omega)] at hi'
          exact hLi i cs' hi'
        · rw [List.getElem?_append_right (by omega)] at hi'
          have hiq' : i = q := by
            have := (List.getElem?_eq_some_iff.1 hi').1
            simp at this
            omega
          subst hiq'
          rw [hL, Nat.sub_self] at hi'
          simp at hi'
          subst hi'
          exact ⟨h1, h2, h3⟩
    obtain ⟨L, hL, hLi⟩ := hlist n (Nat.le_refl _)
    have hmem : ∀ cs ∈ L, cs.length = C ∧ ∃ m y, DataW.trod enc P w 0 spare held m e cs = some y := by
      intro cs hcs
      obtain ⟨i, hi'⟩ := List.mem_iff_getElem?.1 hcs
      exact ⟨(hLi i cs hi').1, (hLi i cs hi').2.2⟩
    refine ⟨L, hL, ?_, fun cs hcs => (hmem cs hcs).2⟩
    rcases Nat.eq_zero_or_pos n with hn | hn
    · subst hn
      obtain rfl := List.eq_nil_of_length_eq_zero hL
      exact Lies.empty _ _ _ _
    · -- the address has no spot: its first cell is there
      obtain ⟨cs0, h1, h2, _⟩ := hex 0 hn
      have hc0 : w.cell? a = some (cs0[0]'(by omega)) := by
        have := h2 0 h0
        rw [Nat.zero_mul, List.getElem?_eq_getElem (by omega)] at this
        simpa [Addr.add] using this
      have hsp := World.cell?_spot hc0
      obtain ⟨b, o, s⟩ := a
      simp only at hsp
      subst hsp
      have hbl := World.block_lt_of_cell? w _ hc0
      refine lies_flatten hL (fun cs hcs => (hmem cs hcs).1) (fun _ => hbl) (fun i cs hi' j u hu => ?_) h0
      have hjC : j < C := by rw [← (hLi i cs hi').1]; exact (List.getElem?_eq_some_iff.1 hu).1
      have := (hLi i cs hi').2.1 j hjC
      rw [addr_lit, addr_lit] at this
      rw [this, hu]

theorem list_of {α β : Type} {f : β → α} {p : β → Prop} : ∀ (L : List α), (∀ a ∈ L, ∃ b, a = f b ∧ p b) → ∃ M : List β, L = M.map f ∧ ∀ b ∈ M, p b
  | [], _ => ⟨[], rfl, fun b hb => by simp at hb⟩
  | a :: L, h => by
    obtain ⟨M, hM, hp⟩ := list_of L (fun x hx => h x (List.mem_cons_of_mem _ hx))
    obtain ⟨b, rfl, hb⟩ := h a (List.mem_cons_self ..)
    exact ⟨b :: M, by rw [hM]; rfl, fun y hy => by
      rcases List.mem_cons.1 hy with rfl | hy
      · exact hb
      · exact hp y hy⟩

end


end Go.Proofs.YtdjhpgpekomjeaaGreatDoor

/- A text as a list of bytes, and back. No condition. -/
namespace Go.Proofs.YtdjhpgpekomjeaaGreatDoor
open Go.RowKit

theorem strOf_size (l : List UInt8) : (strOf l).size = l.length := by simp [strOf, ByteArray.size]
theorem strOf_data (l : List UInt8) : (strOf l).data.toList = l := rfl
theorem strOf_toList (l : List UInt8) : (strOf l).toList = l := by rw [ByteArray.toList_eq]; rfl
theorem strOf_of (s : ByteArray) : strOf s.data.toList = s := by
  unfold strOf
  apply ByteArray.ext
  simp

theorem str_ne (s : ByteArray) (h : s.size ≠ 0) : s.toList.isEmpty = false ∧ (s.toList == []) = false := by
  have e : s.toList = s.data.toList := ByteArray.toList_eq s
  have hl : s.data.toList.length ≠ 0 := by simpa using h
  rw [e]
  cases hs : s.data.toList with
  | nil => rw [hs] at hl; simp at hl
  | cons a l => exact ⟨rfl, rfl⟩
theorem str_no (s : ByteArray) (h : s.size = 0) : s.toList.isEmpty = true ∧ (s.toList == []) = true ∧ s.toList = [] := by
  have e : s.toList = s.data.toList := ByteArray.toList_eq s
  have hl : s.data.toList = [] := List.eq_nil_of_length_eq_zero (by simpa using h)
  rw [e, hl]
  exact ⟨rfl, rfl, rfl⟩

theorem str_at (s : ByteArray) (k : Nat) (h : k < s.size) : s.data.toList[k]? = some s[k] := by
  rw [List.getElem?_eq_getElem (by simpa using h)]
  rfl

def strsV (l : List (List UInt8)) : List Value := l.map fun x => .string (strOf x)

theorem strsV_len (l : List (List UInt8)) : (strsV l).length = l.length := by simp [strsV]
theorem strsV_snoc (l : List (List UInt8)) (x : List UInt8) : strsV (l ++ [x]) = strsV l ++ [.string (strOf x)] := by simp [strsV]
theorem strsV_one (l : List (List UInt8)) : ∀ u ∈ strsV l, u.oneCell' = true := by
  intro u hu
  obtain ⟨x, _, rfl⟩ := List.mem_map.1 hu
  rfl

end Go.Proofs.YtdjhpgpekomjeaaGreatDoor

/- A whole struct stored into a block that is known whole; small steps of 'Below' and 'Box'. No condition. -/
namespace Go.Proofs.YtdjhpgpekomjeaaGreatDoor
open Go.RowKit

theorem Box.setCells {g : Nat} {t : TypeId} : ∀ (vs : List Value) (o : Nat) (w : World) (cs : Array Value), Box w g t cs → ∃ cs' : Array Value, cs'.size = cs.size ∧ Box (w.setCells g o vs) g t cs'
  | [], _, _, cs, h => ⟨cs, rfl, h⟩
  | v :: r, o, w, cs, h => by
    obtain ⟨cs', hs, hb⟩ := Box.setCells r (o + 1) _ _ (h.set o v)
    exact ⟨cs', by rw [hs]; simp, hb⟩

theorem only_setCells {g : Nat} : ∀ (vs : List Value) (o : Nat) (w : World), w.grownBy (w.setCells g o vs) (some g)
  | [], _, w => only_refl w g
  | v :: r, o, w => only_trans (only_set w g o v) (only_setCells r (o + 1) _)

theorem Box.there {w : World} {g : Nat} {t : TypeId} {cs : Array Value} (h : Box w g t cs) : w.there g 0 cs.size := fun j hj => by
  rw [Nat.zero_add]
  exact ⟨by rw [h.cell j, Array.getElem?_eq_getElem hj]; rfl, h.free j⟩

theorem Box.store {w : World} {g : Nat} {t : TypeId} {cs vs : Array Value} (h : Box w g t cs) (hs : cs.size = vs.size) : Box (w.setCells g 0 vs.toList) g t vs := by
  obtain ⟨cs', hs', hb⟩ := Box.setCells vs.toList 0 w cs h
  have hr := World.rangeAt_setCells_same w g 0 vs.toList (by rw [Array.length_toList, ← hs]; exact h.there)
  have e : cs' = vs := by
    apply Array.ext
    · omega
    · intro i h1 h2
      have := hr i vs[i] (by simp [Array.getElem?_toList, Array.getElem?_eq_getElem h2])
      rw [Nat.zero_add, hb.cell i, Array.getElem?_eq_getElem h1] at this
      exact Option.some.inj this
  rwa [e] at hb

/-- A whole struct is stored. -/
theorem wp_store_box {P : Program} {op : Oper} {a : Act} {w : World} {K : Act → World → Prop} {Q : Exit → Act → World → Prop} (ty : TypeId) (x y : Operand) (ho : op.op = .store ty x y)
    (g : Nat) (t : TypeId) (cs vs : Array Value) (hx : a.eval x = .pointer (some ⟨g, 0, none⟩)) (hy : a.eval y = .agg vs) (hb : Box w g t cs) (hs : cs.size = vs.size)
    (hi : (P.info? ty).map (·.size) = some vs.size) (h1 : vs.all (·.oneCell') = true)
    (h : ∀ w', Box w' g t vs → w.grownBy w' (some g) → K (a.put op.dst undef) w') : op.wp P a w K Q :=
  wp_store_mid ty x y ho g 0 vs hx hy (by rw [← hs]; exact hb.there) hi h1 (h _ (hb.store hs) (only_setCells _ _ _))

theorem wpList_store_box {P : Program} {ops : Array Oper} {rest : List Oper} {op : Oper} {a : Act} {w : World} {Q : Exit → Act → World → Prop} (hgd : op.guard = none) (ty : TypeId) (x y : Operand) (ho : op.op = .store ty x y)
    (g : Nat) (t : TypeId) (cs vs : Array Value) (hx : a.eval x = .pointer (some ⟨g, 0, none⟩)) (hy : a.eval y = .agg vs) (hb : Box w g t cs) (hs : cs.size = vs.size)
    (hi : (P.info? ty).map (·.size) = some vs.size) (h1 : vs.all (·.oneCell') = true)
    (h : ∀ w', Box w' g t vs → w.grownBy w' (some g) → wpList P ops Q rest (a.put op.dst undef) w') : wpList P ops Q (op :: rest) a w :=
  wpList_plain hgd fun _ hK => wp_store_box ty x y ho g t cs vs hx hy hb hs hi h1 fun w' hb' hg' => hK _ _ (h w' hb' hg')

/-- The same at a step of a region that draws its order. -/
theorem step_store_box {P : Program} {ops : Array Oper} {op : Oper} {a : Act} {w : World} {K : Act → World → Prop} {Q : Exit → Act → World → Prop} {E : Prop} (hgd : op.guard = none) (ty : TypeId) (x y : Operand) (ho : op.op = .store ty x y)
    (g : Nat) (t : TypeId) (cs vs : Array Value) (hx : a.eval x = .pointer (some ⟨g, 0, none⟩)) (hy : a.eval y = .agg vs) (hb : Box w g t cs) (hs : cs.size = vs.size)
    (hi : (P.info? ty).map (·.size) = some vs.size) (h1 : vs.all (·.oneCell') = true)
    (h : ∀ w', Box w' g t vs → w.grownBy w' (some g) → K (a.put op.dst undef) w') : if Region.wanted op (yielded ops a.tmps) = true then Oper.wp P op a w K Q else E := by
  have hw : Region.wanted op (yielded ops a.tmps) = true := by simp [Region.wanted, hgd]
  rw [if_pos hw]
  exact wp_store_box ty x y ho g t cs vs hx hy hb hs hi h1 h

/-- A block that is known whole, behind a call that writes nothing that was there. -/
theorem Box.step {w w' : World} {g : Nat} {t : TypeId} {cs : Array Value} (h : Box w g t cs) (hb : Below w.heap.size w w') : Box w' g t cs := h.below hb h.lt

theorem below_step {B : Nat} {a W w1 : World} (h : Below B a W) (hB : B ≤ a.heap.size) (hb : Below W.heap.size W w1) : Below B a w1 := h.trans (hb.mono (Nat.le_trans hB h.size))
theorem below_alloc {B : Nat} {a W : World} (h : Below B a W) (hB : B ≤ a.heap.size) (o : Obj) : Below B a (W.alloc o) := h.alloc (Nat.le_trans hB h.size) o
theorem below_set {B g i : Nat} {a W : World} {u : Value} (hB : B ≤ g) (h : Below B a W) : Below B a (W.setCell ⟨g, i, none⟩ u) := h.setCell (p := ⟨g, i, none⟩) hB u

theorem to_below {P : Program} {f : FuncId} {args : Array Value} {W : World} {v : Ending} (h : Calls P f args W fun r w' => r = v ∧ ∃ m, w' = W.drewN m) : Calls P f args W fun r w' => r = v ∧ Below W.heap.size W w' :=
  h.mono fun _ _ ⟨he, m, hm⟩ => ⟨he, by rw [hm]; exact below_drewN (Below.refl _ _) m⟩

/-- What a slice literal has just laid down. -/
theorem lies_new {w : World} {t : TypeId} {cs : Array Value} {xs : List Value} (g n size : Nat) (hg : g = w.heap.size) (hc : cs.toList = xs) (hn : cs.size = n * size) : Lies (w.alloc (.cells cs t)) (w.alloc (.cells cs t)).heap.size size (some ⟨g, 0, none⟩) n xs := by
  subst hc hg
  have h := Box.new w t cs
  exact ⟨by simpa using hn, fun _ => ⟨w.heap.size, 0, rfl, h.lt, fun j u hu => by rw [Nat.zero_add, h.cell j]; simpa using hu⟩⟩

/-- A block that is not the one that turned. -/
theorem box_only {w w' : World} {g k : Nat} {t : TypeId} {cs : Array Value} (h : Box w k t cs) (hk : k ≠ g) (ho : w.grownBy w' (some g)) : Box w' k t cs :=
  (ho.block k h.lt (fun e => hk (Option.some.inj e))).trans h

/-! ### Two rows that grow side by side -/
/-- Two rows don't lie in one block. -/
def Apart (v u : Value) : Prop := ∀ k, v.ownBlock = some k → u.ownBlock = some k → False

theorem Apart.symm {v u : Value} (h : Apart v u) : Apart u v := fun k h1 h2 => h k h2 h1
theorem Apart.nil_left (u : Value) : Apart (.slice none 0 0) u := fun k h => by simp [Value.ownBlock] at h
theorem Apart.nil_right (u : Value) : Apart u (.slice none 0 0) := (Apart.nil_left u).symm

/-- The other row behind an append to the one. -/
theorem own_apart {w w' : World} {base size n : Nat} {e : TypeId} {u v : Value} {xs : List Value} (h : w.ownsRow base e size u n xs) (hg : w.grownBy w' v.ownBlock) (ha : Apart v u) : w'.ownsRow base e size u n xs := by
  refine h.kept hg ?_
  cases hu : u.ownBlock with
  | none => exact .inl rfl
  | some k => exact .inr fun e => ha k e.symm hu

theorem Apart.grown {w : World} {base size n : Nat} {e : TypeId} {u v v' : Value} {xs : List Value} (ha : Apart v u) (h : w.ownsRow base e size u n xs) {H : Nat} (hH : w.heap.size ≤ H) (h4 : v'.ownBlock = v.ownBlock ∨ v'.ownBlock = some H) : Apart v' u := by
  intro k h1 h2
  rcases h4 with h4 | h4
  · exact ha k (h4 ▸ h1) h2
  · rw [h4] at h1
    have := (h.lt k h2).2
    injection h1 with e
    omega

/-- append(out, x, y ..), a literal, with the block that the row then lies in. -/
theorem wpList_append_lit_at {P : Program} (w : World) {ops : Array Oper} {rest : List Oper} {o : Oper} {a : Act} {Q : Exit → Act → World → Prop} (hgd : o.guard = none) (s x : Operand) (t : TypeId)
    (ho : o.op = .call { callee := .builtin .append, args := #[s, x], argTypes := #[t, t] })
    (base : Nat) (e : TypeId) (i : TypeInfo) (z : Value) (size bytes : Nat) (ht : P.underlying t = some (.slice e)) (hi : P.info? e = some i) (hz : i.zero = some z)
    (hsize : i.size = size) (hby : i.bytes = bytes) (hzs : z.cells.size = size) (hsz : 0 < size)
    (v : Value) (n : Nat) (xs : List Value) (hs : a.eval s = v) (hown : w.ownsRow base e size v n xs)
    (cs : Array Value) (et : TypeId) (m c : Nat) (hx : a.eval x = .slice (some ⟨w.heap.size, 0, none⟩) m c) (hm : cs.size = m * size) (h1 : ∀ u ∈ cs.toList, u.oneCell' = true)
    (h63 : n + m ≤ maxLen) (hbytes : (n + m) * bytes ≤ 140737488355328) (hbase : base ≤ w.heap.size)
    (h : ∀ v' w', w'.ownsRow base e size v' (n + m) (xs ++ cs.toList) → (w.alloc (.cells cs et)).grownBy w' v.ownBlock → (v'.ownBlock = v.ownBlock ∨ v'.ownBlock = some (w.heap.size + 1)) → wpList P ops Q rest (a.put o.dst v') w') : wpList P ops Q (o :: rest) a (w.alloc (.cells cs et)) := by
  refine wpList_append_own_at _ hgd s x t ho base e i z size bytes ht hi hz hsize hby hzs hsz v n xs hs (hown.alloc _) ⟨w.heap.size, 0, none⟩ m c cs.toList hx (by simpa using hm) (fun j u hu => ?_) h1 h63 hbytes (by simp; omega) (fun v' w' h1 h2 _ h4 => h v' w' h1 h2 (by simpa using h4))
  rw [addr_lit, cell_of_row _ w.heap.size (0 + j) cs et (0, 0) (heap_alloc_new w _)]
  simpa using hu

end Go.Proofs.YtdjhpgpekomjeaaGreatDoor
