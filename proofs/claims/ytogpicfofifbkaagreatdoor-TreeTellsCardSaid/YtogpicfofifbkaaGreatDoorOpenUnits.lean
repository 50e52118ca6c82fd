/- Expressions and units that came in, as they lie in memory. -/
import Derived.Test.YtogpicfofifbkaaGreatDoorPart1
import Derived.Test.YtogpicfofifbkaaGreatDoorChecked
import Derived.Test.YtogpicfofifbkaaGreatDoorUnits
import Derived.ChangeMaps5
namespace Go.Proofs.YtogpicfofifbkaaGreatDoor
open Go.RowKit Go.ChangeShapes Go.WideShapes Go.ChangeAt

section
variable {H : Type} {enc : TypeId × Value → H} {P : Program} {w : World} {spare : Nat → Bool} {held : Bool}

/-- A slice that came in: its elements' cells, each read with less. -/
theorem open_list {t e : TypeId} {fuel C n c : Nat} {A : Option Addr} {x : DataW H × List MemPlace} (ht : P.underlying t = some (.slice e)) (hC : P.cellsOf e = C) (h0 : 0 < C)
    (h : DataW.trod enc P w 0 spare held fuel t [.slice A n c] = some x) :
    n ≤ c ∧ c ≤ maxLen ∧ ∃ L : List (List Value), L.length = n ∧ Lies w w.heap.size C A n L.flatten ∧ ∀ cs ∈ L, ∃ m y, m < fuel ∧ DataW.trod enc P w 0 spare held m e cs = some y := by
  rcases DataW.trod_slice ht h with ⟨h1, h2⟩ | ⟨a, len, cap, elems, rest, m, hfu, hcs, _, _, hl, hroom, hlen, hel, _, _⟩
  · simp only [List.cons.injEq, Value.slice.injEq, and_true] at h1
    obtain ⟨rfl, rfl, rfl⟩ := h1
    exact ⟨Nat.le_refl _, by decide, [], rfl, Lies.empty _ _ _ _, fun cs hcs => by simp at hcs⟩
  · simp only [List.cons.injEq, Value.slice.injEq, and_true] at hcs
    obtain ⟨rfl, rfl, rfl⟩ := hcs
    refine ⟨hl, hroom, ?_⟩
    rw [hC] at hel
    have hex : ∀ i, i < n → ∃ cs, cs.length = C ∧ (∀ j, j < C → w.cell? ((a.add (i * C)).add j) = cs[j]?) ∧ ∃ m y, m < fuel ∧ DataW.trod enc P w 0 spare held m e cs = some y := by
      intro i hin
      have hi := hel i hin
      rw [List.getElem?_eq_getElem (by omega)] at hi
      obtain ⟨cs', hc, ht'⟩ := Option.bind_eq_some_iff.1 hi
      obtain ⟨_, hcl, hat⟩ := World.cells?_some hc
      exact ⟨cs', hcl, hat, m, _, by omega, ht'⟩
    have hlist : ∀ q, q ≤ n → ∃ L : List (List Value), L.length = q ∧ ∀ i cs, L[i]? = some cs → cs.length = C ∧ (∀ j, j < C → w.cell? ((a.add (i * C)).add j) = cs[j]?) ∧ ∃ m y, m < fuel ∧ DataW.trod enc P w 0 spare held m e cs = some y := by
      intro q
      induction q with
      | zero => intro _; exact ⟨[], rfl, fun i cs hi => by simp at hi⟩
      | succ q ih =>
        intro hq
        obtain ⟨L, hL, hLi⟩ := ih (by omega)
        obtain ⟨cs, h1, h2, h3⟩ := hex q (by omega)
        refine ⟨L ++ [cs], by simp [hL], fun i cs' hi' => ?_⟩
        by_cases hiq : i < q
        · rw [List.getElem?_append_left (by omega)] at hi'
          exact hLi i cs' hi'
        · rw [List.getElem?_append_right (by omega)] at hi'
          have hiq' : i = q := by
            have := (List.getElem?_eq_some_iff.1 hi').1
            simp at this
            omega
          subst hiq'
          rw [hL, Nat.sub_self] at hi'
          simp at hi'
          subst hi'
          exact ⟨h1, h2, h3⟩
    obtain ⟨L, hL, hLi⟩ := hlist n (Nat.le_refl _)
    have hmem : ∀ cs ∈ L, cs.length = C ∧ ∃ m y, m < fuel ∧ DataW.trod enc P w 0 spare held m e cs = some y := by
      intro cs hcs
      obtain ⟨i, hi'⟩ := List.mem_iff_getElem?.1 hcs
      exact ⟨(hLi i cs hi').1, (hLi i cs hi').2.2⟩
    refine ⟨L, hL, ?_, fun cs hcs => (hmem cs hcs).2⟩
    rcases Nat.eq_zero_or_pos n with hn | hn
    · subst hn
      obtain rfl := List.eq_nil_of_length_eq_zero hL
      exact Lies.empty _ _ _ _
    · -- the address has no spot: its first cell is there
      obtain ⟨cs0, h1, h2, _⟩ := hex 0 hn
      have hc0 : w.cell? a = some (cs0[0]'(by omega)) := by
        have := h2 0 h0
        rw [Nat.zero_mul, List.getElem?_eq_getElem (by omega)] at this
        simpa [Addr.add] using this
      have hsp := World.cell?_spot hc0
      obtain ⟨b, o, s⟩ := a
      simp only at hsp
      subst hsp
      have hbl := World.block_lt_of_cell? w _ hc0
      refine lies_flatten hL (fun cs hcs => (hmem cs hcs).1) (fun _ => hbl) (fun i cs hi' j u hu => ?_) h0
      have hjC : j < C := by rw [← (hLi i cs hi').1]; exact (List.getElem?_eq_some_iff.1 hu).1
      have := (hLi i cs hi').2.1 j hjC
      rw [addr_lit, addr_lit] at this
      rw [this, hu]

/-- .. as things whose cells they are. -/
theorem open_things {α : Type} {f : α → List Value} {p : α → Prop} {t e : TypeId} {fuel C n c : Nat} {A : Option Addr} {x : DataW H × List MemPlace} (ht : P.underlying t = some (.slice e)) (hC : P.cellsOf e = C) (h0 : 0 < C)
    (hel : ∀ m cs y, m < fuel → DataW.trod enc P w 0 spare held m e cs = some y → ∃ z, cs = f z ∧ p z)
    (h : DataW.trod enc P w 0 spare held fuel t [.slice A n c] = some x) : ∃ l : List α, n = l.length ∧ SlIn w w.heap.size C f p A c l := by
  obtain ⟨h1, h2, L, hL, hl, hk⟩ := open_list ht hC h0 h
  obtain ⟨M, hM, hp⟩ := list_of (f := f) (p := p) L (fun cs hcs => by
    obtain ⟨m, y, hm, hy⟩ := hk cs hcs
    exact hel m cs y hm hy)
  have e : L.flatten = M.flatMap f := by rw [hM, List.flatMap_def]
  have en : n = M.length := by rw [← hL, hM, List.length_map]
  refine ⟨M, en, ?_, hp, by omega, h2⟩
  rw [← e, ← en]
  exact hl
/-- A slice's value, whatever it is. -/
theorem slice_form {t e : TypeId} {fuel : Nat} {v : Value} {x : DataW H × List MemPlace} (ht : P.underlying t = some (.slice e)) (h : DataW.trod enc P w 0 spare held fuel t [v] = some x) : ∃ A n c, v = .slice A n c := by
  rcases DataW.trod_slice ht h with ⟨h1, h2⟩ | ⟨a, len, cap, elems, rest, m, hfu, hcs, _⟩
  · exact ⟨none, 0, 0, by simpa using h1⟩
  · exact ⟨some a, len, cap, by simpa using hcs⟩
end

theorem wf_i (n : Int) (h : (Lit.int .i64 n).wf = true) : I64 n := by
  simpa [I64, Lit.wf, IntKind.min, IntKind.max, IntKind.signed, IntKind.bits] using h
theorem wf_u (n : Int) (h : (Lit.int .u64 n).wf = true) : U64 n := by
  simpa [U64, Lit.wf, IntKind.min, IntKind.max, IntKind.signed, IntKind.bits] using h

section
variable {H : Type} {enc : TypeId × Value → H} {w : World} {spare : Nat → Bool} {held : Bool}

set_option maxRecDepth 100000 in
theorem open_ex : ∀ (fuel : Nat) (cs : List Value) (x : DataW H × List MemPlace), DataW.trod enc Tryz.prog w 0 spare held fuel 25 cs = some x → ∃ e : Ex, cs = e.cells ∧ ExIn w w.heap.size e := by
  intro fuel
  induction fuel using Nat.strongRecOn with
  | _ fuel ih =>
    intro cs x h
    obtain ⟨xs, k, hf, _, hlen, hxl, hg⟩ := DataW.trod_struct Tryz.underlying25 h
    have hc5 : cs.length = 5 := hlen.trans (by kernel_rfl)
    have k1 : Tryz.prog.cellsOf 3 = 1 := by kernel_rfl
    have k2 : Tryz.prog.cellsOf 9 = 1 := by kernel_rfl
    have k3 : Tryz.prog.cellsOf 22 = 1 := by kernel_rfl
    have k4 : Tryz.prog.cellsOf 23 = 1 := by kernel_rfl
    match cs, hc5, xs, hxl with
    | [c0, c1, c2, c3, c4], _, [x0, x1, x2, x3, x4], _ =>
      have g0 := hg 0 _ rfl
      have g1 := hg 1 _ rfl
      have g2 := hg 2 _ rfl
      have g3 := hg 3 _ rfl
      have g4 := hg 4 _ rfl
      simp [k1, k2, k3, k4] at g0 g1 g2 g3 g4
      obtain ⟨n0, e0, _, w0⟩ := DataW.trod_int Tryz.underlying3 g0
      obtain ⟨n1, e1, _, w1⟩ := DataW.trod_string Tryz.underlying9 g1
      obtain ⟨n2, e2, _, w2⟩ := DataW.trod_string Tryz.underlying9 g2
      obtain ⟨n3, e3, _, w3⟩ := DataW.trod_int Tryz.underlying22 g3
      obtain ⟨A, n, c, rfl⟩ := slice_form Tryz.underlying23 g4
      obtain ⟨l, rfl, hl⟩ := open_things (f := Ex.cells) (p := ExIn w w.heap.size) (C := 5) Tryz.underlying23 (by kernel_rfl) (by omega) (fun m cs y hm hy => ih m (by omega) cs y hy) g4
      simp at e0 e1 e2 e3
      subst e0 e1 e2 e3
      exact ⟨.node n0 n1 n2 n3 A c l, rfl, .mk hl.lies hl.all hl.cap hl.room (wf_i _ w0) w1 w2 (wf_u _ w3)⟩

theorem open_str (fuel : Nat) (cs : List Value) (x : DataW H × List MemPlace) (h : DataW.trod enc Tryz.prog w 0 spare held fuel 9 cs = some x) : ∃ s : ByteArray, cs = strCells s ∧ StrIn s := by
  obtain ⟨s, e, _, hw⟩ := DataW.trod_string Tryz.underlying9 h
  exact ⟨s, e, hw⟩

set_option maxRecDepth 100000 in
theorem open_rul (fuel : Nat) (cs : List Value) (x : DataW H × List MemPlace) (h : DataW.trod enc Tryz.prog w 0 spare held fuel 50 cs = some x) : ∃ r : Rul, cs = r.cells ∧ RulIn w w.heap.size r := by
  obtain ⟨xs, k, hf, _, hlen, hxl, hg⟩ := DataW.trod_struct Tryz.underlying50 h
  have hc3 : cs.length = 3 := hlen.trans (by kernel_rfl)
  have k2 : Tryz.prog.cellsOf 9 = 1 := by kernel_rfl
  have k3 : Tryz.prog.cellsOf 28 = 1 := by kernel_rfl
  have k4 : Tryz.prog.cellsOf 23 = 1 := by kernel_rfl
  match cs, hc3, xs, hxl with
  | [c0, c1, c2], _, [x0, x1, x2], _ =>
    have g0 := hg 0 _ rfl
    have g1 := hg 1 _ rfl
    have g2 := hg 2 _ rfl
    simp [k2, k3, k4] at g0 g1 g2
    obtain ⟨n0, e0, _, w0⟩ := DataW.trod_string Tryz.underlying9 g0
    obtain ⟨A, n, c, rfl⟩ := slice_form Tryz.underlying28 g1
    obtain ⟨l, rfl, hl⟩ := open_things (f := strCells) (p := StrIn) (C := 1) Tryz.underlying28 (by kernel_rfl) (by omega) (fun m cs y _ hy => open_str m cs y hy) g1
    obtain ⟨A', n', c', rfl⟩ := slice_form Tryz.underlying23 g2
    obtain ⟨l', rfl, hl'⟩ := open_things (f := Ex.cells) (p := ExIn w w.heap.size) (C := 5) Tryz.underlying23 (by kernel_rfl) (by omega) (fun m cs y _ hy => open_ex m cs y hy) g2
    simp at e0
    subst e0
    exact ⟨⟨n0, A, c, l, A', c', l'⟩, rfl, w0, hl, hl'⟩

set_option maxRecDepth 100000 in
theorem open_par (fuel : Nat) (cs : List Value) (x : DataW H × List MemPlace) (h : DataW.trod enc Tryz.prog w 0 spare held fuel 48 cs = some x) : ∃ r : Par, cs = r.cells ∧ ParIn w w.heap.size r := by
  obtain ⟨xs, k, hf, _, hlen, hxl, hg⟩ := DataW.trod_struct Tryz.underlying48 h
  have hc4 : cs.length = 4 := hlen.trans (by kernel_rfl)
  have k1 : Tryz.prog.cellsOf 3 = 1 := by kernel_rfl
  have k2 : Tryz.prog.cellsOf 9 = 1 := by kernel_rfl
  have k3 : Tryz.prog.cellsOf 30 = 2 := by kernel_rfl
  have k4 : Tryz.prog.cellsOf 46 = 1 := by kernel_rfl
  match cs, hc4, xs, hxl with
  | [c0, c1, c2, c3], _, [x0, x1, x2], _ =>
    have g0 := hg 0 _ rfl
    have g1 := hg 1 _ rfl
    have g2 := hg 2 _ rfl
    simp [k2, k3, k4] at g0 g1 g2
    obtain ⟨n0, e0, _, w0⟩ := DataW.trod_string Tryz.underlying9 g0
    obtain ⟨ys, _, _, _, _, hyl, hh⟩ := DataW.trod_struct Tryz.underlying30 g1
    match ys, hyl with
    | [y0, y1], _ =>
      have i0 := hh 0 _ rfl
      have i1 := hh 1 _ rfl
      simp [k1] at i0 i1
      obtain ⟨n1, e1, _, w1⟩ := DataW.trod_int Tryz.underlying3 i0
      obtain ⟨n2, e2, _, w2⟩ := DataW.trod_int Tryz.underlying3 i1
      obtain ⟨A, n, c, rfl⟩ := slice_form Tryz.underlying46 g2
      obtain ⟨l, rfl, hl⟩ := open_things (f := Rul.cells) (p := RulIn w w.heap.size) (C := 3) Tryz.underlying46 (by kernel_rfl) (by omega) (fun m cs y _ hy => open_rul m cs y hy) g2
      simp at e0 e1 e2
      subst e0 e1 e2
      exact ⟨⟨n0, n1, n2, A, c, l⟩, rfl, w0, wf_i _ w1, wf_i _ w2, hl⟩

set_option maxRecDepth 100000 in
theorem open_pol (fuel : Nat) (cs : List Value) (x : DataW H × List MemPlace) (h : DataW.trod enc Tryz.prog w 0 spare held fuel 45 cs = some x) : ∃ r : Pol, cs = r.cells ∧ PolIn w w.heap.size r := by
  obtain ⟨xs, k, hf, _, hlen, hxl, hg⟩ := DataW.trod_struct Tryz.underlying45 h
  have hc2 : cs.length = 2 := hlen.trans (by kernel_rfl)
  have k2 : Tryz.prog.cellsOf 9 = 1 := by kernel_rfl
  have k4 : Tryz.prog.cellsOf 43 = 1 := by kernel_rfl
  match cs, hc2, xs, hxl with
  | [c0, c1], _, [x0, x1], _ =>
    have g0 := hg 0 _ rfl
    have g1 := hg 1 _ rfl
    simp [k2, k4] at g0 g1
    obtain ⟨n0, e0, _, w0⟩ := DataW.trod_string Tryz.underlying9 g0
    obtain ⟨A, n, c, rfl⟩ := slice_form Tryz.underlying43 g1
    obtain ⟨l, rfl, hl⟩ := open_things (f := Par.cells) (p := ParIn w w.heap.size) (C := 4) Tryz.underlying43 (by kernel_rfl) (by omega) (fun m cs y _ hy => open_par m cs y hy) g1
    simp at e0
    subst e0
    exact ⟨⟨n0, A, c, l⟩, rfl, w0, hl⟩

set_option maxRecDepth 100000 in
theorem open_dfn (fuel : Nat) (cs : List Value) (x : DataW H × List MemPlace) (h : DataW.trod enc Tryz.prog w 0 spare held fuel 42 cs = some x) : ∃ r : Dfn, cs = r.cells ∧ DfnIn w w.heap.size r := by
  obtain ⟨xs, k, hf, _, hlen, hxl, hg⟩ := DataW.trod_struct Tryz.underlying42 h
  have hc6 : cs.length = 6 := hlen.trans (by kernel_rfl)
  have k2 : Tryz.prog.cellsOf 9 = 1 := by kernel_rfl
  have k4 : Tryz.prog.cellsOf 25 = 5 := by kernel_rfl
  match cs, hc6, xs, hxl with
  | [c0, c1, c2, c3, c4, c5], _, [x0, x1], _ =>
    have g0 := hg 0 _ rfl
    have g1 := hg 1 _ rfl
    simp [k2, k4] at g0 g1
    obtain ⟨n0, e0, _, w0⟩ := DataW.trod_string Tryz.underlying9 g0
    obtain ⟨e, he, hin⟩ := open_ex _ _ _ g1
    simp at e0
    subst e0
    exact ⟨⟨n0, e⟩, by unfold Dfn.cells; rw [← he], w0, hin⟩

set_option maxRecDepth 100000 in
theorem open_unt (fuel : Nat) (cs : List Value) (x : DataW H × List MemPlace) (h : DataW.trod enc Tryz.prog w 0 spare held fuel 32 cs = some x) : ∃ r : Unt, cs = r.cells ∧ UntIn w w.heap.size r := by
  obtain ⟨xs, k, hf, _, hlen, hxl, hg⟩ := DataW.trod_struct Tryz.underlying32 h
  have hc5 : cs.length = 5 := hlen.trans (by kernel_rfl)
  have k1 : Tryz.prog.cellsOf 3 = 1 := by kernel_rfl
  have k2 : Tryz.prog.cellsOf 28 = 1 := by kernel_rfl
  have k3 : Tryz.prog.cellsOf 30 = 2 := by kernel_rfl
  have k4 : Tryz.prog.cellsOf 26 = 1 := by kernel_rfl
  have k5 : Tryz.prog.cellsOf 27 = 1 := by kernel_rfl
  match cs, hc5, xs, hxl with
  | [c0, c1, c2, c3, c4], _, [x0, x1, x2, x3], _ =>
    have g0 := hg 0 _ rfl
    have g1 := hg 1 _ rfl
    have g2 := hg 2 _ rfl
    have g3 := hg 3 _ rfl
    simp [k2, k3, k4, k5] at g0 g1 g2 g3
    obtain ⟨A0, n0, c0', rfl⟩ := slice_form Tryz.underlying26 g0
    obtain ⟨l0, rfl, hl0⟩ := open_things (f := Dfn.cells) (p := DfnIn w w.heap.size) (C := 6) Tryz.underlying26 (by kernel_rfl) (by omega) (fun m cs y _ hy => open_dfn m cs y hy) g0
    obtain ⟨A1, n1, c1', rfl⟩ := slice_form Tryz.underlying27 g1
    obtain ⟨l1, rfl, hl1⟩ := open_things (f := Pol.cells) (p := PolIn w w.heap.size) (C := 2) Tryz.underlying27 (by kernel_rfl) (by omega) (fun m cs y _ hy => open_pol m cs y hy) g1
    obtain ⟨A2, n2, c2', rfl⟩ := slice_form Tryz.underlying28 g2
    obtain ⟨l2, rfl, hl2⟩ := open_things (f := strCells) (p := StrIn) (C := 1) Tryz.underlying28 (by kernel_rfl) (by omega) (fun m cs y _ hy => open_str m cs y hy) g2
    obtain ⟨ys, _, _, _, _, hyl, hh⟩ := DataW.trod_struct Tryz.underlying30 g3
    match ys, hyl with
    | [y0, y1], _ =>
      have i0 := hh 0 _ rfl
      have i1 := hh 1 _ rfl
      simp [k1] at i0 i1
      obtain ⟨m1, e1, _, w1⟩ := DataW.trod_int Tryz.underlying3 i0
      obtain ⟨m2, e2, _, w2⟩ := DataW.trod_int Tryz.underlying3 i1
      simp at e1 e2
      subst e1 e2
      exact ⟨⟨A0, c0', l0, A1, c1', l1, A2, c2', l2, m1, m2⟩, rfl, hl0, hl1, hl2, wf_i _ w1, wf_i _ w2⟩

set_option maxRecDepth 100000 in
/-- An expression that came in by value. -/
theorem arg_ex {base : Nat} {v : Value} {x : DataW H} {p : List MemPlace} (hv : Value.okWide Tryz.prog w .any base 25 v) (h : DataW.Trod enc Tryz.prog w 0 spare held 25 v x p) :
    ∃ e : Ex, v = e.val ∧ ExIn w w.heap.size e := by
  obtain ⟨cs, rfl, hsz⟩ := okWide_struct Tryz.underlying25 hv
  obtain ⟨fuel, hf⟩ := h
  obtain ⟨e, he, hin⟩ := open_ex _ _ _ hf
  refine ⟨e, ?_, hin⟩
  obtain ⟨l⟩ := cs
  have hl : l = e.cells := by simpa [Value.cells] using he
  rw [hl]
  cases e
  rfl
set_option maxRecDepth 100000 in
theorem arg_unt {base : Nat} {v : Value} {x : DataW H} {p : List MemPlace} (hv : Value.okWide Tryz.prog w .any base 32 v) (h : DataW.Trod enc Tryz.prog w 0 spare held 32 v x p) :
    ∃ u : Unt, v = u.val ∧ UntIn w w.heap.size u := by
  obtain ⟨cs, rfl, hsz⟩ := okWide_struct Tryz.underlying32 hv
  obtain ⟨fuel, hf⟩ := h
  obtain ⟨e, he, hin⟩ := open_unt _ _ _ hf
  refine ⟨e, ?_, hin⟩
  obtain ⟨l⟩ := cs
  have hl : l = e.cells := by simpa [Value.cells] using he
  rw [hl]
  rfl
end

end Go.Proofs.YtogpicfofifbkaaGreatDoor
