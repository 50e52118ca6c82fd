/- Slices that came in, as lists: of bytes, of instructions. -/
import Derived.Test.YtdlhadmafcgaiaaFrame
import Derived.Test.YtdlhadmafcgaiaaPlain
namespace Go.Proofs.Ytdlhadmafcgaiaa
open Go.RowKit Go.ChangeShapes Go.WideShapes Go.ChangeAt

theorem lies_flatten {w : World} {B C n b o : Nat} {L : List (List Value)} (hL : L.length = n) (hC : ∀ cs ∈ L, cs.length = C) (hb : 0 < n * C → b < B)
    (hc : ∀ i cs, L[i]? = some cs → ∀ j u, cs[j]? = some u → w.cell? ⟨b, o + i * C + j, none⟩ = some u) (h0 : 0 < C) : Lies w B C (some ⟨b, o, none⟩) n L.flatten := by
  have hlen : ∀ M : List (List Value), (∀ cs ∈ M, cs.length = C) → M.flatten.length = M.length * C := by
    intro M
    induction M with
    | nil => intro _; simp
    | cons x M ih =>
      intro h
      rw [List.flatten_cons, List.length_append, h x (List.mem_cons_self ..), ih (fun cs hcs => h cs (List.mem_cons_of_mem _ hcs)), List.length_cons, Nat.add_mul]
      omega
  refine ⟨by rw [hlen L hC, hL], fun hn => ⟨b, o, rfl, hb (Nat.mul_pos hn h0), ?_⟩⟩
  clear hL hb
  induction L generalizing o with
  | nil => intro j u hu; simp at hu
  | cons x L ih =>
    intro j u hu
    have hx := hC x (List.mem_cons_self ..)
    rw [List.flatten_cons] at hu
    by_cases hj : j < C
    · rw [List.getElem?_append_left (by omega)] at hu
      have := hc 0 x rfl j u hu
      rwa [Nat.zero_mul, Nat.add_zero] at this
    · rw [List.getElem?_append_right (by omega), hx] at hu
      have := ih (o := o + C) (fun cs hcs => hC cs (List.mem_cons_of_mem _ hcs)) (fun i cs hi k v hk => by
        have := hc (i + 1) cs (by simpa using hi) k v hk
        rwa [show o + (i + 1) * C + k = o + C + i * C + k from by rw [Nat.add_mul]; omega] at this) (j - C) u hu
      rwa [show o + C + (j - C) = o + j from by omega] at this

section
variable {H : Type} {enc : TypeId × Value → H} {P : Program} {w : World} {spare : Nat → Bool} {held : Bool}

/-- A slice that came in: its elements' cells, each as its own reading has it. -/
theorem open_slice_lies {t e : TypeId} {fuel C n c : Nat} {A : Option Addr} {x : DataW H × List MemPlace} (ht : P.underlying t = some (.slice e)) (hC : P.cellsOf e = C) (h0 : 0 < C)
    (h : DataW.trod enc P w 0 spare held fuel t [.slice A n c] = some x) :
    n ≤ c ∧ ((n = 0 ∧ x.1 = .nil) ∨ ∃ el sp, x.1 = .slice el sp ∧ n ≤ el.length + sp.length) ∧
    ∃ L : List (List Value), L.length = n ∧ Lies w w.heap.size C A n L.flatten ∧ ∀ cs ∈ L, ∃ m y, DataW.trod enc P w 0 spare held m e cs = some y := by
  rcases Deep.open_slice ht h with ⟨h1, h2⟩ | ⟨a, len, cap, m, k, D, Pl, hcs, hb, hl, hm, hmm, hx, hi⟩
  · simp only [List.cons.injEq, Value.slice.injEq, and_true] at h1
    obtain ⟨rfl, rfl, rfl⟩ := h1
    exact ⟨Nat.le_refl _, .inl ⟨rfl, by rw [h2]⟩, [], rfl, Lies.empty _ _ _ _, fun cs hcs => by simp at hcs⟩
  · simp only [List.cons.injEq, Value.slice.injEq, and_true] at hcs
    obtain ⟨rfl, rfl, rfl⟩ := hcs
    have hnm : n ≤ m := by rw [hmm]; split <;> omega
    refine ⟨hl, .inr ⟨_, _, by rw [hx], by simp⟩, ?_⟩
    rw [hC] at hi
    -- the cells, element by element
    have hex : ∀ i, i < n → ∃ cs, cs.length = C ∧ (∀ j, j < C → w.cell? ((a.add (i * C)).add j) = cs[j]?) ∧ ∃ m y, DataW.trod enc P w 0 spare held m e cs = some y := by
      intro i hin
      obtain ⟨cs', hc, ht'⟩ := hi i (by omega)
      obtain ⟨_, hcl, hat⟩ := World.cells?_some hc
      exact ⟨cs', hcl, hat, _, _, ht'⟩
    have hlist : ∀ q, q ≤ n → ∃ L : List (List Value), L.length = q ∧ ∀ i cs, L[i]? = some cs → cs.length = C ∧ (∀ j, j < C → w.cell? ((a.add (i * C)).add j) = cs[j]?) ∧ ∃ m y, DataW.trod enc P w 0 spare held m e cs = some y := by
      intro q
      induction q with
      | zero => intro _; exact ⟨[], rfl, fun i cs hi => by simp at hi⟩
      | succ q ih =>
        intro hq
        obtain ⟨L, hL, hLi⟩ := ih (by omega)
        obtain ⟨cs, h1, h2, h3⟩ := hex q (by omega)
        refine ⟨L ++ [cs], by simp [hL], fun i cs' hi' => ?_⟩
        by_cases hiq : i < q
        · rw [List.getElem?_append_left (by omega)] at hi'
          exact hLi i cs' hi'
        · rw [List.getElem?_append_right (by omega)] at hi'
          have hiq' : i = q := by
            have := (List.getElem?_eq_some_iff.1 hi').1
            simp at this
            omega
          subst hiq'
          rw [hL, Nat.sub_self] at hi'
          simp at hi'
          subst hi'
          exact ⟨h1, h2, h3⟩
    obtain ⟨L, hL, hLi⟩ := hlist n (Nat.le_refl _)
    have hmem : ∀ cs ∈ L, cs.length = C ∧ ∃ m y, DataW.trod enc P w 0 spare held m e cs = some y := by
      intro cs hcs
      obtain ⟨i, hi'⟩ := List.mem_iff_getElem?.1 hcs
      exact ⟨(hLi i cs hi').1, (hLi i cs hi').2.2⟩
    refine ⟨L, hL, ?_, fun cs hcs => (hmem cs hcs).2⟩
    rcases Nat.eq_zero_or_pos n with hn | hn
    · subst hn
      obtain rfl := List.eq_nil_of_length_eq_zero hL
      exact Lies.empty _ _ _ _
    · -- the address has no spot: its first cell is there
      obtain ⟨cs0, h1, h2, _⟩ := hex 0 hn
      have hc0 : w.cell? a = some (cs0[0]'(by omega)) := by
        have := h2 0 h0
        rw [Nat.zero_mul, List.getElem?_eq_getElem (by omega)] at this
        simpa [Addr.add] using this
      have hsp := World.cell?_spot hc0
      obtain ⟨b, o, s⟩ := a
      simp only at hsp
      subst hsp
      have hbl := World.block_lt_of_cell? w _ hc0
      refine lies_flatten hL (fun cs hcs => (hmem cs hcs).1) (fun _ => hbl) (fun i cs hi' j u hu => ?_) h0
      have hjC : j < C := by rw [← (hLi i cs hi').1]; exact (List.getElem?_eq_some_iff.1 hu).1
      have := (hLi i cs hi').2.1 j hjC
      rw [addr_lit, addr_lit] at this
      rw [this, hu]

theorem list_of {α β : Type} {f : β → α} {p : β → Prop} : ∀ (L : List α), (∀ a ∈ L, ∃ b, a = f b ∧ p b) → ∃ M : List β, L = M.map f ∧ ∀ b ∈ M, p b
  | [], _ => ⟨[], rfl, fun b hb => by simp at hb⟩
  | a :: L, h => by
    obtain ⟨M, hM, hp⟩ := list_of L (fun x hx => h x (List.mem_cons_of_mem _ hx))
    obtain ⟨b, rfl, hb⟩ := h a (List.mem_cons_self ..)
    exact ⟨b :: M, by rw [hM]; rfl, fun y hy => by
      rcases List.mem_cons.1 hy with rfl | hy
      · exact hb
      · exact hp y hy⟩

end

/-- Bytes that came in. -/
theorem open_bytes {H : Type} {enc : TypeId × Value → H} {w : World} {spare : Nat → Bool} {held : Bool} {fuel n c : Nat} {A : Option Addr} {x : DataW H × List MemPlace}
    (h : DataW.trod enc Try.prog w 0 spare held fuel 23 [.slice A n c] = some x) :
    n ≤ c ∧ ((n = 0 ∧ x.1 = .nil) ∨ ∃ el sp, x.1 = .slice el sp ∧ n ≤ el.length + sp.length) ∧ ∃ l : List UInt8, Lies w w.heap.size 1 A n (bytesV l) := by
  obtain ⟨hnc, hr, L, hL, hl, hel⟩ := open_slice_lies Try.underlying23 (C := 1) (by kernel_rfl) (by omega) h
  refine ⟨hnc, hr, ?_⟩
  obtain ⟨M, hM, _⟩ := list_of (f := fun b : UInt8 => [byteV b]) (p := fun _ => True) L (fun cs hcs => by
    obtain ⟨m, y, hy⟩ := hel cs hcs
    obtain ⟨k, rfl, _, hw⟩ := DataW.trod_int Try.underlying5 hy
    have hk : 0 ≤ k ∧ k ≤ 255 := by simpa [Lit.wf, IntKind.min, IntKind.max, IntKind.signed, IntKind.bits] using hw
    refine ⟨UInt8.ofNat k.toNat, ?_, trivial⟩
    unfold byteV
    rw [UInt8.toNat_ofNat']
    congr 2
    omega)
  refine ⟨M, ?_⟩
  have e : L.flatten = bytesV M := by
    rw [hM]
    clear hM
    induction M with
    | nil => rfl
    | cons b M ih => simp [bytesV] at ih ⊢; exact ih
  rw [← e]
  exact hl

/-- Instructions that came in. -/
theorem open_instrs {H : Type} {enc : TypeId × Value → H} {w : World} {spare : Nat → Bool} {held : Bool} {fuel n c : Nat} {A : Option Addr} {x : DataW H × List MemPlace}
    (h : DataW.trod enc Try.prog w 0 spare held fuel 22 [.slice A n c] = some x) :
    n ≤ c ∧ ((n = 0 ∧ x.1 = .nil) ∨ ∃ el sp, x.1 = .slice el sp ∧ n ≤ el.length + sp.length) ∧ ∃ l : List Ins, Lies w w.heap.size 4 A n (cellsOf l) ∧ ∀ y ∈ l, y.kOk := by
  obtain ⟨hnc, hr, L, hL, hl, hel⟩ := open_slice_lies Try.underlying22 (C := 4) (by kernel_rfl) (by omega) h
  refine ⟨hnc, hr, ?_⟩
  obtain ⟨M, hM, hk⟩ := list_of (f := Ins.cells) (p := Ins.kOk) L (fun cs hcs => by
    obtain ⟨m, y, hy⟩ := hel cs hcs
    obtain ⟨xs, k, _, _, hlen, hxl, hf⟩ := DataW.trod_struct Try.underlying36 hy
    have hc4 : cs.length = 4 := hlen.trans (by kernel_rfl)
    have k1 : Try.prog.cellsOf 3 = 1 := by kernel_rfl
    have k2 : Try.prog.cellsOf 34 = 1 := by kernel_rfl
    match cs, hc4, xs, hxl with
    | [c0, c1, c2, c3], _, [x0, x1, x2, x3], _ =>
      have g0 := hf 0 _ rfl
      have g1 := hf 1 _ rfl
      have g2 := hf 2 _ rfl
      have g3 := hf 3 _ rfl
      simp [k1, k2] at g0 g1 g2 g3
      obtain ⟨n0, e0, _, _⟩ := DataW.trod_int Try.underlying3 g0
      obtain ⟨n1, e1, _, _⟩ := DataW.trod_int Try.underlying3 g1
      obtain ⟨n2, e2, _, _⟩ := DataW.trod_int Try.underlying3 g2
      obtain ⟨n3, e3, _, w3⟩ := DataW.trod_int Try.underlying34 g3
      simp at e0 e1 e2 e3
      subst e0 e1 e2 e3
      refine ⟨⟨n0, n1, n2, n3⟩, rfl, ?_⟩
      simpa [Ins.kOk, Lit.wf, IntKind.min, IntKind.max, IntKind.signed, IntKind.bits] using w3)
  refine ⟨M, ?_, hk⟩
  have e : L.flatten = cellsOf M := by
    rw [hM]
    unfold cellsOf
    rw [List.flatMap_def]
  rw [← e]
  exact hl

end Go.Proofs.Ytdlhadmafcgaiaa
