/- Texts of mine put together (a claim has at most so many files): ParPol, ParUnit. -/
import Derived.Test.YtfklajkmikanbaaGreatDoorParBrP
import Derived.Test.YtfklajkmikanbaaGreatDoorPart16
/- What the landed parser's policy and define give. Condition: what the start lays, as far as the library reads it. -/
namespace Go.Proofs.YtfklajkmikanbaaGreatDoor.LandedP
open Go.RowKit

def PolNew (n : Nat) (W : World) (a : Pol) (v : Value) : Prop := ∃ r : Pol, r.bare = a ∧ v = r.val ∧ PolP (fun b => n ≤ b) W r
def PolShape (v : Value) : Prop := ∃ s A n c, v = .agg #[.string s, .slice A n c]
def DfnNew (n : Nat) (W : World) (a : Dfn) (v : Value) : Prop := ∃ r : Dfn, r.bare = a ∧ v = .agg r.cells.toArray ∧ DfnP (fun b => n ≤ b) W r
def DfnShape (v : Value) : Prop := ∃ r : Dfn, v = .agg r.cells.toArray
theorem polSize : (Tryz.prog.info? 54).map (·.size) = some 2 := by kernel_rfl
theorem dfnSize : (Tryz.prog.info? 50).map (·.size) = some 6 := by kernel_rfl

section
variable {w : World} {g : Nat} {E : Env} {R : List Tk}

abbrev zPol : Array Value := #[.string ⟨#[]⟩, .slice none 0 0]
abbrev zDfn : Array Value := #[.string ⟨#[]⟩, .int .i64 0, .string ⟨#[]⟩, .string ⟨#[]⟩, .int .u64 0, .slice none 0 0]

set_option maxRecDepth 100000 in
set_option maxHeartbeats 8000000 in
theorem policy_any (hE : ∀ W, E.laid W → Laid W) (h : RdrAt 66 w g E R Flt.none) :
    Calls Tryz.prog 28 #[.pointer (some ⟨g, 0, none⟩)] w (Gave 66 g E (PolNew w.heap.size) PolShape (policyX R) w) := by
  have HNA := Lib.hid (name_any (h.alloc (.cells zPol 54)))
  have HGL := Lib.hid h.lt
  clear h
  go_enter Tryz.func28, Tryz.ntmps28
  go_wp2_with fail
  refine HNA.out.mono ?_
  rintro e w1 ⟨hg1, h1⟩
  have HB1 := Lib.hid (box_only (Box.new w 54 zPol) (by have := HGL.out; omega) hg1)
  have HG1 := Lib.hid (only_trans (only_alloc w (.cells zPol 54) g) hg1)
  clear HNA hg1
  rcases h1 with ⟨s, hs, rfl, h1, hsi⟩ | ⟨hs, rfl, h1⟩
  · have HS := Lib.hid hs
    have HSI := Lib.hid hsi
    have HBR := Lib.hid (bracedPar_any hE h1)
    have HZ1 := Lib.hid HB1.out.lt
    clear hs hsi h1
    go_wp2_with fail
    refine HBR.out.mono ?_
    rintro e w2 ⟨hg2, h2⟩
    have HB2 := Lib.hid (box_only HB1.out (by have := HGL.out; omega) hg2)
    have HG2 := Lib.hid (only_trans HG1.out hg2)
    obtain ⟨p0, p1, y0, y1, hl⟩ := box2 HB2.out
    clear HBR hg2 HB1 HG1
    rcases h2 with ⟨l, R2, v, hx, rfl, ⟨A, c, l', hll, rfl, hsl⟩, hr⟩ | ⟨err, R2, v, hx, rfl, ⟨A, n, c, rfl⟩, hr⟩
    · have HEQ : Hid (policyX R = .ok (⟨s, none, 0, l'.map Par.bare⟩, R2)) := by
        show policyX R = _
        unfold policyX
        rw [HS.out]
        dsimp only
        rw [hx, hll]
      have hm0 : Move (fun b => w1.heap.size ≤ b) (fun b => w.heap.size < b) w2 w2 := Move.of _ fun b _ hp => Nat.lt_of_lt_of_le HZ1.out hp
      have HSL := Lib.hid (hsl.move hm0 fun _ _ h => h.move hm0)
      have HRR := Lib.hid hr
      clear hx hsl hr hll hm0
      go_wp2_with fail
      try simp only [Exit.inBlock, Exit.then]
      refine bodyPost_ret (results_box_tmp rfl _ _ w.heap.size 54 _ rfl (set2_box HB2.out) _ Tryz.underlying54 rfl polSize) rfl ⟨grow_new HG2.out set2_only (Nat.le_refl _), .inl ⟨_, R2, _, HEQ.out, rfl, ⟨⟨s, A, c, l'⟩, rfl, rfl, ?_⟩, HRR.out.other set2_only HGL.out⟩⟩
      have hm : ∀ a b, Move (fun b => w.heap.size < b) (fun b => w.heap.size ≤ b) w2 ((w2.setCell ⟨w.heap.size, 0, none⟩ a).setCell ⟨w.heap.size, 1, none⟩ b) := fun a b => Move.grown set2_only fun b _ hp => ⟨Nat.le_of_lt hp, fun e => by have := Option.some.inj e; omega⟩
      exact ⟨HSI.out, HSL.out.move (hm _ _) fun _ _ h => h.move (hm _ _)⟩
    · have HEQ : Hid (policyX R = .error (err, R2)) := by
        show policyX R = _
        unfold policyX
        rw [HS.out]
        dsimp only
        rw [hx]
      have HRR := Lib.hid hr
      clear hx hr
      go_wp2_with fail
      try simp only [Exit.inBlock, Exit.then]
      exact bodyPost_ret (results_box_tmp rfl _ _ w.heap.size 54 _ rfl (set2_box HB2.out) _ Tryz.underlying54 rfl polSize) rfl ⟨grow_new HG2.out set2_only (Nat.le_refl _), .inr ⟨err, R2, _, HEQ.out, rfl, ⟨_, _, _, _, rfl⟩, HRR.out.other set2_only HGL.out⟩⟩
  · have HEQ : Hid (policyX R = .error (3, R)) := by
      show policyX R = _
      unfold policyX
      rw [hs]
    have HRR := Lib.hid h1
    obtain ⟨p0, p1, y0, y1, hl⟩ := box2 HB1.out
    clear hs h1
    go_wp2_with fail
    try simp only [Exit.inBlock, Exit.then]
    exact bodyPost_ret (results_box_tmp rfl _ _ w.heap.size 54 _ rfl (set2_box HB1.out) _ Tryz.underlying54 rfl polSize) rfl ⟨grow_new HG1.out set2_only (Nat.le_refl _), .inr ⟨3, R, _, HEQ.out, rfl, ⟨_, _, _, _, rfl⟩, .inl ⟨rfl, HRR.out.other set2_only HGL.out⟩⟩⟩

set_option maxRecDepth 100000 in
set_option maxHeartbeats 8000000 in
theorem define_any (hE : ∀ W, E.laid W → Laid W) (h : RdrAt 66 w g E R Flt.none) :
    Calls Tryz.prog 27 #[.pointer (some ⟨g, 0, none⟩)] w (Gave 66 g E (DfnNew w.heap.size) DfnShape (defineX R) w) := by
  have HNA := Lib.hid (name_any (h.alloc (.cells zDfn 50)))
  have HGL := Lib.hid h.lt
  clear h
  go_enter Tryz.func27, Tryz.ntmps27
  go_wp2_with fail
  refine HNA.out.mono ?_
  rintro e w1 ⟨hg1, h1⟩
  have HB1 := Lib.hid (box_only (Box.new w 50 zDfn) (by have := HGL.out; omega) hg1)
  have HG1 := Lib.hid (only_trans (only_alloc w (.cells zDfn 50) g) hg1)
  clear HNA hg1
  rcases h1 with ⟨s, hs, rfl, h1, hsi⟩ | ⟨hs, rfl, h1⟩
  · have HS := Lib.hid hs
    have HSI := Lib.hid hsi
    have HNU := Lib.hid (number_any hE h1)
    have HZ1 := Lib.hid HB1.out.lt
    clear hs hsi h1
    go_wp2_with fail
    refine HNU.out.mono ?_
    rintro e w2 ⟨hg2, h2⟩
    have HB2 := Lib.hid (box_only HB1.out (by have := HGL.out; omega) hg2)
    have HG2 := Lib.hid (only_trans HG1.out hg2)
    obtain ⟨p0, p1, p2, p3, p4, p5, y0, y1, y2, y3, y4, y5, hl⟩ := box6 HB2.out
    clear HNU hg2 HB1 HG1
    have H3 : Hid (∃ (b : Bool) (e2 : Ex), e = .returned (.tuple #[e2.val, .bool b]) ∧ ((b = true ∧ ∃ R2, defineX R = .ok (⟨s, e2.bare⟩, R2) ∧ ExP (fun x => w.heap.size < x) w2 e2 ∧ RdrAt 66 w2 g E R2 Flt.none) ∨ (b = false ∧ ∃ err R2, defineX R = .error (err, R2) ∧ Wrong 66 w2 g E err R2))) := by
      have hz := HZ1.out
      have hd : defineX R = match numberX R.tail with
          | .error x => .error x
          | .ok (e, R1) => .ok (⟨s, e⟩, R1) := by
        unfold defineX
        rw [HS.out]
        rfl
      rcases h2 with ⟨a, R2, v, hx, rfl, ⟨e2, rfl, rfl, hin⟩, hr⟩ | ⟨err, R2, v, hx, rfl, ⟨e2, rfl⟩, hr⟩
      · rw [hx] at hd
        exact ⟨true, e2, rfl, .inl ⟨rfl, R2, hd, hin.move (Move.of _ fun b hb hp => by omega), hr⟩⟩
      · rw [hx] at hd
        exact ⟨false, e2, rfl, .inr ⟨rfl, err, R2, hd, hr⟩⟩
    clear h2
    obtain ⟨b, e2, rfl, H4⟩ := H3.out
    have H4 := Lib.hid H4
    clear H3
    obtain ⟨kd, op, nm, nu, A, c, ks⟩ := e2
    unfold Ex.val
    dsimp only
    go_wp2_with fail
    try simp only [Exit.inBlock, Exit.then]
    have hz := HZ1.out
    refine bodyPost_ret (results_box_tmp rfl _ _ w.heap.size 50 _ rfl ((set6_box HB2.out).alloc _) _ Tryz.underlying50 rfl dfnSize) rfl ⟨grow_alloc (grow_new HG2.out set6_only (Nat.le_refl _)) _, ?_⟩
    rcases H4.out with ⟨rfl, R2, hx, he2, hr2⟩ | ⟨rfl, err, R2, hx, hr2⟩
    · refine .inl ⟨_, R2, _, hx, rfl, ⟨⟨s, .node kd op nm nu A c ks⟩, rfl, rfl, ⟨HSI.out, ?_⟩⟩, (hr2.other set6_only HGL.out).alloc _⟩
      exact he2.move ((Move.grown (Q := fun x => w.heap.size ≤ x) set6_only fun b hb hp => ⟨by omega, by simp; omega⟩).trans (Move.grown (World.grownBy_alloc _ _ none) fun b hb hp => ⟨hp, by simp⟩))
    · exact .inr ⟨err, R2, _, hx, rfl, ⟨⟨s, .node kd op nm nu A c ks⟩, rfl⟩, (hr2.other set6_only HGL.out).step ((Below.refl _ _).alloc (Nat.le_refl _) _)⟩
  · have HEQ : Hid (defineX R = .error (3, R)) := by
      show defineX R = _
      unfold defineX
      rw [hs]
    have HRR := Lib.hid h1
    obtain ⟨p0, p1, p2, p3, p4, p5, y0, y1, y2, y3, y4, y5, hl⟩ := box6 HB1.out
    clear hs h1
    go_wp2_with fail
    try simp only [Exit.inBlock, Exit.then]
    exact bodyPost_ret (results_box_tmp rfl _ _ w.heap.size 50 _ rfl (set6_box HB1.out) _ Tryz.underlying50 rfl dfnSize) rfl ⟨grow_new HG1.out set6_only (Nat.le_refl _), .inr ⟨3, R, _, HEQ.out, rfl, ⟨⟨⟨#[]⟩, .node 0 ⟨#[]⟩ ⟨#[]⟩ 0 none 0 []⟩, rfl⟩, .inl ⟨rfl, HRR.out.other set6_only HGL.out⟩⟩⟩
end

end Go.Proofs.YtfklajkmikanbaaGreatDoor.LandedP

/- The landed parser's unit in memory, while it is read. No condition. -/
namespace Go.Proofs.YtfklajkmikanbaaGreatDoor.LandedP
open Go.RowKit

/-- Below block B only g and k may have turned. -/
structure Kp (B g k : Nat) (w w' : World) : Prop where
  os : w'.os = w.os
  tape : w'.tape = w.tape
  output : w'.output = w.output
  size : w.heap.size ≤ w'.heap.size
  block : ∀ i, i < B → i < w.heap.size → i ≠ g → i ≠ k → w'.heap[i]? = w.heap[i]?

section
variable {B g k : Nat} {w w' w'' : World}
theorem Kp.refl (w : World) : Kp B g k w w := ⟨rfl, rfl, rfl, Nat.le_refl _, fun _ _ _ _ _ => rfl⟩
theorem Kp.trans (h : Kp B g k w w') (h2 : Kp B g k w' w'') : Kp B g k w w'' :=
  ⟨h2.os.trans h.os, h2.tape.trans h.tape, h2.output.trans h.output, Nat.le_trans h.size h2.size, fun i h1 h3 h4 h5 => (h2.block i h1 (Nat.lt_of_lt_of_le h3 h.size) h4 h5).trans (h.block i h1 h3 h4 h5)⟩
theorem Kp.one {row : Option Nat} (h : w.grownBy w' row) (hr : ∀ b, row = some b → b = g ∨ b = k ∨ B ≤ b) : Kp B g k w w' :=
  ⟨h.os, h.tape, h.output, h.size, fun i h1 h3 h4 h5 => h.block i h3 (fun e => by rcases hr i e.symm with h | h | h <;> omega)⟩
theorem Kp.below {a : World} (h : Kp B g k w w') (ha : Below a.heap.size a w) (hg : a.heap.size ≤ g) (hk : a.heap.size ≤ k) (hB : a.heap.size ≤ B) : Below a.heap.size a w' :=
  ha.trans ⟨h.os, h.tape, h.output, h.size, fun i hi => h.block i (by omega) (by have := ha.size; omega) (by omega) (by omega)⟩
end

/-- Where what a unit holds may lie. -/
def Un (B : Nat) (u : Unt) (b : Nat) : Prop := B ≤ b ∧ (Value.slice u.dA u.defs.length u.dc).ownBlock ≠ some b ∧ (Value.slice u.pA u.pols.length u.pc).ownBlock ≠ some b

structure UniAt (B g k : Nat) (u : Unt) (W : World) : Prop where
  gk : g < k
  kB : k < B
  BW : B ≤ W.heap.size
  box : Box W k 29 u.cells.toArray
  drow : W.ownsRow B 50 6 (.slice u.dA u.defs.length u.dc) u.defs.length (u.defs.flatMap Dfn.cells)
  prow : W.ownsRow B 54 2 (.slice u.pA u.pols.length u.pc) u.pols.length (u.pols.flatMap Pol.cells)
  apart : Apart (.slice u.dA u.defs.length u.dc) (.slice u.pA u.pols.length u.pc)
  defs : ∀ d ∈ u.defs, DfnP (Un B u) W d
  pols : ∀ p ∈ u.pols, PolP (Un B u) W p
  main : SlP (Un B u) W 1 strCells StrIn u.mA u.mc u.main
  kind : I64 u.kind
  data : I64 u.data

section
variable {B g k : Nat} {u : Unt} {W W' : World} {E : Env} {R : List Tk} {F : Flt}

theorem UniAt.call (h : UniAt B g k u W) (ho : W.grownBy W' (some g)) : UniAt B g k u W' := by
  have h1 := h.gk
  have h2 := h.kB
  have hm : Move (Un B u) (Un B u) W W' := Move.grown ho fun b _ hp => ⟨hp, fun e => by have := Option.some.inj e; have := hp.1; omega⟩
  exact ⟨h1, h2, Nat.le_trans h.BW ho.size, box_only h.box (by omega) ho, own_ne h.drow ho (fun e => by have := (h.drow.lt _ e).1; omega), own_ne h.prow ho (fun e => by have := (h.prow.lt _ e).1; omega), h.apart,
    fun d hd => (h.defs d hd).move hm, fun p hp => (h.pols p hp).move hm, h.main.move hm fun _ _ h => h, h.kind, h.data⟩
theorem UniAt.step (h : UniAt B g k u W) (hb : Below W.heap.size W W') : UniAt B g k u W' := h.call (only_below hb g)

/-- The reader behind an append to a row. -/
theorem rdr_row {e : TypeId} {size n : Nat} {v : Value} {xs : List Value} (hr : RdrAt 66 W g E R F) (hl : g < B) (own : W.ownsRow B e size v n xs) (hg : W.grownBy W' v.ownBlock) : RdrAt 66 W' g E R F := by
  have hne : ∀ b, b < B → v.ownBlock ≠ some b := fun b hb e => by have := (own.lt b e).1; omega
  obtain ⟨A, c, hr⟩ := hr
  have hgl := hr.box.lt
  exact ⟨A, c, (hg.block g hgl (fun e => hne g hl e.symm)).trans hr.box, hr.lies.keep fun p hp => World.cell?_of_block (hg.block p.block (by omega) (fun e => hne p.block (by omega) e.symm)), hr.cap, hr.room, hr.ok,
    fun W2 hW2 => hr.laid W2 ((⟨hg.os, hg.tape, hg.output, hg.size, fun i hi => hg.block i (by omega) (fun e => hne i (by omega) e.symm)⟩ : Below g _ W').trans hW2)⟩

/-- One more constant. -/
theorem UniAt.pushD {d : Dfn} {A' : Option Addr} {c' : Nat} {W1 : World} (h : UniAt B g k u W) (own : W1.ownsRow B 50 6 (.slice A' (u.defs.length + 1) c') (u.defs.length + 1) (u.defs.flatMap Dfn.cells ++ d.cells))
    (hg : W.grownBy W1 (Value.slice u.dA u.defs.length u.dc).ownBlock) (hat : (Value.slice A' (u.defs.length + 1) c').ownBlock = (Value.slice u.dA u.defs.length u.dc).ownBlock ∨ (Value.slice A' (u.defs.length + 1) c').ownBlock = some W.heap.size) (hd : DfnP (Un B u) W d) :
    UniAt B g k { u with dA := A', dc := c', defs := u.defs ++ [d] } (W1.setCell ⟨k, 0, none⟩ (.slice A' (u.defs.length + 1) c')) ∧ Kp B g k W (W1.setCell ⟨k, 0, none⟩ (.slice A' (u.defs.length + 1) c')) := by
  have h1 := h.gk
  have h2 := h.kB
  have h3 := h.BW
  have hlen : (u.defs ++ [d]).length = u.defs.length + 1 := by simp
  have ho2 := only_set W1 k 0 (.slice A' (u.defs.length + 1) c')
  have hne : ∀ b, b < B → (Value.slice u.dA u.defs.length u.dc).ownBlock ≠ some b := fun b hb e => by have := (h.drow.lt b e).1; omega
  have hbx : Box W1 k 29 u.cells.toArray := (hg.block k h.box.lt (fun e => hne k h2 e.symm)).trans h.box
  have hx : ∀ b, b < W.heap.size → (Value.slice u.dA u.defs.length u.dc).ownBlock ≠ some b → (Value.slice A' (u.defs.length + 1) c').ownBlock ≠ some b := fun b hb hn e => by
    rcases hat with e1 | e1
    · exact hn (e1 ▸ e)
    · rw [e1] at e; have := Option.some.inj e; omega
  have hm : Move (Un B u) (Un B { u with dA := A', dc := c', defs := u.defs ++ [d] }) W (W1.setCell ⟨k, 0, none⟩ (.slice A' (u.defs.length + 1) c')) :=
    ⟨Nat.le_trans hg.size ho2.size, fun b hb hp => ⟨⟨hp.1, by show (Value.slice A' (u.defs ++ [d]).length c').ownBlock ≠ some b; rw [hlen]; exact hx b hb hp.2.1, hp.2.2⟩, (ho2.block b (Nat.lt_of_lt_of_le hb hg.size) (fun e => by have := Option.some.inj e; have := hp.1; omega)).trans (hg.block b hb (fun e => hp.2.1 e.symm))⟩⟩
  have hp1 : W1.ownsRow B 54 2 (.slice u.pA u.pols.length u.pc) u.pols.length (u.pols.flatMap Pol.cells) := own_apart h.prow hg h.apart
  refine ⟨⟨h1, h2, Nat.le_trans h3 (Nat.le_trans hg.size ho2.size), ?_, ?_, own_ne hp1 ho2 (fun e => by have := (hp1.lt _ e).1; omega), ?_, ?_, fun p hp => (h.pols p hp).move hm, h.main.move hm fun _ _ h => h, h.kind, h.data⟩, ?_⟩
  · have := hbx.set 0 (.slice A' (u.defs.length + 1) c')
    unfold Unt.cells at this ⊢
    rw [hlen]
    simpa using this
  · show World.ownsRow _ _ _ _ (.slice A' (u.defs ++ [d]).length c') (u.defs ++ [d]).length ((u.defs ++ [d]).flatMap Dfn.cells)
    rw [hlen, List.flatMap_append, show [d].flatMap Dfn.cells = d.cells from by simp]
    exact own_ne own ho2 (fun e => by have := (own.lt _ e).1; omega)
  · show Apart (.slice A' (u.defs ++ [d]).length c') _
    rw [hlen]
    intro b e1 e2
    exact hx b (h.prow.lt b e2).2 (fun e => h.apart b e e2) e1
  · intro x hx2
    rcases List.mem_append.1 hx2 with hx2 | hx2
    · exact (h.defs x hx2).move hm
    · obtain rfl : x = d := by simpa using hx2
      exact hd.move hm
  · exact (Kp.one hg fun b e => .inr (.inr (h.drow.lt b e).1)).trans (Kp.one ho2 fun b e => .inr (.inl (Option.some.inj e).symm))

/-- One more policy. -/
theorem UniAt.pushP {d : Pol} {A' : Option Addr} {c' : Nat} {W1 : World} (h : UniAt B g k u W) (own : W1.ownsRow B 54 2 (.slice A' (u.pols.length + 1) c') (u.pols.length + 1) (u.pols.flatMap Pol.cells ++ d.cells))
    (hg : W.grownBy W1 (Value.slice u.pA u.pols.length u.pc).ownBlock) (hat : (Value.slice A' (u.pols.length + 1) c').ownBlock = (Value.slice u.pA u.pols.length u.pc).ownBlock ∨ (Value.slice A' (u.pols.length + 1) c').ownBlock = some W.heap.size) (hd : PolP (Un B u) W d) :
    UniAt B g k { u with pA := A', pc := c', pols := u.pols ++ [d] } (W1.setCell ⟨k, 1, none⟩ (.slice A' (u.pols.length + 1) c')) ∧ Kp B g k W (W1.setCell ⟨k, 1, none⟩ (.slice A' (u.pols.length + 1) c')) := by
  have h1 := h.gk
  have h2 := h.kB
  have h3 := h.BW
  have hlen : (u.pols ++ [d]).length = u.pols.length + 1 := by simp
  have ho2 := only_set W1 k 1 (.slice A' (u.pols.length + 1) c')
  have hne : ∀ b, b < B → (Value.slice u.pA u.pols.length u.pc).ownBlock ≠ some b := fun b hb e => by have := (h.prow.lt b e).1; omega
  have hbx : Box W1 k 29 u.cells.toArray := (hg.block k h.box.lt (fun e => hne k h2 e.symm)).trans h.box
  have hx : ∀ b, b < W.heap.size → (Value.slice u.pA u.pols.length u.pc).ownBlock ≠ some b → (Value.slice A' (u.pols.length + 1) c').ownBlock ≠ some b := fun b hb hn e => by
    rcases hat with e1 | e1
    · exact hn (e1 ▸ e)
    · rw [e1] at e; have := Option.some.inj e; omega
  have hm : Move (Un B u) (Un B { u with pA := A', pc := c', pols := u.pols ++ [d] }) W (W1.setCell ⟨k, 1, none⟩ (.slice A' (u.pols.length + 1) c')) :=
    ⟨Nat.le_trans hg.size ho2.size, fun b hb hp => ⟨⟨hp.1, hp.2.1, by show (Value.slice A' (u.pols ++ [d]).length c').ownBlock ≠ some b; rw [hlen]; exact hx b hb hp.2.2⟩, (ho2.block b (Nat.lt_of_lt_of_le hb hg.size) (fun e => by have := Option.some.inj e; have := hp.1; omega)).trans (hg.block b hb (fun e => hp.2.2 e.symm))⟩⟩
  have hp1 : W1.ownsRow B 50 6 (.slice u.dA u.defs.length u.dc) u.defs.length (u.defs.flatMap Dfn.cells) := own_apart h.drow hg h.apart.symm
  refine ⟨⟨h1, h2, Nat.le_trans h3 (Nat.le_trans hg.size ho2.size), ?_, own_ne hp1 ho2 (fun e => by have := (hp1.lt _ e).1; omega), ?_, ?_, fun p hp => (h.defs p hp).move hm, ?_, h.main.move hm fun _ _ h => h, h.kind, h.data⟩, ?_⟩
  · have := hbx.set 1 (.slice A' (u.pols.length + 1) c')
    unfold Unt.cells at this ⊢
    rw [hlen]
    simpa using this
  · show World.ownsRow _ _ _ _ (.slice A' (u.pols ++ [d]).length c') (u.pols ++ [d]).length ((u.pols ++ [d]).flatMap Pol.cells)
    rw [hlen, List.flatMap_append, show [d].flatMap Pol.cells = d.cells from by simp]
    exact own_ne own ho2 (fun e => by have := (own.lt _ e).1; omega)
  · show Apart _ (.slice A' (u.pols ++ [d]).length c')
    rw [hlen]
    intro b e1 e2
    exact hx b (h.drow.lt b e1).2 (fun e => h.apart b e1 e) e2
  · intro x hx2
    rcases List.mem_append.1 hx2 with hx2 | hx2
    · exact (h.pols x hx2).move hm
    · obtain rfl : x = d := by simpa using hx2
      exact hd.move hm
  · exact (Kp.one hg fun b e => .inr (.inr (h.prow.lt b e).1)).trans (Kp.one ho2 fun b e => .inr (.inl (Option.some.inj e).symm))

/-- What is used at last. -/
theorem UniAt.last {l : List ByteArray} {A : Option Addr} {c : Nat} {kd d : Int} (h : UniAt B g k u W) (ho : W.grownBy W' (some k)) (hb : Box W' k 29 (Unt.cells { u with mA := A, mc := c, main := l, kind := kd, data := d }).toArray)
    (hm : SlP (Un B u) W 1 strCells StrIn A c l) (h5 : I64 kd) (h6 : I64 d) : UniAt B g k { u with mA := A, mc := c, main := l, kind := kd, data := d } W' := by
  have h1 := h.gk
  have h2 := h.kB
  have hmv : Move (Un B u) (Un B u) W W' := Move.grown ho fun b _ hp => ⟨hp, fun e => by have := Option.some.inj e; have := hp.1; omega⟩
  exact ⟨h1, h2, Nat.le_trans h.BW ho.size, hb, own_ne h.drow ho (fun e => by have := (h.drow.lt _ e).1; omega), own_ne h.prow ho (fun e => by have := (h.prow.lt _ e).1; omega), h.apart,
    fun d hd => (h.defs d hd).move hmv, fun p hp => (h.pols p hp).move hmv, hm.move hmv fun _ _ h => h, h5, h6⟩
end

end Go.Proofs.YtfklajkmikanbaaGreatDoor.LandedP
