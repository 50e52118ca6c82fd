/- What the landed told, single, Number, compared and comparison.right give. No condition but sizes. -/
import Derived.Test.YtogpicfofifbkaaDoorTreeSet
import Derived.Test.YtogpicfofifbkaaDoorSeqFree
namespace Go.Proofs.YtogpicfofifbkaaDoor.LandedT
open Go.RowKit

/-- What told hands back. -/
def toldV : Ex → Value
  | .node kd op nm nu A c ks =>
    if toldN (.node kd op nm nu A c ks) = 1 then .iface 57 (.slice A ks.length c) else if toldN (.node kd op nm nu A c ks) = 2 then .iface 59 (.slice A ks.length c)
    else if toldN (.node kd op nm nu A c ks) = 3 then .iface 73 (.slice A ks.length c) else if toldN (.node kd op nm nu A c ks) = 4 then .iface 68 (.slice A ks.length c)
    else if toldN (.node kd op nm nu A c ks) = 5 then .iface 75 (.agg #[]) else if toldN (.node kd op nm nu A c ks) = 6 then .iface 76 (.agg #[]) else .nilIface

/-- Which of told's questions is answered by yes: at most one. -/
inductive ToldPat (s : Value) : Bool → Bool → Bool → Bool → Bool → Bool → Bool → Bool → Bool → Bool → Value → Prop
  | a1 (O N : Bool) : ToldPat s true false false false false false false false O N (.iface 57 s)
  | a2 (O N : Bool) : ToldPat s false true false false false false false false O N (.iface 57 s)
  | a3 (O N : Bool) : ToldPat s false false true false false false false false O N (.iface 57 s)
  | a4 (N : Bool) : ToldPat s false false false true false false false false true N (.iface 59 s)
  | n4 (N : Bool) : ToldPat s false false false true false false false false false N .nilIface
  | a6 (O : Bool) : ToldPat s false false false false true false false false O true (.iface 73 s)
  | n6 (O : Bool) : ToldPat s false false false false true false false false O false .nilIface
  | a8 (O N : Bool) : ToldPat s false false false false false true false false O N (.iface 68 s)
  | a5 (O : Bool) : ToldPat s false false false false false false true false O true (.iface 75 (.agg #[]))
  | n5 (O : Bool) : ToldPat s false false false false false false true false O false .nilIface
  | a7 (O N : Bool) : ToldPat s false false false false false false false true O N (.iface 76 (.agg #[]))
  | no (O N : Bool) : ToldPat s false false false false false false false false O N .nilIface

/-- A box's cell in every world that keeps what was. -/
theorem box_after {w1 : World} {g : Nat} {t : TypeId} {cs : Array Value} (h : Box w1 g t cs) (i : Nat) (u : Value) (hu : cs[i]? = some u) (W : World) (hW : Below w1.heap.size w1 W) : W.cell? ⟨g, i, none⟩ = some u := by
  rw [hW.cell (p := ⟨g, i, none⟩) h.lt, h.cell i]
  exact hu

theorem none_toList : (⟨#[]⟩ : ByteArray).toList = [] := by decide +kernel

def toldB (kd : Int) (a b d p2 p1 p0 O N : Bool) : Nat :=
  if kd = 1 ∨ kd = 2 then if (a && (b && (d && p2))) = true then 1 else 0
  else if kd = 3 then if (a && (b && (d && p1))) = true then 1 else 0
  else if kd = 4 then if (b && (d && (p2 && O))) = true then 2 else 0
  else if kd = 6 then if (a && (d && (p1 && N))) = true then 3 else 0
  else if kd = 8 then if (a && (b && (d && p2))) = true then 4 else 0
  else if kd = 5 then if (a && (d && (p0 && N))) = true then 5 else 0
  else if kd = 7 then if (a && (b && p0)) = true then 6 else 0
  else 0
def toldVB (n : Nat) (s : Value) : Value :=
  if n = 1 then .iface 57 s else if n = 2 then .iface 59 s else if n = 3 then .iface 73 s
  else if n = 4 then .iface 68 s else if n = 5 then .iface 75 (.agg #[]) else if n = 6 then .iface 76 (.agg #[]) else .nilIface
theorem pat_plain (s : Value) (kd : Int) (a b d p2 p1 p0 O N : Bool) : ToldPat s (kd == 1 && (a && (b && d)) && p2) (kd == 2 && (a && (b && d)) && p2) (kd == 3 && (a && (b && d)) && p1) (kd == 4 && (b && d) && p2)
    (kd == 6 && (a && d) && p1) (kd == 8 && (a && (b && d)) && p2) (kd == 5 && (a && d) && p0) (kd == 7 && (a && b) && p0) O N (toldVB (toldB kd a b d p2 p1 p0 O N) s) := by
  by_cases k1 : kd = 1
  · subst k1
    cases a <;> cases b <;> cases d <;> cases p2 <;> cases O <;> cases N <;> first | exact .a1 _ _ | exact .a1 _ | exact .no _ _
  by_cases k2 : kd = 2
  · subst k2
    cases a <;> cases b <;> cases d <;> cases p2 <;> cases O <;> cases N <;> first | exact .a2 _ _ | exact .a2 _ | exact .no _ _
  by_cases k3 : kd = 3
  · subst k3
    cases a <;> cases b <;> cases d <;> cases p1 <;> cases O <;> cases N <;> first | exact .a3 _ _ | exact .a3 _ | exact .no _ _
  by_cases k4 : kd = 4
  · subst k4
    cases a <;> cases b <;> cases d <;> cases p2 <;> cases O <;> cases N <;> first | exact .a4 _ _ | exact .a4 _ | exact .no _ _ | exact .n4 _
  by_cases k6 : kd = 6
  · subst k6
    cases a <;> cases b <;> cases d <;> cases p1 <;> cases O <;> cases N <;> first | exact .a6 _ _ | exact .a6 _ | exact .no _ _ | exact .n6 _
  by_cases k8 : kd = 8
  · subst k8
    cases a <;> cases b <;> cases d <;> cases p2 <;> cases O <;> cases N <;> first | exact .a8 _ _ | exact .a8 _ | exact .no _ _
  by_cases k5 : kd = 5
  · subst k5
    cases a <;> cases b <;> cases d <;> cases p0 <;> cases O <;> cases N <;> first | exact .a5 _ _ | exact .a5 _ | exact .no _ _ | exact .n5 _
  by_cases k7 : kd = 7
  · subst k7
    cases a <;> cases b <;> cases d <;> cases p0 <;> cases O <;> cases N <;> first | exact .a7 _ _ | exact .a7 _ | exact .no _ _
  have e : toldB kd a b d p2 p1 p0 O N = 0 := by
    unfold toldB
    rw [if_neg (by omega), if_neg k3, if_neg k4, if_neg k6, if_neg k8, if_neg k5, if_neg k7]
  rw [e, beq_eq_false_iff_ne.2 k1, beq_eq_false_iff_ne.2 k2, beq_eq_false_iff_ne.2 k3, beq_eq_false_iff_ne.2 k4, beq_eq_false_iff_ne.2 k5, beq_eq_false_iff_ne.2 k6, beq_eq_false_iff_ne.2 k7, beq_eq_false_iff_ne.2 k8]
  exact .no _ _

section
variable (kd nu : Int) (op nm : ByteArray) (A : Option Addr) (c : Nat) (ks : List Ex)
theorem told_pat : ToldPat (.slice A ks.length c)
    (alikeB (.node kd op nm nu A c ks) (.node 1 ⟨#[]⟩ ⟨#[]⟩ 0 none 0 []) && ks.length == 2) (alikeB (.node kd op nm nu A c ks) (.node 2 ⟨#[]⟩ ⟨#[]⟩ 0 none 0 []) && ks.length == 2)
    (alikeB (.node kd op nm nu A c ks) (.node 3 ⟨#[]⟩ ⟨#[]⟩ 0 none 0 []) && ks.length == 1) (alikeB (.node kd op nm nu A c ks) (.node 4 op ⟨#[]⟩ 0 none 0 []) && ks.length == 2)
    (alikeB (.node kd op nm nu A c ks) (.node 6 ⟨#[]⟩ nm 0 none 0 []) && ks.length == 1) (alikeB (.node kd op nm nu A c ks) (.node 8 ⟨#[]⟩ ⟨#[]⟩ 0 none 0 []) && ks.length == 2)
    (alikeB (.node kd op nm nu A c ks) (.node 5 ⟨#[]⟩ nm 0 none 0 []) && ks.length == 0) (alikeB (.node kd op nm nu A c ks) (.node 7 ⟨#[]⟩ ⟨#[]⟩ nu none 0 []) && ks.length == 0)
    (opOf op.data.toList != 0) (nameOk nm) (toldV (.node kd op nm nu A c ks)) := by
  have h := pat_plain (.slice A ks.length c) kd (emptyB op) (emptyB nm) (nu == 0) (ks.length == 2) (ks.length == 1) (ks.length == 0) (opOf op.data.toList != 0) (nameOk nm)
  have e1 : (op.toList == []) = emptyB op := rfl
  have e2 : (nm.toList == []) = emptyB nm := rfl
  unfold alikeB
  simp only [none_toList, beq_self_eq_true, Bool.true_and, Bool.and_true, e1, e2]
  exact h
end

set_option maxRecDepth 100000 in
set_option maxHeartbeats 4000000 in
theorem told_walk (kd nu : Int) (op nm : ByteArray) (A : Option Addr) (n c : Nat) (w : World) (b1 b2 b3 b4 b6 b8 b5 b7 O N : Bool) (V : Value)
    (H1 : Hid (∀ W, Calls Tryd.prog 25 #[.agg #[.int .i64 kd, .string op, .string nm, .int .u64 nu, .slice A n c], .agg #[.int .i64 1, .string ⟨#[]⟩, .string ⟨#[]⟩, .int .u64 0, .slice none 0 0], .int .i64 2] W (Quietly (.bool b1) W)))
    (H2 : Hid (∀ W, Calls Tryd.prog 25 #[.agg #[.int .i64 kd, .string op, .string nm, .int .u64 nu, .slice A n c], .agg #[.int .i64 2, .string ⟨#[]⟩, .string ⟨#[]⟩, .int .u64 0, .slice none 0 0], .int .i64 2] W (Quietly (.bool b2) W)))
    (H3 : Hid (∀ W, Calls Tryd.prog 25 #[.agg #[.int .i64 kd, .string op, .string nm, .int .u64 nu, .slice A n c], .agg #[.int .i64 3, .string ⟨#[]⟩, .string ⟨#[]⟩, .int .u64 0, .slice none 0 0], .int .i64 1] W (Quietly (.bool b3) W)))
    (H4 : Hid (∀ W, Calls Tryd.prog 25 #[.agg #[.int .i64 kd, .string op, .string nm, .int .u64 nu, .slice A n c], .agg #[.int .i64 4, .string op, .string ⟨#[]⟩, .int .u64 0, .slice none 0 0], .int .i64 2] W (Quietly (.bool b4) W)))
    (H6 : Hid (∀ W, Calls Tryd.prog 25 #[.agg #[.int .i64 kd, .string op, .string nm, .int .u64 nu, .slice A n c], .agg #[.int .i64 6, .string ⟨#[]⟩, .string nm, .int .u64 0, .slice none 0 0], .int .i64 1] W (Quietly (.bool b6) W)))
    (H8 : Hid (∀ W, Calls Tryd.prog 25 #[.agg #[.int .i64 kd, .string op, .string nm, .int .u64 nu, .slice A n c], .agg #[.int .i64 8, .string ⟨#[]⟩, .string ⟨#[]⟩, .int .u64 0, .slice none 0 0], .int .i64 2] W (Quietly (.bool b8) W)))
    (H5 : Hid (∀ W, Calls Tryd.prog 25 #[.agg #[.int .i64 kd, .string op, .string nm, .int .u64 nu, .slice A n c], .agg #[.int .i64 5, .string ⟨#[]⟩, .string nm, .int .u64 0, .slice none 0 0], .int .i64 0] W (Quietly (.bool b5) W)))
    (H7 : Hid (∀ W, Calls Tryd.prog 25 #[.agg #[.int .i64 kd, .string op, .string nm, .int .u64 nu, .slice A n c], .agg #[.int .i64 7, .string ⟨#[]⟩, .string ⟨#[]⟩, .int .u64 nu, .slice none 0 0], .int .i64 0] W (Quietly (.bool b7) W)))
    (HO : Hid (∀ W, Calls Tryd.prog 26 #[.string op] W fun e w' => e = .returned (.bool O) ∧ w' = W)) (HN : Hid (∀ W, Calls Tryd.prog 10 #[.string nm] W (Quietly (.bool N) W)))
    (hp : ToldPat (.slice A n c) b1 b2 b3 b4 b6 b8 b5 b7 O N V) :
    Calls Tryd.prog 12 #[.agg #[.int .i64 kd, .string op, .string nm, .int .u64 nu, .slice A n c]] w (Quietly V w) := by
  have HB := Lib.hid (Box.new w 26 #[.int .i64 kd, .string op, .string nm, .int .u64 nu, .slice A n c])
  cases hp
  case a1 =>
    go_enter Tryd.func12, Tryd.ntmps12
    go_wp2_with fail
    refine (H1.out _).mono ?_
    rintro r w1 ⟨rfl, hb1⟩
    have hbw := unbox hb1
    have hx1 := HB.out.step hb1
    have e0 := box_after hx1 0 _ rfl
    have e1 := box_after hx1 1 _ rfl
    have e2 := box_after hx1 2 _ rfl
    have e3 := box_after hx1 3 _ rfl
    have e4 := box_after hx1 4 _ rfl
    have s1 : Below w1.heap.size w1 w1 := Below.refl _ _
    clear hb1 hx1
    go_wp2
    go_ret
    exact ⟨rfl, below_step hbw (Nat.le_refl _) s1⟩
  case a2 =>
    go_enter Tryd.func12, Tryd.ntmps12
    go_wp2_with fail
    refine (H1.out _).mono ?_
    rintro r w1 ⟨rfl, hb1⟩
    have hbw := unbox hb1
    have hx1 := HB.out.step hb1
    have e0 := box_after hx1 0 _ rfl
    have e1 := box_after hx1 1 _ rfl
    have e2 := box_after hx1 2 _ rfl
    have e3 := box_after hx1 3 _ rfl
    have e4 := box_after hx1 4 _ rfl
    have s1 : Below w1.heap.size w1 w1 := Below.refl _ _
    clear hb1 hx1
    go_wp2_with fail
    refine (H2.out _).mono ?_
    rintro r w2 ⟨rfl, hb2⟩
    have s2 : Below w1.heap.size w1 w2 := below_step s1 (Nat.le_refl _) hb2
    clear hb2 s1
    go_wp2
    go_ret
    exact ⟨rfl, below_step hbw (Nat.le_refl _) s2⟩
  case a3 =>
    go_enter Tryd.func12, Tryd.ntmps12
    go_wp2_with fail
    refine (H1.out _).mono ?_
    rintro r w1 ⟨rfl, hb1⟩
    have hbw := unbox hb1
    have hx1 := HB.out.step hb1
    have e0 := box_after hx1 0 _ rfl
    have e1 := box_after hx1 1 _ rfl
    have e2 := box_after hx1 2 _ rfl
    have e3 := box_after hx1 3 _ rfl
    have e4 := box_after hx1 4 _ rfl
    have s1 : Below w1.heap.size w1 w1 := Below.refl _ _
    clear hb1 hx1
    go_wp2_with fail
    refine (H2.out _).mono ?_
    rintro r w2 ⟨rfl, hb2⟩
    have s2 : Below w1.heap.size w1 w2 := below_step s1 (Nat.le_refl _) hb2
    clear hb2 s1
    go_wp2_with fail
    refine (H3.out _).mono ?_
    rintro r w3 ⟨rfl, hb3⟩
    have s3 : Below w1.heap.size w1 w3 := below_step s2 (Nat.le_refl _) hb3
    clear hb3 s2
    go_wp2
    go_ret
    exact ⟨rfl, below_step hbw (Nat.le_refl _) s3⟩
  case a4 =>
    go_enter Tryd.func12, Tryd.ntmps12
    go_wp2_with fail
    refine (H1.out _).mono ?_
    rintro r w1 ⟨rfl, hb1⟩
    have hbw := unbox hb1
    have hx1 := HB.out.step hb1
    have e0 := box_after hx1 0 _ rfl
    have e1 := box_after hx1 1 _ rfl
    have e2 := box_after hx1 2 _ rfl
    have e3 := box_after hx1 3 _ rfl
    have e4 := box_after hx1 4 _ rfl
    have s1 : Below w1.heap.size w1 w1 := Below.refl _ _
    clear hb1 hx1
    go_wp2_with fail
    refine (H2.out _).mono ?_
    rintro r w2 ⟨rfl, hb2⟩
    have s2 : Below w1.heap.size w1 w2 := below_step s1 (Nat.le_refl _) hb2
    clear hb2 s1
    go_wp2_with fail
    refine (H3.out _).mono ?_
    rintro r w3 ⟨rfl, hb3⟩
    have s3 : Below w1.heap.size w1 w3 := below_step s2 (Nat.le_refl _) hb3
    clear hb3 s2
    go_wp2_with fail
    refine (H4.out _).mono ?_
    rintro r w4 ⟨rfl, hb4⟩
    have s4 : Below w1.heap.size w1 w4 := below_step s3 (Nat.le_refl _) hb4
    clear hb4 s3
    go_wp2_with fail
    refine (HO.out _).mono ?_
    rintro r w5 ⟨rfl, rfl⟩
    go_wp2
    go_ret
    exact ⟨rfl, below_step hbw (Nat.le_refl _) s4⟩
  case n4 =>
    go_enter Tryd.func12, Tryd.ntmps12
    go_wp2_with fail
    refine (H1.out _).mono ?_
    rintro r w1 ⟨rfl, hb1⟩
    have hbw := unbox hb1
    have hx1 := HB.out.step hb1
    have e0 := box_after hx1 0 _ rfl
    have e1 := box_after hx1 1 _ rfl
    have e2 := box_after hx1 2 _ rfl
    have e3 := box_after hx1 3 _ rfl
    have e4 := box_after hx1 4 _ rfl
    have s1 : Below w1.heap.size w1 w1 := Below.refl _ _
    clear hb1 hx1
    go_wp2_with fail
    refine (H2.out _).mono ?_
    rintro r w2 ⟨rfl, hb2⟩
    have s2 : Below w1.heap.size w1 w2 := below_step s1 (Nat.le_refl _) hb2
    clear hb2 s1
    go_wp2_with fail
    refine (H3.out _).mono ?_
    rintro r w3 ⟨rfl, hb3⟩
    have s3 : Below w1.heap.size w1 w3 := below_step s2 (Nat.le_refl _) hb3
    clear hb3 s2
    go_wp2_with fail
    refine (H4.out _).mono ?_
    rintro r w4 ⟨rfl, hb4⟩
    have s4 : Below w1.heap.size w1 w4 := below_step s3 (Nat.le_refl _) hb4
    clear hb4 s3
    go_wp2_with fail
    refine (HO.out _).mono ?_
    rintro r w5 ⟨rfl, rfl⟩
    go_wp2_with fail
    refine (H6.out _).mono ?_
    rintro r w5 ⟨rfl, hb5⟩
    have s5 : Below w1.heap.size w1 w5 := below_step s4 (Nat.le_refl _) hb5
    clear hb5 s4
    go_wp2_with fail
    refine (H8.out _).mono ?_
    rintro r w6 ⟨rfl, hb6⟩
    have s6 : Below w1.heap.size w1 w6 := below_step s5 (Nat.le_refl _) hb6
    clear hb6 s5
    go_wp2_with fail
    refine (H5.out _).mono ?_
    rintro r w7 ⟨rfl, hb7⟩
    have s7 : Below w1.heap.size w1 w7 := below_step s6 (Nat.le_refl _) hb7
    clear hb7 s6
    go_wp2_with fail
    refine (H7.out _).mono ?_
    rintro r w8 ⟨rfl, hb8⟩
    have s8 : Below w1.heap.size w1 w8 := below_step s7 (Nat.le_refl _) hb8
    clear hb8 s7
    go_wp2
    go_ret
    exact ⟨rfl, below_step hbw (Nat.le_refl _) s8⟩
  case a6 =>
    go_enter Tryd.func12, Tryd.ntmps12
    go_wp2_with fail
    refine (H1.out _).mono ?_
    rintro r w1 ⟨rfl, hb1⟩
    have hbw := unbox hb1
    have hx1 := HB.out.step hb1
    have e0 := box_after hx1 0 _ rfl
    have e1 := box_after hx1 1 _ rfl
    have e2 := box_after hx1 2 _ rfl
    have e3 := box_after hx1 3 _ rfl
    have e4 := box_after hx1 4 _ rfl
    have s1 : Below w1.heap.size w1 w1 := Below.refl _ _
    clear hb1 hx1
    go_wp2_with fail
    refine (H2.out _).mono ?_
    rintro r w2 ⟨rfl, hb2⟩
    have s2 : Below w1.heap.size w1 w2 := below_step s1 (Nat.le_refl _) hb2
    clear hb2 s1
    go_wp2_with fail
    refine (H3.out _).mono ?_
    rintro r w3 ⟨rfl, hb3⟩
    have s3 : Below w1.heap.size w1 w3 := below_step s2 (Nat.le_refl _) hb3
    clear hb3 s2
    go_wp2_with fail
    refine (H4.out _).mono ?_
    rintro r w4 ⟨rfl, hb4⟩
    have s4 : Below w1.heap.size w1 w4 := below_step s3 (Nat.le_refl _) hb4
    clear hb4 s3
    go_wp2_with fail
    refine (H6.out _).mono ?_
    rintro r w5 ⟨rfl, hb5⟩
    have s5 : Below w1.heap.size w1 w5 := below_step s4 (Nat.le_refl _) hb5
    clear hb5 s4
    go_wp2_with fail
    refine (HN.out _).mono ?_
    rintro r w6 ⟨rfl, hb6⟩
    have s6 : Below w1.heap.size w1 w6 := below_step s5 (Nat.le_refl _) hb6
    clear hb6 s5
    go_wp2
    go_ret
    exact ⟨rfl, below_step hbw (Nat.le_refl _) s6⟩
  case n6 =>
    go_enter Tryd.func12, Tryd.ntmps12
    go_wp2_with fail
    refine (H1.out _).mono ?_
    rintro r w1 ⟨rfl, hb1⟩
    have hbw := unbox hb1
    have hx1 := HB.out.step hb1
    have e0 := box_after hx1 0 _ rfl
    have e1 := box_after hx1 1 _ rfl
    have e2 := box_after hx1 2 _ rfl
    have e3 := box_after hx1 3 _ rfl
    have e4 := box_after hx1 4 _ rfl
    have s1 : Below w1.heap.size w1 w1 := Below.refl _ _
    clear hb1 hx1
    go_wp2_with fail
    refine (H2.out _).mono ?_
    rintro r w2 ⟨rfl, hb2⟩
    have s2 : Below w1.heap.size w1 w2 := below_step s1 (Nat.le_refl _) hb2
    clear hb2 s1
    go_wp2_with fail
    refine (H3.out _).mono ?_
    rintro r w3 ⟨rfl, hb3⟩
    have s3 : Below w1.heap.size w1 w3 := below_step s2 (Nat.le_refl _) hb3
    clear hb3 s2
    go_wp2_with fail
    refine (H4.out _).mono ?_
    rintro r w4 ⟨rfl, hb4⟩
    have s4 : Below w1.heap.size w1 w4 := below_step s3 (Nat.le_refl _) hb4
    clear hb4 s3
    go_wp2_with fail
    refine (H6.out _).mono ?_
    rintro r w5 ⟨rfl, hb5⟩
    have s5 : Below w1.heap.size w1 w5 := below_step s4 (Nat.le_refl _) hb5
    clear hb5 s4
    go_wp2_with fail
    refine (HN.out _).mono ?_
    rintro r w6 ⟨rfl, hb6⟩
    have s6 : Below w1.heap.size w1 w6 := below_step s5 (Nat.le_refl _) hb6
    clear hb6 s5
    go_wp2_with fail
    refine (H8.out _).mono ?_
    rintro r w7 ⟨rfl, hb7⟩
    have s7 : Below w1.heap.size w1 w7 := below_step s6 (Nat.le_refl _) hb7
    clear hb7 s6
    go_wp2_with fail
    refine (H5.out _).mono ?_
    rintro r w8 ⟨rfl, hb8⟩
    have s8 : Below w1.heap.size w1 w8 := below_step s7 (Nat.le_refl _) hb8
    clear hb8 s7
    go_wp2_with fail
    refine (H7.out _).mono ?_
    rintro r w9 ⟨rfl, hb9⟩
    have s9 : Below w1.heap.size w1 w9 := below_step s8 (Nat.le_refl _) hb9
    clear hb9 s8
    go_wp2
    go_ret
    exact ⟨rfl, below_step hbw (Nat.le_refl _) s9⟩
  case a8 =>
    go_enter Tryd.func12, Tryd.ntmps12
    go_wp2_with fail
    refine (H1.out _).mono ?_
    rintro r w1 ⟨rfl, hb1⟩
    have hbw := unbox hb1
    have hx1 := HB.out.step hb1
    have e0 := box_after hx1 0 _ rfl
    have e1 := box_after hx1 1 _ rfl
    have e2 := box_after hx1 2 _ rfl
    have e3 := box_after hx1 3 _ rfl
    have e4 := box_after hx1 4 _ rfl
    have s1 : Below w1.heap.size w1 w1 := Below.refl _ _
    clear hb1 hx1
    go_wp2_with fail
    refine (H2.out _).mono ?_
    rintro r w2 ⟨rfl, hb2⟩
    have s2 : Below w1.heap.size w1 w2 := below_step s1 (Nat.le_refl _) hb2
    clear hb2 s1
    go_wp2_with fail
    refine (H3.out _).mono ?_
    rintro r w3 ⟨rfl, hb3⟩
    have s3 : Below w1.heap.size w1 w3 := below_step s2 (Nat.le_refl _) hb3
    clear hb3 s2
    go_wp2_with fail
    refine (H4.out _).mono ?_
    rintro r w4 ⟨rfl, hb4⟩
    have s4 : Below w1.heap.size w1 w4 := below_step s3 (Nat.le_refl _) hb4
    clear hb4 s3
    go_wp2_with fail
    refine (H6.out _).mono ?_
    rintro r w5 ⟨rfl, hb5⟩
    have s5 : Below w1.heap.size w1 w5 := below_step s4 (Nat.le_refl _) hb5
    clear hb5 s4
    go_wp2_with fail
    refine (H8.out _).mono ?_
    rintro r w6 ⟨rfl, hb6⟩
    have s6 : Below w1.heap.size w1 w6 := below_step s5 (Nat.le_refl _) hb6
    clear hb6 s5
    go_wp2
    go_ret
    exact ⟨rfl, below_step hbw (Nat.le_refl _) s6⟩
  case a5 =>
    go_enter Tryd.func12, Tryd.ntmps12
    go_wp2_with fail
    refine (H1.out _).mono ?_
    rintro r w1 ⟨rfl, hb1⟩
    have hbw := unbox hb1
    have hx1 := HB.out.step hb1
    have e0 := box_after hx1 0 _ rfl
    have e1 := box_after hx1 1 _ rfl
    have e2 := box_after hx1 2 _ rfl
    have e3 := box_after hx1 3 _ rfl
    have e4 := box_after hx1 4 _ rfl
    have s1 : Below w1.heap.size w1 w1 := Below.refl _ _
    clear hb1 hx1
    go_wp2_with fail
    refine (H2.out _).mono ?_
    rintro r w2 ⟨rfl, hb2⟩
    have s2 : Below w1.heap.size w1 w2 := below_step s1 (Nat.le_refl _) hb2
    clear hb2 s1
    go_wp2_with fail
    refine (H3.out _).mono ?_
    rintro r w3 ⟨rfl, hb3⟩
    have s3 : Below w1.heap.size w1 w3 := below_step s2 (Nat.le_refl _) hb3
    clear hb3 s2
    go_wp2_with fail
    refine (H4.out _).mono ?_
    rintro r w4 ⟨rfl, hb4⟩
    have s4 : Below w1.heap.size w1 w4 := below_step s3 (Nat.le_refl _) hb4
    clear hb4 s3
    go_wp2_with fail
    refine (H6.out _).mono ?_
    rintro r w5 ⟨rfl, hb5⟩
    have s5 : Below w1.heap.size w1 w5 := below_step s4 (Nat.le_refl _) hb5
    clear hb5 s4
    go_wp2_with fail
    refine (H8.out _).mono ?_
    rintro r w6 ⟨rfl, hb6⟩
    have s6 : Below w1.heap.size w1 w6 := below_step s5 (Nat.le_refl _) hb6
    clear hb6 s5
    go_wp2_with fail
    refine (H5.out _).mono ?_
    rintro r w7 ⟨rfl, hb7⟩
    have s7 : Below w1.heap.size w1 w7 := below_step s6 (Nat.le_refl _) hb7
    clear hb7 s6
    go_wp2_with fail
    refine (HN.out _).mono ?_
    rintro r w8 ⟨rfl, hb8⟩
    have s8 : Below w1.heap.size w1 w8 := below_step s7 (Nat.le_refl _) hb8
    clear hb8 s7
    go_wp2
    go_ret
    exact ⟨rfl, below_step hbw (Nat.le_refl _) s8⟩
  case n5 =>
    go_enter Tryd.func12, Tryd.ntmps12
    go_wp2_with fail
    refine (H1.out _).mono ?_
    rintro r w1 ⟨rfl, hb1⟩
    have hbw := unbox hb1
    have hx1 := HB.out.step hb1
    have e0 := box_after hx1 0 _ rfl
    have e1 := box_after hx1 1 _ rfl
    have e2 := box_after hx1 2 _ rfl
    have e3 := box_after hx1 3 _ rfl
    have e4 := box_after hx1 4 _ rfl
    have s1 : Below w1.heap.size w1 w1 := Below.refl _ _
    clear hb1 hx1
    go_wp2_with fail
    refine (H2.out _).mono ?_
    rintro r w2 ⟨rfl, hb2⟩
    have s2 : Below w1.heap.size w1 w2 := below_step s1 (Nat.le_refl _) hb2
    clear hb2 s1
    go_wp2_with fail
    refine (H3.out _).mono ?_
    rintro r w3 ⟨rfl, hb3⟩
    have s3 : Below w1.heap.size w1 w3 := below_step s2 (Nat.le_refl _) hb3
    clear hb3 s2
    go_wp2_with fail
    refine (H4.out _).mono ?_
    rintro r w4 ⟨rfl, hb4⟩
    have s4 : Below w1.heap.size w1 w4 := below_step s3 (Nat.le_refl _) hb4
    clear hb4 s3
    go_wp2_with fail
    refine (H6.out _).mono ?_
    rintro r w5 ⟨rfl, hb5⟩
    have s5 : Below w1.heap.size w1 w5 := below_step s4 (Nat.le_refl _) hb5
    clear hb5 s4
    go_wp2_with fail
    refine (H8.out _).mono ?_
    rintro r w6 ⟨rfl, hb6⟩
    have s6 : Below w1.heap.size w1 w6 := below_step s5 (Nat.le_refl _) hb6
    clear hb6 s5
    go_wp2_with fail
    refine (H5.out _).mono ?_
    rintro r w7 ⟨rfl, hb7⟩
    have s7 : Below w1.heap.size w1 w7 := below_step s6 (Nat.le_refl _) hb7
    clear hb7 s6
    go_wp2_with fail
    refine (HN.out _).mono ?_
    rintro r w8 ⟨rfl, hb8⟩
    have s8 : Below w1.heap.size w1 w8 := below_step s7 (Nat.le_refl _) hb8
    clear hb8 s7
    go_wp2_with fail
    refine (H7.out _).mono ?_
    rintro r w9 ⟨rfl, hb9⟩
    have s9 : Below w1.heap.size w1 w9 := below_step s8 (Nat.le_refl _) hb9
    clear hb9 s8
    go_wp2
    go_ret
    exact ⟨rfl, below_step hbw (Nat.le_refl _) s9⟩
  case a7 =>
    go_enter Tryd.func12, Tryd.ntmps12
    go_wp2_with fail
    refine (H1.out _).mono ?_
    rintro r w1 ⟨rfl, hb1⟩
    have hbw := unbox hb1
    have hx1 := HB.out.step hb1
    have e0 := box_after hx1 0 _ rfl
    have e1 := box_after hx1 1 _ rfl
    have e2 := box_after hx1 2 _ rfl
    have e3 := box_after hx1 3 _ rfl
    have e4 := box_after hx1 4 _ rfl
    have s1 : Below w1.heap.size w1 w1 := Below.refl _ _
    clear hb1 hx1
    go_wp2_with fail
    refine (H2.out _).mono ?_
    rintro r w2 ⟨rfl, hb2⟩
    have s2 : Below w1.heap.size w1 w2 := below_step s1 (Nat.le_refl _) hb2
    clear hb2 s1
    go_wp2_with fail
    refine (H3.out _).mono ?_
    rintro r w3 ⟨rfl, hb3⟩
    have s3 : Below w1.heap.size w1 w3 := below_step s2 (Nat.le_refl _) hb3
    clear hb3 s2
    go_wp2_with fail
    refine (H4.out _).mono ?_
    rintro r w4 ⟨rfl, hb4⟩
    have s4 : Below w1.heap.size w1 w4 := below_step s3 (Nat.le_refl _) hb4
    clear hb4 s3
    go_wp2_with fail
    refine (H6.out _).mono ?_
    rintro r w5 ⟨rfl, hb5⟩
    have s5 : Below w1.heap.size w1 w5 := below_step s4 (Nat.le_refl _) hb5
    clear hb5 s4
    go_wp2_with fail
    refine (H8.out _).mono ?_
    rintro r w6 ⟨rfl, hb6⟩
    have s6 : Below w1.heap.size w1 w6 := below_step s5 (Nat.le_refl _) hb6
    clear hb6 s5
    go_wp2_with fail
    refine (H5.out _).mono ?_
    rintro r w7 ⟨rfl, hb7⟩
    have s7 : Below w1.heap.size w1 w7 := below_step s6 (Nat.le_refl _) hb7
    clear hb7 s6
    go_wp2_with fail
    refine (H7.out _).mono ?_
    rintro r w8 ⟨rfl, hb8⟩
    have s8 : Below w1.heap.size w1 w8 := below_step s7 (Nat.le_refl _) hb8
    clear hb8 s7
    go_wp2
    go_ret
    exact ⟨rfl, below_step hbw (Nat.le_refl _) s8⟩
  case no =>
    go_enter Tryd.func12, Tryd.ntmps12
    go_wp2_with fail
    refine (H1.out _).mono ?_
    rintro r w1 ⟨rfl, hb1⟩
    have hbw := unbox hb1
    have hx1 := HB.out.step hb1
    have e0 := box_after hx1 0 _ rfl
    have e1 := box_after hx1 1 _ rfl
    have e2 := box_after hx1 2 _ rfl
    have e3 := box_after hx1 3 _ rfl
    have e4 := box_after hx1 4 _ rfl
    have s1 : Below w1.heap.size w1 w1 := Below.refl _ _
    clear hb1 hx1
    go_wp2_with fail
    refine (H2.out _).mono ?_
    rintro r w2 ⟨rfl, hb2⟩
    have s2 : Below w1.heap.size w1 w2 := below_step s1 (Nat.le_refl _) hb2
    clear hb2 s1
    go_wp2_with fail
    refine (H3.out _).mono ?_
    rintro r w3 ⟨rfl, hb3⟩
    have s3 : Below w1.heap.size w1 w3 := below_step s2 (Nat.le_refl _) hb3
    clear hb3 s2
    go_wp2_with fail
    refine (H4.out _).mono ?_
    rintro r w4 ⟨rfl, hb4⟩
    have s4 : Below w1.heap.size w1 w4 := below_step s3 (Nat.le_refl _) hb4
    clear hb4 s3
    go_wp2_with fail
    refine (H6.out _).mono ?_
    rintro r w5 ⟨rfl, hb5⟩
    have s5 : Below w1.heap.size w1 w5 := below_step s4 (Nat.le_refl _) hb5
    clear hb5 s4
    go_wp2_with fail
    refine (H8.out _).mono ?_
    rintro r w6 ⟨rfl, hb6⟩
    have s6 : Below w1.heap.size w1 w6 := below_step s5 (Nat.le_refl _) hb6
    clear hb6 s5
    go_wp2_with fail
    refine (H5.out _).mono ?_
    rintro r w7 ⟨rfl, hb7⟩
    have s7 : Below w1.heap.size w1 w7 := below_step s6 (Nat.le_refl _) hb7
    clear hb7 s6
    go_wp2_with fail
    refine (H7.out _).mono ?_
    rintro r w8 ⟨rfl, hb8⟩
    have s8 : Below w1.heap.size w1 w8 := below_step s7 (Nat.le_refl _) hb8
    clear hb8 s7
    go_wp2
    go_ret
    exact ⟨rfl, below_step hbw (Nat.le_refl _) s8⟩

theorem told_any (e : Ex) (w : World) : Calls Tryd.prog 12 #[e.val] w (Quietly (toldV e) w) := by
  obtain ⟨kd, op, nm, nu, A, c, ks⟩ := e
  have h := fun (f : Ex) (k : Nat) (W : World) => has_any (.node kd op nm nu A c ks) f k W
  exact told_walk kd nu op nm A ks.length c w _ _ _ _ _ _ _ _ _ _ _ (h (.node 1 ⟨#[]⟩ ⟨#[]⟩ 0 none 0 []) 2) (h (.node 2 ⟨#[]⟩ ⟨#[]⟩ 0 none 0 []) 2) (h (.node 3 ⟨#[]⟩ ⟨#[]⟩ 0 none 0 []) 1) (h (.node 4 op ⟨#[]⟩ 0 none 0 []) 2)
    (h (.node 6 ⟨#[]⟩ nm 0 none 0 []) 1) (h (.node 8 ⟨#[]⟩ ⟨#[]⟩ 0 none 0 []) 2) (h (.node 5 ⟨#[]⟩ nm 0 none 0 []) 0) (h (.node 7 ⟨#[]⟩ ⟨#[]⟩ nu none 0 []) 0) (fun W => isOp_any op W) (fun W => name_any nm W) (told_pat kd nu op nm A c ks)

end Go.Proofs.YtogpicfofifbkaaDoor.LandedT
