/- What package tree's functions say: to be shown of the code as it landed; the statements' own test of the document's example; the walk of TreeTells. -/
import Derived.Test.YtogpicfofifbkaaDoorTreeUnits
import Derived.Test.YtogpicfofifbkaaDoorTreeRight
import Derived.Test.YtogpicfofifbkaaDoorTreeFewU
namespace Go.Proofs.YtogpicfofifbkaaDoor
open Go.RowKit

structure TreeSays (Y : World → Prop) : Prop where
  keep : ∀ w w', Y w → Below w.heap.size w w' → Y w'
  name : ∀ (s : ByteArray) (w : World), Y w → s.size ≤ 1048576 → Calls Tryd.prog 10 #[.string s] w (Quietly (.bool (nameOk s)) w)
  number : ∀ (e : Ex) (w : World), Y w → ExIn w w.heap.size e → ExSmall e → depthOf e ≤ 1000 → Calls Tryd.prog 9 #[e.val] w (Quietly (.bool (numOk e)) w)
  bool : ∀ (e : Ex) (w : World), Y w → ExIn w w.heap.size e → ExSmall e → depthOf e ≤ 1000 → Calls Tryd.prog 7 #[e.val] w (Quietly (.bool (boolOk e)) w)
  depth : ∀ (e : Ex) (w : World), Y w → ExIn w w.heap.size e → ExSmall e → depthOf e ≤ 1000 → Calls Tryd.prog 6 #[e.val] w (Quietly (.int .i64 (depthOf e : Nat)) w)
  right : ∀ (u : Unt) (w : World), Y w → UntIn w w.heap.size u → UntSmall u → Calls Tryd.prog 8 #[u.val] w (Quietly (.bool (rightOk u)) w)

theorem ex_leaf (w : World) (kd nu : Int) (op nm : ByteArray) (h1 : I64 kd) (h2 : U64 nu) (h3 : op.size ≤ maxLen) (h4 : nm.size ≤ maxLen) : ExIn w w.heap.size (.node kd op nm nu none 0 []) :=
  .mk (Lies.empty _ _ _ _) (fun k hk => absurd hk (by simp)) (Nat.le_refl _) (Nat.zero_le _) h1 h3 h4 h2

theorem tree_alive {Y : World → Prop} (R : TreeSays Y) (w : World) (hY : Y w) : Calls Tryd.prog 5 #[] w (Quietly (.bool true) w) := by
  have H1 : Hid (∀ W : World, Below w.heap.size w W → Calls Tryd.prog 10 #[.string ⟨#[85, 83, 69]⟩] W (Quietly (.bool false) W)) := fun W hW => R.name ⟨#[85, 83, 69]⟩ W (R.keep _ _ hY hW) (by decide)
  have H2 : Hid (∀ W : World, Below w.heap.size w W → Calls Tryd.prog 10 #[.string ⟨#[97, 95, 49]⟩] W (Quietly (.bool true) W)) := fun W hW => R.name ⟨#[97, 95, 49]⟩ W (R.keep _ _ hY hW) (by decide)
  have H3 : Hid (∀ W : World, Below w.heap.size w W → Calls Tryd.prog 9 #[.agg #[.int .i64 7, .string ⟨#[]⟩, .string ⟨#[]⟩, .int .u64 3, .slice none 0 0]] W (Quietly (.bool true) W)) := fun W hW => by
    have := R.number (.node 7 ⟨#[]⟩ ⟨#[]⟩ 3 none 0 []) W (R.keep _ _ hY hW) (ex_leaf W 7 3 _ _ (by unfold I64; decide) (by unfold U64; decide) (by decide) (by decide)) (.mk (by decide) (by decide) (by decide) (fun k hk => absurd hk (by simp))) (by decide)
    rw [show numOk (.node 7 ⟨#[]⟩ ⟨#[]⟩ 3 none 0 []) = true from by kernel_rfl] at this
    exact this
  have H4 : Hid (∀ W : World, Below w.heap.size w W → Calls Tryd.prog 6 #[.agg #[.int .i64 0, .string ⟨#[]⟩, .string ⟨#[]⟩, .int .u64 0, .slice none 0 0]] W (Quietly (.int .i64 1) W)) := fun W hW => by
    have := R.depth (.node 0 ⟨#[]⟩ ⟨#[]⟩ 0 none 0 []) W (R.keep _ _ hY hW) (ex_leaf W 0 0 _ _ (by unfold I64; decide) (by unfold U64; decide) (by decide) (by decide)) (.mk (by decide) (by decide) (by decide) (fun k hk => absurd hk (by simp))) (by decide)
    exact this
  clear hY
  go_enter Tryd.func5, Tryd.ntmps5
  go_wp2_with fail
  refine (H1.out _ (Below.refl _ _)).mono ?_
  rintro r w1 ⟨rfl, hb1⟩
  go_wp2_with fail
  refine (H2.out _ hb1).mono ?_
  rintro r w2 ⟨rfl, hb2⟩
  have hc2 := below_step hb1 (Nat.le_refl _) hb2
  clear hb1 hb2
  go_wp2_with fail
  refine (H3.out _ hc2).mono ?_
  rintro r w3 ⟨rfl, hb3⟩
  have hc3 := below_step hc2 (Nat.le_refl _) hb3
  clear hc2 hb3
  go_wp2_with fail
  refine (H4.out _ hc3).mono ?_
  rintro r w4 ⟨rfl, hb4⟩
  have hc4 := below_step hc3 (Nat.le_refl _) hb4
  clear hc3 hb4
  go_wp2
  go_ret
  exact ⟨rfl, hc4⟩

end Go.Proofs.YtogpicfofifbkaaDoor
