/- What the law TreeKinds lays in memory; what of it is a number, a condition. No program. -/
import Derived.Test.YtogpicfofifbkaaDoorTreeFace
import Derived.Test.YtogpicfofifbkaaDoorTreeBlocks
namespace Go.Proofs.YtogpicfofifbkaaDoor
open Go.RowKit

def Hn : Ex := .node 7 ⟨#[]⟩ ⟨#[]⟩ 3 none 0 []
def Ha : Ex := .node 5 ⟨#[]⟩ ⟨#[97]⟩ 0 none 0 []
def Hc (h : Nat) : Ex := .node 4 ⟨#[60]⟩ ⟨#[]⟩ 0 (some ⟨h + 2, 0, none⟩) 2 [Ha, Hn]
def Hm (h : Nat) : Ex := .node 6 ⟨#[]⟩ ⟨#[97]⟩ 0 (some ⟨h + 4, 0, none⟩) 1 [Hn]
def Hb (h : Nat) : Ex := .node 8 ⟨#[]⟩ ⟨#[]⟩ 0 (some ⟨h + 6, 0, none⟩) 2 [Hn, Ha]
/-- The kinds, in the order in which the law lists them. -/
def kindsL (h : Nat) : List Ex := [Hn, Ha, Hc h, Hm h, Hb h, .node 8 ⟨#[]⟩ ⟨#[]⟩ 0 (some ⟨h + 8, 0, none⟩) 2 [Ha, Hb h], .node 8 ⟨#[]⟩ ⟨#[]⟩ 0 (some ⟨h + 9, 0, none⟩) 2 [Hb h, Ha],
  .node 1 ⟨#[]⟩ ⟨#[]⟩ 0 (some ⟨h + 10, 0, none⟩) 2 [Hc h, Hc h], .node 2 ⟨#[]⟩ ⟨#[]⟩ 0 (some ⟨h + 11, 0, none⟩) 1 [Hc h], .node 3 ⟨#[]⟩ ⟨#[]⟩ 0 (some ⟨h + 12, 0, none⟩) 1 [Hc h], .node 3 ⟨#[]⟩ ⟨#[]⟩ 0 (some ⟨h + 13, 0, none⟩) 1 [Hn],
  .node 4 ⟨#[60]⟩ ⟨#[]⟩ 0 (some ⟨h + 14, 0, none⟩) 2 [Hm h, Hb h], .node 4 ⟨#[60]⟩ ⟨#[]⟩ 0 (some ⟨h + 15, 0, none⟩) 2 [Hb h, Hm h], .node 4 ⟨#[61]⟩ ⟨#[]⟩ 0 (some ⟨h + 16, 0, none⟩) 2 [Ha, Hn], .node 4 ⟨#[60]⟩ ⟨#[]⟩ 0 (some ⟨h + 17, 0, none⟩) 2 [Hn, Hn],
  .node 5 ⟨#[]⟩ ⟨#[85, 83, 69]⟩ 0 none 0 [], .node 5 ⟨#[]⟩ ⟨#[49, 97]⟩ 0 none 0 [], .node 7 ⟨#[60]⟩ ⟨#[]⟩ 1 none 0 [], .node 0 ⟨#[]⟩ ⟨#[]⟩ 0 none 0 []]
def numbersL : List Bool := [true, true, false, false, true, false, true, false, false, false, false, false, false, false, false, false, false, false, false]
def condsL : List Bool := [false, false, true, false, false, false, false, true, false, true, false, true, false, false, false, false, false, false, false]

theorem kinds_num (h : Nat) : (kindsL h).map numOk = numbersL := by kernel_rfl
theorem kinds_bool (h : Nat) : (kindsL h).map boolOk = condsL := by kernel_rfl
theorem kinds_deep (h : Nat) : (kindsL h).all (fun e => decide (depthOf e ≤ 1000)) = true := by kernel_rfl

/-- What the law lays. -/
def kobjs (h : Nat) : List Obj :=
  [.cells Hn.cells.toArray 26, .cells Ha.cells.toArray 26, .cells ([Ha, Hn].flatMap Ex.cells).toArray 26, .cells (Hc h).cells.toArray 26, .cells ([Hn].flatMap Ex.cells).toArray 26, .cells (Hm h).cells.toArray 26,
   .cells ([Hn, Ha].flatMap Ex.cells).toArray 26, .cells (Hb h).cells.toArray 26, .cells ([Ha, Hb h].flatMap Ex.cells).toArray 26, .cells ([Hb h, Ha].flatMap Ex.cells).toArray 26, .cells ([Hc h, Hc h].flatMap Ex.cells).toArray 26,
   .cells ([Hc h].flatMap Ex.cells).toArray 26, .cells ([Hc h].flatMap Ex.cells).toArray 26, .cells ([Hn].flatMap Ex.cells).toArray 26, .cells ([Hm h, Hb h].flatMap Ex.cells).toArray 26, .cells ([Hb h, Hm h].flatMap Ex.cells).toArray 26,
   .cells ([Ha, Hn].flatMap Ex.cells).toArray 26, .cells ([Hn, Hn].flatMap Ex.cells).toArray 26, .cells ((kindsL h).flatMap Ex.cells).toArray 26, .cells (numbersL.map Value.bool).toArray 4, .cells (condsL.map Value.bool).toArray 4]

section
variable {W : World}
theorem leaf_in (kd nu : Int) (op nm : ByteArray) (h1 : I64 kd) (h2 : U64 nu) (h3 : op.size ≤ maxLen) (h4 : nm.size ≤ maxLen) : ExIn W W.heap.size (.node kd op nm nu none 0 []) := ex_leaf W kd nu op nm h1 h2 h3 h4
theorem i64_lit {n : Int} (h : (decide (-9223372036854775808 ≤ n) && decide (n ≤ 9223372036854775807)) = true) : I64 n := by simp only [Bool.and_eq_true, decide_eq_true_eq] at h; exact h
theorem u64_lit {n : Int} (h : (decide (0 ≤ n) && decide (n ≤ 18446744073709551615)) = true) : U64 n := by simp only [Bool.and_eq_true, decide_eq_true_eq] at h; exact h
theorem two_in {P : Ex → Prop} {a b : Ex} (ha : P a) (hb : P b) : ∀ x ∈ [a, b], P x := fun x hx => by
  rcases List.mem_cons.1 hx with rfl | hx
  · exact ha
  · rcases List.mem_cons.1 hx with rfl | hx
    · exact hb
    · cases hx
theorem one_in {P : Ex → Prop} {a : Ex} (ha : P a) : ∀ x ∈ [a], P x := fun x hx => by
  rcases List.mem_cons.1 hx with rfl | hx
  · exact ha
  · cases hx
theorem small_leaf (kd nu : Int) (op nm : ByteArray) (h1 : op.size ≤ 1048576) (h2 : nm.size ≤ 1048576) : ExSmall (.node kd op nm nu none 0 []) := .mk h1 h2 (by decide) (fun k hk => by cases hk)
end

theorem kinds_small (h : Nat) : ∀ x ∈ kindsL h, ExSmall x := by
  have n : ExSmall Hn := small_leaf _ _ _ _ (by decide) (by decide)
  have a : ExSmall Ha := small_leaf _ _ _ _ (by decide) (by decide)
  have c : ExSmall (Hc h) := .mk (by decide) (by decide) (by simp) (two_in a n)
  have m : ExSmall (Hm h) := .mk (by decide) (by decide) (by simp) (one_in n)
  have b : ExSmall (Hb h) := .mk (by decide) (by decide) (by simp) (two_in n a)
  intro x hx
  unfold kindsL at hx
  simp only [List.mem_cons, List.not_mem_nil, or_false] at hx
  rcases hx with rfl | rfl | rfl | rfl | rfl | rfl | rfl | rfl | rfl | rfl | rfl | rfl | rfl | rfl | rfl | rfl | rfl | rfl | rfl
  · exact n
  · exact a
  · exact c
  · exact m
  · exact b
  · exact .mk (by decide) (by decide) (by simp) (two_in a b)
  · exact .mk (by decide) (by decide) (by simp) (two_in b a)
  · exact .mk (by decide) (by decide) (by simp) (two_in c c)
  · exact .mk (by decide) (by decide) (by simp) (one_in c)
  · exact .mk (by decide) (by decide) (by simp) (one_in c)
  · exact .mk (by decide) (by decide) (by simp) (one_in n)
  · exact .mk (by decide) (by decide) (by simp) (two_in m b)
  · exact .mk (by decide) (by decide) (by simp) (two_in b m)
  · exact .mk (by decide) (by decide) (by simp) (two_in a n)
  · exact .mk (by decide) (by decide) (by simp) (two_in n n)
  · exact small_leaf _ _ _ _ (by decide) (by decide)
  · exact small_leaf _ _ _ _ (by decide) (by decide)
  · exact small_leaf _ _ _ _ (by decide) (by decide)
  · exact small_leaf _ _ _ _ (by decide) (by decide)

/-- The list, as it lies. -/
theorem kinds_in (w : World) : SlIn ((kobjs w.heap.size).foldl World.alloc w) ((kobjs w.heap.size).foldl World.alloc w).heap.size 5 Ex.cells (ExIn ((kobjs w.heap.size).foldl World.alloc w) ((kobjs w.heap.size).foldl World.alloc w).heap.size)
    (some ⟨w.heap.size + 18, 0, none⟩) 19 (kindsL w.heap.size) := by
  obtain ⟨h, hh⟩ : ∃ h, h = w.heap.size := ⟨_, rfl⟩
  have hat := allocs_at (kobjs h) w
  rw [← hh] at hat ⊢
  generalize (kobjs h).foldl World.alloc w = W at *
  have b : ∀ i cs, (kobjs h)[i]? = some (.cells cs 26) → Box W (h + i) 26 cs := fun i cs e => hat i _ e
  clear hat hh
  have i64 : ∀ n : Int, n = 0 ∨ n = 1 ∨ n = 2 ∨ n = 3 ∨ n = 4 ∨ n = 5 ∨ n = 6 ∨ n = 7 ∨ n = 8 → I64 n := fun n hn => by unfold I64; omega
  have u64 : ∀ n : Int, n = 0 ∨ n = 1 ∨ n = 3 → U64 n := fun n hn => by unfold U64; omega
  have n : ExIn W W.heap.size Hn := leaf_in _ _ _ _ (i64 _ (by omega)) (u64 _ (by omega)) (by decide) (by decide)
  have a : ExIn W W.heap.size Ha := leaf_in _ _ _ _ (i64 _ (by omega)) (u64 _ (by omega)) (by decide) (by decide)
  have node : ∀ (i : Nat) (kd : Int) (op nm : ByteArray) (ks : List Ex) (cs : Array Value), (kobjs h)[i]? = some (.cells cs 26) → cs.toList = ks.flatMap Ex.cells → ks.length ≤ 1000 → (∀ x ∈ ks, ExIn W W.heap.size x) → I64 kd → op.size ≤ maxLen → nm.size ≤ maxLen →
      ExIn W W.heap.size (.node kd op nm 0 (some ⟨h + i, 0, none⟩) ks.length ks) := fun i kd op nm ks cs e1 e2 e3 e4 e5 e6 e7 => exIn_of (slin_new (b i cs e1) e2 e3 e4) e5 e6 e7 (u64 _ (by omega))
  have c : ExIn W W.heap.size (Hc h) := node 2 4 ⟨#[60]⟩ ⟨#[]⟩ [Ha, Hn] _ rfl (by simp) (by simp) (two_in a n) (i64 _ (by omega)) (by decide) (by decide)
  have m : ExIn W W.heap.size (Hm h) := node 4 6 ⟨#[]⟩ ⟨#[97]⟩ [Hn] _ rfl (by simp) (by simp) (one_in n) (i64 _ (by omega)) (by decide) (by decide)
  have bb : ExIn W W.heap.size (Hb h) := node 6 8 ⟨#[]⟩ ⟨#[]⟩ [Hn, Ha] _ rfl (by simp) (by simp) (two_in n a) (i64 _ (by omega)) (by decide) (by decide)
  refine slin_new (l := kindsL h) (b 18 _ rfl) (by simp) (by simp [kindsL]) ?_
  intro x hx
  unfold kindsL at hx
  simp only [List.mem_cons, List.not_mem_nil, or_false] at hx
  rcases hx with rfl | rfl | rfl | rfl | rfl | rfl | rfl | rfl | rfl | rfl | rfl | rfl | rfl | rfl | rfl | rfl | rfl | rfl | rfl
  · exact n
  · exact a
  · exact c
  · exact m
  · exact bb
  · exact node 8 8 ⟨#[]⟩ ⟨#[]⟩ [Ha, Hb h] _ rfl (by simp) (by simp) (two_in a bb) (i64 _ (by omega)) (by decide) (by decide)
  · exact node 9 8 ⟨#[]⟩ ⟨#[]⟩ [Hb h, Ha] _ rfl (by simp) (by simp) (two_in bb a) (i64 _ (by omega)) (by decide) (by decide)
  · exact node 10 1 ⟨#[]⟩ ⟨#[]⟩ [Hc h, Hc h] _ rfl (by simp) (by simp) (two_in c c) (i64 _ (by omega)) (by decide) (by decide)
  · exact node 11 2 ⟨#[]⟩ ⟨#[]⟩ [Hc h] _ rfl (by simp) (by simp) (one_in c) (i64 _ (by omega)) (by decide) (by decide)
  · exact node 12 3 ⟨#[]⟩ ⟨#[]⟩ [Hc h] _ rfl (by simp) (by simp) (one_in c) (i64 _ (by omega)) (by decide) (by decide)
  · exact node 13 3 ⟨#[]⟩ ⟨#[]⟩ [Hn] _ rfl (by simp) (by simp) (one_in n) (i64 _ (by omega)) (by decide) (by decide)
  · exact node 14 4 ⟨#[60]⟩ ⟨#[]⟩ [Hm h, Hb h] _ rfl (by simp) (by simp) (two_in m bb) (i64 _ (by omega)) (by decide) (by decide)
  · exact node 15 4 ⟨#[60]⟩ ⟨#[]⟩ [Hb h, Hm h] _ rfl (by simp) (by simp) (two_in bb m) (i64 _ (by omega)) (by decide) (by decide)
  · exact node 16 4 ⟨#[61]⟩ ⟨#[]⟩ [Ha, Hn] _ rfl (by simp) (by simp) (two_in a n) (i64 _ (by omega)) (by decide) (by decide)
  · exact node 17 4 ⟨#[60]⟩ ⟨#[]⟩ [Hn, Hn] _ rfl (by simp) (by simp) (two_in n n) (i64 _ (by omega)) (by decide) (by decide)
  · exact leaf_in _ _ _ _ (i64 _ (by omega)) (u64 _ (by omega)) (by decide) (by decide)
  · exact leaf_in _ _ _ _ (i64 _ (by omega)) (u64 _ (by omega)) (by decide) (by decide)
  · exact leaf_in _ _ _ _ (i64 _ (by omega)) (u64 _ (by omega)) (by decide) (by decide)
  · exact leaf_in _ _ _ _ (i64 _ (by omega)) (u64 _ (by omega)) (by decide) (by decide)

end Go.Proofs.YtogpicfofifbkaaDoor
