/- What the landed single, Number, compared and comparison.right give. No condition but sizes. -/
import Derived.Test.YtogpicfofifbkaaDoorTreeTwo
import Derived.Stop.Asserts
import Derived.Deep.DeepCutAuto
namespace Go.Proofs.YtogpicfofifbkaaDoor.LandedT
open Go.RowKit

section
variable (kd nu : Int) (op nm : ByteArray) (A : Option Addr) (c : Nat) (ks : List Ex)
theorem told_seven : (toldN (.node kd op nm nu A c ks) = 0 ∧ toldV (.node kd op nm nu A c ks) = .nilIface) ∨
    (toldN (.node kd op nm nu A c ks) = 1 ∧ toldV (.node kd op nm nu A c ks) = .iface 57 (.slice A ks.length c)) ∨
    (toldN (.node kd op nm nu A c ks) = 2 ∧ toldV (.node kd op nm nu A c ks) = .iface 59 (.slice A ks.length c)) ∨
    (toldN (.node kd op nm nu A c ks) = 3 ∧ toldV (.node kd op nm nu A c ks) = .iface 73 (.slice A ks.length c)) ∨
    (toldN (.node kd op nm nu A c ks) = 4 ∧ toldV (.node kd op nm nu A c ks) = .iface 68 (.slice A ks.length c)) ∨
    (toldN (.node kd op nm nu A c ks) = 5 ∧ toldV (.node kd op nm nu A c ks) = .iface 75 (.agg #[])) ∨
    (toldN (.node kd op nm nu A c ks) = 6 ∧ toldV (.node kd op nm nu A c ks) = .iface 76 (.agg #[])) := by
  have hk := told_kind (kd := kd) (op := op) (nm := nm) (nu := nu) (A := A) (c := c) (ks := ks)
  unfold toldV
  simp only
  generalize toldN (.node kd op nm nu A c ks) = n at hk ⊢
  have hn : n = 0 ∨ n = 1 ∨ n = 2 ∨ n = 3 ∨ n = 4 ∨ n = 5 ∨ n = 6 := by omega
  rcases hn with rfl | rfl | rfl | rfl | rfl | rfl | rfl
  · exact .inl ⟨rfl, rfl⟩
  · exact .inr (.inl ⟨rfl, rfl⟩)
  · exact .inr (.inr (.inl ⟨rfl, rfl⟩))
  · exact .inr (.inr (.inr (.inl ⟨rfl, rfl⟩)))
  · exact .inr (.inr (.inr (.inr (.inl ⟨rfl, rfl⟩))))
  · exact .inr (.inr (.inr (.inr (.inr (.inl ⟨rfl, rfl⟩)))))
  · exact .inr (.inr (.inr (.inr (.inr (.inr ⟨rfl, rfl⟩)))))
end

/-! ### Type assertions -/
theorem as_num_nil (W : World) : (Instr.typeAssert .nilIface 20 76 true).run Tryd.prog W = .ok (.tuple #[.agg #[], .bool false]) W := by kernel_rfl
theorem as_num_joined (A : Option Addr) (n c : Nat) (W : World) : (Instr.typeAssert (.iface 57 (.slice A n c)) 20 76 true).run Tryd.prog W = .ok (.tuple #[.agg #[], .bool false]) W := by kernel_rfl
theorem as_num_comparison (A : Option Addr) (n c : Nat) (W : World) : (Instr.typeAssert (.iface 59 (.slice A n c)) 20 76 true).run Tryd.prog W = .ok (.tuple #[.agg #[], .bool false]) W := by kernel_rfl
theorem as_num_masked (A : Option Addr) (n c : Nat) (W : World) : (Instr.typeAssert (.iface 73 (.slice A n c)) 20 76 true).run Tryd.prog W = .ok (.tuple #[.agg #[], .bool false]) W := by kernel_rfl
theorem as_num_bits (A : Option Addr) (n c : Nat) (W : World) : (Instr.typeAssert (.iface 68 (.slice A n c)) 20 76 true).run Tryd.prog W = .ok (.tuple #[.agg #[], .bool false]) W := by kernel_rfl
theorem as_num_name (W : World) : (Instr.typeAssert (.iface 75 (.agg #[])) 20 76 true).run Tryd.prog W = .ok (.tuple #[.agg #[], .bool false]) W := by kernel_rfl
theorem as_num_num (W : World) : (Instr.typeAssert (.iface 76 (.agg #[])) 20 76 true).run Tryd.prog W = .ok (.tuple #[.agg #[], .bool true]) W := by kernel_rfl
theorem as_name_nil (W : World) : (Instr.typeAssert .nilIface 20 75 true).run Tryd.prog W = .ok (.tuple #[.agg #[], .bool false]) W := by kernel_rfl
theorem as_name_joined (A : Option Addr) (n c : Nat) (W : World) : (Instr.typeAssert (.iface 57 (.slice A n c)) 20 75 true).run Tryd.prog W = .ok (.tuple #[.agg #[], .bool false]) W := by kernel_rfl
theorem as_name_comparison (A : Option Addr) (n c : Nat) (W : World) : (Instr.typeAssert (.iface 59 (.slice A n c)) 20 75 true).run Tryd.prog W = .ok (.tuple #[.agg #[], .bool false]) W := by kernel_rfl
theorem as_name_masked (A : Option Addr) (n c : Nat) (W : World) : (Instr.typeAssert (.iface 73 (.slice A n c)) 20 75 true).run Tryd.prog W = .ok (.tuple #[.agg #[], .bool false]) W := by kernel_rfl
theorem as_name_bits (A : Option Addr) (n c : Nat) (W : World) : (Instr.typeAssert (.iface 68 (.slice A n c)) 20 75 true).run Tryd.prog W = .ok (.tuple #[.agg #[], .bool false]) W := by kernel_rfl
theorem as_name_name (W : World) : (Instr.typeAssert (.iface 75 (.agg #[])) 20 75 true).run Tryd.prog W = .ok (.tuple #[.agg #[], .bool true]) W := by kernel_rfl
theorem as_name_num (W : World) : (Instr.typeAssert (.iface 76 (.agg #[])) 20 75 true).run Tryd.prog W = .ok (.tuple #[.agg #[], .bool false]) W := by kernel_rfl
theorem as_bits_nil (W : World) : (Instr.typeAssert .nilIface 20 68 true).run Tryd.prog W = .ok (.tuple #[.slice none 0 0, .bool false]) W := by kernel_rfl
theorem as_bits_joined (A : Option Addr) (n c : Nat) (W : World) : (Instr.typeAssert (.iface 57 (.slice A n c)) 20 68 true).run Tryd.prog W = .ok (.tuple #[.slice none 0 0, .bool false]) W := by kernel_rfl
theorem as_bits_comparison (A : Option Addr) (n c : Nat) (W : World) : (Instr.typeAssert (.iface 59 (.slice A n c)) 20 68 true).run Tryd.prog W = .ok (.tuple #[.slice none 0 0, .bool false]) W := by kernel_rfl
theorem as_bits_masked (A : Option Addr) (n c : Nat) (W : World) : (Instr.typeAssert (.iface 73 (.slice A n c)) 20 68 true).run Tryd.prog W = .ok (.tuple #[.slice none 0 0, .bool false]) W := by kernel_rfl
theorem as_bits_bits (A : Option Addr) (n c : Nat) (W : World) : (Instr.typeAssert (.iface 68 (.slice A n c)) 20 68 true).run Tryd.prog W = .ok (.tuple #[.slice A n c, .bool true]) W := by kernel_rfl
theorem as_bits_name (W : World) : (Instr.typeAssert (.iface 75 (.agg #[])) 20 68 true).run Tryd.prog W = .ok (.tuple #[.slice none 0 0, .bool false]) W := by kernel_rfl
theorem as_bits_num (W : World) : (Instr.typeAssert (.iface 76 (.agg #[])) 20 68 true).run Tryd.prog W = .ok (.tuple #[.slice none 0 0, .bool false]) W := by kernel_rfl
theorem as_masked_nil (W : World) : (Instr.typeAssert .nilIface 20 73 true).run Tryd.prog W = .ok (.tuple #[.slice none 0 0, .bool false]) W := by kernel_rfl
theorem as_masked_joined (A : Option Addr) (n c : Nat) (W : World) : (Instr.typeAssert (.iface 57 (.slice A n c)) 20 73 true).run Tryd.prog W = .ok (.tuple #[.slice none 0 0, .bool false]) W := by kernel_rfl
theorem as_masked_comparison (A : Option Addr) (n c : Nat) (W : World) : (Instr.typeAssert (.iface 59 (.slice A n c)) 20 73 true).run Tryd.prog W = .ok (.tuple #[.slice none 0 0, .bool false]) W := by kernel_rfl
theorem as_masked_masked (A : Option Addr) (n c : Nat) (W : World) : (Instr.typeAssert (.iface 73 (.slice A n c)) 20 73 true).run Tryd.prog W = .ok (.tuple #[.slice A n c, .bool true]) W := by kernel_rfl
theorem as_masked_bits (A : Option Addr) (n c : Nat) (W : World) : (Instr.typeAssert (.iface 68 (.slice A n c)) 20 73 true).run Tryd.prog W = .ok (.tuple #[.slice none 0 0, .bool false]) W := by kernel_rfl
theorem as_masked_name (W : World) : (Instr.typeAssert (.iface 75 (.agg #[])) 20 73 true).run Tryd.prog W = .ok (.tuple #[.slice none 0 0, .bool false]) W := by kernel_rfl
theorem as_masked_num (W : World) : (Instr.typeAssert (.iface 76 (.agg #[])) 20 73 true).run Tryd.prog W = .ok (.tuple #[.slice none 0 0, .bool false]) W := by kernel_rfl
theorem as_joined_nil (W : World) : (Instr.typeAssert .nilIface 20 57 true).run Tryd.prog W = .ok (.tuple #[.slice none 0 0, .bool false]) W := by kernel_rfl
theorem as_joined_joined (A : Option Addr) (n c : Nat) (W : World) : (Instr.typeAssert (.iface 57 (.slice A n c)) 20 57 true).run Tryd.prog W = .ok (.tuple #[.slice A n c, .bool true]) W := by kernel_rfl
theorem as_joined_comparison (A : Option Addr) (n c : Nat) (W : World) : (Instr.typeAssert (.iface 59 (.slice A n c)) 20 57 true).run Tryd.prog W = .ok (.tuple #[.slice none 0 0, .bool false]) W := by kernel_rfl
theorem as_joined_masked (A : Option Addr) (n c : Nat) (W : World) : (Instr.typeAssert (.iface 73 (.slice A n c)) 20 57 true).run Tryd.prog W = .ok (.tuple #[.slice none 0 0, .bool false]) W := by kernel_rfl
theorem as_joined_bits (A : Option Addr) (n c : Nat) (W : World) : (Instr.typeAssert (.iface 68 (.slice A n c)) 20 57 true).run Tryd.prog W = .ok (.tuple #[.slice none 0 0, .bool false]) W := by kernel_rfl
theorem as_joined_name (W : World) : (Instr.typeAssert (.iface 75 (.agg #[])) 20 57 true).run Tryd.prog W = .ok (.tuple #[.slice none 0 0, .bool false]) W := by kernel_rfl
theorem as_joined_num (W : World) : (Instr.typeAssert (.iface 76 (.agg #[])) 20 57 true).run Tryd.prog W = .ok (.tuple #[.slice none 0 0, .bool false]) W := by kernel_rfl
theorem as_condition_nil (W : World) : (Instr.typeAssert .nilIface 20 55 true).run Tryd.prog W = .ok (.tuple #[.nilIface, .bool false]) W := by kernel_rfl
theorem as_condition_joined (A : Option Addr) (n c : Nat) (W : World) : (Instr.typeAssert (.iface 57 (.slice A n c)) 20 55 true).run Tryd.prog W = .ok (.tuple #[.iface 57 (.slice A n c), .bool true]) W := run_typeAssert_hasB Tryd.underlying55 (by kernel_rfl) _ _ W
theorem as_condition_comparison (A : Option Addr) (n c : Nat) (W : World) : (Instr.typeAssert (.iface 59 (.slice A n c)) 20 55 true).run Tryd.prog W = .ok (.tuple #[.iface 59 (.slice A n c), .bool true]) W := run_typeAssert_hasB Tryd.underlying55 (by kernel_rfl) _ _ W
theorem as_condition_masked (A : Option Addr) (n c : Nat) (W : World) : (Instr.typeAssert (.iface 73 (.slice A n c)) 20 55 true).run Tryd.prog W = .ok (.tuple #[.nilIface, .bool false]) W := run_typeAssert_lacksB Tryd.underlying55 (by kernel_rfl) (by kernel_rfl) _ _ W
theorem as_condition_bits (A : Option Addr) (n c : Nat) (W : World) : (Instr.typeAssert (.iface 68 (.slice A n c)) 20 55 true).run Tryd.prog W = .ok (.tuple #[.nilIface, .bool false]) W := run_typeAssert_lacksB Tryd.underlying55 (by kernel_rfl) (by kernel_rfl) _ _ W
theorem as_condition_name (W : World) : (Instr.typeAssert (.iface 75 (.agg #[])) 20 55 true).run Tryd.prog W = .ok (.tuple #[.nilIface, .bool false]) W := run_typeAssert_lacksB Tryd.underlying55 (by kernel_rfl) (by kernel_rfl) _ _ W
theorem as_condition_num (W : World) : (Instr.typeAssert (.iface 76 (.agg #[])) 20 55 true).run Tryd.prog W = .ok (.tuple #[.nilIface, .bool false]) W := run_typeAssert_lacksB Tryd.underlying55 (by kernel_rfl) (by kernel_rfl) _ _ W
theorem as_must (A : Option Addr) (n c : Nat) (W : World) : (Instr.typeAssert (.iface 59 (.slice A n c)) 20 59 false).run Tryd.prog W = .ok (.slice A n c) W := by kernel_rfl

set_option maxRecDepth 100000 in
set_option maxHeartbeats 4000000 in
theorem single_any (e : Ex) (w : World) : Calls Tryd.prog 20 #[e.val] w (Quietly (.bool (primOk e)) w) := by
  have HC := Lib.hid (fun W => told_any e W)
  obtain ⟨kd, op, nm, nu, A, c, ks⟩ := e
  have hs := told_seven kd nu op nm A c ks
  rw [told_prim]
  unfold Ex.val at *
  simp only at HC ⊢
  rcases hs with ⟨h1, h2⟩ | ⟨h1, h2⟩ | ⟨h1, h2⟩ | ⟨h1, h2⟩ | ⟨h1, h2⟩ | ⟨h1, h2⟩ | ⟨h1, h2⟩
  · rw [h1]
    rw [h2] at HC
    have fa := as_num_nil
    have fb := as_name_nil
    clear h1 h2
    go_enter Tryd.func20, Tryd.ntmps20
    go_wp2_with fail
    refine (HC.out _).mono ?_
    rintro r w1 ⟨rfl, hb1⟩
    have hbw := unbox hb1
    clear hb1
    go_wp2
    go_ret
    exact ⟨rfl, below_alloc (below_alloc hbw (Nat.le_refl _) _) (Nat.le_refl _) _⟩
  · rw [h1]
    rw [h2] at HC
    have fa := as_num_joined
    have fb := as_name_joined
    clear h1 h2
    go_enter Tryd.func20, Tryd.ntmps20
    go_wp2_with fail
    refine (HC.out _).mono ?_
    rintro r w1 ⟨rfl, hb1⟩
    have hbw := unbox hb1
    clear hb1
    go_wp2
    go_ret
    exact ⟨rfl, below_alloc (below_alloc hbw (Nat.le_refl _) _) (Nat.le_refl _) _⟩
  · rw [h1]
    rw [h2] at HC
    have fa := as_num_comparison
    have fb := as_name_comparison
    clear h1 h2
    go_enter Tryd.func20, Tryd.ntmps20
    go_wp2_with fail
    refine (HC.out _).mono ?_
    rintro r w1 ⟨rfl, hb1⟩
    have hbw := unbox hb1
    clear hb1
    go_wp2
    go_ret
    exact ⟨rfl, below_alloc (below_alloc hbw (Nat.le_refl _) _) (Nat.le_refl _) _⟩
  · rw [h1]
    rw [h2] at HC
    have fa := as_num_masked
    have fb := as_name_masked
    clear h1 h2
    go_enter Tryd.func20, Tryd.ntmps20
    go_wp2_with fail
    refine (HC.out _).mono ?_
    rintro r w1 ⟨rfl, hb1⟩
    have hbw := unbox hb1
    clear hb1
    go_wp2
    go_ret
    exact ⟨rfl, below_alloc (below_alloc hbw (Nat.le_refl _) _) (Nat.le_refl _) _⟩
  · rw [h1]
    rw [h2] at HC
    have fa := as_num_bits
    have fb := as_name_bits
    clear h1 h2
    go_enter Tryd.func20, Tryd.ntmps20
    go_wp2_with fail
    refine (HC.out _).mono ?_
    rintro r w1 ⟨rfl, hb1⟩
    have hbw := unbox hb1
    clear hb1
    go_wp2
    go_ret
    exact ⟨rfl, below_alloc (below_alloc hbw (Nat.le_refl _) _) (Nat.le_refl _) _⟩
  · rw [h1]
    rw [h2] at HC
    have fa := as_num_name
    have fb := as_name_name
    clear h1 h2
    go_enter Tryd.func20, Tryd.ntmps20
    go_wp2_with fail
    refine (HC.out _).mono ?_
    rintro r w1 ⟨rfl, hb1⟩
    have hbw := unbox hb1
    clear hb1
    go_wp2
    go_ret
    exact ⟨rfl, below_alloc (below_alloc hbw (Nat.le_refl _) _) (Nat.le_refl _) _⟩
  · rw [h1]
    rw [h2] at HC
    have fa := as_num_num
    have fb := as_name_num
    clear h1 h2
    go_enter Tryd.func20, Tryd.ntmps20
    go_wp2_with fail
    refine (HC.out _).mono ?_
    rintro r w1 ⟨rfl, hb1⟩
    have hbw := unbox hb1
    clear hb1
    go_wp2
    go_ret
    exact ⟨rfl, below_alloc (below_alloc hbw (Nat.le_refl _) _) (Nat.le_refl _) _⟩

/-! ### compared -/
set_option maxRecDepth 100000 in
set_option maxHeartbeats 4000000 in
theorem compared_any (e : Ex) (w : World) (hin : ExIn w w.heap.size e) : Calls Tryd.prog 27 #[e.val] w (Quietly (.bool (maskOk e)) w) := by
  have HC := Lib.hid (fun W => told_any e W)
  obtain ⟨kd, op, nm, nu, A, c, ks⟩ := e
  have hs := told_seven kd nu op nm A c ks
  have hks := hin.kids
  clear hin
  unfold Ex.val at *
  simp only at HC ⊢
  rcases hs with ⟨h1, h2⟩ | ⟨h1, h2⟩ | ⟨h1, h2⟩ | ⟨h1, h2⟩ | ⟨h1, h2⟩ | ⟨h1, h2⟩ | ⟨h1, h2⟩
  · rw [told_nomask (by rw [h1]; decide), h1]
    rw [h2] at HC
    have fa := as_masked_nil
    have fb := as_name_nil
    clear h1 h2 hks
    go_enter Tryd.func27, Tryd.ntmps27
    go_wp2_with fail
    refine (HC.out _).mono ?_
    rintro r w1 ⟨rfl, hb1⟩
    have hbw := unbox hb1
    clear hb1
    go_wp2
    go_ret
    exact ⟨rfl, below_alloc hbw (Nat.le_refl _) _⟩
  · rw [told_nomask (by rw [h1]; decide), h1]
    rw [h2] at HC
    have fa := as_masked_joined
    have fb := as_name_joined
    clear h1 h2 hks
    go_enter Tryd.func27, Tryd.ntmps27
    go_wp2_with fail
    refine (HC.out _).mono ?_
    rintro r w1 ⟨rfl, hb1⟩
    have hbw := unbox hb1
    clear hb1
    go_wp2
    go_ret
    exact ⟨rfl, below_alloc hbw (Nat.le_refl _) _⟩
  · rw [told_nomask (by rw [h1]; decide), h1]
    rw [h2] at HC
    have fa := as_masked_comparison
    have fb := as_name_comparison
    clear h1 h2 hks
    go_enter Tryd.func27, Tryd.ntmps27
    go_wp2_with fail
    refine (HC.out _).mono ?_
    rintro r w1 ⟨rfl, hb1⟩
    have hbw := unbox hb1
    clear hb1
    go_wp2
    go_ret
    exact ⟨rfl, below_alloc hbw (Nat.le_refl _) _⟩
  · rw [h2] at HC
    obtain ⟨a, hka, hm⟩ := told_mask h1
    rw [hm]
    subst hka
    obtain ⟨b, o, rfl, hb, hia, hat⟩ := hks.one
    have fa := as_masked_masked
    have HS := Lib.hid (fun W => single_any a W)
    obtain ⟨P, hP⟩ : ∃ P, P = primOk a := ⟨_, rfl⟩
    rw [← hP] at HS ⊢
    have HAT := Lib.hid hat
    clear h1 h2 hm hks hia hP hat
    go_enter Tryd.func27, Tryd.ntmps27
    go_wp2_with fail
    refine (HC.out _).mono ?_
    rintro r w1 ⟨rfl, hb1⟩
    have hbw := unbox hb1
    have hat1 := HAT.out.below hb hbw
    obtain ⟨ka, oa, na, ua, Aa, ca, la⟩ := a
    obtain ⟨e0, e1, e2, e3, e4⟩ := hat1
    unfold Ex.val at HS
    simp only at HS
    clear hb1
    go_wp2_with fail
    refine (HS.out _).mono ?_
    rintro r w2 ⟨rfl, hb2⟩
    go_wp2
    go_ret
    exact ⟨rfl, below_step hbw (Nat.le_refl _) hb2⟩
  · rw [told_nomask (by rw [h1]; decide), h1]
    rw [h2] at HC
    have fa := as_masked_bits
    have fb := as_name_bits
    clear h1 h2 hks
    go_enter Tryd.func27, Tryd.ntmps27
    go_wp2_with fail
    refine (HC.out _).mono ?_
    rintro r w1 ⟨rfl, hb1⟩
    have hbw := unbox hb1
    clear hb1
    go_wp2
    go_ret
    exact ⟨rfl, below_alloc hbw (Nat.le_refl _) _⟩
  · rw [told_nomask (by rw [h1]; decide), h1]
    rw [h2] at HC
    have fa := as_masked_name
    have fb := as_name_name
    clear h1 h2 hks
    go_enter Tryd.func27, Tryd.ntmps27
    go_wp2_with fail
    refine (HC.out _).mono ?_
    rintro r w1 ⟨rfl, hb1⟩
    have hbw := unbox hb1
    clear hb1
    go_wp2
    go_ret
    exact ⟨rfl, below_alloc hbw (Nat.le_refl _) _⟩
  · rw [told_nomask (by rw [h1]; decide), h1]
    rw [h2] at HC
    have fa := as_masked_num
    have fb := as_name_num
    clear h1 h2 hks
    go_enter Tryd.func27, Tryd.ntmps27
    go_wp2_with fail
    refine (HC.out _).mono ?_
    rintro r w1 ⟨rfl, hb1⟩
    have hbw := unbox hb1
    clear hb1
    go_wp2
    go_ret
    exact ⟨rfl, below_alloc hbw (Nat.le_refl _) _⟩

/-! ### Number -/
/-- Where Number stands: the expression that is still asked for, in the box. -/
def Asks (w : World) (V : Bool) (n : Nat) (wr : World) : Prop :=
  ∃ e : Ex, weigh e = n ∧ numOk e = V ∧ ExIn w w.heap.size e ∧ Box wr w.heap.size 26 e.cells.toArray ∧ Below w.heap.size w wr

set_option maxRecDepth 100000 in
set_option maxHeartbeats 8000000 in
theorem number_any (e : Ex) (w : World) (hin : ExIn w w.heap.size e) : Calls Tryd.prog 9 #[e.val] w (Quietly (.bool (numOk e)) w) := by
  obtain ⟨V, hV⟩ : ∃ V, V = numOk e := ⟨_, rfl⟩
  rw [← hV]
  obtain ⟨m, hm⟩ := least_measure (Asks w V)
  have HM := Lib.hid hm
  have HA : Hid (Asks w V (weigh e) (w.alloc (.cells e.cells.toArray 26))) := ⟨e, rfl, hV.symm, hin, Box.new _ _ _, boxed _ _⟩
  clear hm hin hV
  obtain ⟨kd, op, nm, nu, A, c, ks⟩ := e
  unfold Ex.val
  simp only
  go_enter Tryd.func9, Tryd.ntmps9
  go_wp2
  go_loopw [] (fun wr => ∃ n, Asks w V n wr) (fun wr => m wr)
  case atStart => exact ⟨_, HA.out⟩
  case round =>
    clear HA
    obtain ⟨n, hr⟩ := hrel
    obtain ⟨⟨f, hw, hf, hin, hbx, hbl⟩, _⟩ := HM.out wr n hr
    clear hr
    have HC := Lib.hid (fun W => told_any f W)
    have HS := Lib.hid (fun W => single_any f W)
    have HB := Lib.hid hbx
    obtain ⟨kd', op', nm', nu', A', c', ks'⟩ := f
    obtain ⟨q0, q1, q2, q3, q4, q5⟩ := box_ex (show Box wr w.heap.size 26 #[.int .i64 kd', .string op', .string nm', .int .u64 nu', .slice A' ks'.length c'] from hbx)
    have hs := told_seven kd' nu' op' nm' A' c' ks'
    clear hbx
    unfold Ex.val at *
    simp only at HC HS
    by_cases h4 : toldN (.node kd' op' nm' nu' A' c' ks') = 4
    · obtain ⟨h1, h2⟩ : toldN (.node kd' op' nm' nu' A' c' ks') = 4 ∧ toldV (.node kd' op' nm' nu' A' c' ks') = .iface 68 (.slice A' ks'.length c') := by
        rcases hs with ⟨h1, h2⟩ | ⟨h1, h2⟩ | ⟨h1, h2⟩ | ⟨h1, h2⟩ | ⟨h1, h2⟩ | ⟨h1, h2⟩ | ⟨h1, h2⟩
        all_goals first | exact ⟨h1, h2⟩ | (exfalso; omega)
      obtain ⟨a, b, hka, hn⟩ := told_bits h1
      rw [hn] at hf
      rw [h2] at HC
      have hwn : weigh a < m wr := by rw [← hw, weigh_node, hka, weighs_cons]; omega
      have hks := hin.kids
      have hl : ks'.length = 2 := by rw [hka]; rfl
      rw [hl] at HC q4
      clear hl
      subst hka
      obtain ⟨g, o, rfl, hg, hia, hib, hata, hatb⟩ := hks.two
      have HIA := Lib.hid hia
      have HW := Lib.hid hwn
      have HF := Lib.hid hf
      have fa := as_bits_bits
      have HSB := Lib.hid (fun W => single_any b W)
      obtain ⟨P, hP⟩ : ∃ P, P = primOk b := ⟨_, rfl⟩
      rw [← hP] at HSB HF
      have hata' := hata.below hg hbl
      have hatb' := hatb.below hg hbl
      clear hks hs h1 h2 h4 hn hw hwn hin hia hib hata hatb hf hP HS
      obtain ⟨ka, oa, na, ua, Aa, ca, la⟩ := a
      obtain ⟨kb, ob, nb, ub, Ab, cb, lb⟩ := b
      unfold Ex.val at HSB
      simp only at HSB
      have HATA := Lib.hid hata'
      have HATB := Lib.hid hatb'
      have HBL := Lib.hid hbl
      have hgw : g < wr.heap.size := Nat.lt_of_lt_of_le hg hbl.size
      clear hata' hatb'
      cases P
      · go_wp2_with fail
        refine (HC.out _).mono ?_
        rintro r w1 ⟨rfl, hb1⟩
        obtain ⟨e0, e1, e2, e3, e4⟩ := HATB.out.below hgw hb1
        go_wp2_with fail
        refine (HSB.out _).mono ?_
        rintro r w2 ⟨rfl, hb2⟩
        go_wp2
        go_ret
        exact ⟨by rw [← HF.out, Bool.and_false]; rfl, below_step (below_step hbl (Nat.le_refl _) hb1) (Nat.le_refl _) hb2⟩
      · go_wp2_with fail
        refine (HC.out _).mono ?_
        rintro r w1 ⟨rfl, hb1⟩
        obtain ⟨e0, e1, e2, e3, e4⟩ := HATB.out.below hgw hb1
        go_wp2_with fail
        refine (HSB.out _).mono ?_
        rintro r w2 ⟨rfl, hb2⟩
        have hb12 : Below wr.heap.size wr w2 := below_step hb1 (Nat.le_refl _) hb2
        clear e0 e1 e2 e3 e4
        obtain ⟨e0, e1, e2, e3, e4⟩ := HATA.out.below hgw hb12
        have hB2 := HB.out.step hb12
        go_upto_region 6 with (fail)
        refine wp_region_lit ?_
        refine wpList_plain (by rfl) fun K hK => ?_
        go_simp
        refine hK _ _ ?_
        clear hK K
        refine wpList_plain (by rfl) fun K hK => ?_
        go_simp
        refine hK _ _ ?_
        clear hK K
        refine wpList_plain (by rfl) fun K hK => ?_
        go_simp
        refine hK _ _ ?_
        clear hK K
        refine wpList_store_box (by rfl) 26 _ _ (by rfl) w.heap.size 26 _ #[.int .i64 ka, .string oa, .string na, .int .u64 ua, .slice Aa la.length ca] (by rfl) (by rfl) hB2 (by rfl) (by kernel_rfl) (by simp [Value.oneCell']) ?_
        intro w3 hB3 hg3
        simp only [Act.put]
        go_wp2
        have hfin : Asks w V (weigh (.node ka oa na ua Aa ca la)) w3 := ⟨_, rfl, by rw [← HF.out, Bool.and_true], HIA.out, hB3, below_only (below_step hbl (Nat.le_refl _) hb12) (Nat.le_refl _) (Nat.le_trans hbl.size hb12.size) hg3⟩
        go_roundw
        case rel => exact ⟨_, hfin⟩
        case measure => exact Nat.lt_of_le_of_lt (HM.out _ _ hfin).2 HW.out
    · rw [told_nobits h4] at hf
      rw [hf] at HS
      clear hf hin hw
      rcases hs with ⟨h1, h2⟩ | ⟨h1, h2⟩ | ⟨h1, h2⟩ | ⟨h1, h2⟩ | ⟨h1, h2⟩ | ⟨h1, h2⟩ | ⟨h1, h2⟩
      · rw [h2] at HC
        have fa := as_bits_nil
        clear h1 h2 h4
        go_wp2_with fail
        refine (HC.out _).mono ?_
        rintro r w1 ⟨rfl, hb1⟩
        obtain ⟨p0, p1, p2, p3, p4, p5⟩ := box_ex (show Box w1 w.heap.size 26 #[.int .i64 kd', .string op', .string nm', .int .u64 nu', .slice A' ks'.length c'] from HB.out.step hb1)
        clear q0 q1 q2 q3 q4 q5
        go_wp2_with fail
        refine (HS.out _).mono ?_
        rintro r w2 ⟨rfl, hb2⟩
        go_wp2
        go_ret
        exact ⟨rfl, below_step (below_step hbl (Nat.le_refl _) hb1) (Nat.le_refl _) hb2⟩
      · rw [h2] at HC
        have fa := as_bits_joined
        clear h1 h2 h4
        go_wp2_with fail
        refine (HC.out _).mono ?_
        rintro r w1 ⟨rfl, hb1⟩
        obtain ⟨p0, p1, p2, p3, p4, p5⟩ := box_ex (show Box w1 w.heap.size 26 #[.int .i64 kd', .string op', .string nm', .int .u64 nu', .slice A' ks'.length c'] from HB.out.step hb1)
        clear q0 q1 q2 q3 q4 q5
        go_wp2_with fail
        refine (HS.out _).mono ?_
        rintro r w2 ⟨rfl, hb2⟩
        go_wp2
        go_ret
        exact ⟨rfl, below_step (below_step hbl (Nat.le_refl _) hb1) (Nat.le_refl _) hb2⟩
      · rw [h2] at HC
        have fa := as_bits_comparison
        clear h1 h2 h4
        go_wp2_with fail
        refine (HC.out _).mono ?_
        rintro r w1 ⟨rfl, hb1⟩
        obtain ⟨p0, p1, p2, p3, p4, p5⟩ := box_ex (show Box w1 w.heap.size 26 #[.int .i64 kd', .string op', .string nm', .int .u64 nu', .slice A' ks'.length c'] from HB.out.step hb1)
        clear q0 q1 q2 q3 q4 q5
        go_wp2_with fail
        refine (HS.out _).mono ?_
        rintro r w2 ⟨rfl, hb2⟩
        go_wp2
        go_ret
        exact ⟨rfl, below_step (below_step hbl (Nat.le_refl _) hb1) (Nat.le_refl _) hb2⟩
      · rw [h2] at HC
        have fa := as_bits_masked
        clear h1 h2 h4
        go_wp2_with fail
        refine (HC.out _).mono ?_
        rintro r w1 ⟨rfl, hb1⟩
        obtain ⟨p0, p1, p2, p3, p4, p5⟩ := box_ex (show Box w1 w.heap.size 26 #[.int .i64 kd', .string op', .string nm', .int .u64 nu', .slice A' ks'.length c'] from HB.out.step hb1)
        clear q0 q1 q2 q3 q4 q5
        go_wp2_with fail
        refine (HS.out _).mono ?_
        rintro r w2 ⟨rfl, hb2⟩
        go_wp2
        go_ret
        exact ⟨rfl, below_step (below_step hbl (Nat.le_refl _) hb1) (Nat.le_refl _) hb2⟩
      · exact absurd h1 h4
      · rw [h2] at HC
        have fa := as_bits_name
        clear h1 h2 h4
        go_wp2_with fail
        refine (HC.out _).mono ?_
        rintro r w1 ⟨rfl, hb1⟩
        obtain ⟨p0, p1, p2, p3, p4, p5⟩ := box_ex (show Box w1 w.heap.size 26 #[.int .i64 kd', .string op', .string nm', .int .u64 nu', .slice A' ks'.length c'] from HB.out.step hb1)
        clear q0 q1 q2 q3 q4 q5
        go_wp2_with fail
        refine (HS.out _).mono ?_
        rintro r w2 ⟨rfl, hb2⟩
        go_wp2
        go_ret
        exact ⟨rfl, below_step (below_step hbl (Nat.le_refl _) hb1) (Nat.le_refl _) hb2⟩
      · rw [h2] at HC
        have fa := as_bits_num
        clear h1 h2 h4
        go_wp2_with fail
        refine (HC.out _).mono ?_
        rintro r w1 ⟨rfl, hb1⟩
        obtain ⟨p0, p1, p2, p3, p4, p5⟩ := box_ex (show Box w1 w.heap.size 26 #[.int .i64 kd', .string op', .string nm', .int .u64 nu', .slice A' ks'.length c'] from HB.out.step hb1)
        clear q0 q1 q2 q3 q4 q5
        go_wp2_with fail
        refine (HS.out _).mono ?_
        rintro r w2 ⟨rfl, hb2⟩
        go_wp2
        go_ret
        exact ⟨rfl, below_step (below_step hbl (Nat.le_refl _) hb1) (Nat.le_refl _) hb2⟩

/-! ### right -/
set_option maxRecDepth 100000 in
set_option maxHeartbeats 4000000 in
theorem right_any (a b : Ex) (A : Option Addr) (c : Nat) (w : World) (hks : SlIn w w.heap.size 5 Ex.cells (ExIn w w.heap.size) A c [a, b]) :
    Calls Tryd.prog 13 #[.slice A 2 c] w (Quietly (.bool (maskOk a && numOk b)) w) := by
  obtain ⟨g, o, rfl, hg, hia, hib, hata, hatb⟩ := hks.two
  have HC := Lib.hid (compared_any a w hia)
  have HN := Lib.hid (fun W (hW : Below w.heap.size w W) => number_any b W (hib.next hW))
  obtain ⟨M, hM⟩ : ∃ M, M = maskOk a := ⟨_, rfl⟩
  obtain ⟨N, hN⟩ : ∃ N, N = numOk b := ⟨_, rfl⟩
  rw [← hM] at HC ⊢
  rw [← hN] at HN ⊢
  have HATB := Lib.hid hatb
  clear hks hia hib hM hN hatb
  obtain ⟨ka, oa, na, ua, Aa, ca, la⟩ := a
  obtain ⟨kb, ob, nb, ub, Ab, cb, lb⟩ := b
  obtain ⟨e0, e1, e2, e3, e4⟩ := hata
  unfold Ex.val at *
  simp only at HC HN
  cases M
  · go_enter Tryd.func13, Tryd.ntmps13
    go_wp2_with fail
    refine (HC.out).mono ?_
    rintro r w1 ⟨rfl, hb1⟩
    go_wp2
    go_ret
    exact ⟨rfl, hb1⟩
  · go_enter Tryd.func13, Tryd.ntmps13
    go_wp2_with fail
    refine (HC.out).mono ?_
    rintro r w1 ⟨rfl, hb1⟩
    clear e0 e1 e2 e3 e4
    obtain ⟨e0, e1, e2, e3, e4⟩ := HATB.out.below hg hb1
    go_wp2_with fail
    refine (HN.out _ hb1).mono ?_
    rintro r w2 ⟨rfl, hb2⟩
    go_wp2
    go_ret
    exact ⟨by rw [Bool.true_and]; rfl, below_step hb1 (Nat.le_refl _) hb2⟩

end Go.Proofs.YtogpicfofifbkaaDoor.LandedT
