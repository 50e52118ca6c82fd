/- What the landed alike, has, isOp, taken, Name and told give. Condition: what the start lays of bytealg.MaxLen. -/
import Derived.Test.YtogpicfofifbkaaDoorTreeTold
import Derived.Test.YtogpicfofifbkaaDoorTreeName
import Derived.Test.YtogpicfofifbkaaDoorTreeLib
import Derived.Test.YtogpicfofifbkaaDoorTreeExpr
import Derived.OwnWalk
namespace Go.Proofs.YtogpicfofifbkaaDoor.LandedT
open Go.RowKit

/-- Whether two are the same but for their kids. -/
def alikeB : Ex → Ex → Bool
  | .node kd op nm nu _ _ _, .node kd' op' nm' nu' _ _ _ => kd == kd' && (op.toList == op'.toList && (nm.toList == nm'.toList && nu == nu'))

theorem two_below (w : World) (a b : Obj) : Below w.heap.size w ((w.alloc a).alloc b) := below_alloc (boxed w a) (Nat.le_refl _) b

set_option maxRecDepth 100000 in
set_option maxHeartbeats 1000000 in
theorem alikeF_any (e f : Ex) (w : World) : Calls Tryd.prog 42 #[e.val, f.val] w (Quietly (.bool (alikeB e f)) w) := by
  obtain ⟨kd, op, nm, nu, A, c, ks⟩ := e
  obtain ⟨kd', op', nm', nu', A', c', ks'⟩ := f
  unfold alikeB Ex.val
  simp only
  have HN := Lib.hid (two_below w (.cells #[.int .i64 kd, .string op, .string nm, .int .u64 nu, .slice A ks.length c] 26) (.cells #[.int .i64 kd', .string op', .string nm', .int .u64 nu', .slice A' ks'.length c'] 26))
  cases h1 : (kd == kd') <;> cases h2 : (op.toList == op'.toList) <;> cases h3 : (nm.toList == nm'.toList) <;> cases h4 : (nu == nu')
  all_goals
    go_enter Tryd.func42, Tryd.ntmps42
    go_wp2
    go_ret
    exact ⟨rfl, HN.out⟩

set_option maxRecDepth 100000 in
set_option maxHeartbeats 1000000 in
theorem has_any (e f : Ex) (k : Nat) (w : World) : Calls Tryd.prog 25 #[e.val, f.val, .int .i64 (k : Int)] w (Quietly (.bool (alikeB e f && e.kids.length == k)) w) := by
  have HC := Lib.hid (fun W => alikeF_any e f W)
  obtain ⟨B, hB⟩ : ∃ B, B = alikeB e f := ⟨_, rfl⟩
  rw [← hB] at HC ⊢
  clear hB
  obtain ⟨kd, op, nm, nu, A, c, ks⟩ := e
  obtain ⟨kd', op', nm', nu', A', c', ks'⟩ := f
  unfold Ex.val Ex.kids at *
  simp only at HC ⊢
  have hn := two_below w (.cells #[.int .i64 kd, .string op, .string nm, .int .u64 nu, .slice A ks.length c] 26) (.cells #[.int .i64 kd', .string op', .string nm', .int .u64 nu', .slice A' ks'.length c'] 26)
  have hk : (((ks.length : Int) == (k : Int))) = (ks.length == k) := by
    by_cases h : ks.length = k
    · simp [h]
    · rw [beq_eq_false_iff_ne.2 h, beq_eq_false_iff_ne.2 (by omega)]
  clear hn
  have HN := Lib.hid (two_below w (.cells #[.int .i64 kd, .string op, .string nm, .int .u64 nu, .slice A ks.length c] 26) (.cells #[.int .i64 kd', .string op', .string nm', .int .u64 nu', .slice A' ks'.length c'] 26))
  have HBX := Lib.hid ((Box.new w 26 #[.int .i64 kd, .string op, .string nm, .int .u64 nu, .slice A ks.length c]).alloc (.cells #[.int .i64 kd', .string op', .string nm', .int .u64 nu', .slice A' ks'.length c'] 26))
  cases B
  · go_enter Tryd.func25, Tryd.ntmps25
    go_wp2_with fail
    refine (HC.out _).mono ?_
    rintro r w1 ⟨rfl, hb1⟩
    go_wp2
    go_ret
    exact ⟨rfl, below_step HN.out (Nat.le_refl _) hb1⟩
  · go_enter Tryd.func25, Tryd.ntmps25
    go_wp2_with fail
    refine (HC.out _).mono ?_
    rintro r w1 ⟨rfl, hb1⟩
    obtain ⟨q0, q1, q2, q3, q4, q5⟩ := box_ex (HBX.out.step hb1)
    clear q0 q1 q2 q3
    go_wp2
    go_ret
    exact ⟨ret_bool (by simp), below_step HN.out (Nat.le_refl _) hb1⟩

/-! ### isOp, Name -/
set_option maxRecDepth 100000 in
set_option maxHeartbeats 1000000 in
theorem isOp_any (s : ByteArray) (w : World) : Calls Tryd.prog 26 #[.string s] w fun e w' => e = .returned (.bool (opOf s.data.toList != 0)) ∧ w' = w := by
  rcases op_kinds s with ⟨h, e⟩ | ⟨h, e⟩ | ⟨h, e⟩ | ⟨h, e⟩ | ⟨h, e⟩ | ⟨h, e⟩ | ⟨⟨h1, h2, h3, h4, h5, h6⟩, e⟩
  all_goals
    rw [e]
    clear e
    go_enter Tryd.func26, Tryd.ntmps26
    go_wp2
    go_ret
    exact ⟨rfl, rfl⟩

theorem nameL_cons (c : UInt8) (r : List UInt8) : nameL (c :: r) = (!digB c && ((c :: r).all wordB && !(barred.any (· == c :: r)))) := by
  have h : nameL (c :: r) = (letterB c && (c :: r).all wordB && !(barred.any (· == c :: r))) := rfl
  rw [h, word_first, List.all_cons]
  cases wordB c <;> cases digB c <;> simp

theorem trimmed_none (l : List UInt8) : ((strOf (l.dropWhile (inWordL.contains ·))).toList == []) = l.all wordB := by
  rw [strOf_toList]
  have h : (fun x => inWordL.contains x) = wordB := funext in_word
  rw [h]
  cases hd : l.dropWhile wordB with
  | nil =>
    have := drop_all wordB l
    rw [hd] at this
    rw [← this]
  | cons a r =>
    have := drop_all wordB l
    rw [hd] at this
    rw [← this]

set_option maxRecDepth 100000 in
set_option maxHeartbeats 1000000 in
theorem name_some (s : ByteArray) (c : UInt8) (r : List UInt8) (hl : s.data.toList = c :: r) (w : World) : Calls Tryd.prog 10 #[.string s] w (Quietly (.bool (nameL (c :: r))) w) := by
  have htl : s.toList = c :: r := (ByteArray.toList_eq s).trans hl
  have hsz : s.size = s.data.toList.length := by rw [Array.length_toList]; rfl
  have HTR : Hid (∀ W, Calls Tryd.prog 22 #[.string s, .string ⟨#[48, 49, 50, 51, 52, 53, 54, 55, 56, 57, 97, 98, 99, 100, 101, 102, 103, 104, 105, 106, 107, 108, 109, 110, 111, 112, 113, 114, 115, 116, 117, 118, 119, 120, 121, 122, 65, 66, 67, 68, 69, 70, 71, 72, 73, 74, 75, 76, 77, 78, 79, 80, 81, 82, 83, 84, 85, 86, 87, 88, 89, 90, 95]⟩] W
    fun e w' => ∃ x : ByteArray, e = .returned (.string x) ∧ (x.toList == []) = (c :: r).all wordB ∧ Below W.heap.size W w') := fun W => (trim_words s W).mono fun e w' ⟨h1, h2⟩ => ⟨_, h1, by rw [trimmed_none, hl], h2⟩
  have HTK : Hid (∀ W, Calls Tryd.prog 23 #[.string s] W fun e w' => e = .returned (.bool (barred.any (· == c :: r))) ∧ w' = W) := fun W => by
    have := taken_any s W
    rw [hl] at this
    exact this
  have HD : Hid (∀ W, Calls Tryd.prog 21 #[.string ⟨#[48, 49, 50, 51, 52, 53, 54, 55, 56, 57]⟩, .string ⟨#[c]⟩] W fun e w' => e = .returned (.bool (digB c)) ∧ W = w') := fun W => digits_has c W
  have h0 : (s.toList == []) = false := by rw [htl]; rfl
  have hx : s.extract 0 1 = ⟨#[c]⟩ := by
    apply Go.WideShapes.bytes_inj
    rw [Go.Lib.extract_eq, hl]
    simp
  have h1 : (1 : Int) ≤ (s.size : Int) := by rw [hsz, hl, List.length_cons]; omega
  rw [nameL_cons]
  clear htl hl hsz
  generalize (c :: r).all wordB = a at *
  generalize (barred.any (· == c :: r)) = k at *
  generalize digB c = d at *
  cases d
  · cases a
    · go_enter Tryd.func10, Tryd.ntmps10
      go_wp2_with fail
      refine (HD.out _).mono ?_
      rintro e w1 ⟨rfl, rfl⟩
      go_wp2_with fail
      refine (HTR.out _).mono ?_
      rintro e w2 ⟨x, rfl, hx0, hb2⟩
      go_wp2
      go_ret
      exact ⟨rfl, hb2⟩
    · go_enter Tryd.func10, Tryd.ntmps10
      go_wp2_with fail
      refine (HD.out _).mono ?_
      rintro e w1 ⟨rfl, rfl⟩
      go_wp2_with fail
      refine (HTR.out _).mono ?_
      rintro e w2 ⟨x, rfl, hx0, hb2⟩
      go_wp2_with fail
      refine (HTK.out _).mono ?_
      rintro e w3 ⟨rfl, rfl⟩
      go_wp2
      go_ret
      exact ⟨rfl, hb2⟩
  · go_enter Tryd.func10, Tryd.ntmps10
    go_wp2_with fail
    refine (HD.out _).mono ?_
    rintro e w1 ⟨rfl, rfl⟩
    go_wp2
    go_ret
    exact ⟨rfl, Below.refl _ _⟩

set_option maxRecDepth 100000 in
theorem name_any (s : ByteArray) (w : World) : Calls Tryd.prog 10 #[.string s] w (Quietly (.bool (nameOk s)) w) := by
  have hno : nameOk s = nameL s.data.toList := rfl
  rw [hno]
  cases hl : s.data.toList with
  | nil =>
    have h0 : (s.toList == []) = true := by rw [ByteArray.toList_eq, hl]; rfl
    unfold nameL
    clear hno hl
    go_enter Tryd.func10, Tryd.ntmps10
    go_wp2
    go_ret
    exact ⟨rfl, Below.refl _ _⟩
  | cons c r => exact name_some s c r hl w

end Go.Proofs.YtogpicfofifbkaaDoor.LandedT
