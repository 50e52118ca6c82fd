/- The walk of the statement WeaveDeep. -/
import Derived.Test.YtdjhpgpekomjeaaDoorPart6
namespace Go.Proofs.YtdjhpgpekomjeaaDoor
open Go.RowKit
variable {L : World → Prop}

def letters : ByteArray := ⟨#[97, 98, 99, 100, 101, 102, 103, 104, 105, 106, 107, 108]⟩
def incHead : ByteArray := ⟨#[35, 105, 110, 99, 108, 117, 100, 101, 32, 34]⟩
def incTail : ByteArray := ⟨#[34, 32, 120]⟩
def deepText (N : Nat) (b : Int) (i : Nat) : ByteArray :=
  if i + 1 < N then incHead ++ letters.extract (i + 1) (i + 2) ++ incTail
  else if 0 ≤ b then incHead ++ letters.extract b.toNat (b.toNat + 1) ++ ⟨#[34]⟩
  else ⟨#[120]⟩
def deepFile (N : Nat) (b : Int) (i : Nat) : FileV := (letters.extract i (i + 1), deepText N b i)
def deepFiles (N : Nat) (b : Int) (k : Nat) : List FileV := (List.range k).map (deepFile N b)
theorem deep_next (N : Nat) (b : Int) (k : Nat) : filesV (deepFiles N b (k + 1)) = filesV (deepFiles N b k) ++ [.string (letters.extract k (k + 1)), .string (deepText N b k)] := by
  unfold deepFiles filesV
  rw [List.range_succ, List.map_append, List.flatMap_append]
  rfl

def deepB (N c : Nat) : Bool :=
  match weaveOf (deepFiles N ((c : Int) - 1) N) [97] with
  | .error e => if 8 < N then decide (e = (6, 7, (1, 1))) else decide (0 < c) && decide (e = (5, (N : Int) - 1, (1, 1)))
  | .ok l => decide (N ≤ 8) && decide (c = 0) && decide (l.length = N)
theorem deep_check : ((List.range 12).all fun n => (List.range (n + 2)).all fun c => deepB (n + 1) c) = true := by kernel_rfl
theorem deep_any (N : Nat) (b : Int) (h1 : 1 ≤ N) (h2 : N ≤ 12) (h4 : b < N) : deepB N (b + 1).toNat = true := by
  have h := List.all_eq_true.1 deep_check (N - 1) (List.mem_range.2 (by omega))
  have h5 := List.all_eq_true.1 h (b + 1).toNat (List.mem_range.2 (by omega))
  rwa [show N - 1 + 1 = N from by omega] at h5
theorem deep_res (N : Nat) (b : Int) (h1 : 1 ≤ N) (h2 : N ≤ 12) (h3 : -1 ≤ b) (h4 : b < N) :
    (8 < N ∧ weaveOf (deepFiles N b N) [97] = .error (6, 7, (1, 1))) ∨ (N ≤ 8 ∧ 0 ≤ b ∧ weaveOf (deepFiles N b N) [97] = .error (5, (N : Int) - 1, (1, 1))) ∨ (N ≤ 8 ∧ b < 0 ∧ ∃ l, weaveOf (deepFiles N b N) [97] = .ok l ∧ l.length = N) := by
  have h := deep_any N b h1 h2 h4
  unfold deepB at h
  rw [show (((b + 1).toNat : Nat) : Int) - 1 = b from by omega] at h
  cases hv : weaveOf (deepFiles N b N) [97] with
  | error e =>
    rw [hv] at h
    dsimp only at h
    split at h
    · rename_i h8
      exact .inl ⟨h8, by rw [of_decide_eq_true h]⟩
    · rename_i h8
      obtain ⟨h5, h6⟩ := Bool.and_eq_true_iff.1 h
      have := of_decide_eq_true h5
      exact .inr (.inl ⟨by omega, by omega, by rw [of_decide_eq_true h6]⟩)
  | ok l =>
    rw [hv] at h
    dsimp only at h
    obtain ⟨h5, h6⟩ := Bool.and_eq_true_iff.1 h
    obtain ⟨h7, h8⟩ := Bool.and_eq_true_iff.1 h5
    have a1 := of_decide_eq_true h7
    have a2 := of_decide_eq_true h8
    exact .inr (.inr ⟨a1, by omega, l, rfl, of_decide_eq_true h6⟩)
theorem deep_sizes (N : Nat) (b : Int) (k : Nat) : ∀ f ∈ deepFiles N b k, f.1.size ≤ 100000 ∧ f.2.size ≤ 100000 := by
  intro f hf
  obtain ⟨i, _, rfl⟩ := List.mem_map.1 hf
  have hl : letters.size = 12 := rfl
  have hh : incHead.size = 10 := rfl
  have ht : incTail.size = 3 := rfl
  have ho : (⟨#[34]⟩ : ByteArray).size = 1 := rfl
  have hx : (⟨#[120]⟩ : ByteArray).size = 1 := rfl
  refine ⟨?_, ?_⟩
  · show (letters.extract i (i + 1)).size ≤ _
    rw [ByteArray.size_extract]
    omega
  · show (deepText N b i).size ≤ _
    unfold deepText
    split
    · rw [ByteArray.size_append, ByteArray.size_append, ByteArray.size_extract]
      omega
    split
    · rw [ByteArray.size_append, ByteArray.size_append, ByteArray.size_extract]
      omega
    · rw [hx]
      omega

set_option maxRecDepth 100000 in
set_option maxHeartbeats 8000000 in
theorem wdeep_in (R : WeaveSays L) (N : Nat) (b : Int) (w : World) (hw : L w) (h1 : 1 ≤ N) (h2 : N ≤ 12) (h3 : -1 ≤ b) (h4 : b < N) :
    Calls Tryd.prog 3 #[.int .i64 N, .int .i64 b] w fun e w' => e = .returned (.bool true) ∧ Below w.heap.size w w' := by
  obtain ⟨i0, hi, hz0, hz1, hz2⟩ := info_parts Tryd.infoFile
  have hst := store_cx
  have hcx := fun W => eq_cx 0 0 W ord_0 ord_0
  have hc1 := fun W => eq_cx (fl 1) (fl 1) W (ord_fl _) (ord_fl _)
  have f1 := fl_one
  rw [f1] at hc1
  have q1 : decide ((N : Int) < 1) = false := decide_eq_false (by omega)
  have q2 : decide ((12 : Int) < (N : Int)) = false := decide_eq_false (by omega)
  have q3 : decide (b < -1) = false := decide_eq_false (by omega)
  have q4 : decide ((N : Int) ≤ b) = false := decide_eq_false (by omega)
  have H1 : Hid (∀ (A : Option Addr) (c : Nat) (W : World), Below w.heap.size w W → Lies W W.heap.size 2 A N (filesV (deepFiles N b N)) → N ≤ c → Calls Tryd.prog 5 #[.slice A N c, .string ⟨#[97]⟩] W (WeaveRes (weaveOf (deepFiles N b N) [97]) W)) := fun A c W hW h hc => R.tokens A N c (deepFiles N b N) ⟨#[97]⟩ W (R.keep w W hw hW) h hc (by omega) (by decide) (deep_sizes N b N)
  have HD := Lib.hid (deep_res N b h1 h2 h3 h4)
  go_enter Tryd.func3, Tryd.ntmps3
  go_wp2_with fail
  refine (walive_any R _ hw).mono ?_
  rintro r w1 ⟨rfl, hb1⟩
  go_wp2_with fail
  go_loopw [7, 8] (fun v i wr => ∃ k : Nat, k ≤ N ∧ i = .int .i64 k ∧ wr.ownsRow w.heap.size 25 2 v k (filesV (deepFiles N b k)) ∧ Below w.heap.size w wr) (fun _ i _ => N - (intOf i).toNat)
  case atStart => exact ⟨0, by omega, rfl, World.ownsRow_nil _ _ _ _, hb1⟩
  case round =>
    obtain ⟨k, hk, rfl, hown, hnx⟩ := hrel
    by_cases hlt : k < N
    · have w1 : IntKind.i64.wrap ((k : Int) + 1) = (k : Int) + 1 := by rw [IntKind.wrap_i64]; omega
      have w2 : IntKind.i64.wrap ((k : Int) + 2) = (k : Int) + 2 := by rw [IntKind.wrap_i64]; omega
      by_cases hin : k + 1 < N
      · have g1 : (k : Int) + 1 < (N : Int) := by omega
        have HT : Hid (deepText N b k = incHead ++ letters.extract (k + 1) (k + 2) ++ incTail) := by
          unfold deepText Hid
          rw [if_pos hin]
        go_wp2_with (at_builtin; go_loud (refine wpList_append_lit _ rfl (.tmp 59) (.tmp 67) _ rfl w.heap.size 25 i0 _ 2 32 Tryd.underlying23 hi hz0 hz1 hz2 rfl (by omega) _ _ _ rfl hown _ _ 1 1 rfl rfl ?c1 ?c2 ?c3 ?c4 ?_))
        case c1 => simp [Value.oneCell']
        case c2 => unfold maxLen; omega
        case c3 => omega
        case c4 => exact hnx.size
        intro v' w' hown3 hg3
        have hnx3 : Below w.heap.size w w' := below_grown (below_alloc hnx (Nat.le_refl _) _) (hown.alloc _) (Nat.le_refl _) (by have := hnx.size; simp; omega) hg3
        have hown4 : w'.ownsRow w.heap.size 25 2 v' (k + 1) (filesV (deepFiles N b (k + 1))) := by
          rw [deep_next, HT.out]
          exact hown3
        clear hg3 hown hown3 hnx
        go_wp2
        go_roundw
        case rel => exact ⟨k + 1, by omega, by go_num, hown4, hnx3⟩
        case measure => simp [intOf]; omega
      · by_cases hb : 0 ≤ b
        · obtain ⟨B, rfl⟩ := Int.eq_ofNat_of_zero_le hb
          have g1 : ¬ (k : Int) + 1 < (N : Int) := by omega
          have w3 : IntKind.i64.wrap ((B : Int) + 1) = (B : Int) + 1 := by rw [IntKind.wrap_i64]; omega
          have HT : Hid (deepText N B k = incHead ++ letters.extract B (B + 1) ++ ⟨#[34]⟩) := by
            unfold deepText Hid
            rw [if_neg hin, if_pos hb, show ((B : Nat) : Int).toNat = B from rfl]
          go_wp2_with (at_builtin; go_loud (refine wpList_append_lit _ rfl (.tmp 59) (.tmp 67) _ rfl w.heap.size 25 i0 _ 2 32 Tryd.underlying23 hi hz0 hz1 hz2 rfl (by omega) _ _ _ rfl hown _ _ 1 1 rfl rfl ?c1 ?c2 ?c3 ?c4 ?_))
          case c1 => simp [Value.oneCell']
          case c2 => unfold maxLen; omega
          case c3 => omega
          case c4 => exact hnx.size
          intro v' w' hown3 hg3
          have hnx3 : Below w.heap.size w w' := below_grown (below_alloc hnx (Nat.le_refl _) _) (hown.alloc _) (Nat.le_refl _) (by have := hnx.size; simp; omega) hg3
          have hown4 : w'.ownsRow w.heap.size 25 2 v' (k + 1) (filesV (deepFiles N B (k + 1))) := by
            rw [deep_next, HT.out]
            exact hown3
          clear hg3 hown hown3 hnx
          go_wp2
          go_roundw
          case rel => exact ⟨k + 1, by omega, by go_num, hown4, hnx3⟩
          case measure => simp [intOf]; omega
        · have g1 : ¬ (k : Int) + 1 < (N : Int) := by omega
          have HT : Hid (deepText N b k = ⟨#[120]⟩) := by
            unfold deepText Hid
            rw [if_neg hin, if_neg hb]
          go_wp2_with (at_builtin; go_loud (refine wpList_append_lit _ rfl (.tmp 59) (.tmp 67) _ rfl w.heap.size 25 i0 _ 2 32 Tryd.underlying23 hi hz0 hz1 hz2 rfl (by omega) _ _ _ rfl hown _ _ 1 1 rfl rfl ?c1 ?c2 ?c3 ?c4 ?_))
          case c1 => simp [Value.oneCell']
          case c2 => unfold maxLen; omega
          case c3 => omega
          case c4 => exact hnx.size
          intro v' w' hown3 hg3
          have hnx3 : Below w.heap.size w w' := below_grown (below_alloc hnx (Nat.le_refl _) _) (hown.alloc _) (Nat.le_refl _) (by have := hnx.size; simp; omega) hg3
          have hown4 : w'.ownsRow w.heap.size 25 2 v' (k + 1) (filesV (deepFiles N b (k + 1))) := by
            rw [deep_next, HT.out]
            exact hown3
          clear hg3 hown hown3 hnx
          go_wp2
          go_roundw
          case rel => exact ⟨k + 1, by omega, by go_num, hown4, hnx3⟩
          case measure => simp [intOf]; omega
    · obtain rfl : k = N := by omega
      obtain ⟨A2, c2, rfl, hc2, hl2⟩ := own_form hown
      clear hown
      go_wp2_with fail
      refine (H1.out A2 c2 _ hnx hl2 hc2).mono ?_
      intro r w3 h3
      rcases HD.out with ⟨h8, e⟩ | ⟨h8, hb0, e⟩ | ⟨h8, hb0, l, e, hll⟩
      · rw [e] at h3
        obtain ⟨A3, c3, rfl, hb3⟩ := wres_bad h3
        have HN := Lib.hid (below_step hnx (Nat.le_refl _) hb3)
        have g1 : (8 : Int) < (k : Int) := by omega
        clear h3 hnx hb3 hl2 e
        dsimp only [faultCells]
        rw [show (((1 : Nat) : Int)) = 1 from rfl, f1]
        go_wp2
        go_ret
        exact ⟨by simp, below_alloc HN.out (Nat.le_refl _) _⟩
      · rw [e] at h3
        obtain ⟨A3, c3, rfl, hb3⟩ := wres_bad h3
        have HN := Lib.hid (below_step hnx (Nat.le_refl _) hb3)
        have g1 : ¬ (8 : Int) < (k : Int) := by omega
        have w4 : IntKind.i64.wrap ((k : Int) - 1) = (k : Int) - 1 := by rw [IntKind.wrap_i64]; omega
        clear h3 hnx hb3 hl2 e
        dsimp only [faultCells]
        rw [show (((1 : Nat) : Int)) = 1 from rfl, f1]
        go_wp2
        go_ret
        exact ⟨by simp, below_alloc HN.out (Nat.le_refl _) _⟩
      · rw [e] at h3
        obtain ⟨A3, c3, rfl, _, _, hb3⟩ := wres_ok h3
        have HN := Lib.hid (below_step hnx (Nat.le_refl _) hb3)
        have g1 : ¬ (8 : Int) < (k : Int) := by omega
        have g2 : ¬ (0 : Int) ≤ b := by omega
        have g3 : (l.length : Int) = (k : Int) := by omega
        clear h3 hnx hb3 hl2 e
        dsimp only [faultCells]
        go_wp2
        go_ret
        exact ⟨by simp, below_alloc HN.out (Nat.le_refl _) _⟩

set_option maxRecDepth 100000 in
set_option maxHeartbeats 2000000 in
theorem wdeep_any (R : WeaveSays L) (n b : Int) (w : World) (hw : L w) :
    Calls Tryd.prog 3 #[.int .i64 n, .int .i64 b] w fun e w' => e = .returned (.bool true) ∧ Below w.heap.size w w' := by
  by_cases h : 1 ≤ n ∧ n ≤ 12 ∧ -1 ≤ b ∧ b < n
  · obtain ⟨h1, h2, h3, h4⟩ := h
    obtain ⟨N, rfl⟩ := Int.eq_ofNat_of_zero_le (show 0 ≤ n by omega)
    exact wdeep_in R N b w hw (by omega) (by omega) h3 h4
  · have hq : (decide (n < 1) || decide (12 < n) || decide (b < -1) || decide (n ≤ b)) = true := by
      simp only [Bool.or_eq_true, decide_eq_true_eq]
      omega
    clear h
    go_enter Tryd.func3, Tryd.ntmps3
    go_wp2_with fail
    refine (walive_any R _ hw).mono ?_
    rintro r w1 ⟨rfl, hb1⟩
    go_wp2
    all_goals (go_ret; exact ⟨rfl, hb1⟩)

end Go.Proofs.YtdjhpgpekomjeaaDoor
