/- Texts of mine put together (a claim has at most so many files): TreeDepth, CallVal. -/
import Derived.Test.YtogpicfofifbkaaGreatDoorTreePlain
import Derived.Test.YtogpicfofifbkaaGreatDoorPart3
import Derived.Test.YtogpicfofifbkaaGreatDoorChecked
import Derived.Test.YtogpicfofifbkaaGreatDoorCallTab
import Derived.Test.YtogpicfofifbkaaGreatDoorPart2
/- What the document's own Depth gives. -/
namespace Go.Proofs.YtogpicfofifbkaaGreatDoor
open Go.RowKit

def Deeper (e : Ex) (ks : List Ex) (w : World) (n i : Value) (wr : World) : Prop :=
  (∃ k : Nat, k ≤ ks.length ∧ i = .int .i64 k ∧ n = .int .i64 (depthsOf 0 (ks.take k) : Nat)) ∧ Below w.heap.size w wr ∧ Box wr w.heap.size 25 e.cells.toArray

set_option maxRecDepth 100000 in
set_option maxHeartbeats 1000000 in
theorem refDepth_any (e : Ex) (hs : ExSmall e) : ∀ w : World, ExIn w w.heap.size e → depthOf e ≤ 1099511627776 → Calls Tryz.prog 14 #[e.val] w (Quietly (.int .i64 (depthOf e : Nat)) w) := by
  induction hs with
  | @mk kd op nm nu A c ks ho hn hk all ih =>
  intro w hin hd
  have hks := hin.kids
  rw [depth_node] at hd ⊢
  obtain ⟨V, hV⟩ : ∃ V, V = depthsOf 0 ks := ⟨_, rfl⟩
  rw [← hV]
  have HV := Lib.hid hV
  clear hV
  unfold Ex.val
  simp only
  go_enter Tryz.func14, Tryz.ntmps14
  go_wp2
  go_loopw [3, 4] (fun n i wr => Deeper (.node kd op nm nu A c ks) ks w n i wr) (fun _ i _ => ks.length - (intOf i).toNat)
  case atStart => exact ⟨⟨0, Nat.zero_le _, rfl, rfl⟩, boxed _ _, Box.new _ _ _⟩
  case round =>
    obtain ⟨⟨k, hkl, rfl, rfl⟩, hnx, hbx⟩ := hrel
    have HB := Lib.hid hbx
    obtain ⟨_, _, _, q3, q4, q5⟩ := box_ex (show Box wr w.heap.size 25 #[.int .i64 kd, .string op, .string nm, .int .u64 nu, .slice A ks.length c] from hbx)
    clear hbx
    have hdt := depths_take ks 0 k
    by_cases hlt : k < ks.length
    · obtain ⟨b, o, kd0, op0, nm0, nu0, A0, c0, ks0, rfl, hb, hx, hin0, hm, e0, e1, e2, e3, e4⟩ := (hks.mono hnx (Q := ExIn w w.heap.size) fun _ _ h => h).ex hlt
      have hsn := depths_snoc (ks.take k) 0 (.node kd0 op0 nm0 nu0 A0 c0 ks0)
      rw [← take_one hx] at hsn
      have hdk := (depths_ge ks 0).2 _ hm
      have HI := Lib.hid (ih _ hm wr (hin0.next hnx) (by omega))
      obtain ⟨D, hD⟩ : ∃ D, D = depthOf (.node kd0 op0 nm0 nu0 A0 c0 ks0) := ⟨_, rfl⟩
      obtain ⟨M, hM⟩ : ∃ M, M = depthsOf 0 (ks.take k) := ⟨_, rfl⟩
      rw [← hD] at hsn hdk HI
      rw [← hM] at hsn hdt ⊢
      have HS := Lib.hid hsn
      unfold Ex.val at HI
      simp only at HI
      clear hsn hD hM hx hin0 hm hks hin ih all
      by_cases hgt : M < D
      · have HN : Hid (depthsOf 0 (ks.take (k + 1)) = D) := by unfold Hid; rw [HS.out, if_pos hgt]
        go_wp2_with fail
        refine (HI.out).mono ?_
        rintro r w2 ⟨rfl, hb2⟩
        go_wp2
        go_roundw
        case rel => exact ⟨⟨k + 1, by omega, by go_num, by rw [HN.out]⟩, below_step hnx (Nat.le_refl _) hb2, HB.out.step hb2⟩
        case measure => simp [intOf]; omega
      · have HN : Hid (depthsOf 0 (ks.take (k + 1)) = M) := by unfold Hid; rw [HS.out, if_neg hgt]
        go_wp2_with fail
        refine (HI.out).mono ?_
        rintro r w2 ⟨rfl, hb2⟩
        go_wp2
        go_roundw
        case rel => exact ⟨⟨k + 1, by omega, by go_num, by rw [HN.out]⟩, below_step hnx (Nat.le_refl _) hb2, HB.out.step hb2⟩
        case measure => simp [intOf]; omega
    · obtain rfl : k = ks.length := by omega
      have HN : Hid (depthsOf 0 (ks.take ks.length) = depthsOf 0 ks) := by unfold Hid; rw [List.take_length]
      rw [HN.out, ← HV.out]
      rw [← HV.out] at hd
      clear HN hdt hin hks ih all
      go_wp2
      go_ret
      exact ⟨by go_num, hnx⟩

end Go.Proofs.YtogpicfofifbkaaGreatDoor

/- What the document's own Value gives. -/
namespace Go.Proofs.YtogpicfofifbkaaGreatDoor
open Go.RowKit

set_option maxRecDepth 100000 in
set_option maxHeartbeats 2000000 in
theorem refValue_any (k d : Int) (w : World) (d0 : -9223372036854775808 ≤ d) (d1 : d ≤ 9223372036854775807) : Calls Tryz.prog 39 #[.agg #[.int .i64 k, .int .i64 d]] w (U32Bool (valueOf k d) w) := by
  by_cases hk : k = 3 ∨ k = 4 ∨ k = 5
  · by_cases h0 : d < 0
    · have hv : valueOf k d = (0, false) := by unfold valueOf; rw [if_pos hk, if_neg (by omega)]
      rw [hv]
      clear hv
      rcases hk with rfl | rfl | rfl
      all_goals
        go_enter Tryz.func39, Tryz.ntmps39
        go_wp2
        go_ret2
        exact ⟨rfl, (Below.refl _ _).alloc (Nat.le_refl _) _⟩
    by_cases h1 : 65535 < d
    · have hv : valueOf k d = (0, false) := by unfold valueOf; rw [if_pos hk, if_neg (by omega)]
      rw [hv]
      clear hv
      rcases hk with rfl | rfl | rfl
      all_goals
        go_enter Tryz.func39, Tryz.ntmps39
        go_wp2
        go_ret2
        exact ⟨rfl, (Below.refl _ _).alloc (Nat.le_refl _) _⟩
    · have hv : valueOf k d = ((if k = 3 then 196608 else if k = 4 then 327680 else 2146435072) + d, true) := by unfold valueOf; rw [if_pos hk, if_pos (by omega)]
      rw [hv]
      clear hv
      rcases hk with rfl | rfl | rfl
      all_goals
        go_enter Tryz.func39, Tryz.ntmps39
        go_wp2
        go_ret2
        refine ⟨?_, (Below.refl _ _).alloc (Nat.le_refl _) _⟩
        simp
        try omega
  by_cases hj : k = 1 ∨ k = 2 ∨ k = 6 ∨ k = 7
  · by_cases h0 : d = 0
    · subst h0
      have hv : valueOf k 0 = (if k = 1 then 2147483648 else if k = 2 then 0 else if k = 6 then 2147221504 else 2147418112, true) := by unfold valueOf; rw [if_neg hk, if_pos hj, if_pos rfl]
      rw [hv]
      clear hv hk
      rcases hj with rfl | rfl | rfl | rfl
      all_goals
        go_enter Tryz.func39, Tryz.ntmps39
        go_wp2
        go_ret2
        exact ⟨rfl, (Below.refl _ _).alloc (Nat.le_refl _) _⟩
    · have hv : valueOf k d = (0, false) := by unfold valueOf; rw [if_neg hk, if_pos hj, if_neg h0]
      have b0 : (d == 0) = false := by simpa using h0
      rw [hv]
      clear hv hk
      rcases hj with rfl | rfl | rfl | rfl
      all_goals
        go_enter Tryz.func39, Tryz.ntmps39
        go_wp2
        go_ret2
        exact ⟨rfl, (Below.refl _ _).alloc (Nat.le_refl _) _⟩
  · have hv : valueOf k d = (0, false) := by unfold valueOf; rw [if_neg hk, if_neg hj]
    rw [hv]
    clear hv
    simp only [not_or] at hk hj
    have b1 : (k == 1) = false := by simpa using hj.1
    have b2 : (k == 2) = false := by simpa using hj.2.1
    have b6 : (k == 6) = false := by simpa using hj.2.2.1
    have b7 : (k == 7) = false := by simpa using hj.2.2.2
    have b3 : (k == 3) = false := by simpa using hk.1
    have b4 : (k == 4) = false := by simpa using hk.2.1
    have b5 : (k == 5) = false := by simpa using hk.2.2
    clear hk hj
    go_enter Tryz.func39, Tryz.ntmps39
    go_wp2
    go_ret2
    exact ⟨rfl, (Below.refl _ _).alloc (Nat.le_refl _) _⟩

end Go.Proofs.YtogpicfofifbkaaGreatDoor
