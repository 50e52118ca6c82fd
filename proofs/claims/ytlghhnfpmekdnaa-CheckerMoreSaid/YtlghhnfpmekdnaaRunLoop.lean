/- What a run of the document's own machine gives: the walk. -/
import Derived.Test.YtlghhnfpmekdnaaRun
import Derived.BigQuiet
namespace Go.Proofs.Ytlghhnfpmekdnaa
open Go.RowKit

/-- Where the loop stands. -/
def Runs (n : Nat) (l : List Ins) (d : Dat) (R : Int × Nat × Bool) (w : World) (at' i : Value) (wr : World) : Prop :=
  ∃ (k p : Nat) (s : Mac), k ≤ 4096 ∧ i = .int .i64 k ∧ at' = .int .i64 p ∧ p ≤ 2 * n + 1 ∧ s.Ok ∧ Box wr w.heap.size 34 d.cells ∧ Box wr (w.heap.size + 1) 57 s.vals ∧ Below w.heap.size w wr ∧ runFrom l d (4096 - k) k p s = R

set_option maxRecDepth 100000 in
set_option maxHeartbeats 8000000 in
theorem refRun_any (A : Option Addr) (n c : Nat) (l : List Ins) (d : Dat) (w : World) (hl : Lies w w.heap.size 4 A n (cellsOf l)) (hok : ∀ y ∈ l, y.Ok) (hd : d.Ok) (hn : n ≤ 4398046511104) :
    Calls Try.prog 14 #[.slice A n c, d.val] w (Ran (runOf l d) w) := by
  have hln : l.length = n := by have := hl.1; rw [cells_len] at this; omega
  obtain ⟨R, hR⟩ : ∃ R, R = runOf l d := ⟨_, rfl⟩
  have HR : Hid (runFrom l d 4096 0 0 Mac.zero = R) := hR.symm
  rw [← hR]
  clear hR
  have HOK := Lib.hid hok
  have HD := Lib.hid hd
  clear hok hd
  unfold Dat.val
  go_enter Try.func14, Try.ntmps14
  go_wp2
  go_loopw [8, 9] (fun at' i wr => Runs n l d R w at' i wr) (fun _ i _ => 4096 - (intOf i).toNat)
  case atStart =>
    have hst := Box.new (w.alloc (.cells d.cells 34)) 57 Mac.zero.vals
    rw [show (w.alloc (.cells d.cells 34)).heap.size = w.heap.size + 1 from by simp] at hst
    exact ⟨0, 0, Mac.zero, by omega, rfl, rfl, by omega, Mac.zero_ok, (Box.new w _ _).alloc _, hst, ((Below.refl _ _).alloc (Nat.le_refl _) _).alloc (by simp) _, HR.out⟩
  case round =>
    obtain ⟨k, p, s, hk, rfl, rfl, hp, hs, hbd, hbs, hnx, hrun⟩ := hrel
    have hgl := hbs.lt
    have hgd := hbd.lt
    have HS := Lib.hid hs
    have HBD := Lib.hid hbd
    have HBS := Lib.hid hbs
    have HRUN := Lib.hid hrun
    have q0 : wr.cell? ⟨w.heap.size + 1, 0, none⟩ = some (.int .u32 s.a) := hbs.cell 0
    have q1 : wr.cell? ⟨w.heap.size + 1, 1, none⟩ = some (.int .u32 s.x) := hbs.cell 1
    clear hs hbd hbs hrun
    by_cases hkl : k < 4096
    · by_cases hpl : p < n
      · obtain ⟨b, o, x, rfl, hb, hx, e0, e1, e2, e3⟩ := (hl.below hnx).ins hpl
        have HX := Lib.hid hx
        have XO := HOK.out x (List.mem_of_getElem? hx)
        have k0 := XO.k0
        have k1 := XO.k1
        have t0 := XO.t0
        have t1 := XO.t1
        have f0 := XO.f0
        have f1 := XO.f1
        clear XO hx
        by_cases c6 : x.code = 6
        · have hR : R = (x.k, k + 1, true) := run_end HRUN.out hkl (by unfold stepOf; rw [HX.out]; simp [c6])
          have q6 : (x.code == 6) = true := by rw [c6]; rfl
          clear c6
          go_wp2
          go_ret3
          exact ⟨by rw [hR]; rfl, hnx.alloc (by omega) _⟩
        · have q6 : (x.code == 6) = false := by rw [beq_eq_false_iff_ne]; exact c6
          by_cases c22 : x.code = 22
          · have hR : R = (s.a, k + 1, true) := run_end HRUN.out hkl (by unfold stepOf; rw [HX.out]; simp [c22])
            have q22 : (x.code == 22) = true := by rw [c22]; rfl
            clear c6 c22
            go_wp2
            go_ret3
            exact ⟨by rw [hR]; rfl, hnx.alloc (by omega) _⟩
          · have q22 : (x.code == 22) = false := by rw [beq_eq_false_iff_ne]; exact c22
            by_cases c5 : x.code = 5
            · have q5 : (x.code == 5) = true := by rw [c5]; rfl
              by_cases hfar : (n : Int) < x.k
              · have hs1 : stepOf l d p s = .inr (n, s) := by unfold stepOf; rw [HX.out, hln]; simp [c5, hfar]
                have HNX := Lib.hid (run_on HRUN.out hkl hs1)
                clear c6 c22 c5 hs1
                go_wp2
                go_roundw
                case rel => exact ⟨k + 1, n, s, by omega, by go_num, rfl, by omega, HS.out, HBD.out.alloc _, HBS.out.alloc _, hnx.alloc (by omega) _, HNX.out⟩
                case measure => simp [intOf]; omega
              · have hs1 : stepOf l d p s = .inr (p + 1 + x.k.toNat, s) := by unfold stepOf; rw [HX.out, hln]; simp [c5, hfar]
                have HNX := Lib.hid (run_on HRUN.out hkl hs1)
                clear c6 c22 c5 hs1
                go_wp2
                go_roundw
                case rel => exact ⟨k + 1, p + 1 + x.k.toNat, s, by omega, by go_num, by go_num, by omega, HS.out, HBD.out.alloc _, HBS.out.alloc _, hnx.alloc (by omega) _, HNX.out⟩
                case measure => simp [intOf]; omega
            · have q5 : (x.code == 5) = false := by rw [beq_eq_false_iff_ne]; exact c5
              by_cases hj : isJump x.code = true
              · have HJ := Lib.hid hj
                have ho := other_bd s x.code x.k HS.out k0 k1
                obtain ⟨O, hO⟩ : ∃ O, O = other s x.code x.k := ⟨_, rfl⟩
                have HW : Hid (∀ m : Nat, Calls Try.prog 25 #[.pointer (some ⟨w.heap.size + 1, 0, none⟩), .int .i64 x.code, .int .u32 x.k] ((wr.alloc (.cells #[.int .i64 x.code, .int .i64 x.jt, .int .i64 x.jf, .int .u32 x.k] 39)).drewN m) fun e w' => e = .returned (.int .u32 O) ∧ w' = (wr.alloc (.cells #[.int .i64 x.code, .int .i64 x.jt, .int .i64 x.jf, .int .u32 x.k] 39)).drewN m) :=
                  fun m => (with_any (w.heap.size + 1) s x.code x.k _ ((HBS.out.alloc _).drewN m) HJ.out).mono fun _ _ ⟨h1, h2⟩ => ⟨by rw [h1, hO], h2.symm⟩
                have HT : Hid (∀ J : Int, (if jumpOf x.code s.a O then x.jt else x.jf) = J → stepOf l d p s = .inr (jumpTo n (p + 1) J, s)) := by
                  intro J hJ
                  unfold stepOf
                  rw [HX.out, hln, ← hJ, hO]
                  simp [c6, c22, c5, HJ.out]
                clear c6 c22 c5 hj hO ho
                obtain ⟨T, hT⟩ : ∃ T, T = jumpOf x.code s.a O := ⟨_, rfl⟩
                have HC : Hid (∀ m : Nat, Calls Try.prog 24 #[.int .i64 x.code, .int .u32 s.a, .int .u32 O] ((wr.alloc (.cells #[.int .i64 x.code, .int .i64 x.jt, .int .i64 x.jf, .int .u32 x.k] 39)).drewN m) fun e w' => e = .returned (.bool T) ∧ w' = (wr.alloc (.cells #[.int .i64 x.code, .int .i64 x.jt, .int .i64 x.jf, .int .u32 x.k] 39)).drewN m) :=
                  fun m => (jumps_any x.code s.a O _ HJ.out).mono fun _ _ ⟨h1, h2⟩ => ⟨by rw [h1, hT], h2.symm⟩
                rw [← hT] at HT
                clear hT
                go_wp2_with fail
                refine (isJump_any _ _).mono ?_
                rw [HJ.out]
                rintro r w1 ⟨rfl, rfl⟩
                go_wp2
                go_quiet (first | ((go_at_call 25; exact Calls.quiet_of_same (HW.out _))) | ((go_at_call 24; exact Calls.quiet_of_same (HC.out _))))
                have hno : 0 ≤ (p : Int) + 1 := by omega
                have JF : Hid (∀ J : Int, n < J → jumpTo n (p + 1) J = n) := fun J h => by unfold jumpTo; rw [if_pos (.inr h)]
                have JB : Hid (∀ J : Int, J < 0 → (p : Int) + 1 + J < 0 → jumpTo n (p + 1) J = n) := fun J h1 h2 => by unfold jumpTo; rw [if_pos (.inl ⟨h1, by omega⟩)]
                have JN : Hid (∀ J : Int, J ≤ n → 0 ≤ (p : Int) + 1 + J → jumpTo n (p + 1) J = ((p : Int) + 1 + J).toNat) := fun J h1 h2 => by
                  unfold jumpTo
                  rw [if_neg (by omega)]
                  omega
                have HB1 : Hid (Box ((wr.alloc (.cells #[.int .i64 x.code, .int .i64 x.jt, .int .i64 x.jf, .int .u32 x.k] 39)).drewN nq) w.heap.size 34 d.cells) := (HBD.out.alloc _).drewN _
                have HB2 : Hid (Box ((wr.alloc (.cells #[.int .i64 x.code, .int .i64 x.jt, .int .i64 x.jf, .int .u32 x.k] 39)).drewN nq) (w.heap.size + 1) 57 s.vals) := (HBS.out.alloc _).drewN _
                have HB3 : Hid (Below w.heap.size w ((wr.alloc (.cells #[.int .i64 x.code, .int .i64 x.jt, .int .i64 x.jf, .int .u32 x.k] 39)).drewN nq)) := below_drewN (hnx.alloc (by omega) _) _
                clear q0 q1 hno
                cases T with
                  | true =>
                    rcases (show (0 ≤ x.jt ∧ x.jt ≤ n) ∨ ((n : Int) < x.jt) ∨ (x.jt < 0 ∧ (p : Int) + 1 + x.jt < 0) ∨ (x.jt < 0 ∧ 0 ≤ (p : Int) + 1 + x.jt) from by omega) with h | h | h | h
                    · have HNX := Lib.hid (run_on HRUN.out hkl ((HT.out x.jt rfl).trans (by rw [JN.out x.jt h.2 (by omega)])))
                      go_wp2
                      go_roundw
                      case rel => exact ⟨k + 1, ((p : Int) + 1 + x.jt).toNat, s, by omega, by go_num, by go_num, by omega, HS.out, HB1.out, HB2.out, HB3.out, HNX.out⟩
                      case measure => simp [intOf]; omega
                    · have HNX := Lib.hid (run_on HRUN.out hkl ((HT.out x.jt rfl).trans (by rw [JF.out x.jt h])))
                      go_wp2
                      go_roundw
                      case rel => exact ⟨k + 1, n, s, by omega, by go_num, rfl, by omega, HS.out, HB1.out, HB2.out, HB3.out, HNX.out⟩
                      case measure => simp [intOf]; omega
                    · have HNX := Lib.hid (run_on HRUN.out hkl ((HT.out x.jt rfl).trans (by rw [JB.out x.jt h.1 h.2])))
                      go_wp2
                      go_roundw
                      case rel => exact ⟨k + 1, n, s, by omega, by go_num, rfl, by omega, HS.out, HB1.out, HB2.out, HB3.out, HNX.out⟩
                      case measure => simp [intOf]; omega
                    · have HNX := Lib.hid (run_on HRUN.out hkl ((HT.out x.jt rfl).trans (by rw [JN.out x.jt (by omega) h.2])))
                      go_wp2
                      go_roundw
                      case rel => exact ⟨k + 1, ((p : Int) + 1 + x.jt).toNat, s, by omega, by go_num, by go_num, by omega, HS.out, HB1.out, HB2.out, HB3.out, HNX.out⟩
                      case measure => simp [intOf]; omega
                  | false =>
                    rcases (show (0 ≤ x.jf ∧ x.jf ≤ n) ∨ ((n : Int) < x.jf) ∨ (x.jf < 0 ∧ (p : Int) + 1 + x.jf < 0) ∨ (x.jf < 0 ∧ 0 ≤ (p : Int) + 1 + x.jf) from by omega) with h | h | h | h
                    · have HNX := Lib.hid (run_on HRUN.out hkl ((HT.out x.jf rfl).trans (by rw [JN.out x.jf h.2 (by omega)])))
                      go_wp2
                      go_roundw
                      case rel => exact ⟨k + 1, ((p : Int) + 1 + x.jf).toNat, s, by omega, by go_num, by go_num, by omega, HS.out, HB1.out, HB2.out, HB3.out, HNX.out⟩
                      case measure => simp [intOf]; omega
                    · have HNX := Lib.hid (run_on HRUN.out hkl ((HT.out x.jf rfl).trans (by rw [JF.out x.jf h])))
                      go_wp2
                      go_roundw
                      case rel => exact ⟨k + 1, n, s, by omega, by go_num, rfl, by omega, HS.out, HB1.out, HB2.out, HB3.out, HNX.out⟩
                      case measure => simp [intOf]; omega
                    · have HNX := Lib.hid (run_on HRUN.out hkl ((HT.out x.jf rfl).trans (by rw [JB.out x.jf h.1 h.2])))
                      go_wp2
                      go_roundw
                      case rel => exact ⟨k + 1, n, s, by omega, by go_num, rfl, by omega, HS.out, HB1.out, HB2.out, HB3.out, HNX.out⟩
                      case measure => simp [intOf]; omega
                    · have HNX := Lib.hid (run_on HRUN.out hkl ((HT.out x.jf rfl).trans (by rw [JN.out x.jf (by omega) h.2])))
                      go_wp2
                      go_roundw
                      case rel => exact ⟨k + 1, ((p : Int) + 1 + x.jf).toNat, s, by omega, by go_num, by go_num, by omega, HS.out, HB1.out, HB2.out, HB3.out, HNX.out⟩
                      case measure => simp [intOf]; omega
              · have hnj : isJump x.code = false := by simpa using hj
                have HJ := Lib.hid hnj
                obtain ⟨t, ht⟩ : ∃ t, t = plainOf s x.code x.k d := ⟨_, rfl⟩
                have HT : Hid (t = plainOf s x.code x.k d) := ht
                have hst : stepOf l d p s = if t.2.2 then .inl (0, 1, true) else if t.2.1 then .inr (p + 1, t.1) else .inl (0, 0, false) := by
                  unfold stepOf
                  rw [HX.out, ht]
                  simp [c6, c22, c5, hnj]
                have HSTEP := Lib.hid hst
                clear c6 c22 c5 hj hnj ht hst
                have d0 : wr.cell? ⟨w.heap.size, 0, none⟩ = some (.int .u32 d.nr) := HBD.out.cell 0
                have d1 : wr.cell? ⟨w.heap.size, 1, none⟩ = some (.int .u32 d.arch) := HBD.out.cell 1
                have d2 : wr.cell? ⟨w.heap.size, 2, none⟩ = some (.int .u64 d.ip) := HBD.out.cell 2
                have d3 : wr.cell? ⟨w.heap.size, 3, none⟩ = some (.int .u64 d.a0) := HBD.out.cell 3
                have d4 : wr.cell? ⟨w.heap.size, 4, none⟩ = some (.int .u64 d.a1) := HBD.out.cell 4
                have d5 : wr.cell? ⟨w.heap.size, 5, none⟩ = some (.int .u64 d.a2) := HBD.out.cell 5
                have d6 : wr.cell? ⟨w.heap.size, 6, none⟩ = some (.int .u64 d.a3) := HBD.out.cell 6
                have d7 : wr.cell? ⟨w.heap.size, 7, none⟩ = some (.int .u64 d.a4) := HBD.out.cell 7
                have d8 : wr.cell? ⟨w.heap.size, 8, none⟩ = some (.int .u64 d.a5) := HBD.out.cell 8
                go_wp2_with fail
                refine (isJump_any _ _).mono ?_
                rw [HJ.out]
                rintro r w1 ⟨rfl, rfl⟩
                go_wp2_with fail
                refine (plain_any (w.heap.size + 1) s x.code x.k d _ HD.out HS.out (HBS.out.alloc _) k0 k1).mono ?_
                rw [← HT.out]
                rintro r w2 ⟨rfl, hb2, ho2⟩
                have hnx2 : Below w.heap.size w w2 := below_only (hnx.alloc (by omega) _) (by omega) (by simp; omega) ho2
                have HBD2 : Hid (Box w2 w.heap.size 34 d.cells) := by
                  have := ho2.block w.heap.size (by simp; omega) (by simp)
                  unfold Box
                  rw [this]
                  exact HBD.out.alloc _
                have HBS2 := Lib.hid hb2
                have HOK2 : Hid t.1.Ok := by rw [HT.out]; exact plain_ok _ _ _ _ HS.out k0 k1
                clear hb2 ho2 d0 d1 d2 d3 d4 d5 d6 d7 d8 q0 q1 e0 e1 e2 e3
                obtain ⟨t1', b1, b2⟩ := t
                cases b2 with
                | true =>
                  have hR : R = (0, k + 1, true) := run_end HRUN.out hkl HSTEP.out
                  go_wp2
                  go_ret3
                  exact ⟨by rw [hR]; rfl, hnx2⟩
                | false =>
                  cases b1 with
                  | false =>
                    have hR : R = (0, k + 0, false) := run_end HRUN.out hkl HSTEP.out
                    go_wp2
                    go_ret3
                    exact ⟨by rw [hR]; rfl, hnx2⟩
                  | true =>
                    have HNX := Lib.hid (run_on HRUN.out hkl HSTEP.out)
                    go_wp2
                    go_roundw
                    case rel => exact ⟨k + 1, p + 1, t1', by omega, by go_num, by go_num, by omega, HOK2.out, HBD2.out, HBS2.out, hnx2, HNX.out⟩
                    case measure => simp [intOf]; omega
      · have hR : R = (0, k, false) := run_end HRUN.out hkl (by unfold stepOf; rw [List.getElem?_eq_none (by omega)])
        go_wp2
        go_ret3
        exact ⟨by rw [hR]; rfl, hnx⟩
    · obtain rfl : k = 4096 := by omega
      have hR : R = (0, 4096, false) := HRUN.out.symm
      go_wp2
      go_ret3
      exact ⟨by rw [hR]; rfl, hnx⟩

end Go.Proofs.Ytlghhnfpmekdnaa
