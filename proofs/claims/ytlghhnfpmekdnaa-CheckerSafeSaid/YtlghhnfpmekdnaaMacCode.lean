/- What the landed machine's Run gives. -/
import Derived.Test.YtlghhnfpmekdnaaMacPlain
import Derived.Test.YtlghhnfpmekdnaaMacFace
import Derived.Test.YtlghhnfpmekdnaaStore
import Derived.Deep.DeepCutAuto
import Derived.Great.BuildSlice
namespace Go.Proofs.Ytlghhnfpmekdnaa.Landed
open Go.RowKit

/-- Where the landed loop stands. -/
def MRuns (n : Nat) (l : List Ins) (d : Dat) (R : Int × Nat × Bool) (w : World) (i : Value) (wr : World) : Prop :=
  ∃ (k p : Nat) (P r : Int) (s : Mac), k ≤ 4096 ∧ i = .int .i64 k ∧ s.Ok ∧ Box wr (w.heap.size + 1) 52 (St.mk d s P r).vals ∧ Below w.heap.size w wr ∧
    ((P = (p : Int) ∧ p < n) ∨ ((P < 0 ∨ (n : Int) ≤ P) ∧ n ≤ p)) ∧ runFrom l d (4096 - k) k p s = R

theorem place_next (n p : Nat) (J : Int) (hp : p < n) (hn : n ≤ 4398046511104) (h0 : -9223372036854775808 ≤ J) (h1 : J ≤ 9223372036854775807) :
    (wrap64 ((p : Int) + 1 + J) = (jumpTo n (p + 1) J : Nat) ∧ jumpTo n (p + 1) J < n) ∨ ((wrap64 ((p : Int) + 1 + J) < 0 ∨ (n : Int) ≤ wrap64 ((p : Int) + 1 + J)) ∧ n ≤ jumpTo n (p + 1) J) := by
  unfold jumpTo wrap64
  split <;> omega

theorem zero_one (d : Dat) : (St.mk d Mac.zero 0 0).vals.all (·.oneCell') = true := by
  simp [St.vals, Dat.cells, Mac.zero, Value.oneCell']

set_option maxRecDepth 100000 in
set_option maxHeartbeats 8000000 in
theorem run_any (A : Option Addr) (n c : Nat) (l : List Ins) (d : Dat) (w : World) (hl : Lies w w.heap.size 4 A n (cellsOf l)) (hok : ∀ y ∈ l, y.Ok) (hd : d.Ok) (hn : n ≤ 4398046511104) :
    Calls Try.prog 13 #[.slice A n c, d.val] w (Ran (runOf l d) w) := by
  have hln : l.length = n := by have := hl.1; rw [cells_len] at this; omega
  obtain ⟨R, hR⟩ : ∃ R, R = runOf l d := ⟨_, rfl⟩
  have HR : Hid (runFrom l d 4096 0 0 Mac.zero = R) := hR.symm
  rw [← hR]
  clear hR
  have HOK := Lib.hid hok
  have HD := Lib.hid hd
  clear hok hd
  unfold Dat.val
  have hbd := Box.new w 34 d.cells
  have hbw : Below w.heap.size w (w.alloc (.cells d.cells 34)) := (Below.refl _ _).alloc (Nat.le_refl _) _
  have hsz : (w.alloc (.cells d.cells 34)).heap.size = w.heap.size + 1 := by simp
  have HBD := Lib.hid hbd
  have HBW := Lib.hid hbw
  have HSZ := Lib.hid hsz
  clear hbd hbw hsz
  go_enter Try.func13, Try.ntmps13
  go_upto_region 1 with (fail)
  go_cut [7] (fun s7 wx => s7 = .pointer (some ⟨w.heap.size + 1, 0, none⟩) ∧ Box wx (w.heap.size + 1) 52 (St.mk d Mac.zero 0 0).vals ∧ Below w.heap.size w wx)
  case first =>
    refine wp_region_lit ?_
    refine wpList_load_mid (by rfl) 34 _ (by rfl) w.heap.size 0 (by rfl) [.int .u32 d.nr, .int .u32 d.arch, .int .u64 d.ip, .int .u64 d.a0, .int .u64 d.a1, .int .u64 d.a2, .int .u64 d.a3, .int .u64 d.a4, .int .u64 d.a5] _ (fun j v hj => ?_) Try.underlying34 (by rfl) (by rfl) ?_
    · rw [Nat.zero_add, HBD.out.cell j]
      simpa [Dat.cells] using hj
    refine wpList_plain (by rfl) fun K hK => ?_
    go_simp
    refine hK _ _ ?_
    clear hK K
    refine wpList_plain (by rfl) fun K hK => ?_
    go_simp
    refine hK _ _ ?_
    clear hK K
    refine wpList_store_box (by rfl) 52 _ _ (by rfl) (w.heap.size + 1) 52 _ (St.mk d Mac.zero 0 0).vals (by rfl) (by rfl) (HSZ.out ▸ Box.new _ _ _) (by rfl) (by kernel_rfl) (zero_one d) fun w1 hb1 ho1 => ?_
    simp only [Act.put]
    go_wp2_with fail
    go_meet
    exact ⟨rfl, hb1, below_only (HBW.out.alloc (by rw [HSZ.out]; omega) _) (by omega) (by simp; omega) ho1⟩
  case rest =>
    obtain ⟨rfl, hb0, hnx0⟩ := hcut
    go_wp2
    go_loopw [11] (fun i wr => MRuns n l d R w i wr) (fun i _ => 4096 - (intOf i).toNat)
    case atStart => exact ⟨0, 0, 0, 0, Mac.zero, by omega, rfl, Mac.zero_ok, hb0, hnx0, by omega, HR.out⟩
    case round =>
      obtain ⟨k, p, P, r, s, hk, rfl, hs, hbs, hnx, hpl, hrun⟩ := hrel
      have hgl := hbs.lt
      have HS := Lib.hid hs
      have HBS := Lib.hid hbs
      have HRUN := Lib.hid hrun
      have HNX := Lib.hid hnx
      have q2 : wr.cell? ⟨w.heap.size + 1, 27, none⟩ = some (.int .i64 P) := (hbs.cell 27).trans (St.at_p _ hs.len)
      clear hs hbs hrun hb0 hnx0
      by_cases hkl : k < 4096
      · rcases hpl with ⟨rfl, hp⟩ | ⟨hfar, hp⟩
        · obtain ⟨b, o, x, rfl, hb, hx, e0, e1, e2, e3⟩ := (hl.below hnx).ins hp
          have HX := Lib.hid hx
          have XO := HOK.out x (List.mem_of_getElem? hx)
          have k0 := XO.k0
          have k1 := XO.k1
          have t0 := XO.t0
          have t1 := XO.t1
          have f0 := XO.f0
          have f1 := XO.f1
          clear XO hx hnx
          have hpn : (p : Int) < n := by omega
          by_cases c6 : x.code = 6
          · have hR : R = (x.k, k + 1, true) := run_end HRUN.out hkl (by unfold stepOf; rw [HX.out]; simp [c6])
            have HC : Hid (Calls Try.prog 23 #[.pointer (some ⟨w.heap.size + 1, 0, none⟩), .agg #[.int .i64 x.code, .int .i64 x.jt, .int .i64 x.jf, .int .u32 x.k]] wr (Stood (w.heap.size + 1) (.int .i64 1) ⟨d, s, p + 1, x.k⟩ wr)) := by
              rw [c6]
              exact step_ret _ ⟨d, s, p, r⟩ x.jt x.jf x.k wr HS.out HBS.out (Int.natCast_nonneg p) (show (p : Int) ≤ 4398046511104 by omega)
            have HR2 := Lib.hid hR
            clear c6 hR k0 k1 t0 t1 f0 f1
            go_wp2_with fail
            refine (HC.out).mono ?_
            rintro v w2 ⟨rfl, hb2, ho2⟩
            have q3 : w2.cell? ⟨w.heap.size + 1, 28, none⟩ = some (.int .u32 x.k) := (hb2.cell 28).trans (St.at_r _ HS.out.len)
            have HN2 := Lib.hid (below_only HNX.out (by omega) (by omega) ho2)
            clear hb2 ho2 q2 e0 e1 e2 e3
            go_wp2
            go_ret3
            exact ⟨by rw [HR2.out]; rfl, HN2.out⟩
          · by_cases c22 : x.code = 22
            · have hR : R = (s.a, k + 1, true) := run_end HRUN.out hkl (by unfold stepOf; rw [HX.out]; simp [c22])
              have HC : Hid (Calls Try.prog 23 #[.pointer (some ⟨w.heap.size + 1, 0, none⟩), .agg #[.int .i64 x.code, .int .i64 x.jt, .int .i64 x.jf, .int .u32 x.k]] wr (Stood (w.heap.size + 1) (.int .i64 1) ⟨d, s, p + 1, s.a⟩ wr)) := by
                rw [c22]
                exact step_reta _ ⟨d, s, p, r⟩ x.jt x.jf x.k wr HS.out HBS.out (Int.natCast_nonneg p) (show (p : Int) ≤ 4398046511104 by omega)
              have HR2 := Lib.hid hR
              clear c6 c22 hR k0 k1 t0 t1 f0 f1
              go_wp2_with fail
              refine (HC.out).mono ?_
              rintro v w2 ⟨rfl, hb2, ho2⟩
              have q3 : w2.cell? ⟨w.heap.size + 1, 28, none⟩ = some (.int .u32 s.a) := (hb2.cell 28).trans (St.at_r _ HS.out.len)
              have HN2 := Lib.hid (below_only HNX.out (by omega) (by omega) ho2)
              clear hb2 ho2 q2 e0 e1 e2 e3
              go_wp2
              go_ret3
              exact ⟨by rw [HR2.out]; rfl, HN2.out⟩
            · by_cases c5 : x.code = 5
              · have hs1 : stepOf l d p s = .inr (if (n : Int) < x.k then n else p + 1 + x.k.toNat, s) := by
                  unfold stepOf
                  rw [HX.out, hln]
                  simp [c5]
                have HN := Lib.hid (run_on HRUN.out hkl hs1)
                have HC : Hid (Calls Try.prog 23 #[.pointer (some ⟨w.heap.size + 1, 0, none⟩), .agg #[.int .i64 x.code, .int .i64 x.jt, .int .i64 x.jf, .int .u32 x.k]] wr (Stood (w.heap.size + 1) (.int .i64 0) ⟨d, s, wrap64 (p + 1 + x.k), r⟩ wr)) := by
                  rw [c5]
                  exact step_ja _ ⟨d, s, p, r⟩ x.jt x.jf x.k wr HS.out HBS.out (Int.natCast_nonneg p) (show (p : Int) ≤ 4398046511104 by omega) k0 k1
                have HPL : Hid ((wrap64 ((p : Int) + 1 + x.k) = ((if (n : Int) < x.k then n else p + 1 + x.k.toNat : Nat) : Int) ∧ (if (n : Int) < x.k then n else p + 1 + x.k.toNat) < n) ∨ ((wrap64 ((p : Int) + 1 + x.k) < 0 ∨ (n : Int) ≤ wrap64 ((p : Int) + 1 + x.k)) ∧ n ≤ (if (n : Int) < x.k then n else p + 1 + x.k.toNat))) := by
                  unfold Hid wrap64
                  split <;> omega
                clear c6 c22 c5 hs1 k0 k1 t0 t1 f0 f1
                go_wp2_with fail
                refine (HC.out).mono ?_
                rintro v w2 ⟨rfl, hb2, ho2⟩
                have HB2 := Lib.hid hb2
                have HN2 := Lib.hid (below_only HNX.out (by omega) (by omega) ho2)
                clear hb2 ho2 q2 e0 e1 e2 e3
                go_wp2
                go_roundw
                case rel => exact ⟨k + 1, _, _, _, s, by omega, by go_num, HS.out, HB2.out, HN2.out, HPL.out, HN.out⟩
                case measure => simp [intOf]; omega
              · by_cases hj : isJump x.code = true
                · obtain ⟨J, hJ⟩ : ∃ J, (if jumpOf x.code s.a (other s x.code x.k) then x.jt else x.jf) = J := ⟨_, rfl⟩
                  have hJ0 : -9223372036854775808 ≤ J ∧ J ≤ 9223372036854775807 := by
                    rw [← hJ]
                    split <;> omega
                  have hs1 : stepOf l d p s = .inr (jumpTo n (p + 1) J, s) := by
                    unfold stepOf
                    rw [HX.out, hln, ← hJ]
                    simp [c6, c22, c5, hj]
                  have HN := Lib.hid (run_on HRUN.out hkl hs1)
                  have HC : Hid (Calls Try.prog 23 #[.pointer (some ⟨w.heap.size + 1, 0, none⟩), .agg #[.int .i64 x.code, .int .i64 x.jt, .int .i64 x.jf, .int .u32 x.k]] wr (Stood (w.heap.size + 1) (.int .i64 0) ⟨d, s, wrap64 (p + 1 + J), r⟩ wr)) :=
                    step_jump _ ⟨d, s, p, r⟩ x.code x.jt x.jf x.k J wr HS.out HBS.out (Int.natCast_nonneg p) (show (p : Int) ≤ 4398046511104 by omega) hj hJ
                  have HPL := Lib.hid (place_next n p J hp hn hJ0.1 hJ0.2)
                  clear c6 c22 c5 hj hJ hJ0 hs1 k0 k1 t0 t1 f0 f1
                  go_wp2_with fail
                  refine (HC.out).mono ?_
                  rintro v w2 ⟨rfl, hb2, ho2⟩
                  have HB2 := Lib.hid hb2
                  have HN2 := Lib.hid (below_only HNX.out (by omega) (by omega) ho2)
                  clear hb2 ho2 q2 e0 e1 e2 e3
                  go_wp2
                  go_roundw
                  case rel => exact ⟨k + 1, _, _, _, s, by omega, by go_num, HS.out, HB2.out, HN2.out, HPL.out, HN.out⟩
                  case measure => simp [intOf]; omega
                · have hnj : isJump x.code = false := by simpa using hj
                  obtain ⟨t, ht⟩ : ∃ t, t = plainOf s x.code x.k d := ⟨_, rfl⟩
                  have HT : Hid (t.1.Ok) := by rw [ht]; exact plain_ok _ _ _ _ HS.out k0 k1
                  have hst : stepOf l d p s = if t.2.2 then .inl (0, 1, true) else if t.2.1 then .inr (p + 1, t.1) else .inl (0, 0, false) := by
                    unfold stepOf
                    rw [HX.out, ht]
                    simp [c6, c22, c5, hnj]
                  have HSTEP := Lib.hid hst
                  have HC : Hid (Calls Try.prog 23 #[.pointer (some ⟨w.heap.size + 1, 0, none⟩), .agg #[.int .i64 x.code, .int .i64 x.jt, .int .i64 x.jf, .int .u32 x.k]] wr (After (w.heap.size + 1) d t (p + 1) r wr)) := by
                    rw [ht]
                    exact step_plain _ ⟨d, s, p, r⟩ x.code x.jt x.jf x.k wr HD.out HS.out HBS.out (Int.natCast_nonneg p) (show (p : Int) ≤ 4398046511104 by omega) k0 k1 c6 c22 c5 hnj
                  clear c6 c22 c5 hj hnj ht hst k0 k1 t0 t1 f0 f1
                  obtain ⟨t1', b1, b2⟩ := t
                  go_wp2_with fail
                  refine (HC.out).mono ?_
                  rintro v w2 ⟨ho2, ⟨hb, rfl, u, hu, hb2⟩ | ⟨hb, hb', rfl, hb2⟩ | ⟨hb, hb', rfl⟩⟩
                  · have hR : R = (0, k + 1, true) := run_end HRUN.out hkl (by rw [HSTEP.out]; simp at hb; simp [hb])
                    have q3 : w2.cell? ⟨w.heap.size + 1, 28, none⟩ = some (.int .u32 0) := (hb2.cell 28).trans (St.at_r _ hu.len)
                    have HN2 := Lib.hid (below_only HNX.out (by omega) (by omega) ho2)
                    have HR2 := Lib.hid hR
                    clear hb2 ho2 q2 e0 e1 e2 e3 hb hu hR
                    go_wp2
                    go_ret3
                    exact ⟨by rw [HR2.out]; rfl, HN2.out⟩
                  · simp only at hb hb'
                    subst hb hb'
                    have HN := Lib.hid (run_on HRUN.out hkl HSTEP.out)
                    have HB2 := Lib.hid hb2
                    have HN2 := Lib.hid (below_only HNX.out (by omega) (by omega) ho2)
                    have HPL : Hid (((p : Int) + 1 = ((p + 1 : Nat) : Int) ∧ p + 1 < n) ∨ (((p : Int) + 1 < 0 ∨ (n : Int) ≤ (p : Int) + 1) ∧ n ≤ p + 1)) := by unfold Hid; omega
                    clear hb2 ho2 q2 e0 e1 e2 e3
                    go_wp2
                    go_roundw
                    case rel => exact ⟨k + 1, _, _, _, t1', by omega, by go_num, HT.out, HB2.out, HN2.out, HPL.out, HN.out⟩
                    case measure => simp [intOf]; omega
                  · simp only at hb hb'
                    subst hb hb'
                    have hR : R = (0, k + 0, false) := run_end HRUN.out hkl HSTEP.out
                    have HR2 := Lib.hid hR
                    have HN2 := Lib.hid (below_only HNX.out (by omega) (by omega) ho2)
                    clear ho2 q2 e0 e1 e2 e3 hR
                    go_wp2
                    go_ret3
                    exact ⟨by rw [HR2.out]; rfl, HN2.out⟩
        · have hR : R = (0, k + 0, false) := run_end HRUN.out hkl (by unfold stepOf; rw [List.getElem?_eq_none (by omega)])
          have HR2 := Lib.hid hR
          clear hR hnx
          by_cases hneg : P < 0
          · clear hfar
            go_wp2
            go_ret3
            exact ⟨by rw [HR2.out]; rfl, HNX.out⟩
          · have hfar' : (n : Int) ≤ P := by omega
            clear hfar
            go_wp2
            go_ret3
            exact ⟨by rw [HR2.out]; rfl, HNX.out⟩
      · obtain rfl : k = 4096 := by omega
        have hR : R = (0, 4096, false) := HRUN.out.symm
        clear hpl
        go_wp2
        go_ret3
        exact ⟨by rw [hR]; rfl, hnx⟩

end Go.Proofs.Ytlghhnfpmekdnaa.Landed
namespace Go.Proofs.Ytlghhnfpmekdnaa
/-- What the landed code of package machine says. -/
theorem mac_says : MacSays := ⟨Landed.run_any⟩

end Go.Proofs.Ytlghhnfpmekdnaa
