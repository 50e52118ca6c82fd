/- What the landed token's quoted gives. No condition. -/
import Derived.Test.YtgabeacpgmomhaaDoorTokIdx
import Derived.Test.YtgabeacpgmomhaaDoorTokRun
namespace Go.Proofs.YtgabeacpgmomhaaDoor
open Go.RowKit

/-- A text behind its first '"'. -/
def quotedL (t : List UInt8) : Option (Int × List UInt8 × Nat) := match t.drop (runLen quoteOff t) with
  | 34 :: _ => some (4, t.take (runLen quoteOff t), runLen quoteOff t + 2)
  | _ => none

theorem quoted_no {t : List UInt8} (h : runLen quoteOff t = t.length) : quotedL t = none := by
  unfold quotedL
  rw [h, List.drop_length]
theorem quoted_at {t : List UInt8} {n : Nat} (hn : n = runLen quoteOff t) (h : n < t.length) : (t[n] = 34 ∧ quotedL t = some (4, t.take n, n + 2)) ∨ (¬ t[n] = 34 ∧ quotedL t = none) := by
  subst hn
  unfold quotedL
  rw [List.drop_eq_getElem_cons h]
  by_cases hc : t[runLen quoteOff t] = 34
  · exact .inl ⟨hc, by rw [hc]; rfl⟩
  · refine .inr ⟨hc, ?_⟩
    split
    · rename_i he
      simp only [List.cons.injEq] at he
      exact absurd he.1 hc
    · rfl

set_option maxRecDepth 100000 in
set_option maxHeartbeats 2000000 in
theorem quoted_any (s : ByteArray) (h1 : 1 ≤ s.size) (hs : s.size ≤ 1000000) (w : World) :
    Calls Tryd.prog 25 #[.string s] w (PieceRes (quotedL (s.data.toList.drop 1)) w) := by
  have hxs := ext_drop s 1
  have hlen : (s.data.toList.drop 1).length = s.size - 1 := by rw [List.length_drop, ← Lib.size_eq]
  have HI : Hid (∀ W : World, Calls Tryd.prog 42 #[.string (s.extract 1 s.size), .string ⟨#[34, 10]⟩] W fun e w' => e = .returned (.int .i64 (Lib.indexAny (s.data.toList.drop 1) [34, 10])) ∧ Below W.heap.size W w') := fun W => by
    have := idxAny_any (s.extract 1 s.size) W (by simp; omega)
    rwa [hxs] at this
  have hst := any_stop (s.data.toList.drop 1)
  have hsI : (1 : Int) ≤ (s.size : Int) := by omega
  obtain ⟨hbx0, hn0⟩ := piece_start w
  have HBX := Lib.hid hbx0
  have HN0 := Lib.hid hn0
  clear hbx0 hn0
  rcases hst with ⟨e, hr⟩ | ⟨e, hr⟩
  · rw [e] at HI
    rw [quoted_no hr]
    clear e hr hxs hlen
    go_enter Tryd.func25, Tryd.ntmps25
    go_wp2_with fail
    generalize hw0 : w.alloc (.cells #[.int .i64 0, .string ⟨#[]⟩, .int .i64 0] 45) = w0 at *
    clear hw0
    refine (HI.out _).mono ?_
    rintro r w1 ⟨rfl, hb1⟩
    have HBX1 := Lib.hid (HBX.out.step hb1)
    have HN1 := Lib.hid (below_step HN0.out (Nat.le_refl _) hb1)
    obtain ⟨c0, c1, c2, f0, f1, f2, g0⟩ := box_cells HBX1.out
    clear hb1
    go_wp2_with fail
    exact bodyPost_ret (results_box_tmp rfl _ _ w.heap.size 45 _ rfl (box_trio HBX1.out) _ Tryd.underlying45 rfl pieceSize) rfl ⟨rfl, set3_below (Nat.le_refl _) HN1.out _ _ _⟩
  · obtain ⟨n, hn⟩ : ∃ n, n = runLen quoteOff (s.data.toList.drop 1) := ⟨_, rfl⟩
    rw [← hn] at e hr
    have hq := quoted_at hn hr
    rw [hlen] at hr
    have hlt : n + 1 < s.size := by omega
    have hg : (s.data.toList.drop 1)[n]'(by rw [hlen]; exact hr) = s[n + 1]'hlt := by
      have h3 : (s.data.toList.drop 1)[n]? = some (s[n + 1]'hlt) := by
        rw [List.getElem?_drop, Nat.add_comm 1 n]
        exact str_at s (n + 1) hlt
      exact Option.some.inj ((List.getElem?_eq_getElem _).symm.trans h3)
    simp only [hg] at hq
    rw [e] at HI
    obtain ⟨V, hV⟩ : ∃ V, V = quotedL (s.data.toList.drop 1) := ⟨_, rfl⟩
    rw [← hV] at hq ⊢
    have hxt : s.extract 1 (n + 1) = strOf ((s.data.toList.drop 1).take n) := take_str s 1 (n + 1)
    have hltI : (1 : Int) + (n : Int) < (s.size : Int) := by omega
    have htn : ((1 : Int) + (n : Int)).toNat = n + 1 := by omega
    have hbv : ((s[n + 1]'hlt).toNat : Int) < 256 := byte_lt _
    rcases hq with ⟨h34, hq⟩ | ⟨h34, hq⟩
    · have q1 : (((s[n + 1]'hlt).toNat : Int) != 34) = false := by rw [h34]; rfl
      clear e hr hn hxs hlen hg hV h34
      have HQ := Lib.hid hq
      have HXT := Lib.hid hxt
      clear hq hxt
      go_enter Tryd.func25, Tryd.ntmps25
      go_wp2_with fail
      generalize hw0 : w.alloc (.cells #[.int .i64 0, .string ⟨#[]⟩, .int .i64 0] 45) = w0 at *
      clear hw0
      refine (HI.out _).mono ?_
      rintro r w1 ⟨rfl, hb1⟩
      have HBX1 := Lib.hid (HBX.out.step hb1)
      have HN1 := Lib.hid (below_step HN0.out (Nat.le_refl _) hb1)
      obtain ⟨c0, c1, c2, f0, f1, f2, g0⟩ := box_cells HBX1.out
      clear hb1
      go_wp2_with fail
      exact bodyPost_ret (results_box_tmp rfl _ _ w.heap.size 45 _ rfl (box_trio HBX1.out) _ Tryd.underlying45 rfl pieceSize) rfl ⟨by rw [HQ.out, HXT.out]; rfl, set3_below (Nat.le_refl _) HN1.out _ _ _⟩
    · have q1 : (((s[n + 1]'hlt).toNat : Int) != 34) = true := by
        rw [bne_iff_ne]
        intro h5
        exact h34 (UInt8.toNat_inj.1 (by show (s[n + 1]'hlt).toNat = 34; omega))
      clear e hr hn hxs hlen hg hV h34 hxt
      rw [hq]
      go_enter Tryd.func25, Tryd.ntmps25
      go_wp2_with fail
      generalize hw0 : w.alloc (.cells #[.int .i64 0, .string ⟨#[]⟩, .int .i64 0] 45) = w0 at *
      clear hw0
      refine (HI.out _).mono ?_
      rintro r w1 ⟨rfl, hb1⟩
      have HBX1 := Lib.hid (HBX.out.step hb1)
      have HN1 := Lib.hid (below_step HN0.out (Nat.le_refl _) hb1)
      obtain ⟨c0, c1, c2, f0, f1, f2, g0⟩ := box_cells HBX1.out
      clear hb1
      go_wp2_with fail
      exact bodyPost_ret (results_box_tmp rfl _ _ w.heap.size 45 _ rfl (box_trio HBX1.out) _ Tryd.underlying45 rfl pieceSize) rfl ⟨rfl, set3_below (Nat.le_refl _) HN1.out _ _ _⟩

end Go.Proofs.YtgabeacpgmomhaaDoor
