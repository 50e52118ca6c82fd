/- The walk of the statement InstrOne: it returns true, and writes nothing that was there. -/
import Derived.Test.YtdlhadmafcgaiaaAlive
import Derived.IntWalk
namespace Go.Proofs.Ytdlhadmafcgaiaa
open Go.RowKit

/-- Two numbers of bits that don't meet, put together. -/
theorem or_up (x y k : Int) (p : Nat) (hk : k = ((2 ^ p : Nat) : Int)) (hp : p ≤ 24) (x0 : 0 ≤ x) (x1 : x < k) (y0 : 0 ≤ y) (y1 : y < 256) : bits .or .u32 x (y * k) = x + y * k := by
  obtain ⟨n, rfl⟩ := Int.eq_ofNat_of_zero_le x0
  obtain ⟨m, rfl⟩ := Int.eq_ofNat_of_zero_le y0
  subst hk
  have h2 : 2 ^ p ≤ 2 ^ 24 := Nat.pow_le_pow_right (by omega) hp
  have h3 : m * 2 ^ p ≤ 255 * 2 ^ 24 := Nat.mul_le_mul (by omega) h2
  have h4 : (2 : Nat) ^ 24 = 16777216 := by decide
  rw [show (m : Int) * ((2 ^ p : Nat) : Int) = ((m * 2 ^ p : Nat) : Int) from by simp, or_u32 _ _ (by omega) (by omega), or_add _ _ _ (by omega)]
  simp

theorem zeros_cells (n : Nat) : (madeCells (Value.agg #[.int .i64 0, .int .i64 0, .int .i64 0, .int .u32 0]).cells (n * 4)).toList = cellsOf (List.replicate n ⟨0, 0, 0, 0⟩) := by
  apply List.ext_getElem?
  intro j
  by_cases hj : j < n * 4
  · obtain ⟨h0, h1, h2, h3⟩ := cell_at (List.replicate n ⟨0, 0, 0, 0⟩) (j / 4) ⟨0, 0, 0, 0⟩ (by rw [List.getElem?_replicate, if_pos (by omega)])
    rcases (show j % 4 = 0 ∨ j % 4 = 1 ∨ j % 4 = 2 ∨ j % 4 = 3 from by omega) with h | h | h | h
    · rw [show j / 4 * 4 = j from by omega] at h0
      rw [h0]
      simp [madeCells, hj, Value.cells, h]
    · rw [show j / 4 * 4 + 1 = j from by omega] at h1
      rw [h1]
      simp [madeCells, hj, Value.cells, h]
    · rw [show j / 4 * 4 + 2 = j from by omega] at h2
      rw [h2]
      simp [madeCells, hj, Value.cells, h]
    · rw [show j / 4 * 4 + 3 = j from by omega] at h3
      rw [h3]
      simp [madeCells, hj, Value.cells, h]
  · rw [List.getElem?_eq_none (by simp [madeCells]; omega), List.getElem?_eq_none (by rw [cells_len]; simp; omega)]

set_option maxRecDepth 100000 in
set_option maxHeartbeats 4000000 in
theorem one_in (a b c d : Int) (n : Nat) (w : World) (a0 : 0 ≤ a) (a1 : a ≤ 65535) (b0 : 0 ≤ b) (b1 : b ≤ 255) (c0 : 0 ≤ c) (c1 : c ≤ 255) (d0 : 0 ≤ d) (d1 : d ≤ 4294967295) (n1 : n ≤ 20) :
    Calls Try.prog 4 #[.int .i64 a, .int .i64 b, .int .i64 c, .int .u32 d, .int .i64 n] w fun r w' => r = .returned (.bool true) ∧ Below w.heap.size w w' := by
  obtain ⟨i0, hi, hz0, hz1, hz2⟩ := info_parts Try.info36
  have hfit : ∀ y ∈ List.replicate n ⟨0, 0, 0, 0⟩ ++ [(⟨a, b, c, d⟩ : Ins)], y.fits = true := by
    intro y hy
    rcases List.mem_append.1 hy with hy | hy
    · rw [(List.mem_replicate.1 hy).2]; rfl
    · rw [List.mem_singleton.1 hy]
      simp [Ins.fits, inB]
      omega
  have hbytes := bytesOf_yes hfit
  have hcl : ∀ j u, (Ins.bytes ⟨a, b, c, d⟩)[j]? = some u → (bytesV (rawBytes (List.replicate n ⟨0, 0, 0, 0⟩ ++ [(⟨a, b, c, d⟩ : Ins)])))[8 * n + j]? = some (byteV u) := by
    intro j u hu
    have hl := raw_len (List.replicate n ⟨0, 0, 0, 0⟩)
    rw [List.length_replicate] at hl
    have e : rawBytes (List.replicate n ⟨0, 0, 0, 0⟩ ++ [(⟨a, b, c, d⟩ : Ins)]) = rawBytes (List.replicate n ⟨0, 0, 0, 0⟩) ++ Ins.bytes ⟨a, b, c, d⟩ := by simp [rawBytes]
    rw [e, bytesV_append, List.getElem?_append_right (by rw [bytesV_length]; omega), bytesV_length, hl, show 8 * n + j - 8 * n = j from by omega]
    simp [bytesV, hu]
  have hlen := raw_len (List.replicate n ⟨0, 0, 0, 0⟩ ++ [(⟨a, b, c, d⟩ : Ins)])
  rw [List.length_append, List.length_replicate, List.length_singleton] at hlen
  have HFIT := Lib.hid hbytes
  have HCL := Lib.hid hcl
  have HLEN := Lib.hid hlen
  clear hfit hbytes hcl hlen
  go_enter Try.func4, Try.ntmps4
  go_wp2_with fail
  refine (alive_any _).mono ?_
  rintro r w1 ⟨rfl, hb1⟩
  have hs1 := hb1.size
  go_wp2_with (at_make; go_loud (refine wpList_make_full _ rfl _ _ 22 rfl w.heap.size 36 i0 _ 4 Try.underlying22 hi hz0 hz1 .i64 .i64 _ _ n rfl rfl rfl rfl (by rw [hz2]; omega) (by unfold maxLen; omega) hs1 ?_))
  intro w2 hown2 hg2
  have hzc := zeros_cells n
  simp only [Value.cells] at hzc
  rw [hzc] at hown2
  have hb2 : Below w.heap.size w w2 := hb1.grown hg2 hs1 (by simp)
  have hs2 := hb2.size
  clear hg2 hb1 hs1 hzc
  go_wp2_with (at_builtin; go_loud (refine wpList_append_lit _ rfl (.tmp 52) (.tmp 58) _ rfl w.heap.size 36 i0 _ 4 32 Try.underlying22 hi hz0 hz1 hz2 rfl (by omega) _ _ _ rfl hown2 _ _ 1 1 rfl rfl ?c1 ?c2 ?c3 ?c4 ?_))
  case c1 => exact ⟨rfl, rfl, rfl, rfl⟩
  case c2 => unfold maxLen; omega
  case c3 => omega
  case c4 => omega
  intro v3 w3 hown3 hg3
  have hb3 : Below w.heap.size w w3 := below_grown (hb2.alloc hs2 _) (hown2.alloc _) (Nat.le_refl _) (by simp; omega) hg3
  have hs3 := hb3.size
  clear hg3 hb2 hs2 hown2
  have hcells : cellsOf (List.replicate n ⟨0, 0, 0, 0⟩ ++ [(⟨a, b, c, d⟩ : Ins)]) = cellsOf (List.replicate n ⟨0, 0, 0, 0⟩) ++ [.int .i64 a, .int .i64 b, .int .i64 c, .int .u32 d] := by simp [cellsOf, Ins.cells]
  rw [← hcells] at hown3
  clear hcells
  obtain ⟨A3, k3, rfl, hk3, hl3⟩ := own_form hown3
  clear hown3 hk3
  go_wp2_with fail
  refine (bytes_any A3 _ _ _ _ hl3 (by omega)).mono ?_
  rintro r w4 ⟨v4, rfl, hown4, hb4'⟩
  have hb4 : Below w.heap.size w w4 := hb3.trans (hb4'.mono hs3)
  obtain ⟨A4, k4, rfl, hk4, hl4⟩ := own_form hown4
  clear hown4 hb4' hl3 hb3 hs3
  rw [HFIT.out, HLEN.out] at hk4 hl4 ⊢
  obtain ⟨g, o, rfl, hg, hcell⟩ := hl4.2 (by omega)
  have hfc : ∀ j u, (Ins.bytes ⟨a, b, c, d⟩)[j]? = some u → w4.cell? ⟨g, o + 8 * n + j, none⟩ = some (.int .u8 (u.toNat : Int)) := fun j u hu => by
    rw [Nat.add_assoc]
    exact hcell _ _ (HCL.out j u hu)
  have x0 : a % 256 + a / 256 % 256 * 256 = a := by omega
  have e2 : b % 256 = b := by omega
  have e3 : c % 256 = c := by omega
  obtain ⟨y0, hy0⟩ : ∃ y, y = a % 256 := ⟨_, rfl⟩
  obtain ⟨y1, hy1⟩ : ∃ y, y = a / 256 % 256 := ⟨_, rfl⟩
  obtain ⟨y4, hy4⟩ : ∃ y, y = d % 256 := ⟨_, rfl⟩
  obtain ⟨y5, hy5⟩ : ∃ y, y = d / 256 % 256 := ⟨_, rfl⟩
  obtain ⟨y6, hy6⟩ : ∃ y, y = d / 65536 % 256 := ⟨_, rfl⟩
  obtain ⟨y7, hy7⟩ : ∃ y, y = d / 16777216 % 256 := ⟨_, rfl⟩
  have f0 := hfc 0 _ rfl
  have f1 := hfc 1 _ rfl
  have f2 := hfc 2 _ rfl
  have f3 := hfc 3 _ rfl
  have f4 := hfc 4 _ rfl
  have f5 := hfc 5 _ rfl
  have f6 := hfc 6 _ rfl
  have f7 := hfc 7 _ rfl
  rw [u8_val, ← hy0, Nat.add_zero] at f0
  rw [u8_val, ← hy1] at f1
  rw [u8_val, e2] at f2
  rw [u8_val, e3] at f3
  rw [u8_val, ← hy4] at f4
  rw [u8_val, ← hy5] at f5
  rw [u8_val, ← hy6] at f6
  rw [u8_val, ← hy7] at f7
  have bd : (0 ≤ y0 ∧ y0 < 256) ∧ (0 ≤ y1 ∧ y1 < 256) ∧ (0 ≤ y4 ∧ y4 < 256) ∧ (0 ≤ y5 ∧ y5 < 256) ∧ (0 ≤ y6 ∧ y6 < 256) ∧ (0 ≤ y7 ∧ y7 < 256) := by omega
  obtain ⟨⟨y00, y01⟩, ⟨y10, y11⟩, ⟨y40, y41⟩, ⟨y50, y51⟩, ⟨y60, y61⟩, ⟨y70, y71⟩⟩ := bd
  have s1 : y4 + y5 * 256 + y6 * 65536 + y7 * 16777216 = d := by omega
  have s0 : y0 + 256 * y1 = a := by omega
  have g1 : bits .or .u32 y4 (y5 * 256) = y4 + y5 * 256 := or_up _ _ _ 8 rfl (by omega) y40 (by omega) y50 y51
  have g2 : bits .or .u32 (y4 + y5 * 256) (y6 * 65536) = y4 + y5 * 256 + y6 * 65536 := or_up _ _ _ 16 rfl (by omega) (by omega) (by omega) y60 y61
  have g3 : bits .or .u32 (y4 + y5 * 256 + y6 * 65536) (y7 * 16777216) = d := (or_up (y4 + y5 * 256 + y6 * 65536) y7 16777216 24 rfl (by omega) (by omega) (by omega) y70 y71).trans s1
  have w0 : IntKind.i64.wrap y0 = y0 := IntWalk.i64_in _ (by omega)
  have w1' : IntKind.i64.wrap y1 = y1 := IntWalk.i64_in _ (by omega)
  have w2' : IntKind.i64.wrap b = b := IntWalk.i64_in _ (by omega)
  have w3' : IntKind.i64.wrap c = c := IntWalk.i64_in _ (by omega)
  have w5 : IntKind.i64.wrap (256 * y1) = 256 * y1 := IntWalk.i64_in _ (by omega)
  have w6 : IntKind.i64.wrap (y0 + 256 * y1) = a := by rw [s0]; exact IntWalk.i64_in _ (by omega)
  have v4 : IntKind.u32.wrap y4 = y4 := IntWalk.u32_in _ (by omega)
  have v5 : IntKind.u32.wrap y5 = y5 := IntWalk.u32_in _ (by omega)
  have v6 : IntKind.u32.wrap y6 = y6 := IntWalk.u32_in _ (by omega)
  have v7 : IntKind.u32.wrap y7 = y7 := IntWalk.u32_in _ (by omega)
  have v50 : IntKind.u32.wrap (y5 * 256) = y5 * 256 := IntWalk.u32_in _ (by omega)
  have v60 : IntKind.u32.wrap (y6 * 65536) = y6 * 65536 := IntWalk.u32_in _ (by omega)
  have v70 : IntKind.u32.wrap (y7 * 16777216) = y7 * 16777216 := IntWalk.u32_in _ (by omega)
  clear hy0 hy1 hy4 hy5 hy6 hy7 x0 e2 e3 s0 s1 hfc y00 y01 y10 y11 y40 y41 y50 y51 y60 y61 y70 y71
  clear hcell hl4
  have hne : (((8 * (n + 1) : Nat) : Int) != 8 * (n : Int) + 8) = false := by simp; omega
  go_wp2_with fail
  rw [show 8 * (n + 1) - 8 * n = 8 from by omega]
  go_quiet (fail)
  go_wp2
  go_ret
  exact ⟨rfl, below_drewN hb4 _⟩

set_option maxRecDepth 100000 in
set_option maxHeartbeats 4000000 in
theorem one_out (a b c d e : Int) (w : World) (h : a < 0 ∨ (0 ≤ a ∧ 65535 < a) ∨ (0 ≤ a ∧ a ≤ 65535 ∧ b < 0) ∨ (0 ≤ a ∧ a ≤ 65535 ∧ 0 ≤ b ∧ 255 < b) ∨ (0 ≤ a ∧ a ≤ 65535 ∧ 0 ≤ b ∧ b ≤ 255 ∧ c < 0) ∨
      (0 ≤ a ∧ a ≤ 65535 ∧ 0 ≤ b ∧ b ≤ 255 ∧ 0 ≤ c ∧ 255 < c) ∨ (0 ≤ a ∧ a ≤ 65535 ∧ 0 ≤ b ∧ b ≤ 255 ∧ 0 ≤ c ∧ c ≤ 255 ∧ e < 0) ∨ (0 ≤ a ∧ a ≤ 65535 ∧ 0 ≤ b ∧ b ≤ 255 ∧ 0 ≤ c ∧ c ≤ 255 ∧ 0 ≤ e ∧ 20 < e)) :
    Calls Try.prog 4 #[.int .i64 a, .int .i64 b, .int .i64 c, .int .u32 d, .int .i64 e] w fun r w' => r = .returned (.bool true) ∧ Below w.heap.size w w' := by
  rcases h with h | ⟨h0, h1⟩ | ⟨h0, h1, h2⟩ | ⟨h0, h1, h2, h3⟩ | ⟨h0, h1, h2, h3, h4⟩ | ⟨h0, h1, h2, h3, h4, h5⟩ | ⟨h0, h1, h2, h3, h4, h5, h6⟩ | ⟨h0, h1, h2, h3, h4, h5, h6, h7⟩
  all_goals
    go_enter Try.func4, Try.ntmps4
    go_wp2_with fail
    refine (alive_any _).mono ?_
    rintro r w1 ⟨rfl, hb1⟩
    go_wp2
    go_ret
    exact ⟨rfl, hb1⟩

theorem one_law (a b c d e : Int) (w : World) (d0 : 0 ≤ d) (d1 : d ≤ 4294967295) :
    Calls Try.prog 4 #[.int .i64 a, .int .i64 b, .int .i64 c, .int .u32 d, .int .i64 e] w fun r w' => r = .returned (.bool true) ∧ Below w.heap.size w w' := by
  by_cases hin : 0 ≤ a ∧ a ≤ 65535 ∧ 0 ≤ b ∧ b ≤ 255 ∧ 0 ≤ c ∧ c ≤ 255 ∧ 0 ≤ e ∧ e ≤ 20
  · obtain ⟨a0, a1, b0, b1, c0, c1, e0, e1⟩ := hin
    obtain ⟨n, rfl⟩ := Int.eq_ofNat_of_zero_le e0
    exact one_in a b c d n w a0 a1 b0 b1 c0 c1 d0 d1 (by omega)
  · exact one_out a b c d e w (by omega)

end Go.Proofs.Ytdlhadmafcgaiaa
