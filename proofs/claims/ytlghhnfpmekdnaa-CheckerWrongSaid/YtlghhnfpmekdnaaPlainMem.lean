/- What one plain step of the document's own machine gives: the word, the cells. -/
import Derived.Test.YtlghhnfpmekdnaaPlainStep
namespace Go.Proofs.Ytlghhnfpmekdnaa
open Go.RowKit

theorem Mac.set_cell (s : Mac) (k : Nat) (v : Int) : s.vals.setIfInBounds (2 + k) (.int .u32 v) = ({ s with cells := s.cells.set k v } : Mac).vals := by
  rw [show 2 + k = k + 1 + 1 from by omega]
  simp [Mac.vals, List.map_set]
theorem Mac.at_cell (s : Mac) (k : Nat) (h : k < s.cells.length) : s.vals[2 + k]? = some (.int .u32 (s.cells.getD k 0)) := by
  rw [show 2 + k = k + 1 + 1 from by omega]
  simp [Mac.vals, h]

set_option maxRecDepth 100000 in
set_option maxHeartbeats 4000000 in
theorem plain_ldabs (g : Nat) (s : Mac) (k : Int) (d : Dat) (w : World) (hd : d.Ok) (hb : Box w g 57 s.vals) (k0 : 0 ≤ k) (k1 : k ≤ 4294967295) :
    Calls Try.prog 26 #[.pointer (some ⟨g, 0, none⟩), .int .i64 32, .int .u32 k, d.val] w (Stepped g ({ s with a := wordOf d k }, okOff k, false) w) := by
  have HB := Lib.hid hb
  have hgl := hb.lt
  unfold Dat.val Dat.cells
  have HC : Hid (isAlu 32 = false) := rfl
  clear hb
  go_enter Try.func26, Try.ntmps26
  go_wp2_with fail
  refine (isAlu_any _ _).mono ?_
  rw [HC.out]
  rintro r w1 ⟨rfl, rfl⟩
  go_wp2_with fail
  refine (refWord_any d k _ hd k0 (by omega)).mono ?_
  rintro r w1 ⟨rfl, hb1⟩
  have hB1 : Box w1 g 57 s.vals := (HB.out.alloc _).below hb1 (by simp; omega)
  have z0 : w1.frozen? ⟨g, 0, none⟩ = false := hB1.free 0
  have q0 : w1.cell? ⟨g, 0, none⟩ = some (.int .u32 s.a) := hB1.cell 0
  have HB1 := Lib.hid hB1
  have HO := Lib.hid (only_trans (only_alloc w _ g) (only_below hb1 g))
  clear hB1 hb1
  go_wp2
  go_ret2
  exact ⟨rfl, by rw [← Mac.set_a]; exact HB1.out.set 0 _, only_trans HO.out (only_set _ _ _ _)⟩

set_option maxRecDepth 100000 in
set_option maxHeartbeats 4000000 in
theorem plain_st (g : Nat) (s : Mac) (k : Nat) (d : Dat) (w : World) (hs : s.Ok) (hb : Box w g 57 s.vals) (hk : k < 16) :
    Calls Try.prog 26 #[.pointer (some ⟨g, 0, none⟩), .int .i64 2, .int .u32 (k : Int), d.val] w (Stepped g ({ s with cells := s.cells.set k s.a }, true, false) w) := by
  have HB := Lib.hid hb
  have hgl := hb.lt
  unfold Dat.val Dat.cells
  have q0 : w.cell? ⟨g, 0, none⟩ = some (.int .u32 s.a) := hb.cell 0
  have q1 : w.cell? ⟨g, 2 + k, none⟩ = some (.int .u32 (s.cells.getD k 0)) := by rw [hb.cell, Mac.at_cell s k (by rw [hs.len]; exact hk)]
  have z0 : w.frozen? ⟨g, 2 + k, none⟩ = false := hb.free (2 + k)
  have HC : Hid (isAlu 2 = false) := rfl
  clear hb hs
  go_enter Try.func26, Try.ntmps26
  go_wp2_with fail
  refine (isAlu_any _ _).mono ?_
  rw [HC.out]
  rintro r w1 ⟨rfl, rfl⟩
  go_wp2_with fail
  go_region
  go_wp2
  go_ret2
  exact ⟨rfl, by rw [← Mac.set_cell]; exact ((HB.out.set _ _).alloc _).drew, only_drew (only_trans (only_set _ _ _ _) (only_alloc _ _ _))⟩

set_option maxRecDepth 100000 in
set_option maxHeartbeats 4000000 in
theorem plain_stx (g : Nat) (s : Mac) (k : Nat) (d : Dat) (w : World) (hs : s.Ok) (hb : Box w g 57 s.vals) (hk : k < 16) :
    Calls Try.prog 26 #[.pointer (some ⟨g, 0, none⟩), .int .i64 3, .int .u32 (k : Int), d.val] w (Stepped g ({ s with cells := s.cells.set k s.x }, true, false) w) := by
  have HB := Lib.hid hb
  have hgl := hb.lt
  unfold Dat.val Dat.cells
  have q0 : w.cell? ⟨g, 1, none⟩ = some (.int .u32 s.x) := hb.cell 1
  have q1 : w.cell? ⟨g, 2 + k, none⟩ = some (.int .u32 (s.cells.getD k 0)) := by rw [hb.cell, Mac.at_cell s k (by rw [hs.len]; exact hk)]
  have z0 : w.frozen? ⟨g, 2 + k, none⟩ = false := hb.free (2 + k)
  have HC : Hid (isAlu 3 = false) := rfl
  clear hb hs
  go_enter Try.func26, Try.ntmps26
  go_wp2_with fail
  refine (isAlu_any _ _).mono ?_
  rw [HC.out]
  rintro r w1 ⟨rfl, rfl⟩
  go_wp2_with fail
  go_region
  go_wp2
  go_ret2
  exact ⟨rfl, by rw [← Mac.set_cell]; exact ((HB.out.set _ _).alloc _).drew, only_drew (only_trans (only_set _ _ _ _) (only_alloc _ _ _))⟩

set_option maxRecDepth 100000 in
set_option maxHeartbeats 4000000 in
theorem plain_ldmem (g : Nat) (s : Mac) (k : Nat) (d : Dat) (w : World) (hs : s.Ok) (hb : Box w g 57 s.vals) (hk : k < 16) :
    Calls Try.prog 26 #[.pointer (some ⟨g, 0, none⟩), .int .i64 96, .int .u32 (k : Int), d.val] w (Stepped g ({ s with a := s.cells.getD k 0 }, true, false) w) := by
  have HB := Lib.hid hb
  have hgl := hb.lt
  unfold Dat.val Dat.cells
  have q1 : w.cell? ⟨g, 2 + k, none⟩ = some (.int .u32 (s.cells.getD k 0)) := by rw [hb.cell, Mac.at_cell s k (by rw [hs.len]; exact hk)]
  have q0 : w.cell? ⟨g, 0, none⟩ = some (.int .u32 s.a) := hb.cell 0
  have z0 : w.frozen? ⟨g, 0, none⟩ = false := hb.free 0
  have HC : Hid (isAlu 96 = false) := rfl
  clear hb hs
  go_enter Try.func26, Try.ntmps26
  go_wp2_with fail
  refine (isAlu_any _ _).mono ?_
  rw [HC.out]
  rintro r w1 ⟨rfl, rfl⟩
  go_wp2
  go_ret2
  exact ⟨rfl, by rw [← Mac.set_a]; exact (HB.out.set 0 _).alloc _, only_trans (only_set _ _ _ _) (only_alloc _ _ _)⟩

set_option maxRecDepth 100000 in
set_option maxHeartbeats 4000000 in
theorem plain_ldxmem (g : Nat) (s : Mac) (k : Nat) (d : Dat) (w : World) (hs : s.Ok) (hb : Box w g 57 s.vals) (hk : k < 16) :
    Calls Try.prog 26 #[.pointer (some ⟨g, 0, none⟩), .int .i64 97, .int .u32 (k : Int), d.val] w (Stepped g ({ s with x := s.cells.getD k 0 }, true, false) w) := by
  have HB := Lib.hid hb
  have hgl := hb.lt
  unfold Dat.val Dat.cells
  have q1 : w.cell? ⟨g, 2 + k, none⟩ = some (.int .u32 (s.cells.getD k 0)) := by rw [hb.cell, Mac.at_cell s k (by rw [hs.len]; exact hk)]
  have q0 : w.cell? ⟨g, 1, none⟩ = some (.int .u32 s.x) := hb.cell 1
  have z0 : w.frozen? ⟨g, 1, none⟩ = false := hb.free 1
  have HC : Hid (isAlu 97 = false) := rfl
  clear hb hs
  go_enter Try.func26, Try.ntmps26
  go_wp2_with fail
  refine (isAlu_any _ _).mono ?_
  rw [HC.out]
  rintro r w1 ⟨rfl, rfl⟩
  go_wp2
  go_ret2
  exact ⟨rfl, by rw [← Mac.set_x]; exact (HB.out.set 1 _).alloc _, only_trans (only_set _ _ _ _) (only_alloc _ _ _)⟩

set_option maxRecDepth 100000 in
set_option maxHeartbeats 4000000 in
/-- An instruction of the cells that names none. -/
theorem plain_far (g : Nat) (s : Mac) (c k : Int) (d : Dat) (w : World) (hb : Box w g 57 s.vals) (hc : c = 2 ∨ c = 3 ∨ c = 96 ∨ c = 97) (hk : 16 ≤ k) :
    Calls Try.prog 26 #[.pointer (some ⟨g, 0, none⟩), .int .i64 c, .int .u32 k, d.val] w (Stepped g (s, false, false) w) := by
  have HB := Lib.hid hb
  unfold Dat.val Dat.cells
  clear hb
  rcases hc with rfl | rfl | rfl | rfl
  all_goals
    go_enter Try.func26, Try.ntmps26
    go_wp2_with fail
    refine (isAlu_any _ _).mono ?_
    rintro r w1 ⟨rfl, rfl⟩
    go_wp2
    go_ret2
    exact ⟨rfl, HB.out.alloc _, only_alloc _ _ _⟩

def plainCodes : List Int := [0, 1, 128, 129, 132, 7, 135, 32, 2, 3, 96, 97]

set_option maxRecDepth 100000 in
set_option maxHeartbeats 4000000 in
/-- A code that Plain does not know. -/
theorem plain_none (g : Nat) (s : Mac) (c k : Int) (d : Dat) (w : World) (hb : Box w g 57 s.vals) (ha : isAlu c = false) (hc : plainCodes.contains c = false) :
    Calls Try.prog 26 #[.pointer (some ⟨g, 0, none⟩), .int .i64 c, .int .u32 k, d.val] w (Stepped g (s, false, false) w) := by
  have HB := Lib.hid hb
  have HC := Lib.hid ha
  unfold Dat.val Dat.cells
  simp only [plainCodes, List.contains_cons, List.contains_nil, Bool.or_eq_false_iff] at hc
  obtain ⟨c0, c1, c2, c3, c4, c5, c6, c7, c8, c9, c10, c11, _⟩ := hc
  clear hb ha
  go_enter Try.func26, Try.ntmps26
  go_wp2_with fail
  refine (isAlu_any _ _).mono ?_
  rw [HC.out]
  rintro r w1 ⟨rfl, rfl⟩
  go_wp2
  go_ret2
  exact ⟨rfl, HB.out.alloc _, only_alloc _ _ _⟩

/-- A step that neither jumps nor ends. -/
theorem plain_any (g : Nat) (s : Mac) (c k : Int) (d : Dat) (w : World) (hd : d.Ok) (hs : s.Ok) (hb : Box w g 57 s.vals) (k0 : 0 ≤ k) (k1 : k ≤ 4294967295) :
    Calls Try.prog 26 #[.pointer (some ⟨g, 0, none⟩), .int .i64 c, .int .u32 k, d.val] w (Stepped g (plainOf s c k d) w) := by
  by_cases ha : isAlu c = true
  · by_cases hz : c = 52 ∨ c = 60
    · rcases hz with rfl | rfl
      · have e : plainOf s 52 k d = if k = 0 then (s, false, false) else ({ s with a := aluOf 52 s.a k }, true, false) := by
          simp [plainOf, isAlu, aluCodes, other]
        rw [e]
        exact plain_divk g s k d w hs hb k0 k1
      · have e : plainOf s 60 k d = if s.x = 0 then (s, false, true) else ({ s with a := aluOf 60 s.a s.x }, true, false) := by
          simp [plainOf, isAlu, aluCodes, other]
        rw [e]
        exact plain_divx g s k d w hs hb
    · have e : plainOf s c k d = ({ s with a := aluOf c s.a (other s c k) }, true, false) := by
        unfold plainOf
        rw [if_pos ha, if_neg (fun h => hz h.1)]
      rw [e]
      exact plain_alu g s c k d w hs hb k0 k1 ha hz
  · have hf : isAlu c = false := by simpa using ha
    by_cases hp : plainCodes.contains c = true
    · have hm : c = 0 ∨ c = 1 ∨ c = 128 ∨ c = 129 ∨ c = 132 ∨ c = 7 ∨ c = 135 ∨ c = 32 ∨ c = 2 ∨ c = 3 ∨ c = 96 ∨ c = 97 := by simpa [plainCodes] using hp
      have cell : (c = 2 ∨ c = 3 ∨ c = 96 ∨ c = 97) → Calls Try.prog 26 #[.pointer (some ⟨g, 0, none⟩), .int .i64 c, .int .u32 k, d.val] w (Stepped g (plainOf s c k d) w) := by
        intro hc
        by_cases h16 : 16 ≤ k
        · have e : plainOf s c k d = (s, false, false) := by
            rcases hc with rfl | rfl | rfl | rfl <;> simp [plainOf, isAlu, aluCodes, h16]
          rw [e]
          exact plain_far g s c k d w hb hc h16
        · obtain ⟨n, rfl⟩ := Int.eq_ofNat_of_zero_le k0
          have hn : n < 16 := by omega
          rcases hc with rfl | rfl | rfl | rfl
          · rw [show plainOf s 2 n d = ({ s with cells := s.cells.set n s.a }, true, false) by simp [plainOf, isAlu, aluCodes, h16]]
            exact plain_st g s n d w hs hb hn
          · rw [show plainOf s 3 n d = ({ s with cells := s.cells.set n s.x }, true, false) by simp [plainOf, isAlu, aluCodes, h16]]
            exact plain_stx g s n d w hs hb hn
          · rw [show plainOf s 96 n d = ({ s with a := s.cells.getD n 0 }, true, false) by simp [plainOf, isAlu, aluCodes, h16]]
            exact plain_ldmem g s n d w hs hb hn
          · rw [show plainOf s 97 n d = ({ s with x := s.cells.getD n 0 }, true, false) by simp [plainOf, isAlu, aluCodes, h16]]
            exact plain_ldxmem g s n d w hs hb hn
      rcases hm with rfl | rfl | rfl | rfl | rfl | rfl | rfl | rfl | h
      · exact plain_ldimm g s k d w hs hb
      · exact plain_ldximm g s k d w hs hb
      · exact plain_ldlen g s k d w hs hb
      · exact plain_ldxlen g s k d w hs hb
      · exact plain_neg g s k d w hs hb
      · exact plain_tax g s k d w hs hb
      · exact plain_txa g s k d w hs hb
      · exact plain_ldabs g s k d w hd hb k0 k1
      · exact cell h
    · have hq : plainCodes.contains c = false := by simpa using hp
      have e : plainOf s c k d = (s, false, false) := by
        have hq' := hq
        simp [plainCodes] at hq'
        simp [plainOf, hf, hq']
      rw [e]
      exact plain_none g s c k d w hb hf hq

end Go.Proofs.Ytlghhnfpmekdnaa
