/- What the landed code's Word gives. -/
import Derived.Test.YtlghhnfpmekdnaaDataWords
namespace Go.Proofs.Ytlghhnfpmekdnaa
open Go.RowKit

theorem half_low (n off : Int) (w : World) (o0 : 0 ≤ off) (o1 : off < 4294967296) (h : off % 8 = 0) :
    Calls Try.prog 48 #[.int .u64 n, .int .u32 off] w fun r w' => r = .returned (.int .u32 (n % 4294967296)) ∧ w = w' := by
  go_enter Try.func48, Try.ntmps48
  go_wp2
  go_ret
  exact ⟨rfl, rfl⟩

theorem half_high (n off : Int) (w : World) (n0 : 0 ≤ n) (n1 : n < 18446744073709551616) (o0 : 0 ≤ off) (o1 : off < 4294967296) (h : off % 8 = 4) :
    Calls Try.prog 48 #[.int .u64 n, .int .u32 off] w fun r w' => r = .returned (.int .u32 (n / 4294967296)) ∧ w = w' := by
  have e : n / 4294967296 % 4294967296 = n / 4294967296 := by omega
  go_enter Try.func48, Try.ntmps48
  go_wp2
  go_ret
  exact ⟨by first | rfl | rw [e], rfl⟩

theorem seg_ip_low (d : Dat) : seg d.bytes 8 4 = d.ip % 4294967296 := by
  rw [← le8_low]
  rfl

theorem seg_ip_high (d : Dat) (hd : d.Ok) : seg d.bytes 12 4 = d.ip / 4294967296 := by
  rw [← le8_high _ hd.ip.1 hd.ip.2]
  rfl

theorem word_not (d : Dat) (off : Int) (w : World) (o0 : 0 ≤ off) (o1 : off < 4294967296) (h : ¬ (off % 4 = 0 ∧ off ≤ 60)) :
    Calls Try.prog 43 #[d.val, .int .u32 off] w (Pair .u32 (wordOf d off) (okOff off) w) := by
  have hok : okOff off = false := by simp only [okOff, ← Bool.decide_and]; exact decide_eq_false h
  have hw : wordOf d off = 0 := by unfold wordOf; rw [hok]; rfl
  rw [hok, hw]
  clear hok hw
  unfold Dat.val Dat.cells
  by_cases h4 : off % 4 = 0
  · have h60 : 60 < off := by omega
    have hb4 : (off % 4 != 0) = false := by rw [bne_eq_false_iff_eq]; exact h4
    have hb5 : decide (60 < off) = true := decide_eq_true h60
    clear h
    go_enter Try.func43, Try.ntmps43
    go_wp2
    go_ret2
    exact ⟨rfl, (Below.refl _ _).alloc (Nat.le_refl _) _⟩
  · have hb4 : (off % 4 != 0) = true := by rw [bne_iff_ne]; exact h4
    clear h
    go_enter Try.func43, Try.ntmps43
    go_wp2
    go_ret2
    exact ⟨rfl, (Below.refl _ _).alloc (Nat.le_refl _) _⟩

set_option maxRecDepth 100000 in
set_option maxHeartbeats 1000000 in
theorem word_head (d : Dat) (off : Int) (w : World) (hd : d.Ok) (h : off = 0 ∨ off = 4 ∨ off = 8 ∨ off = 12) :
    Calls Try.prog 43 #[d.val, .int .u32 off] w (Pair .u32 (wordOf d off) (okOff off) w) := by
  obtain ⟨i0, i1⟩ := hd.ip
  rcases h with rfl | rfl | rfl | rfl
  · rw [show wordOf d 0 = seg d.bytes 0 4 from rfl, seg_nr d hd, show okOff 0 = true from rfl]
    unfold Dat.val Dat.cells
    go_enter Try.func43, Try.ntmps43
    go_wp2
    go_ret2
    exact ⟨rfl, (Below.refl _ _).alloc (Nat.le_refl _) _⟩
  · rw [show wordOf d 4 = seg d.bytes 4 4 from rfl, seg_arch d hd, show okOff 4 = true from rfl]
    unfold Dat.val Dat.cells
    go_enter Try.func43, Try.ntmps43
    go_wp2
    go_ret2
    exact ⟨rfl, (Below.refl _ _).alloc (Nat.le_refl _) _⟩
  · rw [show wordOf d 8 = seg d.bytes 8 4 from rfl, seg_ip_low d, show okOff 8 = true from rfl]
    unfold Dat.val Dat.cells
    go_enter Try.func43, Try.ntmps43
    go_wp2_with fail
    refine (half_low d.ip 8 _ (by omega) (by omega) (by omega)).mono ?_
    rintro r w2 ⟨rfl, rfl⟩
    go_wp2
    go_ret2
    exact ⟨rfl, (Below.refl _ _).alloc (Nat.le_refl _) _⟩
  · rw [show wordOf d 12 = seg d.bytes 12 4 from rfl, seg_ip_high d hd, show okOff 12 = true from rfl]
    unfold Dat.val Dat.cells
    go_enter Try.func43, Try.ntmps43
    go_wp2_with fail
    refine (half_high d.ip 12 _ i0 i1 (by omega) (by omega) (by omega)).mono ?_
    rintro r w2 ⟨rfl, rfl⟩
    go_wp2
    go_ret2
    exact ⟨rfl, (Below.refl _ _).alloc (Nat.le_refl _) _⟩

set_option maxRecDepth 100000 in
set_option maxHeartbeats 1000000 in
theorem word_args (d : Dat) (i : Nat) (off : Int) (w : World) (hd : d.Ok) (hi : i < 6) (h : off = 16 + 8 * (i : Int) ∨ off = 20 + 8 * (i : Int)) :
    Calls Try.prog 43 #[d.val, .int .u32 off] w (Pair .u32 (wordOf d off) (okOff off) w) := by
  have hok : okOff off = true := by unfold okOff; simp; omega
  have hw : wordOf d off = if off % 8 = 0 then d.args.getD i 0 % 4294967296 else d.args.getD i 0 / 4294967296 := by
    unfold wordOf
    rw [hok, if_pos rfl]
    rcases h with rfl | rfl
    · rw [if_pos (by omega), show (16 + 8 * (i : Int)).toNat = 16 + 8 * i from by omega, ← seg_low d i hi]
    · rw [if_neg (by omega), show (20 + 8 * (i : Int)).toNat = 20 + 8 * i from by omega, ← seg_high d hd i hi]
  rw [hok, hw]
  clear hok hw
  obtain ⟨a0, a1⟩ := d.arg_ok hd i hi
  have hc := d.cell_arg i hi
  have hbox : Box (w.alloc (.cells d.cells 34)) w.heap.size 34 d.cells := Box.new _ _ _
  have hcell := (hbox.cell (3 + i)).trans hc
  have hbw : Below w.heap.size w (w.alloc (.cells d.cells 34)) := (Below.refl _ _).alloc (Nat.le_refl _) _
  clear hc hbox
  generalize d.args.getD i 0 = x at *
  have o0 : 16 ≤ off := by omega
  have o1 : off ≤ 60 := by omega
  have hb4 : (off % 4 != 0) = false := by rw [bne_eq_false_iff_eq]; omega
  have hq : (off - 16) / 8 = (i : Int) := by omega
  have h8 : off % 8 = 0 ∨ off % 8 = 4 := by omega
  clear h
  unfold Dat.val
  unfold Dat.cells at hcell hbw ⊢
  rcases h8 with h8 | h8
  · rw [if_pos h8]
    go_enter Try.func43, Try.ntmps43
    go_wp2_with fail
    refine (half_low x off _ (by omega) (by omega) h8).mono ?_
    rintro r w2 ⟨rfl, rfl⟩
    go_wp2
    go_ret2
    exact ⟨rfl, hbw⟩
  · rw [if_neg (by omega)]
    go_enter Try.func43, Try.ntmps43
    go_wp2_with fail
    refine (half_high x off _ a0 a1 (by omega) (by omega) h8).mono ?_
    rintro r w2 ⟨rfl, rfl⟩
    go_wp2
    go_ret2
    exact ⟨rfl, hbw⟩

theorem word_any (d : Dat) (off : Int) (w : World) (hd : d.Ok) (o0 : 0 ≤ off) (o1 : off < 4294967296) :
    Calls Try.prog 43 #[d.val, .int .u32 off] w (Pair .u32 (wordOf d off) (okOff off) w) := by
  by_cases h : off % 4 = 0 ∧ off ≤ 60
  · by_cases hh : off < 16
    · exact word_head d off w hd (by omega)
    · exact word_args d ((off - 16) / 8).toNat off w hd (by omega) (by omega)
  · exact word_not d off w o0 o1 h

end Go.Proofs.Ytlghhnfpmekdnaa
