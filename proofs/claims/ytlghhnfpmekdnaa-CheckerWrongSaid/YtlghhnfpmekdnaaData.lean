/- What the document's own answers for data in bytes give. -/
import Derived.Test.YtlghhnfpmekdnaaNum
import Derived.StillTailTactics
namespace Go.Proofs.Ytlghhnfpmekdnaa
open Go.RowKit

/-- A record: its numbers. -/
structure Dat where
  nr : Int
  arch : Int
  ip : Int
  a0 : Int
  a1 : Int
  a2 : Int
  a3 : Int
  a4 : Int
  a5 : Int

def Dat.cells (d : Dat) : Array Value := #[.int .u32 d.nr, .int .u32 d.arch, .int .u64 d.ip, .int .u64 d.a0, .int .u64 d.a1, .int .u64 d.a2, .int .u64 d.a3, .int .u64 d.a4, .int .u64 d.a5]
def Dat.val (d : Dat) : Value := .agg d.cells
def Dat.bytes (d : Dat) : List UInt8 := leBytes 4 d.nr ++ leBytes 4 d.arch ++ leBytes 8 d.ip ++ leBytes 8 d.a0 ++ leBytes 8 d.a1 ++ leBytes 8 d.a2 ++ leBytes 8 d.a3 ++ leBytes 8 d.a4 ++ leBytes 8 d.a5
def Dat.args (d : Dat) : List Int := [d.a0, d.a1, d.a2, d.a3, d.a4, d.a5]
def Dat.head (d : Dat) : List UInt8 := [] ++ leBytes 4 d.nr ++ leBytes 4 d.arch ++ leBytes 8 d.ip
/-- The bytes of the first k arguments. -/
def Dat.upto (d : Dat) (k : Nat) : List UInt8 := (d.args.take k).flatMap (leBytes 8)

theorem Dat.args_at (d : Dat) (k : Nat) (h : k < 6) : d.args[k]? = some (d.args.getD k 0) := by
  rw [List.getElem?_eq_getElem (by simpa [Dat.args] using h)]
  simp [List.getD, List.getElem?_eq_getElem (show k < d.args.length by simpa [Dat.args] using h)]

theorem Dat.upto_step (d : Dat) (k : Nat) (h : k < 6) : d.upto (k + 1) = d.upto k ++ leBytes 8 (d.args.getD k 0) := by
  unfold Dat.upto
  rw [take_one (d.args_at k h)]
  simp

theorem Dat.cell_arg (d : Dat) (k : Nat) (h : k < 6) : d.cells[3 + k]? = some (.int .u64 (d.args.getD k 0)) := by
  rcases (show k = 0 ∨ k = 1 ∨ k = 2 ∨ k = 3 ∨ k = 4 ∨ k = 5 from by omega) with rfl | rfl | rfl | rfl | rfl | rfl <;> rfl

theorem Dat.bytes_eq (d : Dat) : d.bytes = d.head ++ d.upto 6 := by
  simp [Dat.bytes, Dat.head, Dat.upto, Dat.args]

/-- Its numbers are of their kinds. -/
structure Dat.Ok (d : Dat) : Prop where
  nr : 0 ≤ d.nr ∧ d.nr < 4294967296
  arch : 0 ≤ d.arch ∧ d.arch < 4294967296
  ip : 0 ≤ d.ip ∧ d.ip < 18446744073709551616
  a0 : 0 ≤ d.a0 ∧ d.a0 < 18446744073709551616
  a1 : 0 ≤ d.a1 ∧ d.a1 < 18446744073709551616
  a2 : 0 ≤ d.a2 ∧ d.a2 < 18446744073709551616
  a3 : 0 ≤ d.a3 ∧ d.a3 < 18446744073709551616
  a4 : 0 ≤ d.a4 ∧ d.a4 < 18446744073709551616
  a5 : 0 ≤ d.a5 ∧ d.a5 < 18446744073709551616

set_option maxRecDepth 100000 in
set_option maxHeartbeats 1000000 in
theorem refBytes_any (d : Dat) (w : World) (hd : d.Ok) :
    Calls Try.prog 47 #[d.val] w (NewRow 5 1 64 (bytesV d.bytes) w) := by
  obtain ⟨g, hg⟩ : ∃ g, g = w.heap.size := ⟨_, rfl⟩
  have u0 : IntKind.u64.wrap d.nr = d.nr := by rw [IntKind.wrap_u64]; have := hd.nr; omega
  have u1 : IntKind.u64.wrap d.arch = d.arch := by rw [IntKind.wrap_u64]; have := hd.arch; omega
  unfold Dat.val
  have hbox : Box (w.alloc (.cells d.cells 34)) w.heap.size 34 d.cells := Box.new _ _ _
  unfold Dat.cells at hbox ⊢
  go_enter Try.func47, Try.ntmps47
  go_wp2
  have HB := Lib.hid hbox
  have hbw : Below w.heap.size w (w.alloc (.cells d.cells 34)) := (Below.refl _ _).alloc (Nat.le_refl _) _
  have hs0 : (w.alloc (.cells d.cells 34)).heap.size = w.heap.size + 1 := by simp
  unfold Dat.cells at hbw hs0
  clear hbox
  generalize w.alloc (.cells #[.int .u32 d.nr, .int .u32 d.arch, .int .u64 d.ip, .int .u64 d.a0, .int .u64 d.a1, .int .u64 d.a2, .int .u64 d.a3, .int .u64 d.a4, .int .u64 d.a5] 34) = w0 at *
  rw [← hg] at hbw hs0 HB ⊢
  have b0 := HB.out
  have c0 : w0.cell? ⟨g, 0, none⟩ = some (.int .u32 d.nr) := b0.cell 0
  have c1 : w0.cell? ⟨g, 1, none⟩ = some (.int .u32 d.arch) := b0.cell 1
  have c2 : w0.cell? ⟨g, 2, none⟩ = some (.int .u64 d.ip) := b0.cell 2
  have HG := Lib.hid hg
  have hs1 : g + 1 ≤ w0.heap.size := by omega
  clear hg b0 hs0
  have hbd : Below (g + 1) w0 w0.drew := (Below.refl _ _).drew
  go_region_held3 (fun W => W.cell? ⟨g, 0, none⟩ = some (.int .u32 d.nr) ∧ W.cell? ⟨g, 1, none⟩ = some (.int .u32 d.arch) ∧ W.cell? ⟨g, 2, none⟩ = some (.int .u64 d.ip) ∧ Below (g + 1) w0 W) (first | exact ⟨c0, c1, c2, hbd⟩ | exact ⟨c0a, c1a, c2a, hb1⟩ | exact ⟨c0b, c1b, c2b, hb2⟩ | exact ⟨c0c, c1c, c2c, hb3⟩) (first
    | (go_at_call_of 49 (Value.int IntKind.u64 d.nr); refine (num_row (g + 1) _ 0 [] d.nr 4 _ ?_ ?_ ?_ ?_).mono ?_; exact World.ownsRow_nil _ _ _ _; exact hs1; omega; omega; rintro r w1 ⟨v1, rfl, hown1, hb1'⟩; have hb1 := hbd.trans hb1'; have c0a := (hb1.cell (p := ⟨g, 0, none⟩) (Nat.lt_succ_self g)).trans c0; have c1a := (hb1.cell (p := ⟨g, 1, none⟩) (Nat.lt_succ_self g)).trans c1; have c2a := (hb1.cell (p := ⟨g, 2, none⟩) (Nat.lt_succ_self g)).trans c2; have hz1 := hb1.size)
    | (go_at_call_of 49 (Value.int IntKind.u64 d.arch); refine (num_row (g + 1) v1 (0 + 4) ([] ++ leBytes 4 d.nr) d.arch 4 _ ?_ ?_ ?_ ?_).mono ?_; exact hown1; omega; omega; omega; rintro r w2 ⟨v2, rfl, hown2, hb2'⟩; have hb2 := hb1.trans hb2'; have c0b := (hb2.cell (p := ⟨g, 0, none⟩) (Nat.lt_succ_self g)).trans c0; have c1b := (hb2.cell (p := ⟨g, 1, none⟩) (Nat.lt_succ_self g)).trans c1; have c2b := (hb2.cell (p := ⟨g, 2, none⟩) (Nat.lt_succ_self g)).trans c2; have hz2 := hb2.size)
    | (go_at_call_of 49 (Value.int IntKind.u64 d.ip); refine (num_row (g + 1) v2 (0 + 4 + 4) ([] ++ leBytes 4 d.nr ++ leBytes 4 d.arch) d.ip 8 _ ?_ ?_ ?_ ?_).mono ?_; exact hown2; omega; omega; omega; rintro r w3 ⟨v3, rfl, hown3, hb3'⟩; have hb3 := hb2.trans hb3'; have c0c := (hb3.cell (p := ⟨g, 0, none⟩) (Nat.lt_succ_self g)).trans c0; have c1c := (hb3.cell (p := ⟨g, 1, none⟩) (Nat.lt_succ_self g)).trans c1; have c2c := (hb3.cell (p := ⟨g, 2, none⟩) (Nat.lt_succ_self g)).trans c2; have hz3 := hb3.size))
  clear u0 u1 c0 c1 c2 c0a c0b c0c c1a c1b c1c c2a c2b c2c
  go_wp2
  have hnx3 : Below (g + 1) w0 w3 := hb3
  rw [show [] ++ leBytes 4 d.nr ++ leBytes 4 d.arch ++ leBytes 8 d.ip = d.head from rfl] at hown3
  clear hb1 hb2 hb3 hb1' hb2' hb3' hz1 hz2 hz3 hown1 hown2 hbd
  go_loopw [3, 4] (fun v i wr => ∃ k : Nat, k ≤ 6 ∧ i = .int .i64 k ∧ wr.ownsRow (g + 1) 5 1 v (16 + 8 * k) (bytesV (d.head ++ d.upto k)) ∧ Below (g + 1) w0 wr) (fun _ i _ => 6 - (intOf i).toNat)
  case atStart => exact ⟨0, by omega, rfl, by simpa [Dat.upto] using hown3, hnx3⟩
  case round =>
    obtain ⟨k, hk, rfl, hown, hnx⟩ := hrel
    have hsw := hnx.size
    by_cases hlt : k < 6
    · have hc : wr.cell? ⟨g, 3 + k, none⟩ = some (.int .u64 (d.args.getD k 0)) := (hnx.cell (p := ⟨g, 3 + k, none⟩) (Nat.lt_succ_self g)).trans ((HB.out.cell (3 + k)).trans (d.cell_arg k hlt))
      obtain ⟨x, hx⟩ : ∃ x, x = d.args.getD k 0 := ⟨_, rfl⟩
      rw [← hx] at hc
      have HX := Lib.hid hx
      clear hx hown3 hnx3
      go_wp2_with fail
      refine (num_row (g + 1) u3 (16 + 8 * k) (d.head ++ d.upto k) x 8 _ hown (by omega) (by omega) (by omega)).mono ?_
      rintro r w5 ⟨v5, rfl, hown5, hb5⟩
      rw [HX.out, List.append_assoc, ← d.upto_step k hlt] at hown5
      have hnx5 := hnx.trans hb5
      clear hown hnx hb5 hc
      go_wp2
      go_roundw
      case rel => exact ⟨k + 1, by omega, by go_num, by simpa [Nat.mul_add, Nat.add_assoc] using hown5, hnx5⟩
      case measure => simp [intOf]; omega
    · obtain rfl : k = 6 := by omega
      go_wp2
      go_ret
      rw [← d.bytes_eq] at hown
      have eg := HG.out
      subst eg
      exact ⟨_, rfl, own_base hown (Nat.le_succ _), hbw.trans (hnx.mono (Nat.le_succ _))⟩

end Go.Proofs.Ytlghhnfpmekdnaa
