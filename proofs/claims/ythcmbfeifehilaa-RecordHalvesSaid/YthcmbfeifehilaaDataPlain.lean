/- Plain facts on data and their bytes: there and back; the words of an argument. -/
import Derived.Test.YthcmbfeifehilaaRefData
namespace Go.Proofs.Ythcmbfeifehilaa
open Go.RowKit

theorem le4 (n : Int) (h0 : 0 ≤ n) (h1 : n < 4294967296) : leVal (leBytes 4 n) = n := by
  simp only [leBytes, leVal, u8_val]
  omega

theorem le8 (n : Int) (h0 : 0 ≤ n) (h1 : n < 18446744073709551616) : leVal (leBytes 8 n) = n := by
  simp only [leBytes, leVal, u8_val]
  omega

theorem le8_low (n : Int) : leVal ((leBytes 8 n).take 4) = n % 4294967296 := by
  have e : (leBytes 8 n).take 4 = leBytes 4 n := rfl
  rw [e]
  simp only [leBytes, leVal, u8_val]
  omega

theorem le8_high (n : Int) (h0 : 0 ≤ n) (h1 : n < 18446744073709551616) : leVal (((leBytes 8 n).drop 4).take 4) = n / 4294967296 := by
  have e : ((leBytes 8 n).drop 4).take 4 = leBytes 4 (n / 256 / 256 / 256 / 256) := rfl
  rw [e, show n / 256 / 256 / 256 / 256 = n / 4294967296 from by omega]
  exact le4 _ (by omega) (by omega)

/-- Data written and read. -/
theorem read_back (d : Dat) (hd : d.Ok) : readDat d.bytes = d := by
  have e : readDat d.bytes = ⟨leVal (leBytes 4 d.nr), leVal (leBytes 4 d.arch), leVal (leBytes 8 d.ip), leVal (leBytes 8 d.a0), leVal (leBytes 8 d.a1), leVal (leBytes 8 d.a2), leVal (leBytes 8 d.a3), leVal (leBytes 8 d.a4), leVal (leBytes 8 d.a5)⟩ := rfl
  rw [e, le4 _ hd.nr.1 hd.nr.2, le4 _ hd.arch.1 hd.arch.2, le8 _ hd.ip.1 hd.ip.2, le8 _ hd.a0.1 hd.a0.2, le8 _ hd.a1.1 hd.a1.2, le8 _ hd.a2.1 hd.a2.2, le8 _ hd.a3.1 hd.a3.2, le8 _ hd.a4.1 hd.a4.2, le8 _ hd.a5.1 hd.a5.2]

theorem dat_back (d : Dat) (hd : d.Ok) : datOf d.bytes = d := by
  unfold datOf
  rw [if_pos (dat_len d), read_back d hd]

theorem dat_code (d : Dat) : datCode d.bytes = 0 := by
  unfold datCode
  rw [if_pos (dat_len d)]

theorem Dat.arg_ok (d : Dat) (hd : d.Ok) (i : Nat) (h : i < 6) : 0 ≤ d.args.getD i 0 ∧ d.args.getD i 0 < 18446744073709551616 := by
  rcases (show i = 0 ∨ i = 1 ∨ i = 2 ∨ i = 3 ∨ i = 4 ∨ i = 5 from by omega) with rfl | rfl | rfl | rfl | rfl | rfl
  · exact hd.a0
  · exact hd.a1
  · exact hd.a2
  · exact hd.a3
  · exact hd.a4
  · exact hd.a5

theorem seg_low (d : Dat) (i : Nat) (h : i < 6) : seg d.bytes (16 + 8 * i) 4 = d.args.getD i 0 % 4294967296 := by
  rw [← le8_low]
  rcases (show i = 0 ∨ i = 1 ∨ i = 2 ∨ i = 3 ∨ i = 4 ∨ i = 5 from by omega) with rfl | rfl | rfl | rfl | rfl | rfl <;> rfl

theorem seg_high (d : Dat) (hd : d.Ok) (i : Nat) (h : i < 6) : seg d.bytes (20 + 8 * i) 4 = d.args.getD i 0 / 4294967296 := by
  obtain ⟨h0, h1⟩ := d.arg_ok hd i h
  rw [← le8_high _ h0 h1]
  rcases (show i = 0 ∨ i = 1 ∨ i = 2 ∨ i = 3 ∨ i = 4 ∨ i = 5 from by omega) with rfl | rfl | rfl | rfl | rfl | rfl <;> rfl

theorem seg_nr (d : Dat) (hd : d.Ok) : seg d.bytes 0 4 = d.nr := by
  have e : seg d.bytes 0 4 = leVal (leBytes 4 d.nr) := rfl
  rw [e, le4 _ hd.nr.1 hd.nr.2]

theorem seg_arch (d : Dat) (hd : d.Ok) : seg d.bytes 4 4 = d.arch := by
  have e : seg d.bytes 4 4 = leVal (leBytes 4 d.arch) := rfl
  rw [e, le4 _ hd.arch.1 hd.arch.2]

/-- What package record's functions say: to be shown of the code as it landed. -/
structure RecSays : Prop where
  bytes : ∀ (d : Dat) (w : World), d.Ok → Calls Try.prog 10 #[d.val] w (NewRow 5 1 64 (bytesV d.bytes) w)
  read : ∀ (A : Option Addr) (n c : Nat) (l : List UInt8) (w : World), Lies w w.heap.size 1 A n (bytesV l) → n ≤ c → n ≤ 35184372088832 → Calls Try.prog 6 #[.slice A n c] w (DatPair (datOf l) (datCode l) w)
  word : ∀ (d : Dat) (off : Int) (w : World), d.Ok → 0 ≤ off → off < 4294967296 → Calls Try.prog 8 #[d.val, .int .u32 off] w (Pair .u32 (wordOf d off) (okOff off) w)

end Go.Proofs.Ythcmbfeifehilaa
