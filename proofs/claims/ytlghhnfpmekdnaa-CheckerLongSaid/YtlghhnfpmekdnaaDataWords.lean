/- Plain facts on the words of data. -/
import Derived.Test.YtlghhnfpmekdnaaRefWord
namespace Go.Proofs.Ytlghhnfpmekdnaa
open Go.RowKit

theorem le4 (n : Int) (h0 : 0 ≤ n) (h1 : n < 4294967296) : leVal (leBytes 4 n) = n := by
  simp only [leBytes, leVal, u8_val]
  omega

theorem le8 (n : Int) (h0 : 0 ≤ n) (h1 : n < 18446744073709551616) : leVal (leBytes 8 n) = n := by
  simp only [leBytes, leVal, u8_val]
  omega

theorem le8_low (n : Int) : leVal ((leBytes 8 n).take 4) = n % 4294967296 := by
  have e : (leBytes 8 n).take 4 = leBytes 4 n := rfl
  rw [e]
  simp only [leBytes, leVal, u8_val]
  omega

theorem le8_high (n : Int) (h0 : 0 ≤ n) (h1 : n < 18446744073709551616) : leVal (((leBytes 8 n).drop 4).take 4) = n / 4294967296 := by
  have e : ((leBytes 8 n).drop 4).take 4 = leBytes 4 (n / 256 / 256 / 256 / 256) := rfl
  rw [e, show n / 256 / 256 / 256 / 256 = n / 4294967296 from by omega]
  exact le4 _ (by omega) (by omega)

theorem Dat.arg_ok (d : Dat) (hd : d.Ok) (i : Nat) (h : i < 6) : 0 ≤ d.args.getD i 0 ∧ d.args.getD i 0 < 18446744073709551616 := by
  rcases (show i = 0 ∨ i = 1 ∨ i = 2 ∨ i = 3 ∨ i = 4 ∨ i = 5 from by omega) with rfl | rfl | rfl | rfl | rfl | rfl
  · exact hd.a0
  · exact hd.a1
  · exact hd.a2
  · exact hd.a3
  · exact hd.a4
  · exact hd.a5

theorem seg_low (d : Dat) (i : Nat) (h : i < 6) : seg d.bytes (16 + 8 * i) 4 = d.args.getD i 0 % 4294967296 := by
  rw [← le8_low]
  rcases (show i = 0 ∨ i = 1 ∨ i = 2 ∨ i = 3 ∨ i = 4 ∨ i = 5 from by omega) with rfl | rfl | rfl | rfl | rfl | rfl <;> rfl

theorem seg_high (d : Dat) (hd : d.Ok) (i : Nat) (h : i < 6) : seg d.bytes (20 + 8 * i) 4 = d.args.getD i 0 / 4294967296 := by
  obtain ⟨h0, h1⟩ := d.arg_ok hd i h
  rw [← le8_high _ h0 h1]
  rcases (show i = 0 ∨ i = 1 ∨ i = 2 ∨ i = 3 ∨ i = 4 ∨ i = 5 from by omega) with rfl | rfl | rfl | rfl | rfl | rfl <;> rfl

theorem seg_nr (d : Dat) (hd : d.Ok) : seg d.bytes 0 4 = d.nr := by
  have e : seg d.bytes 0 4 = leVal (leBytes 4 d.nr) := rfl
  rw [e, le4 _ hd.nr.1 hd.nr.2]

theorem seg_arch (d : Dat) (hd : d.Ok) : seg d.bytes 4 4 = d.arch := by
  have e : seg d.bytes 4 4 = leVal (leBytes 4 d.arch) := rfl
  rw [e, le4 _ hd.arch.1 hd.arch.2]

end Go.Proofs.Ytlghhnfpmekdnaa
