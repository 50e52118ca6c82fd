/- What the document's own answers for numbers in bytes give: num, get. -/
import Derived.Test.YtlghhnfpmekdnaaBase
import Derived.Test.YtlghhnfpmekdnaaChecked
namespace Go.Proofs.Ytlghhnfpmekdnaa
open Go.RowKit

/-- A number's bytes, the lowest first. -/
def leBytes : Nat → Int → List UInt8
  | 0, _ => []
  | k + 1, n => u8 n :: leBytes k (n / 256)

theorem leBytes_len : ∀ k n, (leBytes k n).length = k
  | 0, _ => rfl
  | k + 1, n => by simp [leBytes, leBytes_len k]

theorem leBytes_snoc : ∀ k n, leBytes (k + 1) n = leBytes k n ++ [u8 (n / 256 ^ k)]
  | 0, n => by simp [leBytes]
  | k + 1, n => by
    have ih := leBytes_snoc k (n / 256)
    rw [leBytes, ih, leBytes]
    rw [List.cons_append]
    congr 3
    rw [Int.ediv_ediv_of_nonneg (by omega), Int.pow_succ, Int.mul_comm]

theorem Try.info5 : (Try.prog.info? 5).map (fun i => (i.zero, i.size, i.bytes)) = some (some (.int .u8 0), 1, 1) := by kernel_rfl

/-- What a function that hands back a row from block 'base' on gives. -/
def RowOn (base : Nat) (e : TypeId) (size n : Nat) (xs : List Value) (w : World) : Ending → World → Prop :=
  fun r w' => ∃ v, r = .returned v ∧ w'.ownsRow base e size v n xs ∧ Below base w w'

theorem pow_8 (k : Nat) : (2 : Int) ^ (8 * k) = 256 ^ k := by
  rw [Int.pow_mul]
  rfl

theorem le_step (l : List UInt8) (k : Nat) (n : Int) : bytesV (l ++ leBytes k n) ++ [.int .u8 (n / 2 ^ (8 * k) % 256)] = bytesV (l ++ leBytes (k + 1) n) := by
  rw [leBytes_snoc, ← List.append_assoc, bytesV_append (l ++ leBytes k n), pow_8]
  simp [bytesV, byteV, u8_val]

set_option maxHeartbeats 1000000 in
/-- num(b, n, size): b a row of the call's own. -/
theorem num_row (base : Nat) (v : Value) (q : Nat) (l : List UInt8) (n : Int) (size : Nat) (w : World) (hv : w.ownsRow base 5 1 v q (bytesV l)) (hb : base ≤ w.heap.size) (hs : size ≤ 8) (hq : q ≤ 1000) :
    Calls Try.prog 49 #[v, .int .u64 n, .int .i64 size] w (RowOn base 5 1 (q + size) (bytesV (l ++ leBytes size n)) w) := by
  obtain ⟨i0, hi, hz0, hz1, hz2⟩ := info_parts Try.info5
  go_enter Try.func49, Try.ntmps49
  go_wp2
  go_loopw [0, 7] (fun v i wr => ∃ k : Nat, k ≤ size ∧ i = .int .i64 k ∧ wr.ownsRow base 5 1 v (q + k) (bytesV (l ++ leBytes k n)) ∧ Below base w wr) (fun _ i _ => size - (intOf i).toNat)
  case atStart => exact ⟨0, Nat.zero_le _, rfl, by simpa [leBytes] using hv, Below.refl _ _⟩
  case round =>
    obtain ⟨k, hk, rfl, hown, hnx⟩ := hrel
    have hsw := hnx.size
    by_cases hlt : k < size
    · go_wp2_with (at_builtin; go_loud (refine wpList_append_lit _ rfl (.tmp 13) (.tmp 21) _ rfl base 5 i0 (.int .u8 0) 1 1 Try.underlying78 hi hz0 hz1 hz2 rfl (by omega) _ _ _ rfl hown _ _ 1 1 rfl rfl ?c1 ?c2 ?c3 ?c4 ?_))
      case c1 => rfl
      case c2 => unfold maxLen; omega
      case c3 => omega
      case c4 => omega
      intro v' w' hown' hg'
      simp only [and255_u64, Int.emod_emod] at hown'
      rw [le_step] at hown'
      have hnx' : Below base w w' := below_grown (hnx.alloc (by omega) _) (hown.alloc _) (Nat.le_refl _) (by simp; omega) hg'
      clear hg' hown hnx
      go_wp2
      go_roundw
      case rel => exact ⟨k + 1, by omega, by go_num, hown', hnx'⟩
      case measure => simp [intOf]; omega
    · obtain rfl : k = size := by omega
      go_wp2
      go_ret
      exact ⟨_, rfl, hown, hnx⟩

/-- The number that bytes are, the lowest first. -/
def leVal : List UInt8 → Int
  | [] => 0
  | b :: r => (b.toNat : Int) + leVal r * 256

theorem leVal_bd : ∀ l : List UInt8, 0 ≤ leVal l ∧ leVal l < 256 ^ l.length
  | [] => by simp [leVal]
  | b :: r => by
    obtain ⟨h0, h1⟩ := leVal_bd r
    have hb := byte_lt b
    have e : (256 : Int) ^ (b :: r).length = 256 ^ r.length * 256 := by rw [List.length_cons, Int.pow_succ]
    rw [e]
    unfold leVal
    omega

theorem pow_mono {a b : Nat} (h : a ≤ b) : (256 : Int) ^ a ≤ 256 ^ b := by
  have := Nat.pow_le_pow_right (show 0 < 256 by omega) h
  have e : ∀ k : Nat, (256 : Int) ^ k = ((256 ^ k : Nat) : Int) := fun k => by simp
  rw [e, e]
  omega

theorem leVal_le {l : List UInt8} {k : Nat} (h : l.length ≤ k) : leVal l < 256 ^ k := by
  have h1 := (leVal_bd l).2
  have h2 := pow_mono h
  omega

theorem or_u64 (a b : Nat) (ha : a < 18446744073709551616) (hb : b < 18446744073709551616) : bits .or .u64 (a : Int) (b : Int) = ((a ||| b : Nat) : Int) := by
  have hx : a ||| b < 2 ^ 64 := Nat.or_lt_two_pow (by omega) (by omega)
  show IntKind.u64.wrap ((BitVec.ofInt 64 (a : Int) ||| BitVec.ofInt 64 (b : Int)).toNat : Int) = _
  rw [BitVec.toNat_or, BitVec.ofInt_natCast, BitVec.ofInt_natCast, BitVec.toNat_ofNat, BitVec.toNat_ofNat, Nat.mod_eq_of_lt (show a < 2 ^ 64 by omega), Nat.mod_eq_of_lt (show b < 2 ^ 64 by omega), IntKind.wrap_u64]
  omega

theorem or_low64 (v b : Int) (v0 : 0 ≤ v) (v1 : v ≤ 72057594037927935) (b0 : 0 ≤ b) (b1 : b < 256) : bits .or .u64 (v * 256) b = v * 256 + b := by
  obtain ⟨n, rfl⟩ := Int.eq_ofNat_of_zero_le v0
  obtain ⟨m, rfl⟩ := Int.eq_ofNat_of_zero_le b0
  rw [show (n : Int) * 256 = ((n * 2 ^ 8 : Nat) : Int) from by omega, or_u64 _ _ (by omega) (by omega), Nat.or_comm, or_add _ _ 8 (by omega)]
  omega

theorem seg_drop (l : List UInt8) (at_ size k : Nat) (hk : k < size) (h : at_ + size ≤ l.length) : ((l.drop at_).take size).drop k = l.getD (at_ + k) 0 :: ((l.drop at_).take size).drop (k + 1) := by
  have hl : k < ((l.drop at_).take size).length := by simp; omega
  rw [List.drop_eq_getElem_cons hl]
  congr 1
  rw [List.getElem_take, List.getElem_drop]
  simp [List.getD, List.getElem?_eq_getElem (show at_ + k < l.length by omega)]

set_option maxHeartbeats 1000000 in
/-- get(b, at, size). -/
theorem get_any (A : Option Addr) (m c : Nat) (l : List UInt8) (p size : Nat) (w : World) (hl : Lies w w.heap.size 1 A m (bytesV l)) (hs : size ≤ 8) (hp : p + size ≤ m) (hm : m ≤ 1000) :
    Calls Try.prog 46 #[.slice A m c, .int .i64 p, .int .i64 size] w fun r w' => r = .returned (.int .u64 (leVal ((l.drop p).take size))) ∧ w = w' := by
  have hlen : l.length = m := by have := hl.1; rw [bytesV_length] at this; omega
  have HL := Lib.hid hlen
  clear hlen
  go_enter Try.func46, Try.ntmps46
  go_wp2
  go_loop [7, 8] (fun v i => ∃ k : Nat, k ≤ size ∧ i = .int .i64 ((k : Int) - 1) ∧ v = .int .u64 (leVal (((l.drop p).take size).drop k))) (fun _ i => (intOf i + 1).toNat)
  case atStart => exact ⟨size, Nat.le_refl _, rfl, by rw [List.drop_of_length_le (by simp; omega)]; rfl⟩
  case round =>
    obtain ⟨k, hk, rfl, rfl⟩ := hrel
    by_cases hlt : 0 < k
    · obtain ⟨j, rfl⟩ : ∃ j, k = j + 1 := ⟨k - 1, by omega⟩
      obtain ⟨b, o, rfl, _, hcell⟩ := hl.2 (by omega)
      have hstep := seg_drop l p size j (by omega) (by have := HL.out; omega)
      have hc := hcell (p + j) _ (byte_at l (p + j) (by have := HL.out; omega))
      have hbd := (leVal_bd (((l.drop p).take size).drop (j + 1))).1
      have hbd2 := leVal_le (l := ((l.drop p).take size).drop (j + 1)) (k := 7) (by simp; omega)
      have e7 : (256 : Int) ^ 7 = 72057594037927936 := by decide
      rw [e7] at hbd2
      have hV1 : leVal (((l.drop p).take size).drop (j + 1)) ≤ 72057594037927935 := by omega
      clear e7 hbd2
      obtain ⟨V, hV⟩ : ∃ V, V = leVal (((l.drop p).take size).drop (j + 1)) := ⟨_, rfl⟩
      rw [← hV] at hbd hV1 ⊢
      have HV := Lib.hid hV
      have HS := Lib.hid hstep
      unfold byteV at hc
      obtain ⟨y, hy⟩ : ∃ y : UInt8, y = l.getD (p + j) 0 := ⟨_, rfl⟩
      rw [← hy] at hc
      have HY := Lib.hid hy
      have y1 := byte_lt y
      have y0 : (0 : Int) ≤ (y.toNat : Int) := by omega
      have hor := or_low64 V y.toNat hbd hV1 y0 y1
      clear hV hstep hy hcell hl
      go_wp2
      go_round
      case rel =>
        refine ⟨j, by omega, rfl, ?_⟩
        rw [HS.out]
        unfold leVal
        rw [← HV.out, ← HY.out, Int.add_comm]
      case measure => simp [intOf]
    · obtain rfl : k = 0 := by omega
      go_wp2
      go_ret
      exact ⟨rfl, rfl⟩

/-- get, its place and size whatever term. -/
theorem get_int (A : Option Addr) (m c : Nat) (l : List UInt8) (p size : Nat) (P S : Int) (w : World) (hP : P = (p : Int)) (hS : S = (size : Int)) (hl : Lies w w.heap.size 1 A m (bytesV l)) (hs : size ≤ 8) (hp : p + size ≤ m) (hm : m ≤ 1000) :
    Calls Try.prog 46 #[.slice A m c, .int .i64 P, .int .i64 S] w fun r w' => r = .returned (.int .u64 (leVal ((l.drop p).take size))) ∧ w = w' := by
  subst hP hS
  exact get_any A m c l p size w hl hs hp hm

end Go.Proofs.Ytlghhnfpmekdnaa
