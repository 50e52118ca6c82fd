/- What instr.Bytes gives of a list of instructions. -/
import Derived.Test.YtdlhadmafcgaiaaSmall
namespace Go.Proofs.Ytdlhadmafcgaiaa
open Go.RowKit

/-- The last eight bits of a number. -/
def u8 (n : Int) : UInt8 := UInt8.ofNat (n % 256).toNat
theorem u8_val (n : Int) : ((u8 n).toNat : Int) = n % 256 := by
  unfold u8
  rw [UInt8.toNat_ofNat']
  omega

def Ins.bytes (x : Ins) : List UInt8 := [u8 x.code, u8 (x.code / 256), u8 x.jt, u8 x.jf, u8 x.k, u8 (x.k / 256), u8 (x.k / 65536), u8 (x.k / 16777216)]
def cellsOf (l : List Ins) : List Value := l.flatMap Ins.cells
def rawBytes (l : List Ins) : List UInt8 := l.flatMap Ins.bytes
/-- The bytes of instructions; none, if one can't be written. -/
def bytesOf (l : List Ins) : List UInt8 := if l.all Ins.fits then rawBytes l else []

theorem cells_len (l : List Ins) : (cellsOf l).length = 4 * l.length := by
  induction l with
  | nil => rfl
  | cons x l ih => simp [cellsOf, Ins.cells] at ih ⊢; omega

theorem raw_len (l : List Ins) : (rawBytes l).length = 8 * l.length := by
  induction l with
  | nil => rfl
  | cons x l ih => simp [rawBytes, Ins.bytes] at ih ⊢; omega

theorem cell_at (l : List Ins) (k : Nat) (x : Ins) (h : l[k]? = some x) :
    (cellsOf l)[k * 4]? = some (.int .i64 x.code) ∧ (cellsOf l)[k * 4 + 1]? = some (.int .i64 x.jt) ∧ (cellsOf l)[k * 4 + 2]? = some (.int .i64 x.jf) ∧ (cellsOf l)[k * 4 + 3]? = some (.int .u32 x.k) := by
  induction l generalizing k with
  | nil => simp at h
  | cons y l ih =>
    cases k with
    | zero => simp at h; subst h; exact ⟨rfl, rfl, rfl, rfl⟩
    | succ k =>
      have h' : l[k]? = some x := by simpa using h
      have := ih k h'
      rw [show (k + 1) * 4 = k * 4 + 4 from by omega]
      exact this

theorem Lies.ins {w : World} {B n : Nat} {A : Option Addr} {l : List Ins} (h : Lies w B 4 A n (cellsOf l)) {k : Nat} (hk : k < n) :
    ∃ b o x, A = some ⟨b, o, none⟩ ∧ b < B ∧ l[k]? = some x ∧ w.cell? ⟨b, o + k * 4, none⟩ = some (.int .i64 x.code) ∧ w.cell? ⟨b, o + k * 4 + 1, none⟩ = some (.int .i64 x.jt) ∧
      w.cell? ⟨b, o + k * 4 + 2, none⟩ = some (.int .i64 x.jf) ∧ w.cell? ⟨b, o + k * 4 + 3, none⟩ = some (.int .u32 x.k) := by
  obtain ⟨b, o, hA, hb, hc⟩ := h.2 (by omega)
  have hl : k < l.length := by have := h.1; rw [cells_len] at this; omega
  obtain ⟨h0, h1, h2, h3⟩ := cell_at l k l[k] (List.getElem?_eq_getElem hl)
  exact ⟨b, o, l[k], hA, hb, List.getElem?_eq_getElem hl, hc _ _ h0, hc _ _ h1, hc _ _ h2, hc _ _ h3⟩

theorem bytesV_ins (x : Ins) : bytesV x.bytes = [.int .u8 (x.code % 256), .int .u8 (x.code / 256 % 256), .int .u8 (x.jt % 256), .int .u8 (x.jf % 256), .int .u8 (x.k % 256), .int .u8 (x.k / 256 % 256), .int .u8 (x.k / 65536 % 256), .int .u8 (x.k / 16777216 % 256)] := by
  simp [bytesV, byteV, Ins.bytes, u8_val]

theorem take_one {α : Type} {l : List α} {k : Nat} {x : α} (h : l[k]? = some x) : l.take (k + 1) = l.take k ++ [x] := by
  obtain ⟨hk, e⟩ := List.getElem?_eq_some_iff.1 h
  rw [List.take_succ_eq_append_getElem hk, e]

theorem raw_step {l : List Ins} {k : Nat} {x : Ins} (h : l[k]? = some x) : bytesV (rawBytes (l.take (k + 1))) = bytesV (rawBytes (l.take k)) ++ bytesV x.bytes := by
  rw [take_one h]
  simp [rawBytes, bytesV]

theorem all_step {l : List Ins} {k : Nat} {x : Ins} (h : l[k]? = some x) (hf : x.fits = true) (ha : ∀ y ∈ l.take k, y.fits = true) : ∀ y ∈ l.take (k + 1), y.fits = true := by
  rw [take_one h]
  intro y hy
  rcases List.mem_append.1 hy with hy | hy
  · exact ha y hy
  · simp at hy
    exact hy ▸ hf

theorem bytesOf_yes {l : List Ins} (h : ∀ y ∈ l, y.fits = true) : bytesOf l = rawBytes l := by
  unfold bytesOf
  rw [if_pos (List.all_eq_true.2 h)]

theorem bytesOf_no {l : List Ins} {k : Nat} {x : Ins} (h : l[k]? = some x) (hf : ¬ x.fits = true) : bytesOf l = [] := by
  unfold bytesOf
  rw [if_neg]
  intro ha
  exact hf (List.all_eq_true.1 ha x (List.mem_of_getElem? h))

theorem Try.info5 : (Try.prog.info? 5).map (fun i => (i.zero, i.size, i.bytes)) = some (some (.int .u8 0), 1, 1) := by kernel_rfl

/-- What a function that hands a new slice back gives. -/
def NewRow (e : TypeId) (size n : Nat) (xs : List Value) (w : World) : Ending → World → Prop :=
  fun r w' => ∃ v, r = .returned v ∧ w'.ownsRow w.heap.size e size v n xs ∧ Below w.heap.size w w'

set_option maxHeartbeats 1000000 in
theorem bytes_any (A : Option Addr) (n c : Nat) (l : List Ins) (w : World) (hl : Lies w w.heap.size 4 A n (cellsOf l)) (hn : n ≤ 4398046511104) :
    Calls Try.prog 7 #[.slice A n c] w (NewRow 5 1 (bytesOf l).length (bytesV (bytesOf l)) w) := by
  obtain ⟨i0, hi, hz0, hz1, hz2⟩ := info_parts Try.info5
  go_enter Try.func7, Try.ntmps7
  go_wp2_with (at_make; go_loud (refine wpList_make_own _ rfl _ _ 23 rfl w.heap.size 5 i0 (.int .u8 0) 1 Try.underlying23 hi hz0 hz1 .i64 .i64 _ (n * 8) rfl rfl (by omega) (by rw [hz2]; omega) (by unfold maxLen; omega) (Nat.le_refl _) ?_); intro w1 hown1 hg1)
  go_loopw [3, 12] (fun v i wr => ∃ k : Nat, k ≤ n ∧ i = .int .i64 k ∧ wr.ownsRow w.heap.size 5 1 v (8 * k) (bytesV (rawBytes (l.take k))) ∧ Below w.heap.size w wr ∧ Hid (∀ x ∈ l.take k, x.fits = true)) (fun _ i _ => n - (intOf i).toNat)
  case atStart => exact ⟨0, Nat.zero_le _, rfl, hown1, (Below.refl _ _).grown hg1 (Nat.le_refl _) (by simp), fun x hx => by simp at hx⟩
  case round =>
    obtain ⟨k, hk, rfl, hown, hnx, hall⟩ := hrel
    by_cases hlt : k < n
    · obtain ⟨b, o, x, rfl, hb, hx, e0, e1, e2, e3⟩ := (hl.below hnx).ins hlt
      have Hx := Lib.hid hx
      clear hx
      have hsw := hnx.size
      by_cases hf : x.fits = true
      · go_wp2_with fail
        refine (fits_any x _).mono ?_
        rintro e w2 ⟨rfl, hb2⟩
        have hnx2 : Below w.heap.size w w2 := (hnx.alloc hsw _).trans (hb2.mono (by simp; omega))
        obtain ⟨hc2, hz2'⟩ := cells_below hb2
        have hsz := hb2.size
        simp at hsz
        have hown2 := own_below (hown.alloc _) hb2
        clear hown1 hg1 hb2 hown
        go_wp2_with (at_builtin; refine wpList_append_lit _ rfl (.tmp 19) (.tmp 48) _ rfl w.heap.size 5 i0 (.int .u8 0) 1 1 Try.underlying23 hi hz0 hz1 hz2 rfl (by omega) _ _ _ rfl hown2 _ _ 8 8 rfl rfl ?c1 ?c2 ?c3 ?c4 ?_)
        case c1 => exact ⟨rfl, rfl, rfl, rfl, rfl, rfl, rfl, rfl⟩
        case c2 => unfold maxLen; omega
        case c3 => omega
        case c4 => omega
        · intro v' w' hown3 hg3
          rw [← bytesV_ins, ← raw_step Hx.out] at hown3
          have hnx3 : Below w.heap.size w w' := below_grown (hnx2.alloc (by omega) _) (hown2.alloc _) (Nat.le_refl _) (by simp; omega) hg3
          clear hg3 hown2 hnx2 hc2 hz2'
          go_wp2
          go_roundw
          case rel => exact ⟨k + 1, by omega, by go_num, hown3, hnx3, all_step Hx.out hf hall⟩
          case measure => simp [intOf]; omega
      · have hf' : x.fits = false := by simpa using hf
        go_wp2_with fail
        refine (fits_any x _).mono ?_
        rintro e w2 ⟨rfl, hb2⟩
        have hnx2 : Below w.heap.size w w2 := (hnx.alloc hsw _).trans (hb2.mono (by simp; omega))
        clear hown1 hg1 hb2 hown
        go_wp2
        go_ret
        refine ⟨_, rfl, ?_, hnx2⟩
        rw [bytesOf_no Hx.out hf]
        exact World.ownsRow_nil _ _ _ _
    · obtain rfl : k = n := by omega
      go_wp2
      go_ret
      have hln : l.length = k := by have := hl.1; rw [cells_len] at this; omega
      have ht : l.take k = l := List.take_of_length_le (by omega)
      rw [ht] at hown hall
      refine ⟨_, rfl, ?_, hnx⟩
      rw [bytesOf_yes hall, raw_len, hln]
      exact hown

end Go.Proofs.Ytdlhadmafcgaiaa
