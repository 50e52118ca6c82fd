/- Texts of mine put together (a claim has at most so many files): TokIdx, TokQuote. -/
import Derived.Test.YtdjhpgpekomjeaaDoorTokRune
import Derived.Test.YtdjhpgpekomjeaaDoorPart7
/- strings.IndexAny of a text at a '"' and a line's end, whatever bytes the text has. No condition. -/
namespace Go.Proofs.YtdjhpgpekomjeaaDoor
open Go.RowKit

def quoteOff (c : UInt8) : Bool := !(c == 34) && !(c == 10)
theorem quote_off (c : UInt8) : ([34, 10] : List UInt8).contains c = !(quoteOff c) := eq_of_beq (all_bytes (p := fun c => ([34, 10] : List UInt8).contains c == !(quoteOff c)) (by decide +kernel) c)

/-- Where the first of them is. -/
theorem any_stop : ∀ l : List UInt8, (Lib.indexAny l [34, 10] = -1 ∧ runLen quoteOff l = l.length) ∨ (Lib.indexAny l [34, 10] = (runLen quoteOff l : Int) ∧ runLen quoteOff l < l.length)
  | [] => .inl ⟨rfl, rfl⟩
  | c :: r => by
    rw [Lib.indexAny, runLen, quote_off]
    cases quoteOff c
    · exact .inr ⟨by simp, by simp⟩
    · rcases any_stop r with ⟨e, h⟩ | ⟨e, h⟩
      · exact .inl ⟨by rw [e]; rfl, by simp [h]⟩
      · refine .inr ⟨?_, by simp; omega⟩
        rw [e, if_neg (by decide), if_neg (by simp), if_pos rfl]
        push_cast
        rfl

theorem no_more {s : ByteArray} {chars : List UInt8} {i n : Nat} (hno : Lib.NoAny s.data.toList chars i) (hch : ∀ b, chars.contains b = true → b.toNat < 128) (hw : ∀ j, i ≤ j → j < i + n → 128 ≤ (s.get! j).toNat) (hle : i + n ≤ s.size) : Lib.NoAny s.data.toList chars (i + n) := fun j b hj hb => by
  by_cases hji : j < i
  · exact hno j b hji hb
  · have h1 := hw j (by omega) hj
    have hjs : j < s.size := by omega
    rw [get_here s j hjs] at h1
    have h2 := str_at s j hjs
    rw [h2] at hb
    obtain rfl := Option.some.inj hb
    cases hc : chars.contains (s[j]'hjs)
    · rfl
    · have := hch _ hc
      omega

theorem chars_low (b : UInt8) (h : ([34, 10] : List UInt8).contains b = true) : b.toNat < 128 := by
  have := all_bytes (p := fun c => !(([34, 10] : List UInt8).contains c) || decide (c.toNat < 128)) (by decide +kernel) b
  rw [h] at this
  simpa using this

set_option maxRecDepth 100000 in
set_option maxHeartbeats 8000000 in
/-- A text of 8 bytes or fewer: rune by rune. -/
theorem any_short (s : ByteArray) (w : World) (h8 : s.size ≤ 8) :
    Calls Tryd.prog 51 #[.string s, .string ⟨#[34, 10]⟩] w fun e w' => e = .returned (.int .i64 (Lib.indexAny s.data.toList [34, 10])) ∧ Below w.heap.size w w' := by
  have HU : Hid (∀ (n : Int) (W : World), Calls Tryd.prog 71 #[.int .i64 n] W fun e w' => e = .returned (.bool (decide (8 < n))) ∧ W = w') := fun n W =>
    Calls.mono (f := 71) (Any.strings_shouldUseASCIISet { Tryd.lays153 with } n W) fun _ _ ⟨h1, h2⟩ => ⟨h1, h2.symm⟩
  have HU1 : Hid (∀ (W : World), Calls Tryd.prog 71 #[.int .i64 (s.size : Int)] W fun e w' => e = .returned (.bool false) ∧ W = w') := fun W => by
    have := HU.out (s.size : Int) W
    rwa [show decide ((8 : Int) < (s.size : Int)) = false from decide_eq_false (by omega)] at this
  clear HU
  obtain ⟨R, hR⟩ : ∃ R, R = Lib.indexAny s.data.toList [34, 10] := ⟨_, rfl⟩
  rw [← hR]
  have HR := Lib.hid hR
  clear hR
  have hit : (w.iter s 0).heap[w.heap.size]? = some (.stringIter s 0) := World.iter_heap w s 0
  have hb0 : Below w.heap.size w (w.iter s 0) := below_alloc (Below.refl _ _) (Nat.le_refl _) _
  have HI := Lib.hid hit
  have HB := Lib.hid hb0
  clear hit hb0
  go_enter Tryd.func51, Tryd.ntmps51
  go_wp2_with fail
  refine (HU1.out _).mono ?_
  rintro x wx ⟨rfl, rfl⟩
  go_wp2_with fail
  obtain ⟨w0, hw0⟩ : ∃ w0, w0 = w.iter s 0 := ⟨_, rfl⟩
  rw [← hw0] at HI HB ⊢
  clear hw0
  go_loopg [9, 10] s.size (fun g _ _ wx => ∃ i : Nat, i + g = s.size ∧ wx.heap[w.heap.size]? = some (.stringIter s i) ∧ Below w.heap.size w wx ∧ Lib.NoAny s.data.toList [34, 10] i)
  case atStart => exact ⟨0, by omega, HI.out, HB.out, Lib.NoAny.zero _ _⟩
  case round =>
    obtain ⟨i, hig, hit, hbw, hno⟩ := hrel
    have HN := Lib.hid hno
    have HBW := Lib.hid hbw
    have hlt0 : w.heap.size < wr.heap.size := (Array.getElem?_eq_some_iff.1 hit).1
    clear hno hbw HI HB
    by_cases hi : i < s.size
    · obtain ⟨W2, hnx, hit2, hsz2, hbb⟩ := next_step (P := Tryd.prog) wr w.heap.size s i hit hi
      have HI2 := Lib.hid hit2
      have HB2 := Lib.hid (hbb _ _ HBW.out (Nat.le_refl _))
      clear hit hit2 hbb
      by_cases h128 : (s[i]'hi).toNat < 128
      · rw [decode_ascii s i hi h128] at hnx HI2
        have HRN := Lib.hid fun W => rune_ascii (s[i]'hi) h128 W
        have hxl := str_at s i hi
        have hcon := Lib.contains_iff_indexByte [34, 10] (s[i]'hi)
        cases hin : ([34, 10] : List UInt8).contains (s[i]'hi)
        · rw [hin] at hcon
          have hlt : ¬ ((0 : Int) ≤ Lib.indexByte [34, 10] (s[i]'hi)) := of_decide_eq_false hcon.symm
          have HN1 := Lib.hid (HN.out.succ hxl hin)
          clear hcon hin hxl
          go_wp2_with fail
          refine (HRN.out _).mono ?_
          rintro x wy ⟨rfl, rfl⟩
          go_wp2_with fail
          go_roundg (s.size - (i + 1))
          case measure => omega
          case rel => exact ⟨i + 1, by omega, HI2.out, HB2.out, HN1.out⟩
        · rw [hin] at hcon
          have hge : (0 : Int) ≤ Lib.indexByte [34, 10] (s[i]'hi) := of_decide_eq_true hcon.symm
          have hRi : R = (i : Int) := HR.out.trans (Lib.indexAny_hit HN.out hxl hin)
          clear hcon hin hxl
          go_wp2_with fail
          refine (HRN.out _).mono ?_
          rintro x wy ⟨rfl, rfl⟩
          go_wp2_with fail
          go_ret
          exact ⟨by rw [hRi]; rfl, HB2.out⟩
      · obtain ⟨d1, d2, d3, d4⟩ := decode_wide s i hi (by omega)
        have hhi := (decode_high s i hi (by omega)).1
        obtain ⟨r, n, hrn⟩ : ∃ r n, Utf8.decode s i = (r, n) := ⟨_, _, rfl⟩
        rw [hrn] at d1 d2 d3 d4 hhi hnx HI2
        have HN1 := Lib.hid (no_more (n := n) HN.out chars_low d4 d1)
        have HRN := Lib.hid fun W => rune_high r hhi d3 W
        have h1 : 1 ≤ n := d2
        have h2 : i + n ≤ s.size := d1
        clear d1 d2 d3 d4 hhi hrn
        go_wp2_with fail
        refine (HRN.out _).mono ?_
        rintro x wy ⟨rfl, hby⟩
        have HI3 : Hid (wy.heap[w.heap.size]? = some (.stringIter s (i + n))) := by
          unfold Hid
          rw [hby.block _ (by omega)]
          exact HI2.out
        have HB3 := Lib.hid (below_step HB2.out (Nat.le_refl _) hby)
        clear hby
        go_wp2_with fail
        go_roundg (s.size - (i + n))
        case measure => omega
        case rel => exact ⟨i + n, by omega, HI3.out, HB3.out, HN1.out⟩
    · obtain rfl : i = s.size := by omega
      have hnx := fun ty => run_next_over (P := Tryd.prog) wr w.heap.size s s.size ty hit hi
      have hRn : R = -1 := HR.out.trans (Lib.indexAny_none (by rw [← Lib.size_eq]; exact HN.out))
      clear hit
      go_wp2_with fail
      go_ret
      exact ⟨by rw [hRn]; rfl, HBW.out⟩

theorem idxAny_any (s : ByteArray) (w : World) (hs : s.size ≤ 1000000) :
    Calls Tryd.prog 51 #[.string s, .string ⟨#[34, 10]⟩] w fun e w' => e = .returned (.int .i64 (Lib.indexAny s.data.toList [34, 10])) ∧ Below w.heap.size w w' := by
  by_cases h8 : s.size ≤ 8
  · exact any_short s w h8
  · have hz := zero_of_info (P := Tryd.prog) (t := 103) (v := .agg (Array.replicate 256 (.bool false))) (n := 256) (by kernel_rfl)
    refine Calls.mono (f := 51) (Any.strings_IndexAny_long Tryd.lays153 hz.1 hz.2 s ⟨#[34, 10]⟩ w (by decide) (by omega) (by omega) (by decide) (ascii_of_all (by decide))) fun _ _ ⟨h1, h2⟩ => ⟨h1, ?_⟩
    rw [h2]
    exact below_alloc (below_alloc (Below.refl _ _) (Nat.le_refl _) _) (Nat.le_refl _) _

end Go.Proofs.YtdjhpgpekomjeaaDoor

/- What the landed token's quoted gives. No condition. -/
namespace Go.Proofs.YtdjhpgpekomjeaaDoor
open Go.RowKit

/-- A text behind its first '"'. -/
def quotedL (t : List UInt8) : Option (Int × List UInt8 × Nat) := match t.drop (runLen quoteOff t) with
  | 34 :: _ => some (4, t.take (runLen quoteOff t), runLen quoteOff t + 2)
  | _ => none

theorem quoted_no {t : List UInt8} (h : runLen quoteOff t = t.length) : quotedL t = none := by
  unfold quotedL
  rw [h, List.drop_length]
theorem quoted_at {t : List UInt8} {n : Nat} (hn : n = runLen quoteOff t) (h : n < t.length) : (t[n] = 34 ∧ quotedL t = some (4, t.take n, n + 2)) ∨ (¬ t[n] = 34 ∧ quotedL t = none) := by
  subst hn
  unfold quotedL
  rw [List.drop_eq_getElem_cons h]
  by_cases hc : t[runLen quoteOff t] = 34
  · exact .inl ⟨hc, by rw [hc]; rfl⟩
  · refine .inr ⟨hc, ?_⟩
    split
    · rename_i he
      simp only [List.cons.injEq] at he
      exact absurd he.1 hc
    · rfl

set_option maxRecDepth 100000 in
set_option maxHeartbeats 2000000 in
theorem quoted_any (s : ByteArray) (h1 : 1 ≤ s.size) (hs : s.size ≤ 1000000) (w : World) :
    Calls Tryd.prog 36 #[.string s] w (PieceRes (quotedL (s.data.toList.drop 1)) w) := by
  have hxs := ext_drop s 1
  have hlen : (s.data.toList.drop 1).length = s.size - 1 := by rw [List.length_drop, ← Lib.size_eq]
  have HI : Hid (∀ W : World, Calls Tryd.prog 51 #[.string (s.extract 1 s.size), .string ⟨#[34, 10]⟩] W fun e w' => e = .returned (.int .i64 (Lib.indexAny (s.data.toList.drop 1) [34, 10])) ∧ Below W.heap.size W w') := fun W => by
    have := idxAny_any (s.extract 1 s.size) W (by simp; omega)
    rwa [hxs] at this
  have hst := any_stop (s.data.toList.drop 1)
  have hsI : (1 : Int) ≤ (s.size : Int) := by omega
  obtain ⟨hbx0, hn0⟩ := piece_start w
  have HBX := Lib.hid hbx0
  have HN0 := Lib.hid hn0
  clear hbx0 hn0
  rcases hst with ⟨e, hr⟩ | ⟨e, hr⟩
  · rw [e] at HI
    rw [quoted_no hr]
    clear e hr hxs hlen
    go_enter Tryd.func36, Tryd.ntmps36
    go_wp2_with fail
    generalize hw0 : w.alloc (.cells #[.int .i64 0, .string ⟨#[]⟩, .int .i64 0] 67) = w0 at *
    clear hw0
    refine (HI.out _).mono ?_
    rintro r w1 ⟨rfl, hb1⟩
    have HBX1 := Lib.hid (HBX.out.step hb1)
    have HN1 := Lib.hid (below_step HN0.out (Nat.le_refl _) hb1)
    obtain ⟨c0, c1, c2, f0, f1, f2, g0⟩ := box_cells HBX1.out
    clear hb1
    go_wp2_with fail
    exact bodyPost_ret (results_box_tmp rfl _ _ w.heap.size 67 _ rfl (box_trio HBX1.out) _ Tryd.underlying67 rfl pieceSize) rfl ⟨rfl, set3_below (Nat.le_refl _) HN1.out _ _ _⟩
  · obtain ⟨n, hn⟩ : ∃ n, n = runLen quoteOff (s.data.toList.drop 1) := ⟨_, rfl⟩
    rw [← hn] at e hr
    have hq := quoted_at hn hr
    rw [hlen] at hr
    have hlt : n + 1 < s.size := by omega
    have hg : (s.data.toList.drop 1)[n]'(by rw [hlen]; exact hr) = s[n + 1]'hlt := by
      have h3 : (s.data.toList.drop 1)[n]? = some (s[n + 1]'hlt) := by
        rw [List.getElem?_drop, Nat.add_comm 1 n]
        exact str_at s (n + 1) hlt
      exact Option.some.inj ((List.getElem?_eq_getElem _).symm.trans h3)
    simp only [hg] at hq
    rw [e] at HI
    obtain ⟨V, hV⟩ : ∃ V, V = quotedL (s.data.toList.drop 1) := ⟨_, rfl⟩
    rw [← hV] at hq ⊢
    have hxt : s.extract 1 (n + 1) = strOf ((s.data.toList.drop 1).take n) := take_str s 1 (n + 1)
    have hltI : (1 : Int) + (n : Int) < (s.size : Int) := by omega
    have htn : ((1 : Int) + (n : Int)).toNat = n + 1 := by omega
    have hbv : ((s[n + 1]'hlt).toNat : Int) < 256 := byte_lt _
    rcases hq with ⟨h34, hq⟩ | ⟨h34, hq⟩
    · have q1 : (((s[n + 1]'hlt).toNat : Int) != 34) = false := by rw [h34]; rfl
      clear e hr hn hxs hlen hg hV h34
      have HQ := Lib.hid hq
      have HXT := Lib.hid hxt
      clear hq hxt
      go_enter Tryd.func36, Tryd.ntmps36
      go_wp2_with fail
      generalize hw0 : w.alloc (.cells #[.int .i64 0, .string ⟨#[]⟩, .int .i64 0] 67) = w0 at *
      clear hw0
      refine (HI.out _).mono ?_
      rintro r w1 ⟨rfl, hb1⟩
      have HBX1 := Lib.hid (HBX.out.step hb1)
      have HN1 := Lib.hid (below_step HN0.out (Nat.le_refl _) hb1)
      obtain ⟨c0, c1, c2, f0, f1, f2, g0⟩ := box_cells HBX1.out
      clear hb1
      go_wp2_with fail
      exact bodyPost_ret (results_box_tmp rfl _ _ w.heap.size 67 _ rfl (box_trio HBX1.out) _ Tryd.underlying67 rfl pieceSize) rfl ⟨by rw [HQ.out, HXT.out]; rfl, set3_below (Nat.le_refl _) HN1.out _ _ _⟩
    · have q1 : (((s[n + 1]'hlt).toNat : Int) != 34) = true := by
        rw [bne_iff_ne]
        intro h5
        exact h34 (UInt8.toNat_inj.1 (by show (s[n + 1]'hlt).toNat = 34; omega))
      clear e hr hn hxs hlen hg hV h34 hxt
      rw [hq]
      go_enter Tryd.func36, Tryd.ntmps36
      go_wp2_with fail
      generalize hw0 : w.alloc (.cells #[.int .i64 0, .string ⟨#[]⟩, .int .i64 0] 67) = w0 at *
      clear hw0
      refine (HI.out _).mono ?_
      rintro r w1 ⟨rfl, hb1⟩
      have HBX1 := Lib.hid (HBX.out.step hb1)
      have HN1 := Lib.hid (below_step HN0.out (Nat.le_refl _) hb1)
      obtain ⟨c0, c1, c2, f0, f1, f2, g0⟩ := box_cells HBX1.out
      clear hb1
      go_wp2_with fail
      exact bodyPost_ret (results_box_tmp rfl _ _ w.heap.size 67 _ rfl (box_trio HBX1.out) _ Tryd.underlying67 rfl pieceSize) rfl ⟨rfl, set3_below (Nat.le_refl _) HN1.out _ _ _⟩

end Go.Proofs.YtdjhpgpekomjeaaDoor
