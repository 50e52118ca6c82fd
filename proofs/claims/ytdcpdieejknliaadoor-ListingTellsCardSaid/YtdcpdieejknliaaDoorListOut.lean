/- The landed Show: a line for each instruction. -/
import Derived.Test.YtdcpdieejknliaaDoorListLow
import Derived.Test.YtdcpdieejknliaaDoorShowRef
import Derived.Lib.AppendStr
namespace Go.Proofs.YtdcpdieejknliaaDoor
open Go.RowKit

theorem infoByteO : (Tryd.prog.info? 5).map (fun i => (i.zero, i.size, i.bytes)) = some (some (.int .u8 0), 1, 1) := by kernel_rfl

/-- Bytes written behind a row. -/
def Wrote (B n : Nat) (xs : List Value) (l : List UInt8) (w : World) : Ending → World → Prop :=
  fun r w' => ∃ v', r = .returned v' ∧ w'.ownsRow B 5 1 v' (n + l.length) (xs ++ bytesV l) ∧ Below B w w' ∧ Lib.OthersKept 5 none w w'

set_option maxHeartbeats 2000000 in
theorem appendNumber_any (B n u : Nat) (hu : u < 18446744073709551616) (sv : Value) (xs : List Value) (w0 w : World) (hL : Laid w0) (hB : w0.heap.size ≤ B) (hnx : Below B w0 w) (hown : w.ownsRow B 5 1 sv n xs) (hBw : B ≤ w.heap.size) (hlim : n + 21 ≤ 140737488355328) :
    Calls Tryd.prog 29 #[sv, .int .u64 u] w (Wrote B n xs (32 :: dec u) w) := by
  obtain ⟨i0, hi, hz0, hz1, hz2⟩ := info_parts infoByteO
  have HL := Lib.hid hL
  have HNX := Lib.hid hnx
  clear hL hnx
  go_enter Tryd.func29, Tryd.ntmps29
  go_wp2_with (at_builtin; go_loud (refine wpList_append_lit _ rfl (.tmp 5) (.tmp 6) _ rfl B 5 i0 _ 1 1 Tryd.underlying44 hi hz0 hz1 hz2 rfl (by omega) _ _ _ rfl hown _ _ 1 1 rfl rfl ?c1 ?c2 ?c3 ?c4 ?_))
  case c1 => simp [Value.oneCell']
  case c2 => unfold maxLen; omega
  case c3 => omega
  case c4 => omega
  intro v1 w1 hown1 hg1
  have hb1 : Below B w w1 := below_grown ((Below.refl B w).alloc hBw _) (hown.alloc _) (Nat.le_refl _) (by simp; omega) hg1
  have hL1 : Laid w1 := HL.out.on hB (HNX.out.trans hb1)
  have hs1 : B ≤ w1.heap.size := Nat.le_trans hBw hb1.size
  have HC := Lib.hid (append_any B (n + 1) u hu v1 _ w1 hL1 hown1 hs1 (by omega))
  have hk1 : Lib.OthersKept 5 none w w1 := ((Lib.OthersKept.refl _ _ _).alloc _).grown hg1 (Lib.ownsRow_kind (hown.alloc _))
  have HK1 := Lib.hid hk1
  have HB1 := Lib.hid hb1
  clear hk1 hL1 hown1 hg1 hb1 hs1 hown hi hz0 hz1 hz2
  go_wp2_with fail
  refine (HC.out).mono ?_
  rintro r w2 ⟨v2, rfl, ho2, hb2, hk2⟩
  have HO := Lib.hid ho2
  clear ho2
  go_wp2
  go_ret
  refine ⟨v2, rfl, ?_, HB1.out.trans hb2, HK1.out.trans hk2⟩
  have := HO.out
  rw [List.append_assoc, Nat.add_assoc] at this
  rw [List.length_cons, Nat.add_comm (dec u).length 1]
  exact this

theorem Box.kept {w w' : World} {g : Nat} {t : TypeId} {cs : Array Value} (h : Box w g t cs) (ht : t ≠ 5) (hk : Lib.OthersKept 5 none w w') : Box w' g t cs :=
  hk g _ h (by simp) fun c fz e => by cases e; exact ht rfl

/-- Where the writing of a line stands. -/
def Outs (B n : Nat) (xs : List Value) (w : World) (g : Nat) (x : Ins) (l : List UInt8) (s : Value) (W : World) : Prop :=
  W.ownsRow B 5 1 s (n + l.length) (xs ++ bytesV l) ∧ Below B w W ∧ Lib.OthersKept 5 none w W ∧ Box W g 38 x.cells.toArray

theorem num_step (B n : Nat) (xs : List Value) (w0 w : World) (g : Nat) (x : Ins) (hL : Laid w0) (hB : w0.heap.size ≤ B) (hnx : Below B w0 w) (hBw : B ≤ w.heap.size) (hlim : n ≤ 140737488355000) (u : Int) (h0 : 0 ≤ u) (h1 : u ≤ 4294967295) (l : List UInt8) (hl : l.length ≤ 200)
    (s : Value) (W : World) (h : Outs B n xs w g x l s W) :
    Calls Tryd.prog 29 #[s, .int .u64 u] W fun r w' => ∃ v', r = .returned v' ∧ Outs B n xs w g x (l ++ 32 :: dec u.toNat) v' w' := by
  obtain ⟨ho, hb, hk, hx⟩ := h
  have := appendNumber_any B (n + l.length) u.toNat (by omega) s _ w0 W hL hB (hnx.trans hb) ho (Nat.le_trans hBw hb.size) (by omega)
  rw [show ((u.toNat : Nat) : Int) = u from by omega] at this
  refine this.mono fun r w' ⟨v', hr, ho', hb', hk'⟩ => ⟨v', hr, ?_, hb.trans hb', hk.trans hk', hx.kept (by decide) hk'⟩
  rw [List.length_append, bytesV_append, ← Nat.add_assoc, ← List.append_assoc]
  exact ho'

theorem Outs.below {B n : Nat} {xs : List Value} {w W W' : World} {g : Nat} {x : Ins} {l : List UInt8} {s : Value} (h : Outs B n xs w g x l s W) (hBw : B ≤ w.heap.size) (hb : Below W.heap.size W W') : Outs B n xs w g x l s W' := by
  obtain ⟨ho, h1, hk, hx⟩ := h
  exact ⟨own_below ho hb, h1.trans (hb.mono (Nat.le_trans hBw h1.size)), hk.below hb, hx.step hb⟩
theorem Outs.grown {B n : Nat} {xs : List Value} {w W W' : World} {g : Nat} {x : Ins} {l m : List UInt8} {s s' : Value} (h : Outs B n xs w g x l s W) (hBw : B ≤ w.heap.size) (hg : W.grownBy W' s.ownBlock)
    (ho' : W'.ownsRow B 5 1 s' (n + l.length + m.length) (xs ++ bytesV l ++ bytesV m)) : Outs B n xs w g x (l ++ m) s' W' := by
  obtain ⟨ho, h1, hk, hx⟩ := h
  refine ⟨?_, below_grown h1 ho (Nat.le_refl _) (Nat.le_trans hBw h1.size) hg, hk.grown hg (Lib.ownsRow_kind ho), hx.kept (by decide) ((Lib.OthersKept.refl _ _ _).grown hg (Lib.ownsRow_kind ho))⟩
  rw [List.length_append, bytesV_append, ← Nat.add_assoc, ← List.append_assoc]
  exact ho'
theorem Outs.cells {B n : Nat} {xs : List Value} {w W : World} {g : Nat} {c jt jf k : Int} {l : List UInt8} {s : Value} (h : Outs B n xs w g ⟨c, jt, jf, k⟩ l s W) :
    W.cell? ⟨g, 0, none⟩ = some (.int .i64 c) ∧ W.cell? ⟨g, 1, none⟩ = some (.int .i64 jt) ∧ W.cell? ⟨g, 2, none⟩ = some (.int .i64 jf) ∧ W.cell? ⟨g, 3, none⟩ = some (.int .u32 k) := by
  have hx := h.2.2.2
  exact ⟨(hx.cell 0).trans rfl, (hx.cell 1).trans rfl, (hx.cell 2).trans rfl, (hx.cell 3).trans rfl⟩

set_option maxRecDepth 100000 in
set_option maxHeartbeats 4000000 in
/-- A line of what is written. -/
theorem appendLine_any (B n : Nat) (x : Ins) (hx : x.Ok) (hf : x.fits = true) (sv : Value) (xs : List Value) (w0 w : World) (hL : Laid w0) (hB : w0.heap.size ≤ B) (hnx : Below B w0 w) (hown : w.ownsRow B 5 1 sv n xs) (hBw : B ≤ w.heap.size) (hlim : n ≤ 140737488355000) :
    Calls Tryd.prog 18 #[sv, x.val] w (Wrote B n xs (showLine x) w) := by
  obtain ⟨i0, hi, hz0, hz1, hz2⟩ := info_parts infoByteO
  obtain ⟨c0, c1, t0, t1, f0, f1⟩ := fits_bd hf
  have k0 := hx.k0
  have k1 := hx.k1
  have HNUM := Lib.hid (num_step B n xs w0 w w.heap.size x hL hB hnx hBw hlim)
  have HLEN := Lib.hid (nameText_len x.code c0 c1)
  have HNM := Lib.hid (fun W (h : Below B w W) => nameOf_any x.code W (hL.on hB (hnx.trans h)))
  have hstart : Outs B n xs w w.heap.size x [] sv (w.alloc (.cells x.cells.toArray 38)) := ⟨by simpa [bytesV] using hown.alloc _, (Below.refl _ _).alloc hBw _, (Lib.OthersKept.refl _ _ _).alloc _, Box.new _ _ _⟩
  have HST := Lib.hid hstart
  clear hL hnx hx hf hown hstart
  obtain ⟨c, jt, jf, k⟩ := x
  unfold Ins.val
  unfold Ins.cells at HST
  dsimp only at c0 c1 t0 t1 f0 f1 k0 k1 HST HNM HLEN ⊢
  have y0 : IntKind.u64.wrap c = c := by rw [IntKind.wrap_u64]; omega
  have y1 : IntKind.u64.wrap jt = jt := by rw [IntKind.wrap_u64]; omega
  have y2 : IntKind.u64.wrap jf = jf := by rw [IntKind.wrap_u64]; omega
  have y3 : IntKind.u64.wrap k = k := by rw [IntKind.wrap_u64]; omega
  go_enter Tryd.func18, Tryd.ntmps18
  go_wp2_with fail
  refine (HNM.out _ HST.out.2.1).mono ?_
  rintro r w1 ⟨rfl, hb1⟩
  have h1 := HST.out.below hBw hb1
  have ho1 := h1.1
  have hz1' : B ≤ w1.heap.size := Nat.le_trans hBw h1.2.1.size
  have H1 := Lib.hid h1
  clear h1 hb1 HST
  by_cases hne : nameOf c = []
  · have he : (nameOf c).isEmpty = true := by rw [hne]; rfl
    have HT : Hid (nameText c = [99, 111, 100, 101] ++ 32 :: dec c.toNat) := by
      unfold Hid nameText
      rw [if_pos hne]
      rfl
    clear hne
    go_wp2_with (at_builtin; go_loud (refine Lib.wpList_append_own_string _ rfl (.tmp 17) _ 44 9 rfl B 5 i0 Tryd.underlying44 Tryd.underlying9 hi hz0 hz1 hz2 _ _ _ rfl ho1 (strOf [99, 111, 100, 101]) rfl (by rw [strOf_size]; simp [maxLen]; omega) (by rw [strOf_size]; simp; omega) hz1' ?_))
    intro v2 w2 ho2 hg2 _
    have h2 := H1.out.grown (m := [99, 111, 100, 101]) hBw hg2 (by rw [strOf_size] at ho2; rw [List.append_assoc]; exact ho2)
    have H2 := Lib.hid h2
    obtain ⟨e0, e1, e2, e3⟩ := h2.cells
    clear h2 ho2 hg2 ho1
    go_wp2_with fail
    refine (HNUM.out c c0 (by omega) _ (by simp) _ _ H2.out).mono ?_
    rintro r w3 ⟨v3, rfl, h3⟩
    have hcut : Outs B n xs w w.heap.size ⟨c, jt, jf, k⟩ (nameText c) v3 w3 := by
      rw [HT.out]
      exact h3
    clear h3 e0 e1 e2 e3
    have HC := Lib.hid hcut
    obtain ⟨e0, e1, e2, e3⟩ := hcut.cells
    clear hcut
    go_wp2_with fail
    refine (HNUM.out jt t0 (by omega) _ (by have := HLEN.out; omega) _ _ HC.out).mono ?_
    rintro r w3 ⟨v3, rfl, h3⟩
    have H3 := Lib.hid h3
    clear e0 e1 e2 e3
    obtain ⟨e0, e1, e2, e3⟩ := h3.cells
    clear h3
    go_wp2_with fail
    have z1 := dec_len 2 jt.toNat (by omega)
    refine (HNUM.out jf f0 (by omega) _ (by have := HLEN.out; simp; omega) _ _ H3.out).mono ?_
    rintro r w4 ⟨v4, rfl, h4⟩
    have H4 := Lib.hid h4
    clear e0 e1 e2 e3
    obtain ⟨e0, e1, e2, e3⟩ := h4.cells
    clear h4
    have z2 := dec_len 2 jf.toNat (by omega)
    go_wp2_with fail
    refine (HNUM.out k k0 (by omega) _ (by have := HLEN.out; simp; omega) _ _ H4.out).mono ?_
    rintro r w5 ⟨v5, rfl, h5⟩
    have H5 := Lib.hid h5
    have z3 := dec_len 9 k.toNat (by omega)
    have hlen : (nameText c ++ 32 :: dec jt.toNat ++ 32 :: dec jf.toNat ++ 32 :: dec k.toNat).length ≤ 40 := by have := HLEN.out; simp; omega
    have HSH : Hid (showLine ⟨c, jt, jf, k⟩ = (nameText c ++ 32 :: dec jt.toNat ++ 32 :: dec jf.toNat ++ 32 :: dec k.toNat) ++ [10]) := by
      unfold Hid showLine
      simp
    generalize hM : (nameText c ++ 32 :: dec jt.toNat ++ 32 :: dec jf.toNat ++ 32 :: dec k.toNat) = M at H5 hlen HSH
    have ho5 := H5.out.1
    have hz5 : B ≤ w5.heap.size := Nat.le_trans hBw H5.out.2.1.size
    clear hM h5 e0 e1 e2 e3
    go_wp2_with (at_builtin; go_loud (refine wpList_append_lit _ rfl (.tmp 39) (.tmp 40) _ rfl B 5 i0 _ 1 1 Tryd.underlying44 hi hz0 hz1 hz2 rfl (by omega) _ _ _ rfl ho5 _ _ 1 1 rfl rfl (by simp [Value.oneCell']) (by unfold maxLen; omega) (by omega) (by omega) ?_))
    intro v6 w6 ho6 hg6
    have h6 := (show Outs B n xs w w.heap.size ⟨c, jt, jf, k⟩ M v5 (w5.alloc (.cells #[.int .u8 10] 5)) from ⟨H5.out.1.alloc _, H5.out.2.1.alloc hz5 _, H5.out.2.2.1.alloc _, H5.out.2.2.2.alloc _⟩).grown (m := [10]) hBw hg6 (by rw [List.append_assoc]; exact ho6)
    have H6 := Lib.hid h6
    clear h6 ho6 hg6 ho5
    go_wp2
    go_ret
    refine ⟨v6, rfl, ?_, H6.out.2.1, H6.out.2.2.1⟩
    rw [HSH.out]
    exact H6.out.1
  · have he : (nameOf c).isEmpty = false := by
      cases h : nameOf c with
      | nil => exact absurd h hne
      | cons a r => rfl
    have HT : Hid (nameText c = nameOf c) := by
      unfold Hid nameText
      rw [if_neg hne]
    have hlt : (nameOf c).length ≤ 10 := by rw [← HT.out]; exact HLEN.out
    clear hne
    go_wp2_with (at_builtin; go_loud (refine Lib.wpList_append_own_string _ rfl (.tmp 14) _ 44 9 rfl B 5 i0 Tryd.underlying44 Tryd.underlying9 hi hz0 hz1 hz2 _ _ _ rfl ho1 (strOf (nameOf c)) rfl (by rw [strOf_size]; simp [maxLen]; omega) (by rw [strOf_size]; simp; omega) hz1' ?_))
    intro v2 w2 ho2 hg2 _
    have h2 := H1.out.grown (m := nameOf c) hBw hg2 (by rw [strOf_size] at ho2; rw [List.append_assoc]; exact ho2)
    have hcut : Outs B n xs w w.heap.size ⟨c, jt, jf, k⟩ (nameText c) v2 w2 := by
      rw [HT.out]
      exact h2
    clear h2 ho2 hg2 ho1
    have HC := Lib.hid hcut
    obtain ⟨e0, e1, e2, e3⟩ := hcut.cells
    clear hcut
    go_wp2_with fail
    refine (HNUM.out jt t0 (by omega) _ (by have := HLEN.out; omega) _ _ HC.out).mono ?_
    rintro r w3 ⟨v3, rfl, h3⟩
    have H3 := Lib.hid h3
    clear e0 e1 e2 e3
    obtain ⟨e0, e1, e2, e3⟩ := h3.cells
    clear h3
    go_wp2_with fail
    have z1 := dec_len 2 jt.toNat (by omega)
    refine (HNUM.out jf f0 (by omega) _ (by have := HLEN.out; simp; omega) _ _ H3.out).mono ?_
    rintro r w4 ⟨v4, rfl, h4⟩
    have H4 := Lib.hid h4
    clear e0 e1 e2 e3
    obtain ⟨e0, e1, e2, e3⟩ := h4.cells
    clear h4
    have z2 := dec_len 2 jf.toNat (by omega)
    go_wp2_with fail
    refine (HNUM.out k k0 (by omega) _ (by have := HLEN.out; simp; omega) _ _ H4.out).mono ?_
    rintro r w5 ⟨v5, rfl, h5⟩
    have H5 := Lib.hid h5
    have z3 := dec_len 9 k.toNat (by omega)
    have hlen : (nameText c ++ 32 :: dec jt.toNat ++ 32 :: dec jf.toNat ++ 32 :: dec k.toNat).length ≤ 40 := by have := HLEN.out; simp; omega
    have HSH : Hid (showLine ⟨c, jt, jf, k⟩ = (nameText c ++ 32 :: dec jt.toNat ++ 32 :: dec jf.toNat ++ 32 :: dec k.toNat) ++ [10]) := by
      unfold Hid showLine
      simp
    generalize hM : (nameText c ++ 32 :: dec jt.toNat ++ 32 :: dec jf.toNat ++ 32 :: dec k.toNat) = M at H5 hlen HSH
    have ho5 := H5.out.1
    have hz5 : B ≤ w5.heap.size := Nat.le_trans hBw H5.out.2.1.size
    clear hM h5 e0 e1 e2 e3
    go_wp2_with (at_builtin; go_loud (refine wpList_append_lit _ rfl (.tmp 39) (.tmp 40) _ rfl B 5 i0 _ 1 1 Tryd.underlying44 hi hz0 hz1 hz2 rfl (by omega) _ _ _ rfl ho5 _ _ 1 1 rfl rfl (by simp [Value.oneCell']) (by unfold maxLen; omega) (by omega) (by omega) ?_))
    intro v6 w6 ho6 hg6
    have h6 := (show Outs B n xs w w.heap.size ⟨c, jt, jf, k⟩ M v5 (w5.alloc (.cells #[.int .u8 10] 5)) from ⟨H5.out.1.alloc _, H5.out.2.1.alloc hz5 _, H5.out.2.2.1.alloc _, H5.out.2.2.2.alloc _⟩).grown (m := [10]) hBw hg6 (by rw [List.append_assoc]; exact ho6)
    have H6 := Lib.hid h6
    clear h6 ho6 hg6 ho5
    go_wp2
    go_ret
    refine ⟨v6, rfl, ?_, H6.out.2.1, H6.out.2.2.1⟩
    rw [HSH.out]
    exact H6.out.1

def ShowsAt (n : Nat) (l : List Ins) (w : World) (v i : Value) (wr : World) : Prop :=
  ∃ k : Nat, k ≤ n ∧ i = .int .i64 k ∧ wr.ownsRow w.heap.size 5 1 v ((l.take k).flatMap showLine).length (bytesV ((l.take k).flatMap showLine)) ∧ (∀ x ∈ l.take k, x.fits = true) ∧ Below w.heap.size w wr

set_option maxRecDepth 100000 in
set_option maxHeartbeats 4000000 in
theorem show_any (A : Option Addr) (n c : Nat) (l : List Ins) (w : World) (hL : Laid w) (hl : Lies w w.heap.size 4 A n (cellsOf l)) (hok : ∀ y ∈ l, y.Ok) (hn : n ≤ 4294967296) :
    Calls Tryd.prog 9 #[.slice A n c] w fun e w' => e = .returned (.string (strOf (showOf l))) ∧ Below w.heap.size w w' := by
  have hln : l.length = n := by have := hl.1; rw [cells_len] at this; omega
  have HLN := Lib.hid hln
  have HOK := Lib.hid hok
  have HL := Lib.hid hL
  clear hln hok hL
  go_enter Tryd.func9, Tryd.ntmps9
  go_wp2
  go_loopw [3, 8] (fun v i wr => ShowsAt n l w v i wr) (fun _ i _ => n - (intOf i).toNat)
  case atStart => exact ⟨0, Nat.zero_le _, rfl, World.ownsRow_nil _ _ _ _, by simp, Below.refl _ _⟩
  case round =>
    obtain ⟨k, hk, rfl, hown, hall, hnx⟩ := hrel
    by_cases hlt : k < n
    · obtain ⟨b, o, x, rfl, hb, hx, e0, e1, e2, e3⟩ := (hl.below hnx).ins hlt
      have hmem := List.mem_of_getElem? hx
      have HXO := Lib.hid (HOK.out x hmem)
      have HX := Lib.hid hx
      have HALL := Lib.hid hall
      have HMEM := Lib.hid hmem
      have HNX := Lib.hid hnx
      have HOWN := Lib.hid hown
      have hz0 : ((l.take k).flatMap showLine).length ≤ 30 * 4294967296 := by
        have h1 := lines_len (l.take k) HALL.out (fun y hy => (HOK.out y (List.mem_of_mem_take hy)).k1)
        have h2 : (l.take k).length ≤ k := List.length_take_le _ _
        omega
      clear hx hall hmem hnx hown
      go_wp2_with fail
      refine (fits_any x _).mono ?_
      rintro r w1 ⟨rfl, hb1⟩
      have hi := (Box.new wr 38 #[.int .i64 x.code, .int .i64 x.jt, .int .i64 x.jf, .int .u32 x.k]).below hb1 (by simp)
      have HI := Lib.hid hi
      have HN1 := Lib.hid ((below_alloc HNX.out (Nat.le_refl _) _).trans (hb1.mono (by have := HNX.out.size; simp; omega)))
      have HO1 := Lib.hid (own_below (HOWN.out.alloc (.cells #[.int .i64 x.code, .int .i64 x.jt, .int .i64 x.jf, .int .u32 x.k] 38)) hb1)
      clear hi hb1 e0 e1 e2 e3
      by_cases hf : x.fits = true
      · rw [hf]
        have HC := Lib.hid (appendLine_any w.heap.size _ x HXO.out hf _ _ w w1 HL.out (Nat.le_refl _) HN1.out HO1.out HN1.out.size (by omega))
        have HF := Lib.hid hf
        have j0 := HI.out.cell 0
        have j1 := HI.out.cell 1
        have j2 := HI.out.cell 2
        have j3 := HI.out.cell 3
        simp only [List.getElem?_toArray, List.getElem?_cons_zero, List.getElem?_cons_succ] at j0 j1 j2 j3
        clear hf HI
        have HT : Hid ((l.take (k + 1)).flatMap showLine = (l.take k).flatMap showLine ++ showLine x) := by
          unfold Hid
          rw [take_one HX.out, List.flatMap_append, List.flatMap_singleton]
        have HALL1 : Hid (∀ y ∈ l.take (k + 1), y.fits = true) := by
          intro y hy
          rw [take_one HX.out] at hy
          rcases List.mem_append.1 hy with h | h
          · exact HALL.out y h
          · rw [List.mem_singleton.1 h]; exact HF.out
        go_wp2_with fail
        refine (HC.out).mono ?_
        rintro r w2 ⟨v2, rfl, ho2, hb2, _⟩
        have HO2 := Lib.hid ho2
        clear ho2 j0 j1 j2 j3
        go_wp2
        go_roundw
        case rel => exact ⟨k + 1, by omega, by go_num, by rw [HT.out, List.length_append, bytesV_append]; exact HO2.out, HALL1.out, HN1.out.trans hb2⟩
        case measure => simp [intOf]; omega
      · have hf' : x.fits = false := by simpa using hf
        rw [hf']
        have HR : Hid (showOf l = []) := by
          unfold Hid showOf
          rw [if_neg]
          intro h
          exact hf (List.all_eq_true.1 h x HMEM.out)
        clear hf hf'
        go_wp2
        go_ret
        exact ⟨by rw [HR.out]; rfl, HN1.out⟩
    · obtain rfl : k = n := by omega
      have HR : Hid (showOf l = (l.take k).flatMap showLine) := by
        unfold Hid showOf
        rw [List.take_of_length_le (by rw [HLN.out]; omega)] at hall ⊢
        rw [if_pos (List.all_eq_true.2 hall)]
      obtain ⟨A1, k1, rfl, hk1, hl1⟩ := own_form hown
      have hconv := run_string_lies 44 9 5 Tryd.underlying44 Tryd.underlying5 Tryd.underlying9 hl1 (c := k1)
      generalize (l.take k).flatMap showLine = M at hconv HR hl1 hk1 ⊢
      clear hall hown hl1
      go_wp2
      go_ret
      exact ⟨by rw [HR.out]; rfl, hnx⟩

end Go.Proofs.YtdcpdieejknliaaDoor
