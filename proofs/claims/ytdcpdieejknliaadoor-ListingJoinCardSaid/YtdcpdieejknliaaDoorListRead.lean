/- The landed Read: a line of a text, and all its lines. -/
import Derived.Test.YtdcpdieejknliaaDoorListIn
namespace Go.Proofs.YtdcpdieejknliaaDoor
open Go.RowKit

theorem tail_num (c : Int) (f : List UInt8) : tailLand c f = if numHas (cutOf 32 f).1 255 && (numHas (cutOf 32 (cutOf 32 f).2.1).1 255 && numHas (cutOf 32 (cutOf 32 f).2.1).2.1 4294967295) then some ⟨c, numGet (cutOf 32 f).1 255, numGet (cutOf 32 (cutOf 32 f).2.1).1 255, numGet (cutOf 32 (cutOf 32 f).2.1).2.1 4294967295⟩ else none := by
  unfold tailLand lineTail numHas numGet
  by_cases h1 : (numOf (cutOf 32 f).1 255).2 = true
  · by_cases h2 : (numOf (cutOf 32 (cutOf 32 f).2.1).1 255).2 = true
    · by_cases h3 : (numOf (cutOf 32 (cutOf 32 f).2.1).2.1 4294967295).2 = true
      · simp [h1, h2, h3]
      · simp [h1, h2, h3]
    · simp [h1, h2]
  · simp [h1]

theorem four_bools (a b c d : Bool) (h : ¬ (a = true ∧ b = true ∧ c = true ∧ d = true)) : a = false ∨ (a = true ∧ (b = false ∨ (b = true ∧ (c = false ∨ (c = true ∧ d = false))))) := by
  cases a <;> cases b <;> cases c <;> cases d <;> simp at h ⊢

set_option maxRecDepth 100000 in
set_option maxHeartbeats 4000000 in
theorem readLine_any (l : List UInt8) (hs : l.length ≤ 4294967280) (w : World) (hL : Laid w) :
    Calls Tryd.prog 14 #[.string (strOf l)] w (LineIs (lineRead l) w) := by
  have HL := Lib.hid hL
  have HO : Hid (lineRead l = match headLand l with | none => none | some (c, f) => tailLand c f) := (line_is l).symm
  have HCODE := Lib.hid (fun W h => readCode_any l hs W h)
  generalize headLand l = O at HO HCODE
  generalize lineRead l = R at HO ⊢
  clear hL
  go_enter Tryd.func14, Tryd.ntmps14
  go_wp2_with fail
  have hb0 := (Below.refl w.heap.size w).alloc (Nat.le_refl _) (.cells #[.int .i64 0, .int .i64 0, .int .i64 0, .int .u32 0] 38)
  have hbox := Box.new w 38 #[.int .i64 0, .int .i64 0, .int .i64 0, .int .u32 0]
  have H0 := Lib.hid (HL.out.below hb0)
  refine (HCODE.out _ H0.out).mono ?_
  rintro r w1 ⟨c, f, rfl, hcf, hfl, hb1⟩
  have HB1 := Lib.hid (hb0.trans (hb1.mono hb0.size))
  have HX1 := Lib.hid (hbox.step hb1)
  have H1 := Lib.hid (H0.out.below hb1)
  have HCF := Lib.hid hcf
  clear hcf hb0 hbox hb1
  have HC2 := Lib.hid (cut_any f 32 w1 H1.out (by omega))
  obtain ⟨hx1, hx2⟩ := cutOf_len 32 f
  have HT := Lib.hid (tail_num c f)
  generalize hA : (cutOf 32 f).1 = x at hx1 HC2 HT
  generalize hF : (cutOf 32 f).2.1 = f2 at hx2 HC2 HT
  generalize hQ : (cutOf 32 f).2.2 = q1 at HC2
  clear hA hF hQ
  have HC3 := Lib.hid (fun W h => cut_any f2 32 W h (by omega))
  obtain ⟨hy1, hy2⟩ := cutOf_len 32 f2
  generalize hA : (cutOf 32 f2).1 = y at hy1 HC3 HT
  generalize hF : (cutOf 32 f2).2.1 = z at hy2 HC3 HT
  generalize hQ : (cutOf 32 f2).2.2 = q2 at HC3
  clear hA hF hQ
  have HNX := Lib.hid (fun W h => readNumber_any 8 255 (.inl ⟨rfl, rfl⟩) x (by omega) W h)
  have HNY := Lib.hid (fun W h => readNumber_any 8 255 (.inl ⟨rfl, rfl⟩) y (by omega) W h)
  have HNZ := Lib.hid (fun W h => readNumber_any 32 4294967295 (.inr (.inr ⟨rfl, rfl⟩)) z (by omega) W h)
  have hbx := numGet_bd x 255 (by omega)
  have hby := numGet_bd y 255 (by omega)
  have hbz := numGet_bd z 4294967295 (by omega)
  generalize hq : numGet x 255 = xv at HT hbx
  generalize hq2 : numGet y 255 = yv at HT hby
  generalize hq3 : numGet z 4294967295 = zv at HT hbz
  generalize hq4 : numHas x 255 = xb at HT
  generalize hq5 : numHas y 255 = yb at HT
  generalize hq6 : numHas z 4294967295 = zb at HT
  have HNX : Hid (∀ W, Laid W → Calls Tryd.prog 24 #[.string (strOf x), .int .i64 8] W fun e w' => e = .returned (.tuple #[.int .u64 xv, .bool xb]) ∧ Below W.heap.size W w') := by rw [← hq, ← hq4]; exact HNX.out
  have HNY : Hid (∀ W, Laid W → Calls Tryd.prog 24 #[.string (strOf y), .int .i64 8] W fun e w' => e = .returned (.tuple #[.int .u64 yv, .bool yb]) ∧ Below W.heap.size W w') := by rw [← hq2, ← hq5]; exact HNY.out
  have HNZ : Hid (∀ W, Laid W → Calls Tryd.prog 24 #[.string (strOf z), .int .i64 32] W fun e w' => e = .returned (.tuple #[.int .u64 zv, .bool zb]) ∧ Below W.heap.size W w') := by rw [← hq3, ← hq6]; exact HNZ.out
  clear hq hq2 hq3 hq4 hq5 hq6 hx1 hx2 hy1 hy2
  have y1 : IntKind.i64.wrap xv = xv := by rw [IntKind.wrap_i64]; omega
  have y2 : IntKind.i64.wrap yv = yv := by rw [IntKind.wrap_i64]; omega
  have y3 : IntKind.u32.wrap zv = zv := by rw [IntKind.wrap_u32]; omega
  go_wp2_with fail
  refine (HC2.out).mono ?_
  rintro r w2 ⟨rfl, hb2⟩
  have HB2 := Lib.hid (below_step HB1.out (Nat.le_refl _) hb2)
  have HX2 := Lib.hid (HX1.out.step hb2)
  have H2 := Lib.hid (H1.out.below hb2)
  clear hb2
  go_wp2_with fail
  refine (HC3.out _ H2.out).mono ?_
  rintro r w3 ⟨rfl, hb3⟩
  have HB3 := Lib.hid (below_step HB2.out (Nat.le_refl _) hb3)
  have HX3 := Lib.hid (HX2.out.step hb3)
  have H3 := Lib.hid (H2.out.below hb3)
  clear hb3
  go_wp2_with fail
  refine (HNX.out _ H3.out).mono ?_
  rintro r w4 ⟨rfl, hb4⟩
  have HB4 := Lib.hid (below_step HB3.out (Nat.le_refl _) hb4)
  have HX4 := Lib.hid (HX3.out.step hb4)
  have H4 := Lib.hid (H3.out.below hb4)
  clear hb4
  go_wp2_with fail
  refine (HNY.out _ H4.out).mono ?_
  rintro r w5 ⟨rfl, hb5⟩
  have HB5 := Lib.hid (below_step HB4.out (Nat.le_refl _) hb5)
  have HX5 := Lib.hid (HX4.out.step hb5)
  have H5 := Lib.hid (H4.out.below hb5)
  clear hb5
  go_wp2_with fail
  refine (HNZ.out _ H5.out).mono ?_
  rintro r w6 ⟨rfl, hb6⟩
  have HB6 := Lib.hid (below_step HB5.out (Nat.le_refl _) hb6)
  have HX6 := Lib.hid (HX5.out.step hb6)
  clear hb6 HC2 HC3 HNX HNY HNZ HCODE
  have g1 := HX6.out.lt
  have r0 := HX6.out.cell 0
  have r1 := HX6.out.cell 1
  have r2 := HX6.out.cell 2
  have r3 := HX6.out.cell 3
  simp only [List.getElem?_toArray, List.getElem?_cons_zero, List.getElem?_cons_succ] at r0 r1 r2 r3
  have f0 := HX6.out.free 0
  have f1 := HX6.out.free 1
  have f2 := HX6.out.free 2
  have f3 := HX6.out.free 3
  by_cases hall : O.isSome = true ∧ xb = true ∧ yb = true ∧ zb = true
  · obtain ⟨h1, rfl, rfl, rfl⟩ := hall
    have HR : Hid (R = some ⟨c, xv, yv, zv⟩) := by
      unfold Hid
      obtain ⟨p, hp⟩ := Option.isSome_iff_exists.1 h1
      obtain ⟨e1, e2⟩ := HCF.out p hp
      rw [HO.out, hp]
      subst e1 e2
      exact HT.out
    clear HO HT HCF
    go_wp2_with fail
    have hbx := box_four (a := .int .i64 c) (b := .int .i64 xv) (c := .int .i64 yv) (d := .int .u32 zv) HX6.out
    refine bodyPost_ret (results_box_tmp rfl _ _ w.heap.size 38 _ ?g1x hbx _ Tryd.underlying38 ?g2x ?g3x) ?g4x ?g5x
    case g2x => rfl
    case g3x => exact insSize
    case g1x => rfl
    case g4x => rfl
    case g5x =>
      refine ⟨⟨⟨c, xv, yv, zv⟩, ?_, ?_⟩, ?_⟩
      · rw [HR.out]; rfl
      · intro y hy
        rw [HR.out] at hy
        exact Option.some.inj hy
      · iterate 4 (with_reducible refine below_set (Nat.le_refl _) ?_)
        exact HB6.out
  · have HR : Hid (R = none) := by
      unfold Hid
      rw [HO.out]
      cases hO : O with
      | none => rfl
      | some p =>
        obtain ⟨e1, e2⟩ := HCF.out p hO
        subst e1 e2
        refine HT.out.trans (if_neg fun h => hall ?_)
        simp at h
        exact ⟨by rw [hO]; rfl, h.1, h.2.1, h.2.2⟩
    have hsome := four_bools _ _ _ _ hall
    clear HO HT HCF hall
    generalize O.isSome = ob at hsome ⊢
    rcases hsome with rfl | ⟨rfl, rfl | ⟨rfl, rfl | ⟨rfl, rfl⟩⟩⟩
    all_goals
      go_wp2_with fail
      have hbx := box_four (a := .int .i64 0) (b := .int .i64 0) (c := .int .i64 0) (d := .int .u32 0) HX6.out
      refine bodyPost_ret (results_box_tmp rfl _ _ w.heap.size 38 _ ?g1x hbx _ Tryd.underlying38 ?g2x ?g3x) ?g4x ?g5x
      case g2x => rfl
      case g3x => exact insSize
      case g1x => rfl
      case g4x => rfl
      case g5x =>
        refine ⟨⟨⟨0, 0, 0, 0⟩, ?_, ?_⟩, ?_⟩
        · rw [HR.out]; rfl
        · intro y hy
          rw [HR.out] at hy
          cases hy
        · iterate 4 (with_reducible refine below_set (Nat.le_refl _) ?_)
          exact HB6.out

/-! ### The whole text -/
theorem read_at_end (k : Nat) (acc : List Ins) : readFrom k acc (partsOf 10 []) = (acc, -1, 0) := rfl
theorem read_open (k : Nat) (acc : List Ins) (l : List UInt8) (hl : l ≠ []) (h : (cutOf 10 l).2.2 = false) : readFrom k acc (partsOf 10 l) = ([], (k : Int), 3) := by
  rw [parts_cut, h, if_neg (by simp)]
  rw [readFrom, if_neg hl]
theorem read_line (k : Nat) (acc : List Ins) (l : List UInt8) (h : (cutOf 10 l).2.2 = true) : readFrom k acc (partsOf 10 l) = match lineRead (cutOf 10 l).1 with
    | none => ([], (k : Int), 3)
    | some u => readFrom (k + 1) (acc ++ [u]) (partsOf 10 (cutOf 10 l).2.1) := by
  rw [parts_cut, h, if_pos rfl]
  cases hp : partsOf 10 (cutOf 10 l).2.1 with
  | nil => exact absurd hp (parts_ne _ _)
  | cons a r =>
    rw [readFrom]
    cases lineRead (cutOf 10 l).1 <;> rfl

def textLen : Value → Nat
  | .string s => s.size
  | _ => 0
/-- Where the reading of the lines stands. -/
def ReadsAt (N : Nat) (R : List Ins × Int × Int) (w : World) (s v i : Value) (wr : World) : Prop :=
  ∃ (rest : List UInt8) (acc : List Ins) (k : Nat), s = .string (strOf rest) ∧ rest.length + k ≤ N ∧ i = .int .i64 k ∧ wr.ownsRow w.heap.size 38 4 v acc.length (cellsOf acc) ∧ acc.length = k ∧ readFrom k acc (partsOf 10 rest) = R ∧ Below w.heap.size w wr

set_option maxRecDepth 100000 in
set_option maxHeartbeats 4000000 in
theorem read_any (s : ByteArray) (w : World) (hL : Laid w) (hs : s.size ≤ 4294967280) :
    Calls Tryd.prog 7 #[.string s] w (ReadIs (readOf s.data.toList) w) := by
  obtain ⟨i0, hi, hz0, hz1, hz2⟩ := info_parts infoInsL
  obtain ⟨R, hR⟩ : ∃ R, R = readOf s.data.toList := ⟨_, rfl⟩
  have hst : ReadsAt 4294967280 R w (.string s) (.slice none 0 0) (.int .i64 0) w :=
    ⟨s.data.toList, [], 0, by rw [strOf_of], by simpa using hs, rfl, World.ownsRow_nil _ _ _ _, rfl, hR.symm, Below.refl _ _⟩
  have HST := Lib.hid hst
  have HL := Lib.hid hL
  rw [← hR]
  clear hR hst hL
  go_enter Tryd.func7, Tryd.ntmps7
  go_wp2_with fail
  go_loopw [0, 5, 6] (fun s v i wr => ReadsAt 4294967280 R w s v i wr) (fun s _ _ _ => textLen s)
  case atStart => exact HST.out
  case round =>
    obtain ⟨rest, acc, k, rfl, hlen, rfl, hown, hacc, hrun, hnx⟩ := hrel
    have HOWN := Lib.hid hown
    have HACC := Lib.hid hacc
    have HRUN := Lib.hid hrun
    have HNX := Lib.hid hnx
    clear hown hacc hrun hnx
    by_cases hne : rest = []
    · have hRR : R = (acc, -1, 0) := by rw [← HRUN.out, hne, read_at_end]
      have HRR := Lib.hid hRR
      have f1 : (strOf rest).toList = [] := by rw [strOf_toList, hne]
      have f2 : ((strOf rest).toList == []) = true := by rw [strOf_toList, hne]; rfl
      have f3 : (strOf rest).toList.isEmpty = true := by rw [strOf_toList, hne]; rfl
      clear hRR hne
      go_wp2
      go_ret3
      exact ⟨_, by rw [HRR.out]; rfl, by rw [HRR.out]; exact HOWN.out, HNX.out⟩
    · obtain ⟨f3, f2⟩ := strOf_empty _ hne
      have HCUT := Lib.hid (cut_any rest 10 wr (HL.out.on (Nat.le_refl _) HNX.out) (by omega))
      have hln := cutOf_len 10 rest
      have HLESS : Hid ((cutOf 10 rest).2.2 = true → (cutOf 10 rest).2.1.length < rest.length) := cutOf_less 10 rest
      have HLINE := Lib.hid (fun W h => readLine_any (cutOf 10 rest).1 (by omega) W h)
      have HOPEN : Hid ((cutOf 10 rest).2.2 = false → R = ([], (k : Int), 3)) := fun h => by rw [← HRUN.out, read_open k acc rest hne h]
      have HMORE : Hid ((cutOf 10 rest).2.2 = true → R = match lineRead (cutOf 10 rest).1 with
          | none => ([], (k : Int), 3)
          | some u => readFrom (k + 1) (acc ++ [u]) (partsOf 10 (cutOf 10 rest).2.1)) := fun h => by rw [← HRUN.out, read_line k acc rest h]
      generalize (cutOf 10 rest).1 = q at HCUT HLINE HMORE hln
      generalize (cutOf 10 rest).2.1 = more at HCUT HLESS HMORE hln
      generalize (cutOf 10 rest).2.2 = ended at HCUT HLESS HOPEN HMORE
      clear hne HRUN
      go_wp2_with fail
      refine (HCUT.out).mono ?_
      rintro r w1 ⟨rfl, hb1⟩
      have HN1 := Lib.hid (below_step HNX.out (Nat.le_refl _) hb1)
      have HO1 := Lib.hid (own_below HOWN.out hb1)
      clear hb1 HCUT
      go_wp2_with fail
      refine (HLINE.out _ (HL.out.on (Nat.le_refl _) HN1.out)).mono ?_
      rintro r w2 ⟨⟨x, rfl, hx⟩, hb2⟩
      have HN2 := Lib.hid (below_step HN1.out (Nat.le_refl _) hb2)
      have HO2 := Lib.hid (own_below HO1.out hb2)
      clear hb2 HLINE
      cases ended with
      | false =>
        have HRR := Lib.hid (HOPEN.out rfl)
        clear HOPEN HMORE HLESS hx
        generalize (lineRead q).isSome = ok
        obtain ⟨xc, xt, xf, xk⟩ := x
        simp only [Ins.val]
        go_wp2
        all_goals
          go_ret3
          exact ⟨_, by rw [HRR.out]; rfl, by rw [HRR.out]; exact World.ownsRow_nil _ _ _ _, below_alloc HN2.out (Nat.le_refl _) _⟩
      | true =>
        have HRR := Lib.hid (HMORE.out rfl)
        have hlt := HLESS.out rfl
        clear HOPEN HMORE HLESS
        cases hres : lineRead q with
        | none =>
          have hR2 : R = ([], (k : Int), 3) := by rw [HRR.out, hres]
          have HR2 := Lib.hid hR2
          obtain ⟨xc, xt, xf, xk⟩ := x
          simp only [Ins.val, Option.isSome_none]
          clear hx hres hR2
          go_wp2
          go_ret3
          exact ⟨_, by rw [HR2.out]; rfl, by rw [HR2.out]; exact World.ownsRow_nil _ _ _ _, below_alloc HN2.out (Nat.le_refl _) _⟩
        | some u =>
          obtain rfl : x = u := hx u hres
          have hR2 : readFrom (k + 1) (acc ++ [x]) (partsOf 10 more) = R := by rw [HRR.out, hres]
          have HR2 := Lib.hid hR2
          have hal : acc.length = k := HACC.out
          have hown2 := HO2.out
          have hnx2 := HN2.out
          have hz2' := hnx2.size
          have hsz1 : (strOf rest).size = rest.length := strOf_size rest
          have hsz2 : (strOf more).size = more.length := strOf_size more
          simp only [Ins.val, Option.isSome_some]
          clear hx hres hR2 HRR
          go_wp2_with (at_builtin; go_loud (refine wpList_append_lies _ rfl (.tmp 34) (.tmp 36) _ rfl w.heap.size 38 i0 _ 4 32 Tryd.underlying22 hi hz0 hz1 hz2 rfl (by omega) _ _ _ rfl ((hown2.alloc _).alloc _) _ (some ⟨w2.heap.size + 1, 0, none⟩) 1 1 [.int .i64 x.code, .int .i64 x.jt, .int .i64 x.jf, .int .u32 x.k] rfl (lies_new _ 1 4 (by simp) rfl rfl) ?c1 ?c2 ?c3 ?c4 ?_))
          case c1 => simp [Value.oneCell']
          case c2 => unfold maxLen; omega
          case c3 => omega
          case c4 => simp; omega
          intro v' w' hown3 hg3
          have hnx3 : Below w.heap.size w w' := below_grown ((hnx2.alloc hz2' _).alloc (by simp; omega) _) ((hown2.alloc _).alloc _) (Nat.le_refl _) (by simp; omega) hg3
          have hown4 : w'.ownsRow w.heap.size 38 4 v' (acc ++ [x]).length (cellsOf (acc ++ [x])) := by
            rw [show (acc ++ [x]).length = k + 1 from by rw [List.length_append, hal]; rfl, show cellsOf (acc ++ [x]) = cellsOf acc ++ [.int .i64 x.code, .int .i64 x.jt, .int .i64 x.jf, .int .u32 x.k] from by simp [cellsOf, Ins.cells]]
            exact hown3
          have HO := Lib.hid hown4
          clear hown3 hg3 hown2 hnx2 hown4
          go_wp2
          go_roundw
          case rel => exact ⟨more, acc ++ [x], k + 1, rfl, by omega, by go_num, HO.out, by rw [List.length_append, hal]; rfl, HR2.out, hnx3⟩
          case measure => simp only [textLen]; omega

end Go.Proofs.YtdcpdieejknliaaDoor
