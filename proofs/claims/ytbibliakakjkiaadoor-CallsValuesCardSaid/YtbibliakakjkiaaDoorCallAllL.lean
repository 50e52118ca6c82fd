/- What the landed All gives. -/
import Derived.Test.YtbibliakakjkiaaDoorCallFindL
import Derived.Test.YtbibliakakjkiaaDoorAppend
namespace Go.Proofs.YtbibliakakjkiaaDoor
open Go.RowKit

/-- A call's params don't lie in the row that grows. -/
def OffRow (v : Value) (p : Placed) : Prop := ∀ b o, p.2.1 = some ⟨b, o, none⟩ → 0 < p.1.params.length → v.ownBlock ≠ some b

theorem calls_in (s : List UInt8) (k : Nat) (r : RowV) (hr : callTab[k]? = some r) (h : selOf s r ≠ -1) : callsIn s (callTab.take (k + 1)) = callsIn s (callTab.take k) ++ [⟨r.name, selOf s r, r.params⟩] := by
  have hs : 0 ≤ selOf s r := by
    obtain ⟨t0, t1, t2, t3, t4, t5⟩ := tab_bounds r (List.mem_of_getElem? hr)
    unfold selOf at h ⊢
    split
    · simp_all; omega
    · split
      · simp_all; omega
      · split
        · simp_all; omega
        · simp_all
  unfold callsIn
  rw [List.take_add_one, hr]
  simp [List.filter_append, hs]
theorem calls_out (s : List UInt8) (k : Nat) (r : RowV) (hr : callTab[k]? = some r) (h : selOf s r = -1) : callsIn s (callTab.take (k + 1)) = callsIn s (callTab.take k) := by
  unfold callsIn
  rw [List.take_add_one, hr]
  simp [List.filter_append, h]

/-- What All has made so far. -/
def AllMade (l : List CallV) (B : Nat) (w0 w : World) (v : Value) : Prop :=
  ∃ ps : List Placed, ps.map Prod.fst = l ∧ w.ownsRow B 30 3 v ps.length (ps.flatMap callVals) ∧ (∀ p ∈ ps, ParamsLie w w.heap.size p ∧ OffRow v p) ∧ Below B w0 w

theorem AllMade.step {l : List CallV} {B : Nat} {w0 w w' : World} {v : Value} (h : AllMade l B w0 w v) (hB : B ≤ w.heap.size) (hb : Below w.heap.size w w') : AllMade l B w0 w' v := by
  obtain ⟨ps, h1, h2, h3, h4⟩ := h
  exact ⟨ps, h1, own_below h2 hb, fun p hp => ⟨((h3 p hp).1.below hb).wider hb.size, (h3 p hp).2⟩, h4.trans (hb.mono hB)⟩

theorem calls_len (s : List UInt8) (k : Nat) : (callsIn s (callTab.take k)).length ≤ 17 := by
  unfold callsIn
  rw [List.length_map]
  exact Nat.le_trans (List.length_filter_le _ _) (by rw [List.length_take]; exact Nat.min_le_right _ _)

theorem params_grown {w w' : World} {v : Value} {p : Placed} (h : ParamsLie w w.heap.size p) (ho : w.grownBy w' v.ownBlock) (hg : OffRow v p) : ParamsLie w' w'.heap.size p := by
  refine ⟨⟨h.1.1, fun h0 => ?_⟩, h.2⟩
  obtain ⟨b, o, e, hb, hc⟩ := h.1.2 h0
  exact ⟨b, o, e, Nat.lt_of_lt_of_le hb ho.size, fun j u hu => (World.cell?_of_block (ho.block b hb (fun e2 => hg b o e h0 e2.symm))).trans (hc j u hu)⟩

/-- One more call: the literal lies in a block of its own, then the row has grown. -/
theorem all_push {l : List CallV} {B : Nat} {w0 w w' : World} {v v' : Value} {x : CallV} {P : Option Addr} {c : Nat} {ps : List Placed} (hps : ps.map Prod.fst = l) (hown : w.ownsRow B 30 3 v ps.length (ps.flatMap callVals))
    (hpp : ∀ p ∈ ps, ParamsLie w w.heap.size p ∧ OffRow v p) (hbe : Below B w0 w) (hB : B ≤ w.heap.size) (hp : ParamsLie w w.heap.size (x, P, c)) (ho : OffRow v (x, P, c)) (u : Value) (hu : callVals (x, P, c) = [.string (strOf x.name), .int .u32 x.nr, u])
    (hown' : w'.ownsRow B 30 3 v' (ps.length + 1) (ps.flatMap callVals ++ [.string (strOf x.name), .int .u32 x.nr, u])) (hg : (w.alloc (.cells #[.string (strOf x.name), .int .u32 x.nr, u] 30)).grownBy w' v.ownBlock)
    (hv : v'.ownBlock = v.ownBlock ∨ v'.ownBlock = some (w.heap.size + 1)) : AllMade (l ++ [x]) B w0 w' v' := by
  have hba : Below w.heap.size w (w.alloc (.cells #[.string (strOf x.name), .int .u32 x.nr, u] 30)) := below_alloc (Below.refl _ _) (Nat.le_refl _) _
  have key : ∀ p, ParamsLie w w.heap.size p → OffRow v p → ParamsLie w' w'.heap.size p ∧ OffRow v' p := by
    intro p h1 h2
    refine ⟨params_grown ((h1.below hba).wider hba.size) hg h2, fun b o e h0 h => ?_⟩
    rcases hv with hv | hv
    · exact h2 b o e h0 (hv ▸ h)
    · obtain ⟨b', o', e', hb', _⟩ := h1.1.2 h0
      rw [e] at e'
      obtain ⟨rfl, _⟩ : b = b' ∧ o = o' := by simpa using e'
      rw [hv] at h
      have := Option.some.inj h
      omega
  refine ⟨ps ++ [(x, P, c)], by rw [List.map_append, hps]; rfl, ?_, ?_, below_grown (hbe.trans (hba.mono hB)) (hown.alloc _) (Nat.le_refl _) (by simp; omega) hg⟩
  · rw [List.length_append, List.flatMap_append]
    simp only [List.length_singleton, List.flatMap_singleton, hu]
    exact hown'
  · intro p hp'
    rcases List.mem_append.1 hp' with h | h
    · exact key p (hpp p h).1 (hpp p h).2
    · obtain rfl : p = (x, P, c) := by simpa using h
      exact key _ hp ho

set_option maxRecDepth 100000 in
set_option maxHeartbeats 2000000 in
theorem land_all (s : ByteArray) (w : World) (hL : Laid w) : Calls Tryd.prog 13 #[.string s] w (NewCalls (callsOf s.data.toList) w) := by
  obtain ⟨i0, hi, hz0, hz1, hz2⟩ := info_parts Tryd.infoCall
  have HC : Hid (∀ r W, r ∈ callTab → Below w.heap.size w W → Calls Tryd.prog 18 #[.agg #[.string (strOf r.name), .string (strOf (joinSp r.params)), .int .i64 r.amd, .int .i64 r.x86, .int .i64 r.arm], .string s] W (OneCallNew (rowCall s.data.toList r) W)) := fun r W hr hW => land_callNew r hr s W (hL.below hW)
  have HIN : Hid (∀ k r, callTab[k]? = some r → selOf s.data.toList r ≠ -1 → callsIn s.data.toList (callTab.take (k + 1)) = callsIn s.data.toList (callTab.take k) ++ [⟨r.name, selOf s.data.toList r, r.params⟩]) := calls_in _
  have HOUT : Hid (∀ k r, callTab[k]? = some r → selOf s.data.toList r = -1 → callsIn s.data.toList (callTab.take (k + 1)) = callsIn s.data.toList (callTab.take k)) := calls_out _
  obtain ⟨S, hS⟩ : ∃ S, S = s.data.toList := ⟨_, rfl⟩
  rw [← hS] at HC HIN HOUT ⊢
  clear hS hL
  go_enter Tryd.func13, Tryd.ntmps13
  go_wp2_with fail
  refine (land_rows _).mono ?_
  rintro e w1 ⟨A, rfl, hl1, hb1⟩
  have HN1 := Lib.hid hb1
  have HL1 := Lib.hid hl1
  have hs1 := hb1.size
  clear hb1 hl1
  go_wp2_with fail
  go_loopw [3, 5, 6, 7, 10] (fun v _ _ _ i wr => ∃ k : Nat, k ≤ 17 ∧ i = .int .i64 k ∧ AllMade (callsIn S (callTab.take k)) w1.heap.size w1 wr v) (fun _ _ _ _ i _ => 17 - (intOf i).toNat)
  case atStart => exact ⟨0, by omega, rfl, [], rfl, World.ownsRow_nil _ _ _ _, fun p hp => absurd hp (by simp), Below.refl _ _⟩
  case round =>
    obtain ⟨k, hk, rfl, hm⟩ := hrel
    have HM := Lib.hid hm
    have hnr : Below w1.heap.size w1 wr := hm.choose_spec.2.2.2
    clear hm
    by_cases hlt : k < 17
    · obtain ⟨r, hr, _⟩ := tab_row k hlt
      obtain ⟨b, o, rfl, hb, hc⟩ := land_row HL1.out hnr
      obtain ⟨e0, e1, e2, e3, e4⟩ := hc k r hr
      have hbw : b < wr.heap.size := Nat.lt_of_lt_of_le hb hnr.size
      have HR := Lib.hid hr
      clear hc hr
      have hrm : r ∈ callTab := List.mem_of_getElem? HR.out
      have hb0 : Below wr.heap.size wr (wr.alloc (.cells #[.string (strOf r.name), .string (strOf (joinSp r.params)), .int .i64 r.amd, .int .i64 r.x86, .int .i64 r.arm] 44)) := below_alloc (Below.refl _ _) (Nat.le_refl _) _
      have HM0 := Lib.hid (HM.out.step hnr.size hb0)
      have hn0 := below_step (HN1.out.trans (hnr.mono HN1.out.size)) (Nat.le_refl _) hb0
      have hrow := HC.out r _ hrm hn0
      have HB0 := Lib.hid hb0
      by_cases hn : selOf S r = -1
      · have hrc : rowCall S r = (noCall, false) := by unfold rowCall; rw [if_pos hn]
        rw [hrc] at hrow
        have HROW := Lib.hid hrow
        have HNEXT := Lib.hid (HOUT.out k r HR.out hn)
        clear hrc hrow hn hb0 hn0 hrm
        go_wp2_with fail
        generalize wr.alloc (.cells #[.string (strOf r.name), .string (strOf (joinSp r.params)), .int .i64 r.amd, .int .i64 r.x86, .int .i64 r.arm] 44) = w0 at *
        refine HROW.out.mono ?_
        rintro e w2 ⟨P, c, rfl, _, _, hb2⟩
        have hm2 := HM0.out.step (Nat.le_trans hnr.size HB0.out.size) hb2
        have hw2 : w1.heap.size ≤ w2.heap.size := Nat.le_trans (Nat.le_trans hnr.size HB0.out.size) hb2.size
        have HM2 := Lib.hid hm2
        clear hb2 hm2
        go_wp2_with fail
        go_roundw
        case rel => exact ⟨k + 1, by omega, by go_num, by rw [HNEXT.out]; exact HM2.out.step hw2 (below_alloc (Below.refl _ _) (Nat.le_refl _) _)⟩
        case measure => simp [intOf]; omega
      · have hrc : rowCall S r = (⟨r.name, selOf S r, r.params⟩, true) := by unfold rowCall; rw [if_neg hn]
        rw [hrc] at hrow
        have HROW := Lib.hid hrow
        have HNEXT := Lib.hid (HIN.out k r HR.out hn)
        clear hrc hrow hn hb0 hn0 hrm
        go_wp2_with fail
        generalize wr.alloc (.cells #[.string (strOf r.name), .string (strOf (joinSp r.params)), .int .i64 r.amd, .int .i64 r.x86, .int .i64 r.arm] 44) = w0 at *
        refine HROW.out.mono ?_
        rintro e w2 ⟨P, c, rfl, hp, hnew, hb2⟩
        have hm2 := HM0.out.step (Nat.le_trans hnr.size HB0.out.size) hb2
        have hw2 : w1.heap.size ≤ w2.heap.size := Nat.le_trans (Nat.le_trans hnr.size HB0.out.size) hb2.size
        have HM2 := Lib.hid hm2
        have hcur : ∀ k, u3.ownBlock = some k → k < w0.heap.size := by
          obtain ⟨ps, _, hown, _, _⟩ := HM0.out
          exact fun k hk => (hown.lt k hk).2
        have hkl : (callsIn S (callTab.take k)).length ≤ 17 := calls_len S k
        have hba : Below w2.heap.size w2 (w2.alloc (.cells #[.string (strOf r.name), .int .u32 (selOf S r), .slice P r.params.length c] 30)) := below_alloc (Below.refl _ _) (Nat.le_refl _) _
        obtain ⟨ps, hps, hown, hpp, hbe⟩ := HM2.out
        have hpl : ps.length ≤ 17 := by rw [← List.length_map (f := Prod.fst), hps]; exact hkl
        have hown3 := own_below hown hba
        have HOWN3 := Lib.hid hown3
        have hoff : OffRow u3 (⟨r.name, selOf S r, r.params⟩, P, c) := fun b o e _ h => absurd (hcur b h) (by have := hnew b o e; omega)
        have HPP3 : Hid (∀ p ∈ ps, ParamsLie (w2.alloc (.cells #[.string (strOf r.name), .int .u32 (selOf S r), .slice P r.params.length c] 30)) (w2.alloc (.cells #[.string (strOf r.name), .int .u32 (selOf S r), .slice P r.params.length c] 30)).heap.size p ∧ OffRow u3 p) := fun p hq => ⟨((hpp p hq).1.below hba).wider hba.size, (hpp p hq).2⟩
        have HP3 : Hid (ParamsLie (w2.alloc (.cells #[.string (strOf r.name), .int .u32 (selOf S r), .slice P r.params.length c] 30)) (w2.alloc (.cells #[.string (strOf r.name), .int .u32 (selOf S r), .slice P r.params.length c] 30)).heap.size (⟨r.name, selOf S r, r.params⟩, P, c)) := (hp.below hba).wider hba.size
        have HBE3 : Hid (Below w1.heap.size w1 (w2.alloc (.cells #[.string (strOf r.name), .int .u32 (selOf S r), .slice P r.params.length c] 30))) := hbe.trans (hba.mono hw2)
        have HX3 := Lib.hid (Box.new w2 30 #[.string (strOf r.name), .int .u32 (selOf S r), .slice P r.params.length c])
        have hw3 : w1.heap.size ≤ (w2.alloc (.cells #[.string (strOf r.name), .int .u32 (selOf S r), .slice P r.params.length c] 30)).heap.size := Nat.le_trans hw2 hba.size
        have HPS := Lib.hid hps
        have HOFF := Lib.hid hoff
        clear hb2 hp hm2 hnew hcur hkl hps hown hpp hbe hoff hba
        go_upto_region 7 with (fail)
        generalize w2.alloc (.cells #[.string (strOf r.name), .int .u32 (selOf S r), .slice P r.params.length c] 30) = w3 at *
        have x0 := HX3.out.cell 0
        have x1 := HX3.out.cell 1
        have x2 := HX3.out.cell 2
        simp only [List.getElem?_toArray, List.getElem?_cons_zero, List.getElem?_cons_succ] at x0 x1 x2
        have xg := HX3.out.lt
        go_wp2_with (at_builtin; go_loud (refine wpList_append_lit_at _ rfl (.tmp 21) (.tmp 23) _ rfl w1.heap.size 30 i0 _ 3 48 Tryd.underlying34 hi hz0 hz1 hz2 rfl (by omega) _ _ _ rfl hown3 _ _ 1 1 rfl rfl ?c1 ?c2 ?c3 ?c4 ?_))
        case c1 => exact ⟨rfl, rfl, rfl⟩
        case c2 => unfold maxLen; omega
        case c3 => omega
        case c4 => exact hw3
        · intro v' w' hown4 hg4 hv4
          have HDONE := Lib.hid (all_push HPS.out HOWN3.out HPP3.out HBE3.out hw3 HP3.out HOFF.out (.slice P r.params.length c) rfl hown4 hg4 hv4)
          clear hown4 hg4 hv4 hown3
          go_wp2_with fail
          go_roundw
          case rel => exact ⟨k + 1, by omega, by go_num, by rw [HNEXT.out]; exact HDONE.out⟩
          case measure => simp [intOf]; omega
    · obtain rfl : k = 17 := by omega
      obtain ⟨ps, hps, hown, hpp, hbe⟩ := HM.out
      obtain ⟨B, c, rfl, hc, hl⟩ := own_form hown
      have hlen : ps.length = (callsOf S).length := by rw [← List.length_map (f := Prod.fst), hps]; rfl
      have HF : Hid (∃ A' c' qs, Ending.returned (.slice B ps.length c) = .returned (.slice A' (callsOf S).length c') ∧ (callsOf S).length ≤ c' ∧ qs.map Prod.fst = callsOf S ∧ CallsLie wr wr.heap.size A' (callsOf S).length qs ∧ Below w.heap.size w wr) := by
        rw [← hlen]
        exact ⟨B, c, ps, rfl, hc, hps, ⟨hl, fun p hp => (hpp p hp).1⟩, HN1.out.trans (hbe.mono HN1.out.size)⟩
      clear hps hown hpp hbe hc hl hlen HM
      go_wp2_with fail
      go_ret
      exact HF.out

end Go.Proofs.YtbibliakakjkiaaDoor
