/- The walk of TokenBlank where the text is tokens; and all of it. -/
import Derived.Test.YtgabeacpgmomhaaDoorTokBlank
namespace Go.Proofs.YtgabeacpgmomhaaDoor
open Go.RowKit

/-- The i-th blank that the pads choose. -/
def bsOf (pads : List Int) (i : Nat) : List UInt8 := (sixBlanks[((pads.getD i 0) % 1024).toNat % 6]?).getD [32]
theorem bsOf_mem (pads : List Int) (i : Nat) : bsOf pads i ∈ sixBlanks := by
  unfold bsOf
  have h : ((pads.getD i 0) % 1024).toNat % 6 < sixBlanks.length := Nat.mod_lt _ (by decide)
  rw [List.getElem?_eq_getElem h]
  exact List.getElem_mem _

theorem blank_step (bs : Nat → List UInt8) (l : List TokV) (k : Nat) (q : TokV) (h : l[k]? = some q) : blankText bs k (l.drop k) = 32 :: (bs k ++ (srcOf q.kind q.text ++ blankText bs (k + 1) (l.drop (k + 1)))) := by
  have hk : k < l.length := (List.getElem?_eq_some_iff.1 h).1
  have e : l.drop k = q :: l.drop (k + 1) := by
    rw [List.drop_eq_getElem_cons hk]
    congr 1
    exact (List.getElem?_eq_some_iff.1 h).2
  rw [e]
  rfl
theorem blank_end (bs : Nat → List UInt8) (l : List TokV) : blankText bs l.length (l.drop l.length) = 32 :: bs l.length := by
  rw [List.drop_length]
  rfl
theorem blank_one (bs : Nat → List UInt8) (l : List TokV) (k : Nat) : ∃ u, blankText bs k (l.drop k) = 32 :: (bs k ++ u) := by
  cases h : l.drop k with
  | nil => exact ⟨[], by rw [List.append_nil]; rfl⟩
  | cons q t => exact ⟨_, rfl⟩

def sixVals : List Value := [.string ⟨#[32]⟩, .string ⟨#[9, 10]⟩, .string ⟨#[47, 47, 32, 120, 32, 34, 10]⟩, .string ⟨#[47, 42, 32, 125, 32, 42, 47]⟩, .string ⟨#[32, 47, 42, 42, 42, 47, 32]⟩, .string ⟨#[13, 10, 10]⟩]
theorem sixVals_eq : sixBlanks.map (fun b => Value.string (strOf b)) = sixVals := rfl
theorem six_at (w : World) (T : TypeId) (j : Nat) (hj : j < 6) : (w.alloc (.cells sixVals.toArray T)).cell? ⟨w.heap.size, j, none⟩ = some (.string (strOf ((sixBlanks[j]?).getD [32]))) := by
  have h1 := Box.new w T sixVals.toArray
  refine (h1.cell j).trans ?_
  rw [← sixVals_eq]
  have : j < sixBlanks.length := hj
  simp [List.getElem?_eq_getElem this]

set_option maxRecDepth 100000 in
set_option maxHeartbeats 8000000 in
theorem tblank_good {Y : World → Prop} (R : TokSays Y) (s : ByteArray) (P : Option Addr) (np cp : Nat) (pads : List Int) (w : World) (hY : Y w) (hp : Lies w w.heap.size 1 P np (pads.map (Value.int .i64))) (hs : s.size ≤ 500) (l : List TokV) (hv : splitOf s.data.toList = .ok l) (hnp : l.length + 1 ≤ np) :
    Calls Tryd.prog 4 #[.string s, .slice P np cp] w fun e w' => e = .returned (.bool true) ∧ Below w.heap.size w w' := by
  have H2 : Hid (∀ W : World, Calls Tryd.prog 9 #[.string s, .int .i64 0] W (SplitRes 0 (splitOf s.data.toList) W)) := fun W => split_any s 0 W
  have ls : s.data.toList.length = s.size := by simp
  obtain ⟨m', hm1, hm2, hm3⟩ := splitOf_blank (bsOf pads) (bsOf_mem pads) hv (by omega)
  obtain ⟨T, hT⟩ : ∃ T, T = blankText (bsOf pads) 0 l := ⟨_, rfl⟩
  rw [← hT] at hm1 hm3
  have H3 : Hid (∀ W : World, Below w.heap.size w W → Calls Tryd.prog 8 #[.string (strOf T), .int .i64 5] W (SplitRes 5 (.ok m') W)) := fun W hW => by
    have := R.split (strOf T) 5 W (R.keep _ _ hY hW) (by rw [strOf_size]; omega) (by decide) (by decide)
    rw [strOf_data, hm1] at this
    exact this
  have HT := Lib.hid hT
  have HK := Lib.hid hm2
  have hlm : m'.length = l.length := by
    have := congrArg List.length hm2
    simpa using this
  have hll := splitOf_few hv
  rw [hv] at H2
  obtain ⟨n, hn⟩ : ∃ n, n = l.length := ⟨_, rfl⟩
  have HNL := Lib.hid hn
  have HLM := Lib.hid hlm
  have HP0 := Lib.hid hp
  have hst := store_cx
  have hcx := fun W => eq_cx 0 0 W ord_0 ord_0
  have hsI : (s.size : Int) ≤ 500 := by omega
  have hn5 : n ≤ 500 := by omega
  have hnp2 : n + 1 ≤ np := by omega
  have hnpI : (n : Int) + 1 ≤ (np : Int) := by omega
  clear hv ls hT hm2 hm1 hlm hll hn hp hs hnp
  go_enter Tryd.func4, Tryd.ntmps4
  go_wp2_with fail
  refine (talive_any R _ hY).mono ?_
  rintro r w1 ⟨rfl, hb1⟩
  go_wp2_with fail
  refine (H2.out _).mono ?_
  intro r w2 h2
  obtain ⟨A2, c2, rfl, hc2, hl2, hb2⟩ := res_ok h2
  rw [← HNL.out] at hl2 hc2 ⊢
  have hn2 := below_step hb1 (Nat.le_refl _) hb2
  have HN3 := Lib.hid (below_alloc (below_alloc hn2 (Nat.le_refl _) (.cells (faultCells 0 0 0 0) 27)) (Nat.le_refl _) (.cells sixVals.toArray 9))
  have hbl : Below w2.heap.size w2 ((w2.alloc (.cells (faultCells 0 0 0 0) 27)).alloc (.cells sixVals.toArray 9)) := below_alloc (below_alloc (Below.refl w2.heap.size w2) (Nat.le_refl _) _) (Nat.le_refl _) _
  have HX3 := Lib.hid ((hl2.below hbl).wider hbl.size)
  have HP3 := Lib.hid ((HP0.out.below HN3.out).wider HN3.out.size)
  have H6 : Hid (∀ j, j < 6 → _) := fun j hj => six_at (w2.alloc (.cells (faultCells 0 0 0 0) 27)) 9 j hj
  clear h2 hb1 hb2 hn2 hl2 hbl HP0
  dsimp only [faultCells]
  unfold faultCells sixVals at HN3 HX3 HP3 H6
  go_wp2_with fail
  obtain ⟨gb, hgb⟩ : ∃ gb, gb = w2.heap.size + 1 := ⟨_, rfl⟩
  have hsz : (w2.alloc (.cells #[.int .i64 0, .int .i64 0, .complex .f64 0 0] 27)).heap.size = gb := by rw [hgb]; simp
  unfold Hid at H6
  rw [hsz] at H6
  rw [← hgb]
  have hgl : gb < ((w2.alloc (.cells #[.int .i64 0, .int .i64 0, .complex .f64 0 0] 27)).alloc (.cells #[.string ⟨#[32]⟩, .string ⟨#[9, 10]⟩, .string ⟨#[47, 47, 32, 120, 32, 34, 10]⟩, .string ⟨#[47, 42, 32, 125, 32, 42, 47]⟩, .string ⟨#[32, 47, 42, 42, 42, 47, 32]⟩, .string ⟨#[13, 10, 10]⟩] 9)).heap.size := by rw [hgb]; simp
  have HB6 := Lib.hid H6
  clear H6 hsz hgb
  generalize ((w2.alloc (.cells #[.int .i64 0, .int .i64 0, .complex .f64 0 0] 27)).alloc (.cells #[.string ⟨#[32]⟩, .string ⟨#[9, 10]⟩, .string ⟨#[47, 47, 32, 120, 32, 34, 10]⟩, .string ⟨#[47, 42, 32, 125, 32, 42, 47]⟩, .string ⟨#[32, 47, 42, 42, 42, 47, 32]⟩, .string ⟨#[13, 10, 10]⟩] 9)) = w4 at *
  obtain ⟨b1, o1, rfl, hb1, hc1⟩ := HP3.out.2 (by omega)
  have HC1 := Lib.hid hc1
  clear hc1
  go_loop [9, 10] (fun t i => ∃ (k : Nat) (u : ByteArray) (acc : List UInt8), k ≤ n ∧ i = .int .i64 k ∧ t = .string u ∧ Hid (u = strOf acc) ∧ Hid (acc ++ blankText (bsOf pads) k (l.drop k) = T)) (fun _ i => n - (intOf i).toNat)
  case atStart => exact ⟨0, ⟨#[]⟩, [], Nat.zero_le _, rfl, rfl, rfl, HT.out.symm⟩
  case round =>
    obtain ⟨k, u, acc, hk, rfl, rfl, HU, HA⟩ := hrel
    have hkp : k < pads.length := by
      have h1 := HP3.out.1
      rw [List.length_map] at h1
      omega
    obtain ⟨a, ha⟩ : ∃ a, a = pads.getD k 0 := ⟨_, rfl⟩
    have ep := HC1.out k (.int .i64 a) (by rw [ha]; simp [List.getElem?_eq_getElem hkp])
    have hand := and1023_i64 a
    have m0 : 0 ≤ a % 1024 := Int.emod_nonneg _ (by decide)
    obtain ⟨c, hc⟩ : ∃ c : Nat, a % 1024 = (c : Int) := ⟨_, (Int.toNat_of_nonneg m0).symm⟩
    have hbs : (sixBlanks[c % 6]?).getD [32] = bsOf pads k := by
      unfold bsOf
      rw [← ha, hc]
      rfl
    have e6 := HB6.out (c % 6) (Nat.mod_lt _ (by decide))
    rw [hbs] at e6
    rw [hc] at hand
    obtain ⟨j, hj⟩ : ∃ j, j = c % 6 := ⟨_, rfl⟩
    have hrem : (c : Int).tmod 6 = (j : Int) := by
      rw [hj, Int.tmod_eq_emod_of_nonneg (by omega)]
      rfl
    rw [← hj] at e6
    have j6 : (j : Int) < 6 := by omega
    have j0 : (0 : Int) ≤ (j : Int) := by omega
    have jt : (j : Int).toNat = j := Int.toNat_natCast j
    clear hj ha
    obtain ⟨B, hB⟩ : ∃ B, B = strOf (bsOf pads k) := ⟨_, rfl⟩
    have hBs : B.size = (bsOf pads k).length := by rw [hB, strOf_size]
    have hus : u.size = acc.length := by rw [HU.out, strOf_size]
    rw [← hB] at e6
    have HBB := Lib.hid hB
    have knp : (k : Int) < (np : Int) := by omega
    clear hbs m0 hc hB
    by_cases hlt : k < n
    · obtain ⟨q, hq⟩ : ∃ q, l[k]? = some q := ⟨_, List.getElem?_eq_getElem (by have := HNL.out; omega)⟩
      have hstep := blank_step (bsOf pads) l k q hq
      have hA := HA.out
      rw [hstep] at hA
      have hlen := congrArg List.length hA
      simp only [List.length_append, List.length_cons] at hlen
      obtain ⟨a0, a1, _, _⟩ := tok_at 0 l k q hq
      obtain ⟨b2, o2, rfl, hb2, hc2'⟩ := HX3.out.2 (by omega)
      have f0 := hc2' _ _ a0
      have f1 := hc2' _ _ a1
      rw [← Nat.add_assoc] at f1
      obtain ⟨X, hX⟩ : ∃ X, X = strOf q.text := ⟨_, rfl⟩
      have hXs : X.size = q.text.length := by rw [hX, strOf_size]
      rw [← hX] at f1
      have HXX := Lib.hid hX
      have k1 : (k : Int) ≤ (n : Int) := by omega
      have k2 : ((k : Int) == (n : Int)) = false := by rw [beq_eq_false_iff_ne]; omega
      have k3 : ¬ (k : Int) = (n : Int) := by omega
      have k4 : (k : Int) < (n : Int) := by omega
      by_cases h4 : q.kind = 4
      · have h4b : (q.kind == 4) = true := by rw [h4]; rfl
        have hsr : (srcOf q.kind q.text).length = q.text.length + 2 := by
          unfold srcOf
          rw [if_pos h4]
          simp
        have z1 : u.size + 1 ≤ 5000 := by omega
        have z2 : u.size + 1 + B.size ≤ 5000 := by omega
        have z3 : u.size + 1 + B.size + 1 ≤ 5000 := by omega
        have z4 : u.size + 1 + B.size + 1 + X.size ≤ 5000 := by omega
        have z5 : u.size + 1 + B.size + 1 + X.size + 1 ≤ 5000 := by omega
        have HN : Hid (u ++ (⟨#[32]⟩ : ByteArray) ++ B ++ (⟨#[34]⟩ : ByteArray) ++ X ++ (⟨#[34]⟩ : ByteArray) = strOf (acc ++ 32 :: (bsOf pads k ++ srcOf q.kind q.text))) := by
          unfold Hid
          rw [HU.out, HBB.out, HXX.out, show (⟨#[32]⟩ : ByteArray) = strOf [32] from rfl, show (⟨#[34]⟩ : ByteArray) = strOf [34] from rfl]
          unfold strOf srcOf
          rw [if_pos h4]
          simp only [strOf_append, List.append_assoc, List.cons_append, List.nil_append]
        have HA' : Hid ((acc ++ 32 :: (bsOf pads k ++ srcOf q.kind q.text)) ++ blankText (bsOf pads) (k + 1) (l.drop (k + 1)) = T) := by
          unfold Hid
          rw [← hA]
          simp only [List.append_assoc, List.cons_append]
        clear hstep hA hlen a0 a1 hc2' hX hsr hq HU HA hBs hus hXs
        go_wp2
        go_round
        case rel => exact ⟨k + 1, _, _, by omega, by go_num, rfl, HN, HA'⟩
        case measure => simp [intOf]; omega
      · have h4b : (q.kind == 4) = false := by rw [beq_eq_false_iff_ne]; exact h4
        have hsr : (srcOf q.kind q.text).length = q.text.length := by
          unfold srcOf
          rw [if_neg h4]
        have z1 : u.size + 1 ≤ 5000 := by omega
        have z2 : u.size + 1 + B.size ≤ 5000 := by omega
        have z3 : u.size + 1 + B.size + X.size ≤ 5000 := by omega
        have HN : Hid (u ++ (⟨#[32]⟩ : ByteArray) ++ B ++ X = strOf (acc ++ 32 :: (bsOf pads k ++ srcOf q.kind q.text))) := by
          unfold Hid
          rw [HU.out, HBB.out, HXX.out, show (⟨#[32]⟩ : ByteArray) = strOf [32] from rfl]
          unfold strOf srcOf
          rw [if_neg h4]
          simp only [strOf_append, List.append_assoc, List.cons_append, List.nil_append]
        have HA' : Hid ((acc ++ 32 :: (bsOf pads k ++ srcOf q.kind q.text)) ++ blankText (bsOf pads) (k + 1) (l.drop (k + 1)) = T) := by
          unfold Hid
          rw [← hA]
          simp only [List.append_assoc, List.cons_append]
        clear hstep hA hlen a0 a1 hc2' hX hsr hq HU HA hBs hus hXs
        go_wp2
        go_round
        case rel => exact ⟨k + 1, _, _, by omega, by go_num, rfl, HN, HA'⟩
        case measure => simp [intOf]; omega
    · obtain rfl : k = n := by omega
      have hA := HA.out
      rw [show blankText (bsOf pads) k (l.drop k) = 32 :: bsOf pads k from by rw [HNL.out]; exact blank_end _ _] at hA
      have hlen := congrArg List.length hA
      simp only [List.length_append, List.length_cons] at hlen
      have z1 : u.size + 1 ≤ 5000 := by omega
      have z2 : u.size + 1 + B.size ≤ 5000 := by omega
      have HN : Hid (u ++ (⟨#[32]⟩ : ByteArray) ++ B = strOf T) := by
        unfold Hid
        rw [HU.out, HBB.out, ← hA, show (⟨#[32]⟩ : ByteArray) = strOf [32] from rfl]
        unfold strOf
        simp only [strOf_append, List.append_assoc, List.cons_append, List.nil_append]
      clear hA hlen HU HA hBs hus
      go_wp2_with fail
      rw [HN.out]
      refine (H3.out _ HN3.out).mono ?_
      intro r w5 h5
      obtain ⟨A5, c5, rfl, hc5, hl5, hb5⟩ := res_ok h5
      rw [HLM.out, ← HNL.out] at hl5 hc5 ⊢
      have hbl5 : Below w5.heap.size w5 (w5.alloc (.cells (faultCells 0 0 0 0) 27)) := (Below.refl w5.heap.size w5).alloc (Nat.le_refl _) _
      have HL6 := Lib.hid ((((HX3.out.below hb5).wider hb5.size).below hbl5).wider hbl5.size)
      have HM6 := Lib.hid ((hl5.below hbl5).wider hbl5.size)
      have HN6 := Lib.hid (below_alloc (below_step HN3.out (Nat.le_refl _) hb5) (Nat.le_refl _) (.cells (faultCells 0 0 0 0) 27))
      clear h5 hb5 hl5 hbl5 HX3 HP3 HN3 HB6 HC1 ep hand e6 hrem j6 j0 jt z1 z2 HN HBB hgl
      dsimp only [faultCells]
      unfold faultCells at HL6 HM6 HN6
      go_wp2_with fail
      generalize w5.alloc (.cells #[.int .i64 0, .int .i64 0, .complex .f64 0 0] 27) = w6 at *
      go_loopw [13] (fun i wr => ∃ j : Nat, j ≤ k ∧ i = .int .i64 j ∧ Below w6.heap.size w6 wr) (fun i _ => k - (intOf i).toNat)
      case atStart => exact ⟨0, Nat.zero_le _, rfl, Below.refl _ _⟩
      case round =>
        obtain ⟨i, hi, rfl, hn⟩ := hrel
        by_cases hlt2 : i < k
        · obtain ⟨q, hq⟩ : ∃ q, l[i]? = some q := ⟨_, List.getElem?_eq_getElem (by have := HNL.out; omega)⟩
          obtain ⟨q', hq'⟩ : ∃ q, m'[i]? = some q := ⟨_, List.getElem?_eq_getElem (by have := HNL.out; have := HLM.out; omega)⟩
          have hkt : ktOf q' = ktOf q := by
            have := congrArg (fun x => x[i]?) HK.out
            simp only [List.getElem?_map, hq, hq', Option.map_some] at this
            exact Option.some.inj this
          unfold ktOf at hkt
          simp only [Prod.mk.injEq] at hkt
          obtain ⟨a0, a1, a2, _⟩ := tok_at 5 m' i q' hq'
          obtain ⟨d0, d1, _, _⟩ := tok_at 0 l i q hq
          rw [hkt.1] at a0
          rw [hkt.2] at a1
          obtain ⟨b3, o3, rfl, hb3, hc3⟩ := HM6.out.2 (by omega)
          obtain ⟨b4, o4, rfl, hb4, hc4⟩ := HL6.out.2 (by omega)
          have e0 := (hn.cell (p := ⟨b3, o3 + i * 4, none⟩) hb3).trans (hc3 _ _ a0)
          have e1 := (hn.cell (p := ⟨b3, o3 + (i * 4 + 1), none⟩) hb3).trans (hc3 _ _ a1)
          have e2 := (hn.cell (p := ⟨b3, o3 + (i * 4 + 2), none⟩) hb3).trans (hc3 _ _ a2)
          have f0 := (hn.cell (p := ⟨b4, o4 + i * 4, none⟩) hb4).trans (hc4 _ _ d0)
          have f1 := (hn.cell (p := ⟨b4, o4 + (i * 4 + 1), none⟩) hb4).trans (hc4 _ _ d1)
          rw [← Nat.add_assoc] at e1 e2 f1
          obtain ⟨X, hX⟩ : ∃ X, X = strOf q.text := ⟨_, rfl⟩
          rw [← hX] at e1 f1
          have i4 : (i : Int) < (k : Int) := by omega
          clear a0 a1 a2 d0 d1 hc3 hc4 hq hq' hkt hX
          go_wp2_with fail
          go_quiet (fail)
          go_wp2
          go_roundw
          case rel => exact ⟨i + 1, by omega, by go_num, below_drewN hn _⟩
          case measure => simp [intOf]; omega
        · obtain rfl : i = k := by omega
          go_wp2
          go_ret
          exact ⟨rfl, HN6.out.trans (hn.mono (Nat.le_trans HN6.out.size (Nat.le_refl _)))⟩

set_option maxRecDepth 100000 in
theorem tblank_any {Y : World → Prop} (R : TokSays Y) (s : ByteArray) (P : Option Addr) (np cp : Nat) (pads : List Int) (w : World) (hY : Y w) (hp : Lies w w.heap.size 1 P np (pads.map (Value.int .i64))) :
    Calls Tryd.prog 4 #[.string s, .slice P np cp] w fun e w' => e = .returned (.bool true) ∧ Below w.heap.size w w' := by
  cases hv : splitOf s.data.toList with
  | error ep =>
    obtain ⟨e, p⟩ := ep
    exact tblank_bad R s P np cp w hY e p hv
  | ok l =>
    by_cases h : s.size ≤ 500 ∧ l.length + 1 ≤ np
    · exact tblank_good R s P np cp pads w hY hp h.1 l hv h.2
    · exact tblank_out R s P np cp w hY l hv h

end Go.Proofs.YtgabeacpgmomhaaDoor
