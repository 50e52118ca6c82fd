/- The walk of the statement WeaveTells. -/
import Derived.Test.YtdjhpgpekomjeaaGreatDoorPart6
namespace Go.Proofs.YtdjhpgpekomjeaaGreatDoor
open Go.RowKit
variable {L : World → Prop}

theorem inc_step (s : ByteArray) (k : Nat) (h : k + 8 ≤ s.size) : incCount (s.data.toList.drop k) = (if (s.data.toList.drop k).take 8 == includeT then 1 else 0) + incCount (s.data.toList.drop (k + 1)) := by
  rw [drop_at s k (by omega), incCount]
theorem inc_cut (s : ByteArray) (k : Nat) : ((s.extract k (k + 8)).toList == [35, 105, 110, 99, 108, 117, 100, 101]) = ((s.data.toList.drop k).take 8 == includeT) := by
  rw [take_str, strOf_toList, show k + 8 - k = 8 from by omega]
  rfl

set_option maxRecDepth 100000 in
set_option maxHeartbeats 4000000 in
theorem includes_any (A : Option Addr) (N c : Nat) (fs : List FileV) (w : World) (hl : Lies w w.heap.size 2 A N (filesV fs)) (hN : N ≤ 1000) (hfs : ∀ f ∈ fs, f.2.size ≤ 100000) :
    Calls Tryz.prog 8 #[.slice A N c] w (fun r w' => r = .returned (.int .i64 (incAll fs : Int)) ∧ w = w') := by
  have hln : fs.length = N := by have := hl.1; rw [filesV_len] at this; omega
  have HLN := Lib.hid hln
  have HL := Lib.hid hl
  obtain ⟨R, hR⟩ : ∃ R, R = incAll fs := ⟨_, rfl⟩
  have HR := Lib.hid hR
  rw [← hR]
  have HFS := Lib.hid hfs
  clear hln hl hR hfs
  go_enter Tryz.func8, Tryz.ntmps8
  go_wp2_with fail
  go_loopw [3, 4] (fun v i wr => ∃ k m : Nat, k ≤ N ∧ i = .int .i64 k ∧ v = .int .i64 m ∧ m ≤ k * 100000 ∧ w = wr ∧ Hid (m + incAll (fs.drop k) = R)) (fun _ i _ => N - (intOf i).toNat)
  case atStart => exact ⟨0, 0, by omega, rfl, rfl, by omega, rfl, by rw [List.drop_zero, Nat.zero_add]; exact HR.out.symm⟩
  case round =>
    obtain ⟨k, m, hk, rfl, rfl, hm, rfl, HM⟩ := hrel
    by_cases hlt : k < N
    · obtain ⟨f, hf⟩ : ∃ f, fs[k]? = some f := ⟨_, List.getElem?_eq_getElem (by have := HLN.out; omega)⟩
      obtain ⟨q0, q1⟩ := filesV_at fs k f hf
      obtain ⟨b, o, rfl, hb, hc⟩ := HL.out.2 (by omega)
      have e1 := hc _ _ q1
      rw [← Nat.add_assoc] at e1
      have hfsz := HFS.out f (List.mem_of_getElem? hf)
      have hd : fs.drop k = f :: fs.drop (k + 1) := by
        obtain ⟨h1, h2⟩ := List.getElem?_eq_some_iff.1 hf
        rw [List.drop_eq_getElem_cons h1, h2]
      have HM2 : Hid (m + incCount f.2.data.toList + incAll (fs.drop (k + 1)) = R) := by
        have := HM.out
        rw [hd] at this
        unfold incAll at this ⊢
        simp only [List.map_cons, List.sum_cons] at this
        unfold Hid
        omega
      obtain ⟨s, hs⟩ : ∃ s, s = f.2 := ⟨_, rfl⟩
      rw [← hs] at e1 hfsz HM2
      clear q0 q1 hc hf hd HM hs
      go_wp2_with fail
      go_loopw [3, 5] (fun v j wx => ∃ p q : Nat, p ≤ s.size + 1 ∧ j = .int .i64 p ∧ v = .int .i64 q ∧ q ≤ m + p ∧ w = wx ∧ Hid (q + incCount (s.data.toList.drop p) = m + incCount s.data.toList)) (fun _ j _ => s.size + 1 - (intOf j).toNat)
      case atStart => exact ⟨0, m, by omega, rfl, rfl, by omega, by first | rfl | trivial, by rw [List.drop_zero]; exact rfl⟩
      case round =>
        obtain ⟨p, q, hp, rfl, rfl, hq, rfl, HQ⟩ := hrel
        by_cases hpl : p + 8 ≤ s.size
        · have w1 : IntKind.i64.wrap ((p : Int) + 8) = (p : Int) + 8 := by rw [IntKind.wrap_i64]; omega
          have g1 : (p : Int) + 8 ≤ (s.size : Int) := by omega
          have hcut := inc_cut s p
          have hst := inc_step s p hpl
          cases hi : ((s.data.toList.drop p).take 8 == includeT)
          · have HQ2 : Hid (q + incCount (s.data.toList.drop (p + 1)) = m + incCount s.data.toList) := by
              have := HQ.out
              rw [hst, hi] at this
              unfold Hid
              simp at this
              omega
            rw [hi] at hcut
            clear hst hi HQ
            go_wp2_with fail
            go_roundw
            case rel => exact ⟨p + 1, q, by omega, by go_num, rfl, by omega, by first | rfl | trivial, HQ2⟩
            case measure => simp [intOf]; omega
          · have HQ2 : Hid (q + 1 + incCount (s.data.toList.drop (p + 1)) = m + incCount s.data.toList) := by
              have := HQ.out
              rw [hst, hi] at this
              unfold Hid
              simp at this
              omega
            rw [hi] at hcut
            clear hst hi HQ
            go_wp2_with fail
            go_roundw
            case rel => exact ⟨p + 1, q + 1, by omega, by go_num, by go_num, by omega, by first | rfl | trivial, HQ2⟩
            case measure => simp [intOf]; omega
        · have w1 : IntKind.i64.wrap ((p : Int) + 8) = (p : Int) + 8 := by rw [IntKind.wrap_i64]; omega
          have g1 : ¬ (p : Int) + 8 ≤ (s.size : Int) := by omega
          have h0 : incCount (s.data.toList.drop p) = 0 := inc_short _ (by rw [List.length_drop, Array.length_toList]; have : s.data.size = s.size := rfl; omega)
          have hqe : q = m + incCount s.data.toList := by
            have := HQ.out
            rw [h0] at this
            omega
          have hin := inc_le s.data.toList
          have hsl : s.data.toList.length = s.size := by simp
          have HM3 : Hid (q + incAll (fs.drop (k + 1)) = R) := by
            have := HM2.out
            unfold Hid
            rw [hqe]
            exact this
          have hq9 : q ≤ (k + 1) * 100000 := by omega
          clear h0 hqe hin hsl HM2 HQ
          go_wp2_with fail
          go_roundw
          case rel => exact ⟨k + 1, q, by omega, by go_num, rfl, hq9, by first | rfl | trivial, HM3⟩
          case measure => simp [intOf]; omega
    · obtain rfl : k = N := by omega
      have hr : m = R := by
        have := HM.out
        rw [List.drop_eq_nil_of_le (by rw [HLN.out]; omega)] at this
        simpa [incAll] using this
      have HRR := Lib.hid hr
      clear hr HM
      go_wp2
      go_ret
      exact ⟨by rw [HRR.out]; rfl, by first | rfl | trivial⟩

/-! ### The statements' own test -/
theorem weave_none_ex : weaveOf [] [97] = .error (4, -1, (0, 0)) := by kernel_rfl
theorem weave_two_ex : weaveOf [(strOf [97], strOf [120, 32, 35, 105, 110, 99, 108, 117, 100, 101, 32, 34, 98, 34, 32, 122]), (strOf [98], strOf [121])] [97] = .ok [(0, ⟨1, [120], (1, 1)⟩), (1, ⟨1, [121], (1, 1)⟩), (0, ⟨1, [122], (1, 16)⟩)] := by kernel_rfl

set_option maxRecDepth 100000 in
set_option maxHeartbeats 4000000 in
theorem walive_any (R : WeaveSays L) (w : World) (hw : L w) : Calls Tryz.prog 6 #[] w fun e w' => e = .returned (.bool true) ∧ Below w.heap.size w w' := by
  have H1 : Hid (∀ W : World, Below w.heap.size w W → Calls Tryz.prog 9 #[.slice none 0 0, .string ⟨#[97]⟩] W (WeaveRes (.error (4, -1, (0, 0))) W)) := fun W hW => by
    have := R.tokens none 0 0 [] (strOf [97]) W (R.keep w W hw hW) (Lies.empty _ _ _ _) (by omega) (by omega) (by decide) (fun f h => by cases h)
    rw [strOf_data, weave_none_ex] at this
    exact this
  have H2 : Hid (∀ (A : Option Addr) (W : World), Below w.heap.size w W → Lies W W.heap.size 2 A 2 [.string (strOf [97]), .string (strOf [120, 32, 35, 105, 110, 99, 108, 117, 100, 101, 32, 34, 98, 34, 32, 122]), .string (strOf [98]), .string (strOf [121])] → Calls Tryz.prog 9 #[.slice A 2 2, .string ⟨#[97]⟩] W (WeaveRes (.ok [(0, ⟨1, [120], (1, 1)⟩), (1, ⟨1, [121], (1, 1)⟩), (0, ⟨1, [122], (1, 16)⟩)]) W)) := fun A W hW h => by
    have := R.tokens A 2 2 [(strOf [97], strOf [120, 32, 35, 105, 110, 99, 108, 117, 100, 101, 32, 34, 98, 34, 32, 122]), (strOf [98], strOf [121])] (strOf [97]) W (R.keep w W hw hW) h (by omega) (by omega) (by decide) (fun f h => by
      rcases List.mem_cons.1 h with rfl | h
      · exact ⟨by decide, by decide⟩
      · rcases List.mem_cons.1 h with rfl | h
        · exact ⟨by decide, by decide⟩
        · cases h)
    rw [strOf_data, weave_two_ex] at this
    exact this
  have hst := store_cx
  have hcx := fun W => eq_cx 0 0 W ord_0 ord_0
  have f0 := fl_0
  go_enter Tryz.func6, Tryz.ntmps6
  go_wp2_with fail
  refine (H1.out _ (Below.refl _ _)).mono ?_
  intro r w1 h1
  obtain ⟨A1, c1, rfl, hb1⟩ := wres_bad h1
  dsimp only at h1 ⊢
  have HBX := Lib.hid (Box.new w1 30 (faultCells 4 (-1) 0 0))
  have HN1 := Lib.hid (below_alloc hb1 (Nat.le_refl _) (.cells (faultCells 4 (-1) 0 0) 30))
  clear h1 hb1
  rw [show (((0 : Nat) : Int)) = 0 from rfl, f0]
  dsimp only [faultCells]
  unfold faultCells at HBX HN1
  go_wp2_with fail
  refine (H2.out _ _ (by exact below_alloc HN1.out (Nat.le_refl _) _) (by exact lies_new _ _ _ (by simp) rfl rfl)).mono ?_
  have HBX2 := Lib.hid (HBX.out.alloc (.cells #[.string (strOf [97]), .string (strOf [120, 32, 35, 105, 110, 99, 108, 117, 100, 101, 32, 34, 98, 34, 32, 122]), .string (strOf [98]), .string (strOf [121])] 36))
  have HN2 := Lib.hid (below_alloc HN1.out (Nat.le_refl _) (.cells #[.string (strOf [97]), .string (strOf [120, 32, 35, 105, 110, 99, 108, 117, 100, 101, 32, 34, 98, 34, 32, 122]), .string (strOf [98]), .string (strOf [121])] 36))
  intro r w3 h3
  obtain ⟨A3, c3, rfl, hc3, hl3, hb3⟩ := wres_ok h3
  have hbx3 := HBX2.out.step hb3
  have HN3 := Lib.hid (below_step HN2.out (Nat.le_refl _) hb3)
  obtain ⟨b, o, rfl, hb, hcc⟩ := hl3.2 (by simp)
  have e5 := hcc 5 (.string ⟨#[121]⟩) rfl
  have e6 := hcc 6 (.int .i64 1) rfl
  have c0 := hbx3.cell 0
  have c1 := hbx3.cell 1
  have c2 := hbx3.cell 2
  simp only [List.getElem?_toArray, List.getElem?_cons_zero, List.getElem?_cons_succ] at c0 c1 c2
  have g1 := hbx3.lt
  clear h3 hl3 hb3 hbx3 HBX HBX2 HN1 HN2 hcc
  dsimp only [faultCells, List.length_cons, List.length_nil]
  go_wp2
  go_ret
  exact ⟨by simp, below_alloc HN3.out (Nat.le_refl _) _⟩

theorem Tryz.infoFile : (Tryz.prog.info? 36).map (fun i => (i.zero, i.size, i.bytes)) = some (some (.agg #[.string ⟨#[]⟩, .string ⟨#[]⟩]), 2, 32) := by kernel_rfl
theorem filesV_one (l : List FileV) : ∀ u ∈ filesV l, u.oneCell' = true := by
  intro u hu
  obtain ⟨x, _, hx⟩ := List.mem_flatMap.1 hu
  simp at hx
  rcases hx with rfl | rfl <;> rfl
theorem few_true {fs : List FileV} (h : fewB fs = true) : fs.length ≤ 8 ∧ ∀ f ∈ fs, f.2.size ≤ 600 ∧ f.1.size ≤ 60 := by
  unfold fewB at h
  simp only [Bool.and_eq_true, decide_eq_true_eq, List.all_eq_true] at h
  exact ⟨h.2, h.1⟩
theorem weaveOf_len {fs : List FileV} {root : List UInt8} {l : List FTok} (h : weaveOf fs root = .ok l) : l.length ≤ 20020000 := by
  unfold weaveOf at h
  split at h
  · have hr := weave_ok fs 7 (fileOf fs root).1.toNat [(fileOf fs root).1.toNat] 0
    have h1 := hr.2.1 l h
    have h2 := hr.2.2
    have h3 := hr.1
    omega
  · cases h

set_option maxRecDepth 100000 in
set_option maxHeartbeats 8000000 in
theorem wtells_in (R : WeaveSays L) (A : Option Addr) (N c : Nat) (fs : List FileV) (root : ByteArray) (w : World) (hw : L w) (hl : Lies w w.heap.size 2 A N (filesV fs)) (hf : fewB fs = true) (hroot : root.size ≤ 60) (hinc : incAll fs ≤ 12) :
    Calls Tryz.prog 3 #[.slice A N c, .string root] w fun e w' => e = .returned (.bool true) ∧ Below w.heap.size w w' := by
  have hln : fs.length = N := by have := hl.1; rw [filesV_len] at this; omega
  obtain ⟨h8, hsz⟩ := few_true hf
  have H1 : Hid (∀ (A : Option Addr) (c : Nat) (W : World), Below w.heap.size w W → Lies W W.heap.size 2 A N (filesV fs) → N ≤ c → Calls Tryz.prog 9 #[.slice A N c, .string root] W (WeaveRes (weaveOf fs root.data.toList) W)) := fun A c W hW h hc => R.tokens A N c fs root W (R.keep w W hw hW) h hc (by omega) (by omega) (fun f h => by have := hsz f h; omega)
  have H2 : Hid (∀ (W : World), Lies W W.heap.size 2 A N (filesV fs) → Calls Tryz.prog 10 #[.slice A N c, .string root] W (WeaveRes (weaveOf fs root.data.toList) W)) := fun W h => refWeave_any A N c fs root W h (by omega) (by omega) (fun f h => by have := hsz f h; exact ⟨by omega, by omega⟩)
  have HF : Hid (∀ (W : World), Lies W W.heap.size 2 A N (filesV fs) → Calls Tryz.prog 7 #[.slice A N c] W (fun r w' => r = .returned (.bool true) ∧ W = w')) := fun W h => by
    have := few_any A N c fs W h (by omega)
    rw [hf] at this
    exact this
  have HI : Hid (∀ (W : World), Lies W W.heap.size 2 A N (filesV fs) → Calls Tryz.prog 8 #[.slice A N c] W (fun r w' => r = .returned (.int .i64 (incAll fs : Int)) ∧ W = w')) := fun W h => includes_any A N c fs W h (by omega) (fun f h => by have := hsz f h; omega)
  obtain ⟨i0, hi, hz0, hz1, hz2⟩ := info_parts Tryz.infoFile
  have hst := store_cx
  have HL := Lib.hid hl
  have hr60 : decide ((60 : Int) < (root.size : Int)) = false := decide_eq_false (by omega)
  obtain ⟨I, hI⟩ : ∃ I, I = incAll fs := ⟨_, rfl⟩
  rw [← hI] at HI hinc
  have hi12 : decide ((12 : Int) < (I : Int)) = false := decide_eq_false (by omega)
  have hN8 : N ≤ 8 := by omega
  obtain ⟨V, hV⟩ : ∃ V, V = weaveOf fs root.data.toList := ⟨_, rfl⟩
  rw [← hV] at H1 H2
  have hlen : ∀ l, V = .ok l → l.length ≤ 20020000 := fun l h => weaveOf_len (hV.symm.trans h)
  clear hV hI h8 hsz hf hroot hl hln hinc
  cases V with
  | error e =>
    obtain ⟨n, fi, p⟩ := e
    have hcx := fun W => eq_cx (fl p.1) (fl p.2) W (ord_fl _) (ord_fl _)
    have HST : Hid (∀ (A B : Option Addr) (c d : Nat) (W : World), Calls Tryz.prog 11 #[.slice A 0 c, .slice B 0 d] W (fun r w' => r = .returned (.bool true) ∧ Below W.heap.size W w')) := fun A B c d W => fsame_yes [] A B c d W (Lies.empty _ _ _ _) (Lies.empty _ _ _ _) (by decide)
    clear hlen
    go_enter Tryz.func3, Tryz.ntmps3
    go_wp2_with fail
    refine (walive_any R _ hw).mono ?_
    rintro r w1 ⟨rfl, hb1⟩
    have hl1 : Lies w1 w1.heap.size 2 A N (filesV fs) := (HL.out.below hb1).wider hb1.size
    go_wp2_with fail
    refine (HF.out _ hl1).mono ?_
    rintro r w2 ⟨rfl, rfl⟩
    go_wp2_with fail
    refine (HI.out _ hl1).mono ?_
    rintro r w2 ⟨rfl, rfl⟩
    go_wp2_with (at_builtin; go_loud (refine wpList_append_lies _ rfl (.const (.slice none 0 0)) (.tmp 30) _ rfl w.heap.size 36 i0 _ 2 32 Tryz.underlying22 hi hz0 hz1 hz2 rfl (by omega) (.slice none 0 0) 0 [] rfl (World.ownsRow_nil _ _ _ _) _ A N c _ rfl hl1 (filesV_one _) (by unfold maxLen; omega) (by omega) hb1.size ?_))
    intro v2 w2 hown2 hg2
    have hn2 : Below w.heap.size w w2 := below_grown hb1 (World.ownsRow_nil w1 w.heap.size 36 2) (Nat.le_refl _) hb1.size hg2
    obtain ⟨A2, c2, rfl, hc2, hl2⟩ := own_form hown2
    clear hown2 hg2 hb1 hl1 hi hz0 hz1 hz2
    go_wp2_with fail
    refine (H1.out A2 c2 _ hn2 hl2 hc2).mono ?_
    intro r w3 h3
    obtain ⟨A3, c3, rfl, hb3⟩ := wres_bad h3
    have hn3 := below_step hn2 (Nat.le_refl _) hb3
    have HBX := Lib.hid (Box.new w3 30 (faultCells n fi (fl p.1) (fl p.2)))
    have HN3 := Lib.hid (below_alloc hn3 (Nat.le_refl _) (.cells (faultCells n fi (fl p.1) (fl p.2)) 30))
    clear h3 hn2 hb3 hn3 hl2
    dsimp only [faultCells]
    unfold faultCells at HBX HN3
    go_wp2_with fail
    obtain ⟨g1, hg1⟩ : ∃ g1, g1 = w3.heap.size := ⟨_, rfl⟩
    generalize w3.alloc (.cells #[.int .i64 n, .int .i64 fi, .complex .f64 (fl p.1) (fl p.2)] 30) = w4 at *
    rw [← hg1] at HBX ⊢
    clear hg1
    refine (H2.out _ ((HL.out.below HN3.out).wider HN3.out.size)).mono ?_
    intro r w5 h5
    obtain ⟨A5, c5, rfl, hb5⟩ := wres_bad h5
    have HN5 := Lib.hid (below_step HN3.out (Nat.le_refl _) hb5)
    have HBX5 := Lib.hid (HBX.out.step hb5)
    have HBY := Lib.hid (Box.new w5 30 (faultCells n fi (fl p.1) (fl p.2)))
    have HBX6 := Lib.hid (HBX5.out.alloc (.cells (faultCells n fi (fl p.1) (fl p.2)) 30))
    have HN6 := Lib.hid (below_alloc HN5.out (Nat.le_refl _) (.cells (faultCells n fi (fl p.1) (fl p.2)) 30))
    clear h5 hb5 HBX HBX5 HN5 HN3
    dsimp only [faultCells]
    unfold faultCells at HBX6 HN6 HBY
    go_wp2_with fail
    obtain ⟨g2, hg2⟩ : ∃ g2, g2 = w5.heap.size := ⟨_, rfl⟩
    generalize w5.alloc (.cells #[.int .i64 n, .int .i64 fi, .complex .f64 (fl p.1) (fl p.2)] 30) = w6 at *
    rw [← hg2] at HBY ⊢
    clear hg2
    refine (HST.out A3 A5 c3 c5 _).mono ?_
    rintro r w7 ⟨rfl, hb7⟩
    have hx := HBX6.out.step hb7
    have hy := HBY.out.step hb7
    have hn7 := below_step HN6.out (Nat.le_refl _) hb7
    have u0 := hx.cell 0
    have u1 := hx.cell 1
    have u2 := hx.cell 2
    have v0 := hy.cell 0
    have v1 := hy.cell 1
    have v2 := hy.cell 2
    simp only [List.getElem?_toArray, List.getElem?_cons_zero, List.getElem?_cons_succ] at u0 u1 u2 v0 v1 v2
    have ux := hx.lt
    have vx := hy.lt
    clear hx hy hb7
    go_wp2
    go_ret
    exact ⟨by simp, hn7⟩
  | ok l =>
    have hll := hlen l rfl
    have hcx := fun W => eq_cx 0 0 W ord_0 ord_0
    clear hlen
    go_enter Tryz.func3, Tryz.ntmps3
    go_wp2_with fail
    refine (walive_any R _ hw).mono ?_
    rintro r w1 ⟨rfl, hb1⟩
    have hl1 : Lies w1 w1.heap.size 2 A N (filesV fs) := (HL.out.below hb1).wider hb1.size
    go_wp2_with fail
    refine (HF.out _ hl1).mono ?_
    rintro r w2 ⟨rfl, rfl⟩
    go_wp2_with fail
    refine (HI.out _ hl1).mono ?_
    rintro r w2 ⟨rfl, rfl⟩
    go_wp2_with (at_builtin; go_loud (refine wpList_append_lies _ rfl (.const (.slice none 0 0)) (.tmp 30) _ rfl w.heap.size 36 i0 _ 2 32 Tryz.underlying22 hi hz0 hz1 hz2 rfl (by omega) (.slice none 0 0) 0 [] rfl (World.ownsRow_nil _ _ _ _) _ A N c _ rfl hl1 (filesV_one _) (by unfold maxLen; omega) (by omega) hb1.size ?_))
    intro v2 w2 hown2 hg2
    have hn2 : Below w.heap.size w w2 := below_grown hb1 (World.ownsRow_nil w1 w.heap.size 36 2) (Nat.le_refl _) hb1.size hg2
    obtain ⟨A2, c2, rfl, hc2, hl2⟩ := own_form hown2
    clear hown2 hg2 hb1 hl1 hi hz0 hz1 hz2
    go_wp2_with fail
    refine (H1.out A2 c2 _ hn2 hl2 hc2).mono ?_
    intro r w3 h3
    obtain ⟨A3, c3, rfl, hc3, hl3, hb3⟩ := wres_ok h3
    have hn3 := below_step hn2 (Nat.le_refl _) hb3
    have HBX := Lib.hid (Box.new w3 30 (faultCells 0 0 0 0))
    have HN3 := Lib.hid (below_alloc hn3 (Nat.le_refl _) (.cells (faultCells 0 0 0 0) 30))
    have hla3 := (hl3.below ((Below.refl w3.heap.size w3).alloc (Nat.le_refl _) (.cells (faultCells 0 0 0 0) 30))).wider (B' := (w3.alloc (.cells (faultCells 0 0 0 0) 30)).heap.size) (by simp)
    have HL3 := Lib.hid hla3
    clear h3 hn2 hb3 hn3 hl2 hl3 hla3
    dsimp only [faultCells]
    unfold faultCells at HBX HN3 HL3
    go_wp2_with fail
    obtain ⟨g1, hg1⟩ : ∃ g1, g1 = w3.heap.size := ⟨_, rfl⟩
    generalize w3.alloc (.cells #[.int .i64 0, .int .i64 0, .complex .f64 0 0] 30) = w4 at *
    rw [← hg1] at HBX ⊢
    clear hg1
    refine (H2.out _ ((HL.out.below HN3.out).wider HN3.out.size)).mono ?_
    intro r w5 h5
    obtain ⟨A5, c5, rfl, hc5, hl5, hb5⟩ := wres_ok h5
    have HN5 := Lib.hid (below_step HN3.out (Nat.le_refl _) hb5)
    have HBX5 := Lib.hid (HBX.out.step hb5)
    have hbel : Below w5.heap.size w5 (w5.alloc (.cells (faultCells 0 0 0 0) 30)) := (Below.refl w5.heap.size w5).alloc (Nat.le_refl _) _
    have hla := (((HL3.out.below hb5).wider hb5.size).below hbel).wider hbel.size
    have hlb := (hl5.below hbel).wider hbel.size
    have HLA := Lib.hid hla
    have HLB := Lib.hid hlb
    have HBY := Lib.hid (Box.new w5 30 (faultCells 0 0 0 0))
    have HBX6 := Lib.hid (HBX5.out.alloc (.cells (faultCells 0 0 0 0) 30))
    have HN6 := Lib.hid (below_alloc HN5.out (Nat.le_refl _) (.cells (faultCells 0 0 0 0) 30))
    clear h5 hb5 HBX HBX5 HN5 HN3 HL3 hl5 hla hlb hbel
    dsimp only [faultCells]
    unfold faultCells at HBX6 HN6 HBY HLA HLB
    go_wp2_with fail
    obtain ⟨g2, hg2⟩ : ∃ g2, g2 = w5.heap.size := ⟨_, rfl⟩
    generalize w5.alloc (.cells #[.int .i64 0, .int .i64 0, .complex .f64 0 0] 30) = w6 at *
    rw [← hg2] at HBY ⊢
    clear hg2
    refine (fsame_yes l A3 A5 c3 c5 _ HLA.out HLB.out (by omega)).mono ?_
    rintro r w7 ⟨rfl, hb7⟩
    have hx := HBX6.out.step hb7
    have hy := HBY.out.step hb7
    have hn7 := below_step HN6.out (Nat.le_refl _) hb7
    have u0 := hx.cell 0
    have u1 := hx.cell 1
    have u2 := hx.cell 2
    have v0 := hy.cell 0
    have v1 := hy.cell 1
    have v2 := hy.cell 2
    simp only [List.getElem?_toArray, List.getElem?_cons_zero, List.getElem?_cons_succ] at u0 u1 u2 v0 v1 v2
    have ux := hx.lt
    have vx := hy.lt
    clear hx hy hb7
    go_wp2
    go_ret
    exact ⟨by simp, hn7⟩

set_option maxRecDepth 100000 in
set_option maxHeartbeats 4000000 in
theorem wtells_any (R : WeaveSays L) (A : Option Addr) (N c : Nat) (fs : List FileV) (root : ByteArray) (w : World) (hw : L w) (hl : Lies w w.heap.size 2 A N (filesV fs)) (hN : N ≤ 140737488355328) :
    Calls Tryz.prog 3 #[.slice A N c, .string root] w fun e w' => e = .returned (.bool true) ∧ Below w.heap.size w w' := by
  have HL := Lib.hid hl
  cases hf : fewB fs
  · have HF : Hid (∀ (W : World), Lies W W.heap.size 2 A N (filesV fs) → Calls Tryz.prog 7 #[.slice A N c] W (fun r w' => r = .returned (.bool false) ∧ W = w')) := fun W h => by
      have := few_any A N c fs W h hN
      rw [hf] at this
      exact this
    clear hf hl hN
    go_enter Tryz.func3, Tryz.ntmps3
    go_wp2_with fail
    refine (walive_any R _ hw).mono ?_
    rintro r w1 ⟨rfl, hb1⟩
    have hl1 : Lies w1 w1.heap.size 2 A N (filesV fs) := (HL.out.below hb1).wider hb1.size
    go_wp2_with fail
    refine (HF.out _ hl1).mono ?_
    rintro r w2 ⟨rfl, rfl⟩
    clear hl1
    go_wp2
    go_ret
    exact ⟨rfl, hb1⟩
  · have HF : Hid (∀ (W : World), Lies W W.heap.size 2 A N (filesV fs) → Calls Tryz.prog 7 #[.slice A N c] W (fun r w' => r = .returned (.bool true) ∧ W = w')) := fun W h => by
      have := few_any A N c fs W h hN
      rw [hf] at this
      exact this
    by_cases hr : root.size ≤ 60
    · by_cases hi : incAll fs ≤ 12
      · exact wtells_in R A N c fs root w hw hl hf hr hi
      · have hln : fs.length = N := by have := hl.1; rw [filesV_len] at this; omega
        obtain ⟨h8, hsz⟩ := few_true hf
        have HI : Hid (∀ (W : World), Lies W W.heap.size 2 A N (filesV fs) → Calls Tryz.prog 8 #[.slice A N c] W (fun r w' => r = .returned (.int .i64 (incAll fs : Int)) ∧ W = w')) := fun W h => includes_any A N c fs W h (by omega) (fun f h => by have := hsz f h; omega)
        have hr60 : decide ((60 : Int) < (root.size : Int)) = false := decide_eq_false (by omega)
        obtain ⟨I, hI⟩ : ∃ I, I = incAll fs := ⟨_, rfl⟩
        rw [← hI] at HI hi
        have hi12 : decide ((12 : Int) < (I : Int)) = true := decide_eq_true (by omega)
        clear hI h8 hsz hln hi hr hl hf hN
        go_enter Tryz.func3, Tryz.ntmps3
        go_wp2_with fail
        refine (walive_any R _ hw).mono ?_
        rintro r w1 ⟨rfl, hb1⟩
        have hl1 : Lies w1 w1.heap.size 2 A N (filesV fs) := (HL.out.below hb1).wider hb1.size
        go_wp2_with fail
        refine (HF.out _ hl1).mono ?_
        rintro r w2 ⟨rfl, rfl⟩
        go_wp2_with fail
        refine (HI.out _ hl1).mono ?_
        rintro r w2 ⟨rfl, rfl⟩
        clear hl1
        go_wp2
        go_ret
        exact ⟨rfl, hb1⟩
    · have hr60 : decide ((60 : Int) < (root.size : Int)) = true := decide_eq_true (by omega)
      clear hr hl hf hN
      go_enter Tryz.func3, Tryz.ntmps3
      go_wp2_with fail
      refine (walive_any R _ hw).mono ?_
      rintro r w1 ⟨rfl, hb1⟩
      have hl1 : Lies w1 w1.heap.size 2 A N (filesV fs) := (HL.out.below hb1).wider hb1.size
      go_wp2_with fail
      refine (HF.out _ hl1).mono ?_
      rintro r w2 ⟨rfl, rfl⟩
      clear hl1
      go_wp2
      go_ret
      exact ⟨rfl, hb1⟩

end Go.Proofs.YtdjhpgpekomjeaaGreatDoor
