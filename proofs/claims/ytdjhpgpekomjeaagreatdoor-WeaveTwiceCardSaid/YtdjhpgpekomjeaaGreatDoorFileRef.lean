/- What the document's own Clean, Join and FindFile give. -/
import Derived.Test.YtdjhpgpekomjeaaGreatDoorCleanRef
namespace Go.Proofs.YtdjhpgpekomjeaaGreatDoor
open Go.RowKit

def cleanPath (s : List UInt8) : List UInt8 × Bool := cleanOf (partsOf 47 s)
def joinPath (f p : List UInt8) : List UInt8 × Bool := if p.head? = some 47 then cleanPath p else cleanOf ((partsOf 47 f).dropLast ++ partsOf 47 p)

/-- Files, as cells. -/
def filesV (l : List (ByteArray × ByteArray)) : List Value := l.flatMap fun f => [.string f.1, .string f.2]
theorem filesV_len (l : List (ByteArray × ByteArray)) : (filesV l).length = l.length * 2 := by
  unfold filesV
  induction l with
  | nil => rfl
  | cons f l ih => simp at ih ⊢; omega
theorem filesV_at : ∀ (l : List (ByteArray × ByteArray)) (k : Nat) (f : ByteArray × ByteArray), l[k]? = some f → (filesV l)[k * 2]? = some (.string f.1) ∧ (filesV l)[k * 2 + 1]? = some (.string f.2)
  | [], k, f, h => by simp at h
  | g :: l, 0, f, h => by
    obtain rfl : g = f := by simpa using h
    exact ⟨rfl, rfl⟩
  | g :: l, k + 1, f, h => by
    obtain ⟨h0, h1⟩ := filesV_at l k f (by simpa using h)
    have e : ∀ j, (filesV (g :: l))[(k + 1) * 2 + j]? = (filesV l)[k * 2 + j]? := fun j => by
      unfold filesV
      rw [List.flatMap_cons, List.getElem?_append_right (by simp; omega)]
      congr 1
      simp
      omega
    exact ⟨(e 0).trans h0, (e 1).trans h1⟩

/-- Does a file's path lead where a clean path does? -/
def isFile (p : List UInt8) (f : ByteArray × ByteArray) : Bool := (cleanPath f.1.data.toList).2 && ((cleanPath f.1.data.toList).1 == p)
def fileFrom (p : List UInt8) (k : Nat) : List (ByteArray × ByteArray) → Int × Bool
  | [] => (0, false)
  | f :: r => if isFile p f then ((k : Int), true) else fileFrom p (k + 1) r
def fileOf (l : List (ByteArray × ByteArray)) (s : List UInt8) : Int × Bool := if (cleanPath s).2 then fileFrom (cleanPath s).1 0 l else (0, false)

/-- What a function that hands back a number and a bool gives. -/
def NumBool (t : Int × Bool) (w : World) : Ending → World → Prop := fun r w' => r = .returned (.tuple #[.int .i64 t.1, .bool t.2]) ∧ Below w.heap.size w w'

theorem split_tot (c : UInt8) : ∀ (s cur : List UInt8), tot (splitAcc c cur s) ≤ cur.length + s.length + 1
  | [], cur => by simp [splitAcc, tot]
  | x :: r, cur => by
    rw [splitAcc]
    split
    · have := split_tot c r []
      rw [tot_cons]
      simp at this ⊢
      omega
    · have := split_tot c r (cur ++ [x])
      simp at this ⊢
      omega
theorem parts_tot (c : UInt8) (s : ByteArray) : tot (partsOf c s.data.toList) ≤ s.size + 1 := by
  have := split_tot c s.data.toList []
  simp at this
  exact this
theorem split_some (c : UInt8) : ∀ (s cur : List UInt8), 1 ≤ (splitAcc c cur s).length
  | [], cur => by simp [splitAcc]
  | x :: r, cur => by
    rw [splitAcc]
    split
    · simp
    · exact split_some c r _

theorem refClean_any (s : ByteArray) (w : World) (hs : s.size ≤ 1099511627776) : Calls Tryz.prog 27 #[.string s] w (StrBool (cleanPath s.data.toList) w) := by
  have HP : Hid (∀ W : World, Calls Tryz.prog 42 #[.string s, .int .u8 47] W (NewRow 9 1 (partsOf 47 s.data.toList).length (strsV (partsOf 47 s.data.toList)) W)) := fun W => parts_any s 47 W hs
  have hT := parts_tot 47 s
  unfold cleanPath
  obtain ⟨P, hP⟩ : ∃ P, P = partsOf 47 s.data.toList := ⟨_, rfl⟩
  rw [← hP] at HP hT ⊢
  clear hP
  go_enter Tryz.func27, Tryz.ntmps27
  go_wp2_with fail
  refine (HP.out _).mono ?_
  rintro r w1 ⟨v, rfl, hown, hb1⟩
  obtain ⟨A, c, rfl, hc, hl⟩ := own_form hown
  clear hown
  go_wp2_with fail
  refine (clean_any A _ c P _ hl (by omega)).mono ?_
  rintro r w2 ⟨rfl, hb2⟩
  have hn2 := below_step hb1 (Nat.le_refl _) hb2
  clear hb1 hb2 hl
  go_wp2
  go_ret2
  exact ⟨rfl, hn2⟩

theorem head_str (s : ByteArray) (h : 0 < s.size) : s.data.toList.head? = some (s[0]'h) := by
  rw [List.head?_eq_getElem?]
  exact str_at s 0 h

set_option maxRecDepth 100000 in
set_option maxHeartbeats 2000000 in
theorem refJoin_any (f s : ByteArray) (w : World) (hf : f.size ≤ 1099511627776) (hs : s.size ≤ 1099511627776) : Calls Tryz.prog 28 #[.string f, .string s] w (StrBool (joinPath f.data.toList s.data.toList) w) := by
  obtain ⟨i0, hi, hz0, hz1, hz2⟩ := info_parts infoStrC
  have HC : Hid (∀ W : World, Calls Tryz.prog 27 #[.string s] W (StrBool (cleanPath s.data.toList) W)) := fun W => refClean_any s W hs
  have HP : Hid (∀ W : World, Calls Tryz.prog 42 #[.string s, .int .u8 47] W (NewRow 9 1 (partsOf 47 s.data.toList).length (strsV (partsOf 47 s.data.toList)) W)) := fun W => parts_any s 47 W hs
  have HQ : Hid (∀ W : World, Calls Tryz.prog 42 #[.string f, .int .u8 47] W (NewRow 9 1 (partsOf 47 f.data.toList).length (strsV (partsOf 47 f.data.toList)) W)) := fun W => parts_any f 47 W hf
  by_cases hq : s.data.toList.head? = some 47
  · have HJ : Hid (joinPath f.data.toList s.data.toList = cleanPath s.data.toList) := by
      unfold Hid joinPath
      rw [if_pos hq]
    rw [HJ.out]
    have h0 : 0 < s.size := by
      by_cases h : 0 < s.size
      · exact h
      · have : s.data.toList = [] := List.eq_nil_of_length_eq_zero (by
          rw [Array.length_toList]
          have : s.data.size = s.size := rfl
          omega)
        rw [this] at hq
        cases hq
    have hx := head_str s h0
    rw [hx] at hq
    have hq' : s[0]'h0 = 47 := Option.some.inj hq
    have b1 : (((s[0]'h0).toNat : Int) == 47) = true := by rw [hq']; rfl
    have b0 : (0 : Int) < (s.size : Int) := by omega
    clear hq hq' hx HP HQ HJ
    go_enter Tryz.func28, Tryz.ntmps28
    go_wp2_with fail
    refine (HC.out _).mono ?_
    rintro r w1 ⟨rfl, hb1⟩
    go_wp2
    go_ret2
    exact ⟨rfl, hb1⟩
  · have HJ : Hid (joinPath f.data.toList s.data.toList = cleanOf ((partsOf 47 f.data.toList).dropLast ++ partsOf 47 s.data.toList)) := by
      unfold Hid joinPath
      rw [if_neg hq]
    rw [HJ.out]
    have hTf := parts_tot 47 f
    have hTs := parts_tot 47 s
    have hF1 : 1 ≤ (partsOf 47 f.data.toList).length := split_some _ _ _
    obtain ⟨F, hF⟩ : ∃ F, F = partsOf 47 f.data.toList := ⟨_, rfl⟩
    obtain ⟨P, hP⟩ : ∃ P, P = partsOf 47 s.data.toList := ⟨_, rfl⟩
    rw [← hF] at HQ hTf hF1 ⊢
    rw [← hP] at HP hTs ⊢
    have hlF := tot_len F
    have hlP := tot_len P
    have hlast := tot_last F
    have hdl : F.dropLast.length = F.length - 1 := List.length_dropLast
    clear hF hP HJ HC
    have n1 : IntKind.i64.wrap ((F.length : Int) - 1) = (F.length : Int) - 1 := IntWalk.i64_in _ (by omega)
    have n2 : ((F.length : Int) - 1).toNat = F.length - 1 := by omega
    have n3 : (0 : Int) ≤ (F.length : Int) - 1 := by omega
    have n5 : (1 : Int) ≤ (F.length : Int) := by omega
    by_cases h0 : 0 < s.size
    · have hx := head_str s h0
      rw [hx] at hq
      have hq' : ¬ s[0]'h0 = 47 := fun e => hq (by rw [e])
      have b1 : (((s[0]'h0).toNat : Int) == 47) = false := by
        rw [beq_eq_false_iff_ne]
        intro e
        exact hq' (UInt8.toNat_inj.1 (by rw [show (47 : UInt8).toNat = 47 from rfl]; omega))
      have b0 : (0 : Int) < (s.size : Int) := by omega
      clear hq hq' hx
      go_enter Tryz.func28, Tryz.ntmps28
      go_wp2_with fail
      refine (HQ.out _).mono ?_
      rintro r w1 ⟨v, rfl, hown, hb1⟩
      obtain ⟨A, c, rfl, hc, hl⟩ := own_form hown
      have hfr : Lies w1 w1.heap.size 1 A (F.length - 1) (strsV F.dropLast) := by
        rw [List.dropLast_eq_take]
        exact strs_front hl _ (by omega)
      obtain ⟨b2, o2, rfl, _, _⟩ := hl.2 (by omega)
      have n4 : (F.length : Int) - 1 ≤ (c : Int) := by omega
      have hs1 := hb1.size
      clear hown hl
      go_wp2_with (at_builtin; go_loud (refine wpList_append_lies _ rfl (.const (.slice none 0 0)) (.tmp 25) _ rfl w1.heap.size 9 i0 _ 1 16 Tryz.underlying77 hi hz0 hz1 hz2 rfl (by omega) (.slice none 0 0) 0 [] rfl (World.ownsRow_nil _ _ _ _) _ (some ⟨b2, o2, none⟩) (F.length - 1) c (strsV F.dropLast) rfl hfr (strsV_one _) (by unfold maxLen; omega) (by omega) (Nat.le_refl _) ?_))
      intro v2 w2 hown2 hg2
      have hb2 : Below w1.heap.size w1 w2 := below_grown (Below.refl _ _) (World.ownsRow_nil w1 w1.heap.size 9 1) (Nat.le_refl _) (Nat.le_refl _) hg2
      have hn2 : Below w.heap.size w w2 := hb1.trans (hb2.mono hs1)
      clear hfr hg2 hb1
      go_wp2_with fail
      refine (HP.out _).mono ?_
      rintro r w3 ⟨v3, rfl, hown3, hb3⟩
      have hown2' := own_below hown2 hb3
      have hn3 := below_step hn2 (Nat.le_refl _) hb3
      obtain ⟨A3, c3, rfl, hc3, hl3⟩ := own_form hown3
      clear hown3 hown2 hn2
      go_wp2_with (at_builtin; go_loud (refine wpList_append_lies _ rfl (.tmp 26) (.tmp 28) _ rfl w1.heap.size 9 i0 _ 1 16 Tryz.underlying77 hi hz0 hz1 hz2 rfl (by omega) _ _ _ rfl hown2' _ A3 P.length c3 (strsV P) rfl hl3 (strsV_one _) (by unfold maxLen; omega) (by omega) (by have := hb3.size; have := hb2.size; omega) ?_))
      intro v4 w4 hown4 hg4
      have hn4 : Below w.heap.size w w4 := below_grown hn3 hown2' hs1 hn3.size hg4
      obtain ⟨A4, c4, rfl, hc4, hl4⟩ := own_form hown4
      have hl5 : Lies w4 w4.heap.size 1 A4 (F.length - 1 + P.length) (strsV (F.dropLast ++ P)) := by
        have e : strsV (F.dropLast ++ P) = strsV F.dropLast ++ strsV P := by simp [strsV]
        rw [e]
        exact hl4
      clear hown4 hg4 hl4 hl3 hown2' hn3 hb3 hb2
      go_wp2_with fail
      refine (clean_any A4 _ c4 (F.dropLast ++ P) _ hl5 (by rw [tot_append]; omega)).mono ?_
      rintro r w5 ⟨rfl, hb5⟩
      have hn5 := below_step hn4 (Nat.le_refl _) hb5
      clear hb5 hn4 hl5
      go_wp2
      go_ret2
      exact ⟨rfl, hn5⟩
    · have h00 : s.size = 0 := by omega
      have b0 : ((s.size : Nat) : Int) = 0 := by omega
      clear hq h0
      go_enter Tryz.func28, Tryz.ntmps28
      go_wp2_with fail
      refine (HQ.out _).mono ?_
      rintro r w1 ⟨v, rfl, hown, hb1⟩
      obtain ⟨A, c, rfl, hc, hl⟩ := own_form hown
      have hfr : Lies w1 w1.heap.size 1 A (F.length - 1) (strsV F.dropLast) := by
        rw [List.dropLast_eq_take]
        exact strs_front hl _ (by omega)
      obtain ⟨b2, o2, rfl, _, _⟩ := hl.2 (by omega)
      have n4 : (F.length : Int) - 1 ≤ (c : Int) := by omega
      have hs1 := hb1.size
      clear hown hl
      go_wp2_with (at_builtin; go_loud (refine wpList_append_lies _ rfl (.const (.slice none 0 0)) (.tmp 25) _ rfl w1.heap.size 9 i0 _ 1 16 Tryz.underlying77 hi hz0 hz1 hz2 rfl (by omega) (.slice none 0 0) 0 [] rfl (World.ownsRow_nil _ _ _ _) _ (some ⟨b2, o2, none⟩) (F.length - 1) c (strsV F.dropLast) rfl hfr (strsV_one _) (by unfold maxLen; omega) (by omega) (Nat.le_refl _) ?_))
      intro v2 w2 hown2 hg2
      have hb2 : Below w1.heap.size w1 w2 := below_grown (Below.refl _ _) (World.ownsRow_nil w1 w1.heap.size 9 1) (Nat.le_refl _) (Nat.le_refl _) hg2
      have hn2 : Below w.heap.size w w2 := hb1.trans (hb2.mono hs1)
      clear hfr hg2 hb1
      go_wp2_with fail
      refine (HP.out _).mono ?_
      rintro r w3 ⟨v3, rfl, hown3, hb3⟩
      have hown2' := own_below hown2 hb3
      have hn3 := below_step hn2 (Nat.le_refl _) hb3
      obtain ⟨A3, c3, rfl, hc3, hl3⟩ := own_form hown3
      clear hown3 hown2 hn2
      go_wp2_with (at_builtin; go_loud (refine wpList_append_lies _ rfl (.tmp 26) (.tmp 28) _ rfl w1.heap.size 9 i0 _ 1 16 Tryz.underlying77 hi hz0 hz1 hz2 rfl (by omega) _ _ _ rfl hown2' _ A3 P.length c3 (strsV P) rfl hl3 (strsV_one _) (by unfold maxLen; omega) (by omega) (by have := hb3.size; have := hb2.size; omega) ?_))
      intro v4 w4 hown4 hg4
      have hn4 : Below w.heap.size w w4 := below_grown hn3 hown2' hs1 hn3.size hg4
      obtain ⟨A4, c4, rfl, hc4, hl4⟩ := own_form hown4
      have hl5 : Lies w4 w4.heap.size 1 A4 (F.length - 1 + P.length) (strsV (F.dropLast ++ P)) := by
        have e : strsV (F.dropLast ++ P) = strsV F.dropLast ++ strsV P := by simp [strsV]
        rw [e]
        exact hl4
      clear hown4 hg4 hl4 hl3 hown2' hn3 hb3 hb2
      go_wp2_with fail
      refine (clean_any A4 _ c4 (F.dropLast ++ P) _ hl5 (by rw [tot_append]; omega)).mono ?_
      rintro r w5 ⟨rfl, hb5⟩
      have hn5 := below_step hn4 (Nat.le_refl _) hb5
      clear hb5 hn4 hl5
      go_wp2
      go_ret2
      exact ⟨rfl, hn5⟩

/-- Where the search stands. -/
theorem file_drop {l : List (ByteArray × ByteArray)} {k : Nat} {f : ByteArray × ByteArray} (p : List UInt8) (h : l[k]? = some f) : fileFrom p k (l.drop k) = if isFile p f then ((k : Int), true) else fileFrom p (k + 1) (l.drop (k + 1)) := by
  obtain ⟨hk, e⟩ := List.getElem?_eq_some_iff.1 h
  rw [List.drop_eq_getElem_cons hk, e, fileFrom]

set_option maxRecDepth 100000 in
set_option maxHeartbeats 2000000 in
theorem refFile_any (A : Option Addr) (n c : Nat) (fs : List (ByteArray × ByteArray)) (s : ByteArray) (w : World) (hl : Lies w w.heap.size 2 A n (filesV fs)) (hn : n ≤ 4398046511104) (hs : s.size ≤ 1099511627776) (hf : ∀ f ∈ fs, f.1.size ≤ 1099511627776) :
    Calls Tryz.prog 16 #[.slice A n c, .string s] w (NumBool (fileOf fs s.data.toList) w) := by
  have HC : Hid (∀ (x : ByteArray) (W : World), x.size ≤ 1099511627776 → Calls Tryz.prog 27 #[.string x] W (StrBool (cleanPath x.data.toList) W)) := fun x W hx => refClean_any x W hx
  have hln : fs.length = n := by have := hl.1; rw [filesV_len] at this; omega
  have HLN := Lib.hid hln
  have HL := Lib.hid hl
  have HF := Lib.hid hf
  obtain ⟨R, hR⟩ : ∃ R, R = fileOf fs s.data.toList := ⟨_, rfl⟩
  obtain ⟨C, hC⟩ : ∃ C, C = cleanPath s.data.toList := ⟨_, rfl⟩
  have HR : Hid (R = if C.2 then fileFrom C.1 0 fs else (0, false)) := by rw [hR, hC]; rfl
  have HS : Hid (∀ W : World, Calls Tryz.prog 27 #[.string s] W (StrBool C W)) := fun W => by
    rw [hC]
    exact refClean_any s W hs
  rw [← hR]
  clear hln hl hf hR hC
  obtain ⟨p, ok⟩ := C
  dsimp only at HR
  go_enter Tryz.func16, Tryz.ntmps16
  go_wp2_with fail
  refine (HS.out _).mono ?_
  rintro r w1 ⟨rfl, hb1⟩
  have hl1 := HL.out.below hb1
  go_wp2_with fail
  go_loopw [8] (fun i wr => ∃ k : Nat, k ≤ n ∧ i = .int .i64 k ∧ Hid (R = if ok then fileFrom p k (fs.drop k) else (0, false)) ∧ Below w.heap.size w wr) (fun i _ => n - (intOf i).toNat)
  case atStart => exact ⟨0, by omega, rfl, HR, hb1⟩
  case round =>
    obtain ⟨k, hk, rfl, HK, hnx⟩ := hrel
    by_cases hlt : k < n
    · cases ok
      · have HN : Hid (R = (0, false)) := HK.out
        go_wp2
        go_ret2
        exact ⟨by rw [HN.out]; rfl, hnx⟩
      · obtain ⟨f, hf⟩ : ∃ f, fs[k]? = some f := ⟨_, List.getElem?_eq_getElem (by have := HLN.out; omega)⟩
        obtain ⟨a0, _⟩ := filesV_at fs k f hf
        obtain ⟨b, o, rfl, hb, hc⟩ := HL.out.2 (by omega)
        have e0 := (hnx.cell (p := ⟨b, o + k * 2, none⟩) hb).trans (hc _ _ a0)
        have hfd := file_drop p hf
        have hsz := HF.out f (List.mem_of_getElem? hf)
        have HD : Hid (R = if isFile p f then ((k : Int), true) else fileFrom p (k + 1) (fs.drop (k + 1))) := by
          unfold Hid
          rw [HK.out, ← hfd]
          rfl
        obtain ⟨Q, hQ⟩ : ∃ Q, Q = cleanPath f.1.data.toList := ⟨_, rfl⟩
        have HI : Hid (isFile p f = (Q.2 && (Q.1 == p))) := by
          unfold Hid isFile
          rw [hQ]
        have HCF : Hid (∀ W : World, Calls Tryz.prog 27 #[.string f.1] W (StrBool Q W)) := fun W => by
          rw [hQ]
          exact HC.out f.1 W hsz
        clear a0 hc hfd hf hsz hQ hl1
        obtain ⟨q, is⟩ := Q
        dsimp only at HI
        go_wp2_with fail
        refine (HCF.out _).mono ?_
        rintro r w2 ⟨rfl, hb2⟩
        have hn2 := below_step hnx (Nat.le_refl _) hb2
        clear hb2 e0 hnx
        have hts : ((strOf q).toList == (strOf p).toList) = (q == p) := by rw [strOf_toList, strOf_toList]
        cases is
        · have HN : Hid (R = fileFrom p (k + 1) (fs.drop (k + 1))) := by
            unfold Hid
            rw [HD.out, HI.out]
            rfl
          go_wp2
          go_roundw
          case rel => exact ⟨k + 1, by omega, by go_num, HN, hn2⟩
          case measure => simp [intOf]; omega
        · cases hq : (q == p)
          · rw [hq] at hts
            have HN : Hid (R = fileFrom p (k + 1) (fs.drop (k + 1))) := by
              unfold Hid
              rw [HD.out, HI.out, hq]
              rfl
            clear hq
            go_wp2
            go_roundw
            case rel => exact ⟨k + 1, by omega, by go_num, HN, hn2⟩
            case measure => simp [intOf]; omega
          · rw [hq] at hts
            have HN : Hid (R = ((k : Int), true)) := by
              unfold Hid
              rw [HD.out, HI.out, hq]
              rfl
            clear hq
            go_wp2
            go_ret2
            exact ⟨by rw [HN.out]; rfl, hn2⟩
    · obtain rfl : k = n := by omega
      have hall : fs.drop k = [] := List.drop_eq_nil_of_le (by have := HLN.out; omega)
      have HN : Hid (R = (0, false)) := by
        unfold Hid
        rw [HK.out, hall]
        cases ok <;> rfl
      go_wp2
      go_ret2
      exact ⟨by rw [HN.out]; rfl, hnx⟩

end Go.Proofs.YtdjhpgpekomjeaaGreatDoor
