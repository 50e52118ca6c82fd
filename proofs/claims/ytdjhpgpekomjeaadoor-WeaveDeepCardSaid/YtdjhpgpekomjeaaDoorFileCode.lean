/- The landed Clean, Join and Find keep what the document says of them. -/
import Derived.Test.YtdjhpgpekomjeaaDoorFileCl
namespace Go.Proofs.YtdjhpgpekomjeaaDoor
open Go.RowKit

theorem head_none (s : ByteArray) (h : s.size = 0) : s.data.toList.head? = none := by
  have e : s.data.toList = [] := List.eq_nil_of_length_eq_zero (by
    rw [Array.length_toList]
    exact h)
  rw [e]
  rfl
theorem first_byte (s : ByteArray) (h : 0 < s.size) : s.extract 0 1 = strOf [s[0]'h] := by
  rw [Go.Lib.extract_eq]
  have e := head_str s h
  cases hl : s.data.toList with
  | nil => rw [hl] at e; cases e
  | cons a l =>
    rw [hl] at e
    obtain rfl : a = s[0]'h := Option.some.inj e
    rfl

set_option maxRecDepth 100000 in
set_option maxHeartbeats 1000000 in
theorem prefix_low (s : ByteArray) (w : World) : Calls Tryd.prog 65 #[.string s, .string ⟨#[47]⟩] w fun e w' => e = .returned (.bool (decide (s.data.toList.head? = some 47))) ∧ w = w' := by
  by_cases h0 : 0 < s.size
  · have hh := head_str s h0
    have hf : (s.extract 0 1).toList = [s[0]'h0] := by rw [first_byte s h0, strOf_toList]
    have b0 : (1 : Int) ≤ (s.size : Int) := by omega
    have b1 : 1 ≤ s.size := h0
    by_cases hq : s[0]'h0 = 47
    · have hd : Hid (decide (s.data.toList.head? = some 47) = true) := by
        unfold Hid
        rw [hh, hq]
        rfl
      have ht : ((s.extract 0 1).toList == [47]) = true := by rw [hf, hq]; rfl
      clear hq hf hh
      go_enter Tryd.func65, Tryd.ntmps65
      go_wp2
      go_ret
      exact ⟨by rw [hd.out]; rfl, rfl⟩
    · have hd : Hid (decide (s.data.toList.head? = some 47) = false) := by
        unfold Hid
        rw [hh]
        simpa using hq
      have ht : ((s.extract 0 1).toList == [47]) = false := by rw [hf]; simpa using hq
      clear hq hf hh
      go_enter Tryd.func65, Tryd.ntmps65
      go_wp2
      go_ret
      exact ⟨by rw [hd.out]; rfl, rfl⟩
  · have hz : s.size = 0 := by omega
    have hd : Hid (decide (s.data.toList.head? = some 47) = false) := by
      unfold Hid
      rw [head_none s hz]
      rfl
    have b0 : ((s.size : Nat) : Int) < 1 := by omega
    clear h0 hz
    go_enter Tryd.func65, Tryd.ntmps65
    go_wp2
    go_ret
    exact ⟨by rw [hd.out]; rfl, rfl⟩

theorem slash_prefix (s : ByteArray) (w : World) : Calls Tryd.prog 47 #[.string s, .string ⟨#[47]⟩] w fun e w' => e = .returned (.bool (decide (s.data.toList.head? = some 47))) ∧ w = w' := by
  go_enter Tryd.func47, Tryd.ntmps47
  go_wp2_with fail
  refine (prefix_low s _).mono ?_
  rintro r w1 ⟨rfl, rfl⟩
  go_wp2
  go_ret
  exact ⟨rfl, rfl⟩

/-- The path that Join hands to Clean. -/
theorem join_parts {f p : List UInt8} {r : Int} (h : LastSl f r) : ∃ k : Nat, r + 1 = (k : Int) ∧ k ≤ f.length ∧ cleanPath (f.take k ++ p) = cleanOf ((partsOf 47 f).dropLast ++ partsOf 47 p) := by
  rcases h with ⟨rfl, hno⟩ | ⟨a, b, rfl, hb, rfl⟩
  · refine ⟨0, rfl, Nat.zero_le _, ?_⟩
    rw [parts_one 47 f hno]
    rfl
  · refine ⟨a.length + 1, by omega, by simp, ?_⟩
    have e : (a ++ 47 :: b).take (a.length + 1) = a ++ [47] := by
      rw [show a ++ 47 :: b = (a ++ [47]) ++ b from by simp, show a.length + 1 = (a ++ [47]).length from by simp, List.take_left]
    rw [e, parts_append, parts_one 47 b hb, List.dropLast_concat, cleanPath, show a ++ [47] ++ p = a ++ 47 :: p from by simp, parts_append]

set_option maxRecDepth 100000 in
set_option maxHeartbeats 2000000 in
theorem join_land (f s : ByteArray) (w : World) (hf : f.size ≤ 1099511627776) (hs : s.size ≤ 1099511627776) : Calls Tryd.prog 42 #[.string f, .string s] w (StrBool (joinPath f.data.toList s.data.toList) w) := by
  have HP : Hid (∀ V : World, Calls Tryd.prog 47 #[.string s, .string ⟨#[47]⟩] V fun e w' => e = .returned (.bool (decide (s.data.toList.head? = some 47))) ∧ V = w') := fun V => slash_prefix s V
  by_cases hq : s.data.toList.head? = some 47
  · have HJ : Hid (joinPath f.data.toList s.data.toList = cleanPath s.data.toList) := by
      unfold Hid joinPath
      rw [if_pos hq]
    have HC : Hid (∀ W : World, Calls Tryd.prog 9 #[.string s] W (StrBool (cleanPath s.data.toList) W)) := fun W => clean_land s W (by omega)
    rw [decide_eq_true hq] at HP
    rw [HJ.out]
    clear hq HJ
    go_enter Tryd.func42, Tryd.ntmps42
    go_wp2_with fail
    refine (HP.out _).mono ?_
    rintro r w1 ⟨rfl, rfl⟩
    go_wp2_with fail
    refine (HC.out _).mono ?_
    rintro r w1 ⟨rfl, hb1⟩
    go_wp2
    go_ret2
    exact ⟨rfl, hb1⟩
  · have HJ : Hid (joinPath f.data.toList s.data.toList = cleanOf ((partsOf 47 f.data.toList).dropLast ++ partsOf 47 s.data.toList)) := by
      unfold Hid joinPath
      rw [if_neg hq]
    have HLB : Hid (∀ V : World, Calls Tryd.prog 56 #[.string f, .int .u8 47] V fun e w' => ∃ r : Int, e = .returned (.int .i64 r) ∧ LastSl f.data.toList r ∧ V = w') := fun V => slast_any f V (by omega)
    rw [decide_eq_false hq] at HP
    rw [HJ.out]
    clear hq HJ
    go_enter Tryd.func42, Tryd.ntmps42
    go_wp2_with fail
    refine (HP.out _).mono ?_
    rintro r w1 ⟨rfl, rfl⟩
    go_wp2_with fail
    refine (HLB.out _).mono ?_
    rintro r w1 ⟨i, rfl, hi, rfl⟩
    obtain ⟨k, hik, hkl, hcl⟩ := join_parts (p := s.data.toList) hi
    have hkf : k ≤ f.size := by simpa using hkl
    have n1 : IntKind.i64.wrap (i + 1) = (k : Int) := by rw [hik]; exact IntWalk.i64_in _ (by omega)
    have n2 : (k : Int) ≤ (f.size : Int) := by omega
    have es : f.extract 0 k ++ s = strOf (f.data.toList.take k ++ s.data.toList) := by
      rw [Go.Lib.extract_eq]
      have h2 : s = strOf s.data.toList := (strOf_of s).symm
      generalize s.data.toList = T at h2 ⊢
      rw [h2]
      unfold strOf
      rw [strOf_append]
      simp
    have HC : Hid (∀ W : World, Calls Tryd.prog 9 #[.string (f.extract 0 k ++ s)] W (StrBool (cleanOf ((partsOf 47 f.data.toList).dropLast ++ partsOf 47 s.data.toList)) W)) := fun W => by
      have hsz : (f.extract 0 k ++ s).size ≤ 4398046511104 := by
        rw [es, strOf_size, List.length_append, List.length_take]
        simp only [Array.length_toList]
        have h1 : f.data.size = f.size := rfl
        have h2 : s.data.size = s.size := rfl
        omega
      have h := clean_land (f.extract 0 k ++ s) W hsz
      rw [es, strOf_data, hcl] at h
      rw [es]
      exact h
    have n3 : (f.extract 0 k ++ s).size ≤ 4398046511104 := by
      rw [es, strOf_size, List.length_append, List.length_take]
      simp only [Array.length_toList]
      have h1 : f.data.size = f.size := rfl
      have h2 : s.data.size = s.size := rfl
      omega
    clear hi hik hkl hcl es
    go_wp2_with fail
    refine (HC.out _).mono ?_
    rintro r w1 ⟨rfl, hb1⟩
    go_wp2
    go_ret2
    exact ⟨rfl, hb1⟩

set_option maxRecDepth 100000 in
set_option maxHeartbeats 2000000 in
theorem find_land (A : Option Addr) (n c : Nat) (fs : List (ByteArray × ByteArray)) (s : ByteArray) (w : World) (hl : Lies w w.heap.size 2 A n (filesV fs)) (hn : n ≤ 4398046511104) (hs : s.size ≤ 1099511627776) (hf : ∀ f ∈ fs, f.1.size ≤ 1099511627776) :
    Calls Tryd.prog 6 #[.slice A n c, .string s] w (NumBool (fileOf fs s.data.toList) w) := by
  have HC : Hid (∀ (x : ByteArray) (W : World), x.size ≤ 1099511627776 → Calls Tryd.prog 9 #[.string x] W (StrBool (cleanPath x.data.toList) W)) := fun x W hx => clean_land x W (by omega)
  have hln : fs.length = n := by have := hl.1; rw [filesV_len] at this; omega
  have HLN := Lib.hid hln
  have HL := Lib.hid hl
  have HF := Lib.hid hf
  obtain ⟨R, hR⟩ : ∃ R, R = fileOf fs s.data.toList := ⟨_, rfl⟩
  obtain ⟨C, hC⟩ : ∃ C, C = cleanPath s.data.toList := ⟨_, rfl⟩
  have HR : Hid (R = if C.2 then fileFrom C.1 0 fs else (0, false)) := by rw [hR, hC]; rfl
  have HS : Hid (∀ W : World, Calls Tryd.prog 9 #[.string s] W (StrBool C W)) := fun W => by
    rw [hC]
    exact clean_land s W (by omega)
  rw [← hR]
  clear hln hl hf hR hC
  obtain ⟨p, ok⟩ := C
  dsimp only at HR
  cases ok
  · have HN : Hid (R = (0, false)) := HR.out
    go_enter Tryd.func6, Tryd.ntmps6
    go_wp2_with fail
    refine (HS.out _).mono ?_
    rintro r w1 ⟨rfl, hb1⟩
    go_wp2
    go_ret2
    exact ⟨by rw [HN.out]; rfl, hb1⟩
  go_enter Tryd.func6, Tryd.ntmps6
  go_wp2_with fail
  refine (HS.out _).mono ?_
  rintro r w1 ⟨rfl, hb1⟩
  go_wp2_with fail
  go_loopw [21] (fun i wr => ∃ k : Nat, k ≤ n ∧ i = .int .i64 k ∧ Hid (R = fileFrom p k (fs.drop k)) ∧ Below w.heap.size w wr) (fun i _ => n - (intOf i).toNat)
  case atStart => exact ⟨0, by omega, rfl, HR, hb1⟩
  case round =>
    obtain ⟨k, hk, rfl, HK, hnx⟩ := hrel
    by_cases hlt : k < n
    · obtain ⟨f, hf⟩ : ∃ f, fs[k]? = some f := ⟨_, List.getElem?_eq_getElem (by have := HLN.out; omega)⟩
      obtain ⟨a0, a1⟩ := filesV_at fs k f hf
      obtain ⟨b, o, rfl, hb, hc⟩ := HL.out.2 (by omega)
      have e0 := (hnx.cell (p := ⟨b, o + k * 2, none⟩) hb).trans (hc _ _ a0)
      have e1 := (hnx.cell (p := ⟨b, o + (k * 2 + 1), none⟩) hb).trans (hc _ _ a1)
      have e1' : wr.cell? ⟨b, o + k * 2 + 1, none⟩ = some (.string f.2) := by rw [Nat.add_assoc]; exact e1
      have hbw : b < wr.heap.size := Nat.lt_of_lt_of_le hb hnx.size
      have hfd := file_drop p hf
      have hsz := HF.out f (List.mem_of_getElem? hf)
      have HD : Hid (R = if isFile p f then ((k : Int), true) else fileFrom p (k + 1) (fs.drop (k + 1))) := by
        unfold Hid
        rw [HK.out, ← hfd]
      obtain ⟨Q, hQ⟩ : ∃ Q, Q = cleanPath f.1.data.toList := ⟨_, rfl⟩
      have HI : Hid (isFile p f = (Q.2 && (Q.1 == p))) := by
        unfold Hid isFile
        rw [hQ]
      have HCF : Hid (∀ W : World, Calls Tryd.prog 9 #[.string f.1] W (StrBool Q W)) := fun W => by
        rw [hQ]
        exact HC.out f.1 W hsz
      clear a0 a1 hc hfd hf hsz hQ e1
      obtain ⟨q, is⟩ := Q
      dsimp only at HI
      go_wp2_with fail
      refine (HCF.out _).mono ?_
      rintro r w2 ⟨rfl, hb2⟩
      have hn2 := below_step (below_alloc hnx (Nat.le_refl _) _) (Nat.le_refl _) hb2
      clear hb2 e0 e1' hnx
      have hts : ((strOf q).toList == (strOf p).toList) = (q == p) := by rw [strOf_toList, strOf_toList]
      cases is
      · have HN : Hid (R = fileFrom p (k + 1) (fs.drop (k + 1))) := by
          unfold Hid
          rw [HD.out, HI.out]
          rfl
        clear hts
        go_wp2
        go_roundw
        case rel => exact ⟨k + 1, by omega, by go_num, HN, hn2⟩
        case measure => simp [intOf]; omega
      · cases hq : (q == p)
        · rw [hq] at hts
          have HN : Hid (R = fileFrom p (k + 1) (fs.drop (k + 1))) := by
            unfold Hid
            rw [HD.out, HI.out, hq]
            rfl
          clear hq
          go_wp2
          go_roundw
          case rel => exact ⟨k + 1, by omega, by go_num, HN, hn2⟩
          case measure => simp [intOf]; omega
        · rw [hq] at hts
          have HN : Hid (R = ((k : Int), true)) := by
            unfold Hid
            rw [HD.out, HI.out, hq]
            rfl
          clear hq
          go_wp2
          go_ret2
          exact ⟨by rw [HN.out]; rfl, hn2⟩
    · obtain rfl : k = n := by omega
      have hall : fs.drop k = [] := List.drop_eq_nil_of_le (by have := HLN.out; omega)
      have HN : Hid (R = (0, false)) := by
        unfold Hid
        rw [HK.out, hall]
        rfl
      go_wp2
      go_ret2
      exact ⟨by rw [HN.out]; rfl, hnx⟩

end Go.Proofs.YtdjhpgpekomjeaaDoor
