/- What the landed checker's test of one instruction gives. -/
import Derived.Test.YtlghhnfpmekdnaaChkOps
namespace Go.Proofs.Ytlghhnfpmekdnaa.LandedChk
open Go.RowKit

/-- The document's test, put together as the landed code puts it. -/
theorem refused_is (x : Ins) (left : Int) : refusedB x left =
    (!byteOk x.jt || !byteOk x.jf || !isCode x.code || badKOf x ||
      (if x.code = 5 then decide (left ≤ x.k) else if isJump x.code = true then decide (left ≤ x.jt) || decide (left ≤ x.jf) else left == 0 && !isRet x.code)) := by
  by_cases hp : x.plain
  · obtain ⟨h1, h2, h3, h4, h5⟩ := hp
    have e1 : byteOk x.jt = true := by simp [byteOk]; omega
    have e2 : byteOk x.jf = true := by simp [byteOk]; omega
    rw [refusedB_plain x left ⟨h1, h2, h3, h4, h5⟩, e1, e2, h5]
    simp only [Bool.not_true, Bool.false_or]
    unfold badKOf
    by_cases h32 : x.code = 32
    · rw [if_pos h32, if_pos h32, if_neg (by omega), if_neg (by rw [h32]; decide), h32]
      simp [isRet]
    rw [if_neg h32, if_neg h32]
    by_cases hm : x.code = 2 ∨ x.code = 3 ∨ x.code = 96 ∨ x.code = 97
    · rw [if_pos hm, if_pos hm, if_neg (by omega), if_neg (by rcases hm with e | e | e | e <;> rw [e] <;> decide)]
      rcases hm with e | e | e | e <;> rw [e] <;> simp [isRet]
    rw [if_neg hm, if_neg hm]
    by_cases h52 : x.code = 52
    · rw [if_pos h52, if_pos h52, if_neg (by omega), if_neg (by rw [h52]; decide), h52]
      simp [isRet]
    rw [if_neg h52, if_neg h52]
    by_cases hs : x.code = 100 ∨ x.code = 116
    · rw [if_pos hs, if_pos hs, if_neg (by omega), if_neg (by rcases hs with e | e <;> rw [e] <;> decide)]
      rcases hs with e | e <;> rw [e] <;> simp [isRet]
    rw [if_neg hs, if_neg hs, Bool.false_or]
    by_cases h5' : x.code = 5
    · rw [if_pos h5', if_pos h5']
    rw [if_neg h5', if_neg h5']
    by_cases hj : isJump x.code = true
    · rw [if_pos hj, if_pos hj]
    rw [if_neg hj, if_neg hj]
    by_cases hr : x.code = 6 ∨ x.code = 22
    · rw [if_pos hr]
      rcases hr with e | e <;> rw [e] <;> simp [isRet]
    · rw [if_neg hr]
      have : isRet x.code = false := by
        simp only [not_or] at hr
        simp [isRet, hr.1, hr.2]
      rw [this]
      simp
  · have hb : refusedB x left = true := by
      unfold refusedB
      rw [if_pos]
      by_cases h1 : x.jt < 0
      · exact .inl h1
      by_cases h2 : 255 < x.jt
      · exact .inr (.inl h2)
      by_cases h3 : x.jf < 0
      · exact .inr (.inr (.inl h3))
      by_cases h4 : 255 < x.jf
      · exact .inr (.inr (.inr (.inl h4)))
      refine .inr (.inr (.inr (.inr ?_)))
      cases h5 : isCode x.code
      · rfl
      · exact absurd ⟨by omega, by omega, by omega, by omega, h5⟩ hp
    rw [hb]
    have : (!byteOk x.jt || !byteOk x.jf || !isCode x.code) = true := by
      simp only [byteOk, Bool.or_eq_true, Bool.not_eq_true', Bool.and_eq_false_iff, decide_eq_false_iff_not]
      cases h5 : isCode x.code
      · exact .inr rfl
      · refine .inl ?_
        by_cases h : 0 ≤ x.jt ∧ x.jt ≤ 255 ∧ 0 ≤ x.jf ∧ x.jf ≤ 255
        · exact absurd ⟨h.1, h.2.1, h.2.2.1, h.2.2.2, h5⟩ hp
        · omega
    rw [this, Bool.true_or, Bool.true_or]

/-- What one call of it is to give. -/
def LRefuses (A : Option Addr) (n c i : Nat) (b : Bool) (w : World) : Prop :=
  Calls Try.prog 17 #[.slice A n c, .int .i64 i] w (Tell b w)

set_option maxRecDepth 100000 in
set_option maxHeartbeats 2000000 in
theorem lref_bad (n c i b o : Nat) (x : Ins) (w : World) (hx : x.Ok) (hi : i < n) (hn : n ≤ 4096) (e0 : w.cell? ⟨b, o + i * 4, none⟩ = some (.int .i64 x.code)) (e1 : w.cell? ⟨b, o + i * 4 + 1, none⟩ = some (.int .i64 x.jt)) (e2 : w.cell? ⟨b, o + i * 4 + 2, none⟩ = some (.int .i64 x.jf)) (e3 : w.cell? ⟨b, o + i * 4 + 3, none⟩ = some (.int .u32 x.k))
    (hb : (!byteOk x.jt || !byteOk x.jf || !isCode x.code || badKOf x) = true) : LRefuses (some ⟨b, o, none⟩) n c i true w := by
  unfold LRefuses
  have HX := Lib.hid hx
  obtain ⟨_, _, _, _, _, _, k0, k1⟩ := hx
  cases h1 : byteOk x.jt
  · have H1 := Lib.hid h1
    clear hb h1
    go_enter Try.func17, Try.ntmps17
    go_wp2_with fail
    refine (isByte_any _ _).mono ?_
    rw [H1.out]
    rintro r w1 ⟨rfl, rfl⟩
    go_wp2
    go_ret
    exact ⟨rfl, (Below.refl _ _).alloc (Nat.le_refl _) _⟩
  cases h2 : byteOk x.jf
  · have H1 := Lib.hid h1
    have H2 := Lib.hid h2
    clear hb h1 h2
    go_enter Try.func17, Try.ntmps17
    go_wp2_with fail
    refine (isByte_any _ _).mono ?_
    rw [H1.out]
    rintro r w1 ⟨rfl, rfl⟩
    go_wp2_with fail
    refine (isByte_any _ _).mono ?_
    rw [H2.out]
    rintro r w1 ⟨rfl, rfl⟩
    go_wp2
    go_ret
    exact ⟨rfl, (Below.refl _ _).alloc (Nat.le_refl _) _⟩
  cases h3 : isCode x.code
  · have H1 := Lib.hid h1
    have H2 := Lib.hid h2
    have H3 := Lib.hid h3
    clear hb h1 h2 h3
    go_enter Try.func17, Try.ntmps17
    go_wp2_with fail
    refine (isByte_any _ _).mono ?_
    rw [H1.out]
    rintro r w1 ⟨rfl, rfl⟩
    go_wp2_with fail
    refine (isByte_any _ _).mono ?_
    rw [H2.out]
    rintro r w1 ⟨rfl, rfl⟩
    go_wp2_with fail
    refine (known_any _ _).mono ?_
    rw [H3.out]
    rintro r w1 ⟨rfl, rfl⟩
    go_wp2
    go_ret
    exact ⟨rfl, (Below.refl _ _).alloc (Nat.le_refl _) _⟩
  · have h4 : badKOf x = true := by
      rw [h1, h2, h3] at hb
      simpa using hb
    have H1 := Lib.hid h1
    have H2 := Lib.hid h2
    have H3 := Lib.hid h3
    have H4 := Lib.hid h4
    clear hb h1 h2 h3 h4
    go_enter Try.func17, Try.ntmps17
    go_wp2_with fail
    refine (isByte_any _ _).mono ?_
    rw [H1.out]
    rintro r w1 ⟨rfl, rfl⟩
    go_wp2_with fail
    refine (isByte_any _ _).mono ?_
    rw [H2.out]
    rintro r w1 ⟨rfl, rfl⟩
    go_wp2_with fail
    refine (known_any _ _).mono ?_
    rw [H3.out]
    rintro r w1 ⟨rfl, rfl⟩
    go_wp2_with fail
    refine (badK_any x _ HX.out).mono ?_
    rw [H4.out]
    rintro r w2 ⟨rfl, hb2⟩
    go_wp2
    go_ret
    exact ⟨rfl, below_step ((Below.refl _ _).alloc (Nat.le_refl _) _) (Nat.le_refl _) hb2⟩

set_option maxRecDepth 100000 in
set_option maxHeartbeats 2000000 in
theorem lref_ja (n c i b o : Nat) (x : Ins) (w : World) (hx : x.Ok) (hi : i < n) (hn : n ≤ 4096) (e0 : w.cell? ⟨b, o + i * 4, none⟩ = some (.int .i64 x.code)) (e1 : w.cell? ⟨b, o + i * 4 + 1, none⟩ = some (.int .i64 x.jt)) (e2 : w.cell? ⟨b, o + i * 4 + 2, none⟩ = some (.int .i64 x.jf)) (e3 : w.cell? ⟨b, o + i * 4 + 3, none⟩ = some (.int .u32 x.k))
    (h1 : byteOk x.jt = true) (h2 : byteOk x.jf = true) (h3 : isCode x.code = true) (h4 : badKOf x = false) (h5 : x.code = 5) : LRefuses (some ⟨b, o, none⟩) n c i (decide (((n : Int) - 1 - (i : Int)) ≤ x.k)) w := by
  unfold LRefuses
  have HX := Lib.hid hx
  obtain ⟨_, _, _, _, _, _, k0, k1⟩ := hx
  have H1 := Lib.hid h1
  have H2 := Lib.hid h2
  have H3 := Lib.hid h3
  have H4 := Lib.hid h4
  have b5 : (x.code == 5) = true := by rw [h5]; rfl
  have n0 : ((n : Int) - 1 - (i : Int)) % 4294967296 = (n : Int) - 1 - (i : Int) := by omega
  have n1 : IntKind.u32.wrap ((n : Int) - 1 - (i : Int)) = (n : Int) - 1 - (i : Int) := by rw [IntKind.wrap_u32]; exact n0
  clear h1 h2 h3 h4 h5
  go_enter Try.func17, Try.ntmps17
  go_wp2_with fail
  refine (isByte_any _ _).mono ?_
  rw [H1.out]
  rintro r w1 ⟨rfl, rfl⟩
  go_wp2_with fail
  refine (isByte_any _ _).mono ?_
  rw [H2.out]
  rintro r w1 ⟨rfl, rfl⟩
  go_wp2_with fail
  refine (known_any _ _).mono ?_
  rw [H3.out]
  rintro r w1 ⟨rfl, rfl⟩
  go_wp2_with fail
  refine (badK_any x _ HX.out).mono ?_
  rw [H4.out]
  rintro r w2 ⟨rfl, hb2⟩
  obtain ⟨hc2, hf2⟩ := cells_below hb2
  go_wp2
  go_ret
  exact ⟨ret_bool (by first | rfl | simp [*]), below_step ((Below.refl _ _).alloc (Nat.le_refl _) _) (Nat.le_refl _) hb2⟩

set_option maxRecDepth 100000 in
set_option maxHeartbeats 2000000 in
theorem lref_jump (n c i b o : Nat) (x : Ins) (w : World) (hx : x.Ok) (hi : i < n) (hn : n ≤ 4096) (e0 : w.cell? ⟨b, o + i * 4, none⟩ = some (.int .i64 x.code)) (e1 : w.cell? ⟨b, o + i * 4 + 1, none⟩ = some (.int .i64 x.jt)) (e2 : w.cell? ⟨b, o + i * 4 + 2, none⟩ = some (.int .i64 x.jf)) (e3 : w.cell? ⟨b, o + i * 4 + 3, none⟩ = some (.int .u32 x.k))
    (h1 : byteOk x.jt = true) (h2 : byteOk x.jf = true) (h3 : isCode x.code = true) (h4 : badKOf x = false) (h5 : ¬ x.code = 5) (hj : isJump x.code = true) : LRefuses (some ⟨b, o, none⟩) n c i (decide (((n : Int) - 1 - (i : Int)) ≤ x.jt) || decide (((n : Int) - 1 - (i : Int)) ≤ x.jf)) w := by
  unfold LRefuses
  have HX := Lib.hid hx
  have H1 := Lib.hid h1
  have H2 := Lib.hid h2
  have H3 := Lib.hid h3
  have H4 := Lib.hid h4
  have HJ := Lib.hid hj
  have b5 : (x.code == 5) = false := by simpa using h5
  clear h1 h2 h3 h4 h5 hj hx
  go_enter Try.func17, Try.ntmps17
  go_wp2_with fail
  refine (isByte_any _ _).mono ?_
  rw [H1.out]
  rintro r w1 ⟨rfl, rfl⟩
  go_wp2_with fail
  refine (isByte_any _ _).mono ?_
  rw [H2.out]
  rintro r w1 ⟨rfl, rfl⟩
  go_wp2_with fail
  refine (known_any _ _).mono ?_
  rw [H3.out]
  rintro r w1 ⟨rfl, rfl⟩
  go_wp2_with fail
  refine (badK_any x _ HX.out).mono ?_
  rw [H4.out]
  rintro r w2 ⟨rfl, hb2⟩
  obtain ⟨hc2, hf2⟩ := cells_below hb2
  go_wp2_with fail
  refine (compares_any _ _).mono ?_
  rw [HJ.out]
  rintro r w3 ⟨rfl, rfl⟩
  go_wp2
  all_goals
    go_ret
    exact ⟨ret_bool (by first | rfl | simp [*]), below_step ((Below.refl _ _).alloc (Nat.le_refl _) _) (Nat.le_refl _) hb2⟩

set_option maxRecDepth 100000 in
set_option maxHeartbeats 2000000 in
theorem lref_else (n c i b o : Nat) (x : Ins) (w : World) (hx : x.Ok) (hi : i < n) (hn : n ≤ 4096) (e0 : w.cell? ⟨b, o + i * 4, none⟩ = some (.int .i64 x.code)) (e1 : w.cell? ⟨b, o + i * 4 + 1, none⟩ = some (.int .i64 x.jt)) (e2 : w.cell? ⟨b, o + i * 4 + 2, none⟩ = some (.int .i64 x.jf)) (e3 : w.cell? ⟨b, o + i * 4 + 3, none⟩ = some (.int .u32 x.k))
    (h1 : byteOk x.jt = true) (h2 : byteOk x.jf = true) (h3 : isCode x.code = true) (h4 : badKOf x = false) (h5 : ¬ x.code = 5) (hj : ¬ isJump x.code = true) : LRefuses (some ⟨b, o, none⟩) n c i ((((n : Int) - 1 - (i : Int)) == 0) && !isRet x.code) w := by
  unfold LRefuses
  have HX := Lib.hid hx
  have H1 := Lib.hid h1
  have H2 := Lib.hid h2
  have H3 := Lib.hid h3
  have H4 := Lib.hid h4
  have hj' : isJump x.code = false := by simpa using hj
  have HJ := Lib.hid hj'
  have b5 : (x.code == 5) = false := by simpa using h5
  clear h1 h2 h3 h4 h5 hj hj' hx
  cases hl : (((n : Int) - 1 - (i : Int)) == 0)
  · go_enter Try.func17, Try.ntmps17
    go_wp2_with fail
    refine (isByte_any _ _).mono ?_
    rw [H1.out]
    rintro r w1 ⟨rfl, rfl⟩
    go_wp2_with fail
    refine (isByte_any _ _).mono ?_
    rw [H2.out]
    rintro r w1 ⟨rfl, rfl⟩
    go_wp2_with fail
    refine (known_any _ _).mono ?_
    rw [H3.out]
    rintro r w1 ⟨rfl, rfl⟩
    go_wp2_with fail
    refine (badK_any x _ HX.out).mono ?_
    rw [H4.out]
    rintro r w2 ⟨rfl, hb2⟩
    obtain ⟨hc2, hf2⟩ := cells_below hb2
    go_wp2_with fail
    refine (compares_any _ _).mono ?_
    rw [HJ.out]
    rintro r w3 ⟨rfl, rfl⟩
    go_wp2
    go_ret
    exact ⟨rfl, below_step ((Below.refl _ _).alloc (Nat.le_refl _) _) (Nat.le_refl _) hb2⟩
  · go_enter Try.func17, Try.ntmps17
    go_wp2_with fail
    refine (isByte_any _ _).mono ?_
    rw [H1.out]
    rintro r w1 ⟨rfl, rfl⟩
    go_wp2_with fail
    refine (isByte_any _ _).mono ?_
    rw [H2.out]
    rintro r w1 ⟨rfl, rfl⟩
    go_wp2_with fail
    refine (known_any _ _).mono ?_
    rw [H3.out]
    rintro r w1 ⟨rfl, rfl⟩
    go_wp2_with fail
    refine (badK_any x _ HX.out).mono ?_
    rw [H4.out]
    rintro r w2 ⟨rfl, hb2⟩
    obtain ⟨hc2, hf2⟩ := cells_below hb2
    go_wp2_with fail
    refine (compares_any _ _).mono ?_
    rw [HJ.out]
    rintro r w3 ⟨rfl, rfl⟩
    go_wp2_with fail
    refine (returns_any _ _).mono ?_
    rintro r w3 ⟨rfl, rfl⟩
    go_wp2
    go_ret
    exact ⟨ret_bool (by first | rfl | simp), below_step ((Below.refl _ _).alloc (Nat.le_refl _) _) (Nat.le_refl _) hb2⟩

theorem lref_any (A : Option Addr) (n c i : Nat) (l : List Ins) (w : World) (hl : Lies w w.heap.size 4 A n (cellsOf l)) (hok : ∀ y ∈ l, y.Ok) (hi : i < n) (hn : n ≤ 4096) :
    LRefuses A n c i (refusedAt l i) w := by
  have hln : l.length = n := by have := hl.1; rw [cells_len] at this; omega
  obtain ⟨b, o, rfl, _, hc⟩ := hl.2 (by omega)
  obtain ⟨x, hx⟩ : ∃ x, l[i]? = some x := ⟨_, List.getElem?_eq_getElem (by omega)⟩
  obtain ⟨a0, a1, a2, a3⟩ := cell_at l i x hx
  have hxo := hok x (List.mem_of_getElem? hx)
  have e0 := hc _ _ a0
  have e1 := hc _ _ a1
  have e2 := hc _ _ a2
  have e3 := hc _ _ a3
  rw [← Nat.add_assoc] at e1 e2 e3
  have hv : refusedAt l i = refusedB x ((n : Int) - 1 - (i : Int)) := by
    unfold refusedAt
    rw [hx, hln]
    show refusedB x ((n - 1 - i : Nat) : Int) = _
    congr 1
    omega
  rw [hv, refused_is]
  cases hb : (!byteOk x.jt || !byteOk x.jf || !isCode x.code || badKOf x)
  · simp only [Bool.or_eq_false_iff, Bool.not_eq_false'] at hb
    obtain ⟨⟨⟨h1, h2⟩, h3⟩, h4⟩ := hb
    rw [Bool.false_or]
    by_cases h5 : x.code = 5
    · rw [if_pos h5]
      exact lref_ja n c i b o x w hxo hi hn e0 e1 e2 e3 h1 h2 h3 h4 h5
    rw [if_neg h5]
    by_cases hj : isJump x.code = true
    · rw [if_pos hj]
      exact lref_jump n c i b o x w hxo hi hn e0 e1 e2 e3 h1 h2 h3 h4 h5 hj
    · rw [if_neg hj]
      exact lref_else n c i b o x w hxo hi hn e0 e1 e2 e3 h1 h2 h3 h4 h5 hj
  · rw [Bool.true_or]
    exact lref_bad n c i b o x w hxo hi hn e0 e1 e2 e3 hb

end Go.Proofs.Ytlghhnfpmekdnaa.LandedChk
