/- Which file the landed weave's include asks for. No condition but sizes. -/
import Derived.Test.YtdjhpgpekomjeaaDoorWcSt
import Derived.Test.YtdjhpgpekomjeaaDoorFileCode
namespace Go.Proofs.YtdjhpgpekomjeaaDoor.LandedW
open Go.RowKit

/-- The files that came in, below all that is written. -/
structure Came.Ok (C : Came) : Prop where
  lies : Lies C.w C.w.heap.size 2 C.A C.n (filesV C.fs)
  len : C.fs.length = C.n
  cap : C.n ≤ C.c
  few : C.n ≤ 1000
  size : ∀ f ∈ C.fs, f.1.size ≤ 100000 ∧ f.2.size ≤ 100000

def findOf (fs : List FileV) (path text : List UInt8) : Int × Bool := if (joinPath path text).2 then fileOf fs (joinPath path text).1 else (0, false)

section
variable {C : Came} {R Q : Value} {D : DataW Value} {o : List Nat} {k : Nat} {qs : List Value} {ps : List (List FTok)} {d : Nat}

set_option maxRecDepth 100000 in
set_option maxHeartbeats 4000000 in
theorem find_any (hC : C.Ok) {w : World} (hS : Sta C R Q D o k qs ps d w) (n : Nat) (f : FileV) (hf : C.fs[n]? = some f) (u : TokV) (hu : u.text.length ≤ 1048576) :
    Calls Tryd.prog 26 #[.pointer (some ⟨C.g, 0, none⟩), .agg #[.int .i64 u.kind, .string (strOf u.text), .int .i64 (n : Int), .complex .f64 (fl u.place.1) (fl u.place.2)]] w
      fun e w' => e = .returned (.tuple #[.int .i64 (findOf C.fs f.1.data.toList u.text).1, .bool (findOf C.fs f.1.data.toList u.text).2]) ∧ Below w.heap.size w w' := by
  have hst := store_cx
  obtain ⟨A, N, c, fs, w0, g, m⟩ := C
  have hlt : n < N := by have := hC.len; have := (List.getElem?_eq_some_iff.1 hf).1; dsimp only at *; omega
  have hN := hC.few
  have hsz := hC.size f (List.mem_of_getElem? hf)
  have hfz : (strOf u.text).size = u.text.length := strOf_size _
  have hl := hC.lies.below hS.below
  obtain ⟨b, oo, rfl, hb, hc⟩ := hl.2 (by dsimp only; omega)
  have hat := (filesV_at fs n f hf).1
  have t0 := hc _ _ hat
  have g0 := hS.box.cell 0
  dsimp only at g0 t0 hlt hN hsz
  simp only [List.getElem?_toArray, List.getElem?_cons_zero] at g0
  have HS := Lib.hid hS
  obtain ⟨J, hJ⟩ : ∃ J, J = joinPath f.1.data.toList u.text := ⟨_, rfl⟩
  have HJL : Hid (J.1.length ≤ 2000000) := by
    have := joinPath_len f.1 (strOf u.text)
    rw [strOf_data, ← hJ] at this
    unfold Hid
    omega
  have HJ : Hid (∀ W : World, Calls Tryd.prog 42 #[.string f.1, .string (strOf u.text)] W (StrBool J W)) := fun W => by
    have := join_land f.1 (strOf u.text) W (by omega) (by omega)
    rw [strOf_data, ← hJ] at this
    exact this
  have HF : Hid (∀ W : World, Below w.heap.size w W → Calls Tryd.prog 6 #[.slice (some ⟨b, oo, none⟩) N c, .string (strOf J.1)] W (NumBool (fileOf fs J.1) W)) := fun W hW => by
    have h1 : Lies W W.heap.size 2 (some ⟨b, oo, none⟩) N (filesV fs) := (hl.wider hS.below.size).below hW |>.wider hW.size
    have := find_land _ N c fs (strOf J.1) W h1 (by omega) (by have := HJL.out; rw [strOf_size]; omega) (fun x hx => by have := (hC.size x hx).1; omega)
    rw [strOf_data] at this
    exact this
  have HR : Hid (findOf fs f.1.data.toList u.text = if J.2 then fileOf fs J.1 else (0, false)) := by unfold Hid findOf; rw [← hJ]
  generalize findOf fs f.1.data.toList u.text = F at *
  have hgl := hS.box.lt
  dsimp only at hgl
  clear hJ hC hS hl hc hat hf HJL hsz hu hfz
  go_enter Tryd.func26, Tryd.ntmps26
  go_upto_region 1 with (fail)
  have HB1 := Lib.hid (Box.new w 35 #[.int .i64 u.kind, .string (strOf u.text), .int .i64 (n : Int), .complex .f64 (fl u.place.1) (fl u.place.2)])
  have HN1 : Hid (Below w.heap.size w (w.alloc (.cells #[.int .i64 u.kind, .string (strOf u.text), .int .i64 (n : Int), .complex .f64 (fl u.place.1) (fl u.place.2)] 35))) := below_alloc (Below.refl _ _) (Nat.le_refl _) _
  have hb' : b < w.heap.size := by have := HS.out.below.size; dsimp only at this hb; omega
  obtain ⟨gf, hgf⟩ : ∃ gf, gf = w.heap.size := ⟨_, rfl⟩
  generalize w.alloc (.cells #[.int .i64 u.kind, .string (strOf u.text), .int .i64 (n : Int), .complex .f64 (fl u.place.1) (fl u.place.2)] 35) = w1 at *
  have t1 := (HN1.out.cell (p := ⟨b, oo + n * 2, none⟩) hb').trans t0
  have g1 := (HN1.out.cell (p := ⟨g, 0, none⟩) hgl).trans g0
  rw [← hgf] at HB1 ⊢
  have c1 := HB1.out.cell 1
  have c2 := HB1.out.cell 2
  simp only [List.getElem?_toArray, List.getElem?_cons_zero, List.getElem?_cons_succ] at c1 c2
  have hny := HN1.out.size
  have hgf1 := HB1.out.lt
  have hb1 : b < w1.heap.size := by omega
  have hg1 : g < w1.heap.size := by omega
  clear hgf t0 g0
  have hd0 : Below w1.heap.size w1 w1.drew := (Below.refl _ _).drew
  have t1d : w1.drew.cell? ⟨b, oo + n * 2, none⟩ = some (.string f.1) := t1
  have g1d : w1.drew.cell? ⟨g, 0, none⟩ = some (.slice (some ⟨b, oo, none⟩) N c) := g1
  have c1d : w1.drew.cell? ⟨gf, 1, none⟩ = some (.string (strOf u.text)) := c1
  have c2d : w1.drew.cell? ⟨gf, 2, none⟩ = some (.int .i64 (n : Int)) := c2
  go_region_held3 (fun W => W.cell? ⟨b, oo + n * 2, none⟩ = some (.string f.1) ∧ W.cell? ⟨g, 0, none⟩ = some (.slice (some ⟨b, oo, none⟩) N c) ∧ W.cell? ⟨gf, 1, none⟩ = some (.string (strOf u.text)) ∧ W.cell? ⟨gf, 2, none⟩ = some (.int .i64 (n : Int)) ∧ Below w1.heap.size w1 W) (first | exact ⟨t1d, g1d, c1d, c2d, hd0⟩ | exact ⟨t2, g2, c1e, c2e, hb2⟩) (first
    | (go_at_call 42; refine (HJ.out _).mono ?_; rintro r w2 ⟨rfl, hb2'⟩; have hb2 := hd0.trans hb2'; have t2 := (hb2.cell (p := ⟨b, oo + n * 2, none⟩) hb1).trans t1; have g2 := (hb2.cell (p := ⟨g, 0, none⟩) hg1).trans g1; have c1e := (hb2.cell (p := ⟨gf, 1, none⟩) hgf1).trans c1; have c2e := (hb2.cell (p := ⟨gf, 2, none⟩) hgf1).trans c2))
  have hn2 := HN1.out.trans (hb2.mono hny)
  have HF2 := Lib.hid (HF.out w2 hn2)
  have HN2 := Lib.hid hn2
  have HSTEP : Hid (∀ w3, Below w2.heap.size w2 w3 → Below w.heap.size w w3) := fun w3 h => below_step hn2 (Nat.le_refl _) h
  obtain ⟨jl, jb⟩ := J
  cases jb with
  | false =>
    have HE : Hid (F = (0, false)) := HR.out
    clear HR HF HF2 hn2 hb2 hb2' t1d g1d c1d c2d t2 c1e c2e c1 c2 g1 t1 HJ
    go_wp2_with fail
    go_ret2
    exact ⟨by rw [HE.out]; rfl, HN2.out⟩
  | true =>
    have HE : Hid (F = fileOf fs jl) := HR.out
    dsimp only at HF2 ⊢
    clear HR HF hn2 hb2 hb2' t1d g1d c1d c2d t2 c1e c2e c1 c2 g1 t1 HJ
    go_wp2_with fail
    refine HF2.out.mono ?_
    rintro e w3 ⟨rfl, hb3⟩
    go_wp2_with fail
    go_ret2
    exact ⟨by rw [HE.out]; rfl, HSTEP.out _ hb3⟩

/-- What an include asks for, or why not: a file's number, an error's. -/
def targetOf (fs : List FileV) (path : List UInt8) (opened : List Nat) (k : Nat) : List TokV → Int × Int
  | _ :: u :: _ => if u.kind ≠ 4 then (0, 3) else if (findOf fs path u.text).2 = false then (0, 4) else if opened.contains (findOf fs path u.text).1.toNat then (0, 5)
      else if 8 ≤ opened.length then (0, 6) else if 1000 ≤ k then (0, 9) else ((findOf fs path u.text).1, 0)
  | _ => (0, 3)

theorem findOf_lt {fs : List FileV} {path text : List UInt8} (h : (findOf fs path text).2 = true) : 0 ≤ (findOf fs path text).1 ∧ (findOf fs path text).1.toNat < fs.length := by
  unfold findOf at h ⊢
  split at h
  · rename_i h1
    rw [if_pos h1]
    exact fileOf_lt h
  · cases h

set_option maxRecDepth 100000 in
set_option maxHeartbeats 4000000 in
theorem target_any (hC : C.Ok) {w : World} (hS : Sta C R Q D o k qs ps d w) (n : Nat) (f : FileV) (hf : C.fs[n]? = some f) (ho : o.length ≤ 8) (hk : k ≤ 1000) (t : TokV) (r : List TokV) (ht : ∀ u ∈ r, u.text.length ≤ 1048576) (b oo c' : Nat) (N' : Nat)
    (hl : LiesT (Writes C R Q) w 4 (some ⟨b, oo, none⟩) N' (toksV (n : Int) (t :: r))) (hN' : N' ≤ 1000000) (hc' : N' ≤ c') :
    Calls Tryd.prog 19 #[.pointer (some ⟨C.g, 0, none⟩), .slice (some ⟨b, oo, none⟩) N' c'] w
      fun e w' => e = .returned (.tuple #[.int .i64 (targetOf C.fs f.1.data.toList o k (t :: r)).1, .int .i64 (targetOf C.fs f.1.data.toList o k (t :: r)).2]) ∧ Below w.heap.size w w' := by
  have hst := store_cx
  have hlr : r.length + 1 = N' := by have := hl.1; rw [toksV_len] at this; simp only [List.length_cons] at this; omega
  obtain ⟨T, hT⟩ : ∃ T, T = targetOf C.fs f.1.data.toList o k (t :: r) := ⟨_, rfl⟩
  have HT := Lib.hid hT
  rw [← hT]
  clear hT
  cases r with
  | nil =>
    obtain rfl : 1 = N' := hlr
    have HE : Hid (T = (0, 3)) := HT.out
    clear hl ht hS hC HT
    go_enter Tryd.func19, Tryd.ntmps19
    go_wp2_with fail
    try go_quiet (fail)
    go_wp2_with fail
    go_ret2
    exact ⟨by rw [HE.out]; rfl, by first | exact Below.refl _ _ | exact below_drewN (Below.refl _ _) _⟩
  | cons u r =>
    obtain ⟨b', o', he, hb, hx, hc⟩ := hl.2 (by omega)
    obtain ⟨rfl, rfl⟩ : b' = b ∧ o' = oo := by
      have := Option.some.inj he
      injection this with e1 e2
      exact ⟨e1.symm, e2.symm⟩
    obtain ⟨q0, q1, q2, q3⟩ := tok_cells (n : Int) (t :: u :: r) 1 u rfl
    have t0 := hc _ _ q0
    have t1 := hc _ _ q1
    have t2 := hc _ _ q2
    have t3 := hc _ _ q3
    have hN2 : 2 ≤ N' := by simp only [List.length_cons] at hlr; omega
    have hu := ht u List.mem_cons_self
    have HFD := Lib.hid (fun W (hW : Below w.heap.size w W) => find_any hC (hS.step hW) n f hf u hu)
    have HFL : Hid ((findOf C.fs f.1.data.toList u.text).2 = true → 0 ≤ (findOf C.fs f.1.data.toList u.text).1 ∧ (findOf C.fs f.1.data.toList u.text).1.toNat < C.fs.length) := findOf_lt
    have HT2 : Hid (T = if u.kind ≠ 4 then (0, 3) else if (findOf C.fs f.1.data.toList u.text).2 = false then (0, 4) else if o.contains (findOf C.fs f.1.data.toList u.text).1.toNat then (0, 5)
      else if 8 ≤ o.length then (0, 6) else if 1000 ≤ k then (0, 9) else ((findOf C.fs f.1.data.toList u.text).1, 0)) := HT.out
    generalize findOf C.fs f.1.data.toList u.text = F at HFD HFL HT2
    obtain ⟨RA, rc, rfl, hrc, hrl⟩ := own_form hS.reads
    have HRL := Lib.hid hrl
    have HS := Lib.hid hS
    have g2 := hS.box.cell 2
    have g3 := hS.box.cell 3
    simp only [List.getElem?_toArray, List.getElem?_cons_zero, List.getElem?_cons_succ] at g2 g3
    have hgl := hS.box.lt
    clear hc hl hx q0 q1 q2 q3 hrl hS hf ht hlr HT he hu hC
    by_cases hk4 : u.kind = 4
    · rw [if_neg (by simpa using hk4)] at HT2
      have hkb : (u.kind != 4) = false := by rw [hk4]; rfl
      have hNI : ¬ (N' : Int) < 2 := by omega
      have HTB : Hid (∀ (A : Option Addr) (c : Nat) (W : World) (x : Nat), Below w.heap.size w W → A = RA → c = rc → Calls Tryd.prog 27 #[.slice A o.length c, .int .i64 (x : Int)] W fun e w' => e = .returned (.bool (o.contains x)) ∧ Below W.heap.size W w') := fun A c W x hW e1 e2 => by
        subst e1 e2
        exact contains_ints o x _ _ _ W ((HRL.out.below hW).wider hW.size) (by omega)
      clear hk4
      go_enter Tryd.func19, Tryd.ntmps19
      go_wp2_with fail
      refine (HFD.out w (Below.refl _ _)).mono ?_
      rintro e w1 ⟨rfl, hb1⟩
      have g2' := (hb1.cell (p := ⟨C.g, 2, none⟩) hgl).trans g2
      have g3' := (hb1.cell (p := ⟨C.g, 3, none⟩) hgl).trans g3
      have HB1 := Lib.hid hb1
      obtain ⟨F1, F2⟩ := F
      cases F2 with
      | false =>
        have HE : Hid (T = (0, 4)) := HT2.out
        clear HT2 HFD HFL HTB HS HRL t0 t1 t2 t3 g2 g3 hb1
        go_wp2_with fail
        go_ret2
        exact ⟨by rw [HE.out]; rfl, HB1.out⟩
      | true =>
        obtain ⟨x, rfl⟩ : ∃ x : Nat, F1 = (x : Int) := ⟨F1.toNat, by have := (HFL.out rfl).1; dsimp only at this; omega⟩
        have HT3 : Hid (T = if o.contains x then (0, 5) else if 8 ≤ o.length then (0, 6) else if 1000 ≤ k then (0, 9) else ((x : Int), 0)) := HT2.out
        have HTC := Lib.hid (HTB.out RA rc w1 x hb1 rfl rfl)
        clear HT2 HFD HFL HTB HRL t0 t1 t2 t3 g2 g3 hb1
        dsimp only
        go_wp2_with fail
        refine HTC.out.mono ?_
        rintro e w2 ⟨rfl, hb2⟩
        have g3'' := (hb2.cell (p := ⟨C.g, 3, none⟩) (Nat.lt_of_lt_of_le hgl HB1.out.size)).trans g3'
        have g2'' := (hb2.cell (p := ⟨C.g, 2, none⟩) (Nat.lt_of_lt_of_le hgl HB1.out.size)).trans g2'
        have HB2 := Lib.hid (below_step HB1.out (Nat.le_refl _) hb2)
        clear HTC g2' g3' hb2
        cases hct : o.contains x with
        | true =>
          rw [hct] at HT3
          have HE : Hid (T = (0, 5)) := HT3.out
          clear HT3 hct
          go_wp2_with fail
          go_ret2
          exact ⟨by rw [HE.out]; rfl, HB2.out⟩
        | false =>
          rw [hct] at HT3
          have HT4 : Hid (T = if 8 ≤ o.length then (0, 6) else if 1000 ≤ k then (0, 9) else ((x : Int), 0)) := HT3.out
          clear HT3 hct
          by_cases h8 : 8 ≤ o.length
          · have HE : Hid (T = (0, 6)) := by have := HT4.out; rwa [if_pos h8] at this
            have h8I : (8 : Int) ≤ (o.length : Int) := by omega
            clear HT4 h8
            go_wp2_with fail
            go_ret2
            exact ⟨by rw [HE.out]; rfl, HB2.out⟩
          · have HT5 : Hid (T = if 1000 ≤ k then (0, 9) else ((x : Int), 0)) := by have := HT4.out; rwa [if_neg h8] at this
            have h8I : ¬ (8 : Int) ≤ (o.length : Int) := by omega
            clear HT4 h8
            by_cases h1 : 1000 ≤ k
            · have HE : Hid (T = (0, 9)) := by have := HT5.out; rwa [if_pos h1] at this
              have h1I : (1000 : Int) ≤ (k : Int) := by omega
              clear HT5 h1
              go_wp2_with fail
              go_ret2
              exact ⟨by rw [HE.out]; rfl, HB2.out⟩
            · have HE : Hid (T = ((x : Int), 0)) := by have := HT5.out; rwa [if_neg h1] at this
              have h1I : ¬ (1000 : Int) ≤ (k : Int) := by omega
              clear HT5 h1
              go_wp2_with fail
              go_ret2
              exact ⟨by rw [HE.out]; rfl, HB2.out⟩
    · have HE : Hid (T = (0, 3)) := by
        unfold Hid
        rw [HT2.out, if_pos hk4]
      have hkb : (u.kind != 4) = true := by simpa using hk4
      have hNI : ¬ (N' : Int) < 2 := by omega
      clear HT2 HFD HFL HS HRL hk4
      go_enter Tryd.func19, Tryd.ntmps19
      go_wp2_with fail
      try go_quiet (fail)
      go_wp2_with fail
      go_ret2
      exact ⟨by rw [HE.out]; rfl, by first | exact Below.refl _ _ | exact below_drewN (Below.refl _ _) _⟩

end
end Go.Proofs.YtdjhpgpekomjeaaDoor.LandedW
