/- What the document's own ShowListing gives. -/
import Derived.Test.YtdcpdieejknliaaDoorCodeName
import Derived.Test.YtdcpdieejknliaaDoorRight
import Derived.Test.YtdcpdieejknliaaDoorDec
import Derived.BigQuiet
import Derived.Deep.DeepCutAuto
namespace Go.Proofs.YtdcpdieejknliaaDoor
open Go.RowKit

/-- How a code is written. -/
def nameText (c : Int) : List UInt8 := if nameOf c = [] then [99, 111, 100, 101, 32] ++ dec c.toNat else nameOf c
/-- How an instruction is written. -/
def showLine (x : Ins) : List UInt8 := nameText x.code ++ [32] ++ dec x.jt.toNat ++ [32] ++ dec x.jf.toNat ++ [32] ++ dec x.k.toNat ++ [10]
def showOf (l : List Ins) : List UInt8 := if l.all Ins.fits then l.flatMap showLine else []

theorem name_len : ∀ c : Int, (nameOf c).length ≤ 6 := by
  intro c
  have : ∀ l : List (Int × List UInt8), (∀ t ∈ l, t.2.length ≤ 6) → (nameIn c l).length ≤ 6 := by
    intro l
    induction l with
    | nil => intro _; simp [nameIn]
    | cons t r ih =>
      intro h
      rw [nameIn]
      split
      · exact h t (List.mem_cons_self ..)
      · exact ih fun u hu => h u (List.mem_cons_of_mem _ hu)
  exact this codeTab (by decide)

theorem fits_bd {x : Ins} (h : x.fits = true) : 0 ≤ x.code ∧ x.code ≤ 65535 ∧ 0 ≤ x.jt ∧ x.jt ≤ 255 ∧ 0 ≤ x.jf ∧ x.jf ≤ 255 := by
  simp [Ins.fits, inB] at h
  omega

theorem nameText_len (c : Int) (h0 : 0 ≤ c) (h1 : c ≤ 65535) : (nameText c).length ≤ 10 := by
  unfold nameText
  split
  · have := dec_len 4 c.toNat (by omega)
    simp
    omega
  · have := name_len c
    omega

theorem showLine_len {x : Ins} (h : x.fits = true) (hk : x.k ≤ 4294967295) : (showLine x).length ≤ 30 := by
  obtain ⟨c0, c1, t0, t1, f0, f1⟩ := fits_bd h
  have h1 := nameText_len x.code c0 c1
  have h2 := dec_len 2 x.jt.toNat (by omega)
  have h3 := dec_len 2 x.jf.toNat (by omega)
  have h4 := dec_len 9 x.k.toNat (by omega)
  simp [showLine]
  omega

theorem lines_len (l : List Ins) (h : ∀ x ∈ l, x.fits = true) (hk : ∀ x ∈ l, x.k ≤ 4294967295) : (l.flatMap showLine).length ≤ 30 * l.length := by
  induction l with
  | nil => simp
  | cons x l ih =>
    have h1 := showLine_len (h x (List.mem_cons_self ..)) (hk x (List.mem_cons_self ..))
    have h2 := ih (fun y hy => h y (List.mem_cons_of_mem _ hy)) (fun y hy => hk y (List.mem_cons_of_mem _ hy))
    rw [List.flatMap_cons, List.length_append, List.length_cons]
    omega

def Shows (n : Nat) (l : List Ins) (w : World) (s i : Value) (wr : World) : Prop :=
  ∃ k : Nat, k ≤ n ∧ i = .int .i64 k ∧ s = .string (strOf ((l.take k).flatMap showLine)) ∧ (∀ x ∈ l.take k, x.fits = true) ∧ Below w.heap.size w wr

set_option maxRecDepth 100000 in
set_option maxHeartbeats 4000000 in
theorem showRef_any (A : Option Addr) (n c : Nat) (l : List Ins) (w : World) (hl : Lies w w.heap.size 4 A n (cellsOf l)) (hok : ∀ y ∈ l, y.Ok) (hn : n ≤ 4294967296) :
    Calls Tryd.prog 10 #[.slice A n c] w fun e w' => e = .returned (.string (strOf (showOf l))) ∧ Below w.heap.size w w' := by
  have hln : l.length = n := by have := hl.1; rw [cells_len] at this; omega
  have HLN := Lib.hid hln
  have HOK := Lib.hid hok
  clear hln hok
  go_enter Tryd.func10, Tryd.ntmps10
  go_wp2
  go_loopw [3, 4] (fun s i wr => Shows n l w s i wr) (fun _ i _ => n - (intOf i).toNat)
  case atStart => exact ⟨0, Nat.zero_le _, rfl, rfl, by simp, Below.refl _ _⟩
  case round =>
    obtain ⟨k, hk, rfl, rfl, hall, hnx⟩ := hrel
    by_cases hlt : k < n
    · obtain ⟨b, o, x, rfl, hb, hx, e0, e1, e2, e3⟩ := (hl.below hnx).ins hlt
      have hmem := List.mem_of_getElem? hx
      have XO := HOK.out x hmem
      have k0 := XO.k0
      have k1 := XO.k1
      have HX := Lib.hid hx
      have HALL := Lib.hid hall
      have HMEM := Lib.hid hmem
      have HNX := Lib.hid hnx
      clear XO hx hall hmem hnx
      go_wp2_with fail
      refine (right_any x _).mono ?_
      rintro r w1 ⟨rfl, hb1⟩
      have hi := (Box.new wr 38 #[.int .i64 x.code, .int .i64 x.jt, .int .i64 x.jf, .int .u32 x.k]).below hb1 (by simp)
      have HI := Lib.hid hi
      have HN1 := Lib.hid ((below_alloc HNX.out (Nat.le_refl _) _).trans (hb1.mono (by have := HNX.out.size; simp; omega)))
      clear hi hb1 e0 e1 e2 e3
      by_cases hf : x.fits = true
      · rw [hf]
        obtain ⟨c0, c1, t0, t1, f0, f1⟩ := fits_bd hf
        have HF := Lib.hid hf
        clear hf
        have i0 := HI.out.cell 0
        have hi3 := HI.out.lt
        simp only [List.getElem?_toArray, List.getElem?_cons_zero] at i0
        go_wp2_with fail
        refine (codeName_any x.code _).mono ?_
        rintro r w2 ⟨rfl, hb2⟩
        have hi2 := HI.out.below hb2 HI.out.lt
        have HN2 := Lib.hid (HN1.out.trans (hb2.mono HN1.out.size))
        have j0 := hi2.cell 0
        have j1 := hi2.cell 1
        have j2 := hi2.cell 2
        have j3 := hi2.cell 3
        have hj := hi2.lt
        simp only [List.getElem?_toArray, List.getElem?_cons_zero, List.getElem?_cons_succ] at j0 j1 j2 j3
        clear i0 hi3 HI hi2 hb2
        obtain ⟨T, hT⟩ : ∃ T, T = strOf (nameText x.code) := ⟨_, rfl⟩
        have hts : T.size ≤ 10 := by rw [hT, strOf_size]; exact nameText_len _ c0 c1
        have HT := Lib.hid hT
        have HD : Hid (∀ (v : Int) (W : World), 0 ≤ v → v ≤ 4294967295 → Calls Tryd.prog 21 #[.int .u64 v] W fun e w' => e = .returned (.string (strOf (dec v.toNat))) ∧ w' = W) := by
          intro v W h0 h1
          have := dec_any (v.toNat + 1) v.toNat W (by omega) (by omega)
          rw [show ((v.toNat : Nat) : Int) = v from by omega] at this
          exact this.mono fun _ _ ⟨h1, h2⟩ => ⟨h1, h2.symm⟩
        have z1 : (strOf (dec x.code.toNat)).size ≤ 5 := by rw [strOf_size]; exact dec_len 4 _ (by omega)
        have z2 : (strOf (dec x.jt.toNat)).size ≤ 3 := by rw [strOf_size]; exact dec_len 2 _ (by omega)
        have z3 : (strOf (dec x.jf.toNat)).size ≤ 3 := by rw [strOf_size]; exact dec_len 2 _ (by omega)
        have z4 : (strOf (dec x.k.toNat)).size ≤ 10 := by rw [strOf_size]; exact dec_len 9 _ (by omega)
        have z0 : (strOf ((l.take k).flatMap showLine)).size ≤ 30 * 4294967296 := by
          rw [strOf_size]
          have h1 := lines_len (l.take k) HALL.out (fun y hy => (HOK.out y (List.mem_of_mem_take hy)).k1)
          have h2 : (l.take k).length ≤ k := List.length_take_le _ _
          omega
        have HA : Hid (strOf ((l.take k).flatMap showLine) ++ T ++ (⟨#[32]⟩ : ByteArray) ++ strOf (dec x.jt.toNat) ++ (⟨#[32]⟩ : ByteArray) ++ strOf (dec x.jf.toNat) ++ (⟨#[32]⟩ : ByteArray) ++ strOf (dec x.k.toNat) ++ (⟨#[10]⟩ : ByteArray) = strOf ((l.take (k + 1)).flatMap showLine)) := by
          unfold Hid
          rw [take_one HX.out, List.flatMap_append, List.flatMap_singleton, hT, show (⟨#[32]⟩ : ByteArray) = strOf [32] from rfl, show (⟨#[10]⟩ : ByteArray) = strOf [10] from rfl]
          unfold strOf showLine
          simp only [strOf_append, List.append_assoc]
        have HALL1 : Hid (∀ y ∈ l.take (k + 1), y.fits = true) := by
          intro y hy
          rw [take_one HX.out] at hy
          rcases List.mem_append.1 hy with h | h
          · exact HALL.out y h
          · rw [List.mem_singleton.1 h]; exact HF.out
        clear hT
        by_cases hne : nameOf x.code = []
        · have HE : Hid ((⟨#[99, 111, 100, 101, 32]⟩ : ByteArray) ++ strOf (dec x.code.toNat) = T) := by
            rw [HT.out]
            unfold Hid nameText
            rw [if_pos hne]
            exact strOf_append _ _
          have h1 : (strOf (nameOf x.code)).toList = [] := by rw [strOf_toList, hne]
          have h2 : ((strOf (nameOf x.code)).toList == []) = true := by rw [strOf_toList, hne]; rfl
          have h3 : (strOf (nameOf x.code)).toList.isEmpty = true := by rw [strOf_toList, hne]; rfl
          clear hne
          go_wp2_with (go_at_call 21; refine (HD.out x.code _ c0 (by omega)).mono ?_; rintro r w3 ⟨rfl, rfl⟩)
          rw [HE.out]
          have y1 : IntKind.u64.wrap x.jt = x.jt := by rw [IntKind.wrap_u64]; omega
          have y2 : IntKind.u64.wrap x.jf = x.jf := by rw [IntKind.wrap_u64]; omega
          have y3 : IntKind.u64.wrap x.k = x.k := by rw [IntKind.wrap_u64]; omega
          clear h1 h2 h3
          go_quiet ((go_at_call 21; exact Calls.quiet_of_same (HD.out _ _ (by omega) (by omega))))
          clear y1 y2 y3
          go_wp2
          go_roundw
          case rel => exact ⟨k + 1, by omega, by go_num, congrArg Value.string HA.out, HALL1.out, below_drewN HN2.out _⟩
          case measure => simp [intOf]; omega
        · have HE : Hid (strOf (nameOf x.code) = T) := by
            rw [HT.out]
            unfold Hid nameText
            rw [if_neg hne]
          have h2 := (strOf_empty _ hne).2
          have h3 := (strOf_empty _ hne).1
          have h1 : Hid True := trivial
          rw [HE.out] at h2 h3 ⊢
          clear hne
          go_wp2_with fail
          have y1 : IntKind.u64.wrap x.jt = x.jt := by rw [IntKind.wrap_u64]; omega
          have y2 : IntKind.u64.wrap x.jf = x.jf := by rw [IntKind.wrap_u64]; omega
          have y3 : IntKind.u64.wrap x.k = x.k := by rw [IntKind.wrap_u64]; omega
          clear h1 h2 h3
          go_quiet ((go_at_call 21; exact Calls.quiet_of_same (HD.out _ _ (by omega) (by omega))))
          clear y1 y2 y3
          go_wp2
          go_roundw
          case rel => exact ⟨k + 1, by omega, by go_num, congrArg Value.string HA.out, HALL1.out, below_drewN HN2.out _⟩
          case measure => simp [intOf]; omega
      · have hf' : x.fits = false := by simpa using hf
        rw [hf']
        have HR : Hid (showOf l = []) := by
          unfold Hid showOf
          rw [if_neg]
          intro h
          exact hf (List.all_eq_true.1 h x HMEM.out)
        clear hf hf'
        go_wp2
        go_ret
        exact ⟨by rw [HR.out]; rfl, HN1.out⟩
    · obtain rfl : k = n := by omega
      have HR : Hid (showOf l = (l.take k).flatMap showLine) := by
        unfold Hid showOf
        rw [List.take_of_length_le (by rw [HLN.out]; omega)] at hall ⊢
        rw [if_pos (List.all_eq_true.2 hall)]
      clear hall
      go_wp2
      go_ret
      exact ⟨by rw [HR.out]; rfl, hnx⟩

end Go.Proofs.YtdcpdieejknliaaDoor
