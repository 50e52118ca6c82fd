/- What package spot's beginOf gives; plain facts for Place. -/
import Derived.Test.YtfhpdfekoklokaaSpotAt
namespace Go.Proofs.Ytfhpdfekoklokaa
open Go.RowKit

/-- Where a line begins. -/
def BeginIs (l : List UInt8) (line b : Nat) (ok : Bool) : Prop :=
  (ok = true ∧ b ≤ l.length ∧ posFrom (1, 1) (l.take b) = (line, 1)) ∨ (ok = false ∧ b = 0 ∧ ∀ j : Nat, j ≤ l.length → (posFrom (1, 1) (l.take j)).1 < line)

theorem begin_none (l : List UInt8) (k b line : Nat) (hp : posFrom (1, 1) (l.take b) = (k + 1, 1)) (hno : (10 : UInt8) ∉ l.drop b) (hk : k + 1 < line) : ∀ j : Nat, j ≤ l.length → (posFrom (1, 1) (l.take j)).1 < line := by
  intro j _
  have e1 := pos_line (l.take b) (1, 1)
  rw [hp] at e1
  have e2 := pos_line (l.take j) (1, 1)
  have e3 : (l.take j).count 10 ≤ l.count 10 := (List.take_sublist j l).count_le _
  have e4 : l.count 10 = (l.take b).count 10 + (l.drop b).count 10 := by rw [← List.count_append, List.take_append_drop]
  have e5 : (l.drop b).count 10 = 0 := List.count_eq_zero.2 hno
  simp only at e1 e2
  omega
theorem begin_next (l a c : List UInt8) (k b : Nat) (hb : b ≤ l.length) (hp : posFrom (1, 1) (l.take b) = (k + 1, 1)) (hd : l.drop b = a ++ 10 :: c) (hno : (10 : UInt8) ∉ a) :
    b + (a.length + 1) ≤ l.length ∧ posFrom (1, 1) (l.take (b + (a.length + 1))) = (k + 1 + 1, 1) := by
  have hlen : (l.drop b).length = a.length + (c.length + 1) := by rw [hd]; simp
  rw [List.length_drop] at hlen
  refine ⟨by omega, ?_⟩
  have e : l.take (b + (a.length + 1)) = l.take b ++ (a ++ 10 :: []) := by
    rw [List.take_add, hd]
    simp [List.take_append, List.take_of_length_le]
  rw [e, pos_two, hp, pos_nl _ _ _ (by simp), pos_none _ _ hno]
  rfl

def Begins (s : ByteArray) (line : Nat) (w : World) (b k : Value) (wr : World) : Prop :=
  (∃ b' k' : Nat, b = .int .i64 (b' : Int) ∧ k = .int .i64 (k' : Int) ∧ b' ≤ s.size ∧ k' + 1 ≤ line ∧ posFrom (1, 1) (s.data.toList.take b') = (k' + 1, 1)) ∧ w = wr

set_option maxRecDepth 100000 in
set_option maxHeartbeats 1000000 in
theorem begin_any (s : ByteArray) (line : Nat) (w : World) (hs : s.size ≤ 1099511627776) (h1 : 1 ≤ line) (h2 : line ≤ 1099511627777) :
    Calls Try.prog 15 #[.string s, .int .i64 (line : Int)] w fun e w' => ∃ (b : Nat) (ok : Bool), e = .returned (.tuple #[.int .i64 (b : Int), .bool ok]) ∧ BeginIs s.data.toList line b ok ∧ w = w' := by
  have hz : s.data.toList.length = s.size := by simp
  go_enter Try.func15, Try.ntmps15
  go_wp2
  go_loopw [6, 10] (fun b k wr => Begins s line w b k wr) (fun _ k _ => line - (intOf k).toNat)
  case atStart => exact ⟨⟨0, 0, rfl, rfl, Nat.zero_le _, h1, rfl⟩, rfl⟩
  case round =>
    obtain ⟨⟨b, k, rfl, rfl, hb, hk, hp⟩, rfl⟩ := hrel
    by_cases hlt : k + 1 < line
    · have hdat : (s.extract b s.size).data.toList = s.data.toList.drop b := by
        rw [Go.Lib.extract_data, List.take_of_length_le (by rw [List.length_drop, hz]; omega)]
      have hcs := index_cases (s.data.toList.drop b) 10
      rcases hcs with ⟨ei, hno⟩ | ⟨a, c, e, hno, ei⟩
      · have HI : Hid (∀ W : World, Calls Try.prog 19 #[.string (s.extract b s.size), .string ⟨#[10]⟩] W fun e w' => e = .returned (.int .i64 (-1)) ∧ W = w') := fun W => by
          have := idx_any (s.extract b s.size) W
          rw [hdat, ei] at this
          exact this
        have HR : Hid (BeginIs s.data.toList line 0 false) := .inr ⟨rfl, rfl, begin_none _ k b line hp hno hlt⟩
        clear hdat hno hp ei hz
        go_wp2_with fail
        refine (HI.out _).mono ?_
        rintro r w1 ⟨rfl, rfl⟩
        go_wp2
        go_ret2
        exact ⟨_, _, rfl, HR.out, rfl⟩
      · obtain ⟨hb', hp'⟩ := begin_next s.data.toList a c k b (by omega) hp e hno
        obtain ⟨n, hn⟩ : ∃ n, n = a.length := ⟨_, rfl⟩
        rw [hz] at hb'
        rw [← hn] at ei hb' hp'
        have HI : Hid (∀ W : World, Calls Try.prog 19 #[.string (s.extract b s.size), .string ⟨#[10]⟩] W fun e w' => e = .returned (.int .i64 (n : Int)) ∧ W = w') := fun W => by
          have := idx_any (s.extract b s.size) W
          rw [hdat, ei] at this
          exact this
        have HP := Lib.hid hp'
        clear hdat hno hp ei hz hp' hn e
        go_wp2_with fail
        refine (HI.out _).mono ?_
        rintro r w1 ⟨rfl, rfl⟩
        go_wp2
        go_roundw
        case rel => exact ⟨⟨b + (n + 1), k + 1, by go_num, by go_num, hb', by omega, HP.out⟩, rfl⟩
        case measure => simp [intOf]; omega
    · have HR : Hid (BeginIs s.data.toList line b true) := .inl ⟨rfl, by omega, by rw [hp, show k + 1 = line from by omega]⟩
      clear hp hz
      go_wp2
      go_ret2
      exact ⟨_, _, rfl, HR.out, rfl⟩

/-- Which byte a spot in a line that begins at b is. -/
theorem place_at (l : List UInt8) (re im line col b : Nat) (hl : l.length ≤ 1099511627776) (l1 : 1 ≤ line) (l2 : line ≤ 1099511627777) (c1 : 1 ≤ col) (c2 : col ≤ 1099511627777)
    (f1 : feq (fl (line : Int)) re = true) (f2 : feq (fl (col : Int)) im = true) (hb : b ≤ l.length) (hp : posFrom (1, 1) (l.take b) = (line, 1)) :
    (spotIs l re im (b + col - 1) = true → placeOf l re im = (b + col - 1, true)) ∧ (spotIs l re im (b + col - 1) = false → placeOf l re im = (0, false)) := by
  have hb' : posAt l (b : Int) = (line, 1) := by rw [posAt_take l b hb]; exact hp
  have only : ∀ j : Nat, j ≤ l.length → spotIs l re im j = true → posAt l (j : Int) = (line, col) := by
    intro j hj h
    obtain ⟨d1, d2, d3, d4⟩ := posAt_bd l j hj
    unfold spotIs at h
    rw [Bool.and_eq_true] at h
    have e1 := feq_inj re _ _ d1 (by omega) l1 (by omega) h.1 f1
    have e2 := feq_inj im _ _ d2 (by omega) c1 (by omega) h.2 f2
    exact Prod.ext e1 e2
  have over : l.length < b + col - 1 → spotIs l re im (b + col - 1) = false := by
    intro hgt
    cases h : spotIs l re im (b + col - 1) with
    | false => rfl
    | true =>
      have ecut : posAt l ((b + col - 1 : Nat) : Int) = posAt l (l.length : Int) := by
        unfold posAt cutTo
        rw [if_neg (by omega), if_pos (by omega), if_neg (by omega), if_neg (by omega), Int.toNat_natCast]
      have h' : spotIs l re im l.length = true := by unfold spotIs at h ⊢; rw [ecut] at h; exact h
      have e := only l.length (Nat.le_refl _) h'
      by_cases hq : b = l.length
      · rw [hq] at hb'
        rw [hb'] at e
        have := congrArg Prod.snd e
        simp only at this
        omega
      · rcases posAt_later l b l.length (by omega) (Nat.le_refl _) with g | ⟨g1, g2⟩
        · rw [e, hb'] at g
          simp only at g
          omega
        · rw [e, hb'] at g2
          simp only at g2
          omega
  refine ⟨fun h => ?_, fun h => ?_⟩
  · have hle : b + col - 1 ≤ l.length := by
      rcases Nat.lt_or_ge l.length (b + col - 1) with g | g
      · rw [over g] at h; cases h
      · exact g
    refine place_yes _ _ _ _ hle h fun j hj => ?_
    cases hq : spotIs l re im j with
    | false => rfl
    | true =>
      have a1 := only j (by omega) hq
      have a2 := only _ hle h
      rcases posAt_later l j (b + col - 1) hj hle with g | ⟨_, g⟩
      · rw [a1, a2] at g; simp only at g; omega
      · rw [a1, a2] at g; simp only at g; omega
  · refine place_no _ _ _ fun j hj => ?_
    cases hq : spotIs l re im j with
    | false => rfl
    | true =>
      have a1 := only j (by omega) hq
      have hbj : b ≤ j := by
        rcases Nat.lt_or_ge j b with g | g
        · rcases posAt_later l j b g hb with q | ⟨_, q⟩
          · rw [a1, hb'] at q; simp only at q; omega
          · rw [a1, hb'] at q; simp only at q; omega
        · exact g
      have hc : j = b + col - 1 := by
        by_cases e : b = j
        · rw [← e, hb'] at a1
          have := congrArg Prod.snd a1
          simp only at this
          omega
        · rcases posAt_later l b j (by omega) (by omega) with q | ⟨_, q⟩
          · rw [a1, hb'] at q; simp only at q; omega
          · rw [a1, hb'] at q; simp only at q; omega
      rw [hc, h] at hq
      cases hq
theorem place_none (l : List UInt8) (re im : Nat) (h : ∀ j : Nat, j ≤ l.length → feq (fl ((posAt l j).1 : Int)) re = false ∨ feq (fl ((posAt l j).2 : Int)) im = false) : placeOf l re im = (0, false) := by
  refine place_no _ _ _ fun j hj => ?_
  unfold spotIs
  rcases h j (by omega) with e | e <;> rw [e]
  · rfl
  · rw [Bool.and_false]

end Go.Proofs.Ytfhpdfekoklokaa
