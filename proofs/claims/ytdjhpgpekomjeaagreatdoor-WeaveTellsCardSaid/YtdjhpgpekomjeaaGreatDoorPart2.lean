/- Texts of mine put together (a claim has at most so many files): Parts, CleanPlain, Append. -/
import Derived.Test.YtdjhpgpekomjeaaGreatDoorPart1
import Derived.Test.YtdjhpgpekomjeaaGreatDoorChecked
import Derived.Lib.Hide
import Derived.Lib.Strings
/- What the document's own Parts gives: a text, parted at each such byte. -/
namespace Go.Proofs.YtdjhpgpekomjeaaGreatDoor
open Go.RowKit

/-- A text at each such byte; what is read of the part that is open comes first. -/
def splitAcc (c : UInt8) : List UInt8 → List UInt8 → List (List UInt8)
  | cur, [] => [cur]
  | cur, x :: r => if x = c then cur :: splitAcc c [] r else splitAcc c (cur ++ [x]) r
def partsOf (c : UInt8) (s : List UInt8) : List (List UInt8) := splitAcc c [] s
theorem split_len (c : UInt8) : ∀ (s cur : List UInt8), (splitAcc c cur s).length ≤ s.length + 1
  | [], cur => by simp [splitAcc]
  | x :: r, cur => by
    rw [splitAcc]
    split
    · have := split_len c r []
      simp
      omega
    · have := split_len c r (cur ++ [x])
      simp
      omega
theorem split_at {c x : UInt8} {s cur : List UInt8} {k : Nat} (h : s[k]? = some x) (hx : x = c) : splitAcc c cur (s.drop k) = cur :: splitAcc c [] (s.drop (k + 1)) := by
  obtain ⟨hk, e⟩ := List.getElem?_eq_some_iff.1 h
  rw [List.drop_eq_getElem_cons hk, e, splitAcc, if_pos hx]
theorem split_on {c x : UInt8} {s cur : List UInt8} {k : Nat} (h : s[k]? = some x) (hx : ¬ x = c) : splitAcc c cur (s.drop k) = splitAcc c (cur ++ [x]) (s.drop (k + 1)) := by
  obtain ⟨hk, e⟩ := List.getElem?_eq_some_iff.1 h
  rw [List.drop_eq_getElem_cons hk, e, splitAcc, if_neg hx]

theorem infoStrP : (Tryz.prog.info? 9).map (fun i => (i.zero, i.size, i.bytes)) = some (some (.string ⟨#[]⟩), 1, 16) := by kernel_rfl

/-- The part from 'from' on up to k. -/
def midOf (s : List UInt8) (f k : Nat) : List UInt8 := (s.drop f).take (k - f)
theorem mid_snoc {s : List UInt8} {f k : Nat} {x : UInt8} (h : s[k]? = some x) (hf : f ≤ k) : midOf s f (k + 1) = midOf s f k ++ [x] := by
  unfold midOf
  rw [show k + 1 - f = (k - f) + 1 from by omega]
  refine take_one ?_
  rw [List.getElem?_drop, show f + (k - f) = k from by omega]
  exact h
theorem mid_nil (s : List UInt8) (k : Nat) : midOf s k k = [] := by simp [midOf]
theorem mid_str (s : ByteArray) (f k : Nat) : s.extract f k = strOf (midOf s.data.toList f k) := Go.Lib.extract_eq s f k

/-- Where the loop stands. -/
def Parting (s : ByteArray) (c : UInt8) (w : World) (v f i : Value) (wr : World) : Prop :=
  ∃ (k g : Nat) (done : List (List UInt8)), k ≤ s.size + 1 ∧ g ≤ k ∧ i = .int .i64 k ∧ f = .int .i64 g ∧ wr.ownsRow w.heap.size 9 1 v done.length (strsV done) ∧ done.length ≤ k ∧ Below w.heap.size w wr ∧
    ((k ≤ s.size ∧ done ++ splitAcc c (midOf s.data.toList g k) (s.data.toList.drop k) = partsOf c s.data.toList) ∨ (k = s.size + 1 ∧ done = partsOf c s.data.toList))

set_option maxRecDepth 100000 in
set_option maxHeartbeats 4000000 in
theorem parts_any (s : ByteArray) (c : UInt8) (w : World) (hs : s.size ≤ 1099511627776) :
    Calls Tryz.prog 42 #[.string s, .int .u8 (c.toNat : Int)] w (NewRow 9 1 (partsOf c s.data.toList).length (strsV (partsOf c s.data.toList)) w) := by
  obtain ⟨i0, hi, hz0, hz1, hz2⟩ := info_parts infoStrP
  obtain ⟨P, hP⟩ : ∃ P, P = partsOf c s.data.toList := ⟨_, rfl⟩
  rw [← hP]
  have HP := Lib.hid hP
  have hc := byte_lt c
  clear hP
  go_enter Tryz.func42, Tryz.ntmps42
  go_wp2
  go_loopw [5, 6, 7] (fun v f i wr => Parting s c w v f i wr) (fun _ _ i _ => s.size + 1 - (intOf i).toNat)
  case atStart => exact ⟨0, 0, [], by omega, by omega, rfl, rfl, World.ownsRow_nil _ _ _ _, by simp, Below.refl _ _, .inl ⟨by omega, by rw [mid_nil]; simp [partsOf]⟩⟩
  case round =>
    obtain ⟨k, g, done, hk, hg, rfl, rfl, hown, hdl, hnx, hst⟩ := hrel
    have hsz := hnx.size
    by_cases hlt : k < s.size
    · have hx := str_at s k hlt
      have hb1 := byte_lt (s[k]'hlt)
      have hst' : done ++ splitAcc c (midOf s.data.toList g k) (s.data.toList.drop k) = P := by
        rw [HP.out]
        rcases hst with h | h
        · exact h.2
        · omega
      clear hst
      have hne : ((k : Int) == (s.size : Int)) = false := by rw [beq_eq_false_iff_ne]; omega
      by_cases hq : s[k]'hlt = c
      · have HST : Hid ((done ++ [midOf s.data.toList g k]) ++ splitAcc c (midOf s.data.toList (k + 1) (k + 1)) (s.data.toList.drop (k + 1)) = partsOf c s.data.toList) := by
          unfold Hid
          rw [mid_nil, List.append_assoc, ← HP.out, ← hst', split_at hx hq]
          rfl
        have hq' : (((s[k]'hlt).toNat : Int) == (c.toNat : Int)) = true := by rw [hq]; simp
        clear hst' hx hq
        go_wp2_with (at_builtin; go_loud (refine wpList_append_lit _ rfl (.tmp 25) (.tmp 30) _ rfl w.heap.size 9 i0 _ 1 16 Tryz.underlying77 hi hz0 hz1 hz2 rfl (by omega) _ _ _ rfl hown _ _ 1 1 rfl rfl ?c1 ?c2 ?c3 ?c4 ?_))
        case c1 => simp [Value.oneCell']
        case c2 => unfold maxLen; omega
        case c3 => omega
        case c4 => omega
        intro v' w' hown3 hg3
        have hnx3 : Below w.heap.size w w' := below_grown (hnx.alloc (by omega) _) (hown.alloc _) (Nat.le_refl _) (by simp; omega) hg3
        have hown4 : w'.ownsRow w.heap.size 9 1 v' (done ++ [midOf s.data.toList g k]).length (strsV (done ++ [midOf s.data.toList g k])) := by
          rw [strsV_snoc, List.length_append, ← mid_str]
          exact hown3
        have HO := Lib.hid hown4
        clear hown3 hg3 hown hnx hown4
        go_wp2
        go_roundw
        case rel => exact ⟨k + 1, k + 1, _, by omega, by omega, by go_num, by go_num, HO.out, by simp; omega, hnx3, .inl ⟨by omega, HST.out⟩⟩
        case measure => simp [intOf]; omega
      · have HST : Hid (done ++ splitAcc c (midOf s.data.toList g (k + 1)) (s.data.toList.drop (k + 1)) = partsOf c s.data.toList) := by
          unfold Hid
          rw [mid_snoc hx hg, ← HP.out, ← hst', split_on hx hq]
        have hq' : (((s[k]'hlt).toNat : Int) == (c.toNat : Int)) = false := by
          rw [beq_eq_false_iff_ne]
          intro e
          exact hq (UInt8.toNat_inj.1 (by omega))
        clear hst' hx hq
        go_wp2
        go_roundw
        case rel => exact ⟨k + 1, g, done, by omega, by omega, by go_num, rfl, hown, by omega, hnx, .inl ⟨by omega, HST.out⟩⟩
        case measure => simp [intOf]; omega
    · by_cases heq : k = s.size
      · obtain rfl : k = s.size := heq
        have HST : Hid (done ++ [midOf s.data.toList g s.size] = partsOf c s.data.toList) := by
          rcases hst with h | h
          · have := h.2
            rw [List.drop_eq_nil_of_le (by simp)] at this
            exact this
          · omega
        clear hst
        go_wp2_with (at_builtin; go_loud (refine wpList_append_lit _ rfl (.tmp 25) (.tmp 30) _ rfl w.heap.size 9 i0 _ 1 16 Tryz.underlying77 hi hz0 hz1 hz2 rfl (by omega) _ _ _ rfl hown _ _ 1 1 rfl rfl ?d1 ?d2 ?d3 ?d4 ?_))
        case d1 => simp [Value.oneCell']
        case d2 => unfold maxLen; omega
        case d3 => omega
        case d4 => omega
        intro v' w' hown3 hg3
        have hnx3 : Below w.heap.size w w' := below_grown (hnx.alloc (by omega) _) (hown.alloc _) (Nat.le_refl _) (by simp; omega) hg3
        have hown4 : w'.ownsRow w.heap.size 9 1 v' (done ++ [midOf s.data.toList g s.size]).length (strsV (done ++ [midOf s.data.toList g s.size])) := by
          rw [strsV_snoc, List.length_append, ← mid_str]
          exact hown3
        have HO := Lib.hid hown4
        clear hown3 hg3 hown hnx hown4
        go_wp2
        go_roundw
        case rel => exact ⟨s.size + 1, s.size + 1, _, by omega, by omega, by go_num, by go_num, HO.out, by simp; omega, hnx3, .inr ⟨rfl, HST.out⟩⟩
        case measure => simp [intOf]
      · obtain rfl : k = s.size + 1 := by omega
        have hd : done = P := by
          rw [HP.out]
          rcases hst with h | h
          · omega
          · exact h.2
        have HD := Lib.hid hd
        clear hd hst
        go_wp2
        go_ret
        exact ⟨_, rfl, by rw [← HD.out]; exact hown, hnx⟩

end Go.Proofs.YtdjhpgpekomjeaaGreatDoor

/- Plain facts for the document's own clean: the parts of a path, cleaned and joined. -/
namespace Go.Proofs.YtdjhpgpekomjeaaGreatDoor
open Go.RowKit

def cleanStep (l : List (List UInt8)) (p : List UInt8) : Option (List (List UInt8)) :=
  if p = [] ∨ p = [46] then some l else if p = [46, 46] then (if l = [] then none else some l.dropLast) else some (l ++ [p])
/-- The parts that are left; nothing: one led too far up. -/
def cleanFrom (l : List (List UInt8)) : List (List UInt8) → Option (List (List UInt8))
  | [] => some l
  | p :: r => match cleanStep l p with
    | none => none
    | some m => cleanFrom m r
def joinOf : List (List UInt8) → List UInt8
  | [] => []
  | x :: r => x ++ r.flatMap fun y => 47 :: y
def cleanEnd : Option (List (List UInt8)) → List UInt8 × Bool
  | none => ([], false)
  | some [] => ([], false)
  | some (x :: r) => (joinOf (x :: r), true)
def cleanOf (ps : List (List UInt8)) : List UInt8 × Bool := cleanEnd (cleanFrom [] ps)

theorem clean_drop {l : List (List UInt8)} {ps : List (List UInt8)} {p : List UInt8} {k : Nat} (h : ps[k]? = some p) : cleanFrom l (ps.drop k) = match cleanStep l p with
    | none => none
    | some m => cleanFrom m (ps.drop (k + 1)) := by
  obtain ⟨hl, e⟩ := List.getElem?_eq_some_iff.1 h
  rw [List.drop_eq_getElem_cons hl, e]
  rfl

theorem strs_front {w : World} {B n : Nat} {A : Option Addr} {l : List (List UInt8)} (h : Lies w B 1 A n (strsV l)) (k : Nat) (hk : k ≤ n) : Lies w B 1 A k (strsV (l.take k)) := by
  have hln : l.length = n := by have := h.1; rw [strsV_len] at this; omega
  refine ⟨by rw [strsV_len, List.length_take]; omega, fun h0 => ?_⟩
  obtain ⟨b, o, e, hb, hc⟩ := h.2 (by omega)
  refine ⟨b, o, e, hb, fun j u hu => hc j u ?_⟩
  unfold strsV at hu ⊢
  rw [List.map_take, List.getElem?_take] at hu
  split at hu
  · exact hu
  · cases hu

end Go.Proofs.YtdjhpgpekomjeaaGreatDoor

/- An append at a step of a region that draws its order. -/
namespace Go.Proofs.YtdjhpgpekomjeaaGreatDoor
open Go.RowKit

/-- An append at a step of a region that draws its order. -/
theorem step_append {P : Program} (w : World) {ops : Array Oper} {o : Oper} {a : Act} {K : Act → World → Prop} {Q : Exit → Act → World → Prop} {E : Prop} (hgd : o.guard = none) (s x : Operand) (t : TypeId)
    (ho : o.op = .call { callee := .builtin .append, args := #[s, x], argTypes := #[t, t] })
    (base : Nat) (e : TypeId) (i : TypeInfo) (z : Value) (size bytes : Nat) (ht : P.underlying t = some (.slice e)) (hi : P.info? e = some i) (hz : i.zero = some z)
    (hsize : i.size = size) (hby : i.bytes = bytes) (hzs : z.cells.size = size) (hsz : 0 < size)
    (v : Value) (n : Nat) (xs : List Value) (hs : a.eval s = v) (hown : w.ownsRow base e size v n xs)
    (B : Nat) (A : Option Addr) (m c : Nat) (news : List Value) (hx : a.eval x = .slice A m c) (hr : Lies w B size A m news) (h1 : ∀ u ∈ news, u.oneCell' = true)
    (h63 : n + m ≤ maxLen) (hbytes : (n + m) * bytes ≤ 140737488355328) (hbase : base ≤ w.heap.size)
    (h : ∀ v' w', w'.ownsRow base e size v' (n + m) (xs ++ news) → w.grownBy w' v.ownBlock → K (a.put o.dst v') w') :
    if Region.wanted o (yielded ops a.tmps) = true then Oper.wp P o a w K Q else E := by
  have hw : Region.wanted o (yielded ops a.tmps) = true := by simp [Region.wanted, hgd]
  rw [if_pos hw]
  obtain ⟨v', w', hrun, h2, h3⟩ := run_append_lies (P := P) w base t o.type e i z size bytes ht hi hz hsize hby hzs hsz v n xs hown B A m c news hr h1 h63 hbytes hbase
  unfold Oper.wp execOp
  simp only [ho, resolve, invoke, builtin, Sem.run_bind, Sem.run_pure, Result.andThen_ok, List.map_toArray, List.map_cons, List.map_nil, hs, hx, hrun]
  exact h v' w' h2 h3

/-- What has just been laid, behind a draw. -/
theorem lies_fresh {w : World} {t : TypeId} {cs : Array Value} {xs : List Value} (n size : Nat) (hc : cs.toList = xs) (hn : cs.size = n * size) : Lies ((w.alloc (.cells cs t)).drew) (w.heap.size + 1) size (some ⟨w.heap.size, 0, none⟩) n xs := by
  have h := lies_new (w := w) (t := t) w.heap.size n size rfl hc hn
  rw [show (w.alloc (.cells cs t)).heap.size = w.heap.size + 1 by simp] at h
  exact h.below (Below.refl _ _).drew

end Go.Proofs.YtdjhpgpekomjeaaGreatDoor
