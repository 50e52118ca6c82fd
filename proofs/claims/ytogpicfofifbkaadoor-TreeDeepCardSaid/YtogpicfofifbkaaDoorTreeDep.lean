/- What the landed Depth gives; whether all depths are small. No condition but sizes. -/
import Derived.Test.YtogpicfofifbkaaDoorTreeSeq
namespace Go.Proofs.YtogpicfofifbkaaDoor.LandedT
open Go.RowKit

attribute [local go_sem] Oper.semAt_some

theorem boxed_keep {B : Nat} {X Y : World} {b : Nat} {t : TypeId} {v : Value} (h : Boxed X b t v) (hb : Below B X Y) (hlt : b < B) : Boxed Y b t v := (hb.block b hlt).trans h

/-- Between two rounds of Depth's loop. -/
def Mosts (w : World) (pre : List Nat) (W : World) : Prop := Boxed W (w.heap.size + 1) 3 (.int .i64 ((pre.foldl max 0 : Nat) : Int)) ∧ Below w.heap.size w W

set_option maxRecDepth 100000 in
set_option maxHeartbeats 4000000 in
theorem depth_any (e : Ex) (w : World) (hin : ExIn w w.heap.size e) (hd : depthOf e ≤ 1000) : Calls Tryd.prog 6 #[e.val] w (Quietly (.int .i64 (depthOf e : Nat)) w) := by
  have HC := Lib.hid (fun W => depths_any e W)
  obtain ⟨xs, hxs⟩ : ∃ xs, xs = preD 1 e := ⟨_, rfl⟩
  have hmx : xs.foldl max 0 = depthOf e := by
    have := max_pre e 0 0
    rw [hxs]
    simp only [Nat.zero_add] at this
    rw [this]
    omega
  obtain ⟨W0, hW0⟩ : ∃ W0, W0 = ((w.alloc (.cells e.cells.toArray 26)).alloc (.cells #[.int .i64 0] 3)).alloc (.cells e.cells.toArray 26) := ⟨_, rfl⟩
  have hz : W0.heap.size = w.heap.size + 3 := by rw [hW0]; simp
  have hb0 : Below w.heap.size w W0 := by rw [hW0]; exact below_alloc (two_below w _ _) (Nat.le_refl _) _
  have q1 : Boxed W0 (w.heap.size + 1) 3 (.int .i64 0) := by
    rw [hW0]
    have h := Boxed.new (w.alloc (.cells e.cells.toArray 26)) 3 (.int .i64 0)
    rw [World.size_alloc] at h
    exact h.alloc _
  have q2 : Box W0 (w.heap.size + 2) 26 e.cells.toArray := by
    rw [hW0]
    have h := Box.new ((w.alloc (.cells e.cells.toArray 26)).alloc (.cells #[.int .i64 0] 3)) 26 e.cells.toArray
    simp only [World.size_alloc] at h
    exact h
  have hG := depths_give (9 - 1) (by omega) w.heap.size (w.heap.size + 2) e w W0 hin hb0 (by omega) hd q2
  rw [← hxs] at hG
  have hbd : ∀ pre x r, xs = pre ++ x :: r → pre.foldl max 0 ≤ 1000 ∧ x ≤ 1000 := fun pre x r h => by
    have h1 : xs.foldl max 0 ≤ 1000 := by omega
    have h2 := (max_all 1000 xs 0).1 h1
    exact ⟨(max_all 1000 pre 0).2 ⟨by omega, fun n hn => h2.2 n (by rw [h]; simp [hn])⟩, h2.2 x (by rw [h]; simp)⟩
  obtain ⟨R, hR⟩ : ∃ R, R = depthOf e := ⟨_, rfl⟩
  rw [← hR] at hmx ⊢
  have HW0 := Lib.hid hW0
  clear hin hd q2 hW0 hR hxs
  obtain ⟨kd, op, nm, nu, A, c, ks⟩ := e
  unfold Ex.val Ex.cells at *
  simp only at HC HW0 ⊢
  refine (callsIn_wide (n := 9)).1 ?_
  refine callsIn_of_wp_marks Tryd.func6 rfl trivial ?_ rfl
  simp only [Tryd.ntmps6, List.size_toArray, List.length_cons, List.length_nil, Nat.reduceAdd, Nat.reduceSub, Array.replicate_succ, Array.replicate_zero, List.push_toArray, List.append_toArray, List.nil_append, List.cons_append]
  gi_wp2_with (refine ⟨trivial, ?_⟩; gi_at_call 11; refine (callsIn_wide.2 (HC.out _)).mono ?_; rintro e' w' ⟨rfl, rfl⟩)
  rw [← HW0.out]
  refine wpIn_seqFree rfl (by omega) (gf := 24) (lb := #[.pointer (some ⟨w.heap.size + 2, 0, none⟩)]) rfl trivial (enters_of Tryd.func24 (by kernel_rfl) rfl)
    hG (by omega) (fun _ => rfl) (Mosts w) (fun _ _ _ => False) (fun pre X Y hs hx hb => ⟨boxed_keep hs.1 hb (by omega), hs.2.trans (hb.mono (by omega))⟩) (fun _ _ _ _ h _ _ => h) ⟨q1, hb0⟩
    (fun x => { tmps := #[.agg #[.int .i64 kd, .string op, .string nm, .int .u64 nu, .slice A ks.length c], .pointer (some ⟨w.heap.size, 0, none⟩), .int .i64 0, .pointer (some ⟨w.heap.size + 1, 0, none⟩), .int .i64 (x : Int),
      .agg #[.int .i64 kd, .string op, .string nm, .int .u64 nu, .slice A ks.length c], .func (.func 24) #[] #[.pointer (some ⟨w.heap.size + 1 + 1, 0, none⟩)], .int .i64 (x : Int), undef, undef, undef, undef], defers := [] }) ?assign ?body ?done ?stop
  case assign =>
    intro l x W K hK
    gi_wp2
    exact hK
  case body =>
    rintro l pre x W ⟨hm, hb⟩ hsz ⟨r, hr⟩
    obtain ⟨d1, d2⟩ := hbd pre x r hr
    have c1 := hm.cell
    have f1 := hm.frozen
    have HS : Hid (∀ v, Spares w.heap.size W0.heap.size W (W.setCell ⟨w.heap.size + 1, 0, none⟩ v)) := fun v => .set _ _ _ (by omega) (by omega)
    have HB : Hid (∀ v, Below w.heap.size w (W.setCell ⟨w.heap.size + 1, 0, none⟩ v)) := fun v => hb.trans (Below.setCell (Below.refl _ W) (by simp) v)
    have HM : Hid (∀ v, Boxed (W.setCell ⟨w.heap.size + 1, 0, none⟩ v) (w.heap.size + 1) 3 v) := fun v => hm.set v
    clear hG hbd hr hb hm HC HW0 hmx
    gi_wp2
    have hc : max ((pre.foldl max 0 : Nat) : Int) (x : Int) = (((pre ++ [x]).foldl max 0 : Nat) : Int) := by
      rw [List.foldl_append]
      show _ = ((max (pre.foldl max 0) x : Nat) : Int)
      omega
    exact ⟨HS.out _, by rw [← hc]; exact HM.out _, HB.out _⟩
  case done =>
    rintro D W hD hlt ⟨hm, hb⟩ hK
    have c1 := hm.cell
    clear hG hbd HC HW0
    gi_wp2
    refine ⟨by simp, .inl ⟨_, _, rfl, run_takeDeferred hK, ?_⟩⟩
    refine ⟨.int .i64 (R : Int), ?_, rfl, hb.trans (below_put W D w.heap.size _ (by omega))⟩
    simp [results, Tryd.f6, go_sem]
  case stop => exact fun _ _ _ _ _ _ _ h => h.elim

end Go.Proofs.YtogpicfofifbkaaDoor.LandedT
