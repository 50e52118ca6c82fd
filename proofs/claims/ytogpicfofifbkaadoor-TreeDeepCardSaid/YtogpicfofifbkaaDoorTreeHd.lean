/- Lists of expressions that wait in a row of a call's own: what they hold, how the row moves. No program. -/
import Derived.Test.YtogpicfofifbkaaDoorTreeTold
import Derived.Test.YtogpicfofifbkaaDoorStore
import Derived.Test.YtogpicfofifbkaaDoorSeqFree
import Derived.WalkSmall
namespace Go.Proofs.YtogpicfofifbkaaDoor.LandedT
open Go.RowKit

/-- A list of expressions, and where it lies. -/
structure Hd where
  A : Option Addr
  c : Nat
  l : List Ex
def Hd.val (h : Hd) : Value := .slice h.A h.l.length h.c

/-- It lies in blocks of T, its expressions' kids below block B0. -/
structure HdAt (T : Nat → Prop) (w0 : World) (B0 : Nat) (wr : World) (h : Hd) : Prop where
  len : h.l.length ≤ h.c
  room : h.c ≤ maxLen
  lies : 0 < h.l.length → ∃ b o, h.A = some ⟨b, o, none⟩ ∧ T b ∧ ∀ (k : Nat) (x : Ex), h.l[k]? = some x → ExAt wr b (o + k * 5) x
  kids : ∀ x ∈ h.l, ExIn w0 B0 x

section
variable {T : Nat → Prop} {w0 w w' : World} {B0 : Nat}
theorem exAt_same {b o : Nat} {x : Ex} (h : ExAt w b o x) (hs : w'.heap[b]? = w.heap[b]?) : ExAt w' b o x := by
  have hc : ∀ i, w'.cell? ⟨b, i, none⟩ = w.cell? ⟨b, i, none⟩ := fun i => World.cell?_of_block hs
  cases x with
  | node kd op nm nu A c ks =>
    obtain ⟨h0, h1, h2, h3, h4⟩ := h
    exact ⟨(hc _).trans h0, (hc _).trans h1, (hc _).trans h2, (hc _).trans h3, (hc _).trans h4⟩
theorem HdAt.keep {h : Hd} (h0 : HdAt T w0 B0 w h) (hk : ∀ b, T b → w'.heap[b]? = w.heap[b]?) : HdAt T w0 B0 w' h :=
  ⟨h0.len, h0.room, fun hp => by obtain ⟨b, o, h1, h2, h3⟩ := h0.lies hp; exact ⟨b, o, h1, h2, fun k x hx => exAt_same (h3 k x hx) (hk b h2)⟩, h0.kids⟩
theorem HdAt.of_kids {A : Option Addr} {c : Nat} {ks : List Ex} (h : SlIn w0 B0 5 Ex.cells (ExIn w0 B0) A c ks) (hb : Below B0 w0 w) (hT : ∀ b, b < B0 → T b) : HdAt T w0 B0 w ⟨A, c, ks⟩ :=
  ⟨h.cap, h.room, fun hp => by
    obtain ⟨x, hx⟩ : ∃ x, ks[0]? = some x := ⟨_, List.getElem?_eq_getElem hp⟩
    obtain ⟨b, o, hA, hlt, _, _⟩ := h.nth hx
    refine ⟨b, o, hA, hT b hlt, fun k y hy => ?_⟩
    obtain ⟨b', o', hA', _, _, e⟩ := h.nth hy
    rw [hA] at hA'
    cases hA'
    exact e.below hlt hb, h.all⟩
theorem HdAt.tail {b o c : Nat} {x : Ex} {r : List Ex} (h : HdAt T w0 B0 w ⟨some ⟨b, o, none⟩, c, x :: r⟩) : HdAt T w0 B0 w ⟨some ⟨b, o + 5, none⟩, c - 1, r⟩ := by
  obtain ⟨h1, h2, h3, h4⟩ := h
  simp only [List.length_cons] at h1 h2 h3
  refine ⟨by show r.length ≤ c - 1; omega, by show c - 1 ≤ maxLen; omega, fun _ => ?_, fun y hy => h4 y (List.mem_cons_of_mem _ hy)⟩
  obtain ⟨b', o', e, hT, hc⟩ := h3 (by omega)
  cases e
  exact ⟨b, o + 5, rfl, hT, fun k y hy => by rw [show o + 5 + k * 5 = o + (k + 1) * 5 from by omega]; exact hc (k + 1) y hy⟩
theorem HdAt.at {h : Hd} (h0 : HdAt T w0 B0 w h) {k : Nat} {x : Ex} (hx : h.l[k]? = some x) : ∃ b o, h.A = some ⟨b, o, none⟩ ∧ T b ∧ ExAt w b (o + k * 5) x ∧ ExIn w0 B0 x := by
  obtain ⟨hk, _⟩ := List.getElem?_eq_some_iff.1 hx
  obtain ⟨b, o, hA, hT, hc⟩ := h0.lies (by omega)
  exact ⟨b, o, hA, hT, hc k x hx, h0.kids x (List.mem_of_getElem? hx)⟩
end

/-! ### The row -/
section
variable {w : World} {base size n cap g : Nat} {e : TypeId} {xs : List Value}
theorem own_box (h : w.ownsRow base e size (.slice (some ⟨g, 0, none⟩) n cap) n xs) : ∃ cur, Box w g e cur ∧ base ≤ g ∧ n ≤ cap ∧ cap ≤ maxLen ∧ cur.size = cap * size ∧ cur.toList.take (n * size) = xs := by
  obtain ⟨_, h2⟩ := h
  rcases h2 with ⟨h0, _⟩ | ⟨g', cap', cur, hv, hg, hh, hn, hcap, hsz, htake⟩
  · cases h0
  · cases hv
    exact ⟨cur, hh, hg, hn, hcap, hsz, htake⟩
theorem own_cell (h : w.ownsRow base e size (.slice (some ⟨g, 0, none⟩) n cap) n xs) {k : Nat} {v : Value} (hv : xs[k]? = some v) : w.cell? ⟨g, k, none⟩ = some v ∧ w.frozen? ⟨g, k, none⟩ = false ∧ g < w.heap.size := by
  obtain ⟨cur, hb, _, _, _, _, ht⟩ := own_box h
  refine ⟨?_, hb.free k, hb.lt⟩
  rw [hb.cell k, ← Array.getElem?_toList]
  have hk := (List.getElem?_eq_some_iff.1 hv).1
  rw [← ht] at hv
  rw [List.getElem?_take] at hv
  split at hv
  · exact hv
  · cases hv
theorem own_put (h : w.ownsRow base e 1 (.slice (some ⟨g, 0, none⟩) n cap) n xs) (k : Nat) (v : Value) : (w.setCell ⟨g, k, none⟩ v).ownsRow base e 1 (.slice (some ⟨g, 0, none⟩) n cap) n (xs.set k v) := by
  obtain ⟨cur, hb, h1, h2, h3, h4, h5⟩ := own_box h
  refine ⟨by rw [List.length_set]; exact h.1, .inr ⟨g, cap, _, rfl, h1, hb.set k v, h2, h3, by rw [Array.size_setIfInBounds]; exact h4, ?_⟩⟩
  rw [← h5, Array.toList_setIfInBounds, List.take_set]
theorem own_pop {last : List Value} {v : Value} {k : Nat} (hx : xs.length = k * size) (h : w.ownsRow base e size v (k + 1) (xs ++ last)) : ∃ g cap, v = .slice (some ⟨g, 0, none⟩) (k + 1) cap ∧ w.ownsRow base e size (.slice (some ⟨g, 0, none⟩) k cap) k xs := by
  obtain ⟨g, cap, rfl⟩ := ownsRow_succ h
  exact ⟨g, cap, rfl, ownsRow_pop hx h⟩
theorem own_same {w' : World} (h : w.ownsRow base e size (.slice (some ⟨g, 0, none⟩) n cap) n xs) (hs : w'.heap[g]? = w.heap[g]?) : w'.ownsRow base e size (.slice (some ⟨g, 0, none⟩) n cap) n xs := by
  obtain ⟨cur, hb, h1, h2, h3, h4, h5⟩ := own_box h
  exact ⟨h.1, .inr ⟨g, cap, cur, rfl, h1, hs.trans hb, h2, h3, h4, h5⟩⟩
end

/-! ### Stacks: the top comes first -/
def Room (K D : Nat) : List Hd → Prop
  | [] => True
  | h :: r => r.length + K * depthsOf 0 h.l ≤ K * D ∧ Room K D r
def wst : List Hd → Nat
  | [] => 0
  | h :: r => weighs h.l + 1 + wst r
theorem wst_cons (h : Hd) (r : List Hd) : wst (h :: r) = weighs h.l + 1 + wst r := rfl
def rowOf (st : List Hd) : List Value := st.reverse.map Hd.val
theorem row_len (st : List Hd) : (rowOf st).length = st.length := by unfold rowOf; simp
theorem row_cons (h : Hd) (st : List Hd) : rowOf (h :: st) = rowOf st ++ [h.val] := by unfold rowOf; simp
theorem row_top (h : Hd) (st : List Hd) : (rowOf (h :: st))[st.length]? = some h.val := by
  rw [row_cons, List.getElem?_append_right (by rw [row_len]; exact Nat.le_refl _), row_len]
  simp
theorem row_set (h h' : Hd) (st : List Hd) : (rowOf (h :: st)).set st.length h'.val = rowOf (h' :: st) := by
  rw [row_cons, row_cons, List.set_append_right _ _ (by rw [row_len]; exact Nat.le_refl _), row_len]
  simp
theorem room_len {K D : Nat} : ∀ {st : List Hd}, Room K D st → st.length ≤ K * D + 1
  | [], _ => by simp
  | h :: r, hr => by have := hr.1; simp only [List.length_cons]; omega
/-- The depths that are still to come. -/
def restD : List Hd → List Nat
  | [] => []
  | h :: r => presD (r.length + 1) h.l ++ restD r

theorem rest_cons (A0 : Option Addr) (c0 : Nat) (kd nu : Int) (op nm : ByteArray) (A : Option Addr) (c : Nat) (ks r : List Ex) (rs : List Hd) :
    restD (⟨A0, c0, .node kd op nm nu A c ks :: r⟩ :: rs) = (rs.length + 1) :: (presD (rs.length + 2) ks ++ (presD (rs.length + 1) r ++ restD rs)) := by
  have h : restD (⟨A0, c0, .node kd op nm nu A c ks :: r⟩ :: rs) = presD (rs.length + 1) (.node kd op nm nu A c ks :: r) ++ restD rs := rfl
  rw [h, pres_cons, List.cons_append, List.append_assoc]

theorem depths_head (kd nu : Int) (op nm : ByteArray) (A : Option Addr) (c : Nat) (ks r : List Ex) : depthsOf 0 r ≤ depthsOf 0 (.node kd op nm nu A c ks :: r) ∧ depthsOf 0 ks + 1 ≤ depthsOf 0 (.node kd op nm nu A c ks :: r) := by
  have h1 := depth_kid (List.mem_cons_self (a := Ex.node kd op nm nu A c ks) (l := r))
  rw [depth_node] at h1
  refine ⟨?_, h1⟩
  have e : depthsOf 0 (.node kd op nm nu A c ks :: r) = depthsOf (if 0 < depthOf (.node kd op nm nu A c ks) then depthOf (.node kd op nm nu A c ks) else 0) r := by
    conv => lhs; unfold depthsOf
  have h2 := depths_max r (if 0 < depthOf (.node kd op nm nu A c ks) then depthOf (.node kd op nm nu A c ks) else 0)
  omega

/-! ### The start: a list of one expression, in a block of its own, and a row that holds it alone -/
theorem depths_one (e : Ex) : depthsOf 0 [e] = depthOf e := by
  have h := depths_snoc [] 0 e
  rw [List.nil_append] at h
  rw [h]
  have h0 : depthsOf 0 [] = 0 := by unfold depthsOf; rfl
  rw [h0]
  split <;> omega
theorem pre_one (e : Ex) (d : Nat) : presD d [e] = preD d e := by
  unfold presD
  rw [pres_nil, List.append_nil]
theorem two_boxes (W : World) (a b : Array Value) (t u : TypeId) : Box ((W.alloc (.cells a t)).alloc (.cells b u)) W.heap.size t a ∧ Box ((W.alloc (.cells a t)).alloc (.cells b u)) (W.heap.size + 1) u b := by
  refine ⟨(Box.new W t a).alloc _, ?_⟩
  have h := Box.new (W.alloc (.cells a t)) u b
  rwa [World.size_alloc] at h
theorem hd_start {T : Nat → Prop} {w0 X : World} {B0 g : Nat} {t : TypeId} {e : Ex} (he : ExIn w0 B0 e) (hT : T g) (hb : Box X g t e.cells.toArray) : HdAt T w0 B0 X ⟨some ⟨g, 0, none⟩, 1, [e]⟩ := by
  refine ⟨Nat.le_refl _, by show 1 ≤ maxLen; decide, fun _ => ⟨g, 0, rfl, hT, fun k x hx => ?_⟩, fun x hx => ?_⟩
  · rcases k with _ | k
    · have : e = x := by simpa using hx
      subst this
      cases e with
      | node kd op nm nu A c ks => exact ⟨hb.cell 0, hb.cell 1, hb.cell 2, hb.cell 3, hb.cell 4⟩
    · simp at hx
  · have : x = e := by simpa using hx
    rw [this]
    exact he
theorem row_start {X : World} {base g : Nat} {t : TypeId} {v : Value} (hb : Box X g t #[v]) (hg : base ≤ g) : X.ownsRow base t 1 (.slice (some ⟨g, 0, none⟩) 1 1) 1 [v] :=
  ⟨rfl, .inr ⟨g, 1, _, rfl, hg, hb, Nat.le_refl _, by decide, rfl, rfl⟩⟩

end Go.Proofs.YtogpicfofifbkaaDoor.LandedT
