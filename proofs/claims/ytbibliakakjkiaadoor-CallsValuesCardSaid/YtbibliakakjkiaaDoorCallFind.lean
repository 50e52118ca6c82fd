/- What the document's own FindCall gives; that a call is like itself, wherever it lies. -/
import Derived.Test.YtbibliakakjkiaaDoorCallAll
namespace Go.Proofs.YtbibliakakjkiaaDoor
open Go.RowKit

theorem find_at {α : Type} (p : α → Bool) : ∀ (l : List α) (k : Nat) (x : α), l[k]? = some x → p x = true → (∀ j y, j < k → l[j]? = some y → p y = false) → l.find? p = some x
  | [], k, x, h, _, _ => by simp at h
  | y :: l, 0, x, h, hp, _ => by
    obtain rfl : y = x := by simpa using h
    rw [List.find?_cons, hp]
  | y :: l, k + 1, x, h, hp, hb => by
    rw [List.find?_cons, hb 0 y (by omega) rfl]
    exact find_at p l k x (by simpa using h) hp fun j z hj hz => hb (j + 1) z (by omega) (by simpa using hz)

theorem find_no {α : Type} (p : α → Bool) (l : List α) (hb : ∀ j y, j < l.length → l[j]? = some y → p y = false) : l.find? p = none := by
  rw [List.find?_eq_none]
  intro x hx
  obtain ⟨j, hj, rfl⟩ := List.mem_iff_getElem.1 hx
  rw [hb j _ hj (List.getElem?_eq_getElem hj)]
  decide

theorem box_three {w : World} {g : Nat} {T : TypeId} {z0 z1 z2 a b c : Value} (h : Box w g T #[z0, z1, z2]) :
    Box (((w.setCell ⟨g, 0, none⟩ a).setCell ⟨g, 1, none⟩ b).setCell ⟨g, 2, none⟩ c) g T #[a, b, c] := by
  have := ((h.set 0 a).set 1 b).set 2 c
  simpa using this

theorem callSize : (Tryd.prog.info? 30).map (·.size) = some 3 := by kernel_rfl

theorem call_len {s : List UInt8} : (callsOf s).length ≤ 17 := by
  unfold callsOf callsIn
  rw [List.length_map]
  exact Nat.le_trans (List.length_filter_le _ _) (by decide)

theorem call_params {s : List UInt8} : ∀ c ∈ callsOf s, c.params.length ≤ 6 := by
  intro c hc
  unfold callsOf callsIn at hc
  obtain ⟨r, hr, rfl⟩ := List.mem_map.1 hc
  have hr := (List.mem_filter.1 hr).1
  simp only [callTab, List.mem_cons, List.not_mem_nil, or_false] at hr
  rcases hr with rfl | rfl | rfl | rfl | rfl | rfl | rfl | rfl | rfl | rfl | rfl | rfl | rfl | rfl | rfl | rfl | rfl
  all_goals
    dsimp only
    decide

theorem call_words {s : List UInt8} : ∀ c ∈ callsOf s, ∀ x ∈ c.params, x ≠ [] := by
  intro c hc
  unfold callsOf callsIn at hc
  obtain ⟨r, hr, rfl⟩ := List.mem_map.1 hc
  have hr := (List.mem_filter.1 hr).1
  simp only [callTab, List.mem_cons, List.not_mem_nil, or_false] at hr
  rcases hr with rfl | rfl | rfl | rfl | rfl | rfl | rfl | rfl | rfl | rfl | rfl | rfl | rfl | rfl | rfl | rfl | rfl
  all_goals
    dsimp only
    decide

/-- Params don't lie in a block that holds the zero call. -/
theorem params_off {w : World} {B g : Nat} {T : TypeId} {p : Placed} (hb : Box w g T #[.string ⟨#[]⟩, .int .u32 0, .slice none 0 0]) (hp : ParamsLie w B p) (hw : ∀ x ∈ p.1.params, x ≠ []) {b o : Nat} (he : p.2.1 = some ⟨b, o, none⟩) (h0 : 0 < p.1.params.length) : b ≠ g := by
  rintro rfl
  obtain ⟨b', o', e, _, hc⟩ := hp.1.2 h0
  rw [he] at e
  simp only [Option.some.injEq, Addr.mk.injEq, and_true] at e
  obtain ⟨rfl, rfl⟩ := e
  cases hl : p.1.params with
  | nil => rw [hl] at h0; exact absurd h0 (by decide)
  | cons x xs =>
    have hx := hw x (by rw [hl]; exact List.mem_cons_self ..)
    have h1 := hc 0 (.string (strOf x)) (by rw [hl]; rfl)
    rw [Nat.add_zero, hb.cell o] at h1
    rcases o with _ | _ | _ | o
    · simp only [List.getElem?_toArray, List.getElem?_cons_zero, Option.some.injEq, Value.string.injEq] at h1
      have h2 := congrArg (fun s : ByteArray => s.data.toList) h1
      exact hx h2.symm
    · simp at h1
    · simp at h1
    · simp at h1

theorem params_only {w w' : World} {B g : Nat} {p : Placed} (h : ParamsLie w B p) (ho : w.grownBy w' (some g)) (hB : B ≤ w.heap.size) (hg : ∀ b o, p.2.1 = some ⟨b, o, none⟩ → 0 < p.1.params.length → b ≠ g) : ParamsLie w' B p := by
  refine ⟨⟨h.1.1, fun h0 => ?_⟩, h.2⟩
  obtain ⟨b, o, e, hb, hc⟩ := h.1.2 h0
  have hne := hg b o e h0
  exact ⟨b, o, e, hb, fun j u hu => (World.cell?_of_block (ho.block b (by omega) (by simpa using hne))).trans (hc j u hu)⟩

set_option maxRecDepth 100000 in
set_option maxHeartbeats 4000000 in
theorem refFind_any (s n : ByteArray) (w : World) : Calls Tryd.prog 10 #[.string s, .string n] w (OneCall (findOf s.data.toList n.data.toList) w) := by
  obtain ⟨S, hS⟩ : ∃ S, S = s.data.toList := ⟨_, rfl⟩
  obtain ⟨N, hN⟩ : ∃ N, N = n.data.toList := ⟨_, rfl⟩
  have HR : Hid (∀ W : World, Calls Tryd.prog 14 #[.string s] W (NewCalls (callsOf S) W)) := fun W => by
    rw [hS]
    exact refCalls_any s W
  have HN : Hid (n.toList = N) := by
    rw [hN]
    exact ByteArray.toList_eq n
  rw [← hS, ← hN]
  clear hS hN
  go_enter Tryd.func10, Tryd.ntmps10
  go_wp2_with fail
  refine (HR.out _).mono ?_
  rintro r w1 ⟨A, c, ps, rfl, hc, hps, hcl, hb1⟩
  have hbx : Box w1 w.heap.size 30 #[.string ⟨#[]⟩, .int .u32 0, .slice none 0 0] := (Box.new w 30 _).step hb1
  have hnx : Below w.heap.size w w1 := below_step ((Below.refl _ _).alloc (Nat.le_refl _) _) (Nat.le_refl _) hb1
  have hln : ps.length = (callsOf S).length := by rw [← hps, List.length_map]
  have HPS := Lib.hid hps
  have HLN := Lib.hid hln
  have HCL := Lib.hid hcl
  have HBX := Lib.hid hbx
  have HNX := Lib.hid hnx
  have hgl := hbx.lt
  have hl17 : (callsOf S).length ≤ 17 := call_len
  have HW : Hid (∀ q ∈ ps, ∀ x ∈ q.1.params, x ≠ []) := fun q hq => call_words q.1 (by rw [← hps]; exact List.mem_map_of_mem hq)
  have HF : Hid (∀ (k : Nat) (p : Placed), ps[k]? = some p → p.1.name = N → (∀ j q, j < k → ps[j]? = some q → q.1.name ≠ N) → findOf S N = (p.1, true)) := fun k p hp hn hb => by
    unfold findOf
    rw [← hps, find_at _ _ k p.1 (by rw [List.getElem?_map, hp]; rfl) (by simpa using hn) (fun j y hj hy => by
      rw [List.getElem?_map] at hy
      obtain ⟨q, hq, rfl⟩ := Option.map_eq_some_iff.1 hy
      simpa using hb j q hj hq)]
  have HG : Hid ((∀ j q, j < (callsOf S).length → ps[j]? = some q → q.1.name ≠ N) → findOf S N = (noCall, false)) := fun hb => by
    unfold findOf
    rw [← hps, find_no _ _ (fun j y hj hy => by
      rw [List.getElem?_map] at hy
      obtain ⟨q, hq, rfl⟩ := Option.map_eq_some_iff.1 hy
      rw [hps] at hj
      simpa using hb j q hj hq)]
  obtain ⟨L, hL⟩ : ∃ L, L = (callsOf S).length := ⟨_, rfl⟩
  rw [← hL] at HLN HCL hl17 HG hc ⊢
  clear hps hln hcl hbx hnx hb1 hL
  go_wp2_with fail
  go_loop [7] (fun i => ∃ k : Nat, k ≤ L ∧ i = .int .i64 k ∧ Hid (∀ j q, j < k → ps[j]? = some q → q.1.name ≠ N)) (fun i => L - (intOf i).toNat)
  case atStart => exact ⟨0, by omega, rfl, fun j q hj => absurd hj (by omega)⟩
  case round =>
    obtain ⟨k, hk, rfl, HB⟩ := hrel
    by_cases hlt : k < L
    · obtain ⟨p, hp⟩ : ∃ p, ps[k]? = some p := ⟨_, List.getElem?_eq_getElem (by have := HLN.out; omega)⟩
      obtain ⟨a0, a1, a2⟩ := callVals_at ps k p hp
      obtain ⟨b, o, rfl, hb, hcc⟩ := HCL.out.1.2 (by omega)
      have e0 := hcc _ _ a0
      have e1 := hcc _ _ a1
      have e2 := hcc _ _ a2
      rw [← Nat.add_assoc] at e1 e2
      have HPL := Lib.hid (HCL.out.2 p (List.mem_of_getElem? hp))
      have HP := Lib.hid hp
      clear a0 a1 a2 hcc hp
      have HQ : Hid ((strOf p.1.name).toList = p.1.name) := by
        show _ = _
        rw [ByteArray.toList_eq]
        rfl
      cases hq : ((strOf p.1.name).toList == n.toList)
      · have hne : p.1.name ≠ N := by
          rw [HQ.out, HN.out] at hq
          simpa using hq
        have HNE := Lib.hid hne
        clear hne
        go_wp2
        go_round
        case rel => exact ⟨k + 1, by omega, by go_num, fun j q hj hjq => by
          by_cases e : j = k
          · subst e
            obtain rfl : p = q := Option.some.inj (HP.out.symm.trans hjq)
            exact HNE.out
          · exact HB.out j q (by omega) hjq⟩
        case measure => simp [intOf]; omega
      · have he : p.1.name = N := by
          rw [HQ.out, HN.out] at hq
          simpa using hq
        have HFK := Lib.hid (HF.out k p HP.out he HB.out)
        have r0 := HBX.out.cell 0
        have r1 := HBX.out.cell 1
        have r2 := HBX.out.cell 2
        simp only [List.getElem?_toArray, List.getElem?_cons_zero, List.getElem?_cons_succ] at r0 r1 r2
        have f0 := HBX.out.free 0
        have f1 := HBX.out.free 1
        have f2 := HBX.out.free 2
        clear he
        go_wp2_with fail
        have hbx := box_three (a := .string (strOf p.1.name)) (b := .int .u32 p.1.nr) (c := .slice p.2.1 p.1.params.length p.2.2) HBX.out
        refine bodyPost_ret (results_box_tmp rfl _ _ w.heap.size 30 _ ?q1 hbx _ Tryd.underlying30 ?q2 ?q3) ?q4 ?q5
        case q2 => rfl
        case q3 => exact callSize
        case q1 => rfl
        case q4 => rfl
        case q5 =>
          rw [HFK.out]
          refine ⟨p.2.1, p.2.2, rfl, ?_, ?_⟩
          · have hw := HW.out p (List.mem_of_getElem? HP.out)
            exact (params_only HPL.out (only_trans (only_trans (only_set _ _ _ _) (only_set _ _ _ _)) (only_set _ _ _ _)) (Nat.le_refl _) (fun b' o' e h0 => params_off HBX.out HPL.out hw e h0)).wider (by simp [World.setCell])
          · iterate 3 (with_reducible refine below_set (Nat.le_refl _) ?_)
            exact HNX.out
    · obtain rfl : k = L := by omega
      have HFK := Lib.hid (HG.out HB.out)
      have r0 := HBX.out.cell 0
      have r1 := HBX.out.cell 1
      have r2 := HBX.out.cell 2
      simp only [List.getElem?_toArray, List.getElem?_cons_zero, List.getElem?_cons_succ] at r0 r1 r2
      have f0 := HBX.out.free 0
      have f1 := HBX.out.free 1
      have f2 := HBX.out.free 2
      go_wp2_with fail
      have hbx := box_three (a := .string ⟨#[]⟩) (b := .int .u32 0) (c := .slice none 0 0) HBX.out
      refine bodyPost_ret (results_box_tmp rfl _ _ w.heap.size 30 _ ?q1 hbx _ Tryd.underlying30 ?q2 ?q3) ?q4 ?q5
      case q2 => rfl
      case q3 => exact callSize
      case q1 => rfl
      case q4 => rfl
      case q5 =>
        rw [HFK.out]
        refine ⟨none, 0, rfl, ⟨Lies.empty _ _ _ _, Nat.le_refl _⟩, ?_⟩
        iterate 3 (with_reducible refine below_set (Nat.le_refl _) ?_)
        exact HNX.out

end Go.Proofs.YtbibliakakjkiaaDoor
