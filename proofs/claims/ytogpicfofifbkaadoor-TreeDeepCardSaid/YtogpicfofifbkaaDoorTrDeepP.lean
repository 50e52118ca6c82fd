/- What the law TreeDeep builds: how deep it is, that it is a condition; memory in which one box turns. No program. -/
import Derived.Test.YtogpicfofifbkaaDoorTreeFace
import Derived.Test.YtogpicfofifbkaaDoorTreeBlocks
namespace Go.Proofs.YtogpicfofifbkaaDoor
open Go.RowKit

def Dfd : Ex := .node 5 ⟨#[]⟩ ⟨#[102, 100]⟩ 0 none 0 []
def Dnum : Ex := .node 7 ⟨#[]⟩ ⟨#[]⟩ 0 none 0 []
def Dcmp (op : ByteArray) (g : Nat) : Ex := .node 4 op ⟨#[]⟩ 0 (some ⟨g, 0, none⟩) 2 [Dfd, Dnum]
def Dnot (g : Nat) (e : Ex) : Ex := .node 3 ⟨#[]⟩ ⟨#[]⟩ 0 (some ⟨g, 0, none⟩) 1 [e]
def Dor (g g' : Nat) (e : Ex) : Ex := .node 1 ⟨#[]⟩ ⟨#[]⟩ 0 (some ⟨g', 0, none⟩) 2 [Dcmp ⟨#[60]⟩ g, e]

structure DeepOk (m : Nat) (e : Ex) : Prop where
  depth : depthOf e = m
  ok : boolOk e = true
  small : ExSmall e

theorem leaf_small (kd nu : Int) (op nm : ByteArray) (h1 : op.size ≤ 1048576) (h2 : nm.size ≤ 1048576) : ExSmall (.node kd op nm nu none 0 []) := .mk h1 h2 (by decide) (fun k hk => by cases hk)
theorem in_two {P : Ex → Prop} {a b : Ex} (ha : P a) (hb : P b) : ∀ x ∈ [a, b], P x := fun x hx => by
  rcases List.mem_cons.1 hx with rfl | hx
  · exact ha
  · rcases List.mem_cons.1 hx with rfl | hx
    · exact hb
    · cases hx
theorem in_one {α : Type} {P : α → Prop} {a : α} (ha : P a) : ∀ x ∈ [a], P x := fun x hx => by
  rcases List.mem_cons.1 hx with rfl | hx
  · exact ha
  · cases hx
theorem depths_solo (e : Ex) : depthsOf 0 [e] = depthOf e := by
  have h := depths_snoc [] 0 e
  rw [List.nil_append] at h
  rw [h]
  have h0 : depthsOf 0 [] = 0 := by unfold depthsOf; rfl
  rw [h0]
  split <;> omega
theorem depths_duo (a b : Ex) : depthsOf 0 [a, b] = if depthOf a < depthOf b then depthOf b else depthOf a := by
  have h := depths_snoc [a] 0 b
  rw [depths_solo] at h
  exact h
theorem cmp_depth (op : ByteArray) (g : Nat) : depthOf (Dcmp op g) = 2 := by
  unfold Dcmp
  rw [depth_node, depths_duo]
  rfl
theorem deep_start (g : Nat) : DeepOk 2 (Dcmp ⟨#[61, 61]⟩ g) :=
  ⟨cmp_depth _ _, by kernel_rfl, .mk (by decide) (by decide) (by simp) (in_two (leaf_small _ _ _ _ (by decide) (by decide)) (leaf_small _ _ _ _ (by decide) (by decide)))⟩
theorem cmp_ok (g : Nat) : boolOk (Dcmp ⟨#[60]⟩ g) = true := by kernel_rfl
theorem deep_not {m : Nat} {e : Ex} (h : DeepOk m e) (g : Nat) : DeepOk (m + 1) (Dnot g e) :=
  ⟨by unfold Dnot; rw [depth_node, depths_solo, h.depth], by unfold Dnot; rw [bool_not (by kernel_rfl) (by kernel_rfl)]; exact h.ok, .mk (by decide) (by decide) (by simp) (in_one h.small)⟩
theorem deep_or {m : Nat} {e : Ex} (h : DeepOk m e) (hm : 2 ≤ m) (g g' : Nat) : DeepOk (m + 1) (Dor g g' e) :=
  ⟨by unfold Dor; rw [depth_node, depths_duo, h.depth, cmp_depth]; split <;> omega, by unfold Dor; rw [bool_or (by kernel_rfl) (.inl rfl) (by kernel_rfl), cmp_ok, h.ok]; rfl,
    .mk (by decide) (by decide) (by simp) (in_two (.mk (by decide) (by decide) (by simp) (in_two (leaf_small _ _ _ _ (by decide) (by decide)) (leaf_small _ _ _ _ (by decide) (by decide)))) h.small)⟩

/-! ### None of its kids lies in block g -/
inductive Avoids (g : Nat) : Ex → Prop
  | mk {kd : Int} {op nm : ByteArray} {nu : Int} {A : Option Addr} {c : Nat} {ks : List Ex} (here : ∀ b o, A = some ⟨b, o, none⟩ → b ≠ g) (all : ∀ k ∈ ks, Avoids g k) : Avoids g (.node kd op nm nu A c ks)
theorem exIn_turned {w w' : World} {B g : Nat} {e : Ex} (hin : ExIn w B e) (ha : Avoids g e) (hg : w.grownBy w' (some g)) (hB : B ≤ w.heap.size) : ExIn w' B e := by
  induction hin with
  | @mk kd op nm nu A c ks h1 _ h3 h4 h5 h6 h7 h8 ih =>
    cases ha with
    | mk a1 a2 =>
      refine .mk ⟨h1.1, fun hn => ?_⟩ (fun k hk => ih k hk (a2 k hk)) h3 h4 h5 h6 h7 h8
      obtain ⟨b, o, hA, hb, hc⟩ := h1.2 hn
      refine ⟨b, o, hA, hb, fun j u hu => ?_⟩
      rw [World.cell?_of_block (w := w) (a := ⟨b, o + j, none⟩) (hg.block b (by omega) (fun e => a1 b o hA (by cases e; rfl)))]
      exact hc j u hu
theorem leaf_avoids (g : Nat) (kd nu : Int) (op nm : ByteArray) : Avoids g (.node kd op nm nu none 0 []) := .mk (fun b o h => by cases h) (fun k hk => by cases hk)
theorem cmp_avoids {g g' : Nat} (op : ByteArray) (h : g' ≠ g) : Avoids g (Dcmp op g') := .mk (fun b o e => by cases e; exact h) (in_two (leaf_avoids _ _ _ _ _) (leaf_avoids _ _ _ _ _))
theorem not_avoids {g g' : Nat} {e : Ex} (h : g' ≠ g) (he : Avoids g e) : Avoids g (Dnot g' e) := .mk (fun b o e => by cases e; exact h) (in_one he)
theorem or_avoids {g a b : Nat} {e : Ex} (h1 : a ≠ g) (h2 : b ≠ g) (he : Avoids g e) : Avoids g (Dor a b e) := .mk (fun b o e => by cases e; exact h2) (in_two (cmp_avoids _ h1) he)

theorem kd_in (n : Int) (h : n = 0 ∨ n = 1 ∨ n = 2 ∨ n = 3 ∨ n = 4 ∨ n = 5 ∨ n = 6 ∨ n = 7) : I64 n := by unfold I64; omega
theorem zero_in : U64 0 := by unfold U64; omega
theorem cmp_in {W : World} {g : Nat} {t : TypeId} (op : ByteArray) (ho : op.size ≤ maxLen) (hb : Box W g t (#[.int .i64 5, .string ⟨#[]⟩, .string ⟨#[102, 100]⟩, .int .u64 0, .slice none 0 0, .int .i64 7, .string ⟨#[]⟩, .string ⟨#[]⟩, .int .u64 0, .slice none 0 0])) : ExIn W W.heap.size (Dcmp op g) :=
  exIn_of (slin_new (l := [Dfd, Dnum]) hb rfl (by simp) (in_two (ex_leaf W _ _ _ _ (kd_in _ (by omega)) zero_in (by decide) (by decide)) (ex_leaf W _ _ _ _ (kd_in _ (by omega)) zero_in (by decide) (by decide)))) (kd_in _ (by omega)) ho (by decide) zero_in
theorem not_in {W : World} {g : Nat} {t : TypeId} {e : Ex} (he : ExIn W W.heap.size e) (hb : Box W g t e.cells.toArray) : ExIn W W.heap.size (Dnot g e) :=
  exIn_of (slin_new (l := [e]) hb (by simp) (by simp) (in_one he)) (kd_in _ (by omega)) (by decide) (by decide) zero_in
theorem or_in {W : World} {g g' : Nat} {t u : TypeId} {e : Ex} (he : ExIn W W.heap.size e) (hc : Box W g t (#[.int .i64 5, .string ⟨#[]⟩, .string ⟨#[102, 100]⟩, .int .u64 0, .slice none 0 0, .int .i64 7, .string ⟨#[]⟩, .string ⟨#[]⟩, .int .u64 0, .slice none 0 0]))
    (hb : Box W g' u ((Dcmp ⟨#[60]⟩ g).cells ++ e.cells).toArray) : ExIn W W.heap.size (Dor g g' e) :=
  exIn_of (slin_new (l := [Dcmp ⟨#[60]⟩ g, e]) hb (by simp) (by simp) (in_two (cmp_in _ (by decide) hc) he)) (kd_in _ (by omega)) (by decide) (by decide) zero_in

/-! ### The unit -/
def Drule (p : Nat) (e : Ex) : Rul := ⟨⟨#[114, 101, 97, 100]⟩, none, 0, [], some ⟨p, 0, none⟩, 1, [e]⟩
def Dpart (p : Nat) (e : Ex) : Par := ⟨⟨#[]⟩, 7, 0, some ⟨p + 1, 0, none⟩, 1, [Drule p e]⟩
def Dpol (p : Nat) (e : Ex) : Pol := ⟨⟨#[112]⟩, some ⟨p + 2, 0, none⟩, 1, [Dpart p e]⟩
def Dunt (p : Nat) (e : Ex) : Unt := ⟨none, 0, [], some ⟨p + 3, 0, none⟩, 1, [Dpol p e], some ⟨p + 4, 0, none⟩, 1, [⟨#[112]⟩], 6, 0⟩

theorem unt_right {m : Nat} {e : Ex} (h : DeepOk m e) (p : Nat) : rightOk (Dunt p e) = decide (m ≤ 30) := by
  have e1 : ruleOk (Drule p e) = decide (m ≤ 30) := by
    unfold ruleOk Drule
    simp only
    rw [show nameOk ⟨#[114, 101, 97, 100]⟩ = true from by kernel_rfl, h.ok, h.depth]
    simp
  have e2 : partOk (Dpart p e) = decide (m ≤ 30) := by
    unfold partOk Dpart
    simp only
    rw [if_neg (by rw [show emptyB ⟨#[]⟩ = true from by kernel_rfl]; simp), show (valueOf 7 0).2 = true from by kernel_rfl, List.all_cons, e1]
    simp
  unfold rightOk Dunt
  simp only
  rw [show (valueOf 6 0).2 = true from by kernel_rfl, List.all_cons]
  unfold Dpol
  simp only
  rw [show nameOk ⟨#[112]⟩ = true from by kernel_rfl, List.all_cons, e2]
  simp [show nameOk ⟨#[112]⟩ = true from by kernel_rfl]

theorem unt_small {m : Nat} {e : Ex} (h : DeepOk m e) (hm : m ≤ 1000) (p : Nat) : UntSmall (Dunt p e) where
  ndefs := by simp [Dunt]
  defs := fun d hd => by cases hd
  npols := by simp [Dunt]
  pols := in_one ⟨by show (⟨#[112]⟩ : ByteArray).size ≤ _; decide, by simp [Dpol], in_one ⟨by show (⟨#[]⟩ : ByteArray).size ≤ _; decide, by simp [Dpart], in_one ⟨by show (⟨#[114, 101, 97, 100]⟩ : ByteArray).size ≤ _; decide, fun s hs => (by cases hs), by simp [Drule], by simp [Drule], in_one ⟨h.small, by rw [h.depth]; exact hm⟩⟩, kd_in _ (.inl rfl)⟩⟩
  nmain := by simp [Dunt]
  main := in_one (by decide)
  data := kd_in _ (.inl rfl)

theorem slin_one {α : Type} {W : World} {g C : Nat} {t : TypeId} {cs : Array Value} {f : α → List Value} {P : α → Prop} {x : α} (hb : Box W g t cs) (hc : cs.toList = f x) (hC : (f x).length = C) (hx : P x) : SlIn W W.heap.size C f P (some ⟨g, 0, none⟩) 1 [x] :=
  ⟨⟨by simp [hC], fun _ => ⟨g, 0, rfl, hb.lt, fun j u hu => by
    rw [hb.cell (0 + j), Nat.zero_add, ← Array.getElem?_toList, hc]
    simpa using hu⟩⟩, in_one hx, Nat.le_refl _, by decide⟩
theorem slin_none {α : Type} {W : World} {C : Nat} {f : α → List Value} {P : α → Prop} : SlIn W W.heap.size C f P none 0 [] :=
  ⟨⟨by simp, fun h => absurd h (Nat.lt_irrefl _)⟩, fun x hx => (by cases hx), Nat.le_refl _, Nat.zero_le _⟩
theorem unt_in {W : World} {p : Nat} {e : Ex} (he : ExIn W W.heap.size e) {t0 t1 t2 t3 t4 : TypeId} (b0 : Box W p t0 e.cells.toArray) (b1 : Box W (p + 1) t1 (Drule p e).cells.toArray) (b2 : Box W (p + 2) t2 (Dpart p e).cells.toArray) (b3 : Box W (p + 3) t3 (Dpol p e).cells.toArray) (b4 : Box W (p + 4) t4 #[.string ⟨#[112]⟩]) : UntIn W W.heap.size (Dunt p e) where
  defs := slin_none
  pols := slin_one b3 rfl rfl ⟨by show (⟨#[112]⟩ : ByteArray).size ≤ _; decide, slin_one b2 rfl rfl ⟨by show (⟨#[]⟩ : ByteArray).size ≤ _; decide, kd_in 7 (by omega), kd_in _ (.inl rfl), slin_one b1 rfl rfl ⟨by show (⟨#[114, 101, 97, 100]⟩ : ByteArray).size ≤ _; decide, slin_none, slin_one b0 rfl (Ex.cells_len e) he⟩⟩⟩
  main := slin_one b4 rfl rfl (by show (⟨#[112]⟩ : ByteArray).size ≤ _; decide)
  kind := kd_in 6 (by omega)
  data := kd_in _ (.inl rfl)

end Go.Proofs.YtogpicfofifbkaaDoor
