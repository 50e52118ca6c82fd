/- What the landed machine's Run must give. -/
import Derived.Test.YtlghhnfpmekdnaaRun
namespace Go.Proofs.Ytlghhnfpmekdnaa
open Go.RowKit

/-- The landed code's contract. -/
structure MacSays : Prop where
  run : ∀ (A : Option Addr) (n c : Nat) (l : List Ins) (d : Dat) (w : World), Lies w w.heap.size 4 A n (cellsOf l) → (∀ y ∈ l, y.Ok) → d.Ok → n ≤ 4398046511104 →
    Calls Try.prog 13 #[.slice A n c, d.val] w (Ran (runOf l d) w)

/-- An append at a step of a region that draws its order. -/
theorem step_append {P : Program} (w : World) {ops : Array Oper} {o : Oper} {a : Act} {K : Act → World → Prop} {Q : Exit → Act → World → Prop} {E : Prop} (hgd : o.guard = none) (s x : Operand) (t : TypeId)
    (ho : o.op = .call { callee := .builtin .append, args := #[s, x], argTypes := #[t, t] })
    (base : Nat) (e : TypeId) (i : TypeInfo) (z : Value) (size bytes : Nat) (ht : P.underlying t = some (.slice e)) (hi : P.info? e = some i) (hz : i.zero = some z)
    (hsize : i.size = size) (hby : i.bytes = bytes) (hzs : z.cells.size = size) (hsz : 0 < size)
    (v : Value) (n : Nat) (xs : List Value) (hs : a.eval s = v) (hown : w.ownsRow base e size v n xs)
    (B : Nat) (A : Option Addr) (m c : Nat) (news : List Value) (hx : a.eval x = .slice A m c) (hr : Lies w B size A m news) (h1 : ∀ u ∈ news, u.oneCell' = true)
    (h63 : n + m ≤ maxLen) (hbytes : (n + m) * bytes ≤ 140737488355328) (hbase : base ≤ w.heap.size)
    (h : ∀ v' w', w'.ownsRow base e size v' (n + m) (xs ++ news) → w.grownBy w' v.ownBlock → K (a.put o.dst v') w') :
    if Region.wanted o (yielded ops a.tmps) = true then Oper.wp P o a w K Q else E := by
  have hw : Region.wanted o (yielded ops a.tmps) = true := by simp [Region.wanted, hgd]
  rw [if_pos hw]
  obtain ⟨v', w', hrun, h2, h3⟩ := run_append_lies (P := P) w base t o.type e i z size bytes ht hi hz hsize hby hzs hsz v n xs hown B A m c news hr h1 h63 hbytes hbase
  unfold Oper.wp execOp
  simp only [ho, resolve, invoke, builtin, Sem.run_bind, Sem.run_pure, Result.andThen_ok, List.map_toArray, List.map_cons, List.map_nil, hs, hx, hrun]
  exact h v' w' h2 h3

/-- What lies in a block that is known whole. -/
theorem Box.lies {w : World} {g B n size : Nat} {t : TypeId} {cs : Array Value} (h : Box w g t cs) (hB : g < B) (hn : cs.size = n * size) : Lies w B size (some ⟨g, 0, none⟩) n cs.toList :=
  ⟨by simpa using hn, fun _ => ⟨g, 0, rfl, hB, fun j u hu => by rw [Nat.zero_add, h.cell j]; simpa using hu⟩⟩

def dat0 : Dat := ⟨0, 0, 0, 0, 0, 0, 0, 0, 0⟩
theorem dat0_ok : dat0.Ok := ⟨by decide, by decide, by decide, by decide, by decide, by decide, by decide, by decide, by decide⟩
def seven : List Ins := [⟨6, 0, 0, 7⟩]
theorem seven_ok : ∀ y ∈ seven, y.Ok := by
  intro y hy
  obtain rfl : y = ⟨6, 0, 0, 7⟩ := by simpa [seven] using hy
  exact ⟨by decide, by decide, by decide, by decide, by decide, by decide, by decide, by decide⟩
theorem seven_run (d : Dat) : runOf seven d = (7, 1, true) := by
  have h := run_end (l := seven) (d := d) (k := 0) (p := 0) (s := Mac.zero) (v := 7) (e := 1) (ok := true) (R := runOf seven d) rfl (by omega) rfl
  exact h

theorem ins_ok {c jt jf k : Int} (h : -9223372036854775808 ≤ c ∧ c ≤ 9223372036854775807) (hj : -9223372036854775808 ≤ jt ∧ jt ≤ 9223372036854775807) (hf : -9223372036854775808 ≤ jf ∧ jf ≤ 9223372036854775807) (hk : 0 ≤ k ∧ k ≤ 4294967295) : (⟨c, jt, jf, k⟩ : Ins).Ok :=
  ⟨h.1, h.2, hj.1, hj.2, hf.1, hf.2, hk.1, hk.2⟩

end Go.Proofs.Ytlghhnfpmekdnaa
