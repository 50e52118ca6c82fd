/- What the document's own Same gives. -/
import Derived.Test.YtogpicfofifbkaaDoorTreeParts
namespace Go.Proofs.YtogpicfofifbkaaDoor
open Go.RowKit

theorem dfn_name {a b : Dfn} (h : sameStr a.name b.name = false) : sameDfn a b = false := by unfold sameDfn; rw [h]; rfl
theorem dfn_ex {a b : Dfn} (h : sameEx a.ex b.ex = false) : sameDfn a b = false := by unfold sameDfn; rw [h]; simp
theorem dfn_all {a b : Dfn} (h1 : sameStr a.name b.name = true) (h2 : sameEx a.ex b.ex = true) : sameDfn a b = true := by unfold sameDfn; rw [h1, h2]; rfl
theorem pol_name {a b : Pol} (h : sameStr a.name b.name = false) : samePol a b = false := by unfold samePol; rw [h]; rfl
theorem pol_alike {a b : Pol} (h : alikes samePar a.parts b.parts = false) : samePol a b = false := by unfold samePol; rw [h]; simp
theorem pol_all {a b : Pol} (h1 : sameStr a.name b.name = true) (h2 : alikes samePar a.parts b.parts = true) : samePol a b = true := by unfold samePol; rw [h1, h2]; rfl
theorem unt_defs {u v : Unt} (h : alikes sameDfn u.defs v.defs = false) : sameUnt u v = false := by unfold sameUnt; rw [h]; rfl
theorem unt_pols {u v : Unt} (h : alikes samePol u.pols v.pols = false) : sameUnt u v = false := by unfold sameUnt; rw [h]; simp
theorem unt_main {u v : Unt} (h : alikes sameStr u.main v.main = false) : sameUnt u v = false := by unfold sameUnt; rw [h]; simp
theorem unt_act {u v : Unt} (h : (u.kind == v.kind && u.data == v.data) = false) : sameUnt u v = false := by unfold sameUnt; rw [h]; simp
theorem unt_all {u v : Unt} (h1 : alikes sameDfn u.defs v.defs = true) (h2 : alikes samePol u.pols v.pols = true) (h3 : alikes sameStr u.main v.main = true) (h4 : (u.kind == v.kind && u.data == v.data) = true) : sameUnt u v = true := by
  unfold sameUnt
  rw [h1, h2, h3, h4]
  rfl

end Go.Proofs.YtogpicfofifbkaaDoor
