/- Data that came in by value. -/
import Derived.Test.YtlghhnfpmekdnaaData
import Derived.Test.YtlghhnfpmekdnaaFrame
import Derived.Test.YtlghhnfpmekdnaaChecked
namespace Go.Proofs.Ytlghhnfpmekdnaa
open Go.RowKit Go.ChangeShapes Go.WideShapes Go.ChangeAt

theorem wf_u32 {n : Int} (h : (Lit.int .u32 n).wf = true) : 0 ≤ n ∧ n < 4294967296 := by
  have h' : 0 ≤ n ∧ n ≤ 4294967295 := by simpa [Lit.wf, IntKind.min, IntKind.max, IntKind.signed, IntKind.bits] using h
  omega
theorem wf_u64 {n : Int} (h : (Lit.int .u64 n).wf = true) : 0 ≤ n ∧ n < 18446744073709551616 := by
  have h' : 0 ≤ n ∧ n ≤ 18446744073709551615 := by simpa [Lit.wf, IntKind.min, IntKind.max, IntKind.signed, IntKind.bits] using h
  omega

theorem open_dat {H : Type} {enc : TypeId × Value → H} {w : World} {base : Nat} {spare : Nat → Bool} {held : Bool} {v : Value} {x : DataW H} {p : List MemPlace}
    (hv : Value.okWide Try.prog w .any base 34 v) (h : DataW.Trod enc Try.prog w 0 spare held 34 v x p) : ∃ d : Dat, v = d.val ∧ d.Ok := by
  obtain ⟨cs, rfl, hsz⟩ := okWide_struct Try.underlying34 hv
  obtain ⟨l⟩ := cs
  have k0 : Try.prog.cellsOf 34 = 9 := by kernel_rfl
  have k1 : Try.prog.cellsOf 30 = 1 := by kernel_rfl
  have k2 : Try.prog.cellsOf 31 = 1 := by kernel_rfl
  have k3 : Try.prog.cellsOf 32 = 6 := by kernel_rfl
  match l, hsz.trans k0 with
  | [c0, c1, c2, c3, c4, c5, c6, c7, c8], _ =>
    obtain ⟨fuel, hf⟩ := h
    obtain ⟨xs, n, _, _, _, hxl, hg⟩ := DataW.trod_struct Try.underlying34 hf
    match xs, hxl with
    | [x0, x1, x2, x3], _ =>
      have g0 := hg 0 _ rfl
      have g1 := hg 1 _ rfl
      have g2 := hg 2 _ rfl
      have g3 := hg 3 _ rfl
      simp [Value.cells, k1, k2, k3] at g0 g1 g2 g3
      obtain ⟨n0, e0, _, w0⟩ := DataW.trod_int Try.underlying30 g0
      obtain ⟨n1, e1, _, w1⟩ := DataW.trod_int Try.underlying30 g1
      obtain ⟨n2, e2, _, w2⟩ := DataW.trod_int Try.underlying31 g2
      obtain ⟨ys, q, _, _, _, hyl, hh⟩ := DataW.trod_array Try.underlying32 g3
      match ys, hyl with
      | [y0, y1, y2, y3, y4, y5], _ =>
        have j0 := hh 0 (by omega)
        have j1 := hh 1 (by omega)
        have j2 := hh 2 (by omega)
        have j3 := hh 3 (by omega)
        have j4 := hh 4 (by omega)
        have j5 := hh 5 (by omega)
        simp [k2] at j0 j1 j2 j3 j4 j5
        obtain ⟨m0, d0, _, u0⟩ := DataW.trod_int Try.underlying31 j0
        obtain ⟨m1, d1, _, u1⟩ := DataW.trod_int Try.underlying31 j1
        obtain ⟨m2, d2, _, u2⟩ := DataW.trod_int Try.underlying31 j2
        obtain ⟨m3, d3, _, u3⟩ := DataW.trod_int Try.underlying31 j3
        obtain ⟨m4, d4, _, u4⟩ := DataW.trod_int Try.underlying31 j4
        obtain ⟨m5, d5, _, u5⟩ := DataW.trod_int Try.underlying31 j5
        simp at e0 e1 e2 d0 d1 d2 d3 d4 d5
        subst e0 e1 e2 d0 d1 d2 d3 d4 d5
        exact ⟨⟨n0, n1, n2, m0, m1, m2, m3, m4, m5⟩, rfl, wf_u32 w0, wf_u32 w1, wf_u64 w2, wf_u64 u0, wf_u64 u1, wf_u64 u2, wf_u64 u3, wf_u64 u4, wf_u64 u5⟩

end Go.Proofs.Ytlghhnfpmekdnaa
