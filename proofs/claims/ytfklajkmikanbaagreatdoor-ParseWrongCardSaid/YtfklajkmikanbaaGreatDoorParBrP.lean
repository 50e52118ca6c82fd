/- What the landed parser's braced gives, of parts. Condition: what the start lays, as far as the library reads it. -/
import Derived.Test.YtfklajkmikanbaaGreatDoorParPart
import Derived.Test.YtfklajkmikanbaaGreatDoorPart20
namespace Go.Proofs.YtfklajkmikanbaaGreatDoor.LandedP
open Go.RowKit

def ParsNew (n : Nat) (W : World) (l : List Par) (v : Value) : Prop := ∃ A c l', l'.map Par.bare = l ∧ v = .slice A l'.length c ∧ SlP (fun b => n ≤ b) W 4 Par.cells (ParP (fun b => n ≤ b) W) A c l'
def ParsSt (w : World) (g : Nat) (E : Env) (X : Rx (List Par)) (M : Nat) (v : Value) (W : World) : Prop := ∃ (l : List Par) (n : Nat) (R : List Tk), X = bracedLoop partX n (l.map Par.bare) R ∧ R.length < n ∧ W.ownsRow w.heap.size 73 4 v l.length (l.flatMap Par.cells) ∧ w.grownBy W (some g) ∧
  RdrAt 66 W g E R Flt.none ∧ l.length + R.length ≤ M ∧ ∀ r ∈ l, ParP (Out w.heap.size v) W r
theorem infoPar : (Tryz.prog.info? 73).map (fun i => (i.zero, i.size, i.bytes)) = some (some (.agg #[.string ⟨#[]⟩, .int .i64 0, .int .i64 0, .slice none 0 0]), 4, 56) := by kernel_rfl

section
variable {w : World} {g : Nat} {E : Env} {R : List Tk}

set_option maxRecDepth 100000 in
set_option maxHeartbeats 8000000 in
theorem bracedPar_any (hE : ∀ W, E.laid W → Laid W) (h : RdrAt 66 w g E R Flt.none) :
    Calls Tryz.prog 33 #[.pointer (some ⟨g, 0, none⟩), .func (.func 34) #[.pointer (some ⟨g, 0, none⟩)] #[]] w (Gave 66 g E (ParsNew w.heap.size) SlShape (bracedX partX R) w) := by
  obtain ⟨i0, hi, hz0, hz1, hz2⟩ := info_parts infoPar
  have HGL := Lib.hid h.lt
  have HSG := Lib.hid (sign_any h ⟨#[123]⟩)
  rw [show ((⟨#[123]⟩ : ByteArray)).data.toList = [123] from rfl] at HSG
  have hMb : R.length ≤ 1000000 := h.len
  clear h
  cases hsg : sgL [123] R
  · rw [hsg] at HSG
    have HEQ : Hid (bracedX partX R = .error (3, R)) := by
      show bracedX partX R = _
      unfold bracedX
      rw [if_neg (by rw [hsg]; decide)]
    clear hsg
    go_enter Tryz.func33, Tryz.ntmps33
    go_wp2_with fail
    refine HSG.out.mono ?_
    rintro e w1 ⟨rfl, h1, hg1⟩
    have HR1 := Lib.hid h1
    have HG1 := Lib.hid hg1
    clear h1 hg1 HSG
    go_wp2
    go_ret2
    exact ⟨HG1.out, .inr ⟨3, R, _, HEQ.out, rfl, ⟨none, 0, 0, rfl⟩, .inl ⟨rfl, HR1.out⟩⟩⟩
  · rw [hsg] at HSG
    have htl := sg_less hsg
    obtain ⟨X, hX⟩ : ∃ X, X = bracedX partX R := ⟨_, rfl⟩
    have HX0 : Hid (X = bracedLoop partX (R.length + 1) [] R.tail) := by
      show X = _
      rw [hX]
      unfold bracedX
      rw [if_pos hsg]
    rw [← hX]
    obtain ⟨M, hM⟩ : ∃ M, M = R.length := ⟨_, rfl⟩
    rw [← hM] at hMb htl HX0
    clear hsg hX hM
    go_enter Tryz.func33, Tryz.ntmps33
    go_wp2_with fail
    refine HSG.out.mono ?_
    rintro e w1 ⟨rfl, h1, hg1⟩
    have H0 : Hid (ParsSt w g E X M (.slice none 0 0) w1) := ⟨[], M + 1, R.tail, HX0.out, by omega, ⟨rfl, .inl ⟨rfl, rfl⟩⟩, hg1, h1, by show 0 + _ ≤ _; omega, fun s hs => absurd hs (by simp)⟩
    clear h1 hg1 HSG HX0 htl
    go_wp2_with fail
    go_loopw [6] (fun v wr => Hid (ParsSt w g E X M v wr)) (fun v _ => M + 1 - lenS v)
    case atStart => exact H0
    case round =>
      obtain ⟨l, n, R', hX, hn, hown, hw, hrd, hlM, hall⟩ := hrel.out
      clear H0 hrel
      obtain ⟨A, c, hS, hnc, _⟩ := own_form hown
      subst hS
      obtain ⟨f, rfl⟩ : ∃ f, n = f + 1 := ⟨n - 1, by omega⟩
      have HX := Lib.hid hX
      have HSB := Lib.hid (sign_any hrd ⟨#[125]⟩)
      rw [show ((⟨#[125]⟩ : ByteArray)).data.toList = [125] from rfl] at HSB
      have HOWN := Lib.hid hown
      have HW := Lib.hid hw
      have HALL := Lib.hid hall
      have HB := Lib.hid (And.intro hn hlM)
      have hll : l.length ≤ 1000000 := by omega
      clear hX hn hown hw hrd hlM hall hnc
      cases hsb : sgL [125] R'
      · rw [hsb] at HSB
        have HX1 : Hid (X = bracedNext partX f (l.map Par.bare) (partX (restL (!(l.map Par.bare).isEmpty && sgL [44] R') R'))) := by
          have := HX.out
          rw [braced_next hsb] at this
          exact this
        clear hsb HX
        go_wp2_with fail
        refine HSB.out.mono ?_
        rintro e w2 ⟨rfl, h2, hg2⟩
        have h2' : RdrAt 66 w2 g E R' Flt.none := h2
        have HOWN2 := Lib.hid (own_ne' HOWN.out hg2 HGL.out)
        have HW2 := Lib.hid (only_trans HW.out hg2)
        have HALL2 : Hid (∀ r ∈ l, ParP (Out w.heap.size (.slice A l.length c)) w2 r) := fun r hr => (HALL.out r hr).move (Move.grown hg2 fun b _ hp => ⟨hp, fun e => by have := Option.some.inj e; have := hp.1; have := HGL.out; omega⟩)
        clear h2 hg2 HSB HOWN HW HALL
        cases l with
        | nil =>
          have HX2 : Hid (X = bracedNext partX f [] (partX R')) := HX1.out
          simp only [List.length_nil] at HOWN2 HALL2 HB ⊢
          clear HX1
          have HRL := Lib.hid (Nat.le_refl R'.length)
          have HON := Lib.hid (part_any hE h2')
          go_wp2_with fail
          refine HON.out.mono ?_
          rintro e w4 ⟨hg4, h4⟩
          have HOWN4 := Lib.hid (own_ne' HOWN2.out hg4 HGL.out)
          have HW4 := Lib.hid (only_trans HW2.out hg4)
          have HALL4 : Hid (∀ r ∈ ([] : List Par), ParP (Out w.heap.size (.slice A 0 c)) w4 r) := fun r hr => (HALL2.out r hr).move (Move.grown hg4 fun b _ hp => ⟨hp, fun e => by have := Option.some.inj e; have := hp.1; have := HGL.out; omega⟩)
          have HZ : Hid (w.heap.size ≤ w2.heap.size ∧ ∀ b, (Value.slice A 0 c).ownBlock = some b → b < w2.heap.size) := ⟨HW2.out.size, fun b hb => (HOWN2.out.lt b hb).2⟩
          clear hg4 HON HOWN2 HW2 HALL2
          rcases h4 with ⟨a, R4, v, hx, rfl, ⟨r, rfl, rfl, hin⟩, hr⟩ | ⟨err, R4, v, hx, rfl, ⟨s1, k1, d1, A1, n1, c1, rfl⟩, hr⟩
          · have HX3 : Hid (X = bracedLoop partX f ([] ++ [r.bare]) R4) := by
              have := HX2.out
              rw [hx] at this
              exact this
            have HLT := Lib.hid (Nat.lt_of_lt_of_le (part_len hx) HRL.out)
            have HIN := Lib.hid (hin.move (Q := Out w.heap.size (.slice A 0 c)) (Move.of _ fun b _ hp => ⟨Nat.le_trans HZ.out.1 hp, fun e => by have := HZ.out.2 b e; omega⟩))
            have HR4 := Lib.hid hr
            have hbase : w.heap.size ≤ w4.heap.size := HW4.out.size
            have HBX := Lib.hid (Box.new w4 73 r.cells.toArray)
            clear hx hin hr HX2 HRL
            have hown0 := HOWN4.out
            obtain ⟨use, pk, pd, rA, rc, rs⟩ := r
            unfold Par.val
            unfold Par.cells at HBX
            dsimp only at HBX ⊢
            go_upto_region 10 with (fail)
            have hown := hown0.alloc (.cells (Par.cells ⟨use, pk, pd, rA, rc, rs⟩).toArray 73)
            have HG5 := Lib.hid (grow_alloc HW4.out (.cells (Par.cells ⟨use, pk, pd, rA, rc, rs⟩).toArray 73))
            have HR5 := Lib.hid (HR4.out.alloc (.cells (Par.cells ⟨use, pk, pd, rA, rc, rs⟩).toArray 73))
            have hm5 : Move (Out w.heap.size (.slice A 0 c)) (Out w.heap.size (.slice A 0 c)) w4 (w4.alloc (.cells (Par.cells ⟨use, pk, pd, rA, rc, rs⟩).toArray 73)) := Move.grown (World.grownBy_alloc w4 _ none) fun b hb hp => ⟨hp, by simp⟩
            have HALL5 : Hid (∀ r ∈ ([] : List Par), ParP (Out w.heap.size (.slice A 0 c)) (w4.alloc (.cells (Par.cells ⟨use, pk, pd, rA, rc, rs⟩).toArray 73)) r) := fun r hr => (HALL4.out r hr).move hm5
            have HIN5 := Lib.hid (HIN.out.move hm5)
            have hbase5 : w.heap.size ≤ (w4.alloc (.cells (Par.cells ⟨use, pk, pd, rA, rc, rs⟩).toArray 73)).heap.size := by simp; omega
            unfold Par.cells at hown HG5 HR5 HALL5 HIN5 hbase5
            dsimp only at hown HG5 HR5 HALL5 HIN5 hbase5
            generalize w4.alloc (.cells #[.string use, .int .i64 pk, .int .i64 pd, .slice rA rs.length rc] 73) = w5 at *
            obtain ⟨q0, q1, q2, q3, z0, z1, z2, z3, hl⟩ := box4 HBX.out
            clear hm5 hown0 HALL4 HIN HOWN4 HW4 HR4 hbase
            go_wp2_with (at_builtin; go_loud (refine wpList_append_lit_at _ rfl (.tmp 27) (.tmp 29) _ rfl w.heap.size 73 i0 _ 4 56 Tryz.underlying52 hi hz0 hz1 hz2 rfl (by omega) _ _ _ rfl hown _ _ 1 1 rfl rfl ?k1 ?k2 ?k3 ?k4 ?_))
            case k1 => simp [Value.oneCell']
            case k2 => unfold maxLen; omega
            case k3 => omega
            case k4 => exact hbase5
            · intro v' w6 hown6 hg6 hv6
              obtain ⟨hw6, hr6⟩ := row_push HR5.out HG5.out HGL.out hown _ hg6
              have hmp := move_push (B := w.heap.size) _ hg6 hv6
              have HN : Hid (ParsSt w g E X M v' w6) := by
                have h1 := HB.out; have h2 := HLT.out
                refine ⟨([] : List Par) ++ [⟨use, pk, pd, rA, rc, rs⟩], f, R4, by rw [List.map_append]; exact HX3.out, by omega, ?_, hw6, hr6, by rw [List.length_append, List.length_singleton]; (simp only [List.length_nil]; omega), ?_⟩
                · rw [List.length_append, List.flatMap_append]
                  exact hown6
                · intro x hx
                  rcases List.mem_append.1 hx with hx | hx
                  · exact (HALL5.out x hx).move hmp
                  · obtain rfl : x = ⟨use, pk, pd, rA, rc, rs⟩ := by simpa using hx
                    exact HIN5.out.move hmp
              obtain ⟨A6, c6, rfl, hc6, _⟩ := own_form hown6
              clear hown6 hg6 hv6 hw6 hr6 hmp hown HALL5 HIN5
              have HB2 := Lib.hid (show 0 < M + 1 by have := HB.out; omega)
              go_wp2
              go_roundw
              case rel => exact HN
              case measure =>
                have := HB2.out
                show M + 1 - (0 + 1) < M + 1 - 0
                omega
          · have HX3 : Hid (X = .error (err, R4)) := by
              have := HX2.out
              rw [hx] at this
              exact this
            have HR4 := Lib.hid (hr.step ((Below.refl _ _).alloc (Nat.le_refl _) (.cells #[.string s1, .int .i64 k1, .int .i64 d1, .slice A1 n1 c1] 73)))
            have HW5 := Lib.hid (grow_alloc HW4.out (.cells #[.string s1, .int .i64 k1, .int .i64 d1, .slice A1 n1 c1] 73))
            clear hx hr HX2
            go_wp2
            go_ret2
            exact ⟨HW5.out, .inr ⟨err, R4, _, HX3.out, rfl, ⟨none, 0, 0, rfl⟩, HR4.out⟩⟩
        | cons a0 l0 =>
          obtain ⟨L, hL⟩ : ∃ L, L = a0 :: l0 := ⟨_, rfl⟩
          have hLn : 0 < L.length := by rw [hL]; simp
          have hLe : (L.map Par.bare).isEmpty = false := by rw [hL]; rfl
          rw [← hL] at HX1 HOWN2 HALL2 HB hll ⊢
          have HSC := Lib.hid (sign_any h2' ⟨#[44]⟩)
          rw [show ((⟨#[44]⟩ : ByteArray)).data.toList = [44] from rfl] at HSC
          have HX2 : Hid (X = bracedNext partX f (L.map Par.bare) (partX (restL (sgL [44] R') R'))) := by
            have := HX1.out
            rw [hLe] at this
            exact this
          have hLI : (0 : Int) < (L.length : Int) := by omega
          have HLE : Hid (L.length = (a0 :: l0).length) := congrArg List.length hL
          clear HX1 hL hLe h2'
          go_wp2_with fail
          refine HSC.out.mono ?_
          rintro e w3 ⟨rfl, h3, hg3⟩
          have HOWN3 := Lib.hid (own_ne' HOWN2.out hg3 HGL.out)
          have HW3 := Lib.hid (only_trans HW2.out hg3)
          have HALL3 : Hid (∀ r ∈ L, ParP (Out w.heap.size (.slice A L.length c)) w3 r) := fun r hr => (HALL2.out r hr).move (Move.grown hg3 fun b _ hp => ⟨hp, fun e => by have := Option.some.inj e; have := hp.1; have := HGL.out; omega⟩)
          clear hg3 HSC HOWN2 HW2 HALL2
          have HRL := Lib.hid (rest_le (sgL [44] R') R')
          have HON := Lib.hid (part_any hE h3)
          go_wp2_with fail
          refine HON.out.mono ?_
          rintro e w4 ⟨hg4, h4⟩
          have HOWN4 := Lib.hid (own_ne' HOWN3.out hg4 HGL.out)
          have HW4 := Lib.hid (only_trans HW3.out hg4)
          have HALL4 : Hid (∀ r ∈ L, ParP (Out w.heap.size (.slice A L.length c)) w4 r) := fun r hr => (HALL3.out r hr).move (Move.grown hg4 fun b _ hp => ⟨hp, fun e => by have := Option.some.inj e; have := hp.1; have := HGL.out; omega⟩)
          have HZ : Hid (w.heap.size ≤ w3.heap.size ∧ ∀ b, (Value.slice A L.length c).ownBlock = some b → b < w3.heap.size) := ⟨HW3.out.size, fun b hb => (HOWN3.out.lt b hb).2⟩
          clear hg4 HON HOWN3 HW3 HALL3
          rcases h4 with ⟨a, R4, v, hx, rfl, ⟨r, rfl, rfl, hin⟩, hr⟩ | ⟨err, R4, v, hx, rfl, ⟨s1, k1, d1, A1, n1, c1, rfl⟩, hr⟩
          · have HX3 : Hid (X = bracedLoop partX f ((L.map Par.bare) ++ [r.bare]) R4) := by
              have := HX2.out
              rw [hx] at this
              exact this
            have HLT := Lib.hid (Nat.lt_of_lt_of_le (part_len hx) HRL.out)
            have HIN := Lib.hid (hin.move (Q := Out w.heap.size (.slice A L.length c)) (Move.of _ fun b _ hp => ⟨Nat.le_trans HZ.out.1 hp, fun e => by have := HZ.out.2 b e; omega⟩))
            have HR4 := Lib.hid hr
            have hbase : w.heap.size ≤ w4.heap.size := HW4.out.size
            have HBX := Lib.hid (Box.new w4 73 r.cells.toArray)
            clear hx hin hr HX2 HRL
            have hown0 := HOWN4.out
            obtain ⟨use, pk, pd, rA, rc, rs⟩ := r
            unfold Par.val
            unfold Par.cells at HBX
            dsimp only at HBX ⊢
            go_upto_region 10 with (fail)
            have hown := hown0.alloc (.cells (Par.cells ⟨use, pk, pd, rA, rc, rs⟩).toArray 73)
            have HG5 := Lib.hid (grow_alloc HW4.out (.cells (Par.cells ⟨use, pk, pd, rA, rc, rs⟩).toArray 73))
            have HR5 := Lib.hid (HR4.out.alloc (.cells (Par.cells ⟨use, pk, pd, rA, rc, rs⟩).toArray 73))
            have hm5 : Move (Out w.heap.size (.slice A L.length c)) (Out w.heap.size (.slice A L.length c)) w4 (w4.alloc (.cells (Par.cells ⟨use, pk, pd, rA, rc, rs⟩).toArray 73)) := Move.grown (World.grownBy_alloc w4 _ none) fun b hb hp => ⟨hp, by simp⟩
            have HALL5 : Hid (∀ r ∈ L, ParP (Out w.heap.size (.slice A L.length c)) (w4.alloc (.cells (Par.cells ⟨use, pk, pd, rA, rc, rs⟩).toArray 73)) r) := fun r hr => (HALL4.out r hr).move hm5
            have HIN5 := Lib.hid (HIN.out.move hm5)
            have hbase5 : w.heap.size ≤ (w4.alloc (.cells (Par.cells ⟨use, pk, pd, rA, rc, rs⟩).toArray 73)).heap.size := by simp; omega
            unfold Par.cells at hown HG5 HR5 HALL5 HIN5 hbase5
            dsimp only at hown HG5 HR5 HALL5 HIN5 hbase5
            generalize w4.alloc (.cells #[.string use, .int .i64 pk, .int .i64 pd, .slice rA rs.length rc] 73) = w5 at *
            obtain ⟨q0, q1, q2, q3, z0, z1, z2, z3, hl⟩ := box4 HBX.out
            clear hm5 hown0 HALL4 HIN HOWN4 HW4 HR4 hbase
            go_wp2_with (at_builtin; go_loud (refine wpList_append_lit_at _ rfl (.tmp 27) (.tmp 29) _ rfl w.heap.size 73 i0 _ 4 56 Tryz.underlying52 hi hz0 hz1 hz2 rfl (by omega) _ _ _ rfl hown _ _ 1 1 rfl rfl ?c1 ?c2 ?c3 ?c4 ?_))
            case c1 => simp [Value.oneCell']
            case c2 => unfold maxLen; omega
            case c3 => omega
            case c4 => exact hbase5
            · intro v' w6 hown6 hg6 hv6
              obtain ⟨hw6, hr6⟩ := row_push HR5.out HG5.out HGL.out hown _ hg6
              have hmp := move_push (B := w.heap.size) _ hg6 hv6
              have HN : Hid (ParsSt w g E X M v' w6) := by
                have h1 := HB.out; have h2 := HLT.out
                refine ⟨L ++ [⟨use, pk, pd, rA, rc, rs⟩], f, R4, by rw [List.map_append]; exact HX3.out, by omega, ?_, hw6, hr6, by rw [List.length_append, List.length_singleton]; omega, ?_⟩
                · rw [List.length_append, List.flatMap_append]
                  exact hown6
                · intro x hx
                  rcases List.mem_append.1 hx with hx | hx
                  · exact (HALL5.out x hx).move hmp
                  · obtain rfl : x = ⟨use, pk, pd, rA, rc, rs⟩ := by simpa using hx
                    exact HIN5.out.move hmp
              obtain ⟨A6, c6, rfl, hc6, _⟩ := own_form hown6
              clear hown6 hg6 hv6 hw6 hr6 hmp hown HALL5 HIN5
              have HB2 := Lib.hid (show L.length < M + 1 by have := HB.out; omega)
              go_wp2
              go_roundw
              case rel => exact HN
              case measure =>
                have := HB2.out
                show M + 1 - (L.length + 1) < M + 1 - (a0 :: l0).length
                rw [← HLE.out]; omega
          · have HX3 : Hid (X = .error (err, R4)) := by
              have := HX2.out
              rw [hx] at this
              exact this
            have HR4 := Lib.hid (hr.step ((Below.refl _ _).alloc (Nat.le_refl _) (.cells #[.string s1, .int .i64 k1, .int .i64 d1, .slice A1 n1 c1] 73)))
            have HW5 := Lib.hid (grow_alloc HW4.out (.cells #[.string s1, .int .i64 k1, .int .i64 d1, .slice A1 n1 c1] 73))
            clear hx hr HX2
            go_wp2
            go_ret2
            exact ⟨HW5.out, .inr ⟨err, R4, _, HX3.out, rfl, ⟨none, 0, 0, rfl⟩, HR4.out⟩⟩
      · rw [hsb] at HSB
        have HX1 : Hid (X = .ok (l.map Par.bare, R'.tail)) := by
          have := HX.out
          rw [bracedLoop, if_pos hsb] at this
          exact this
        clear hsb HX
        go_wp2_with fail
        refine HSB.out.mono ?_
        rintro e w2 ⟨rfl, h2, hg2⟩
        have HOWN2 := Lib.hid (own_ne' HOWN.out hg2 HGL.out)
        have HW2 := Lib.hid (only_trans HW.out hg2)
        have HALL2 : Hid (∀ r ∈ l, ParP (fun b => w.heap.size ≤ b) w2 r) := fun r hr => (HALL.out r hr).move (Move.grown hg2 fun b _ hp => ⟨hp.1, fun e => by have := Option.some.inj e; have := hp.1; have := HGL.out; omega⟩)
        have HR2 := Lib.hid h2
        clear h2 hg2 HSB HOWN HW HALL
        go_wp2
        go_ret2
        obtain ⟨A3, c3, hv3, hc3, _⟩ := own_form HOWN2.out
        refine ⟨HW2.out, .inl ⟨_, R'.tail, _, HX1.out, rfl, ⟨A, c, l, rfl, rfl, LiesP.of_own HOWN2.out (fun b o _ _ hb => hb), HALL2.out, by cases hv3; exact hc3, own_cap HOWN2.out⟩, HR2.out⟩⟩
end

end Go.Proofs.YtfklajkmikanbaaGreatDoor.LandedP
