/- What the document's own answer for instr.Read gives of any bytes. -/
import Derived.Test.YtdlhadmafcgaiaaRead
import Derived.IntWalk
namespace Go.Proofs.Ytdlhadmafcgaiaa
open Go.RowKit

/-- A number put together from byte 7 - 0 down to byte 7 - (d - 1). -/
def kay (f : Nat → UInt8) : Nat → Int
  | 0 => 0
  | d + 1 => kay f d * 256 + (f (7 - d)).toNat

theorem kay_bd (f : Nat → UInt8) (d : Nat) (h : d ≤ 3) : 0 ≤ kay f d ∧ kay f d < 16777216 := by
  have b5 := byte_lt (f 5)
  have b6 := byte_lt (f 6)
  have b7 := byte_lt (f 7)
  have e1 : kay f 1 = 0 * 256 + ((f 7).toNat : Int) := rfl
  have e2 : kay f 2 = (0 * 256 + ((f 7).toNat : Int)) * 256 + (f 6).toNat := rfl
  have e3 : kay f 3 = ((0 * 256 + ((f 7).toNat : Int)) * 256 + (f 6).toNat) * 256 + (f 5).toNat := rfl
  rcases (show d = 0 ∨ d = 1 ∨ d = 2 ∨ d = 3 from by omega) with rfl | rfl | rfl | rfl
  · simp [kay]
  · rw [e1]
    omega
  · rw [e2]
    omega
  · rw [e3]
    omega

theorem kay_four (f : Nat → UInt8) : kay f 4 = ((f 4).toNat : Int) + (f 5).toNat * 256 + (f 6).toNat * 65536 + (f 7).toNat * 16777216 := by
  have e : kay f 4 = (((0 * 256 + ((f 7).toNat : Int)) * 256 + (f 6).toNat) * 256 + (f 5).toNat) * 256 + (f 4).toNat := rfl
  rw [e]
  omega

theorem kay_or (f : Nat → UInt8) (m : Nat) (h4 : 4 ≤ m) (h7 : m ≤ 7) : bits .or .u32 (kay f (7 - m) * 256 % 4294967296) ((f m).toNat % 4294967296) = kay f (7 - (m - 1)) := by
  obtain ⟨h0, h2⟩ := kay_bd f (7 - m) (by omega)
  have hb := byte_lt (f m)
  obtain ⟨q, hq⟩ := Int.eq_ofNat_of_zero_le h0
  have e1 : kay f (7 - m) * 256 % 4294967296 = ((q * 2 ^ 8 : Nat) : Int) := by omega
  have e2 : ((f m).toNat : Int) % 4294967296 = ((f m).toNat : Int) := by omega
  rw [show 7 - (m - 1) = (7 - m) + 1 from by omega]
  show _ = kay f (7 - m) * 256 + (f (7 - (7 - m))).toNat
  rw [show 7 - (7 - m) = m from by omega, e1, e2, or_u32 _ _ (by omega) (by omega), Nat.or_comm, or_add _ _ 8 (by omega)]
  omega

set_option maxRecDepth 100000 in
set_option maxHeartbeats 1000000 in
theorem refRead_any (A : Option Addr) (n c : Nat) (l : List UInt8) (w : World) (hl : Lies w w.heap.size 1 A n (bytesV l)) (hn : n ≤ 35184372088832) :
    Calls Try.prog 9 #[.slice A n c] w (NewRow2 36 4 (readOf l).length (cellsOf (readOf l)) (readCode l) w) := by
  obtain ⟨i0, hi, hz0, hz1, hz2⟩ := info_parts Try.info36
  have hln : l.length = n := by have := hl.1; rw [bytesV_length] at this; omega
  by_cases h8 : n % 8 = 0
  · have HR : Hid (readOf l = insTake l (n / 8)) := by unfold Hid readOf; rw [hln, if_pos h8]
    have HC : Hid (readCode l = 0) := by unfold Hid readCode; rw [hln, if_pos h8]
    have hb8 : (((n : Int) % 8) != 0) = false := by simp; omega
    have H8 := Lib.hid h8
    have HL := Lib.hid hln
    clear h8 hln
    go_enter Try.func9, Try.ntmps9
    go_wp2
    go_loopw [4, 5] (fun v i wr => ∃ k : Nat, k ≤ n / 8 ∧ i = .int .i64 ((k : Int) * 8) ∧ wr.ownsRow w.heap.size 36 4 v k (cellsOf (insTake l k)) ∧ Below w.heap.size w wr) (fun _ i _ => n - (intOf i).toNat)
    case atStart => exact ⟨0, Nat.zero_le _, rfl, World.ownsRow_nil _ _ _ _, Below.refl _ _⟩
    case round =>
      obtain ⟨k, hk, rfl, hown, hnx⟩ := hrel
      obtain ⟨wo, rfl⟩ : ∃ wo : World, wo = wr := ⟨_, rfl⟩
      have hsw := hnx.size
      by_cases hlt : k < n / 8
      · have hlt8 : k * 8 + 8 ≤ n := by omega
        obtain ⟨b, o, rfl, hb, hcell⟩ := hl.2 (by omega)
        have hcl : ∀ j, j < 8 → wo.cell? ⟨b, o + (k * 8 + j), none⟩ = some (byteV (l.getD (8 * k + j) 0)) := by
          intro j hj
          have h1 := hcell (8 * k + j) _ (byte_at l (8 * k + j) (by have := HL.out; omega))
          rw [show o + (8 * k + j) = o + (k * 8 + j) from by omega] at h1
          exact (hnx.cell (p := ⟨b, o + (k * 8 + j), none⟩) hb).trans h1
        have hbw : b < wo.heap.size := by omega
        have HCL := Lib.hid hcl
        clear hcl hcell
        obtain ⟨f, hf⟩ : ∃ f : Nat → UInt8, f = fun j => l.getD (8 * k + j) 0 := ⟨_, rfl⟩
        have e0 : wo.cell? ⟨b, o + k * 8, none⟩ = some (byteV (f 0)) := by rw [hf]; exact HCL.out 0 (by omega)
        have e1 : wo.cell? ⟨b, o + (k * 8 + 1), none⟩ = some (byteV (f 1)) := by rw [hf]; exact HCL.out 1 (by omega)
        have e2 : wo.cell? ⟨b, o + (k * 8 + 2), none⟩ = some (byteV (f 2)) := by rw [hf]; exact HCL.out 2 (by omega)
        have e3 : wo.cell? ⟨b, o + (k * 8 + 3), none⟩ = some (byteV (f 3)) := by rw [hf]; exact HCL.out 3 (by omega)
        have HF := Lib.hid hf
        clear hf
        unfold byteV at e0 e1 e2 e3
        go_wp2
        have w1 : IntKind.i64.wrap ((k : Int) * 8 + 1) = (k : Int) * 8 + 1 := IntWalk.i64_in _ (by omega)
        have w2 : IntKind.i64.wrap ((k : Int) * 8 + 2) = (k : Int) * 8 + 2 := IntWalk.i64_in _ (by omega)
        have w3 : IntKind.i64.wrap ((k : Int) * 8 + 3) = (k : Int) * 8 + 3 := IntWalk.i64_in _ (by omega)
        have p0 : (0 : Int) ≤ (k : Int) * 8 := by omega
        have p1 : (0 : Int) ≤ (k : Int) * 8 + 1 := by omega
        have p2 : (0 : Int) ≤ (k : Int) * 8 + 2 := by omega
        have p3 : (0 : Int) ≤ (k : Int) * 8 + 3 := by omega
        have q0 : (k : Int) * 8 < (n : Int) := by omega
        have q1 : (k : Int) * 8 + 1 < (n : Int) := by omega
        have q2 : (k : Int) * 8 + 2 < (n : Int) := by omega
        have q3 : (k : Int) * 8 + 3 < (n : Int) := by omega
        have t0 : ((k : Int) * 8).toNat = k * 8 := by omega
        have t1 : ((k : Int) * 8 + 1).toNat = k * 8 + 1 := by omega
        have t2 : ((k : Int) * 8 + 2).toNat = k * 8 + 2 := by omega
        have t3 : ((k : Int) * 8 + 3).toNat = k * 8 + 3 := by omega
        go_region
        clear e0 e1 e2 e3 w1 w2 w3 p0 p1 p2 p3 q0 q1 q2 q3 t0 t1 t2 t3
        go_wp2
        go_loopw [7] (fun kv wr => ∃ m : Nat, 3 ≤ m ∧ m ≤ 7 ∧ kv = .int .i64 m ∧ Box wr wo.heap.size 36 #[.int .i64 ((f 0).toNat + (f 1).toNat * 256), .int .i64 (f 2).toNat, .int .i64 (f 3).toNat, .int .u32 (kay f (7 - m))] ∧ Below wo.heap.size wo wr) (fun kv _ => (intOf kv).toNat)
        case atStart =>
          refine ⟨7, by omega, by omega, rfl, ?_, ((Below.refl _ _).alloc (Nat.le_refl _) _).drew⟩
          simp only [code_of, wrap64_byte']
          exact (Box.new _ _ _).drew
        case round =>
          obtain ⟨m, hm3, hm7, rfl, hbox, hbel⟩ := hrel
          by_cases hm : 4 ≤ m
          · have ew : wr.cell? ⟨b, o + (k * 8 + m), none⟩ = some (byteV (f m)) := by
              rw [HF.out, hbel.cell (p := ⟨b, o + (k * 8 + m), none⟩) hbw]
              exact HCL.out m (by omega)
            unfold byteV at ew
            have w0 : IntKind.i64.wrap ((k : Int) * 8 + (m : Int)) = (k : Int) * 8 + (m : Int) := IntWalk.i64_in _ (by omega)
            have p0 : (0 : Int) ≤ (k : Int) * 8 + (m : Int) := by omega
            have q0 : (k : Int) * 8 + (m : Int) < (n : Int) := by omega
            have t0 : ((k : Int) * 8 + (m : Int)).toNat = k * 8 + m := by omega
            have x3 : wr.cell? ⟨wo.heap.size, 3, none⟩ = some (.int .u32 (kay f (7 - m))) := hbox.cell 3
            have z3 : wr.frozen? ⟨wo.heap.size, 3, none⟩ = false := hbox.free 3
            have hgi := hbox.lt
            have HB := Lib.hid hbox
            have HL2 := Lib.hid hbel
            clear hbox hbel
            go_wp2
            go_region
            go_wp2
            go_roundw
            case rel =>
              refine ⟨m - 1, by omega, by omega, by congr 1; omega, ?_, ?_⟩
              · rw [← kay_or f m hm hm7]
                exact (HB.out.set 3 _).drew
              · exact (HL2.out.setCell (p := ⟨wo.heap.size, 3, none⟩) (Nat.le_refl _) _).drew
            case measure => simp [intOf]; omega
          · obtain rfl : m = 3 := by omega
            have x0 := hbox.cell 0
            have x1 := hbox.cell 1
            have x2 := hbox.cell 2
            have x3 := hbox.cell 3
            simp only [Nat.reduceSub] at x3
            have hown2 := own_below hown hbel
            have hnx2 : Below w.heap.size w wr := hnx.trans (hbel.mono hsw)
            have hsz := hbel.size
            clear hown hbel hbox
            go_wp2_with (at_builtin; go_loud (refine wpList_append_lit _ rfl (.tmp 60) (.tmp 62) _ rfl w.heap.size 36 i0 _ 4 32 Try.underlying22 hi hz0 hz1 hz2 rfl (by omega) _ _ _ rfl hown2 _ _ 1 1 rfl rfl ?c1 ?c2 ?c3 ?c4 ?_))
            case c1 => exact ⟨rfl, rfl, rfl, rfl⟩
            case c2 => unfold maxLen; omega
            case c3 => omega
            case c4 => omega
            · intro v' w' hown3 hg3
              have hnx3 : Below w.heap.size w w' := below_grown (hnx2.alloc (by omega) _) (hown2.alloc _) (Nat.le_refl _) (by simp; omega) hg3
              have hown4 : w'.ownsRow w.heap.size 36 4 v' (k + 1) (cellsOf (insTake l (k + 1))) := by
                have e : insAt l k = ⟨((f 0).toNat : Int) + (f 1).toNat * 256, (f 2).toNat, (f 3).toNat, kay f 4⟩ := by rw [kay_four, HF.out]; rfl
                rw [insTake_step, e]
                exact hown3
              clear hg3 hown2 hnx2 hown3 x0 x1 x2 x3
              go_wp2
              go_roundw
              case rel => exact ⟨k + 1, by omega, by go_num, hown4, hnx3⟩
              case measure => simp [intOf]; omega
      · obtain rfl : k = n / 8 := by omega
        have hdn : (n : Int) ≤ (n / 8 : Nat) * 8 := by have := H8.out; omega
        go_wp2
        go_ret2
        refine ⟨u4, ?_, ?_, hnx⟩
        · rw [HC.out]
          rfl
        · rw [HR.out, insTake_len]
          exact hown
  · have HR : Hid (readOf l = []) := by unfold Hid readOf; rw [hln, if_neg h8]
    have HC : Hid (readCode l = 2) := by unfold Hid readCode; rw [hln, if_neg h8]
    have hb8 : (((n : Int) % 8) != 0) = true := by simp; omega
    have H8 := Lib.hid h8
    clear h8 hln
    go_enter Try.func9, Try.ntmps9
    go_wp2
    go_ret2
    refine ⟨.slice none 0 0, ?_, ?_, Below.refl _ _⟩
    · rw [HC.out]
      rfl
    · rw [HR.out]
      exact World.ownsRow_nil _ _ _ _

end Go.Proofs.Ytdlhadmafcgaiaa
