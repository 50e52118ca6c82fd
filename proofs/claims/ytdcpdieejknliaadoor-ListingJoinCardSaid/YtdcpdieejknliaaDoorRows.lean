/-
  NARROWER THAN 'FOR EVERY INPUT', by the rows' own cells (each row's printed sentence says how): ListingTells: laid · ListingWrong: laid · ListingJoin: laid.
  DERIVED. THE GIVEN ROWS OF THIS SEAT. 3 by the template 'for every input the law returns true; each argument reads behind the call as it read before'; 0 by the template 'total and deterministic' (their statements: YtdcpdieejknliaaDoorTotals.lean).
  GIVEN WITH THE SEED: the statements are not yours to turn. If you find one false, say at which input.
  Laid BY PROGRAM, IN A SANDBOX (cutbox-rows.mjs): the forced cells as the released guide's own fill.sh prints them over the translation 5529b45ce8e7bb3d… (all of the seat's roots in one cut). By AI agents, Wed Nov 11 2026. No macro, syntax, notation, axiom, sorry.
-/
import Derived.Test.YtdcpdieejknliaaDoorChecked
import GoSem.Claim
import GoSem.ClaimJoined
import GoSem.ClaimMapViews
import Derived.JoinedTies
import Derived.KernelRfl
namespace Go.Proofs.YtdcpdieejknliaaDoor
/- THE CELL 'sum', in the pinned program and in every row, IS THE sha256 OF THE DUMP (.gsa) THAT YtdcpdieejknliaaDoorProg.lean LOADS. Nothing in Lean hashes anything: it is a label: what it is worth is what the hold of that sum in a sandbox is worth. -/
noncomputable def Tryd.pinned : Pinned := { name := "ytdcpdieejknliaadoor", sum := "5529b45ce8e7bb3d09c15b1f0bf0ddeca19c1a27b93484b18190d03e9317d00e", checked := Tryd.checked }
namespace Rows
def none {H : Type} : Left H := { results := [], args := [] }

/- WHAT THE LISTED PACKAGE-LEVEL VARIABLES READ AS WHEN THE CALL BEGINS. Each datum BY PROGRAM (the guide's laid-datum.mjs) off the statement by which the dump's own 'gosem.cut.vars' lays the variable. In a bare row this is a premise. The card (YtdcpdieejknliaaDoorCards.lean) ties it to the program's text. -/
def laid_math_bits_deBruijn32tab {H : Type} : DataW H := .agg [.lit (.int .u8 0), .lit (.int .u8 1), .lit (.int .u8 28), .lit (.int .u8 2), .lit (.int .u8 29), .lit (.int .u8 14), .lit (.int .u8 24), .lit (.int .u8 3), .lit (.int .u8 30), .lit (.int .u8 22), .lit (.int .u8 20), .lit (.int .u8 15), .lit (.int .u8 25), .lit (.int .u8 17), .lit (.int .u8 4), .lit (.int .u8 8), .lit (.int .u8 31), .lit (.int .u8 27), .lit (.int .u8 13), .lit (.int .u8 23), .lit (.int .u8 21), .lit (.int .u8 19), .lit (.int .u8 16), .lit (.int .u8 7), .lit (.int .u8 26), .lit (.int .u8 12), .lit (.int .u8 18), .lit (.int .u8 6), .lit (.int .u8 11), .lit (.int .u8 5), .lit (.int .u8 10), .lit (.int .u8 9)]
def laid_math_bits_deBruijn64tab {H : Type} : DataW H := .agg [.lit (.int .u8 0), .lit (.int .u8 1), .lit (.int .u8 56), .lit (.int .u8 2), .lit (.int .u8 57), .lit (.int .u8 49), .lit (.int .u8 28), .lit (.int .u8 3), .lit (.int .u8 61), .lit (.int .u8 58), .lit (.int .u8 42), .lit (.int .u8 50), .lit (.int .u8 38), .lit (.int .u8 29), .lit (.int .u8 17), .lit (.int .u8 4), .lit (.int .u8 62), .lit (.int .u8 47), .lit (.int .u8 59), .lit (.int .u8 36), .lit (.int .u8 45), .lit (.int .u8 43), .lit (.int .u8 51), .lit (.int .u8 22), .lit (.int .u8 53), .lit (.int .u8 39), .lit (.int .u8 33), .lit (.int .u8 30), .lit (.int .u8 24), .lit (.int .u8 18), .lit (.int .u8 12), .lit (.int .u8 5), .lit (.int .u8 63), .lit (.int .u8 55), .lit (.int .u8 48), .lit (.int .u8 27), .lit (.int .u8 60), .lit (.int .u8 41), .lit (.int .u8 37), .lit (.int .u8 16), .lit (.int .u8 46), .lit (.int .u8 35), .lit (.int .u8 44), .lit (.int .u8 21), .lit (.int .u8 52), .lit (.int .u8 32), .lit (.int .u8 23), .lit (.int .u8 11), .lit (.int .u8 54), .lit (.int .u8 26), .lit (.int .u8 40), .lit (.int .u8 15), .lit (.int .u8 34), .lit (.int .u8 20), .lit (.int .u8 31), .lit (.int .u8 10), .lit (.int .u8 25), .lit (.int .u8 14), .lit (.int .u8 19), .lit (.int .u8 9), .lit (.int .u8 13), .lit (.int .u8 8), .lit (.int .u8 7), .lit (.int .u8 6)]
def laid_internal_strconv_uint64pow10 {H : Type} : DataW H := .agg [.lit (.int .u64 1), .lit (.int .u64 10), .lit (.int .u64 100), .lit (.int .u64 1000), .lit (.int .u64 10000), .lit (.int .u64 100000), .lit (.int .u64 1000000), .lit (.int .u64 10000000), .lit (.int .u64 100000000), .lit (.int .u64 1000000000), .lit (.int .u64 10000000000), .lit (.int .u64 100000000000), .lit (.int .u64 1000000000000), .lit (.int .u64 10000000000000), .lit (.int .u64 100000000000000), .lit (.int .u64 1000000000000000), .lit (.int .u64 10000000000000000), .lit (.int .u64 100000000000000000), .lit (.int .u64 1000000000000000000), .lit (.int .u64 10000000000000000000)]
def laid_strconv_ErrRange {H : Type} : DataW H := .iface "*errors.errorString" (.ptr (.agg [.lit (.string [118, 97, 108, 117, 101, 32, 111, 117, 116, 32, 111, 102, 32, 114, 97, 110, 103, 101])]))
def laid_strconv_ErrSyntax {H : Type} : DataW H := .iface "*errors.errorString" (.ptr (.agg [.lit (.string [105, 110, 118, 97, 108, 105, 100, 32, 115, 121, 110, 116, 97, 120])]))
def laid_tipstaff_listing_names {H : Type} : DataW H := .agg [.agg [.lit (.int .i64 0), .lit (.string [108, 100, 105, 109, 109])], .agg [.lit (.int .i64 1), .lit (.string [108, 100, 120, 105, 109, 109])], .agg [.lit (.int .i64 32), .lit (.string [108, 100, 97, 98, 115])], .agg [.lit (.int .i64 128), .lit (.string [108, 100, 108, 101, 110])], .agg [.lit (.int .i64 129), .lit (.string [108, 100, 120, 108, 101, 110])], .agg [.lit (.int .i64 2), .lit (.string [115, 116])], .agg [.lit (.int .i64 3), .lit (.string [115, 116, 120])], .agg [.lit (.int .i64 96), .lit (.string [108, 100, 109, 101, 109])], .agg [.lit (.int .i64 97), .lit (.string [108, 100, 120, 109, 101, 109])], .agg [.lit (.int .i64 4), .lit (.string [97, 100, 100, 107])], .agg [.lit (.int .i64 12), .lit (.string [97, 100, 100, 120])], .agg [.lit (.int .i64 20), .lit (.string [115, 117, 98, 107])], .agg [.lit (.int .i64 28), .lit (.string [115, 117, 98, 120])], .agg [.lit (.int .i64 36), .lit (.string [109, 117, 108, 107])], .agg [.lit (.int .i64 44), .lit (.string [109, 117, 108, 120])], .agg [.lit (.int .i64 52), .lit (.string [100, 105, 118, 107])], .agg [.lit (.int .i64 60), .lit (.string [100, 105, 118, 120])], .agg [.lit (.int .i64 68), .lit (.string [111, 114, 107])], .agg [.lit (.int .i64 76), .lit (.string [111, 114, 120])], .agg [.lit (.int .i64 84), .lit (.string [97, 110, 100, 107])], .agg [.lit (.int .i64 92), .lit (.string [97, 110, 100, 120])], .agg [.lit (.int .i64 164), .lit (.string [120, 111, 114, 107])], .agg [.lit (.int .i64 172), .lit (.string [120, 111, 114, 120])], .agg [.lit (.int .i64 100), .lit (.string [108, 115, 104, 107])], .agg [.lit (.int .i64 108), .lit (.string [108, 115, 104, 120])], .agg [.lit (.int .i64 116), .lit (.string [114, 115, 104, 107])], .agg [.lit (.int .i64 124), .lit (.string [114, 115, 104, 120])], .agg [.lit (.int .i64 132), .lit (.string [110, 101, 103])], .agg [.lit (.int .i64 7), .lit (.string [116, 97, 120])], .agg [.lit (.int .i64 135), .lit (.string [116, 120, 97])], .agg [.lit (.int .i64 5), .lit (.string [106, 97])], .agg [.lit (.int .i64 21), .lit (.string [106, 101, 113, 107])], .agg [.lit (.int .i64 29), .lit (.string [106, 101, 113, 120])], .agg [.lit (.int .i64 37), .lit (.string [106, 103, 116, 107])], .agg [.lit (.int .i64 45), .lit (.string [106, 103, 116, 120])], .agg [.lit (.int .i64 53), .lit (.string [106, 103, 101, 107])], .agg [.lit (.int .i64 61), .lit (.string [106, 103, 101, 120])], .agg [.lit (.int .i64 69), .lit (.string [106, 115, 101, 116, 107])], .agg [.lit (.int .i64 77), .lit (.string [106, 115, 101, 116, 120])], .agg [.lit (.int .i64 6), .lit (.string [114, 101, 116, 107])], .agg [.lit (.int .i64 22), .lit (.string [114, 101, 116, 97])]]

/-- 'tipstafflaw5.ListingTells': WHATEVER THE INPUT: true; the input reads as it did. -/
def listingTellsSpec : ChangeSpec := { name := "listingTells", fn := fun _ => fun
  | [d1, d2] => { results := [.lit (.bool true)], args := [d1, d2] }
  | _ => none }
def listingTellsRow : OpenClaim := { program := "ytdcpdieejknliaadoor", sum := "5529b45ce8e7bb3d09c15b1f0bf0ddeca19c1a27b93484b18190d03e9317d00e", func := "tipstaff/tipstafflaw5.ListingTells", spec := "listingTells", inPlace := ["internal/bytealg.IndexByteString", "internal/bytealg.IndexString"], recurses := true, named := ["internal/bytealg.MaxLen", "tipstaff/listing.names", "strconv.ErrSyntax", "strconv.ErrRange", "internal/strconv.uint64pow10", "math/bits.deBruijn32tab", "math/bits.deBruijn64tab"], apart := false, laid := [("math/bits.deBruijn32tab", laid_math_bits_deBruijn32tab), ("math/bits.deBruijn64tab", laid_math_bits_deBruijn64tab), ("internal/strconv.uint64pow10", laid_internal_strconv_uint64pow10), ("strconv.ErrRange", laid_strconv_ErrRange), ("strconv.ErrSyntax", laid_strconv_ErrSyntax), ("tipstaff/listing.names", laid_tipstaff_listing_names)] }
def ListingTellsSaid : Prop := listingTellsRow.holds Tryd.pinned (OpenSpec.ofChange listingTellsSpec)

/-- ITS FALSE NEIGHBOUR: 'it returns false'. Refute it at one input. -/
def listingTellsWrong : ChangeSpec := { name := "listingTells", fn := fun _ => fun
  | [d1, d2] => { results := [.lit (.bool false)], args := [d1, d2] }
  | _ => none }
def ListingTellsWrongFalsely : Prop := listingTellsRow.holds Tryd.pinned (OpenSpec.ofChange listingTellsWrong)

/-- 'tipstafflaw5.ListingWrong': WHATEVER THE INPUT: true; the input reads as it did. -/
def listingWrongSpec : ChangeSpec := { name := "listingWrong", fn := fun _ => fun
  | [d] => { results := [.lit (.bool true)], args := [d] }
  | _ => none }
def listingWrongRow : OpenClaim := { program := "ytdcpdieejknliaadoor", sum := "5529b45ce8e7bb3d09c15b1f0bf0ddeca19c1a27b93484b18190d03e9317d00e", func := "tipstaff/tipstafflaw5.ListingWrong", spec := "listingWrong", inPlace := ["internal/bytealg.IndexByteString", "internal/bytealg.IndexString"], named := ["internal/bytealg.MaxLen", "tipstaff/listing.names", "strconv.ErrSyntax", "strconv.ErrRange", "internal/strconv.uint64pow10", "math/bits.deBruijn32tab", "math/bits.deBruijn64tab"], apart := false, laid := [("math/bits.deBruijn32tab", laid_math_bits_deBruijn32tab), ("math/bits.deBruijn64tab", laid_math_bits_deBruijn64tab), ("internal/strconv.uint64pow10", laid_internal_strconv_uint64pow10), ("strconv.ErrRange", laid_strconv_ErrRange), ("strconv.ErrSyntax", laid_strconv_ErrSyntax), ("tipstaff/listing.names", laid_tipstaff_listing_names)] }
def ListingWrongSaid : Prop := listingWrongRow.holds Tryd.pinned (OpenSpec.ofChange listingWrongSpec)

/-- ITS FALSE NEIGHBOUR: 'it returns false'. Refute it at one input. -/
def listingWrongWrong : ChangeSpec := { name := "listingWrong", fn := fun _ => fun
  | [d] => { results := [.lit (.bool false)], args := [d] }
  | _ => none }
def ListingWrongWrongFalsely : Prop := listingWrongRow.holds Tryd.pinned (OpenSpec.ofChange listingWrongWrong)

/-- 'tipstafflaw5.ListingJoin': WHATEVER THE INPUT: true; the input reads as it did. -/
def listingJoinSpec : ChangeSpec := { name := "listingJoin", fn := fun _ => fun
  | [d1, d2] => { results := [.lit (.bool true)], args := [d1, d2] }
  | _ => none }
def listingJoinRow : OpenClaim := { program := "ytdcpdieejknliaadoor", sum := "5529b45ce8e7bb3d09c15b1f0bf0ddeca19c1a27b93484b18190d03e9317d00e", func := "tipstaff/tipstafflaw5.ListingJoin", spec := "listingJoin", inPlace := ["internal/bytealg.IndexByteString", "internal/bytealg.IndexString"], named := ["internal/bytealg.MaxLen", "tipstaff/listing.names", "strconv.ErrSyntax", "strconv.ErrRange", "internal/strconv.uint64pow10", "math/bits.deBruijn32tab", "math/bits.deBruijn64tab"], apart := false, laid := [("math/bits.deBruijn32tab", laid_math_bits_deBruijn32tab), ("math/bits.deBruijn64tab", laid_math_bits_deBruijn64tab), ("internal/strconv.uint64pow10", laid_internal_strconv_uint64pow10), ("strconv.ErrRange", laid_strconv_ErrRange), ("strconv.ErrSyntax", laid_strconv_ErrSyntax), ("tipstaff/listing.names", laid_tipstaff_listing_names)] }
def ListingJoinSaid : Prop := listingJoinRow.holds Tryd.pinned (OpenSpec.ofChange listingJoinSpec)

/-- ITS FALSE NEIGHBOUR: 'it returns false'. Refute it at one input. -/
def listingJoinWrong : ChangeSpec := { name := "listingJoin", fn := fun _ => fun
  | [d1, d2] => { results := [.lit (.bool false)], args := [d1, d2] }
  | _ => none }
def ListingJoinWrongFalsely : Prop := listingJoinRow.holds Tryd.pinned (OpenSpec.ofChange listingJoinWrong)

/- THE SECOND FORM. 'bulk': how many values and letters a reading holds, each counted each time it is reached (what is shared counts as often as it is met; a slice's spare places count too). A statement '..UptoSaid' is the law's where the arguments, and the package variables that the reading takes, are together of bulk at most 1048576: NARROWER than '..Said'. Prove '..Said' where nothing that the law and all that it calls make is longer than what came in: it says more and counts as full. Else prove '..UptoSaid'. A law counts once. -/
mutual
def uptoBulk {H : Type} : DataW H → Nat
  | .lit (.string bytes) => bytes.length + 1
  | .lit _ => 1
  | .nil => 1
  | .ptr d => uptoBulk d + 1
  | .slice elems spare => uptoBulkAll elems + uptoBulkAll spare + 1
  | .agg parts => uptoBulkAll parts + 1
  | .iface _ d => uptoBulk d + 1
  | .map entries => uptoBulkEntries entries + 1
  | .held _ => 1
def uptoBulkAll {H : Type} : List (DataW H) → Nat
  | [] => 0
  | d :: r => uptoBulk d + uptoBulkAll r
def uptoBulkEntries {H : Type} : List (Lit × DataW H) → Nat
  | [] => 0
  | x :: r => uptoBulkEntry x + uptoBulkEntries r
def uptoBulkEntry {H : Type} : Lit × DataW H → Nat
  | (.string bytes, d) => bytes.length + uptoBulk d + 1
  | (_, d) => uptoBulk d + 1
 end
def uptoSmall : (H : Type) → List (DataW H) → Bool := fun _ ds => decide (uptoBulkAll ds ≤ 1048576)
def OpenSpec.upto (s : _root_.Go.ChangeSpec) : _root_.Go.OpenSpec := { _root_.Go.OpenSpec.ofChange s with cond := some uptoSmall }

/-- 'tipstafflaw5.ListingTells', WHERE WHAT IT READS IS OF BULK AT MOST 1048576: true; the input reads as it did. -/
def listingTellsUptoRow : OpenClaim := { program := "ytdcpdieejknliaadoor", sum := "5529b45ce8e7bb3d09c15b1f0bf0ddeca19c1a27b93484b18190d03e9317d00e", func := "tipstaff/tipstafflaw5.ListingTells", spec := "listingTells", inPlace := ["internal/bytealg.IndexByteString", "internal/bytealg.IndexString"], recurses := true, named := ["internal/bytealg.MaxLen", "tipstaff/listing.names", "strconv.ErrSyntax", "strconv.ErrRange", "internal/strconv.uint64pow10", "math/bits.deBruijn32tab", "math/bits.deBruijn64tab"], apart := false, laid := [("math/bits.deBruijn32tab", laid_math_bits_deBruijn32tab), ("math/bits.deBruijn64tab", laid_math_bits_deBruijn64tab), ("internal/strconv.uint64pow10", laid_internal_strconv_uint64pow10), ("strconv.ErrRange", laid_strconv_ErrRange), ("strconv.ErrSyntax", laid_strconv_ErrSyntax), ("tipstaff/listing.names", laid_tipstaff_listing_names)], narrowed := true }
def ListingTellsUptoSaid : Prop := listingTellsUptoRow.holds Tryd.pinned (OpenSpec.upto listingTellsSpec)

/-- 'tipstafflaw5.ListingWrong', WHERE WHAT IT READS IS OF BULK AT MOST 1048576: true; the input reads as it did. -/
def listingWrongUptoRow : OpenClaim := { program := "ytdcpdieejknliaadoor", sum := "5529b45ce8e7bb3d09c15b1f0bf0ddeca19c1a27b93484b18190d03e9317d00e", func := "tipstaff/tipstafflaw5.ListingWrong", spec := "listingWrong", inPlace := ["internal/bytealg.IndexByteString", "internal/bytealg.IndexString"], named := ["internal/bytealg.MaxLen", "tipstaff/listing.names", "strconv.ErrSyntax", "strconv.ErrRange", "internal/strconv.uint64pow10", "math/bits.deBruijn32tab", "math/bits.deBruijn64tab"], apart := false, laid := [("math/bits.deBruijn32tab", laid_math_bits_deBruijn32tab), ("math/bits.deBruijn64tab", laid_math_bits_deBruijn64tab), ("internal/strconv.uint64pow10", laid_internal_strconv_uint64pow10), ("strconv.ErrRange", laid_strconv_ErrRange), ("strconv.ErrSyntax", laid_strconv_ErrSyntax), ("tipstaff/listing.names", laid_tipstaff_listing_names)], narrowed := true }
def ListingWrongUptoSaid : Prop := listingWrongUptoRow.holds Tryd.pinned (OpenSpec.upto listingWrongSpec)

/-- 'tipstafflaw5.ListingJoin', WHERE WHAT IT READS IS OF BULK AT MOST 1048576: true; the input reads as it did. -/
def listingJoinUptoRow : OpenClaim := { program := "ytdcpdieejknliaadoor", sum := "5529b45ce8e7bb3d09c15b1f0bf0ddeca19c1a27b93484b18190d03e9317d00e", func := "tipstaff/tipstafflaw5.ListingJoin", spec := "listingJoin", inPlace := ["internal/bytealg.IndexByteString", "internal/bytealg.IndexString"], named := ["internal/bytealg.MaxLen", "tipstaff/listing.names", "strconv.ErrSyntax", "strconv.ErrRange", "internal/strconv.uint64pow10", "math/bits.deBruijn32tab", "math/bits.deBruijn64tab"], apart := false, laid := [("math/bits.deBruijn32tab", laid_math_bits_deBruijn32tab), ("math/bits.deBruijn64tab", laid_math_bits_deBruijn64tab), ("internal/strconv.uint64pow10", laid_internal_strconv_uint64pow10), ("strconv.ErrRange", laid_strconv_ErrRange), ("strconv.ErrSyntax", laid_strconv_ErrSyntax), ("tipstaff/listing.names", laid_tipstaff_listing_names)], narrowed := true }
def ListingJoinUptoSaid : Prop := listingJoinUptoRow.holds Tryd.pinned (OpenSpec.upto listingJoinSpec)

end Rows
end Go.Proofs.YtdcpdieejknliaaDoor
