/-
  NARROWER THAN 'FOR EVERY INPUT', by the rows' own cells (each row's printed sentence says how): SemLongest: loops, laid · SemParts: loops, laid · ProgLines: laid · WireCodes: laid · WireBack: laid · WireOne: laid · WireShort: laid.
  DERIVED. THE GIVEN ROWS OF THIS SEAT. 7 by the template 'for every input the law returns true; each argument reads behind the call as it read before'; 0 by the template 'total and deterministic' (their statements: YtfnimmbmcjgdpaaDoorTotals.lean).
  GIVEN WITH THE SEED: the statements are not yours to turn. If you find one false, say at which input.
  Laid BY PROGRAM, IN A SANDBOX (cutbox-rows.mjs): the forced cells as the released guide's own fill.sh prints them over the translation 67e45ca6c710a4ac… (all of the seat's roots in one cut). By AI agents, Wed Nov 11 2026. No macro, syntax, notation, axiom, sorry.
-/
import Derived.Test.YtfnimmbmcjgdpaaDoorChecked
import GoSem.Claim
import GoSem.ClaimJoined
import GoSem.ClaimMapViews
import Derived.JoinedTies
import Derived.KernelRfl
namespace Go.Proofs.YtfnimmbmcjgdpaaDoor
/- THE CELL 'sum', in the pinned program and in every row, IS THE sha256 OF THE DUMP (.gsa) THAT YtfnimmbmcjgdpaaDoorProg.lean LOADS. Nothing in Lean hashes anything: it is a label: what it is worth is what the hold of that sum in a sandbox is worth. -/
noncomputable def Tryd.pinned : Pinned := { name := "ytfnimmbmcjgdpaadoor", sum := "67e45ca6c710a4ac5fbcd433a4627e260d196b32fe3a354daacf135ccaf375f7", checked := Tryd.checked }
namespace Rows
def none {H : Type} : Left H := { results := [], args := [] }

/- WHAT THE LISTED PACKAGE-LEVEL VARIABLES READ AS WHEN THE CALL BEGINS. Each datum BY PROGRAM (the guide's laid-datum.mjs) off the statement by which the dump's own 'gosem.cut.vars' lays the variable. In a bare row this is a premise. The card (YtfnimmbmcjgdpaaDoorCards.lean) ties it to the program's text. -/
def laid_burin_edge_holding {H : Type} : DataW H := .agg [.agg [.lit (.int .i64 94), .lit (.int .i64 90), .lit (.int .i64 42), .lit (.int .i64 74)], .agg [.lit (.int .i64 92), .lit (.int .i64 88), .lit (.int .i64 40), .lit (.int .i64 72)], .agg [.lit (.int .i64 52), .lit (.int .i64 48), .lit (.int .i64 64), .lit (.int .i64 32)], .agg [.lit (.int .i64 84), .lit (.int .i64 80), .lit (.int .i64 32), .lit (.int .i64 64)]]
def laid_burin_sem_nothing {H : Type} : DataW H := .agg [.lit (.int .i64 (-1)), .nil]
def laid_math_bits_deBruijn32tab {H : Type} : DataW H := .agg [.lit (.int .u8 0), .lit (.int .u8 1), .lit (.int .u8 28), .lit (.int .u8 2), .lit (.int .u8 29), .lit (.int .u8 14), .lit (.int .u8 24), .lit (.int .u8 3), .lit (.int .u8 30), .lit (.int .u8 22), .lit (.int .u8 20), .lit (.int .u8 15), .lit (.int .u8 25), .lit (.int .u8 17), .lit (.int .u8 4), .lit (.int .u8 8), .lit (.int .u8 31), .lit (.int .u8 27), .lit (.int .u8 13), .lit (.int .u8 23), .lit (.int .u8 21), .lit (.int .u8 19), .lit (.int .u8 16), .lit (.int .u8 7), .lit (.int .u8 26), .lit (.int .u8 12), .lit (.int .u8 18), .lit (.int .u8 6), .lit (.int .u8 11), .lit (.int .u8 5), .lit (.int .u8 10), .lit (.int .u8 9)]
def laid_math_bits_deBruijn64tab {H : Type} : DataW H := .agg [.lit (.int .u8 0), .lit (.int .u8 1), .lit (.int .u8 56), .lit (.int .u8 2), .lit (.int .u8 57), .lit (.int .u8 49), .lit (.int .u8 28), .lit (.int .u8 3), .lit (.int .u8 61), .lit (.int .u8 58), .lit (.int .u8 42), .lit (.int .u8 50), .lit (.int .u8 38), .lit (.int .u8 29), .lit (.int .u8 17), .lit (.int .u8 4), .lit (.int .u8 62), .lit (.int .u8 47), .lit (.int .u8 59), .lit (.int .u8 36), .lit (.int .u8 45), .lit (.int .u8 43), .lit (.int .u8 51), .lit (.int .u8 22), .lit (.int .u8 53), .lit (.int .u8 39), .lit (.int .u8 33), .lit (.int .u8 30), .lit (.int .u8 24), .lit (.int .u8 18), .lit (.int .u8 12), .lit (.int .u8 5), .lit (.int .u8 63), .lit (.int .u8 55), .lit (.int .u8 48), .lit (.int .u8 27), .lit (.int .u8 60), .lit (.int .u8 41), .lit (.int .u8 37), .lit (.int .u8 16), .lit (.int .u8 46), .lit (.int .u8 35), .lit (.int .u8 44), .lit (.int .u8 21), .lit (.int .u8 52), .lit (.int .u8 32), .lit (.int .u8 23), .lit (.int .u8 11), .lit (.int .u8 54), .lit (.int .u8 26), .lit (.int .u8 40), .lit (.int .u8 15), .lit (.int .u8 34), .lit (.int .u8 20), .lit (.int .u8 31), .lit (.int .u8 10), .lit (.int .u8 25), .lit (.int .u8 14), .lit (.int .u8 19), .lit (.int .u8 9), .lit (.int .u8 13), .lit (.int .u8 8), .lit (.int .u8 7), .lit (.int .u8 6)]
def laid_internal_strconv_uint64pow10 {H : Type} : DataW H := .agg [.lit (.int .u64 1), .lit (.int .u64 10), .lit (.int .u64 100), .lit (.int .u64 1000), .lit (.int .u64 10000), .lit (.int .u64 100000), .lit (.int .u64 1000000), .lit (.int .u64 10000000), .lit (.int .u64 100000000), .lit (.int .u64 1000000000), .lit (.int .u64 10000000000), .lit (.int .u64 100000000000), .lit (.int .u64 1000000000000), .lit (.int .u64 10000000000000), .lit (.int .u64 100000000000000), .lit (.int .u64 1000000000000000), .lit (.int .u64 10000000000000000), .lit (.int .u64 100000000000000000), .lit (.int .u64 1000000000000000000), .lit (.int .u64 10000000000000000000)]
def laid_strconv_ErrRange {H : Type} : DataW H := .iface "*errors.errorString" (.ptr (.agg [.lit (.string [118, 97, 108, 117, 101, 32, 111, 117, 116, 32, 111, 102, 32, 114, 97, 110, 103, 101])]))
def laid_strconv_ErrSyntax {H : Type} : DataW H := .iface "*errors.errorString" (.ptr (.agg [.lit (.string [105, 110, 118, 97, 108, 105, 100, 32, 115, 121, 110, 116, 97, 120])]))
def laid_burin_prog_operations {H : Type} : DataW H := .agg [.agg [.lit (.string []), .agg [.agg [.lit (.int .i64 0), .lit (.int .i64 0)], .agg [.lit (.int .i64 0), .lit (.int .i64 0)], .agg [.lit (.int .i64 0), .lit (.int .i64 0)], .agg [.lit (.int .i64 0), .lit (.int .i64 0)]]], .agg [.lit (.string [98, 121, 116, 101]), .agg [.agg [.lit (.int .i64 0), .lit (.int .i64 255)], .agg [.lit (.int .i64 0), .lit (.int .i64 255)], .agg [.lit (.int .i64 0), .lit (.int .i64 3999)], .agg [.lit (.int .i64 0), .lit (.int .i64 0)]]], .agg [.lit (.string [115, 112, 108, 105, 116]), .agg [.agg [.lit (.int .i64 0), .lit (.int .i64 0)], .agg [.lit (.int .i64 0), .lit (.int .i64 0)], .agg [.lit (.int .i64 0), .lit (.int .i64 3999)], .agg [.lit (.int .i64 0), .lit (.int .i64 3999)]]], .agg [.lit (.string [99, 97, 112]), .agg [.agg [.lit (.int .i64 0), .lit (.int .i64 63)], .agg [.lit (.int .i64 0), .lit (.int .i64 0)], .agg [.lit (.int .i64 0), .lit (.int .i64 3999)], .agg [.lit (.int .i64 0), .lit (.int .i64 0)]]], .agg [.lit (.string [97, 115, 115, 101, 114, 116]), .agg [.agg [.lit (.int .i64 1), .lit (.int .i64 6)], .agg [.lit (.int .i64 0), .lit (.int .i64 0)], .agg [.lit (.int .i64 0), .lit (.int .i64 3999)], .agg [.lit (.int .i64 0), .lit (.int .i64 0)]]], .agg [.lit (.string [109, 97, 116, 99, 104]), .agg [.agg [.lit (.int .i64 0), .lit (.int .i64 0)], .agg [.lit (.int .i64 0), .lit (.int .i64 0)], .agg [.lit (.int .i64 0), .lit (.int .i64 0)], .agg [.lit (.int .i64 0), .lit (.int .i64 0)]]], .agg [.lit (.string [102, 97, 105, 108]), .agg [.agg [.lit (.int .i64 0), .lit (.int .i64 0)], .agg [.lit (.int .i64 0), .lit (.int .i64 0)], .agg [.lit (.int .i64 0), .lit (.int .i64 0)], .agg [.lit (.int .i64 0), .lit (.int .i64 0)]]]]

/-- 'burinlaw13.SemLongest': WHATEVER THE INPUT: true; the input reads as it did. -/
def semLongestSpec : ChangeSpec := { name := "semLongest", fn := fun _ => fun
  | [d1, d2, d3] => { results := [.lit (.bool true)], args := [d1, d2, d3] }
  | _ => none }
def semLongestRow : OpenClaim := { program := "ytfnimmbmcjgdpaadoor", sum := "67e45ca6c710a4ac5fbcd433a4627e260d196b32fe3a354daacf135ccaf375f7", func := "burin/burinlaw13.SemLongest", spec := "semLongest", unfollowed := true, recurses := true, named := ["burin/edge.holding", "burin/sem.nothing"], loops := true, plainKeys := false, apart := false, laid := [("burin/edge.holding", laid_burin_edge_holding), ("burin/sem.nothing", laid_burin_sem_nothing)] }
def SemLongestSaid : Prop := semLongestRow.holds Tryd.pinned (OpenSpec.ofChange semLongestSpec)

/-- ITS FALSE NEIGHBOUR: 'it returns false'. Refute it at one input. -/
def semLongestWrong : ChangeSpec := { name := "semLongest", fn := fun _ => fun
  | [d1, d2, d3] => { results := [.lit (.bool false)], args := [d1, d2, d3] }
  | _ => none }
def SemLongestWrongFalsely : Prop := semLongestRow.holds Tryd.pinned (OpenSpec.ofChange semLongestWrong)

/-- 'burinlaw13.SemParts': WHATEVER THE INPUT: true; the input reads as it did. -/
def semPartsSpec : ChangeSpec := { name := "semParts", fn := fun _ => fun
  | [d1, d2, d3] => { results := [.lit (.bool true)], args := [d1, d2, d3] }
  | _ => none }
def semPartsRow : OpenClaim := { program := "ytfnimmbmcjgdpaadoor", sum := "67e45ca6c710a4ac5fbcd433a4627e260d196b32fe3a354daacf135ccaf375f7", func := "burin/burinlaw13.SemParts", spec := "semParts", unfollowed := true, recurses := true, named := ["burin/edge.holding", "burin/sem.nothing"], loops := true, plainKeys := false, apart := false, laid := [("burin/edge.holding", laid_burin_edge_holding), ("burin/sem.nothing", laid_burin_sem_nothing)] }
def SemPartsSaid : Prop := semPartsRow.holds Tryd.pinned (OpenSpec.ofChange semPartsSpec)

/-- ITS FALSE NEIGHBOUR: 'it returns false'. Refute it at one input. -/
def semPartsWrong : ChangeSpec := { name := "semParts", fn := fun _ => fun
  | [d1, d2, d3] => { results := [.lit (.bool false)], args := [d1, d2, d3] }
  | _ => none }
def SemPartsWrongFalsely : Prop := semPartsRow.holds Tryd.pinned (OpenSpec.ofChange semPartsWrong)

/-- 'burinlaw14.ProgLines': WHATEVER THE INPUT: true; the input reads as it did. -/
def progLinesSpec : ChangeSpec := { name := "progLines", fn := fun _ => fun
  | [d1, d2] => { results := [.lit (.bool true)], args := [d1, d2] }
  | _ => none }
def progLinesRow : OpenClaim := { program := "ytfnimmbmcjgdpaadoor", sum := "67e45ca6c710a4ac5fbcd433a4627e260d196b32fe3a354daacf135ccaf375f7", func := "burin/burinlaw14.ProgLines", spec := "progLines", inPlace := ["internal/bytealg.IndexByteString", "internal/bytealg.IndexString"], unfollowed := true, recurses := true, named := ["internal/bytealg.MaxLen", "strconv.ErrSyntax", "strconv.ErrRange", "internal/strconv.uint64pow10", "math/bits.deBruijn32tab", "math/bits.deBruijn64tab", "burin/prog.operations"], plainKeys := false, apart := false, laid := [("math/bits.deBruijn32tab", laid_math_bits_deBruijn32tab), ("math/bits.deBruijn64tab", laid_math_bits_deBruijn64tab), ("internal/strconv.uint64pow10", laid_internal_strconv_uint64pow10), ("strconv.ErrRange", laid_strconv_ErrRange), ("strconv.ErrSyntax", laid_strconv_ErrSyntax), ("burin/prog.operations", laid_burin_prog_operations)] }
def ProgLinesSaid : Prop := progLinesRow.holds Tryd.pinned (OpenSpec.ofChange progLinesSpec)

/-- ITS FALSE NEIGHBOUR: 'it returns false'. Refute it at one input. -/
def progLinesWrong : ChangeSpec := { name := "progLines", fn := fun _ => fun
  | [d1, d2] => { results := [.lit (.bool false)], args := [d1, d2] }
  | _ => none }
def ProgLinesWrongFalsely : Prop := progLinesRow.holds Tryd.pinned (OpenSpec.ofChange progLinesWrong)

/-- 'burinlaw15.WireCodes': WHATEVER THE INPUT: true; the input reads as it did. -/
def wireCodesSpec : ChangeSpec := { name := "wireCodes", fn := fun _ => fun
  | [d1, d2] => { results := [.lit (.bool true)], args := [d1, d2] }
  | _ => none }
def wireCodesRow : OpenClaim := { program := "ytfnimmbmcjgdpaadoor", sum := "67e45ca6c710a4ac5fbcd433a4627e260d196b32fe3a354daacf135ccaf375f7", func := "burin/burinlaw15.WireCodes", spec := "wireCodes", unfollowed := true, recurses := true, named := ["burin/prog.operations"], plainKeys := false, apart := false, laid := [("burin/prog.operations", laid_burin_prog_operations)] }
def WireCodesSaid : Prop := wireCodesRow.holds Tryd.pinned (OpenSpec.ofChange wireCodesSpec)

/-- ITS FALSE NEIGHBOUR: 'it returns false'. Refute it at one input. -/
def wireCodesWrong : ChangeSpec := { name := "wireCodes", fn := fun _ => fun
  | [d1, d2] => { results := [.lit (.bool false)], args := [d1, d2] }
  | _ => none }
def WireCodesWrongFalsely : Prop := wireCodesRow.holds Tryd.pinned (OpenSpec.ofChange wireCodesWrong)

/-- 'burinlaw15.WireBack': WHATEVER THE INPUT: true; the input reads as it did. -/
def wireBackSpec : ChangeSpec := { name := "wireBack", fn := fun _ => fun
  | [d1, d2] => { results := [.lit (.bool true)], args := [d1, d2] }
  | _ => none }
def wireBackRow : OpenClaim := { program := "ytfnimmbmcjgdpaadoor", sum := "67e45ca6c710a4ac5fbcd433a4627e260d196b32fe3a354daacf135ccaf375f7", func := "burin/burinlaw15.WireBack", spec := "wireBack", unfollowed := true, recurses := true, named := ["burin/prog.operations"], plainKeys := false, apart := false, laid := [("burin/prog.operations", laid_burin_prog_operations)] }
def WireBackSaid : Prop := wireBackRow.holds Tryd.pinned (OpenSpec.ofChange wireBackSpec)

/-- ITS FALSE NEIGHBOUR: 'it returns false'. Refute it at one input. -/
def wireBackWrong : ChangeSpec := { name := "wireBack", fn := fun _ => fun
  | [d1, d2] => { results := [.lit (.bool false)], args := [d1, d2] }
  | _ => none }
def WireBackWrongFalsely : Prop := wireBackRow.holds Tryd.pinned (OpenSpec.ofChange wireBackWrong)

/-- 'burinlaw15.WireOne': WHATEVER THE INPUT: true; the input reads as it did. -/
def wireOneSpec : ChangeSpec := { name := "wireOne", fn := fun _ => fun
  | [d1, d2, d3] => { results := [.lit (.bool true)], args := [d1, d2, d3] }
  | _ => none }
def wireOneRow : OpenClaim := { program := "ytfnimmbmcjgdpaadoor", sum := "67e45ca6c710a4ac5fbcd433a4627e260d196b32fe3a354daacf135ccaf375f7", func := "burin/burinlaw15.WireOne", spec := "wireOne", unfollowed := true, recurses := true, named := ["burin/prog.operations"], plainKeys := false, apart := false, laid := [("burin/prog.operations", laid_burin_prog_operations)] }
def WireOneSaid : Prop := wireOneRow.holds Tryd.pinned (OpenSpec.ofChange wireOneSpec)

/-- ITS FALSE NEIGHBOUR: 'it returns false'. Refute it at one input. -/
def wireOneWrong : ChangeSpec := { name := "wireOne", fn := fun _ => fun
  | [d1, d2, d3] => { results := [.lit (.bool false)], args := [d1, d2, d3] }
  | _ => none }
def WireOneWrongFalsely : Prop := wireOneRow.holds Tryd.pinned (OpenSpec.ofChange wireOneWrong)

/-- 'burinlaw15.WireShort': WHATEVER THE INPUT: true; the input reads as it did. -/
def wireShortSpec : ChangeSpec := { name := "wireShort", fn := fun _ => fun
  | [d] => { results := [.lit (.bool true)], args := [d] }
  | _ => none }
def wireShortRow : OpenClaim := { program := "ytfnimmbmcjgdpaadoor", sum := "67e45ca6c710a4ac5fbcd433a4627e260d196b32fe3a354daacf135ccaf375f7", func := "burin/burinlaw15.WireShort", spec := "wireShort", unfollowed := true, recurses := true, named := ["burin/prog.operations"], plainKeys := false, apart := false, laid := [("burin/prog.operations", laid_burin_prog_operations)] }
def WireShortSaid : Prop := wireShortRow.holds Tryd.pinned (OpenSpec.ofChange wireShortSpec)

/-- ITS FALSE NEIGHBOUR: 'it returns false'. Refute it at one input. -/
def wireShortWrong : ChangeSpec := { name := "wireShort", fn := fun _ => fun
  | [d] => { results := [.lit (.bool false)], args := [d] }
  | _ => none }
def WireShortWrongFalsely : Prop := wireShortRow.holds Tryd.pinned (OpenSpec.ofChange wireShortWrong)

/- THE SECOND FORM. 'bulk': how many values and letters a reading holds, each counted each time it is reached (what is shared counts as often as it is met; a slice's spare places count too). A statement '..UptoSaid' is the law's where the arguments, and the package variables that the reading takes, are together of bulk at most 1048576: NARROWER than '..Said'. Prove '..Said' where nothing that the law and all that it calls make is longer than what came in: it says more and counts as full. Else prove '..UptoSaid'. A law counts once. -/
mutual
def uptoBulk {H : Type} : DataW H → Nat
  | .lit (.string bytes) => bytes.length + 1
  | .lit _ => 1
  | .nil => 1
  | .ptr d => uptoBulk d + 1
  | .slice elems spare => uptoBulkAll elems + uptoBulkAll spare + 1
  | .agg parts => uptoBulkAll parts + 1
  | .iface _ d => uptoBulk d + 1
  | .map entries => uptoBulkEntries entries + 1
  | .held _ => 1
def uptoBulkAll {H : Type} : List (DataW H) → Nat
  | [] => 0
  | d :: r => uptoBulk d + uptoBulkAll r
def uptoBulkEntries {H : Type} : List (Lit × DataW H) → Nat
  | [] => 0
  | x :: r => uptoBulkEntry x + uptoBulkEntries r
def uptoBulkEntry {H : Type} : Lit × DataW H → Nat
  | (.string bytes, d) => bytes.length + uptoBulk d + 1
  | (_, d) => uptoBulk d + 1
 end
def uptoSmall : (H : Type) → List (DataW H) → Bool := fun _ ds => decide (uptoBulkAll ds ≤ 1048576)
def OpenSpec.upto (s : _root_.Go.ChangeSpec) : _root_.Go.OpenSpec := { _root_.Go.OpenSpec.ofChange s with cond := some uptoSmall }

/-- 'burinlaw13.SemLongest', WHERE WHAT IT READS IS OF BULK AT MOST 1048576: true; the input reads as it did. -/
def semLongestUptoRow : OpenClaim := { program := "ytfnimmbmcjgdpaadoor", sum := "67e45ca6c710a4ac5fbcd433a4627e260d196b32fe3a354daacf135ccaf375f7", func := "burin/burinlaw13.SemLongest", spec := "semLongest", unfollowed := true, recurses := true, named := ["burin/edge.holding", "burin/sem.nothing"], loops := true, plainKeys := false, apart := false, laid := [("burin/edge.holding", laid_burin_edge_holding), ("burin/sem.nothing", laid_burin_sem_nothing)], narrowed := true }
def SemLongestUptoSaid : Prop := semLongestUptoRow.holds Tryd.pinned (OpenSpec.upto semLongestSpec)

/-- 'burinlaw13.SemParts', WHERE WHAT IT READS IS OF BULK AT MOST 1048576: true; the input reads as it did. -/
def semPartsUptoRow : OpenClaim := { program := "ytfnimmbmcjgdpaadoor", sum := "67e45ca6c710a4ac5fbcd433a4627e260d196b32fe3a354daacf135ccaf375f7", func := "burin/burinlaw13.SemParts", spec := "semParts", unfollowed := true, recurses := true, named := ["burin/edge.holding", "burin/sem.nothing"], loops := true, plainKeys := false, apart := false, laid := [("burin/edge.holding", laid_burin_edge_holding), ("burin/sem.nothing", laid_burin_sem_nothing)], narrowed := true }
def SemPartsUptoSaid : Prop := semPartsUptoRow.holds Tryd.pinned (OpenSpec.upto semPartsSpec)

/-- 'burinlaw14.ProgLines', WHERE WHAT IT READS IS OF BULK AT MOST 1048576: true; the input reads as it did. -/
def progLinesUptoRow : OpenClaim := { program := "ytfnimmbmcjgdpaadoor", sum := "67e45ca6c710a4ac5fbcd433a4627e260d196b32fe3a354daacf135ccaf375f7", func := "burin/burinlaw14.ProgLines", spec := "progLines", inPlace := ["internal/bytealg.IndexByteString", "internal/bytealg.IndexString"], unfollowed := true, recurses := true, named := ["internal/bytealg.MaxLen", "strconv.ErrSyntax", "strconv.ErrRange", "internal/strconv.uint64pow10", "math/bits.deBruijn32tab", "math/bits.deBruijn64tab", "burin/prog.operations"], plainKeys := false, apart := false, laid := [("math/bits.deBruijn32tab", laid_math_bits_deBruijn32tab), ("math/bits.deBruijn64tab", laid_math_bits_deBruijn64tab), ("internal/strconv.uint64pow10", laid_internal_strconv_uint64pow10), ("strconv.ErrRange", laid_strconv_ErrRange), ("strconv.ErrSyntax", laid_strconv_ErrSyntax), ("burin/prog.operations", laid_burin_prog_operations)], narrowed := true }
def ProgLinesUptoSaid : Prop := progLinesUptoRow.holds Tryd.pinned (OpenSpec.upto progLinesSpec)

/-- 'burinlaw15.WireCodes', WHERE WHAT IT READS IS OF BULK AT MOST 1048576: true; the input reads as it did. -/
def wireCodesUptoRow : OpenClaim := { program := "ytfnimmbmcjgdpaadoor", sum := "67e45ca6c710a4ac5fbcd433a4627e260d196b32fe3a354daacf135ccaf375f7", func := "burin/burinlaw15.WireCodes", spec := "wireCodes", unfollowed := true, recurses := true, named := ["burin/prog.operations"], plainKeys := false, apart := false, laid := [("burin/prog.operations", laid_burin_prog_operations)], narrowed := true }
def WireCodesUptoSaid : Prop := wireCodesUptoRow.holds Tryd.pinned (OpenSpec.upto wireCodesSpec)

/-- 'burinlaw15.WireBack', WHERE WHAT IT READS IS OF BULK AT MOST 1048576: true; the input reads as it did. -/
def wireBackUptoRow : OpenClaim := { program := "ytfnimmbmcjgdpaadoor", sum := "67e45ca6c710a4ac5fbcd433a4627e260d196b32fe3a354daacf135ccaf375f7", func := "burin/burinlaw15.WireBack", spec := "wireBack", unfollowed := true, recurses := true, named := ["burin/prog.operations"], plainKeys := false, apart := false, laid := [("burin/prog.operations", laid_burin_prog_operations)], narrowed := true }
def WireBackUptoSaid : Prop := wireBackUptoRow.holds Tryd.pinned (OpenSpec.upto wireBackSpec)

/-- 'burinlaw15.WireOne', WHERE WHAT IT READS IS OF BULK AT MOST 1048576: true; the input reads as it did. -/
def wireOneUptoRow : OpenClaim := { program := "ytfnimmbmcjgdpaadoor", sum := "67e45ca6c710a4ac5fbcd433a4627e260d196b32fe3a354daacf135ccaf375f7", func := "burin/burinlaw15.WireOne", spec := "wireOne", unfollowed := true, recurses := true, named := ["burin/prog.operations"], plainKeys := false, apart := false, laid := [("burin/prog.operations", laid_burin_prog_operations)], narrowed := true }
def WireOneUptoSaid : Prop := wireOneUptoRow.holds Tryd.pinned (OpenSpec.upto wireOneSpec)

/-- 'burinlaw15.WireShort', WHERE WHAT IT READS IS OF BULK AT MOST 1048576: true; the input reads as it did. -/
def wireShortUptoRow : OpenClaim := { program := "ytfnimmbmcjgdpaadoor", sum := "67e45ca6c710a4ac5fbcd433a4627e260d196b32fe3a354daacf135ccaf375f7", func := "burin/burinlaw15.WireShort", spec := "wireShort", unfollowed := true, recurses := true, named := ["burin/prog.operations"], plainKeys := false, apart := false, laid := [("burin/prog.operations", laid_burin_prog_operations)], narrowed := true }
def WireShortUptoSaid : Prop := wireShortUptoRow.holds Tryd.pinned (OpenSpec.upto wireShortSpec)

end Rows
end Go.Proofs.YtfnimmbmcjgdpaaDoor
