/-
  NARROWER THAN 'FOR EVERY INPUT', by the rows' own cells (each row's printed sentence says how): SemLongest: loops, laid · SemParts: loops, laid · VerifyChecks: laid · VerifyOrders: laid · VerifyLoops: laid · VerifyBytes: laid.
  DERIVED. THE GIVEN ROWS OF THIS SEAT. 6 by the template 'for every input the law returns true; each argument reads behind the call as it read before'; 0 by the template 'total and deterministic' (their statements: YtchcjinaagncjaaDoorTotals.lean).
  GIVEN WITH THE SEED: the statements are not yours to turn. If you find one false, say at which input.
  Laid BY PROGRAM, IN A SANDBOX (cutbox-rows.mjs): the forced cells as the released guide's own fill.sh prints them over the translation ba4bd5898e2ccf85… (all of the seat's roots in one cut). By AI agents, Wed Nov 11 2026. No macro, syntax, notation, axiom, sorry.
-/
import Derived.Test.YtchcjinaagncjaaDoorChecked
import GoSem.Claim
import GoSem.ClaimJoined
import GoSem.ClaimMapViews
import Derived.JoinedTies
import Derived.KernelRfl
namespace Go.Proofs.YtchcjinaagncjaaDoor
/- THE CELL 'sum', in the pinned program and in every row, IS THE sha256 OF THE DUMP (.gsa) THAT YtchcjinaagncjaaDoorProg.lean LOADS. Nothing in Lean hashes anything: it is a label: what it is worth is what the hold of that sum in a sandbox is worth. -/
noncomputable def Tryd.pinned : Pinned := { name := "ytchcjinaagncjaadoor", sum := "ba4bd5898e2ccf8533e635c06db9d19c75a37a33c6050bb79646cf99fc49398e", checked := Tryd.checked }
namespace Rows
def none {H : Type} : Left H := { results := [], args := [] }

/- WHAT THE LISTED PACKAGE-LEVEL VARIABLES READ AS WHEN THE CALL BEGINS. Each datum BY PROGRAM (the guide's laid-datum.mjs) off the statement by which the dump's own 'gosem.cut.vars' lays the variable. In a bare row this is a premise. The card (YtchcjinaagncjaaDoorCards.lean) ties it to the program's text. -/
def laid_burin_edge_holding {H : Type} : DataW H := .agg [.agg [.lit (.int .i64 94), .lit (.int .i64 90), .lit (.int .i64 42), .lit (.int .i64 74)], .agg [.lit (.int .i64 92), .lit (.int .i64 88), .lit (.int .i64 40), .lit (.int .i64 72)], .agg [.lit (.int .i64 52), .lit (.int .i64 48), .lit (.int .i64 64), .lit (.int .i64 32)], .agg [.lit (.int .i64 84), .lit (.int .i64 80), .lit (.int .i64 32), .lit (.int .i64 64)]]
def laid_burin_sem_nothing {H : Type} : DataW H := .agg [.lit (.int .i64 (-1)), .nil]
def laid_math_bits_deBruijn64tab {H : Type} : DataW H := .agg [.lit (.int .u8 0), .lit (.int .u8 1), .lit (.int .u8 56), .lit (.int .u8 2), .lit (.int .u8 57), .lit (.int .u8 49), .lit (.int .u8 28), .lit (.int .u8 3), .lit (.int .u8 61), .lit (.int .u8 58), .lit (.int .u8 42), .lit (.int .u8 50), .lit (.int .u8 38), .lit (.int .u8 29), .lit (.int .u8 17), .lit (.int .u8 4), .lit (.int .u8 62), .lit (.int .u8 47), .lit (.int .u8 59), .lit (.int .u8 36), .lit (.int .u8 45), .lit (.int .u8 43), .lit (.int .u8 51), .lit (.int .u8 22), .lit (.int .u8 53), .lit (.int .u8 39), .lit (.int .u8 33), .lit (.int .u8 30), .lit (.int .u8 24), .lit (.int .u8 18), .lit (.int .u8 12), .lit (.int .u8 5), .lit (.int .u8 63), .lit (.int .u8 55), .lit (.int .u8 48), .lit (.int .u8 27), .lit (.int .u8 60), .lit (.int .u8 41), .lit (.int .u8 37), .lit (.int .u8 16), .lit (.int .u8 46), .lit (.int .u8 35), .lit (.int .u8 44), .lit (.int .u8 21), .lit (.int .u8 52), .lit (.int .u8 32), .lit (.int .u8 23), .lit (.int .u8 11), .lit (.int .u8 54), .lit (.int .u8 26), .lit (.int .u8 40), .lit (.int .u8 15), .lit (.int .u8 34), .lit (.int .u8 20), .lit (.int .u8 31), .lit (.int .u8 10), .lit (.int .u8 25), .lit (.int .u8 14), .lit (.int .u8 19), .lit (.int .u8 9), .lit (.int .u8 13), .lit (.int .u8 8), .lit (.int .u8 7), .lit (.int .u8 6)]
def laid_burin_prog_operations {H : Type} : DataW H := .agg [.agg [.lit (.string []), .agg [.agg [.lit (.int .i64 0), .lit (.int .i64 0)], .agg [.lit (.int .i64 0), .lit (.int .i64 0)], .agg [.lit (.int .i64 0), .lit (.int .i64 0)], .agg [.lit (.int .i64 0), .lit (.int .i64 0)]]], .agg [.lit (.string [98, 121, 116, 101]), .agg [.agg [.lit (.int .i64 0), .lit (.int .i64 255)], .agg [.lit (.int .i64 0), .lit (.int .i64 255)], .agg [.lit (.int .i64 0), .lit (.int .i64 3999)], .agg [.lit (.int .i64 0), .lit (.int .i64 0)]]], .agg [.lit (.string [115, 112, 108, 105, 116]), .agg [.agg [.lit (.int .i64 0), .lit (.int .i64 0)], .agg [.lit (.int .i64 0), .lit (.int .i64 0)], .agg [.lit (.int .i64 0), .lit (.int .i64 3999)], .agg [.lit (.int .i64 0), .lit (.int .i64 3999)]]], .agg [.lit (.string [99, 97, 112]), .agg [.agg [.lit (.int .i64 0), .lit (.int .i64 63)], .agg [.lit (.int .i64 0), .lit (.int .i64 0)], .agg [.lit (.int .i64 0), .lit (.int .i64 3999)], .agg [.lit (.int .i64 0), .lit (.int .i64 0)]]], .agg [.lit (.string [97, 115, 115, 101, 114, 116]), .agg [.agg [.lit (.int .i64 1), .lit (.int .i64 6)], .agg [.lit (.int .i64 0), .lit (.int .i64 0)], .agg [.lit (.int .i64 0), .lit (.int .i64 3999)], .agg [.lit (.int .i64 0), .lit (.int .i64 0)]]], .agg [.lit (.string [109, 97, 116, 99, 104]), .agg [.agg [.lit (.int .i64 0), .lit (.int .i64 0)], .agg [.lit (.int .i64 0), .lit (.int .i64 0)], .agg [.lit (.int .i64 0), .lit (.int .i64 0)], .agg [.lit (.int .i64 0), .lit (.int .i64 0)]]], .agg [.lit (.string [102, 97, 105, 108]), .agg [.agg [.lit (.int .i64 0), .lit (.int .i64 0)], .agg [.lit (.int .i64 0), .lit (.int .i64 0)], .agg [.lit (.int .i64 0), .lit (.int .i64 0)], .agg [.lit (.int .i64 0), .lit (.int .i64 0)]]]]

/-- 'burinlaw13.SemLongest': WHATEVER THE INPUT: true; the input reads as it did. -/
def semLongestSpec : ChangeSpec := { name := "semLongest", fn := fun _ => fun
  | [d1, d2, d3] => { results := [.lit (.bool true)], args := [d1, d2, d3] }
  | _ => none }
def semLongestRow : OpenClaim := { program := "ytchcjinaagncjaadoor", sum := "ba4bd5898e2ccf8533e635c06db9d19c75a37a33c6050bb79646cf99fc49398e", func := "burin/burinlaw13.SemLongest", spec := "semLongest", unfollowed := true, recurses := true, named := ["burin/edge.holding", "burin/sem.nothing"], loops := true, plainKeys := false, apart := false, laid := [("burin/edge.holding", laid_burin_edge_holding), ("burin/sem.nothing", laid_burin_sem_nothing)] }
def SemLongestSaid : Prop := semLongestRow.holds Tryd.pinned (OpenSpec.ofChange semLongestSpec)

/-- ITS FALSE NEIGHBOUR: 'it returns false'. Refute it at one input. -/
def semLongestWrong : ChangeSpec := { name := "semLongest", fn := fun _ => fun
  | [d1, d2, d3] => { results := [.lit (.bool false)], args := [d1, d2, d3] }
  | _ => none }
def SemLongestWrongFalsely : Prop := semLongestRow.holds Tryd.pinned (OpenSpec.ofChange semLongestWrong)

/-- 'burinlaw13.SemParts': WHATEVER THE INPUT: true; the input reads as it did. -/
def semPartsSpec : ChangeSpec := { name := "semParts", fn := fun _ => fun
  | [d1, d2, d3] => { results := [.lit (.bool true)], args := [d1, d2, d3] }
  | _ => none }
def semPartsRow : OpenClaim := { program := "ytchcjinaagncjaadoor", sum := "ba4bd5898e2ccf8533e635c06db9d19c75a37a33c6050bb79646cf99fc49398e", func := "burin/burinlaw13.SemParts", spec := "semParts", unfollowed := true, recurses := true, named := ["burin/edge.holding", "burin/sem.nothing"], loops := true, plainKeys := false, apart := false, laid := [("burin/edge.holding", laid_burin_edge_holding), ("burin/sem.nothing", laid_burin_sem_nothing)] }
def SemPartsSaid : Prop := semPartsRow.holds Tryd.pinned (OpenSpec.ofChange semPartsSpec)

/-- ITS FALSE NEIGHBOUR: 'it returns false'. Refute it at one input. -/
def semPartsWrong : ChangeSpec := { name := "semParts", fn := fun _ => fun
  | [d1, d2, d3] => { results := [.lit (.bool false)], args := [d1, d2, d3] }
  | _ => none }
def SemPartsWrongFalsely : Prop := semPartsRow.holds Tryd.pinned (OpenSpec.ofChange semPartsWrong)

/-- 'burinlaw16.VerifyChecks': WHATEVER THE INPUT: true; the input reads as it did. -/
def verifyChecksSpec : ChangeSpec := { name := "verifyChecks", fn := fun _ => fun
  | [d1, d2] => { results := [.lit (.bool true)], args := [d1, d2] }
  | _ => none }
def verifyChecksRow : OpenClaim := { program := "ytchcjinaagncjaadoor", sum := "ba4bd5898e2ccf8533e635c06db9d19c75a37a33c6050bb79646cf99fc49398e", func := "burin/burinlaw16.VerifyChecks", spec := "verifyChecks", unfollowed := true, recurses := true, named := ["burin/prog.operations", "math/bits.deBruijn64tab"], plainKeys := false, apart := false, laid := [("math/bits.deBruijn64tab", laid_math_bits_deBruijn64tab), ("burin/prog.operations", laid_burin_prog_operations)] }
def VerifyChecksSaid : Prop := verifyChecksRow.holds Tryd.pinned (OpenSpec.ofChange verifyChecksSpec)

/-- ITS FALSE NEIGHBOUR: 'it returns false'. Refute it at one input. -/
def verifyChecksWrong : ChangeSpec := { name := "verifyChecks", fn := fun _ => fun
  | [d1, d2] => { results := [.lit (.bool false)], args := [d1, d2] }
  | _ => none }
def VerifyChecksWrongFalsely : Prop := verifyChecksRow.holds Tryd.pinned (OpenSpec.ofChange verifyChecksWrong)

/-- 'burinlaw16.VerifyOrders': WHATEVER THE INPUT: true; the input reads as it did. -/
def verifyOrdersSpec : ChangeSpec := { name := "verifyOrders", fn := fun _ => fun
  | [d] => { results := [.lit (.bool true)], args := [d] }
  | _ => none }
def verifyOrdersRow : OpenClaim := { program := "ytchcjinaagncjaadoor", sum := "ba4bd5898e2ccf8533e635c06db9d19c75a37a33c6050bb79646cf99fc49398e", func := "burin/burinlaw16.VerifyOrders", spec := "verifyOrders", unfollowed := true, recurses := true, named := ["burin/prog.operations", "math/bits.deBruijn64tab"], plainKeys := false, apart := false, laid := [("math/bits.deBruijn64tab", laid_math_bits_deBruijn64tab), ("burin/prog.operations", laid_burin_prog_operations)] }
def VerifyOrdersSaid : Prop := verifyOrdersRow.holds Tryd.pinned (OpenSpec.ofChange verifyOrdersSpec)

/-- ITS FALSE NEIGHBOUR: 'it returns false'. Refute it at one input. -/
def verifyOrdersWrong : ChangeSpec := { name := "verifyOrders", fn := fun _ => fun
  | [d] => { results := [.lit (.bool false)], args := [d] }
  | _ => none }
def VerifyOrdersWrongFalsely : Prop := verifyOrdersRow.holds Tryd.pinned (OpenSpec.ofChange verifyOrdersWrong)

/-- 'burinlaw16.VerifyLoops': WHATEVER THE INPUT: true; the input reads as it did. -/
def verifyLoopsSpec : ChangeSpec := { name := "verifyLoops", fn := fun _ => fun
  | [d] => { results := [.lit (.bool true)], args := [d] }
  | _ => none }
def verifyLoopsRow : OpenClaim := { program := "ytchcjinaagncjaadoor", sum := "ba4bd5898e2ccf8533e635c06db9d19c75a37a33c6050bb79646cf99fc49398e", func := "burin/burinlaw16.VerifyLoops", spec := "verifyLoops", unfollowed := true, recurses := true, named := ["burin/prog.operations", "math/bits.deBruijn64tab"], plainKeys := false, apart := false, laid := [("math/bits.deBruijn64tab", laid_math_bits_deBruijn64tab), ("burin/prog.operations", laid_burin_prog_operations)] }
def VerifyLoopsSaid : Prop := verifyLoopsRow.holds Tryd.pinned (OpenSpec.ofChange verifyLoopsSpec)

/-- ITS FALSE NEIGHBOUR: 'it returns false'. Refute it at one input. -/
def verifyLoopsWrong : ChangeSpec := { name := "verifyLoops", fn := fun _ => fun
  | [d] => { results := [.lit (.bool false)], args := [d] }
  | _ => none }
def VerifyLoopsWrongFalsely : Prop := verifyLoopsRow.holds Tryd.pinned (OpenSpec.ofChange verifyLoopsWrong)

/-- 'burinlaw16.VerifyBytes': WHATEVER THE INPUT: true; the input reads as it did. -/
def verifyBytesSpec : ChangeSpec := { name := "verifyBytes", fn := fun _ => fun
  | [d] => { results := [.lit (.bool true)], args := [d] }
  | _ => none }
def verifyBytesRow : OpenClaim := { program := "ytchcjinaagncjaadoor", sum := "ba4bd5898e2ccf8533e635c06db9d19c75a37a33c6050bb79646cf99fc49398e", func := "burin/burinlaw16.VerifyBytes", spec := "verifyBytes", unfollowed := true, recurses := true, named := ["burin/prog.operations", "math/bits.deBruijn64tab"], plainKeys := false, apart := false, laid := [("math/bits.deBruijn64tab", laid_math_bits_deBruijn64tab), ("burin/prog.operations", laid_burin_prog_operations)] }
def VerifyBytesSaid : Prop := verifyBytesRow.holds Tryd.pinned (OpenSpec.ofChange verifyBytesSpec)

/-- ITS FALSE NEIGHBOUR: 'it returns false'. Refute it at one input. -/
def verifyBytesWrong : ChangeSpec := { name := "verifyBytes", fn := fun _ => fun
  | [d] => { results := [.lit (.bool false)], args := [d] }
  | _ => none }
def VerifyBytesWrongFalsely : Prop := verifyBytesRow.holds Tryd.pinned (OpenSpec.ofChange verifyBytesWrong)

/- THE SECOND FORM. 'bulk': how many values and letters a reading holds, each counted each time it is reached (what is shared counts as often as it is met; a slice's spare places count too). A statement '..UptoSaid' is the law's where the arguments, and the package variables that the reading takes, are together of bulk at most 1048576: NARROWER than '..Said'. Prove '..Said' where nothing that the law and all that it calls make is longer than what came in: it says more and counts as full. Else prove '..UptoSaid'. A law counts once. -/
mutual
def uptoBulk {H : Type} : DataW H → Nat
  | .lit (.string bytes) => bytes.length + 1
  | .lit _ => 1
  | .nil => 1
  | .ptr d => uptoBulk d + 1
  | .slice elems spare => uptoBulkAll elems + uptoBulkAll spare + 1
  | .agg parts => uptoBulkAll parts + 1
  | .iface _ d => uptoBulk d + 1
  | .map entries => uptoBulkEntries entries + 1
  | .held _ => 1
def uptoBulkAll {H : Type} : List (DataW H) → Nat
  | [] => 0
  | d :: r => uptoBulk d + uptoBulkAll r
def uptoBulkEntries {H : Type} : List (Lit × DataW H) → Nat
  | [] => 0
  | x :: r => uptoBulkEntry x + uptoBulkEntries r
def uptoBulkEntry {H : Type} : Lit × DataW H → Nat
  | (.string bytes, d) => bytes.length + uptoBulk d + 1
  | (_, d) => uptoBulk d + 1
 end
def uptoSmall : (H : Type) → List (DataW H) → Bool := fun _ ds => decide (uptoBulkAll ds ≤ 1048576)
def OpenSpec.upto (s : _root_.Go.ChangeSpec) : _root_.Go.OpenSpec := { _root_.Go.OpenSpec.ofChange s with cond := some uptoSmall }

/-- 'burinlaw13.SemLongest', WHERE WHAT IT READS IS OF BULK AT MOST 1048576: true; the input reads as it did. -/
def semLongestUptoRow : OpenClaim := { program := "ytchcjinaagncjaadoor", sum := "ba4bd5898e2ccf8533e635c06db9d19c75a37a33c6050bb79646cf99fc49398e", func := "burin/burinlaw13.SemLongest", spec := "semLongest", unfollowed := true, recurses := true, named := ["burin/edge.holding", "burin/sem.nothing"], loops := true, plainKeys := false, apart := false, laid := [("burin/edge.holding", laid_burin_edge_holding), ("burin/sem.nothing", laid_burin_sem_nothing)], narrowed := true }
def SemLongestUptoSaid : Prop := semLongestUptoRow.holds Tryd.pinned (OpenSpec.upto semLongestSpec)

/-- 'burinlaw13.SemParts', WHERE WHAT IT READS IS OF BULK AT MOST 1048576: true; the input reads as it did. -/
def semPartsUptoRow : OpenClaim := { program := "ytchcjinaagncjaadoor", sum := "ba4bd5898e2ccf8533e635c06db9d19c75a37a33c6050bb79646cf99fc49398e", func := "burin/burinlaw13.SemParts", spec := "semParts", unfollowed := true, recurses := true, named := ["burin/edge.holding", "burin/sem.nothing"], loops := true, plainKeys := false, apart := false, laid := [("burin/edge.holding", laid_burin_edge_holding), ("burin/sem.nothing", laid_burin_sem_nothing)], narrowed := true }
def SemPartsUptoSaid : Prop := semPartsUptoRow.holds Tryd.pinned (OpenSpec.upto semPartsSpec)

/-- 'burinlaw16.VerifyChecks', WHERE WHAT IT READS IS OF BULK AT MOST 1048576: true; the input reads as it did. -/
def verifyChecksUptoRow : OpenClaim := { program := "ytchcjinaagncjaadoor", sum := "ba4bd5898e2ccf8533e635c06db9d19c75a37a33c6050bb79646cf99fc49398e", func := "burin/burinlaw16.VerifyChecks", spec := "verifyChecks", unfollowed := true, recurses := true, named := ["burin/prog.operations", "math/bits.deBruijn64tab"], plainKeys := false, apart := false, laid := [("math/bits.deBruijn64tab", laid_math_bits_deBruijn64tab), ("burin/prog.operations", laid_burin_prog_operations)], narrowed := true }
def VerifyChecksUptoSaid : Prop := verifyChecksUptoRow.holds Tryd.pinned (OpenSpec.upto verifyChecksSpec)

/-- 'burinlaw16.VerifyOrders', WHERE WHAT IT READS IS OF BULK AT MOST 1048576: true; the input reads as it did. -/
def verifyOrdersUptoRow : OpenClaim := { program := "ytchcjinaagncjaadoor", sum := "ba4bd5898e2ccf8533e635c06db9d19c75a37a33c6050bb79646cf99fc49398e", func := "burin/burinlaw16.VerifyOrders", spec := "verifyOrders", unfollowed := true, recurses := true, named := ["burin/prog.operations", "math/bits.deBruijn64tab"], plainKeys := false, apart := false, laid := [("math/bits.deBruijn64tab", laid_math_bits_deBruijn64tab), ("burin/prog.operations", laid_burin_prog_operations)], narrowed := true }
def VerifyOrdersUptoSaid : Prop := verifyOrdersUptoRow.holds Tryd.pinned (OpenSpec.upto verifyOrdersSpec)

/-- 'burinlaw16.VerifyLoops', WHERE WHAT IT READS IS OF BULK AT MOST 1048576: true; the input reads as it did. -/
def verifyLoopsUptoRow : OpenClaim := { program := "ytchcjinaagncjaadoor", sum := "ba4bd5898e2ccf8533e635c06db9d19c75a37a33c6050bb79646cf99fc49398e", func := "burin/burinlaw16.VerifyLoops", spec := "verifyLoops", unfollowed := true, recurses := true, named := ["burin/prog.operations", "math/bits.deBruijn64tab"], plainKeys := false, apart := false, laid := [("math/bits.deBruijn64tab", laid_math_bits_deBruijn64tab), ("burin/prog.operations", laid_burin_prog_operations)], narrowed := true }
def VerifyLoopsUptoSaid : Prop := verifyLoopsUptoRow.holds Tryd.pinned (OpenSpec.upto verifyLoopsSpec)

/-- 'burinlaw16.VerifyBytes', WHERE WHAT IT READS IS OF BULK AT MOST 1048576: true; the input reads as it did. -/
def verifyBytesUptoRow : OpenClaim := { program := "ytchcjinaagncjaadoor", sum := "ba4bd5898e2ccf8533e635c06db9d19c75a37a33c6050bb79646cf99fc49398e", func := "burin/burinlaw16.VerifyBytes", spec := "verifyBytes", unfollowed := true, recurses := true, named := ["burin/prog.operations", "math/bits.deBruijn64tab"], plainKeys := false, apart := false, laid := [("math/bits.deBruijn64tab", laid_math_bits_deBruijn64tab), ("burin/prog.operations", laid_burin_prog_operations)], narrowed := true }
def VerifyBytesUptoSaid : Prop := verifyBytesUptoRow.holds Tryd.pinned (OpenSpec.upto verifyBytesSpec)

end Rows
end Go.Proofs.YtchcjinaagncjaaDoor
