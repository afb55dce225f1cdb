/-
  NARROWER THAN 'FOR EVERY INPUT', by the rows' own cells (each row's printed sentence says how): AstCheck: loops, laid · AstExpr: loops, laid · AstShape: loops, laid · AstEqual: loops, laid · AstLocals: loops, laid · AstBlocks: loops, laid · FormatUnits: loops, laid · FormatExprs: loops, laid · FormatRoundTrip: loops, laid · FormatBack: loops, laid · FormatLayout: loops, laid.
  DERIVED. THE GIVEN ROWS OF THIS SEAT. 11 by the template 'for every input the law returns true; each argument reads behind the call as it read before'; 0 by the template 'total and deterministic' (their statements: YtiaendggmamnkaaGreatDoorTotals.lean).
  GIVEN WITH THE SEED: the statements are not yours to turn. If you find one false, say at which input.
  Laid BY PROGRAM, IN A SANDBOX (cutbox-rows.mjs): the forced cells as the released guide's own fill.sh prints them over the translation 4a1b95eb61857e32… (all of the seat's roots in one cut). By AI agents, Wed Nov 11 2026. No macro, syntax, notation, axiom, sorry.
-/
import Derived.Test.YtiaendggmamnkaaGreatDoorChecked
import GoSem.Claim
import GoSem.ClaimJoined
import GoSem.ClaimMapViews
import Derived.JoinedTies
import Derived.KernelRfl
namespace Go.Proofs.YtiaendggmamnkaaGreatDoor
/- THE CELL 'sum', in the pinned program and in every row, IS THE sha256 OF THE DUMP (.gsa) THAT YtiaendggmamnkaaGreatDoorProg.lean LOADS. Nothing in Lean hashes anything: it is a label: what it is worth is what the hold of that sum in a sandbox is worth. -/
noncomputable def Tryz.pinned : Pinned := { name := "ytiaendggmamnkaagreatdoor", sum := "4a1b95eb61857e32c50a69c0c9e3ab172d8406c9e55557857c7d9b44a1c812c1", checked := Tryz.checked }
namespace Rows
def none {H : Type} : Left H := { results := [], args := [] }

/- WHAT THE LISTED PACKAGE-LEVEL VARIABLES READ AS WHEN THE CALL BEGINS. Each datum BY PROGRAM (the guide's laid-datum.mjs) off the statement by which the dump's own 'gosem.cut.vars' lays the variable. In a bare row this is a premise. The card (YtiaendggmamnkaaGreatDoorCards.lean) ties it to the program's text. -/
def laid_modelcheck_ast_rows {H : Type} : DataW H := .agg [.agg [.lit (.bool false), .lit (.bool false), .lit (.bool false), .lit (.int .i64 0), .lit (.int .i64 0), .lit (.int .i64 0), .lit (.bool false), .lit (.bool false)], .agg [.lit (.bool true), .lit (.bool false), .lit (.bool false), .lit (.int .i64 0), .lit (.int .i64 0), .lit (.int .i64 1), .lit (.bool false), .lit (.bool false)], .agg [.lit (.bool true), .lit (.bool false), .lit (.bool true), .lit (.int .i64 1), .lit (.int .i64 0), .lit (.int .i64 0), .lit (.bool false), .lit (.bool false)], .agg [.lit (.bool false), .lit (.bool false), .lit (.bool true), .lit (.int .i64 1), .lit (.int .i64 0), .lit (.int .i64 1), .lit (.bool false), .lit (.bool false)], .agg [.lit (.bool true), .lit (.bool false), .lit (.bool true), .lit (.int .i64 1), .lit (.int .i64 0), .lit (.int .i64 1), .lit (.bool false), .lit (.bool false)], .agg [.lit (.bool true), .lit (.bool false), .lit (.bool true), .lit (.int .i64 1), .lit (.int .i64 0), .lit (.int .i64 1), .lit (.bool false), .lit (.bool false)], .agg [.lit (.bool true), .lit (.bool false), .lit (.bool true), .lit (.int .i64 1), .lit (.int .i64 0), .lit (.int .i64 2), .lit (.bool false), .lit (.bool false)], .agg [.lit (.bool false), .lit (.bool false), .lit (.bool false), .lit (.int .i64 0), .lit (.int .i64 0), .lit (.int .i64 0), .lit (.bool false), .lit (.bool false)], .agg [.lit (.bool true), .lit (.bool true), .lit (.bool true), .lit (.int .i64 1), .lit (.int .i64 0), .lit (.int .i64 1), .lit (.bool false), .lit (.bool false)], .agg [.lit (.bool false), .lit (.bool false), .lit (.bool false), .lit (.int .i64 2), .lit (.int .i64 0), .lit (.int .i64 0), .lit (.bool false), .lit (.bool false)], .agg [.lit (.bool false), .lit (.bool false), .lit (.bool false), .lit (.int .i64 2), .lit (.int .i64 0), .lit (.int .i64 0), .lit (.bool false), .lit (.bool false)], .agg [.lit (.bool true), .lit (.bool false), .lit (.bool false), .lit (.int .i64 2), .lit (.int .i64 0), .lit (.int .i64 0), .lit (.bool false), .lit (.bool false)], .agg [.lit (.bool false), .lit (.bool false), .lit (.bool false), .lit (.int .i64 3), .lit (.int .i64 2), .lit (.int .i64 0), .lit (.bool false), .lit (.bool false)], .agg [.lit (.bool false), .lit (.bool false), .lit (.bool false), .lit (.int .i64 3), .lit (.int .i64 0), .lit (.int .i64 0), .lit (.bool false), .lit (.bool false)], .agg [.lit (.bool false), .lit (.bool false), .lit (.bool false), .lit (.int .i64 3), .lit (.int .i64 0), .lit (.int .i64 0), .lit (.bool false), .lit (.bool false)], .agg [.lit (.bool true), .lit (.bool false), .lit (.bool false), .lit (.int .i64 4), .lit (.int .i64 0), .lit (.int .i64 1), .lit (.bool false), .lit (.bool false)], .agg [.lit (.bool false), .lit (.bool false), .lit (.bool false), .lit (.int .i64 0), .lit (.int .i64 0), .lit (.int .i64 1), .lit (.bool false), .lit (.bool false)], .agg [.lit (.bool false), .lit (.bool false), .lit (.bool false), .lit (.int .i64 0), .lit (.int .i64 0), .lit (.int .i64 1), .lit (.bool false), .lit (.bool false)], .agg [.lit (.bool false), .lit (.bool false), .lit (.bool false), .lit (.int .i64 0), .lit (.int .i64 0), .lit (.int .i64 1), .lit (.bool true), .lit (.bool true)], .agg [.lit (.bool false), .lit (.bool false), .lit (.bool false), .lit (.int .i64 0), .lit (.int .i64 0), .lit (.int .i64 1), .lit (.bool true), .lit (.bool false)], .agg [.lit (.bool false), .lit (.bool false), .lit (.bool false), .lit (.int .i64 0), .lit (.int .i64 0), .lit (.int .i64 0), .lit (.bool false), .lit (.bool false)]]
def laid_math_bits_deBruijn32tab {H : Type} : DataW H := .agg [.lit (.int .u8 0), .lit (.int .u8 1), .lit (.int .u8 28), .lit (.int .u8 2), .lit (.int .u8 29), .lit (.int .u8 14), .lit (.int .u8 24), .lit (.int .u8 3), .lit (.int .u8 30), .lit (.int .u8 22), .lit (.int .u8 20), .lit (.int .u8 15), .lit (.int .u8 25), .lit (.int .u8 17), .lit (.int .u8 4), .lit (.int .u8 8), .lit (.int .u8 31), .lit (.int .u8 27), .lit (.int .u8 13), .lit (.int .u8 23), .lit (.int .u8 21), .lit (.int .u8 19), .lit (.int .u8 16), .lit (.int .u8 7), .lit (.int .u8 26), .lit (.int .u8 12), .lit (.int .u8 18), .lit (.int .u8 6), .lit (.int .u8 11), .lit (.int .u8 5), .lit (.int .u8 10), .lit (.int .u8 9)]
def laid_math_bits_deBruijn64tab {H : Type} : DataW H := .agg [.lit (.int .u8 0), .lit (.int .u8 1), .lit (.int .u8 56), .lit (.int .u8 2), .lit (.int .u8 57), .lit (.int .u8 49), .lit (.int .u8 28), .lit (.int .u8 3), .lit (.int .u8 61), .lit (.int .u8 58), .lit (.int .u8 42), .lit (.int .u8 50), .lit (.int .u8 38), .lit (.int .u8 29), .lit (.int .u8 17), .lit (.int .u8 4), .lit (.int .u8 62), .lit (.int .u8 47), .lit (.int .u8 59), .lit (.int .u8 36), .lit (.int .u8 45), .lit (.int .u8 43), .lit (.int .u8 51), .lit (.int .u8 22), .lit (.int .u8 53), .lit (.int .u8 39), .lit (.int .u8 33), .lit (.int .u8 30), .lit (.int .u8 24), .lit (.int .u8 18), .lit (.int .u8 12), .lit (.int .u8 5), .lit (.int .u8 63), .lit (.int .u8 55), .lit (.int .u8 48), .lit (.int .u8 27), .lit (.int .u8 60), .lit (.int .u8 41), .lit (.int .u8 37), .lit (.int .u8 16), .lit (.int .u8 46), .lit (.int .u8 35), .lit (.int .u8 44), .lit (.int .u8 21), .lit (.int .u8 52), .lit (.int .u8 32), .lit (.int .u8 23), .lit (.int .u8 11), .lit (.int .u8 54), .lit (.int .u8 26), .lit (.int .u8 40), .lit (.int .u8 15), .lit (.int .u8 34), .lit (.int .u8 20), .lit (.int .u8 31), .lit (.int .u8 10), .lit (.int .u8 25), .lit (.int .u8 14), .lit (.int .u8 19), .lit (.int .u8 9), .lit (.int .u8 13), .lit (.int .u8 8), .lit (.int .u8 7), .lit (.int .u8 6)]
def laid_internal_strconv_uint64pow10 {H : Type} : DataW H := .agg [.lit (.int .u64 1), .lit (.int .u64 10), .lit (.int .u64 100), .lit (.int .u64 1000), .lit (.int .u64 10000), .lit (.int .u64 100000), .lit (.int .u64 1000000), .lit (.int .u64 10000000), .lit (.int .u64 100000000), .lit (.int .u64 1000000000), .lit (.int .u64 10000000000), .lit (.int .u64 100000000000), .lit (.int .u64 1000000000000), .lit (.int .u64 10000000000000), .lit (.int .u64 100000000000000), .lit (.int .u64 1000000000000000), .lit (.int .u64 10000000000000000), .lit (.int .u64 100000000000000000), .lit (.int .u64 1000000000000000000), .lit (.int .u64 10000000000000000000)]
def laid_modelcheck_value_names {H : Type} : DataW H := .agg [.lit (.string []), .lit (.string [97, 100, 100]), .lit (.string [115, 117, 98]), .lit (.string [109, 117, 108]), .lit (.string [97, 110, 100]), .lit (.string [111, 114]), .lit (.string [120, 111, 114]), .lit (.string [101, 113]), .lit (.string [110, 101]), .lit (.string [108, 116]), .lit (.string [108, 101])]
def laid_modelcheck_inst_orderNames {H : Type} : DataW H := .agg [.lit (.string [112, 108, 97, 105, 110]), .lit (.string [114, 101, 108, 97, 120, 101, 100]), .lit (.string [114, 101, 108, 97, 99, 113])]
def laid_modelcheck_format_forms {H : Type} : DataW H := .agg [.lit (.string []), .lit (.string [88, 32, 61, 32, 69, 59]), .lit (.string [88, 32, 61, 32, 108, 111, 97, 100, 32, 79, 32, 82, 59]), .lit (.string [115, 116, 111, 114, 101, 32, 79, 32, 82, 32, 69, 59]), .lit (.string [88, 32, 61, 32, 115, 119, 97, 112, 32, 79, 32, 82, 32, 69, 59]), .lit (.string [88, 32, 61, 32, 102, 101, 116, 99, 104, 97, 100, 100, 32, 79, 32, 82, 32, 69, 59]), .lit (.string [88, 32, 61, 32, 99, 97, 115, 32, 79, 32, 82, 32, 69, 44, 32, 70, 59]), .lit (.string [102, 101, 110, 99, 101, 59]), .lit (.string [88, 32, 61, 32, 97, 119, 97, 105, 116, 32, 79, 32, 82, 32, 78, 32, 69, 59]), .lit (.string [108, 111, 99, 107, 32, 79, 59]), .lit (.string [117, 110, 108, 111, 99, 107, 32, 79, 59]), .lit (.string [88, 32, 61, 32, 116, 114, 121, 108, 111, 99, 107, 32, 79, 59]), .lit (.string [119, 97, 105, 116, 32, 79, 32, 77, 59]), .lit (.string [115, 105, 103, 110, 97, 108, 32, 79, 59]), .lit (.string [98, 114, 111, 97, 100, 99, 97, 115, 116, 32, 79, 59]), .lit (.string [88, 32, 61, 32, 115, 112, 97, 119, 110, 32, 79, 32, 69, 59]), .lit (.string [106, 111, 105, 110, 32, 69, 59]), .lit (.string [97, 115, 115, 101, 114, 116, 32, 69, 59]), .lit (.string [105, 102, 32, 69, 66, 76]), .lit (.string [119, 104, 105, 108, 101, 32, 69, 66]), .lit (.string [114, 101, 116, 117, 114, 110, 59])]
def laid_strconv_ErrRange {H : Type} : DataW H := .iface "*errors.errorString" (.ptr (.agg [.lit (.string [118, 97, 108, 117, 101, 32, 111, 117, 116, 32, 111, 102, 32, 114, 97, 110, 103, 101])]))
def laid_strconv_ErrSyntax {H : Type} : DataW H := .iface "*errors.errorString" (.ptr (.agg [.lit (.string [105, 110, 118, 97, 108, 105, 100, 32, 115, 121, 110, 116, 97, 120])]))
def laid_modelcheck_parse_forms {H : Type} : DataW H := .agg [.agg [.lit (.string []), .lit (.bool false), .nil], .agg [.lit (.string []), .lit (.bool true), .slice [.lit (.int .i64 4), .lit (.int .i64 8)] []], .agg [.lit (.string [108, 111, 97, 100]), .lit (.bool true), .slice [.lit (.int .i64 0), .lit (.int .i64 2), .lit (.int .i64 8)] []], .agg [.lit (.string [115, 116, 111, 114, 101]), .lit (.bool false), .slice [.lit (.int .i64 0), .lit (.int .i64 2), .lit (.int .i64 4), .lit (.int .i64 8)] []], .agg [.lit (.string [115, 119, 97, 112]), .lit (.bool true), .slice [.lit (.int .i64 0), .lit (.int .i64 2), .lit (.int .i64 4), .lit (.int .i64 8)] []], .agg [.lit (.string [102, 101, 116, 99, 104, 97, 100, 100]), .lit (.bool true), .slice [.lit (.int .i64 0), .lit (.int .i64 2), .lit (.int .i64 4), .lit (.int .i64 8)] []], .agg [.lit (.string [99, 97, 115]), .lit (.bool true), .slice [.lit (.int .i64 0), .lit (.int .i64 2), .lit (.int .i64 4), .lit (.int .i64 7), .lit (.int .i64 4), .lit (.int .i64 8)] []], .agg [.lit (.string [102, 101, 110, 99, 101]), .lit (.bool false), .slice [.lit (.int .i64 8)] []], .agg [.lit (.string [97, 119, 97, 105, 116]), .lit (.bool true), .slice [.lit (.int .i64 0), .lit (.int .i64 2), .lit (.int .i64 3), .lit (.int .i64 4), .lit (.int .i64 8)] []], .agg [.lit (.string [108, 111, 99, 107]), .lit (.bool false), .slice [.lit (.int .i64 0), .lit (.int .i64 8)] []], .agg [.lit (.string [117, 110, 108, 111, 99, 107]), .lit (.bool false), .slice [.lit (.int .i64 0), .lit (.int .i64 8)] []], .agg [.lit (.string [116, 114, 121, 108, 111, 99, 107]), .lit (.bool true), .slice [.lit (.int .i64 0), .lit (.int .i64 8)] []], .agg [.lit (.string [119, 97, 105, 116]), .lit (.bool false), .slice [.lit (.int .i64 0), .lit (.int .i64 1), .lit (.int .i64 8)] []], .agg [.lit (.string [115, 105, 103, 110, 97, 108]), .lit (.bool false), .slice [.lit (.int .i64 0), .lit (.int .i64 8)] []], .agg [.lit (.string [98, 114, 111, 97, 100, 99, 97, 115, 116]), .lit (.bool false), .slice [.lit (.int .i64 0), .lit (.int .i64 8)] []], .agg [.lit (.string [115, 112, 97, 119, 110]), .lit (.bool true), .slice [.lit (.int .i64 0), .lit (.int .i64 4), .lit (.int .i64 8)] []], .agg [.lit (.string [106, 111, 105, 110]), .lit (.bool false), .slice [.lit (.int .i64 4), .lit (.int .i64 8)] []], .agg [.lit (.string [97, 115, 115, 101, 114, 116]), .lit (.bool false), .slice [.lit (.int .i64 4), .lit (.int .i64 8)] []], .agg [.lit (.string [105, 102]), .lit (.bool false), .slice [.lit (.int .i64 4), .lit (.int .i64 5), .lit (.int .i64 6)] []], .agg [.lit (.string [119, 104, 105, 108, 101]), .lit (.bool false), .slice [.lit (.int .i64 4), .lit (.int .i64 5)] []], .agg [.lit (.string [114, 101, 116, 117, 114, 110]), .lit (.bool false), .slice [.lit (.int .i64 8)] []]]

/-- 'modelchecklaw16.AstCheck': WHATEVER THE INPUT: true; the input reads as it did. -/
def astCheckSpec : ChangeSpec := { name := "astCheck", fn := fun _ => fun
  | [d] => { results := [.lit (.bool true)], args := [d] }
  | _ => none }
def astCheckRow : OpenClaim := { program := "ytiaendggmamnkaagreatdoor", sum := "4a1b95eb61857e32c50a69c0c9e3ab172d8406c9e55557857c7d9b44a1c812c1", func := "modelcheck/modelchecklaw16.AstCheck", spec := "astCheck", unfollowed := true, recurses := true, named := ["modelcheck/ast.rows"], loops := true, plainKeys := false, apart := false, laid := [("modelcheck/ast.rows", laid_modelcheck_ast_rows)] }
def AstCheckSaid : Prop := astCheckRow.holds Tryz.pinned (OpenSpec.ofChange astCheckSpec)

/-- ITS FALSE NEIGHBOUR: 'it returns false'. Refute it at one input. -/
def astCheckWrong : ChangeSpec := { name := "astCheck", fn := fun _ => fun
  | [d] => { results := [.lit (.bool false)], args := [d] }
  | _ => none }
def AstCheckWrongFalsely : Prop := astCheckRow.holds Tryz.pinned (OpenSpec.ofChange astCheckWrong)

/-- 'modelchecklaw16.AstExpr': WHATEVER THE INPUT: true; the input reads as it did. -/
def astExprSpec : ChangeSpec := { name := "astExpr", fn := fun _ => fun
  | [d1, d2] => { results := [.lit (.bool true)], args := [d1, d2] }
  | _ => none }
def astExprRow : OpenClaim := { program := "ytiaendggmamnkaagreatdoor", sum := "4a1b95eb61857e32c50a69c0c9e3ab172d8406c9e55557857c7d9b44a1c812c1", func := "modelcheck/modelchecklaw16.AstExpr", spec := "astExpr", unfollowed := true, recurses := true, named := ["modelcheck/ast.rows"], loops := true, plainKeys := false, apart := false, laid := [("modelcheck/ast.rows", laid_modelcheck_ast_rows)] }
def AstExprSaid : Prop := astExprRow.holds Tryz.pinned (OpenSpec.ofChange astExprSpec)

/-- ITS FALSE NEIGHBOUR: 'it returns false'. Refute it at one input. -/
def astExprWrong : ChangeSpec := { name := "astExpr", fn := fun _ => fun
  | [d1, d2] => { results := [.lit (.bool false)], args := [d1, d2] }
  | _ => none }
def AstExprWrongFalsely : Prop := astExprRow.holds Tryz.pinned (OpenSpec.ofChange astExprWrong)

/-- 'modelchecklaw16.AstShape': WHATEVER THE INPUT: true; the input reads as it did. -/
def astShapeSpec : ChangeSpec := { name := "astShape", fn := fun _ => fun
  | [d] => { results := [.lit (.bool true)], args := [d] }
  | _ => none }
def astShapeRow : OpenClaim := { program := "ytiaendggmamnkaagreatdoor", sum := "4a1b95eb61857e32c50a69c0c9e3ab172d8406c9e55557857c7d9b44a1c812c1", func := "modelcheck/modelchecklaw16.AstShape", spec := "astShape", unfollowed := true, recurses := true, named := ["modelcheck/ast.rows"], loops := true, plainKeys := false, apart := false, laid := [("modelcheck/ast.rows", laid_modelcheck_ast_rows)] }
def AstShapeSaid : Prop := astShapeRow.holds Tryz.pinned (OpenSpec.ofChange astShapeSpec)

/-- ITS FALSE NEIGHBOUR: 'it returns false'. Refute it at one input. -/
def astShapeWrong : ChangeSpec := { name := "astShape", fn := fun _ => fun
  | [d] => { results := [.lit (.bool false)], args := [d] }
  | _ => none }
def AstShapeWrongFalsely : Prop := astShapeRow.holds Tryz.pinned (OpenSpec.ofChange astShapeWrong)

/-- 'modelchecklaw16.AstEqual': WHATEVER THE INPUT: true; the input reads as it did. -/
def astEqualSpec : ChangeSpec := { name := "astEqual", fn := fun _ => fun
  | [d1, d2] => { results := [.lit (.bool true)], args := [d1, d2] }
  | _ => none }
def astEqualRow : OpenClaim := { program := "ytiaendggmamnkaagreatdoor", sum := "4a1b95eb61857e32c50a69c0c9e3ab172d8406c9e55557857c7d9b44a1c812c1", func := "modelcheck/modelchecklaw16.AstEqual", spec := "astEqual", unfollowed := true, recurses := true, named := ["modelcheck/ast.rows"], loops := true, plainKeys := false, apart := false, laid := [("modelcheck/ast.rows", laid_modelcheck_ast_rows)] }
def AstEqualSaid : Prop := astEqualRow.holds Tryz.pinned (OpenSpec.ofChange astEqualSpec)

/-- ITS FALSE NEIGHBOUR: 'it returns false'. Refute it at one input. -/
def astEqualWrong : ChangeSpec := { name := "astEqual", fn := fun _ => fun
  | [d1, d2] => { results := [.lit (.bool false)], args := [d1, d2] }
  | _ => none }
def AstEqualWrongFalsely : Prop := astEqualRow.holds Tryz.pinned (OpenSpec.ofChange astEqualWrong)

/-- 'modelchecklaw16.AstLocals': WHATEVER THE INPUT: true; the input reads as it did. -/
def astLocalsSpec : ChangeSpec := { name := "astLocals", fn := fun _ => fun
  | [d] => { results := [.lit (.bool true)], args := [d] }
  | _ => none }
def astLocalsRow : OpenClaim := { program := "ytiaendggmamnkaagreatdoor", sum := "4a1b95eb61857e32c50a69c0c9e3ab172d8406c9e55557857c7d9b44a1c812c1", func := "modelcheck/modelchecklaw16.AstLocals", spec := "astLocals", unfollowed := true, recurses := true, named := ["modelcheck/ast.rows"], loops := true, plainKeys := false, apart := false, laid := [("modelcheck/ast.rows", laid_modelcheck_ast_rows)] }
def AstLocalsSaid : Prop := astLocalsRow.holds Tryz.pinned (OpenSpec.ofChange astLocalsSpec)

/-- ITS FALSE NEIGHBOUR: 'it returns false'. Refute it at one input. -/
def astLocalsWrong : ChangeSpec := { name := "astLocals", fn := fun _ => fun
  | [d] => { results := [.lit (.bool false)], args := [d] }
  | _ => none }
def AstLocalsWrongFalsely : Prop := astLocalsRow.holds Tryz.pinned (OpenSpec.ofChange astLocalsWrong)

/-- 'modelchecklaw16.AstBlocks': WHATEVER THE INPUT: true; the input reads as it did. -/
def astBlocksSpec : ChangeSpec := { name := "astBlocks", fn := fun _ => fun
  | [d1, d2] => { results := [.lit (.bool true)], args := [d1, d2] }
  | _ => none }
def astBlocksRow : OpenClaim := { program := "ytiaendggmamnkaagreatdoor", sum := "4a1b95eb61857e32c50a69c0c9e3ab172d8406c9e55557857c7d9b44a1c812c1", func := "modelcheck/modelchecklaw16.AstBlocks", spec := "astBlocks", unfollowed := true, recurses := true, named := ["modelcheck/ast.rows"], loops := true, plainKeys := false, apart := false, laid := [("modelcheck/ast.rows", laid_modelcheck_ast_rows)] }
def AstBlocksSaid : Prop := astBlocksRow.holds Tryz.pinned (OpenSpec.ofChange astBlocksSpec)

/-- ITS FALSE NEIGHBOUR: 'it returns false'. Refute it at one input. -/
def astBlocksWrong : ChangeSpec := { name := "astBlocks", fn := fun _ => fun
  | [d1, d2] => { results := [.lit (.bool false)], args := [d1, d2] }
  | _ => none }
def AstBlocksWrongFalsely : Prop := astBlocksRow.holds Tryz.pinned (OpenSpec.ofChange astBlocksWrong)

/-- 'modelchecklaw18.FormatUnits': WHATEVER THE INPUT: true; the input reads as it did. -/
def formatUnitsSpec : ChangeSpec := { name := "formatUnits", fn := fun _ => fun
  | [d] => { results := [.lit (.bool true)], args := [d] }
  | _ => none }
def formatUnitsRow : OpenClaim := { program := "ytiaendggmamnkaagreatdoor", sum := "4a1b95eb61857e32c50a69c0c9e3ab172d8406c9e55557857c7d9b44a1c812c1", func := "modelcheck/modelchecklaw18.FormatUnits", spec := "formatUnits", inPlace := ["internal/abi.NoEscape", "internal/bytealg.MakeNoZero"], unfollowed := true, recurses := true, named := ["modelcheck/ast.rows", "internal/strconv.uint64pow10", "math/bits.deBruijn32tab", "math/bits.deBruijn64tab", "modelcheck/format.forms", "modelcheck/inst.orderNames", "modelcheck/value.names"], loops := true, plainKeys := false, apart := false, laid := [("math/bits.deBruijn32tab", laid_math_bits_deBruijn32tab), ("math/bits.deBruijn64tab", laid_math_bits_deBruijn64tab), ("internal/strconv.uint64pow10", laid_internal_strconv_uint64pow10), ("modelcheck/value.names", laid_modelcheck_value_names), ("modelcheck/inst.orderNames", laid_modelcheck_inst_orderNames), ("modelcheck/ast.rows", laid_modelcheck_ast_rows), ("modelcheck/format.forms", laid_modelcheck_format_forms)] }
def FormatUnitsSaid : Prop := formatUnitsRow.holds Tryz.pinned (OpenSpec.ofChange formatUnitsSpec)

/-- ITS FALSE NEIGHBOUR: 'it returns false'. Refute it at one input. -/
def formatUnitsWrong : ChangeSpec := { name := "formatUnits", fn := fun _ => fun
  | [d] => { results := [.lit (.bool false)], args := [d] }
  | _ => none }
def FormatUnitsWrongFalsely : Prop := formatUnitsRow.holds Tryz.pinned (OpenSpec.ofChange formatUnitsWrong)

/-- 'modelchecklaw18.FormatExprs': WHATEVER THE INPUT: true; the input reads as it did. -/
def formatExprsSpec : ChangeSpec := { name := "formatExprs", fn := fun _ => fun
  | [d] => { results := [.lit (.bool true)], args := [d] }
  | _ => none }
def formatExprsRow : OpenClaim := { program := "ytiaendggmamnkaagreatdoor", sum := "4a1b95eb61857e32c50a69c0c9e3ab172d8406c9e55557857c7d9b44a1c812c1", func := "modelcheck/modelchecklaw18.FormatExprs", spec := "formatExprs", inPlace := ["internal/abi.NoEscape", "internal/bytealg.MakeNoZero"], unfollowed := true, recurses := true, named := ["modelcheck/ast.rows", "internal/strconv.uint64pow10", "math/bits.deBruijn32tab", "math/bits.deBruijn64tab", "modelcheck/format.forms", "modelcheck/inst.orderNames", "modelcheck/value.names"], loops := true, plainKeys := false, apart := false, laid := [("math/bits.deBruijn32tab", laid_math_bits_deBruijn32tab), ("math/bits.deBruijn64tab", laid_math_bits_deBruijn64tab), ("internal/strconv.uint64pow10", laid_internal_strconv_uint64pow10), ("modelcheck/value.names", laid_modelcheck_value_names), ("modelcheck/inst.orderNames", laid_modelcheck_inst_orderNames), ("modelcheck/ast.rows", laid_modelcheck_ast_rows), ("modelcheck/format.forms", laid_modelcheck_format_forms)] }
def FormatExprsSaid : Prop := formatExprsRow.holds Tryz.pinned (OpenSpec.ofChange formatExprsSpec)

/-- ITS FALSE NEIGHBOUR: 'it returns false'. Refute it at one input. -/
def formatExprsWrong : ChangeSpec := { name := "formatExprs", fn := fun _ => fun
  | [d] => { results := [.lit (.bool false)], args := [d] }
  | _ => none }
def FormatExprsWrongFalsely : Prop := formatExprsRow.holds Tryz.pinned (OpenSpec.ofChange formatExprsWrong)

/-- 'modelchecklaw18.FormatRoundTrip': WHATEVER THE INPUT: true; the input reads as it did. -/
def formatRoundTripSpec : ChangeSpec := { name := "formatRoundTrip", fn := fun _ => fun
  | [d] => { results := [.lit (.bool true)], args := [d] }
  | _ => none }
def formatRoundTripRow : OpenClaim := { program := "ytiaendggmamnkaagreatdoor", sum := "4a1b95eb61857e32c50a69c0c9e3ab172d8406c9e55557857c7d9b44a1c812c1", func := "modelcheck/modelchecklaw18.FormatRoundTrip", spec := "formatRoundTrip", inPlace := ["internal/abi.NoEscape", "internal/bytealg.MakeNoZero", "internal/bytealg.IndexByteString"], unfollowed := true, recurses := true, named := ["modelcheck/ast.rows", "internal/strconv.uint64pow10", "math/bits.deBruijn32tab", "math/bits.deBruijn64tab", "modelcheck/format.forms", "modelcheck/inst.orderNames", "modelcheck/value.names", "strconv.ErrSyntax", "strconv.ErrRange", "modelcheck/parse.forms"], loops := true, plainKeys := false, apart := false, laid := [("math/bits.deBruijn32tab", laid_math_bits_deBruijn32tab), ("math/bits.deBruijn64tab", laid_math_bits_deBruijn64tab), ("internal/strconv.uint64pow10", laid_internal_strconv_uint64pow10), ("strconv.ErrRange", laid_strconv_ErrRange), ("strconv.ErrSyntax", laid_strconv_ErrSyntax), ("modelcheck/value.names", laid_modelcheck_value_names), ("modelcheck/inst.orderNames", laid_modelcheck_inst_orderNames), ("modelcheck/ast.rows", laid_modelcheck_ast_rows), ("modelcheck/format.forms", laid_modelcheck_format_forms), ("modelcheck/parse.forms", laid_modelcheck_parse_forms)] }
def FormatRoundTripSaid : Prop := formatRoundTripRow.holds Tryz.pinned (OpenSpec.ofChange formatRoundTripSpec)

/-- ITS FALSE NEIGHBOUR: 'it returns false'. Refute it at one input. -/
def formatRoundTripWrong : ChangeSpec := { name := "formatRoundTrip", fn := fun _ => fun
  | [d] => { results := [.lit (.bool false)], args := [d] }
  | _ => none }
def FormatRoundTripWrongFalsely : Prop := formatRoundTripRow.holds Tryz.pinned (OpenSpec.ofChange formatRoundTripWrong)

/-- 'modelchecklaw18.FormatBack': WHATEVER THE INPUT: true; the input reads as it did. -/
def formatBackSpec : ChangeSpec := { name := "formatBack", fn := fun _ => fun
  | [d] => { results := [.lit (.bool true)], args := [d] }
  | _ => none }
def formatBackRow : OpenClaim := { program := "ytiaendggmamnkaagreatdoor", sum := "4a1b95eb61857e32c50a69c0c9e3ab172d8406c9e55557857c7d9b44a1c812c1", func := "modelcheck/modelchecklaw18.FormatBack", spec := "formatBack", inPlace := ["internal/abi.NoEscape", "internal/bytealg.MakeNoZero", "internal/bytealg.IndexByteString"], unfollowed := true, recurses := true, named := ["modelcheck/ast.rows", "internal/strconv.uint64pow10", "math/bits.deBruijn32tab", "math/bits.deBruijn64tab", "modelcheck/format.forms", "modelcheck/inst.orderNames", "modelcheck/value.names", "strconv.ErrSyntax", "strconv.ErrRange"], loops := true, plainKeys := false, apart := false, laid := [("math/bits.deBruijn32tab", laid_math_bits_deBruijn32tab), ("math/bits.deBruijn64tab", laid_math_bits_deBruijn64tab), ("internal/strconv.uint64pow10", laid_internal_strconv_uint64pow10), ("strconv.ErrRange", laid_strconv_ErrRange), ("strconv.ErrSyntax", laid_strconv_ErrSyntax), ("modelcheck/value.names", laid_modelcheck_value_names), ("modelcheck/inst.orderNames", laid_modelcheck_inst_orderNames), ("modelcheck/ast.rows", laid_modelcheck_ast_rows), ("modelcheck/format.forms", laid_modelcheck_format_forms)] }
def FormatBackSaid : Prop := formatBackRow.holds Tryz.pinned (OpenSpec.ofChange formatBackSpec)

/-- ITS FALSE NEIGHBOUR: 'it returns false'. Refute it at one input. -/
def formatBackWrong : ChangeSpec := { name := "formatBack", fn := fun _ => fun
  | [d] => { results := [.lit (.bool false)], args := [d] }
  | _ => none }
def FormatBackWrongFalsely : Prop := formatBackRow.holds Tryz.pinned (OpenSpec.ofChange formatBackWrong)

/-- 'modelchecklaw18.FormatLayout': WHATEVER THE INPUT: true; the input reads as it did. -/
def formatLayoutSpec : ChangeSpec := { name := "formatLayout", fn := fun _ => fun
  | [d] => { results := [.lit (.bool true)], args := [d] }
  | _ => none }
def formatLayoutRow : OpenClaim := { program := "ytiaendggmamnkaagreatdoor", sum := "4a1b95eb61857e32c50a69c0c9e3ab172d8406c9e55557857c7d9b44a1c812c1", func := "modelcheck/modelchecklaw18.FormatLayout", spec := "formatLayout", inPlace := ["internal/abi.NoEscape", "internal/bytealg.MakeNoZero"], unfollowed := true, recurses := true, named := ["modelcheck/ast.rows", "internal/strconv.uint64pow10", "math/bits.deBruijn32tab", "math/bits.deBruijn64tab", "modelcheck/format.forms", "modelcheck/inst.orderNames", "modelcheck/value.names"], loops := true, plainKeys := false, apart := false, laid := [("math/bits.deBruijn32tab", laid_math_bits_deBruijn32tab), ("math/bits.deBruijn64tab", laid_math_bits_deBruijn64tab), ("internal/strconv.uint64pow10", laid_internal_strconv_uint64pow10), ("modelcheck/value.names", laid_modelcheck_value_names), ("modelcheck/inst.orderNames", laid_modelcheck_inst_orderNames), ("modelcheck/ast.rows", laid_modelcheck_ast_rows), ("modelcheck/format.forms", laid_modelcheck_format_forms)] }
def FormatLayoutSaid : Prop := formatLayoutRow.holds Tryz.pinned (OpenSpec.ofChange formatLayoutSpec)

/-- ITS FALSE NEIGHBOUR: 'it returns false'. Refute it at one input. -/
def formatLayoutWrong : ChangeSpec := { name := "formatLayout", fn := fun _ => fun
  | [d] => { results := [.lit (.bool false)], args := [d] }
  | _ => none }
def FormatLayoutWrongFalsely : Prop := formatLayoutRow.holds Tryz.pinned (OpenSpec.ofChange formatLayoutWrong)

/- THE SECOND FORM. 'bulk': how many values and letters a reading holds, each counted each time it is reached (what is shared counts as often as it is met; a slice's spare places count too). A statement '..UptoSaid' is the law's where the arguments, and the package variables that the reading takes, are together of bulk at most 1048576: NARROWER than '..Said'. Prove '..Said' where nothing that the law and all that it calls make is longer than what came in: it says more and counts as full. Else prove '..UptoSaid'. A law counts once. -/
mutual
def uptoBulk {H : Type} : DataW H → Nat
  | .lit (.string bytes) => bytes.length + 1
  | .lit _ => 1
  | .nil => 1
  | .ptr d => uptoBulk d + 1
  | .slice elems spare => uptoBulkAll elems + uptoBulkAll spare + 1
  | .agg parts => uptoBulkAll parts + 1
  | .iface _ d => uptoBulk d + 1
  | .map entries => uptoBulkEntries entries + 1
  | .held _ => 1
def uptoBulkAll {H : Type} : List (DataW H) → Nat
  | [] => 0
  | d :: r => uptoBulk d + uptoBulkAll r
def uptoBulkEntries {H : Type} : List (Lit × DataW H) → Nat
  | [] => 0
  | x :: r => uptoBulkEntry x + uptoBulkEntries r
def uptoBulkEntry {H : Type} : Lit × DataW H → Nat
  | (.string bytes, d) => bytes.length + uptoBulk d + 1
  | (_, d) => uptoBulk d + 1
 end
def uptoSmall : (H : Type) → List (DataW H) → Bool := fun _ ds => decide (uptoBulkAll ds ≤ 1048576)
def OpenSpec.upto (s : _root_.Go.ChangeSpec) : _root_.Go.OpenSpec := { _root_.Go.OpenSpec.ofChange s with cond := some uptoSmall }

/-- 'modelchecklaw16.AstCheck', WHERE WHAT IT READS IS OF BULK AT MOST 1048576: true; the input reads as it did. -/
def astCheckUptoRow : OpenClaim := { program := "ytiaendggmamnkaagreatdoor", sum := "4a1b95eb61857e32c50a69c0c9e3ab172d8406c9e55557857c7d9b44a1c812c1", func := "modelcheck/modelchecklaw16.AstCheck", spec := "astCheck", unfollowed := true, recurses := true, named := ["modelcheck/ast.rows"], loops := true, plainKeys := false, apart := false, laid := [("modelcheck/ast.rows", laid_modelcheck_ast_rows)], narrowed := true }
def AstCheckUptoSaid : Prop := astCheckUptoRow.holds Tryz.pinned (OpenSpec.upto astCheckSpec)

/-- 'modelchecklaw16.AstExpr', WHERE WHAT IT READS IS OF BULK AT MOST 1048576: true; the input reads as it did. -/
def astExprUptoRow : OpenClaim := { program := "ytiaendggmamnkaagreatdoor", sum := "4a1b95eb61857e32c50a69c0c9e3ab172d8406c9e55557857c7d9b44a1c812c1", func := "modelcheck/modelchecklaw16.AstExpr", spec := "astExpr", unfollowed := true, recurses := true, named := ["modelcheck/ast.rows"], loops := true, plainKeys := false, apart := false, laid := [("modelcheck/ast.rows", laid_modelcheck_ast_rows)], narrowed := true }
def AstExprUptoSaid : Prop := astExprUptoRow.holds Tryz.pinned (OpenSpec.upto astExprSpec)

/-- 'modelchecklaw16.AstShape', WHERE WHAT IT READS IS OF BULK AT MOST 1048576: true; the input reads as it did. -/
def astShapeUptoRow : OpenClaim := { program := "ytiaendggmamnkaagreatdoor", sum := "4a1b95eb61857e32c50a69c0c9e3ab172d8406c9e55557857c7d9b44a1c812c1", func := "modelcheck/modelchecklaw16.AstShape", spec := "astShape", unfollowed := true, recurses := true, named := ["modelcheck/ast.rows"], loops := true, plainKeys := false, apart := false, laid := [("modelcheck/ast.rows", laid_modelcheck_ast_rows)], narrowed := true }
def AstShapeUptoSaid : Prop := astShapeUptoRow.holds Tryz.pinned (OpenSpec.upto astShapeSpec)

/-- 'modelchecklaw16.AstEqual', WHERE WHAT IT READS IS OF BULK AT MOST 1048576: true; the input reads as it did. -/
def astEqualUptoRow : OpenClaim := { program := "ytiaendggmamnkaagreatdoor", sum := "4a1b95eb61857e32c50a69c0c9e3ab172d8406c9e55557857c7d9b44a1c812c1", func := "modelcheck/modelchecklaw16.AstEqual", spec := "astEqual", unfollowed := true, recurses := true, named := ["modelcheck/ast.rows"], loops := true, plainKeys := false, apart := false, laid := [("modelcheck/ast.rows", laid_modelcheck_ast_rows)], narrowed := true }
def AstEqualUptoSaid : Prop := astEqualUptoRow.holds Tryz.pinned (OpenSpec.upto astEqualSpec)

/-- 'modelchecklaw16.AstLocals', WHERE WHAT IT READS IS OF BULK AT MOST 1048576: true; the input reads as it did. -/
def astLocalsUptoRow : OpenClaim := { program := "ytiaendggmamnkaagreatdoor", sum := "4a1b95eb61857e32c50a69c0c9e3ab172d8406c9e55557857c7d9b44a1c812c1", func := "modelcheck/modelchecklaw16.AstLocals", spec := "astLocals", unfollowed := true, recurses := true, named := ["modelcheck/ast.rows"], loops := true, plainKeys := false, apart := false, laid := [("modelcheck/ast.rows", laid_modelcheck_ast_rows)], narrowed := true }
def AstLocalsUptoSaid : Prop := astLocalsUptoRow.holds Tryz.pinned (OpenSpec.upto astLocalsSpec)

/-- 'modelchecklaw16.AstBlocks', WHERE WHAT IT READS IS OF BULK AT MOST 1048576: true; the input reads as it did. -/
def astBlocksUptoRow : OpenClaim := { program := "ytiaendggmamnkaagreatdoor", sum := "4a1b95eb61857e32c50a69c0c9e3ab172d8406c9e55557857c7d9b44a1c812c1", func := "modelcheck/modelchecklaw16.AstBlocks", spec := "astBlocks", unfollowed := true, recurses := true, named := ["modelcheck/ast.rows"], loops := true, plainKeys := false, apart := false, laid := [("modelcheck/ast.rows", laid_modelcheck_ast_rows)], narrowed := true }
def AstBlocksUptoSaid : Prop := astBlocksUptoRow.holds Tryz.pinned (OpenSpec.upto astBlocksSpec)

/-- 'modelchecklaw18.FormatUnits', WHERE WHAT IT READS IS OF BULK AT MOST 1048576: true; the input reads as it did. -/
def formatUnitsUptoRow : OpenClaim := { program := "ytiaendggmamnkaagreatdoor", sum := "4a1b95eb61857e32c50a69c0c9e3ab172d8406c9e55557857c7d9b44a1c812c1", func := "modelcheck/modelchecklaw18.FormatUnits", spec := "formatUnits", inPlace := ["internal/abi.NoEscape", "internal/bytealg.MakeNoZero"], unfollowed := true, recurses := true, named := ["modelcheck/ast.rows", "internal/strconv.uint64pow10", "math/bits.deBruijn32tab", "math/bits.deBruijn64tab", "modelcheck/format.forms", "modelcheck/inst.orderNames", "modelcheck/value.names"], loops := true, plainKeys := false, apart := false, laid := [("math/bits.deBruijn32tab", laid_math_bits_deBruijn32tab), ("math/bits.deBruijn64tab", laid_math_bits_deBruijn64tab), ("internal/strconv.uint64pow10", laid_internal_strconv_uint64pow10), ("modelcheck/value.names", laid_modelcheck_value_names), ("modelcheck/inst.orderNames", laid_modelcheck_inst_orderNames), ("modelcheck/ast.rows", laid_modelcheck_ast_rows), ("modelcheck/format.forms", laid_modelcheck_format_forms)], narrowed := true }
def FormatUnitsUptoSaid : Prop := formatUnitsUptoRow.holds Tryz.pinned (OpenSpec.upto formatUnitsSpec)

/-- 'modelchecklaw18.FormatExprs', WHERE WHAT IT READS IS OF BULK AT MOST 1048576: true; the input reads as it did. -/
def formatExprsUptoRow : OpenClaim := { program := "ytiaendggmamnkaagreatdoor", sum := "4a1b95eb61857e32c50a69c0c9e3ab172d8406c9e55557857c7d9b44a1c812c1", func := "modelcheck/modelchecklaw18.FormatExprs", spec := "formatExprs", inPlace := ["internal/abi.NoEscape", "internal/bytealg.MakeNoZero"], unfollowed := true, recurses := true, named := ["modelcheck/ast.rows", "internal/strconv.uint64pow10", "math/bits.deBruijn32tab", "math/bits.deBruijn64tab", "modelcheck/format.forms", "modelcheck/inst.orderNames", "modelcheck/value.names"], loops := true, plainKeys := false, apart := false, laid := [("math/bits.deBruijn32tab", laid_math_bits_deBruijn32tab), ("math/bits.deBruijn64tab", laid_math_bits_deBruijn64tab), ("internal/strconv.uint64pow10", laid_internal_strconv_uint64pow10), ("modelcheck/value.names", laid_modelcheck_value_names), ("modelcheck/inst.orderNames", laid_modelcheck_inst_orderNames), ("modelcheck/ast.rows", laid_modelcheck_ast_rows), ("modelcheck/format.forms", laid_modelcheck_format_forms)], narrowed := true }
def FormatExprsUptoSaid : Prop := formatExprsUptoRow.holds Tryz.pinned (OpenSpec.upto formatExprsSpec)

/-- 'modelchecklaw18.FormatRoundTrip', WHERE WHAT IT READS IS OF BULK AT MOST 1048576: true; the input reads as it did. -/
def formatRoundTripUptoRow : OpenClaim := { program := "ytiaendggmamnkaagreatdoor", sum := "4a1b95eb61857e32c50a69c0c9e3ab172d8406c9e55557857c7d9b44a1c812c1", func := "modelcheck/modelchecklaw18.FormatRoundTrip", spec := "formatRoundTrip", inPlace := ["internal/abi.NoEscape", "internal/bytealg.MakeNoZero", "internal/bytealg.IndexByteString"], unfollowed := true, recurses := true, named := ["modelcheck/ast.rows", "internal/strconv.uint64pow10", "math/bits.deBruijn32tab", "math/bits.deBruijn64tab", "modelcheck/format.forms", "modelcheck/inst.orderNames", "modelcheck/value.names", "strconv.ErrSyntax", "strconv.ErrRange", "modelcheck/parse.forms"], loops := true, plainKeys := false, apart := false, laid := [("math/bits.deBruijn32tab", laid_math_bits_deBruijn32tab), ("math/bits.deBruijn64tab", laid_math_bits_deBruijn64tab), ("internal/strconv.uint64pow10", laid_internal_strconv_uint64pow10), ("strconv.ErrRange", laid_strconv_ErrRange), ("strconv.ErrSyntax", laid_strconv_ErrSyntax), ("modelcheck/value.names", laid_modelcheck_value_names), ("modelcheck/inst.orderNames", laid_modelcheck_inst_orderNames), ("modelcheck/ast.rows", laid_modelcheck_ast_rows), ("modelcheck/format.forms", laid_modelcheck_format_forms), ("modelcheck/parse.forms", laid_modelcheck_parse_forms)], narrowed := true }
def FormatRoundTripUptoSaid : Prop := formatRoundTripUptoRow.holds Tryz.pinned (OpenSpec.upto formatRoundTripSpec)

/-- 'modelchecklaw18.FormatBack', WHERE WHAT IT READS IS OF BULK AT MOST 1048576: true; the input reads as it did. -/
def formatBackUptoRow : OpenClaim := { program := "ytiaendggmamnkaagreatdoor", sum := "4a1b95eb61857e32c50a69c0c9e3ab172d8406c9e55557857c7d9b44a1c812c1", func := "modelcheck/modelchecklaw18.FormatBack", spec := "formatBack", inPlace := ["internal/abi.NoEscape", "internal/bytealg.MakeNoZero", "internal/bytealg.IndexByteString"], unfollowed := true, recurses := true, named := ["modelcheck/ast.rows", "internal/strconv.uint64pow10", "math/bits.deBruijn32tab", "math/bits.deBruijn64tab", "modelcheck/format.forms", "modelcheck/inst.orderNames", "modelcheck/value.names", "strconv.ErrSyntax", "strconv.ErrRange"], loops := true, plainKeys := false, apart := false, laid := [("math/bits.deBruijn32tab", laid_math_bits_deBruijn32tab), ("math/bits.deBruijn64tab", laid_math_bits_deBruijn64tab), ("internal/strconv.uint64pow10", laid_internal_strconv_uint64pow10), ("strconv.ErrRange", laid_strconv_ErrRange), ("strconv.ErrSyntax", laid_strconv_ErrSyntax), ("modelcheck/value.names", laid_modelcheck_value_names), ("modelcheck/inst.orderNames", laid_modelcheck_inst_orderNames), ("modelcheck/ast.rows", laid_modelcheck_ast_rows), ("modelcheck/format.forms", laid_modelcheck_format_forms)], narrowed := true }
def FormatBackUptoSaid : Prop := formatBackUptoRow.holds Tryz.pinned (OpenSpec.upto formatBackSpec)

/-- 'modelchecklaw18.FormatLayout', WHERE WHAT IT READS IS OF BULK AT MOST 1048576: true; the input reads as it did. -/
def formatLayoutUptoRow : OpenClaim := { program := "ytiaendggmamnkaagreatdoor", sum := "4a1b95eb61857e32c50a69c0c9e3ab172d8406c9e55557857c7d9b44a1c812c1", func := "modelcheck/modelchecklaw18.FormatLayout", spec := "formatLayout", inPlace := ["internal/abi.NoEscape", "internal/bytealg.MakeNoZero"], unfollowed := true, recurses := true, named := ["modelcheck/ast.rows", "internal/strconv.uint64pow10", "math/bits.deBruijn32tab", "math/bits.deBruijn64tab", "modelcheck/format.forms", "modelcheck/inst.orderNames", "modelcheck/value.names"], loops := true, plainKeys := false, apart := false, laid := [("math/bits.deBruijn32tab", laid_math_bits_deBruijn32tab), ("math/bits.deBruijn64tab", laid_math_bits_deBruijn64tab), ("internal/strconv.uint64pow10", laid_internal_strconv_uint64pow10), ("modelcheck/value.names", laid_modelcheck_value_names), ("modelcheck/inst.orderNames", laid_modelcheck_inst_orderNames), ("modelcheck/ast.rows", laid_modelcheck_ast_rows), ("modelcheck/format.forms", laid_modelcheck_format_forms)], narrowed := true }
def FormatLayoutUptoSaid : Prop := formatLayoutUptoRow.holds Tryz.pinned (OpenSpec.upto formatLayoutSpec)

end Rows
end Go.Proofs.YtiaendggmamnkaaGreatDoor
