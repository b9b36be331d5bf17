/-
  No cell of these rows narrows 'for every input' (looked for: loops, veiled, ifaces, maps, wideKeys, modest, calm, conditions, laid).
  DERIVED. THE GIVEN ROWS OF THIS SEAT. 20 by the template 'for every input the law returns true; each argument reads behind the call as it read before'; 0 by the template 'total and deterministic' (their statements: YtenncnbaoejekaaTotals.lean).
  GIVEN WITH THE SEED: the statements are not yours to turn. If you find one false, say at which input.
  Laid BY PROGRAM, IN A SANDBOX (cutbox-rows.mjs): the forced cells as the released guide's own fill.sh prints them over the translation acef746676402af0… (all of the seat's roots in one cut). By AI agents, Wed Nov 11 2026. No macro, syntax, notation, axiom, sorry.
-/
import Derived.Test.YtenncnbaoejekaaChecked
import GoSem.Claim
import GoSem.ClaimJoined
import GoSem.ClaimMapViews
import Derived.JoinedTies
import Derived.KernelRfl
namespace Go.Proofs.Ytenncnbaoejekaa
/- THE CELL 'sum', in the pinned program and in every row, IS THE sha256 OF THE DUMP (.gsa) THAT YtenncnbaoejekaaProg.lean LOADS. Nothing in Lean hashes anything: it is a label: what it is worth is what the hold of that sum in a sandbox is worth. -/
noncomputable def Try.pinned : Pinned := { name := "ytenncnbaoejekaa", sum := "acef746676402af0ffa96c77bfa8d2b57e7dc491a595eecc4504e28447eb696a", checked := Try.checked }
namespace Rows
def none {H : Type} : Left H := { results := [], args := [] }

/-- 'lintellaw4.PmemPlays': WHATEVER THE INPUT: true; the input reads as it did. -/
def pmemPlaysSpec : ChangeSpec := { name := "pmemPlays", fn := fun _ => fun
  | [d1, d2] => { results := [.lit (.bool true)], args := [d1, d2] }
  | _ => none }
def pmemPlaysRow : OpenClaim := { program := "ytenncnbaoejekaa", sum := "acef746676402af0ffa96c77bfa8d2b57e7dc491a595eecc4504e28447eb696a", func := "lintel/lintellaw4.PmemPlays", spec := "pmemPlays", apart := false }
def PmemPlaysSaid : Prop := pmemPlaysRow.holds Try.pinned (OpenSpec.ofChange pmemPlaysSpec)

/-- ITS FALSE NEIGHBOUR: 'it returns false'. Refute it at one input. -/
def pmemPlaysWrong : ChangeSpec := { name := "pmemPlays", fn := fun _ => fun
  | [d1, d2] => { results := [.lit (.bool false)], args := [d1, d2] }
  | _ => none }
def PmemPlaysWrongFalsely : Prop := pmemPlaysRow.holds Try.pinned (OpenSpec.ofChange pmemPlaysWrong)

/-- 'lintellaw4.PmemSure': WHATEVER THE INPUT: true; the input reads as it did. -/
def pmemSureSpec : ChangeSpec := { name := "pmemSure", fn := fun _ => fun
  | [d1, d2, d3] => { results := [.lit (.bool true)], args := [d1, d2, d3] }
  | _ => none }
def pmemSureRow : OpenClaim := { program := "ytenncnbaoejekaa", sum := "acef746676402af0ffa96c77bfa8d2b57e7dc491a595eecc4504e28447eb696a", func := "lintel/lintellaw4.PmemSure", spec := "pmemSure", apart := false }
def PmemSureSaid : Prop := pmemSureRow.holds Try.pinned (OpenSpec.ofChange pmemSureSpec)

/-- ITS FALSE NEIGHBOUR: 'it returns false'. Refute it at one input. -/
def pmemSureWrong : ChangeSpec := { name := "pmemSure", fn := fun _ => fun
  | [d1, d2, d3] => { results := [.lit (.bool false)], args := [d1, d2, d3] }
  | _ => none }
def PmemSureWrongFalsely : Prop := pmemSureRow.holds Try.pinned (OpenSpec.ofChange pmemSureWrong)

/-- 'lintellaw4.PmemFuse': WHATEVER THE INPUT: true; the input reads as it did. -/
def pmemFuseSpec : ChangeSpec := { name := "pmemFuse", fn := fun _ => fun
  | [d1, d2, d3] => { results := [.lit (.bool true)], args := [d1, d2, d3] }
  | _ => none }
def pmemFuseRow : OpenClaim := { program := "ytenncnbaoejekaa", sum := "acef746676402af0ffa96c77bfa8d2b57e7dc491a595eecc4504e28447eb696a", func := "lintel/lintellaw4.PmemFuse", spec := "pmemFuse", apart := false }
def PmemFuseSaid : Prop := pmemFuseRow.holds Try.pinned (OpenSpec.ofChange pmemFuseSpec)

/-- ITS FALSE NEIGHBOUR: 'it returns false'. Refute it at one input. -/
def pmemFuseWrong : ChangeSpec := { name := "pmemFuse", fn := fun _ => fun
  | [d1, d2, d3] => { results := [.lit (.bool false)], args := [d1, d2, d3] }
  | _ => none }
def PmemFuseWrongFalsely : Prop := pmemFuseRow.holds Try.pinned (OpenSpec.ofChange pmemFuseWrong)

/-- 'lintellaw4.PmemAtom': WHATEVER THE INPUT: true; the input reads as it did. -/
def pmemAtomSpec : ChangeSpec := { name := "pmemAtom", fn := fun _ => fun
  | [d1, d2] => { results := [.lit (.bool true)], args := [d1, d2] }
  | _ => none }
def pmemAtomRow : OpenClaim := { program := "ytenncnbaoejekaa", sum := "acef746676402af0ffa96c77bfa8d2b57e7dc491a595eecc4504e28447eb696a", func := "lintel/lintellaw4.PmemAtom", spec := "pmemAtom", apart := false }
def PmemAtomSaid : Prop := pmemAtomRow.holds Try.pinned (OpenSpec.ofChange pmemAtomSpec)

/-- ITS FALSE NEIGHBOUR: 'it returns false'. Refute it at one input. -/
def pmemAtomWrong : ChangeSpec := { name := "pmemAtom", fn := fun _ => fun
  | [d1, d2] => { results := [.lit (.bool false)], args := [d1, d2] }
  | _ => none }
def PmemAtomWrongFalsely : Prop := pmemAtomRow.holds Try.pinned (OpenSpec.ofChange pmemAtomWrong)

/-- 'lintellaw5.SpanSays': WHATEVER THE INPUT: true; the input reads as it did. -/
def spanSaysSpec : ChangeSpec := { name := "spanSays", fn := fun _ => fun
  | [d1, d2, d3, d4, d5, d6] => { results := [.lit (.bool true)], args := [d1, d2, d3, d4, d5, d6] }
  | _ => none }
def spanSaysRow : OpenClaim := { program := "ytenncnbaoejekaa", sum := "acef746676402af0ffa96c77bfa8d2b57e7dc491a595eecc4504e28447eb696a", func := "lintel/lintellaw5.SpanSays", spec := "spanSays", apart := false }
def SpanSaysSaid : Prop := spanSaysRow.holds Try.pinned (OpenSpec.ofChange spanSaysSpec)

/-- ITS FALSE NEIGHBOUR: 'it returns false'. Refute it at one input. -/
def spanSaysWrong : ChangeSpec := { name := "spanSays", fn := fun _ => fun
  | [d1, d2, d3, d4, d5, d6] => { results := [.lit (.bool false)], args := [d1, d2, d3, d4, d5, d6] }
  | _ => none }
def SpanSaysWrongFalsely : Prop := spanSaysRow.holds Try.pinned (OpenSpec.ofChange spanSaysWrong)

/-- 'lintellaw5.SpanSubs': WHATEVER THE INPUT: true; the input reads as it did. -/
def spanSubsSpec : ChangeSpec := { name := "spanSubs", fn := fun _ => fun
  | [d1, d2, d3, d4, d5] => { results := [.lit (.bool true)], args := [d1, d2, d3, d4, d5] }
  | _ => none }
def spanSubsRow : OpenClaim := { program := "ytenncnbaoejekaa", sum := "acef746676402af0ffa96c77bfa8d2b57e7dc491a595eecc4504e28447eb696a", func := "lintel/lintellaw5.SpanSubs", spec := "spanSubs", apart := false }
def SpanSubsSaid : Prop := spanSubsRow.holds Try.pinned (OpenSpec.ofChange spanSubsSpec)

/-- ITS FALSE NEIGHBOUR: 'it returns false'. Refute it at one input. -/
def spanSubsWrong : ChangeSpec := { name := "spanSubs", fn := fun _ => fun
  | [d1, d2, d3, d4, d5] => { results := [.lit (.bool false)], args := [d1, d2, d3, d4, d5] }
  | _ => none }
def SpanSubsWrongFalsely : Prop := spanSubsRow.holds Try.pinned (OpenSpec.ofChange spanSubsWrong)

/-- 'lintellaw5.SpanPushes': WHATEVER THE INPUT: true; the input reads as it did. -/
def spanPushesSpec : ChangeSpec := { name := "spanPushes", fn := fun _ => fun
  | [d1, d2, d3, d4] => { results := [.lit (.bool true)], args := [d1, d2, d3, d4] }
  | _ => none }
def spanPushesRow : OpenClaim := { program := "ytenncnbaoejekaa", sum := "acef746676402af0ffa96c77bfa8d2b57e7dc491a595eecc4504e28447eb696a", func := "lintel/lintellaw5.SpanPushes", spec := "spanPushes", apart := false }
def SpanPushesSaid : Prop := spanPushesRow.holds Try.pinned (OpenSpec.ofChange spanPushesSpec)

/-- ITS FALSE NEIGHBOUR: 'it returns false'. Refute it at one input. -/
def spanPushesWrong : ChangeSpec := { name := "spanPushes", fn := fun _ => fun
  | [d1, d2, d3, d4] => { results := [.lit (.bool false)], args := [d1, d2, d3, d4] }
  | _ => none }
def SpanPushesWrongFalsely : Prop := spanPushesRow.holds Try.pinned (OpenSpec.ofChange spanPushesWrong)

/-- 'lintellaw7.HeadSays': WHATEVER THE INPUT: true; the input reads as it did. -/
def headSaysSpec : ChangeSpec := { name := "headSays", fn := fun _ => fun
  | [d1, d2, d3, d4] => { results := [.lit (.bool true)], args := [d1, d2, d3, d4] }
  | _ => none }
def headSaysRow : OpenClaim := { program := "ytenncnbaoejekaa", sum := "acef746676402af0ffa96c77bfa8d2b57e7dc491a595eecc4504e28447eb696a", func := "lintel/lintellaw7.HeadSays", spec := "headSays", apart := false }
def HeadSaysSaid : Prop := headSaysRow.holds Try.pinned (OpenSpec.ofChange headSaysSpec)

/-- ITS FALSE NEIGHBOUR: 'it returns false'. Refute it at one input. -/
def headSaysWrong : ChangeSpec := { name := "headSays", fn := fun _ => fun
  | [d1, d2, d3, d4] => { results := [.lit (.bool false)], args := [d1, d2, d3, d4] }
  | _ => none }
def HeadSaysWrongFalsely : Prop := headSaysRow.holds Try.pinned (OpenSpec.ofChange headSaysWrong)

/-- 'lintellaw7.HeadOne': WHATEVER THE INPUT: true; the input reads as it did. -/
def headOneSpec : ChangeSpec := { name := "headOne", fn := fun _ => fun
  | [d1, d2, d3] => { results := [.lit (.bool true)], args := [d1, d2, d3] }
  | _ => none }
def headOneRow : OpenClaim := { program := "ytenncnbaoejekaa", sum := "acef746676402af0ffa96c77bfa8d2b57e7dc491a595eecc4504e28447eb696a", func := "lintel/lintellaw7.HeadOne", spec := "headOne", apart := false }
def HeadOneSaid : Prop := headOneRow.holds Try.pinned (OpenSpec.ofChange headOneSpec)

/-- ITS FALSE NEIGHBOUR: 'it returns false'. Refute it at one input. -/
def headOneWrong : ChangeSpec := { name := "headOne", fn := fun _ => fun
  | [d1, d2, d3] => { results := [.lit (.bool false)], args := [d1, d2, d3] }
  | _ => none }
def HeadOneWrongFalsely : Prop := headOneRow.holds Try.pinned (OpenSpec.ofChange headOneWrong)

/-- 'lintellaw7.HeadTwo': WHATEVER THE INPUT: true; the input reads as it did. -/
def headTwoSpec : ChangeSpec := { name := "headTwo", fn := fun _ => fun
  | [d1, d2, d3, d4] => { results := [.lit (.bool true)], args := [d1, d2, d3, d4] }
  | _ => none }
def headTwoRow : OpenClaim := { program := "ytenncnbaoejekaa", sum := "acef746676402af0ffa96c77bfa8d2b57e7dc491a595eecc4504e28447eb696a", func := "lintel/lintellaw7.HeadTwo", spec := "headTwo", apart := false }
def HeadTwoSaid : Prop := headTwoRow.holds Try.pinned (OpenSpec.ofChange headTwoSpec)

/-- ITS FALSE NEIGHBOUR: 'it returns false'. Refute it at one input. -/
def headTwoWrong : ChangeSpec := { name := "headTwo", fn := fun _ => fun
  | [d1, d2, d3, d4] => { results := [.lit (.bool false)], args := [d1, d2, d3, d4] }
  | _ => none }
def HeadTwoWrongFalsely : Prop := headTwoRow.holds Try.pinned (OpenSpec.ofChange headTwoWrong)

/-- 'lintellaw7.HeadBack': WHATEVER THE INPUT: true; the input reads as it did. -/
def headBackSpec : ChangeSpec := { name := "headBack", fn := fun _ => fun
  | [d] => { results := [.lit (.bool true)], args := [d] }
  | _ => none }
def headBackRow : OpenClaim := { program := "ytenncnbaoejekaa", sum := "acef746676402af0ffa96c77bfa8d2b57e7dc491a595eecc4504e28447eb696a", func := "lintel/lintellaw7.HeadBack", spec := "headBack", apart := false }
def HeadBackSaid : Prop := headBackRow.holds Try.pinned (OpenSpec.ofChange headBackSpec)

/-- ITS FALSE NEIGHBOUR: 'it returns false'. Refute it at one input. -/
def headBackWrong : ChangeSpec := { name := "headBack", fn := fun _ => fun
  | [d] => { results := [.lit (.bool false)], args := [d] }
  | _ => none }
def HeadBackWrongFalsely : Prop := headBackRow.holds Try.pinned (OpenSpec.ofChange headBackWrong)

/-- 'lintellaw8.NodeSays': WHATEVER THE INPUT: true; the input reads as it did. -/
def nodeSaysSpec : ChangeSpec := { name := "nodeSays", fn := fun _ => fun
  | [d1, d2, d3] => { results := [.lit (.bool true)], args := [d1, d2, d3] }
  | _ => none }
def nodeSaysRow : OpenClaim := { program := "ytenncnbaoejekaa", sum := "acef746676402af0ffa96c77bfa8d2b57e7dc491a595eecc4504e28447eb696a", func := "lintel/lintellaw8.NodeSays", spec := "nodeSays", apart := false }
def NodeSaysSaid : Prop := nodeSaysRow.holds Try.pinned (OpenSpec.ofChange nodeSaysSpec)

/-- ITS FALSE NEIGHBOUR: 'it returns false'. Refute it at one input. -/
def nodeSaysWrong : ChangeSpec := { name := "nodeSays", fn := fun _ => fun
  | [d1, d2, d3] => { results := [.lit (.bool false)], args := [d1, d2, d3] }
  | _ => none }
def NodeSaysWrongFalsely : Prop := nodeSaysRow.holds Try.pinned (OpenSpec.ofChange nodeSaysWrong)

/-- 'lintellaw8.NodeOne': WHATEVER THE INPUT: true; the input reads as it did. -/
def nodeOneSpec : ChangeSpec := { name := "nodeOne", fn := fun _ => fun
  | [d1, d2, d3] => { results := [.lit (.bool true)], args := [d1, d2, d3] }
  | _ => none }
def nodeOneRow : OpenClaim := { program := "ytenncnbaoejekaa", sum := "acef746676402af0ffa96c77bfa8d2b57e7dc491a595eecc4504e28447eb696a", func := "lintel/lintellaw8.NodeOne", spec := "nodeOne", apart := false }
def NodeOneSaid : Prop := nodeOneRow.holds Try.pinned (OpenSpec.ofChange nodeOneSpec)

/-- ITS FALSE NEIGHBOUR: 'it returns false'. Refute it at one input. -/
def nodeOneWrong : ChangeSpec := { name := "nodeOne", fn := fun _ => fun
  | [d1, d2, d3] => { results := [.lit (.bool false)], args := [d1, d2, d3] }
  | _ => none }
def NodeOneWrongFalsely : Prop := nodeOneRow.holds Try.pinned (OpenSpec.ofChange nodeOneWrong)

/-- 'lintellaw8.NodeGood': WHATEVER THE INPUT: true; the input reads as it did. -/
def nodeGoodSpec : ChangeSpec := { name := "nodeGood", fn := fun _ => fun
  | [d1, d2] => { results := [.lit (.bool true)], args := [d1, d2] }
  | _ => none }
def nodeGoodRow : OpenClaim := { program := "ytenncnbaoejekaa", sum := "acef746676402af0ffa96c77bfa8d2b57e7dc491a595eecc4504e28447eb696a", func := "lintel/lintellaw8.NodeGood", spec := "nodeGood", apart := false }
def NodeGoodSaid : Prop := nodeGoodRow.holds Try.pinned (OpenSpec.ofChange nodeGoodSpec)

/-- ITS FALSE NEIGHBOUR: 'it returns false'. Refute it at one input. -/
def nodeGoodWrong : ChangeSpec := { name := "nodeGood", fn := fun _ => fun
  | [d1, d2] => { results := [.lit (.bool false)], args := [d1, d2] }
  | _ => none }
def NodeGoodWrongFalsely : Prop := nodeGoodRow.holds Try.pinned (OpenSpec.ofChange nodeGoodWrong)

/-- 'lintellaw12.PoolGroups': WHATEVER THE INPUT: true; the input reads as it did. -/
def poolGroupsSpec : ChangeSpec := { name := "poolGroups", fn := fun _ => fun
  | [d1, d2] => { results := [.lit (.bool true)], args := [d1, d2] }
  | _ => none }
def poolGroupsRow : OpenClaim := { program := "ytenncnbaoejekaa", sum := "acef746676402af0ffa96c77bfa8d2b57e7dc491a595eecc4504e28447eb696a", func := "lintel/lintellaw12.PoolGroups", spec := "poolGroups", unfollowed := true, recurses := true, apart := false }
def PoolGroupsSaid : Prop := poolGroupsRow.holds Try.pinned (OpenSpec.ofChange poolGroupsSpec)

/-- ITS FALSE NEIGHBOUR: 'it returns false'. Refute it at one input. -/
def poolGroupsWrong : ChangeSpec := { name := "poolGroups", fn := fun _ => fun
  | [d1, d2] => { results := [.lit (.bool false)], args := [d1, d2] }
  | _ => none }
def PoolGroupsWrongFalsely : Prop := poolGroupsRow.holds Try.pinned (OpenSpec.ofChange poolGroupsWrong)

/-- 'lintellaw12.PoolBack': WHATEVER THE INPUT: true; the input reads as it did. -/
def poolBackSpec : ChangeSpec := { name := "poolBack", fn := fun _ => fun
  | [d] => { results := [.lit (.bool true)], args := [d] }
  | _ => none }
def poolBackRow : OpenClaim := { program := "ytenncnbaoejekaa", sum := "acef746676402af0ffa96c77bfa8d2b57e7dc491a595eecc4504e28447eb696a", func := "lintel/lintellaw12.PoolBack", spec := "poolBack", unfollowed := true, recurses := true, apart := false }
def PoolBackSaid : Prop := poolBackRow.holds Try.pinned (OpenSpec.ofChange poolBackSpec)

/-- ITS FALSE NEIGHBOUR: 'it returns false'. Refute it at one input. -/
def poolBackWrong : ChangeSpec := { name := "poolBack", fn := fun _ => fun
  | [d] => { results := [.lit (.bool false)], args := [d] }
  | _ => none }
def PoolBackWrongFalsely : Prop := poolBackRow.holds Try.pinned (OpenSpec.ofChange poolBackWrong)

/-- 'lintellaw13.RedoSays': WHATEVER THE INPUT: true; the input reads as it did. -/
def redoSaysSpec : ChangeSpec := { name := "redoSays", fn := fun _ => fun
  | [d1, d2, d3, d4] => { results := [.lit (.bool true)], args := [d1, d2, d3, d4] }
  | _ => none }
def redoSaysRow : OpenClaim := { program := "ytenncnbaoejekaa", sum := "acef746676402af0ffa96c77bfa8d2b57e7dc491a595eecc4504e28447eb696a", func := "lintel/lintellaw13.RedoSays", spec := "redoSays", apart := false }
def RedoSaysSaid : Prop := redoSaysRow.holds Try.pinned (OpenSpec.ofChange redoSaysSpec)

/-- ITS FALSE NEIGHBOUR: 'it returns false'. Refute it at one input. -/
def redoSaysWrong : ChangeSpec := { name := "redoSays", fn := fun _ => fun
  | [d1, d2, d3, d4] => { results := [.lit (.bool false)], args := [d1, d2, d3, d4] }
  | _ => none }
def RedoSaysWrongFalsely : Prop := redoSaysRow.holds Try.pinned (OpenSpec.ofChange redoSaysWrong)

/-- 'lintellaw13.RedoBack': WHATEVER THE INPUT: true; the input reads as it did. -/
def redoBackSpec : ChangeSpec := { name := "redoBack", fn := fun _ => fun
  | [d1, d2, d3, d4, d5, d6] => { results := [.lit (.bool true)], args := [d1, d2, d3, d4, d5, d6] }
  | _ => none }
def redoBackRow : OpenClaim := { program := "ytenncnbaoejekaa", sum := "acef746676402af0ffa96c77bfa8d2b57e7dc491a595eecc4504e28447eb696a", func := "lintel/lintellaw13.RedoBack", spec := "redoBack", apart := false }
def RedoBackSaid : Prop := redoBackRow.holds Try.pinned (OpenSpec.ofChange redoBackSpec)

/-- ITS FALSE NEIGHBOUR: 'it returns false'. Refute it at one input. -/
def redoBackWrong : ChangeSpec := { name := "redoBack", fn := fun _ => fun
  | [d1, d2, d3, d4, d5, d6] => { results := [.lit (.bool false)], args := [d1, d2, d3, d4, d5, d6] }
  | _ => none }
def RedoBackWrongFalsely : Prop := redoBackRow.holds Try.pinned (OpenSpec.ofChange redoBackWrong)

/-- 'lintellaw13.RedoOrder': WHATEVER THE INPUT: true; the input reads as it did. -/
def redoOrderSpec : ChangeSpec := { name := "redoOrder", fn := fun _ => fun
  | [d1, d2] => { results := [.lit (.bool true)], args := [d1, d2] }
  | _ => none }
def redoOrderRow : OpenClaim := { program := "ytenncnbaoejekaa", sum := "acef746676402af0ffa96c77bfa8d2b57e7dc491a595eecc4504e28447eb696a", func := "lintel/lintellaw13.RedoOrder", spec := "redoOrder", apart := false }
def RedoOrderSaid : Prop := redoOrderRow.holds Try.pinned (OpenSpec.ofChange redoOrderSpec)

/-- ITS FALSE NEIGHBOUR: 'it returns false'. Refute it at one input. -/
def redoOrderWrong : ChangeSpec := { name := "redoOrder", fn := fun _ => fun
  | [d1, d2] => { results := [.lit (.bool false)], args := [d1, d2] }
  | _ => none }
def RedoOrderWrongFalsely : Prop := redoOrderRow.holds Try.pinned (OpenSpec.ofChange redoOrderWrong)

/-- 'lintellaw13.RedoSize': WHATEVER THE INPUT: true; the input reads as it did. -/
def redoSizeSpec : ChangeSpec := { name := "redoSize", fn := fun _ => fun
  | [d] => { results := [.lit (.bool true)], args := [d] }
  | _ => none }
def redoSizeRow : OpenClaim := { program := "ytenncnbaoejekaa", sum := "acef746676402af0ffa96c77bfa8d2b57e7dc491a595eecc4504e28447eb696a", func := "lintel/lintellaw13.RedoSize", spec := "redoSize", apart := false }
def RedoSizeSaid : Prop := redoSizeRow.holds Try.pinned (OpenSpec.ofChange redoSizeSpec)

/-- ITS FALSE NEIGHBOUR: 'it returns false'. Refute it at one input. -/
def redoSizeWrong : ChangeSpec := { name := "redoSize", fn := fun _ => fun
  | [d] => { results := [.lit (.bool false)], args := [d] }
  | _ => none }
def RedoSizeWrongFalsely : Prop := redoSizeRow.holds Try.pinned (OpenSpec.ofChange redoSizeWrong)

/- THE SECOND FORM. 'bulk': how many values and letters a reading holds, each counted each time it is reached (what is shared counts as often as it is met; a slice's spare places count too). A statement '..UptoSaid' is the law's where the arguments, and the package variables that the reading takes, are together of bulk at most 1048576: NARROWER than '..Said'. Prove '..Said' where nothing that the law and all that it calls make is longer than what came in: it says more and counts as full. Else prove '..UptoSaid'. A law counts once. -/
mutual
def uptoBulk {H : Type} : DataW H → Nat
  | .lit (.string bytes) => bytes.length + 1
  | .lit _ => 1
  | .nil => 1
  | .ptr d => uptoBulk d + 1
  | .slice elems spare => uptoBulkAll elems + uptoBulkAll spare + 1
  | .agg parts => uptoBulkAll parts + 1
  | .iface _ d => uptoBulk d + 1
  | .map entries => uptoBulkEntries entries + 1
  | .held _ => 1
def uptoBulkAll {H : Type} : List (DataW H) → Nat
  | [] => 0
  | d :: r => uptoBulk d + uptoBulkAll r
def uptoBulkEntries {H : Type} : List (Lit × DataW H) → Nat
  | [] => 0
  | x :: r => uptoBulkEntry x + uptoBulkEntries r
def uptoBulkEntry {H : Type} : Lit × DataW H → Nat
  | (.string bytes, d) => bytes.length + uptoBulk d + 1
  | (_, d) => uptoBulk d + 1
 end
def uptoSmall : (H : Type) → List (DataW H) → Bool := fun _ ds => decide (uptoBulkAll ds ≤ 1048576)
def OpenSpec.upto (s : _root_.Go.ChangeSpec) : _root_.Go.OpenSpec := { _root_.Go.OpenSpec.ofChange s with cond := some uptoSmall }

/-- 'lintellaw4.PmemPlays', WHERE WHAT IT READS IS OF BULK AT MOST 1048576: true; the input reads as it did. -/
def pmemPlaysUptoRow : OpenClaim := { program := "ytenncnbaoejekaa", sum := "acef746676402af0ffa96c77bfa8d2b57e7dc491a595eecc4504e28447eb696a", func := "lintel/lintellaw4.PmemPlays", spec := "pmemPlays", apart := false, narrowed := true }
def PmemPlaysUptoSaid : Prop := pmemPlaysUptoRow.holds Try.pinned (OpenSpec.upto pmemPlaysSpec)

/-- 'lintellaw4.PmemSure', WHERE WHAT IT READS IS OF BULK AT MOST 1048576: true; the input reads as it did. -/
def pmemSureUptoRow : OpenClaim := { program := "ytenncnbaoejekaa", sum := "acef746676402af0ffa96c77bfa8d2b57e7dc491a595eecc4504e28447eb696a", func := "lintel/lintellaw4.PmemSure", spec := "pmemSure", apart := false, narrowed := true }
def PmemSureUptoSaid : Prop := pmemSureUptoRow.holds Try.pinned (OpenSpec.upto pmemSureSpec)

/-- 'lintellaw4.PmemFuse', WHERE WHAT IT READS IS OF BULK AT MOST 1048576: true; the input reads as it did. -/
def pmemFuseUptoRow : OpenClaim := { program := "ytenncnbaoejekaa", sum := "acef746676402af0ffa96c77bfa8d2b57e7dc491a595eecc4504e28447eb696a", func := "lintel/lintellaw4.PmemFuse", spec := "pmemFuse", apart := false, narrowed := true }
def PmemFuseUptoSaid : Prop := pmemFuseUptoRow.holds Try.pinned (OpenSpec.upto pmemFuseSpec)

/-- 'lintellaw4.PmemAtom', WHERE WHAT IT READS IS OF BULK AT MOST 1048576: true; the input reads as it did. -/
def pmemAtomUptoRow : OpenClaim := { program := "ytenncnbaoejekaa", sum := "acef746676402af0ffa96c77bfa8d2b57e7dc491a595eecc4504e28447eb696a", func := "lintel/lintellaw4.PmemAtom", spec := "pmemAtom", apart := false, narrowed := true }
def PmemAtomUptoSaid : Prop := pmemAtomUptoRow.holds Try.pinned (OpenSpec.upto pmemAtomSpec)

/-- 'lintellaw5.SpanSays', WHERE WHAT IT READS IS OF BULK AT MOST 1048576: true; the input reads as it did. -/
def spanSaysUptoRow : OpenClaim := { program := "ytenncnbaoejekaa", sum := "acef746676402af0ffa96c77bfa8d2b57e7dc491a595eecc4504e28447eb696a", func := "lintel/lintellaw5.SpanSays", spec := "spanSays", apart := false, narrowed := true }
def SpanSaysUptoSaid : Prop := spanSaysUptoRow.holds Try.pinned (OpenSpec.upto spanSaysSpec)

/-- 'lintellaw5.SpanSubs', WHERE WHAT IT READS IS OF BULK AT MOST 1048576: true; the input reads as it did. -/
def spanSubsUptoRow : OpenClaim := { program := "ytenncnbaoejekaa", sum := "acef746676402af0ffa96c77bfa8d2b57e7dc491a595eecc4504e28447eb696a", func := "lintel/lintellaw5.SpanSubs", spec := "spanSubs", apart := false, narrowed := true }
def SpanSubsUptoSaid : Prop := spanSubsUptoRow.holds Try.pinned (OpenSpec.upto spanSubsSpec)

/-- 'lintellaw5.SpanPushes', WHERE WHAT IT READS IS OF BULK AT MOST 1048576: true; the input reads as it did. -/
def spanPushesUptoRow : OpenClaim := { program := "ytenncnbaoejekaa", sum := "acef746676402af0ffa96c77bfa8d2b57e7dc491a595eecc4504e28447eb696a", func := "lintel/lintellaw5.SpanPushes", spec := "spanPushes", apart := false, narrowed := true }
def SpanPushesUptoSaid : Prop := spanPushesUptoRow.holds Try.pinned (OpenSpec.upto spanPushesSpec)

/-- 'lintellaw7.HeadSays', WHERE WHAT IT READS IS OF BULK AT MOST 1048576: true; the input reads as it did. -/
def headSaysUptoRow : OpenClaim := { program := "ytenncnbaoejekaa", sum := "acef746676402af0ffa96c77bfa8d2b57e7dc491a595eecc4504e28447eb696a", func := "lintel/lintellaw7.HeadSays", spec := "headSays", apart := false, narrowed := true }
def HeadSaysUptoSaid : Prop := headSaysUptoRow.holds Try.pinned (OpenSpec.upto headSaysSpec)

/-- 'lintellaw7.HeadOne', WHERE WHAT IT READS IS OF BULK AT MOST 1048576: true; the input reads as it did. -/
def headOneUptoRow : OpenClaim := { program := "ytenncnbaoejekaa", sum := "acef746676402af0ffa96c77bfa8d2b57e7dc491a595eecc4504e28447eb696a", func := "lintel/lintellaw7.HeadOne", spec := "headOne", apart := false, narrowed := true }
def HeadOneUptoSaid : Prop := headOneUptoRow.holds Try.pinned (OpenSpec.upto headOneSpec)

/-- 'lintellaw7.HeadTwo', WHERE WHAT IT READS IS OF BULK AT MOST 1048576: true; the input reads as it did. -/
def headTwoUptoRow : OpenClaim := { program := "ytenncnbaoejekaa", sum := "acef746676402af0ffa96c77bfa8d2b57e7dc491a595eecc4504e28447eb696a", func := "lintel/lintellaw7.HeadTwo", spec := "headTwo", apart := false, narrowed := true }
def HeadTwoUptoSaid : Prop := headTwoUptoRow.holds Try.pinned (OpenSpec.upto headTwoSpec)

/-- 'lintellaw7.HeadBack', WHERE WHAT IT READS IS OF BULK AT MOST 1048576: true; the input reads as it did. -/
def headBackUptoRow : OpenClaim := { program := "ytenncnbaoejekaa", sum := "acef746676402af0ffa96c77bfa8d2b57e7dc491a595eecc4504e28447eb696a", func := "lintel/lintellaw7.HeadBack", spec := "headBack", apart := false, narrowed := true }
def HeadBackUptoSaid : Prop := headBackUptoRow.holds Try.pinned (OpenSpec.upto headBackSpec)

/-- 'lintellaw8.NodeSays', WHERE WHAT IT READS IS OF BULK AT MOST 1048576: true; the input reads as it did. -/
def nodeSaysUptoRow : OpenClaim := { program := "ytenncnbaoejekaa", sum := "acef746676402af0ffa96c77bfa8d2b57e7dc491a595eecc4504e28447eb696a", func := "lintel/lintellaw8.NodeSays", spec := "nodeSays", apart := false, narrowed := true }
def NodeSaysUptoSaid : Prop := nodeSaysUptoRow.holds Try.pinned (OpenSpec.upto nodeSaysSpec)

/-- 'lintellaw8.NodeOne', WHERE WHAT IT READS IS OF BULK AT MOST 1048576: true; the input reads as it did. -/
def nodeOneUptoRow : OpenClaim := { program := "ytenncnbaoejekaa", sum := "acef746676402af0ffa96c77bfa8d2b57e7dc491a595eecc4504e28447eb696a", func := "lintel/lintellaw8.NodeOne", spec := "nodeOne", apart := false, narrowed := true }
def NodeOneUptoSaid : Prop := nodeOneUptoRow.holds Try.pinned (OpenSpec.upto nodeOneSpec)

/-- 'lintellaw8.NodeGood', WHERE WHAT IT READS IS OF BULK AT MOST 1048576: true; the input reads as it did. -/
def nodeGoodUptoRow : OpenClaim := { program := "ytenncnbaoejekaa", sum := "acef746676402af0ffa96c77bfa8d2b57e7dc491a595eecc4504e28447eb696a", func := "lintel/lintellaw8.NodeGood", spec := "nodeGood", apart := false, narrowed := true }
def NodeGoodUptoSaid : Prop := nodeGoodUptoRow.holds Try.pinned (OpenSpec.upto nodeGoodSpec)

/-- 'lintellaw12.PoolGroups', WHERE WHAT IT READS IS OF BULK AT MOST 1048576: true; the input reads as it did. -/
def poolGroupsUptoRow : OpenClaim := { program := "ytenncnbaoejekaa", sum := "acef746676402af0ffa96c77bfa8d2b57e7dc491a595eecc4504e28447eb696a", func := "lintel/lintellaw12.PoolGroups", spec := "poolGroups", unfollowed := true, recurses := true, apart := false, narrowed := true }
def PoolGroupsUptoSaid : Prop := poolGroupsUptoRow.holds Try.pinned (OpenSpec.upto poolGroupsSpec)

/-- 'lintellaw12.PoolBack', WHERE WHAT IT READS IS OF BULK AT MOST 1048576: true; the input reads as it did. -/
def poolBackUptoRow : OpenClaim := { program := "ytenncnbaoejekaa", sum := "acef746676402af0ffa96c77bfa8d2b57e7dc491a595eecc4504e28447eb696a", func := "lintel/lintellaw12.PoolBack", spec := "poolBack", unfollowed := true, recurses := true, apart := false, narrowed := true }
def PoolBackUptoSaid : Prop := poolBackUptoRow.holds Try.pinned (OpenSpec.upto poolBackSpec)

/-- 'lintellaw13.RedoSays', WHERE WHAT IT READS IS OF BULK AT MOST 1048576: true; the input reads as it did. -/
def redoSaysUptoRow : OpenClaim := { program := "ytenncnbaoejekaa", sum := "acef746676402af0ffa96c77bfa8d2b57e7dc491a595eecc4504e28447eb696a", func := "lintel/lintellaw13.RedoSays", spec := "redoSays", apart := false, narrowed := true }
def RedoSaysUptoSaid : Prop := redoSaysUptoRow.holds Try.pinned (OpenSpec.upto redoSaysSpec)

/-- 'lintellaw13.RedoBack', WHERE WHAT IT READS IS OF BULK AT MOST 1048576: true; the input reads as it did. -/
def redoBackUptoRow : OpenClaim := { program := "ytenncnbaoejekaa", sum := "acef746676402af0ffa96c77bfa8d2b57e7dc491a595eecc4504e28447eb696a", func := "lintel/lintellaw13.RedoBack", spec := "redoBack", apart := false, narrowed := true }
def RedoBackUptoSaid : Prop := redoBackUptoRow.holds Try.pinned (OpenSpec.upto redoBackSpec)

/-- 'lintellaw13.RedoOrder', WHERE WHAT IT READS IS OF BULK AT MOST 1048576: true; the input reads as it did. -/
def redoOrderUptoRow : OpenClaim := { program := "ytenncnbaoejekaa", sum := "acef746676402af0ffa96c77bfa8d2b57e7dc491a595eecc4504e28447eb696a", func := "lintel/lintellaw13.RedoOrder", spec := "redoOrder", apart := false, narrowed := true }
def RedoOrderUptoSaid : Prop := redoOrderUptoRow.holds Try.pinned (OpenSpec.upto redoOrderSpec)

/-- 'lintellaw13.RedoSize', WHERE WHAT IT READS IS OF BULK AT MOST 1048576: true; the input reads as it did. -/
def redoSizeUptoRow : OpenClaim := { program := "ytenncnbaoejekaa", sum := "acef746676402af0ffa96c77bfa8d2b57e7dc491a595eecc4504e28447eb696a", func := "lintel/lintellaw13.RedoSize", spec := "redoSize", apart := false, narrowed := true }
def RedoSizeUptoSaid : Prop := redoSizeUptoRow.holds Try.pinned (OpenSpec.upto redoSizeSpec)

end Rows
end Go.Proofs.Ytenncnbaoejekaa
