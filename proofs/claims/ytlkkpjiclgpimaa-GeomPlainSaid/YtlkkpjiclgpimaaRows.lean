/-
  No cell of these rows narrows 'for every input' (looked for: loops, veiled, ifaces, maps, wideKeys, modest, calm, conditions, laid).
  DERIVED. THE GIVEN ROWS OF THIS SEAT. 19 by the template 'for every input the law returns true; each argument reads behind the call as it read before'; 0 by the template 'total and deterministic' (their statements: YtlkkpjiclgpimaaTotals.lean).
  GIVEN WITH THE SEED: the statements are not yours to turn. If you find one false, say at which input.
  Laid BY PROGRAM, IN A SANDBOX (cutbox-rows.mjs): the forced cells as the released guide's own fill.sh prints them over the translation 60c52c0e4b8ad59d… (all of the seat's roots in one cut). By AI agents, Wed Nov 11 2026. No macro, syntax, notation, axiom, sorry.
-/
import Derived.Test.YtlkkpjiclgpimaaChecked
import GoSem.Claim
import GoSem.ClaimJoined
import GoSem.ClaimMapViews
import Derived.JoinedTies
import Derived.KernelRfl
namespace Go.Proofs.Ytlkkpjiclgpimaa
/- THE CELL 'sum', in the pinned program and in every row, IS THE sha256 OF THE DUMP (.gsa) THAT YtlkkpjiclgpimaaProg.lean LOADS. Nothing in Lean hashes anything: it is a label: what it is worth is what the hold of that sum in a sandbox is worth. -/
noncomputable def Try.pinned : Pinned := { name := "ytlkkpjiclgpimaa", sum := "60c52c0e4b8ad59d60c7b175f1e7b2d6829ed4ed2204a601deb9346a7be179c6", checked := Try.checked }
namespace Rows
def none {H : Type} : Left H := { results := [], args := [] }

/-- 'lintellaw6.GeomKnown': WHATEVER THE INPUT: true; the input reads as it did. -/
def geomKnownSpec : ChangeSpec := { name := "geomKnown", fn := fun _ => fun
  | [] => { results := [.lit (.bool true)], args := [] }
  | _ => none }
def geomKnownRow : OpenClaim := { program := "ytlkkpjiclgpimaa", sum := "60c52c0e4b8ad59d60c7b175f1e7b2d6829ed4ed2204a601deb9346a7be179c6", func := "lintel/lintellaw6.GeomKnown", spec := "geomKnown", apart := false }
def GeomKnownSaid : Prop := geomKnownRow.holds Try.pinned (OpenSpec.ofChange geomKnownSpec)

/-- ITS FALSE NEIGHBOUR: 'it returns false'. Refute it at one input. -/
def geomKnownWrong : ChangeSpec := { name := "geomKnown", fn := fun _ => fun
  | [] => { results := [.lit (.bool false)], args := [] }
  | _ => none }
def GeomKnownWrongFalsely : Prop := geomKnownRow.holds Try.pinned (OpenSpec.ofChange geomKnownWrong)

/-- 'lintellaw6.GeomSays': WHATEVER THE INPUT: true; the input reads as it did. -/
def geomSaysSpec : ChangeSpec := { name := "geomSays", fn := fun _ => fun
  | [d1, d2, d3] => { results := [.lit (.bool true)], args := [d1, d2, d3] }
  | _ => none }
def geomSaysRow : OpenClaim := { program := "ytlkkpjiclgpimaa", sum := "60c52c0e4b8ad59d60c7b175f1e7b2d6829ed4ed2204a601deb9346a7be179c6", func := "lintel/lintellaw6.GeomSays", spec := "geomSays", apart := false }
def GeomSaysSaid : Prop := geomSaysRow.holds Try.pinned (OpenSpec.ofChange geomSaysSpec)

/-- ITS FALSE NEIGHBOUR: 'it returns false'. Refute it at one input. -/
def geomSaysWrong : ChangeSpec := { name := "geomSays", fn := fun _ => fun
  | [d1, d2, d3] => { results := [.lit (.bool false)], args := [d1, d2, d3] }
  | _ => none }
def GeomSaysWrongFalsely : Prop := geomSaysRow.holds Try.pinned (OpenSpec.ofChange geomSaysWrong)

/-- 'lintellaw6.GeomParts': WHATEVER THE INPUT: true; the input reads as it did. -/
def geomPartsSpec : ChangeSpec := { name := "geomParts", fn := fun _ => fun
  | [d1, d2] => { results := [.lit (.bool true)], args := [d1, d2] }
  | _ => none }
def geomPartsRow : OpenClaim := { program := "ytlkkpjiclgpimaa", sum := "60c52c0e4b8ad59d60c7b175f1e7b2d6829ed4ed2204a601deb9346a7be179c6", func := "lintel/lintellaw6.GeomParts", spec := "geomParts", apart := false }
def GeomPartsSaid : Prop := geomPartsRow.holds Try.pinned (OpenSpec.ofChange geomPartsSpec)

/-- ITS FALSE NEIGHBOUR: 'it returns false'. Refute it at one input. -/
def geomPartsWrong : ChangeSpec := { name := "geomParts", fn := fun _ => fun
  | [d1, d2] => { results := [.lit (.bool false)], args := [d1, d2] }
  | _ => none }
def GeomPartsWrongFalsely : Prop := geomPartsRow.holds Try.pinned (OpenSpec.ofChange geomPartsWrong)

/-- 'lintellaw6.GeomMore': WHATEVER THE INPUT: true; the input reads as it did. -/
def geomMoreSpec : ChangeSpec := { name := "geomMore", fn := fun _ => fun
  | [d] => { results := [.lit (.bool true)], args := [d] }
  | _ => none }
def geomMoreRow : OpenClaim := { program := "ytlkkpjiclgpimaa", sum := "60c52c0e4b8ad59d60c7b175f1e7b2d6829ed4ed2204a601deb9346a7be179c6", func := "lintel/lintellaw6.GeomMore", spec := "geomMore", apart := false }
def GeomMoreSaid : Prop := geomMoreRow.holds Try.pinned (OpenSpec.ofChange geomMoreSpec)

/-- ITS FALSE NEIGHBOUR: 'it returns false'. Refute it at one input. -/
def geomMoreWrong : ChangeSpec := { name := "geomMore", fn := fun _ => fun
  | [d] => { results := [.lit (.bool false)], args := [d] }
  | _ => none }
def GeomMoreWrongFalsely : Prop := geomMoreRow.holds Try.pinned (OpenSpec.ofChange geomMoreWrong)

/-- 'lintellaw6.GeomPlain': WHATEVER THE INPUT: true; the input reads as it did. -/
def geomPlainSpec : ChangeSpec := { name := "geomPlain", fn := fun _ => fun
  | [d] => { results := [.lit (.bool true)], args := [d] }
  | _ => none }
def geomPlainRow : OpenClaim := { program := "ytlkkpjiclgpimaa", sum := "60c52c0e4b8ad59d60c7b175f1e7b2d6829ed4ed2204a601deb9346a7be179c6", func := "lintel/lintellaw6.GeomPlain", spec := "geomPlain", apart := false }
def GeomPlainSaid : Prop := geomPlainRow.holds Try.pinned (OpenSpec.ofChange geomPlainSpec)

/-- ITS FALSE NEIGHBOUR: 'it returns false'. Refute it at one input. -/
def geomPlainWrong : ChangeSpec := { name := "geomPlain", fn := fun _ => fun
  | [d] => { results := [.lit (.bool false)], args := [d] }
  | _ => none }
def GeomPlainWrongFalsely : Prop := geomPlainRow.holds Try.pinned (OpenSpec.ofChange geomPlainWrong)

/-- 'lintellaw7.HeadKnown': WHATEVER THE INPUT: true; the input reads as it did. -/
def headKnownSpec : ChangeSpec := { name := "headKnown", fn := fun _ => fun
  | [] => { results := [.lit (.bool true)], args := [] }
  | _ => none }
def headKnownRow : OpenClaim := { program := "ytlkkpjiclgpimaa", sum := "60c52c0e4b8ad59d60c7b175f1e7b2d6829ed4ed2204a601deb9346a7be179c6", func := "lintel/lintellaw7.HeadKnown", spec := "headKnown", apart := false }
def HeadKnownSaid : Prop := headKnownRow.holds Try.pinned (OpenSpec.ofChange headKnownSpec)

/-- ITS FALSE NEIGHBOUR: 'it returns false'. Refute it at one input. -/
def headKnownWrong : ChangeSpec := { name := "headKnown", fn := fun _ => fun
  | [] => { results := [.lit (.bool false)], args := [] }
  | _ => none }
def HeadKnownWrongFalsely : Prop := headKnownRow.holds Try.pinned (OpenSpec.ofChange headKnownWrong)

/-- 'lintellaw7.HeadSays': WHATEVER THE INPUT: true; the input reads as it did. -/
def headSaysSpec : ChangeSpec := { name := "headSays", fn := fun _ => fun
  | [d1, d2, d3, d4] => { results := [.lit (.bool true)], args := [d1, d2, d3, d4] }
  | _ => none }
def headSaysRow : OpenClaim := { program := "ytlkkpjiclgpimaa", sum := "60c52c0e4b8ad59d60c7b175f1e7b2d6829ed4ed2204a601deb9346a7be179c6", func := "lintel/lintellaw7.HeadSays", spec := "headSays", apart := false }
def HeadSaysSaid : Prop := headSaysRow.holds Try.pinned (OpenSpec.ofChange headSaysSpec)

/-- ITS FALSE NEIGHBOUR: 'it returns false'. Refute it at one input. -/
def headSaysWrong : ChangeSpec := { name := "headSays", fn := fun _ => fun
  | [d1, d2, d3, d4] => { results := [.lit (.bool false)], args := [d1, d2, d3, d4] }
  | _ => none }
def HeadSaysWrongFalsely : Prop := headSaysRow.holds Try.pinned (OpenSpec.ofChange headSaysWrong)

/-- 'lintellaw7.HeadOne': WHATEVER THE INPUT: true; the input reads as it did. -/
def headOneSpec : ChangeSpec := { name := "headOne", fn := fun _ => fun
  | [d1, d2, d3] => { results := [.lit (.bool true)], args := [d1, d2, d3] }
  | _ => none }
def headOneRow : OpenClaim := { program := "ytlkkpjiclgpimaa", sum := "60c52c0e4b8ad59d60c7b175f1e7b2d6829ed4ed2204a601deb9346a7be179c6", func := "lintel/lintellaw7.HeadOne", spec := "headOne", apart := false }
def HeadOneSaid : Prop := headOneRow.holds Try.pinned (OpenSpec.ofChange headOneSpec)

/-- ITS FALSE NEIGHBOUR: 'it returns false'. Refute it at one input. -/
def headOneWrong : ChangeSpec := { name := "headOne", fn := fun _ => fun
  | [d1, d2, d3] => { results := [.lit (.bool false)], args := [d1, d2, d3] }
  | _ => none }
def HeadOneWrongFalsely : Prop := headOneRow.holds Try.pinned (OpenSpec.ofChange headOneWrong)

/-- 'lintellaw7.HeadTwo': WHATEVER THE INPUT: true; the input reads as it did. -/
def headTwoSpec : ChangeSpec := { name := "headTwo", fn := fun _ => fun
  | [d1, d2, d3, d4] => { results := [.lit (.bool true)], args := [d1, d2, d3, d4] }
  | _ => none }
def headTwoRow : OpenClaim := { program := "ytlkkpjiclgpimaa", sum := "60c52c0e4b8ad59d60c7b175f1e7b2d6829ed4ed2204a601deb9346a7be179c6", func := "lintel/lintellaw7.HeadTwo", spec := "headTwo", apart := false }
def HeadTwoSaid : Prop := headTwoRow.holds Try.pinned (OpenSpec.ofChange headTwoSpec)

/-- ITS FALSE NEIGHBOUR: 'it returns false'. Refute it at one input. -/
def headTwoWrong : ChangeSpec := { name := "headTwo", fn := fun _ => fun
  | [d1, d2, d3, d4] => { results := [.lit (.bool false)], args := [d1, d2, d3, d4] }
  | _ => none }
def HeadTwoWrongFalsely : Prop := headTwoRow.holds Try.pinned (OpenSpec.ofChange headTwoWrong)

/-- 'lintellaw7.HeadBack': WHATEVER THE INPUT: true; the input reads as it did. -/
def headBackSpec : ChangeSpec := { name := "headBack", fn := fun _ => fun
  | [d] => { results := [.lit (.bool true)], args := [d] }
  | _ => none }
def headBackRow : OpenClaim := { program := "ytlkkpjiclgpimaa", sum := "60c52c0e4b8ad59d60c7b175f1e7b2d6829ed4ed2204a601deb9346a7be179c6", func := "lintel/lintellaw7.HeadBack", spec := "headBack", apart := false }
def HeadBackSaid : Prop := headBackRow.holds Try.pinned (OpenSpec.ofChange headBackSpec)

/-- ITS FALSE NEIGHBOUR: 'it returns false'. Refute it at one input. -/
def headBackWrong : ChangeSpec := { name := "headBack", fn := fun _ => fun
  | [d] => { results := [.lit (.bool false)], args := [d] }
  | _ => none }
def HeadBackWrongFalsely : Prop := headBackRow.holds Try.pinned (OpenSpec.ofChange headBackWrong)

/-- 'lintellaw8.NodeKnown': WHATEVER THE INPUT: true; the input reads as it did. -/
def nodeKnownSpec : ChangeSpec := { name := "nodeKnown", fn := fun _ => fun
  | [] => { results := [.lit (.bool true)], args := [] }
  | _ => none }
def nodeKnownRow : OpenClaim := { program := "ytlkkpjiclgpimaa", sum := "60c52c0e4b8ad59d60c7b175f1e7b2d6829ed4ed2204a601deb9346a7be179c6", func := "lintel/lintellaw8.NodeKnown", spec := "nodeKnown", apart := false }
def NodeKnownSaid : Prop := nodeKnownRow.holds Try.pinned (OpenSpec.ofChange nodeKnownSpec)

/-- ITS FALSE NEIGHBOUR: 'it returns false'. Refute it at one input. -/
def nodeKnownWrong : ChangeSpec := { name := "nodeKnown", fn := fun _ => fun
  | [] => { results := [.lit (.bool false)], args := [] }
  | _ => none }
def NodeKnownWrongFalsely : Prop := nodeKnownRow.holds Try.pinned (OpenSpec.ofChange nodeKnownWrong)

/-- 'lintellaw8.NodeSays': WHATEVER THE INPUT: true; the input reads as it did. -/
def nodeSaysSpec : ChangeSpec := { name := "nodeSays", fn := fun _ => fun
  | [d1, d2, d3] => { results := [.lit (.bool true)], args := [d1, d2, d3] }
  | _ => none }
def nodeSaysRow : OpenClaim := { program := "ytlkkpjiclgpimaa", sum := "60c52c0e4b8ad59d60c7b175f1e7b2d6829ed4ed2204a601deb9346a7be179c6", func := "lintel/lintellaw8.NodeSays", spec := "nodeSays", apart := false }
def NodeSaysSaid : Prop := nodeSaysRow.holds Try.pinned (OpenSpec.ofChange nodeSaysSpec)

/-- ITS FALSE NEIGHBOUR: 'it returns false'. Refute it at one input. -/
def nodeSaysWrong : ChangeSpec := { name := "nodeSays", fn := fun _ => fun
  | [d1, d2, d3] => { results := [.lit (.bool false)], args := [d1, d2, d3] }
  | _ => none }
def NodeSaysWrongFalsely : Prop := nodeSaysRow.holds Try.pinned (OpenSpec.ofChange nodeSaysWrong)

/-- 'lintellaw8.NodeOne': WHATEVER THE INPUT: true; the input reads as it did. -/
def nodeOneSpec : ChangeSpec := { name := "nodeOne", fn := fun _ => fun
  | [d1, d2, d3] => { results := [.lit (.bool true)], args := [d1, d2, d3] }
  | _ => none }
def nodeOneRow : OpenClaim := { program := "ytlkkpjiclgpimaa", sum := "60c52c0e4b8ad59d60c7b175f1e7b2d6829ed4ed2204a601deb9346a7be179c6", func := "lintel/lintellaw8.NodeOne", spec := "nodeOne", apart := false }
def NodeOneSaid : Prop := nodeOneRow.holds Try.pinned (OpenSpec.ofChange nodeOneSpec)

/-- ITS FALSE NEIGHBOUR: 'it returns false'. Refute it at one input. -/
def nodeOneWrong : ChangeSpec := { name := "nodeOne", fn := fun _ => fun
  | [d1, d2, d3] => { results := [.lit (.bool false)], args := [d1, d2, d3] }
  | _ => none }
def NodeOneWrongFalsely : Prop := nodeOneRow.holds Try.pinned (OpenSpec.ofChange nodeOneWrong)

/-- 'lintellaw8.NodeLong': WHATEVER THE INPUT: true; the input reads as it did. -/
def nodeLongSpec : ChangeSpec := { name := "nodeLong", fn := fun _ => fun
  | [d] => { results := [.lit (.bool true)], args := [d] }
  | _ => none }
def nodeLongRow : OpenClaim := { program := "ytlkkpjiclgpimaa", sum := "60c52c0e4b8ad59d60c7b175f1e7b2d6829ed4ed2204a601deb9346a7be179c6", func := "lintel/lintellaw8.NodeLong", spec := "nodeLong", apart := false }
def NodeLongSaid : Prop := nodeLongRow.holds Try.pinned (OpenSpec.ofChange nodeLongSpec)

/-- ITS FALSE NEIGHBOUR: 'it returns false'. Refute it at one input. -/
def nodeLongWrong : ChangeSpec := { name := "nodeLong", fn := fun _ => fun
  | [d] => { results := [.lit (.bool false)], args := [d] }
  | _ => none }
def NodeLongWrongFalsely : Prop := nodeLongRow.holds Try.pinned (OpenSpec.ofChange nodeLongWrong)

/-- 'lintellaw8.NodeGood': WHATEVER THE INPUT: true; the input reads as it did. -/
def nodeGoodSpec : ChangeSpec := { name := "nodeGood", fn := fun _ => fun
  | [d1, d2] => { results := [.lit (.bool true)], args := [d1, d2] }
  | _ => none }
def nodeGoodRow : OpenClaim := { program := "ytlkkpjiclgpimaa", sum := "60c52c0e4b8ad59d60c7b175f1e7b2d6829ed4ed2204a601deb9346a7be179c6", func := "lintel/lintellaw8.NodeGood", spec := "nodeGood", apart := false }
def NodeGoodSaid : Prop := nodeGoodRow.holds Try.pinned (OpenSpec.ofChange nodeGoodSpec)

/-- ITS FALSE NEIGHBOUR: 'it returns false'. Refute it at one input. -/
def nodeGoodWrong : ChangeSpec := { name := "nodeGood", fn := fun _ => fun
  | [d1, d2] => { results := [.lit (.bool false)], args := [d1, d2] }
  | _ => none }
def NodeGoodWrongFalsely : Prop := nodeGoodRow.holds Try.pinned (OpenSpec.ofChange nodeGoodWrong)

/-- 'lintellaw9.SlotKnown': WHATEVER THE INPUT: true; the input reads as it did. -/
def slotKnownSpec : ChangeSpec := { name := "slotKnown", fn := fun _ => fun
  | [] => { results := [.lit (.bool true)], args := [] }
  | _ => none }
def slotKnownRow : OpenClaim := { program := "ytlkkpjiclgpimaa", sum := "60c52c0e4b8ad59d60c7b175f1e7b2d6829ed4ed2204a601deb9346a7be179c6", func := "lintel/lintellaw9.SlotKnown", spec := "slotKnown", inPlace := ["internal/bytealg.IndexByteString", "internal/bytealg.IndexString"], named := ["internal/bytealg.MaxLen"], apart := false }
def SlotKnownSaid : Prop := slotKnownRow.holds Try.pinned (OpenSpec.ofChange slotKnownSpec)

/-- ITS FALSE NEIGHBOUR: 'it returns false'. Refute it at one input. -/
def slotKnownWrong : ChangeSpec := { name := "slotKnown", fn := fun _ => fun
  | [] => { results := [.lit (.bool false)], args := [] }
  | _ => none }
def SlotKnownWrongFalsely : Prop := slotKnownRow.holds Try.pinned (OpenSpec.ofChange slotKnownWrong)

/-- 'lintellaw9.SlotSays': WHATEVER THE INPUT: true; the input reads as it did. -/
def slotSaysSpec : ChangeSpec := { name := "slotSays", fn := fun _ => fun
  | [d1, d2] => { results := [.lit (.bool true)], args := [d1, d2] }
  | _ => none }
def slotSaysRow : OpenClaim := { program := "ytlkkpjiclgpimaa", sum := "60c52c0e4b8ad59d60c7b175f1e7b2d6829ed4ed2204a601deb9346a7be179c6", func := "lintel/lintellaw9.SlotSays", spec := "slotSays", inPlace := ["internal/bytealg.IndexByteString", "internal/bytealg.IndexString"], named := ["internal/bytealg.MaxLen"], apart := false }
def SlotSaysSaid : Prop := slotSaysRow.holds Try.pinned (OpenSpec.ofChange slotSaysSpec)

/-- ITS FALSE NEIGHBOUR: 'it returns false'. Refute it at one input. -/
def slotSaysWrong : ChangeSpec := { name := "slotSays", fn := fun _ => fun
  | [d1, d2] => { results := [.lit (.bool false)], args := [d1, d2] }
  | _ => none }
def SlotSaysWrongFalsely : Prop := slotSaysRow.holds Try.pinned (OpenSpec.ofChange slotSaysWrong)

/-- 'lintellaw9.SlotOne': WHATEVER THE INPUT: true; the input reads as it did. -/
def slotOneSpec : ChangeSpec := { name := "slotOne", fn := fun _ => fun
  | [d1, d2, d3] => { results := [.lit (.bool true)], args := [d1, d2, d3] }
  | _ => none }
def slotOneRow : OpenClaim := { program := "ytlkkpjiclgpimaa", sum := "60c52c0e4b8ad59d60c7b175f1e7b2d6829ed4ed2204a601deb9346a7be179c6", func := "lintel/lintellaw9.SlotOne", spec := "slotOne", inPlace := ["internal/bytealg.IndexByteString", "internal/bytealg.IndexString"], named := ["internal/bytealg.MaxLen"], apart := false }
def SlotOneSaid : Prop := slotOneRow.holds Try.pinned (OpenSpec.ofChange slotOneSpec)

/-- ITS FALSE NEIGHBOUR: 'it returns false'. Refute it at one input. -/
def slotOneWrong : ChangeSpec := { name := "slotOne", fn := fun _ => fun
  | [d1, d2, d3] => { results := [.lit (.bool false)], args := [d1, d2, d3] }
  | _ => none }
def SlotOneWrongFalsely : Prop := slotOneRow.holds Try.pinned (OpenSpec.ofChange slotOneWrong)

/-- 'lintellaw9.SlotNames': WHATEVER THE INPUT: true; the input reads as it did. -/
def slotNamesSpec : ChangeSpec := { name := "slotNames", fn := fun _ => fun
  | [d1, d2] => { results := [.lit (.bool true)], args := [d1, d2] }
  | _ => none }
def slotNamesRow : OpenClaim := { program := "ytlkkpjiclgpimaa", sum := "60c52c0e4b8ad59d60c7b175f1e7b2d6829ed4ed2204a601deb9346a7be179c6", func := "lintel/lintellaw9.SlotNames", spec := "slotNames", inPlace := ["internal/bytealg.IndexByteString", "internal/bytealg.IndexString"], named := ["internal/bytealg.MaxLen"], apart := false }
def SlotNamesSaid : Prop := slotNamesRow.holds Try.pinned (OpenSpec.ofChange slotNamesSpec)

/-- ITS FALSE NEIGHBOUR: 'it returns false'. Refute it at one input. -/
def slotNamesWrong : ChangeSpec := { name := "slotNames", fn := fun _ => fun
  | [d1, d2] => { results := [.lit (.bool false)], args := [d1, d2] }
  | _ => none }
def SlotNamesWrongFalsely : Prop := slotNamesRow.holds Try.pinned (OpenSpec.ofChange slotNamesWrong)

/- THE SECOND FORM. 'bulk': how many values and letters a reading holds, each counted each time it is reached (what is shared counts as often as it is met; a slice's spare places count too). A statement '..UptoSaid' is the law's where the arguments, and the package variables that the reading takes, are together of bulk at most 1048576: NARROWER than '..Said'. Prove '..Said' where nothing that the law and all that it calls make is longer than what came in: it says more and counts as full. Else prove '..UptoSaid'. A law counts once. -/
mutual
def uptoBulk {H : Type} : DataW H → Nat
  | .lit (.string bytes) => bytes.length + 1
  | .lit _ => 1
  | .nil => 1
  | .ptr d => uptoBulk d + 1
  | .slice elems spare => uptoBulkAll elems + uptoBulkAll spare + 1
  | .agg parts => uptoBulkAll parts + 1
  | .iface _ d => uptoBulk d + 1
  | .map entries => uptoBulkEntries entries + 1
  | .held _ => 1
def uptoBulkAll {H : Type} : List (DataW H) → Nat
  | [] => 0
  | d :: r => uptoBulk d + uptoBulkAll r
def uptoBulkEntries {H : Type} : List (Lit × DataW H) → Nat
  | [] => 0
  | x :: r => uptoBulkEntry x + uptoBulkEntries r
def uptoBulkEntry {H : Type} : Lit × DataW H → Nat
  | (.string bytes, d) => bytes.length + uptoBulk d + 1
  | (_, d) => uptoBulk d + 1
 end
def uptoSmall : (H : Type) → List (DataW H) → Bool := fun _ ds => decide (uptoBulkAll ds ≤ 1048576)
def OpenSpec.upto (s : _root_.Go.ChangeSpec) : _root_.Go.OpenSpec := { _root_.Go.OpenSpec.ofChange s with cond := some uptoSmall }

/-- 'lintellaw6.GeomKnown', WHERE WHAT IT READS IS OF BULK AT MOST 1048576: true; the input reads as it did. -/
def geomKnownUptoRow : OpenClaim := { program := "ytlkkpjiclgpimaa", sum := "60c52c0e4b8ad59d60c7b175f1e7b2d6829ed4ed2204a601deb9346a7be179c6", func := "lintel/lintellaw6.GeomKnown", spec := "geomKnown", apart := false, narrowed := true }
def GeomKnownUptoSaid : Prop := geomKnownUptoRow.holds Try.pinned (OpenSpec.upto geomKnownSpec)

/-- 'lintellaw6.GeomSays', WHERE WHAT IT READS IS OF BULK AT MOST 1048576: true; the input reads as it did. -/
def geomSaysUptoRow : OpenClaim := { program := "ytlkkpjiclgpimaa", sum := "60c52c0e4b8ad59d60c7b175f1e7b2d6829ed4ed2204a601deb9346a7be179c6", func := "lintel/lintellaw6.GeomSays", spec := "geomSays", apart := false, narrowed := true }
def GeomSaysUptoSaid : Prop := geomSaysUptoRow.holds Try.pinned (OpenSpec.upto geomSaysSpec)

/-- 'lintellaw6.GeomParts', WHERE WHAT IT READS IS OF BULK AT MOST 1048576: true; the input reads as it did. -/
def geomPartsUptoRow : OpenClaim := { program := "ytlkkpjiclgpimaa", sum := "60c52c0e4b8ad59d60c7b175f1e7b2d6829ed4ed2204a601deb9346a7be179c6", func := "lintel/lintellaw6.GeomParts", spec := "geomParts", apart := false, narrowed := true }
def GeomPartsUptoSaid : Prop := geomPartsUptoRow.holds Try.pinned (OpenSpec.upto geomPartsSpec)

/-- 'lintellaw6.GeomMore', WHERE WHAT IT READS IS OF BULK AT MOST 1048576: true; the input reads as it did. -/
def geomMoreUptoRow : OpenClaim := { program := "ytlkkpjiclgpimaa", sum := "60c52c0e4b8ad59d60c7b175f1e7b2d6829ed4ed2204a601deb9346a7be179c6", func := "lintel/lintellaw6.GeomMore", spec := "geomMore", apart := false, narrowed := true }
def GeomMoreUptoSaid : Prop := geomMoreUptoRow.holds Try.pinned (OpenSpec.upto geomMoreSpec)

/-- 'lintellaw6.GeomPlain', WHERE WHAT IT READS IS OF BULK AT MOST 1048576: true; the input reads as it did. -/
def geomPlainUptoRow : OpenClaim := { program := "ytlkkpjiclgpimaa", sum := "60c52c0e4b8ad59d60c7b175f1e7b2d6829ed4ed2204a601deb9346a7be179c6", func := "lintel/lintellaw6.GeomPlain", spec := "geomPlain", apart := false, narrowed := true }
def GeomPlainUptoSaid : Prop := geomPlainUptoRow.holds Try.pinned (OpenSpec.upto geomPlainSpec)

/-- 'lintellaw7.HeadKnown', WHERE WHAT IT READS IS OF BULK AT MOST 1048576: true; the input reads as it did. -/
def headKnownUptoRow : OpenClaim := { program := "ytlkkpjiclgpimaa", sum := "60c52c0e4b8ad59d60c7b175f1e7b2d6829ed4ed2204a601deb9346a7be179c6", func := "lintel/lintellaw7.HeadKnown", spec := "headKnown", apart := false, narrowed := true }
def HeadKnownUptoSaid : Prop := headKnownUptoRow.holds Try.pinned (OpenSpec.upto headKnownSpec)

/-- 'lintellaw7.HeadSays', WHERE WHAT IT READS IS OF BULK AT MOST 1048576: true; the input reads as it did. -/
def headSaysUptoRow : OpenClaim := { program := "ytlkkpjiclgpimaa", sum := "60c52c0e4b8ad59d60c7b175f1e7b2d6829ed4ed2204a601deb9346a7be179c6", func := "lintel/lintellaw7.HeadSays", spec := "headSays", apart := false, narrowed := true }
def HeadSaysUptoSaid : Prop := headSaysUptoRow.holds Try.pinned (OpenSpec.upto headSaysSpec)

/-- 'lintellaw7.HeadOne', WHERE WHAT IT READS IS OF BULK AT MOST 1048576: true; the input reads as it did. -/
def headOneUptoRow : OpenClaim := { program := "ytlkkpjiclgpimaa", sum := "60c52c0e4b8ad59d60c7b175f1e7b2d6829ed4ed2204a601deb9346a7be179c6", func := "lintel/lintellaw7.HeadOne", spec := "headOne", apart := false, narrowed := true }
def HeadOneUptoSaid : Prop := headOneUptoRow.holds Try.pinned (OpenSpec.upto headOneSpec)

/-- 'lintellaw7.HeadTwo', WHERE WHAT IT READS IS OF BULK AT MOST 1048576: true; the input reads as it did. -/
def headTwoUptoRow : OpenClaim := { program := "ytlkkpjiclgpimaa", sum := "60c52c0e4b8ad59d60c7b175f1e7b2d6829ed4ed2204a601deb9346a7be179c6", func := "lintel/lintellaw7.HeadTwo", spec := "headTwo", apart := false, narrowed := true }
def HeadTwoUptoSaid : Prop := headTwoUptoRow.holds Try.pinned (OpenSpec.upto headTwoSpec)

/-- 'lintellaw7.HeadBack', WHERE WHAT IT READS IS OF BULK AT MOST 1048576: true; the input reads as it did. -/
def headBackUptoRow : OpenClaim := { program := "ytlkkpjiclgpimaa", sum := "60c52c0e4b8ad59d60c7b175f1e7b2d6829ed4ed2204a601deb9346a7be179c6", func := "lintel/lintellaw7.HeadBack", spec := "headBack", apart := false, narrowed := true }
def HeadBackUptoSaid : Prop := headBackUptoRow.holds Try.pinned (OpenSpec.upto headBackSpec)

/-- 'lintellaw8.NodeKnown', WHERE WHAT IT READS IS OF BULK AT MOST 1048576: true; the input reads as it did. -/
def nodeKnownUptoRow : OpenClaim := { program := "ytlkkpjiclgpimaa", sum := "60c52c0e4b8ad59d60c7b175f1e7b2d6829ed4ed2204a601deb9346a7be179c6", func := "lintel/lintellaw8.NodeKnown", spec := "nodeKnown", apart := false, narrowed := true }
def NodeKnownUptoSaid : Prop := nodeKnownUptoRow.holds Try.pinned (OpenSpec.upto nodeKnownSpec)

/-- 'lintellaw8.NodeSays', WHERE WHAT IT READS IS OF BULK AT MOST 1048576: true; the input reads as it did. -/
def nodeSaysUptoRow : OpenClaim := { program := "ytlkkpjiclgpimaa", sum := "60c52c0e4b8ad59d60c7b175f1e7b2d6829ed4ed2204a601deb9346a7be179c6", func := "lintel/lintellaw8.NodeSays", spec := "nodeSays", apart := false, narrowed := true }
def NodeSaysUptoSaid : Prop := nodeSaysUptoRow.holds Try.pinned (OpenSpec.upto nodeSaysSpec)

/-- 'lintellaw8.NodeOne', WHERE WHAT IT READS IS OF BULK AT MOST 1048576: true; the input reads as it did. -/
def nodeOneUptoRow : OpenClaim := { program := "ytlkkpjiclgpimaa", sum := "60c52c0e4b8ad59d60c7b175f1e7b2d6829ed4ed2204a601deb9346a7be179c6", func := "lintel/lintellaw8.NodeOne", spec := "nodeOne", apart := false, narrowed := true }
def NodeOneUptoSaid : Prop := nodeOneUptoRow.holds Try.pinned (OpenSpec.upto nodeOneSpec)

/-- 'lintellaw8.NodeLong', WHERE WHAT IT READS IS OF BULK AT MOST 1048576: true; the input reads as it did. -/
def nodeLongUptoRow : OpenClaim := { program := "ytlkkpjiclgpimaa", sum := "60c52c0e4b8ad59d60c7b175f1e7b2d6829ed4ed2204a601deb9346a7be179c6", func := "lintel/lintellaw8.NodeLong", spec := "nodeLong", apart := false, narrowed := true }
def NodeLongUptoSaid : Prop := nodeLongUptoRow.holds Try.pinned (OpenSpec.upto nodeLongSpec)

/-- 'lintellaw8.NodeGood', WHERE WHAT IT READS IS OF BULK AT MOST 1048576: true; the input reads as it did. -/
def nodeGoodUptoRow : OpenClaim := { program := "ytlkkpjiclgpimaa", sum := "60c52c0e4b8ad59d60c7b175f1e7b2d6829ed4ed2204a601deb9346a7be179c6", func := "lintel/lintellaw8.NodeGood", spec := "nodeGood", apart := false, narrowed := true }
def NodeGoodUptoSaid : Prop := nodeGoodUptoRow.holds Try.pinned (OpenSpec.upto nodeGoodSpec)

/-- 'lintellaw9.SlotKnown', WHERE WHAT IT READS IS OF BULK AT MOST 1048576: true; the input reads as it did. -/
def slotKnownUptoRow : OpenClaim := { program := "ytlkkpjiclgpimaa", sum := "60c52c0e4b8ad59d60c7b175f1e7b2d6829ed4ed2204a601deb9346a7be179c6", func := "lintel/lintellaw9.SlotKnown", spec := "slotKnown", inPlace := ["internal/bytealg.IndexByteString", "internal/bytealg.IndexString"], named := ["internal/bytealg.MaxLen"], apart := false, narrowed := true }
def SlotKnownUptoSaid : Prop := slotKnownUptoRow.holds Try.pinned (OpenSpec.upto slotKnownSpec)

/-- 'lintellaw9.SlotSays', WHERE WHAT IT READS IS OF BULK AT MOST 1048576: true; the input reads as it did. -/
def slotSaysUptoRow : OpenClaim := { program := "ytlkkpjiclgpimaa", sum := "60c52c0e4b8ad59d60c7b175f1e7b2d6829ed4ed2204a601deb9346a7be179c6", func := "lintel/lintellaw9.SlotSays", spec := "slotSays", inPlace := ["internal/bytealg.IndexByteString", "internal/bytealg.IndexString"], named := ["internal/bytealg.MaxLen"], apart := false, narrowed := true }
def SlotSaysUptoSaid : Prop := slotSaysUptoRow.holds Try.pinned (OpenSpec.upto slotSaysSpec)

/-- 'lintellaw9.SlotOne', WHERE WHAT IT READS IS OF BULK AT MOST 1048576: true; the input reads as it did. -/
def slotOneUptoRow : OpenClaim := { program := "ytlkkpjiclgpimaa", sum := "60c52c0e4b8ad59d60c7b175f1e7b2d6829ed4ed2204a601deb9346a7be179c6", func := "lintel/lintellaw9.SlotOne", spec := "slotOne", inPlace := ["internal/bytealg.IndexByteString", "internal/bytealg.IndexString"], named := ["internal/bytealg.MaxLen"], apart := false, narrowed := true }
def SlotOneUptoSaid : Prop := slotOneUptoRow.holds Try.pinned (OpenSpec.upto slotOneSpec)

/-- 'lintellaw9.SlotNames', WHERE WHAT IT READS IS OF BULK AT MOST 1048576: true; the input reads as it did. -/
def slotNamesUptoRow : OpenClaim := { program := "ytlkkpjiclgpimaa", sum := "60c52c0e4b8ad59d60c7b175f1e7b2d6829ed4ed2204a601deb9346a7be179c6", func := "lintel/lintellaw9.SlotNames", spec := "slotNames", inPlace := ["internal/bytealg.IndexByteString", "internal/bytealg.IndexString"], named := ["internal/bytealg.MaxLen"], apart := false, narrowed := true }
def SlotNamesUptoSaid : Prop := slotNamesUptoRow.holds Try.pinned (OpenSpec.upto slotNamesSpec)

end Rows
end Go.Proofs.Ytlkkpjiclgpimaa
