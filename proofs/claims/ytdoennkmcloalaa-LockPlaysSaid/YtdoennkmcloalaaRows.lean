/-
  No cell of these rows narrows 'for every input' (looked for: loops, veiled, ifaces, maps, wideKeys, modest, calm, conditions, laid).
  DERIVED. THE GIVEN ROWS OF THIS SEAT. 16 by the template 'for every input the law returns true; each argument reads behind the call as it read before'; 0 by the template 'total and deterministic' (their statements: YtdoennkmcloalaaTotals.lean).
  GIVEN WITH THE SEED: the statements are not yours to turn. If you find one false, say at which input.
  Laid BY PROGRAM, IN A SANDBOX (cutbox-rows.mjs): the forced cells as the released guide's own fill.sh prints them over the translation 22382fc1cd8174a1… (all of the seat's roots in one cut). By AI agents, Wed Nov 11 2026. No macro, syntax, notation, axiom, sorry.
-/
import Derived.Test.YtdoennkmcloalaaChecked
import GoSem.Claim
import GoSem.ClaimJoined
import GoSem.ClaimMapViews
import Derived.JoinedTies
import Derived.KernelRfl
namespace Go.Proofs.Ytdoennkmcloalaa
/- THE CELL 'sum', in the pinned program and in every row, IS THE sha256 OF THE DUMP (.gsa) THAT YtdoennkmcloalaaProg.lean LOADS. Nothing in Lean hashes anything: it is a label: what it is worth is what the hold of that sum in a sandbox is worth. -/
noncomputable def Try.pinned : Pinned := { name := "ytdoennkmcloalaa", sum := "22382fc1cd8174a139bd48e3dfad694842f9bf25d2614d7b741703371e5eef8f", checked := Try.checked }
namespace Rows
def none {H : Type} : Left H := { results := [], args := [] }

/-- 'lintellaw1.WordSays': WHATEVER THE INPUT: true; the input reads as it did. -/
def wordSaysSpec : ChangeSpec := { name := "wordSays", fn := fun _ => fun
  | [d1, d2, d3, d4, d5, d6] => { results := [.lit (.bool true)], args := [d1, d2, d3, d4, d5, d6] }
  | _ => none }
def wordSaysRow : OpenClaim := { program := "ytdoennkmcloalaa", sum := "22382fc1cd8174a139bd48e3dfad694842f9bf25d2614d7b741703371e5eef8f", func := "lintel/lintellaw1.WordSays", spec := "wordSays", apart := false }
def WordSaysSaid : Prop := wordSaysRow.holds Try.pinned (OpenSpec.ofChange wordSaysSpec)

/-- ITS FALSE NEIGHBOUR: 'it returns false'. Refute it at one input. -/
def wordSaysWrong : ChangeSpec := { name := "wordSays", fn := fun _ => fun
  | [d1, d2, d3, d4, d5, d6] => { results := [.lit (.bool false)], args := [d1, d2, d3, d4, d5, d6] }
  | _ => none }
def WordSaysWrongFalsely : Prop := wordSaysRow.holds Try.pinned (OpenSpec.ofChange wordSaysWrong)

/-- 'lintellaw8.NodeSays': WHATEVER THE INPUT: true; the input reads as it did. -/
def nodeSaysSpec : ChangeSpec := { name := "nodeSays", fn := fun _ => fun
  | [d1, d2, d3] => { results := [.lit (.bool true)], args := [d1, d2, d3] }
  | _ => none }
def nodeSaysRow : OpenClaim := { program := "ytdoennkmcloalaa", sum := "22382fc1cd8174a139bd48e3dfad694842f9bf25d2614d7b741703371e5eef8f", func := "lintel/lintellaw8.NodeSays", spec := "nodeSays", apart := false }
def NodeSaysSaid : Prop := nodeSaysRow.holds Try.pinned (OpenSpec.ofChange nodeSaysSpec)

/-- ITS FALSE NEIGHBOUR: 'it returns false'. Refute it at one input. -/
def nodeSaysWrong : ChangeSpec := { name := "nodeSays", fn := fun _ => fun
  | [d1, d2, d3] => { results := [.lit (.bool false)], args := [d1, d2, d3] }
  | _ => none }
def NodeSaysWrongFalsely : Prop := nodeSaysRow.holds Try.pinned (OpenSpec.ofChange nodeSaysWrong)

/-- 'lintellaw9.SlotSays': WHATEVER THE INPUT: true; the input reads as it did. -/
def slotSaysSpec : ChangeSpec := { name := "slotSays", fn := fun _ => fun
  | [d1, d2] => { results := [.lit (.bool true)], args := [d1, d2] }
  | _ => none }
def slotSaysRow : OpenClaim := { program := "ytdoennkmcloalaa", sum := "22382fc1cd8174a139bd48e3dfad694842f9bf25d2614d7b741703371e5eef8f", func := "lintel/lintellaw9.SlotSays", spec := "slotSays", inPlace := ["internal/bytealg.IndexByteString", "internal/bytealg.IndexString"], named := ["internal/bytealg.MaxLen"], apart := false }
def SlotSaysSaid : Prop := slotSaysRow.holds Try.pinned (OpenSpec.ofChange slotSaysSpec)

/-- ITS FALSE NEIGHBOUR: 'it returns false'. Refute it at one input. -/
def slotSaysWrong : ChangeSpec := { name := "slotSays", fn := fun _ => fun
  | [d1, d2] => { results := [.lit (.bool false)], args := [d1, d2] }
  | _ => none }
def SlotSaysWrongFalsely : Prop := slotSaysRow.holds Try.pinned (OpenSpec.ofChange slotSaysWrong)

/-- 'lintellaw9.SlotOne': WHATEVER THE INPUT: true; the input reads as it did. -/
def slotOneSpec : ChangeSpec := { name := "slotOne", fn := fun _ => fun
  | [d1, d2, d3] => { results := [.lit (.bool true)], args := [d1, d2, d3] }
  | _ => none }
def slotOneRow : OpenClaim := { program := "ytdoennkmcloalaa", sum := "22382fc1cd8174a139bd48e3dfad694842f9bf25d2614d7b741703371e5eef8f", func := "lintel/lintellaw9.SlotOne", spec := "slotOne", inPlace := ["internal/bytealg.IndexByteString", "internal/bytealg.IndexString"], named := ["internal/bytealg.MaxLen"], apart := false }
def SlotOneSaid : Prop := slotOneRow.holds Try.pinned (OpenSpec.ofChange slotOneSpec)

/-- ITS FALSE NEIGHBOUR: 'it returns false'. Refute it at one input. -/
def slotOneWrong : ChangeSpec := { name := "slotOne", fn := fun _ => fun
  | [d1, d2, d3] => { results := [.lit (.bool false)], args := [d1, d2, d3] }
  | _ => none }
def SlotOneWrongFalsely : Prop := slotOneRow.holds Try.pinned (OpenSpec.ofChange slotOneWrong)

/-- 'lintellaw9.SlotNames': WHATEVER THE INPUT: true; the input reads as it did. -/
def slotNamesSpec : ChangeSpec := { name := "slotNames", fn := fun _ => fun
  | [d1, d2] => { results := [.lit (.bool true)], args := [d1, d2] }
  | _ => none }
def slotNamesRow : OpenClaim := { program := "ytdoennkmcloalaa", sum := "22382fc1cd8174a139bd48e3dfad694842f9bf25d2614d7b741703371e5eef8f", func := "lintel/lintellaw9.SlotNames", spec := "slotNames", inPlace := ["internal/bytealg.IndexByteString", "internal/bytealg.IndexString"], named := ["internal/bytealg.MaxLen"], apart := false }
def SlotNamesSaid : Prop := slotNamesRow.holds Try.pinned (OpenSpec.ofChange slotNamesSpec)

/-- ITS FALSE NEIGHBOUR: 'it returns false'. Refute it at one input. -/
def slotNamesWrong : ChangeSpec := { name := "slotNames", fn := fun _ => fun
  | [d1, d2] => { results := [.lit (.bool false)], args := [d1, d2] }
  | _ => none }
def SlotNamesWrongFalsely : Prop := slotNamesRow.holds Try.pinned (OpenSpec.ofChange slotNamesWrong)

/-- 'lintellaw10.RunsMerged': WHATEVER THE INPUT: true; the input reads as it did. -/
def runsMergedSpec : ChangeSpec := { name := "runsMerged", fn := fun _ => fun
  | [d1, d2] => { results := [.lit (.bool true)], args := [d1, d2] }
  | _ => none }
def runsMergedRow : OpenClaim := { program := "ytdoennkmcloalaa", sum := "22382fc1cd8174a139bd48e3dfad694842f9bf25d2614d7b741703371e5eef8f", func := "lintel/lintellaw10.RunsMerged", spec := "runsMerged", unfollowed := true, recurses := true, apart := false }
def RunsMergedSaid : Prop := runsMergedRow.holds Try.pinned (OpenSpec.ofChange runsMergedSpec)

/-- ITS FALSE NEIGHBOUR: 'it returns false'. Refute it at one input. -/
def runsMergedWrong : ChangeSpec := { name := "runsMerged", fn := fun _ => fun
  | [d1, d2] => { results := [.lit (.bool false)], args := [d1, d2] }
  | _ => none }
def RunsMergedWrongFalsely : Prop := runsMergedRow.holds Try.pinned (OpenSpec.ofChange runsMergedWrong)

/-- 'lintellaw12.PoolPlays': WHATEVER THE INPUT: true; the input reads as it did. -/
def poolPlaysSpec : ChangeSpec := { name := "poolPlays", fn := fun _ => fun
  | [d1, d2] => { results := [.lit (.bool true)], args := [d1, d2] }
  | _ => none }
def poolPlaysRow : OpenClaim := { program := "ytdoennkmcloalaa", sum := "22382fc1cd8174a139bd48e3dfad694842f9bf25d2614d7b741703371e5eef8f", func := "lintel/lintellaw12.PoolPlays", spec := "poolPlays", unfollowed := true, recurses := true, apart := false }
def PoolPlaysSaid : Prop := poolPlaysRow.holds Try.pinned (OpenSpec.ofChange poolPlaysSpec)

/-- ITS FALSE NEIGHBOUR: 'it returns false'. Refute it at one input. -/
def poolPlaysWrong : ChangeSpec := { name := "poolPlays", fn := fun _ => fun
  | [d1, d2] => { results := [.lit (.bool false)], args := [d1, d2] }
  | _ => none }
def PoolPlaysWrongFalsely : Prop := poolPlaysRow.holds Try.pinned (OpenSpec.ofChange poolPlaysWrong)

/-- 'lintellaw12.PoolGroups': WHATEVER THE INPUT: true; the input reads as it did. -/
def poolGroupsSpec : ChangeSpec := { name := "poolGroups", fn := fun _ => fun
  | [d1, d2] => { results := [.lit (.bool true)], args := [d1, d2] }
  | _ => none }
def poolGroupsRow : OpenClaim := { program := "ytdoennkmcloalaa", sum := "22382fc1cd8174a139bd48e3dfad694842f9bf25d2614d7b741703371e5eef8f", func := "lintel/lintellaw12.PoolGroups", spec := "poolGroups", unfollowed := true, recurses := true, apart := false }
def PoolGroupsSaid : Prop := poolGroupsRow.holds Try.pinned (OpenSpec.ofChange poolGroupsSpec)

/-- ITS FALSE NEIGHBOUR: 'it returns false'. Refute it at one input. -/
def poolGroupsWrong : ChangeSpec := { name := "poolGroups", fn := fun _ => fun
  | [d1, d2] => { results := [.lit (.bool false)], args := [d1, d2] }
  | _ => none }
def PoolGroupsWrongFalsely : Prop := poolGroupsRow.holds Try.pinned (OpenSpec.ofChange poolGroupsWrong)

/-- 'lintellaw12.PoolBack': WHATEVER THE INPUT: true; the input reads as it did. -/
def poolBackSpec : ChangeSpec := { name := "poolBack", fn := fun _ => fun
  | [d] => { results := [.lit (.bool true)], args := [d] }
  | _ => none }
def poolBackRow : OpenClaim := { program := "ytdoennkmcloalaa", sum := "22382fc1cd8174a139bd48e3dfad694842f9bf25d2614d7b741703371e5eef8f", func := "lintel/lintellaw12.PoolBack", spec := "poolBack", unfollowed := true, recurses := true, apart := false }
def PoolBackSaid : Prop := poolBackRow.holds Try.pinned (OpenSpec.ofChange poolBackSpec)

/-- ITS FALSE NEIGHBOUR: 'it returns false'. Refute it at one input. -/
def poolBackWrong : ChangeSpec := { name := "poolBack", fn := fun _ => fun
  | [d] => { results := [.lit (.bool false)], args := [d] }
  | _ => none }
def PoolBackWrongFalsely : Prop := poolBackRow.holds Try.pinned (OpenSpec.ofChange poolBackWrong)

/-- 'lintellaw14.BookFalls': WHATEVER THE INPUT: true; the input reads as it did. -/
def bookFallsSpec : ChangeSpec := { name := "bookFalls", fn := fun _ => fun
  | [d1, d2, d3, d4, d5] => { results := [.lit (.bool true)], args := [d1, d2, d3, d4, d5] }
  | _ => none }
def bookFallsRow : OpenClaim := { program := "ytdoennkmcloalaa", sum := "22382fc1cd8174a139bd48e3dfad694842f9bf25d2614d7b741703371e5eef8f", func := "lintel/lintellaw14.BookFalls", spec := "bookFalls", apart := false }
def BookFallsSaid : Prop := bookFallsRow.holds Try.pinned (OpenSpec.ofChange bookFallsSpec)

/-- ITS FALSE NEIGHBOUR: 'it returns false'. Refute it at one input. -/
def bookFallsWrong : ChangeSpec := { name := "bookFalls", fn := fun _ => fun
  | [d1, d2, d3, d4, d5] => { results := [.lit (.bool false)], args := [d1, d2, d3, d4, d5] }
  | _ => none }
def BookFallsWrongFalsely : Prop := bookFallsRow.holds Try.pinned (OpenSpec.ofChange bookFallsWrong)

/-- 'lintellaw14.BookAgain': WHATEVER THE INPUT: true; the input reads as it did. -/
def bookAgainSpec : ChangeSpec := { name := "bookAgain", fn := fun _ => fun
  | [d] => { results := [.lit (.bool true)], args := [d] }
  | _ => none }
def bookAgainRow : OpenClaim := { program := "ytdoennkmcloalaa", sum := "22382fc1cd8174a139bd48e3dfad694842f9bf25d2614d7b741703371e5eef8f", func := "lintel/lintellaw14.BookAgain", spec := "bookAgain", apart := false }
def BookAgainSaid : Prop := bookAgainRow.holds Try.pinned (OpenSpec.ofChange bookAgainSpec)

/-- ITS FALSE NEIGHBOUR: 'it returns false'. Refute it at one input. -/
def bookAgainWrong : ChangeSpec := { name := "bookAgain", fn := fun _ => fun
  | [d] => { results := [.lit (.bool false)], args := [d] }
  | _ => none }
def BookAgainWrongFalsely : Prop := bookAgainRow.holds Try.pinned (OpenSpec.ofChange bookAgainWrong)

/-- 'lintellaw14.BookRoom': WHATEVER THE INPUT: true; the input reads as it did. -/
def bookRoomSpec : ChangeSpec := { name := "bookRoom", fn := fun _ => fun
  | [d] => { results := [.lit (.bool true)], args := [d] }
  | _ => none }
def bookRoomRow : OpenClaim := { program := "ytdoennkmcloalaa", sum := "22382fc1cd8174a139bd48e3dfad694842f9bf25d2614d7b741703371e5eef8f", func := "lintel/lintellaw14.BookRoom", spec := "bookRoom", apart := false }
def BookRoomSaid : Prop := bookRoomRow.holds Try.pinned (OpenSpec.ofChange bookRoomSpec)

/-- ITS FALSE NEIGHBOUR: 'it returns false'. Refute it at one input. -/
def bookRoomWrong : ChangeSpec := { name := "bookRoom", fn := fun _ => fun
  | [d] => { results := [.lit (.bool false)], args := [d] }
  | _ => none }
def BookRoomWrongFalsely : Prop := bookRoomRow.holds Try.pinned (OpenSpec.ofChange bookRoomWrong)

/-- 'lintellaw15.BooksPlays': WHATEVER THE INPUT: true; the input reads as it did. -/
def booksPlaysSpec : ChangeSpec := { name := "booksPlays", fn := fun _ => fun
  | [d1, d2] => { results := [.lit (.bool true)], args := [d1, d2] }
  | _ => none }
def booksPlaysRow : OpenClaim := { program := "ytdoennkmcloalaa", sum := "22382fc1cd8174a139bd48e3dfad694842f9bf25d2614d7b741703371e5eef8f", func := "lintel/lintellaw15.BooksPlays", spec := "booksPlays", unfollowed := true, recurses := true, apart := false }
def BooksPlaysSaid : Prop := booksPlaysRow.holds Try.pinned (OpenSpec.ofChange booksPlaysSpec)

/-- ITS FALSE NEIGHBOUR: 'it returns false'. Refute it at one input. -/
def booksPlaysWrong : ChangeSpec := { name := "booksPlays", fn := fun _ => fun
  | [d1, d2] => { results := [.lit (.bool false)], args := [d1, d2] }
  | _ => none }
def BooksPlaysWrongFalsely : Prop := booksPlaysRow.holds Try.pinned (OpenSpec.ofChange booksPlaysWrong)

/-- 'lintellaw15.BooksOrder': WHATEVER THE INPUT: true; the input reads as it did. -/
def booksOrderSpec : ChangeSpec := { name := "booksOrder", fn := fun _ => fun
  | [d] => { results := [.lit (.bool true)], args := [d] }
  | _ => none }
def booksOrderRow : OpenClaim := { program := "ytdoennkmcloalaa", sum := "22382fc1cd8174a139bd48e3dfad694842f9bf25d2614d7b741703371e5eef8f", func := "lintel/lintellaw15.BooksOrder", spec := "booksOrder", unfollowed := true, recurses := true, apart := false }
def BooksOrderSaid : Prop := booksOrderRow.holds Try.pinned (OpenSpec.ofChange booksOrderSpec)

/-- ITS FALSE NEIGHBOUR: 'it returns false'. Refute it at one input. -/
def booksOrderWrong : ChangeSpec := { name := "booksOrder", fn := fun _ => fun
  | [d] => { results := [.lit (.bool false)], args := [d] }
  | _ => none }
def BooksOrderWrongFalsely : Prop := booksOrderRow.holds Try.pinned (OpenSpec.ofChange booksOrderWrong)

/-- 'lintellaw23.LockPlays': WHATEVER THE INPUT: true; the input reads as it did. -/
def lockPlaysSpec : ChangeSpec := { name := "lockPlays", fn := fun _ => fun
  | [d] => { results := [.lit (.bool true)], args := [d] }
  | _ => none }
def lockPlaysRow : OpenClaim := { program := "ytdoennkmcloalaa", sum := "22382fc1cd8174a139bd48e3dfad694842f9bf25d2614d7b741703371e5eef8f", func := "lintel/lintellaw23.LockPlays", spec := "lockPlays", inPlace := ["slices.overlaps[int]"], apart := false }
def LockPlaysSaid : Prop := lockPlaysRow.holds Try.pinned (OpenSpec.ofChange lockPlaysSpec)

/-- ITS FALSE NEIGHBOUR: 'it returns false'. Refute it at one input. -/
def lockPlaysWrong : ChangeSpec := { name := "lockPlays", fn := fun _ => fun
  | [d] => { results := [.lit (.bool false)], args := [d] }
  | _ => none }
def LockPlaysWrongFalsely : Prop := lockPlaysRow.holds Try.pinned (OpenSpec.ofChange lockPlaysWrong)

/-- 'lintellaw23.LockAlone': WHATEVER THE INPUT: true; the input reads as it did. -/
def lockAloneSpec : ChangeSpec := { name := "lockAlone", fn := fun _ => fun
  | [d1, d2, d3] => { results := [.lit (.bool true)], args := [d1, d2, d3] }
  | _ => none }
def lockAloneRow : OpenClaim := { program := "ytdoennkmcloalaa", sum := "22382fc1cd8174a139bd48e3dfad694842f9bf25d2614d7b741703371e5eef8f", func := "lintel/lintellaw23.LockAlone", spec := "lockAlone", inPlace := ["slices.overlaps[int]"], apart := false }
def LockAloneSaid : Prop := lockAloneRow.holds Try.pinned (OpenSpec.ofChange lockAloneSpec)

/-- ITS FALSE NEIGHBOUR: 'it returns false'. Refute it at one input. -/
def lockAloneWrong : ChangeSpec := { name := "lockAlone", fn := fun _ => fun
  | [d1, d2, d3] => { results := [.lit (.bool false)], args := [d1, d2, d3] }
  | _ => none }
def LockAloneWrongFalsely : Prop := lockAloneRow.holds Try.pinned (OpenSpec.ofChange lockAloneWrong)

/- THE SECOND FORM. 'bulk': how many values and letters a reading holds, each counted each time it is reached (what is shared counts as often as it is met; a slice's spare places count too). A statement '..UptoSaid' is the law's where the arguments, and the package variables that the reading takes, are together of bulk at most 1048576: NARROWER than '..Said'. Prove '..Said' where nothing that the law and all that it calls make is longer than what came in: it says more and counts as full. Else prove '..UptoSaid'. A law counts once. -/
mutual
def uptoBulk {H : Type} : DataW H → Nat
  | .lit (.string bytes) => bytes.length + 1
  | .lit _ => 1
  | .nil => 1
  | .ptr d => uptoBulk d + 1
  | .slice elems spare => uptoBulkAll elems + uptoBulkAll spare + 1
  | .agg parts => uptoBulkAll parts + 1
  | .iface _ d => uptoBulk d + 1
  | .map entries => uptoBulkEntries entries + 1
  | .held _ => 1
def uptoBulkAll {H : Type} : List (DataW H) → Nat
  | [] => 0
  | d :: r => uptoBulk d + uptoBulkAll r
def uptoBulkEntries {H : Type} : List (Lit × DataW H) → Nat
  | [] => 0
  | x :: r => uptoBulkEntry x + uptoBulkEntries r
def uptoBulkEntry {H : Type} : Lit × DataW H → Nat
  | (.string bytes, d) => bytes.length + uptoBulk d + 1
  | (_, d) => uptoBulk d + 1
 end
def uptoSmall : (H : Type) → List (DataW H) → Bool := fun _ ds => decide (uptoBulkAll ds ≤ 1048576)
def OpenSpec.upto (s : _root_.Go.ChangeSpec) : _root_.Go.OpenSpec := { _root_.Go.OpenSpec.ofChange s with cond := some uptoSmall }

/-- 'lintellaw1.WordSays', WHERE WHAT IT READS IS OF BULK AT MOST 1048576: true; the input reads as it did. -/
def wordSaysUptoRow : OpenClaim := { program := "ytdoennkmcloalaa", sum := "22382fc1cd8174a139bd48e3dfad694842f9bf25d2614d7b741703371e5eef8f", func := "lintel/lintellaw1.WordSays", spec := "wordSays", apart := false, narrowed := true }
def WordSaysUptoSaid : Prop := wordSaysUptoRow.holds Try.pinned (OpenSpec.upto wordSaysSpec)

/-- 'lintellaw8.NodeSays', WHERE WHAT IT READS IS OF BULK AT MOST 1048576: true; the input reads as it did. -/
def nodeSaysUptoRow : OpenClaim := { program := "ytdoennkmcloalaa", sum := "22382fc1cd8174a139bd48e3dfad694842f9bf25d2614d7b741703371e5eef8f", func := "lintel/lintellaw8.NodeSays", spec := "nodeSays", apart := false, narrowed := true }
def NodeSaysUptoSaid : Prop := nodeSaysUptoRow.holds Try.pinned (OpenSpec.upto nodeSaysSpec)

/-- 'lintellaw9.SlotSays', WHERE WHAT IT READS IS OF BULK AT MOST 1048576: true; the input reads as it did. -/
def slotSaysUptoRow : OpenClaim := { program := "ytdoennkmcloalaa", sum := "22382fc1cd8174a139bd48e3dfad694842f9bf25d2614d7b741703371e5eef8f", func := "lintel/lintellaw9.SlotSays", spec := "slotSays", inPlace := ["internal/bytealg.IndexByteString", "internal/bytealg.IndexString"], named := ["internal/bytealg.MaxLen"], apart := false, narrowed := true }
def SlotSaysUptoSaid : Prop := slotSaysUptoRow.holds Try.pinned (OpenSpec.upto slotSaysSpec)

/-- 'lintellaw9.SlotOne', WHERE WHAT IT READS IS OF BULK AT MOST 1048576: true; the input reads as it did. -/
def slotOneUptoRow : OpenClaim := { program := "ytdoennkmcloalaa", sum := "22382fc1cd8174a139bd48e3dfad694842f9bf25d2614d7b741703371e5eef8f", func := "lintel/lintellaw9.SlotOne", spec := "slotOne", inPlace := ["internal/bytealg.IndexByteString", "internal/bytealg.IndexString"], named := ["internal/bytealg.MaxLen"], apart := false, narrowed := true }
def SlotOneUptoSaid : Prop := slotOneUptoRow.holds Try.pinned (OpenSpec.upto slotOneSpec)

/-- 'lintellaw9.SlotNames', WHERE WHAT IT READS IS OF BULK AT MOST 1048576: true; the input reads as it did. -/
def slotNamesUptoRow : OpenClaim := { program := "ytdoennkmcloalaa", sum := "22382fc1cd8174a139bd48e3dfad694842f9bf25d2614d7b741703371e5eef8f", func := "lintel/lintellaw9.SlotNames", spec := "slotNames", inPlace := ["internal/bytealg.IndexByteString", "internal/bytealg.IndexString"], named := ["internal/bytealg.MaxLen"], apart := false, narrowed := true }
def SlotNamesUptoSaid : Prop := slotNamesUptoRow.holds Try.pinned (OpenSpec.upto slotNamesSpec)

/-- 'lintellaw10.RunsMerged', WHERE WHAT IT READS IS OF BULK AT MOST 1048576: true; the input reads as it did. -/
def runsMergedUptoRow : OpenClaim := { program := "ytdoennkmcloalaa", sum := "22382fc1cd8174a139bd48e3dfad694842f9bf25d2614d7b741703371e5eef8f", func := "lintel/lintellaw10.RunsMerged", spec := "runsMerged", unfollowed := true, recurses := true, apart := false, narrowed := true }
def RunsMergedUptoSaid : Prop := runsMergedUptoRow.holds Try.pinned (OpenSpec.upto runsMergedSpec)

/-- 'lintellaw12.PoolPlays', WHERE WHAT IT READS IS OF BULK AT MOST 1048576: true; the input reads as it did. -/
def poolPlaysUptoRow : OpenClaim := { program := "ytdoennkmcloalaa", sum := "22382fc1cd8174a139bd48e3dfad694842f9bf25d2614d7b741703371e5eef8f", func := "lintel/lintellaw12.PoolPlays", spec := "poolPlays", unfollowed := true, recurses := true, apart := false, narrowed := true }
def PoolPlaysUptoSaid : Prop := poolPlaysUptoRow.holds Try.pinned (OpenSpec.upto poolPlaysSpec)

/-- 'lintellaw12.PoolGroups', WHERE WHAT IT READS IS OF BULK AT MOST 1048576: true; the input reads as it did. -/
def poolGroupsUptoRow : OpenClaim := { program := "ytdoennkmcloalaa", sum := "22382fc1cd8174a139bd48e3dfad694842f9bf25d2614d7b741703371e5eef8f", func := "lintel/lintellaw12.PoolGroups", spec := "poolGroups", unfollowed := true, recurses := true, apart := false, narrowed := true }
def PoolGroupsUptoSaid : Prop := poolGroupsUptoRow.holds Try.pinned (OpenSpec.upto poolGroupsSpec)

/-- 'lintellaw12.PoolBack', WHERE WHAT IT READS IS OF BULK AT MOST 1048576: true; the input reads as it did. -/
def poolBackUptoRow : OpenClaim := { program := "ytdoennkmcloalaa", sum := "22382fc1cd8174a139bd48e3dfad694842f9bf25d2614d7b741703371e5eef8f", func := "lintel/lintellaw12.PoolBack", spec := "poolBack", unfollowed := true, recurses := true, apart := false, narrowed := true }
def PoolBackUptoSaid : Prop := poolBackUptoRow.holds Try.pinned (OpenSpec.upto poolBackSpec)

/-- 'lintellaw14.BookFalls', WHERE WHAT IT READS IS OF BULK AT MOST 1048576: true; the input reads as it did. -/
def bookFallsUptoRow : OpenClaim := { program := "ytdoennkmcloalaa", sum := "22382fc1cd8174a139bd48e3dfad694842f9bf25d2614d7b741703371e5eef8f", func := "lintel/lintellaw14.BookFalls", spec := "bookFalls", apart := false, narrowed := true }
def BookFallsUptoSaid : Prop := bookFallsUptoRow.holds Try.pinned (OpenSpec.upto bookFallsSpec)

/-- 'lintellaw14.BookAgain', WHERE WHAT IT READS IS OF BULK AT MOST 1048576: true; the input reads as it did. -/
def bookAgainUptoRow : OpenClaim := { program := "ytdoennkmcloalaa", sum := "22382fc1cd8174a139bd48e3dfad694842f9bf25d2614d7b741703371e5eef8f", func := "lintel/lintellaw14.BookAgain", spec := "bookAgain", apart := false, narrowed := true }
def BookAgainUptoSaid : Prop := bookAgainUptoRow.holds Try.pinned (OpenSpec.upto bookAgainSpec)

/-- 'lintellaw14.BookRoom', WHERE WHAT IT READS IS OF BULK AT MOST 1048576: true; the input reads as it did. -/
def bookRoomUptoRow : OpenClaim := { program := "ytdoennkmcloalaa", sum := "22382fc1cd8174a139bd48e3dfad694842f9bf25d2614d7b741703371e5eef8f", func := "lintel/lintellaw14.BookRoom", spec := "bookRoom", apart := false, narrowed := true }
def BookRoomUptoSaid : Prop := bookRoomUptoRow.holds Try.pinned (OpenSpec.upto bookRoomSpec)

/-- 'lintellaw15.BooksPlays', WHERE WHAT IT READS IS OF BULK AT MOST 1048576: true; the input reads as it did. -/
def booksPlaysUptoRow : OpenClaim := { program := "ytdoennkmcloalaa", sum := "22382fc1cd8174a139bd48e3dfad694842f9bf25d2614d7b741703371e5eef8f", func := "lintel/lintellaw15.BooksPlays", spec := "booksPlays", unfollowed := true, recurses := true, apart := false, narrowed := true }
def BooksPlaysUptoSaid : Prop := booksPlaysUptoRow.holds Try.pinned (OpenSpec.upto booksPlaysSpec)

/-- 'lintellaw15.BooksOrder', WHERE WHAT IT READS IS OF BULK AT MOST 1048576: true; the input reads as it did. -/
def booksOrderUptoRow : OpenClaim := { program := "ytdoennkmcloalaa", sum := "22382fc1cd8174a139bd48e3dfad694842f9bf25d2614d7b741703371e5eef8f", func := "lintel/lintellaw15.BooksOrder", spec := "booksOrder", unfollowed := true, recurses := true, apart := false, narrowed := true }
def BooksOrderUptoSaid : Prop := booksOrderUptoRow.holds Try.pinned (OpenSpec.upto booksOrderSpec)

/-- 'lintellaw23.LockPlays', WHERE WHAT IT READS IS OF BULK AT MOST 1048576: true; the input reads as it did. -/
def lockPlaysUptoRow : OpenClaim := { program := "ytdoennkmcloalaa", sum := "22382fc1cd8174a139bd48e3dfad694842f9bf25d2614d7b741703371e5eef8f", func := "lintel/lintellaw23.LockPlays", spec := "lockPlays", inPlace := ["slices.overlaps[int]"], apart := false, narrowed := true }
def LockPlaysUptoSaid : Prop := lockPlaysUptoRow.holds Try.pinned (OpenSpec.upto lockPlaysSpec)

/-- 'lintellaw23.LockAlone', WHERE WHAT IT READS IS OF BULK AT MOST 1048576: true; the input reads as it did. -/
def lockAloneUptoRow : OpenClaim := { program := "ytdoennkmcloalaa", sum := "22382fc1cd8174a139bd48e3dfad694842f9bf25d2614d7b741703371e5eef8f", func := "lintel/lintellaw23.LockAlone", spec := "lockAlone", inPlace := ["slices.overlaps[int]"], apart := false, narrowed := true }
def LockAloneUptoSaid : Prop := lockAloneUptoRow.holds Try.pinned (OpenSpec.upto lockAloneSpec)

end Rows
end Go.Proofs.Ytdoennkmcloalaa
