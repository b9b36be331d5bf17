/-
  PLAIN: what the row of TreeKnown says of the program, part by part.
-/
import Derived.Test.YtgcpgidofikcdaaGreatDoorChecked
import Derived.Test.YtgcpgidofikcdaaGreatDoorRows
import Derived.JoinedOf
set_option linter.unusedVariables false
namespace Go.Proofs.YtgcpgidofikcdaaGreatDoor.treeKnownJ
open Go
theorem ta1 : (Rows.treeKnownRow.wf (OpenSpec.ofChange Rows.treeKnownSpec)) = true := by kernel_rfl
theorem ta2 : (laidOutB Tryz.pinned.checked.prog) = true := by kernel_rfl
theorem ta3 : (mapsRowed Tryz.pinned.checked.prog) = true := by kernel_rfl
theorem ta4 : (Tryz.f3.params.all (Tryz.pinned.checked.prog.readableRec ·)) = true := by kernel_rfl
theorem ta5 : (namedTie Tryz.pinned.checked.prog Rows.treeKnownRow.named Rows.treeKnownSpec.vars) = true := by kernel_rfl
theorem ta6 : (Rows.treeKnownRow.stops == []) = true := by kernel_rfl
theorem ta7 : (Tryz.pinned.checked.prog.stops == []) = true := by kernel_rfl
theorem ta8 : (Rows.treeKnownRow.knobs == []) = true := by kernel_rfl
theorem ta9 : (Tryz.pinned.checked.prog.stopKnobs == []) = true := by kernel_rfl
theorem tc1 : (Rows.treeKnownRow.maps == (Tryz.f3.params.toList ++ Rows.treeKnownSpec.plain.varTypes Tryz.pinned.checked.prog).any (Tryz.pinned.checked.prog.mapsRec ·)) = true := by kernel_rfl
theorem tc2 : (Rows.treeKnownRow.ifaces == (Tryz.f3.params.toList ++ Rows.treeKnownSpec.plain.varTypes Tryz.pinned.checked.prog).any (Tryz.pinned.checked.prog.ifacesRec ·)) = true := by kernel_rfl
theorem tc3 : (Rows.treeKnownRow.mapsOut == Tryz.pinned.checked.prog.mapsAmong Tryz.f3.resultTypes.toList) = true := by kernel_rfl
theorem tc4 : (Rows.treeKnownRow.loops == (Tryz.f3.params.toList ++ Rows.treeKnownSpec.plain.varTypes Tryz.pinned.checked.prog).any (Tryz.pinned.checked.prog.loopsFrom ·)) = true := by kernel_rfl
theorem tc5 : (Rows.treeKnownRow.wideKeys == (Tryz.f3.params.toList ++ Rows.treeKnownSpec.plain.varTypes Tryz.pinned.checked.prog ++ Tryz.f3.resultTypes.toList).any (Tryz.pinned.checked.prog.wideKeysFrom ·)) = true := by kernel_rfl
theorem td1 : (Rows.treeKnownSpec.vars.all (Tryz.pinned.checked.prog.varReadable ·)) = true := by kernel_rfl
theorem td2 : (Tryz.f3.resultTypes.all (fun t => Tryz.pinned.checked.prog.readableRec t && decide (t < Tryz.pinned.checked.prog.types.size))) = true := by kernel_rfl
theorem td3 : (Rows.treeKnownRow.ifacesOut == Tryz.f3.resultTypes.toList.any (Tryz.pinned.checked.prog.ifacesRec ·)) = true := by kernel_rfl
theorem td4 : (Rows.treeKnownRow.loopsOut == Tryz.f3.resultTypes.toList.any (Tryz.pinned.checked.prog.loopsFrom ·)) = true := by kernel_rfl
theorem td5 : (Rows.treeKnownRow.plainKeys == Tryz.pinned.checked.prog.plainKeys) = true := by kernel_rfl
theorem td6 : (Rows.treeKnownRow.shortTexts.isNone) = true := by kernel_rfl
theorem td7 : (Tryz.pinned.checked.prog.stopsHeard) = true := by kernel_rfl
theorem td8 : (Tryz.pinned.checked.prog.mayEnter) = true := by kernel_rfl
theorem td9 : (Rows.treeKnownRow.lifted == Tryz.pinned.checked.prog.liftsFinal) = true := by kernel_rfl
theorem te1 : (Tryz.pinned.checked.prog.make == some Rows.treeKnownRow.make) = true := by kernel_rfl
theorem te2 : (Rows.treeKnownRow.kinds == (if Rows.treeKnownRow.domain.isEmpty then [] else Tryz.f3.params.toList.map fun t => match Tryz.pinned.checked.prog.underlying t with | some (.int k) => some k | _ => none)) = true := by kernel_rfl
theorem te3 : (Rows.treeKnownRow.pinned == Rows.treeKnownRow.pinnedBy) = true := by kernel_rfl
theorem te4 : (Rows.treeKnownRow.veiled == (Tryz.f3.params.toList ++ Rows.treeKnownSpec.plain.varTypes Tryz.pinned.checked.prog ++ Tryz.f3.resultTypes.toList).any (Tryz.pinned.checked.prog.veiledRec ·)) = true := by kernel_rfl
theorem te5 : (Rows.treeKnownRow.veiledFits Tryz.pinned.checked.prog Tryz.f3.params.toList (Tryz.f3.params.toList ++ Rows.treeKnownSpec.plain.varTypes Tryz.pinned.checked.prog ++ Tryz.f3.resultTypes.toList)) = true := by kernel_rfl
end Go.Proofs.YtgcpgidofikcdaaGreatDoor.treeKnownJ
