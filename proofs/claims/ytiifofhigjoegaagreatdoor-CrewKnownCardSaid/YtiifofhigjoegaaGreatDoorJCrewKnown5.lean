/-
  PLAIN: what the row of CrewKnown says of the program, part by part.
-/
import Derived.Test.YtiifofhigjoegaaGreatDoorChecked
import Derived.Test.YtiifofhigjoegaaGreatDoorRows
import Derived.JoinedOf
set_option linter.unusedVariables false
namespace Go.Proofs.YtiifofhigjoegaaGreatDoor.crewKnownJ
open Go
theorem ta1 : (Rows.crewKnownRow.wf (OpenSpec.ofChange Rows.crewKnownSpec)) = true := by kernel_rfl
theorem ta2 : (laidOutB Tryz.pinned.checked.prog) = true := by kernel_rfl
theorem ta3 : (mapsRowed Tryz.pinned.checked.prog) = true := by kernel_rfl
theorem ta4 : (Tryz.f3.params.all (Tryz.pinned.checked.prog.readableRec ·)) = true := by kernel_rfl
theorem ta5 : (namedTie Tryz.pinned.checked.prog Rows.crewKnownRow.named Rows.crewKnownSpec.vars) = true := by kernel_rfl
theorem ta6 : (Rows.crewKnownRow.stops == []) = true := by kernel_rfl
theorem ta7 : (Tryz.pinned.checked.prog.stops == []) = true := by kernel_rfl
theorem ta8 : (Rows.crewKnownRow.knobs == []) = true := by kernel_rfl
theorem ta9 : (Tryz.pinned.checked.prog.stopKnobs == []) = true := by kernel_rfl
theorem tc1 : (Rows.crewKnownRow.maps == (Tryz.f3.params.toList ++ Rows.crewKnownSpec.plain.varTypes Tryz.pinned.checked.prog).any (Tryz.pinned.checked.prog.mapsRec ·)) = true := by kernel_rfl
theorem tc2 : (Rows.crewKnownRow.ifaces == (Tryz.f3.params.toList ++ Rows.crewKnownSpec.plain.varTypes Tryz.pinned.checked.prog).any (Tryz.pinned.checked.prog.ifacesRec ·)) = true := by kernel_rfl
theorem tc3 : (Rows.crewKnownRow.mapsOut == Tryz.pinned.checked.prog.mapsAmong Tryz.f3.resultTypes.toList) = true := by kernel_rfl
theorem tc4 : (Rows.crewKnownRow.loops == (Tryz.f3.params.toList ++ Rows.crewKnownSpec.plain.varTypes Tryz.pinned.checked.prog).any (Tryz.pinned.checked.prog.loopsFrom ·)) = true := by kernel_rfl
theorem tc5 : (Rows.crewKnownRow.wideKeys == (Tryz.f3.params.toList ++ Rows.crewKnownSpec.plain.varTypes Tryz.pinned.checked.prog ++ Tryz.f3.resultTypes.toList).any (Tryz.pinned.checked.prog.wideKeysFrom ·)) = true := by kernel_rfl
theorem td1 : (Rows.crewKnownSpec.vars.all (Tryz.pinned.checked.prog.varReadable ·)) = true := by kernel_rfl
theorem td2 : (Tryz.f3.resultTypes.all (fun t => Tryz.pinned.checked.prog.readableRec t && decide (t < Tryz.pinned.checked.prog.types.size))) = true := by kernel_rfl
theorem td3 : (Rows.crewKnownRow.ifacesOut == Tryz.f3.resultTypes.toList.any (Tryz.pinned.checked.prog.ifacesRec ·)) = true := by kernel_rfl
theorem td4 : (Rows.crewKnownRow.loopsOut == Tryz.f3.resultTypes.toList.any (Tryz.pinned.checked.prog.loopsFrom ·)) = true := by kernel_rfl
theorem td5 : (Rows.crewKnownRow.plainKeys == Tryz.pinned.checked.prog.plainKeys) = true := by kernel_rfl
theorem td6 : (Rows.crewKnownRow.shortTexts.isNone) = true := by kernel_rfl
theorem td7 : (Tryz.pinned.checked.prog.stopsHeard) = true := by kernel_rfl
theorem td8 : (Tryz.pinned.checked.prog.mayEnter) = true := by kernel_rfl
theorem td9 : (Rows.crewKnownRow.lifted == Tryz.pinned.checked.prog.liftsFinal) = true := by kernel_rfl
theorem te1 : (Tryz.pinned.checked.prog.make == some Rows.crewKnownRow.make) = true := by kernel_rfl
theorem te2 : (Rows.crewKnownRow.kinds == (if Rows.crewKnownRow.domain.isEmpty then [] else Tryz.f3.params.toList.map fun t => match Tryz.pinned.checked.prog.underlying t with | some (.int k) => some k | _ => none)) = true := by kernel_rfl
theorem te3 : (Rows.crewKnownRow.pinned == Rows.crewKnownRow.pinnedBy) = true := by kernel_rfl
theorem te4 : (Rows.crewKnownRow.veiled == (Tryz.f3.params.toList ++ Rows.crewKnownSpec.plain.varTypes Tryz.pinned.checked.prog ++ Tryz.f3.resultTypes.toList).any (Tryz.pinned.checked.prog.veiledRec ·)) = true := by kernel_rfl
theorem te5 : (Rows.crewKnownRow.veiledFits Tryz.pinned.checked.prog Tryz.f3.params.toList (Tryz.f3.params.toList ++ Rows.crewKnownSpec.plain.varTypes Tryz.pinned.checked.prog ++ Tryz.f3.resultTypes.toList)) = true := by kernel_rfl
end Go.Proofs.YtiifofhigjoegaaGreatDoor.crewKnownJ
