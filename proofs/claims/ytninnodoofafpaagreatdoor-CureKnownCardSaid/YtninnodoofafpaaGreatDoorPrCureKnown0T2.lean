/-
  PLAIN: the Go function lintel/lintellaw25.CureKnown, called in one state of a run: run in pieces by the evaluator, which is sound.
-/
import Derived.Test.YtninnodoofafpaaGreatDoorChecked
import Derived.Test.YtninnodoofafpaaGreatDoorPrCureKnown0D2
namespace Go.Proofs.YtninnodoofafpaaGreatDoor.rCureKnown0
open Go.RowKit Ev
theorem c129 : stepR G ⟨false, [], 0, n129⟩ 1 (loopB S129) [11, 337, 10561, 10562, 10563, 10605, 10607, 10608] e87 t64 = some (e88, t65) := by kernel_rfl
theorem x129 : S129 = .lp (loopB S129) :: S129.tail := by kernel_rfl
theorem y129 : L129 = [loopB S129] := by kernel_rfl
theorem c131 : stepS G ⟨false, [], 0, n131⟩ 1 L131 [11, 337, 10561, 10562, 10563, 10605, 10607, 10608] e88 t65 = some (e89, t66) := by kernel_rfl
theorem c133 : stepS G ⟨false, [], 0, n133⟩ 1 L133 [11, 337, 10561] e89 t66 = some (e90, t67) := by kernel_rfl
theorem c134 : retA Tryz.prog S134 L134 e90 t67 = some e91 := by kernel_rfl
theorem c135 : opsA Tryz.prog F0 n135 1 [11, 337, 10561] S135 e91 t67 = some (e92, t68) := by kernel_rfl
theorem z135 : L135 = [] := by kernel_rfl
theorem c137 : stepS G ⟨false, [], 0, n137⟩ 1 L137 [11, 337] e92 t68 = some (e93, t69) := by kernel_rfl
theorem c138 : retA Tryz.prog S138 L138 e93 t69 = some e94 := by kernel_rfl
theorem c139 : opsA Tryz.prog F0 n139 5 [11, 337] S139 e94 t69 = some (e95, t70) := by kernel_rfl
theorem z139 : L139 = [] := by kernel_rfl
theorem c141 : stepS G ⟨false, [], 0, n141⟩ 1 L141 [] e95 t70 = some (e96, t71) := by kernel_rfl
theorem c142 : retA Tryz.prog S142 L142 e96 t71 = some e97 := by kernel_rfl
theorem c143 : opsA Tryz.prog F0 n143 1 [] S143 e97 t71 = some (e98, t72) := by kernel_rfl
theorem z143 : L143 = [] := by kernel_rfl
theorem c145 : stepS G ⟨false, [], 0, n145⟩ 7 L145 [20840, 21165] e98 t72 = some (e99, t73) := by kernel_rfl
theorem c147 : opsA Tryz.prog F0 n147 3 [20840, 21167] S147 e99 t73 = some (e100, t74) := by kernel_rfl
theorem z147 : L147 = [] := by kernel_rfl
theorem c148 : entA Tryz.prog n148 e100 S148 = some a148 := by kernel_rfl
theorem z148 : L148 = [] := by kernel_rfl
theorem c149 : stepS G ⟨false, [], 0, n149⟩ 2 L149 [20840, 21167, 21168] e101 t74 = some (e102, t75) := by kernel_rfl
theorem c151 : opsA Tryz.prog F0 n151 2 [20840, 21167, 21168] S151 e102 t75 = some (e103, t76) := by kernel_rfl
theorem z151 : L151 = [] := by kernel_rfl
theorem c152 : entA Tryz.prog n152 e103 S152 = some a152 := by kernel_rfl
theorem z152 : L152 = [] := by kernel_rfl
theorem c153 : stepS G ⟨false, [], 0, n153⟩ 7 L153 [20840, 21168, 21199, 21201, 21202] e104 t76 = some (e105, t77) := by kernel_rfl
theorem c155 : stepR G ⟨false, [], 0, n155⟩ 1 (loopB S155) [20840, 21168, 21199, 21201, 21202] e105 t77 = some (e106, t78) := by kernel_rfl
theorem x155 : S155 = .lp (loopB S155) :: S155.tail := by kernel_rfl
theorem y155 : L155 = [loopB S155] := by kernel_rfl
theorem c157 : stepS G ⟨false, [], 0, n157⟩ 2 L157 [20840, 21168, 21199, 21201, 21202] e106 t78 = some (e107, t79) := by kernel_rfl
theorem c159 : stepS G ⟨false, [], 0, n159⟩ 1 L159 [20840, 21168, 21199, 21201, 21202] e107 t79 = some (e108, t80) := by kernel_rfl
theorem c161 : opsA Tryz.prog F0 n161 1 [20840, 21168, 21199, 21201, 21202] S161 e108 t80 = some (e109, t81) := by kernel_rfl
theorem z161 : L161 = [] := by kernel_rfl
theorem c162 : entA Tryz.prog n162 e109 S162 = some a162 := by kernel_rfl
theorem z162 : L162 = [] := by kernel_rfl
theorem c164 : opsA Tryz.prog F0 n164 5 [20840, 21168, 21199, 21201, 21202] S164 e110 t81 = some (e111, t82) := by kernel_rfl
theorem z164 : L164 = [] := by kernel_rfl
theorem c165 : entA Tryz.prog n165 e111 S165 = some a165 := by kernel_rfl
theorem z165 : L165 = [] := by kernel_rfl
theorem c166 : stepS G ⟨false, [], 0, n166⟩ 12 L166 [20840, 21168, 21199, 21201, 21202, 21285, 21287, 21493, 22471] e112 t82 = some (e113, t83) := by kernel_rfl
theorem c167 : stepS G ⟨false, [], 0, n167⟩ 3 L167 [20840, 21168, 21199, 21201, 21202] e113 t83 = some (e114, t84) := by kernel_rfl
theorem c168 : retA Tryz.prog S168 L168 e114 t84 = some e115 := by kernel_rfl
theorem c169 : opsA Tryz.prog F0 n169 2 [20840, 21168, 21199, 21201, 21202] S169 e115 t84 = some (e116, t85) := by kernel_rfl
theorem z169 : L169 = [] := by kernel_rfl
theorem c171 : stepS G ⟨false, [], 0, n171⟩ 1 L171 [20840, 21168, 21199, 21201, 21202] e116 t85 = some (e117, t86) := by kernel_rfl
theorem c172 : retA Tryz.prog S172 L172 e117 t86 = some e118 := by kernel_rfl
theorem c174 : stepS G ⟨false, [], 0, n174⟩ 1 L174 [20840, 21168, 21199, 21201, 21202] e118 t86 = some (e119, t87) := by kernel_rfl
theorem c176 : stepS G ⟨false, [], 0, n176⟩ 1 L176 [20840, 21168, 21199, 21201, 21202] e119 t87 = some (e120, t88) := by kernel_rfl
theorem c178 : stepR G ⟨false, [], 0, n178⟩ 1 (loopB S178) [20840, 21168, 21199, 21201, 21202] e120 t88 = some (e121, t89) := by kernel_rfl
theorem x178 : S178 = .lp (loopB S178) :: S178.tail := by kernel_rfl
theorem y178 : L178 = [loopB S178] := by kernel_rfl
theorem c180 : stepS G ⟨false, [], 0, n180⟩ 2 L180 [20840, 21168, 21199, 21201, 21202] e121 t89 = some (e122, t90) := by kernel_rfl
theorem c182 : stepS G ⟨false, [], 0, n182⟩ 1 L182 [20840, 21168, 21199, 21201, 21202] e122 t90 = some (e123, t91) := by kernel_rfl
theorem c184 : opsA Tryz.prog F0 n184 1 [20840, 21168, 21199, 21201, 21202] S184 e123 t91 = some (e124, t92) := by kernel_rfl
theorem z184 : L184 = [] := by kernel_rfl
theorem c185 : entA Tryz.prog n185 e124 S185 = some a185 := by kernel_rfl
theorem z185 : L185 = [] := by kernel_rfl
theorem c187 : opsA Tryz.prog F0 n187 5 [20840, 21168, 21199, 21201, 21202] S187 e125 t92 = some (e126, t93) := by kernel_rfl
theorem z187 : L187 = [] := by kernel_rfl
theorem c188 : entA Tryz.prog n188 e126 S188 = some a188 := by kernel_rfl
theorem z188 : L188 = [] := by kernel_rfl
theorem c189 : stepS G ⟨false, [], 0, n189⟩ 12 L189 [20840, 21168, 21199, 21201, 21202, 24422, 24424, 24630, 25608] e127 t93 = some (e128, t94) := by kernel_rfl
theorem c190 : stepS G ⟨false, [], 0, n190⟩ 3 L190 [20840, 21168, 21199, 21201, 21202] e128 t94 = some (e129, t95) := by kernel_rfl
theorem c191 : retA Tryz.prog S191 L191 e129 t95 = some e130 := by kernel_rfl
theorem c192 : opsA Tryz.prog F0 n192 2 [20840, 21168, 21199, 21201, 21202] S192 e130 t95 = some (e131, t96) := by kernel_rfl
theorem z192 : L192 = [] := by kernel_rfl
theorem c194 : stepS G ⟨false, [], 0, n194⟩ 1 L194 [20840, 21168, 21199, 21201, 21202] e131 t96 = some (e132, t97) := by kernel_rfl
theorem c195 : retA Tryz.prog S195 L195 e132 t97 = some e133 := by kernel_rfl
theorem c197 : stepS G ⟨false, [], 0, n197⟩ 1 L197 [20840, 21168, 21199, 21201, 21202] e133 t97 = some (e134, t98) := by kernel_rfl
theorem c199 : stepS G ⟨false, [], 0, n199⟩ 1 L199 [20840, 21168, 21199, 21201, 21202] e134 t98 = some (e135, t99) := by kernel_rfl
theorem c201 : stepR G ⟨false, [], 0, n201⟩ 1 (loopB S201) [20840, 21168, 21199, 21201, 21202] e135 t99 = some (e136, t100) := by kernel_rfl
theorem x201 : S201 = .lp (loopB S201) :: S201.tail := by kernel_rfl
theorem y201 : L201 = [loopB S201] := by kernel_rfl
theorem c202 : stepR G ⟨false, [], 0, n202⟩ 1 (loopB S202) [20840, 21168, 21199, 21201, 21202] e136 t100 = some (e137, t101) := by kernel_rfl
theorem x202 : S202 = .lp (loopB S202) :: S202.tail := by kernel_rfl
theorem y202 : L202 = [loopB S202] := by kernel_rfl
end Go.Proofs.YtninnodoofafpaaGreatDoor.rCureKnown0
