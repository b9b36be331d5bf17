/-
  PLAIN: the Go function lintel/lintellaw25.CureKnown, called in one state of a run: run in pieces by the evaluator, which is sound.
-/
import Derived.Test.YtninnodoofafpaaGreatDoorChecked
import Derived.Test.YtninnodoofafpaaGreatDoorPrCureKnown0D2
namespace Go.Proofs.YtninnodoofafpaaGreatDoor.rCureKnown0
open Go.RowKit Ev
theorem c203 : stepR G ⟨false, [], 0, n203⟩ 1 (loopB S203) [20840, 21168, 21199, 21201, 21202] e137 t101 = some (e138, t102) := by kernel_rfl
theorem x203 : S203 = .lp (loopB S203) :: S203.tail := by kernel_rfl
theorem y203 : L203 = [loopB S203] := by kernel_rfl
theorem c205 : stepS G ⟨false, [], 0, n205⟩ 1 L205 [20840, 21168, 21199, 21201, 21202] e138 t102 = some (e139, t103) := by kernel_rfl
theorem c207 : stepS G ⟨false, [], 0, n207⟩ 1 L207 [20840, 21168, 21199] e139 t103 = some (e140, t104) := by kernel_rfl
theorem c208 : retA Tryz.prog S208 L208 e140 t104 = some e141 := by kernel_rfl
theorem c209 : opsA Tryz.prog F0 n209 1 [20840, 21168, 21199] S209 e141 t104 = some (e142, t105) := by kernel_rfl
theorem z209 : L209 = [] := by kernel_rfl
theorem c211 : stepS G ⟨false, [], 0, n211⟩ 1 L211 [20840, 21199] e142 t105 = some (e143, t106) := by kernel_rfl
theorem c212 : retA Tryz.prog S212 L212 e143 t106 = some e144 := by kernel_rfl
theorem c213 : opsA Tryz.prog F0 n213 5 [20840, 21199] S213 e144 t106 = some (e145, t107) := by kernel_rfl
theorem z213 : L213 = [] := by kernel_rfl
theorem c215 : stepS G ⟨false, [], 0, n215⟩ 7 L215 [20840, 21199, 31430] e145 t107 = some (e146, t108) := by kernel_rfl
theorem c217 : opsA Tryz.prog F0 n217 1 [20840, 21199, 31430] S217 e146 t108 = some (e147, t109) := by kernel_rfl
theorem z217 : L217 = [] := by kernel_rfl
theorem c218 : entA Tryz.prog n218 e147 S218 = some a218 := by kernel_rfl
theorem z218 : L218 = [] := by kernel_rfl
theorem c219 : stepS G ⟨false, [], 0, n219⟩ 2 L219 [20840, 21199, 31430, 31431] e148 t109 = some (e149, t110) := by kernel_rfl
theorem c221 : opsA Tryz.prog F0 n221 2 [20840, 21199, 31430, 31431] S221 e149 t110 = some (e150, t111) := by kernel_rfl
theorem z221 : L221 = [] := by kernel_rfl
theorem c222 : entA Tryz.prog n222 e150 S222 = some a222 := by kernel_rfl
theorem z222 : L222 = [] := by kernel_rfl
theorem c223 : stepS G ⟨false, [], 0, n223⟩ 7 L223 [20840, 21199, 31430, 31431, 31473, 31475, 31476] e151 t111 = some (e152, t112) := by kernel_rfl
theorem c225 : stepR G ⟨false, [], 0, n225⟩ 1 (loopB S225) [20840, 21199, 31430, 31431, 31473, 31475, 31476] e152 t112 = some (e153, t113) := by kernel_rfl
theorem x225 : S225 = .lp (loopB S225) :: S225.tail := by kernel_rfl
theorem y225 : L225 = [loopB S225] := by kernel_rfl
theorem c227 : stepS G ⟨false, [], 0, n227⟩ 2 L227 [20840, 21199, 31430, 31431, 31473, 31475, 31476] e153 t113 = some (e154, t114) := by kernel_rfl
theorem c229 : stepS G ⟨false, [], 0, n229⟩ 1 L229 [20840, 21199, 31430, 31431, 31473, 31475, 31476] e154 t114 = some (e155, t115) := by kernel_rfl
theorem c231 : opsA Tryz.prog F0 n231 1 [20840, 21199, 31430, 31431, 31473, 31475, 31476] S231 e155 t115 = some (e156, t116) := by kernel_rfl
theorem z231 : L231 = [] := by kernel_rfl
theorem c232 : entA Tryz.prog n232 e156 S232 = some a232 := by kernel_rfl
theorem z232 : L232 = [] := by kernel_rfl
theorem c234 : opsA Tryz.prog F0 n234 5 [20840, 21199, 31430, 31431, 31473, 31475, 31476] S234 e157 t116 = some (e158, t117) := by kernel_rfl
theorem z234 : L234 = [] := by kernel_rfl
theorem c235 : entA Tryz.prog n235 e158 S235 = some a235 := by kernel_rfl
theorem z235 : L235 = [] := by kernel_rfl
theorem c236 : stepS G ⟨false, [], 0, n236⟩ 12 L236 [20840, 21199, 31430, 31431, 31473, 31475, 31476, 31559, 31561, 31767, 31925, 32777, 32926] e159 t117 = some (e160, t118) := by kernel_rfl
theorem c237 : stepS G ⟨false, [], 0, n237⟩ 3 L237 [20840, 21199, 31430, 31431, 31473, 31475, 31476, 33270] e160 t118 = some (e161, t119) := by kernel_rfl
theorem c238 : retA Tryz.prog S238 L238 e161 t119 = some e162 := by kernel_rfl
theorem c239 : opsA Tryz.prog F0 n239 2 [20840, 21199, 31430, 31431, 31473, 31475, 31476, 33270] S239 e162 t119 = some (e163, t120) := by kernel_rfl
theorem z239 : L239 = [] := by kernel_rfl
theorem c241 : stepS G ⟨false, [], 0, n241⟩ 1 L241 [20840, 21199, 31430, 31431, 31473, 31475, 31476] e163 t120 = some (e164, t121) := by kernel_rfl
theorem c242 : retA Tryz.prog S242 L242 e164 t121 = some e165 := by kernel_rfl
theorem c244 : stepS G ⟨false, [], 0, n244⟩ 1 L244 [20840, 21199, 31430, 31431, 31473, 31475, 31476] e165 t121 = some (e166, t122) := by kernel_rfl
theorem c246 : stepS G ⟨false, [], 0, n246⟩ 1 L246 [20840, 21199, 31430, 31431, 31473, 31475, 31476] e166 t122 = some (e167, t123) := by kernel_rfl
theorem c248 : stepR G ⟨false, [], 0, n248⟩ 1 (loopB S248) [20840, 21199, 31430, 31431, 31473, 31475, 31476] e167 t123 = some (e168, t124) := by kernel_rfl
theorem x248 : S248 = .lp (loopB S248) :: S248.tail := by kernel_rfl
theorem y248 : L248 = [loopB S248] := by kernel_rfl
theorem c250 : stepS G ⟨false, [], 0, n250⟩ 2 L250 [20840, 21199, 31430, 31431, 31473, 31475, 31476] e168 t124 = some (e169, t125) := by kernel_rfl
theorem c252 : stepS G ⟨false, [], 0, n252⟩ 1 L252 [20840, 21199, 31430, 31431, 31473, 31475, 31476] e169 t125 = some (e170, t126) := by kernel_rfl
theorem c254 : opsA Tryz.prog F0 n254 1 [20840, 21199, 31430, 31431, 31473, 31475, 31476] S254 e170 t126 = some (e171, t127) := by kernel_rfl
theorem z254 : L254 = [] := by kernel_rfl
theorem c255 : entA Tryz.prog n255 e171 S255 = some a255 := by kernel_rfl
theorem z255 : L255 = [] := by kernel_rfl
theorem c257 : opsA Tryz.prog F0 n257 5 [20840, 21199, 31430, 31431, 31473, 31475, 31476] S257 e172 t127 = some (e173, t128) := by kernel_rfl
theorem z257 : L257 = [] := by kernel_rfl
theorem c258 : entA Tryz.prog n258 e173 S258 = some a258 := by kernel_rfl
theorem z258 : L258 = [] := by kernel_rfl
theorem c259 : stepS G ⟨false, [], 0, n259⟩ 12 L259 [20840, 21199, 31430, 31431, 31473, 31475, 31476, 34778, 34780, 34986, 35144, 35996, 36145] e174 t128 = some (e175, t129) := by kernel_rfl
theorem c260 : stepS G ⟨false, [], 0, n260⟩ 3 L260 [20840, 21199, 31430, 31431, 31473, 31475, 31476, 36489] e175 t129 = some (e176, t130) := by kernel_rfl
theorem c261 : retA Tryz.prog S261 L261 e176 t130 = some e177 := by kernel_rfl
theorem c262 : opsA Tryz.prog F0 n262 2 [20840, 21199, 31430, 31431, 31473, 31475, 31476, 36489] S262 e177 t130 = some (e178, t131) := by kernel_rfl
theorem z262 : L262 = [] := by kernel_rfl
theorem c264 : stepS G ⟨false, [], 0, n264⟩ 1 L264 [20840, 21199, 31430, 31431, 31473, 31475, 31476] e178 t131 = some (e179, t132) := by kernel_rfl
theorem c265 : retA Tryz.prog S265 L265 e179 t132 = some e180 := by kernel_rfl
theorem c267 : stepS G ⟨false, [], 0, n267⟩ 1 L267 [20840, 21199, 31430, 31431, 31473, 31475, 31476] e180 t132 = some (e181, t133) := by kernel_rfl
theorem c269 : stepS G ⟨false, [], 0, n269⟩ 1 L269 [20840, 21199, 31430, 31431, 31473, 31475, 31476] e181 t133 = some (e182, t134) := by kernel_rfl
theorem c271 : stepR G ⟨false, [], 0, n271⟩ 1 (loopB S271) [20840, 21199, 31430, 31431, 31473, 31475, 31476] e182 t134 = some (e183, t135) := by kernel_rfl
theorem x271 : S271 = .lp (loopB S271) :: S271.tail := by kernel_rfl
theorem y271 : L271 = [loopB S271] := by kernel_rfl
theorem c272 : stepR G ⟨false, [], 0, n272⟩ 1 (loopB S272) [20840, 21199, 31430, 31431, 31473, 31475, 31476] e183 t135 = some (e184, t136) := by kernel_rfl
theorem x272 : S272 = .lp (loopB S272) :: S272.tail := by kernel_rfl
theorem y272 : L272 = [loopB S272] := by kernel_rfl
end Go.Proofs.YtninnodoofafpaaGreatDoor.rCureKnown0
