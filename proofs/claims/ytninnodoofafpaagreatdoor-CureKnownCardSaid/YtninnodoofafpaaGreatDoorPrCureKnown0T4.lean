/-
  PLAIN: the Go function lintel/lintellaw25.CureKnown, called in one state of a run: run in pieces by the evaluator, which is sound.
-/
import Derived.Test.YtninnodoofafpaaGreatDoorChecked
import Derived.Test.YtninnodoofafpaaGreatDoorPrCureKnown0D2
namespace Go.Proofs.YtninnodoofafpaaGreatDoor.rCureKnown0
open Go.RowKit Ev
theorem c273 : stepR G ⟨false, [], 0, n273⟩ 1 (loopB S273) [20840, 21199, 31430, 31431, 31473, 31475, 31476] e184 t136 = some (e185, t137) := by kernel_rfl
theorem x273 : S273 = .lp (loopB S273) :: S273.tail := by kernel_rfl
theorem y273 : L273 = [loopB S273] := by kernel_rfl
theorem c275 : stepS G ⟨false, [], 0, n275⟩ 1 L275 [20840, 21199, 31430, 31431, 31473, 31475, 31476] e185 t137 = some (e186, t138) := by kernel_rfl
theorem c277 : stepS G ⟨false, [], 0, n277⟩ 1 L277 [20840, 21199, 31430, 31431, 31473] e186 t138 = some (e187, t139) := by kernel_rfl
theorem c278 : retA Tryz.prog S278 L278 e187 t139 = some e188 := by kernel_rfl
theorem c279 : opsA Tryz.prog F0 n279 1 [20840, 21199, 31430, 31431, 31473] S279 e188 t139 = some (e189, t140) := by kernel_rfl
theorem z279 : L279 = [] := by kernel_rfl
theorem c281 : stepS G ⟨false, [], 0, n281⟩ 1 L281 [20840, 21199, 31430, 31473] e189 t140 = some (e190, t141) := by kernel_rfl
theorem c282 : retA Tryz.prog S282 L282 e190 t141 = some e191 := by kernel_rfl
theorem c283 : opsA Tryz.prog F0 n283 5 [20840, 21199, 31430, 31473] S283 e191 t141 = some (e192, t142) := by kernel_rfl
theorem z283 : L283 = [] := by kernel_rfl
theorem c285 : stepS G ⟨false, [], 0, n285⟩ 5 L285 [20840, 21199, 31430, 31473, 42452, 42453, 42478, 42525, 42723] e192 t142 = some (e193, t143) := by kernel_rfl
theorem c287 : opsA Tryz.prog F0 n287 1 [20840, 21199, 31430, 31473, 42452, 42453, 42478, 42525, 42723] S287 e193 t143 = some (e194, t144) := by kernel_rfl
theorem z287 : L287 = [] := by kernel_rfl
theorem c288 : entA Tryz.prog n288 e194 S288 = some a288 := by kernel_rfl
theorem z288 : L288 = [] := by kernel_rfl
theorem c289 : stepS G ⟨false, [], 0, n289⟩ 5 L289 [20840, 21199, 31430, 31473, 42452, 42453, 42478, 42525, 42723, 42765, 42766, 42767] e195 t144 = some (e196, t145) := by kernel_rfl
theorem c291 : opsA Tryz.prog F0 n291 1 [20840, 21199, 31430, 31473, 42452, 42453, 42478, 42525, 42723, 42765, 42766, 42767] S291 e196 t145 = some (e197, t146) := by kernel_rfl
theorem z291 : L291 = [] := by kernel_rfl
theorem c292 : entA Tryz.prog n292 e197 S292 = some a292 := by kernel_rfl
theorem z292 : L292 = [] := by kernel_rfl
theorem c293 : stepS G ⟨false, [], 0, n293⟩ 12 L293 [20840, 21199, 31473, 42452, 42453, 42478, 42525, 42723, 42765, 42766, 42767, 42809, 42811, 43017, 43175, 44027, 44176] e198 t146 = some (e199, t147) := by kernel_rfl
theorem c294 : stepS G ⟨false, [], 0, n294⟩ 3 L294 [20840, 21199, 31473, 42452, 42453, 42478, 42525, 42723, 42765, 42766, 42767, 44520] e199 t147 = some (e200, t148) := by kernel_rfl
theorem c295 : retA Tryz.prog S295 L295 e200 t148 = some e201 := by kernel_rfl
theorem c296 : opsA Tryz.prog F0 n296 2 [20840, 21199, 31473, 42452, 42453, 42478, 42525, 42723, 42765, 42766, 42767, 44520] S296 e201 t148 = some (e202, t149) := by kernel_rfl
theorem z296 : L296 = [] := by kernel_rfl
theorem c298 : stepS G ⟨false, [], 0, n298⟩ 9 L298 [20840, 21199, 31473, 42452, 42453, 42478, 42525, 42723, 46797] e202 t149 = some (e203, t150) := by kernel_rfl
theorem c299 : retA Tryz.prog S299 L299 e203 t150 = some e204 := by kernel_rfl
theorem c300 : opsA Tryz.prog F0 n300 1 [20840, 21199, 31473, 42452, 42453, 42478, 42525, 42723, 46797] S300 e204 t150 = some (e205, t151) := by kernel_rfl
theorem z300 : L300 = [] := by kernel_rfl
theorem c302 : opsA Tryz.prog F0 n302 21 [31473, 42452, 42453, 42478, 42525, 42723, 46797] S302 e205 t151 = some (e206, t152) := by kernel_rfl
theorem z302 : L302 = [] := by kernel_rfl
theorem c303 : entA Tryz.prog n303 e206 S303 = some a303 := by kernel_rfl
theorem z303 : L303 = [] := by kernel_rfl
theorem c304 : stepS G ⟨false, [], 0, n304⟩ 1 L304 [31473, 42452, 42453, 42478, 42525, 42723, 46797] e207 t152 = some (e208, t153) := by kernel_rfl
theorem c306 : opsA Tryz.prog F0 n306 1 [31473, 42452, 42453, 42478, 42525, 42723, 46797] S306 e208 t153 = some (e209, t154) := by kernel_rfl
theorem z306 : L306 = [] := by kernel_rfl
theorem c307 : entA Tryz.prog n307 e209 S307 = some a307 := by kernel_rfl
theorem z307 : L307 = [] := by kernel_rfl
theorem c308 : stepS G ⟨false, [], 0, n308⟩ 12 L308 [42452, 42453, 42478, 42525, 42723, 46797, 46959, 46961, 47167, 47325, 48179] e210 t154 = some (e211, t155) := by kernel_rfl
theorem c309 : stepS G ⟨false, [], 0, n309⟩ 3 L309 [42452, 42453, 42478, 42525, 42723, 46797] e211 t155 = some (e212, t156) := by kernel_rfl
theorem c310 : retA Tryz.prog S310 L310 e212 t156 = some e213 := by kernel_rfl
theorem c311 : opsA Tryz.prog F0 n311 3 [42452, 42453, 42478, 42525, 42723, 46797] S311 e213 t156 = some (e214, t157) := by kernel_rfl
theorem z311 : L311 = [] := by kernel_rfl
theorem c313 : retA Tryz.prog S313 L313 e214 t157 = some e215 := by kernel_rfl
theorem c314 : opsA Tryz.prog F0 n314 51 [] S314 e215 t157 = some (e216, t158) := by kernel_rfl
theorem z314 : L314 = [] := by kernel_rfl
theorem c316 : endX Tryz.prog Tryz.f3 S316 L316 e216 t158 = some v1 := by kernel_rfl
end Go.Proofs.YtninnodoofafpaaGreatDoor.rCureKnown0
