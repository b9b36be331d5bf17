/-
  PLAIN: the Go function lintel/linteltop.TopNames, called in one state of a run: run in pieces by the evaluator, which is sound.
-/
import Derived.Test.YtjfhadepbllmiaaGreatDoorChecked
import Derived.Test.YtjfhadepbllmiaaGreatDoorPrTopNames1D0
namespace Go.Proofs.YtjfhadepbllmiaaGreatDoor.rTopNames1
open Go.RowKit Ev
open rTopNames0 (namesOk mixes)
theorem c52 : stepS G ⟨false, [], 0, n52⟩ 12 L52 [297, 298, 301, 304, 307, 310, 313, 316, 319, 322, 325, 328, 331, 334, 337, 340, 343, 346, 349, 352, 355, 358, 361, 364, 367, 370, 373, 376, 379, 382, 385, 388, 391, 394, 397, 400, 403, 406, 409, 412, 415, 418, 421, 424, 427, 430, 433, 436, 439, 442, 445, 448, 451, 454, 457, 460, 463, 466, 469, 472, 475, 478, 481, 484, 487, 489, 14304, 14306, 14424, 14541, 15424, 15561] e40 t27 = some (e41, t28) := by kernel_rfl
theorem c53 : stepS G ⟨false, [], 0, n53⟩ 3 L53 [297, 298, 301, 304, 307, 310, 313, 316, 319, 322, 325, 328, 331, 334, 337, 340, 343, 346, 349, 352, 355, 358, 361, 364, 367, 370, 373, 376, 379, 382, 385, 388, 391, 394, 397, 400, 403, 406, 409, 412, 415, 418, 421, 424, 427, 430, 433, 436, 439, 442, 445, 448, 451, 454, 457, 460, 463, 466, 469, 472, 475, 478, 481, 484, 487, 489] e41 t28 = some (e42, t29) := by kernel_rfl
theorem c54 : retA Tryz.prog S54 L54 e42 t29 = some e43 := by kernel_rfl
theorem c55 : opsA Tryz.prog F0 n55 3 [297, 298, 301, 304, 307, 310, 313, 316, 319, 322, 325, 328, 331, 334, 337, 340, 343, 346, 349, 352, 355, 358, 361, 364, 367, 370, 373, 376, 379, 382, 385, 388, 391, 394, 397, 400, 403, 406, 409, 412, 415, 418, 421, 424, 427, 430, 433, 436, 439, 442, 445, 448, 451, 454, 457, 460, 463, 466, 469, 472, 475, 478, 481, 484, 487, 489] S55 e43 t29 = some (e44, t30) := by kernel_rfl
theorem z55 : L55 = [] := by kernel_rfl
theorem c57 : retA Tryz.prog S57 L57 e44 t30 = some e45 := by kernel_rfl
theorem c58 : opsA Tryz.prog F0 n58 8 [] S58 e45 t30 = some (e46, t31) := by kernel_rfl
theorem z58 : L58 = [] := by kernel_rfl
theorem c60 : retA Tryz.prog S60 L60 e46 t31 = some e47 := by kernel_rfl
theorem c61 : opsA Tryz.prog F0 n61 47 [] S61 e47 t31 = some (e48, t32) := by kernel_rfl
theorem z61 : L61 = [] := by kernel_rfl
theorem c63 : endX Tryz.prog Tryz.f3 S63 L63 e48 t32 = some v1 := by kernel_rfl
end Go.Proofs.YtjfhadepbllmiaaGreatDoor.rTopNames1
