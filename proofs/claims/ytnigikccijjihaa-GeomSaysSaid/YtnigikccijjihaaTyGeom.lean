/-
  PLAIN: what the program's own tables say, as rules for rewriting.
-/
import Derived.Test.YtnigikccijjihaaChecked
import Derived.Test.YtnigikccijjihaaTyGeoA
namespace Go.Proofs.Ytnigikccijjihaa
open Go.RowKit Ev
-- lintel/lintellaw6.GeomSays
@[simp] theorem nt7 : Try.f7.ntmps = 136 := rfl
@[simp] theorem rs7 : Try.f7.results.toList = [.tmp 6] := rfl
@[simp] theorem xt7 : ext? Try.prog 7 = none := by kernel_rfl
-- lintel/lintellaw6.GeomParts
@[simp] theorem nt8 : Try.f8.ntmps = 142 := rfl
@[simp] theorem rs8 : Try.f8.results.toList = [.tmp 4] := rfl
@[simp] theorem xt8 : ext? Try.prog 8 = none := by kernel_rfl
-- lintel/lintellaw6.GeomMore
@[simp] theorem nt9 : Try.f9.ntmps = 74 := rfl
@[simp] theorem rs9 : Try.f9.results.toList = [.tmp 2] := rfl
@[simp] theorem xt9 : ext? Try.prog 9 = none := by kernel_rfl
-- lintel/lintellaw6.awake
@[simp] theorem nt56 : Try.f56.ntmps = 41 := rfl
@[simp] theorem rs56 : Try.f56.results.toList = [.tmp 0] := rfl
@[simp] theorem xt56 : ext? Try.prog 56 = none := by kernel_rfl
-- lintel/lintellaw6.own
@[simp] theorem nt57 : Try.f57.ntmps = 12 := rfl
@[simp] theorem rs57 : Try.f57.results.toList = [.cell 2 57] := rfl
@[simp] theorem xt57 : ext? Try.prog 57 = none := by kernel_rfl
-- lintel/geom.Books
@[simp] theorem nt58 : Try.f58.ntmps = 28 := rfl
@[simp] theorem rs58 : Try.f58.results.toList = [.tmp 4, .tmp 5] := rfl
@[simp] theorem xt58 : ext? Try.prog 58 = none := by kernel_rfl
-- lintel/lintelref6.Books
@[simp] theorem nt59 : Try.f59.ntmps = 26 := rfl
@[simp] theorem rs59 : Try.f59.results.toList = [.tmp 4, .tmp 5] := rfl
@[simp] theorem xt59 : ext? Try.prog 59 = none := by kernel_rfl
-- lintel/geom.Bits
@[simp] theorem nt60 : Try.f60.ntmps = 12 := rfl
@[simp] theorem rs60 : Try.f60.results.toList = [.tmp 2, .tmp 3] := rfl
@[simp] theorem xt60 : ext? Try.prog 60 = none := by kernel_rfl
-- lintel/geom.Node
@[simp] theorem nt68 : Try.f68.ntmps = 22 := rfl
@[simp] theorem rs68 : Try.f68.results.toList = [.tmp 4] := rfl
@[simp] theorem xt68 : ext? Try.prog 68 = none := by kernel_rfl
-- lintel/geom.Back
@[simp] theorem nt70 : Try.f70.ntmps = 9 := rfl
@[simp] theorem rs70 : Try.f70.results.toList = [.tmp 2] := rfl
@[simp] theorem xt70 : ext? Try.prog 70 = none := by kernel_rfl
end Go.Proofs.Ytnigikccijjihaa
