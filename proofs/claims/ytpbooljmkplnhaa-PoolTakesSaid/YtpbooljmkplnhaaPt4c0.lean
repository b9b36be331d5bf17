/-
  PLAIN: the Go function lintel/lintellaw12.PoolTakes at 4, 0 runs to true: run in pieces by the evaluator, which is sound.
-/
import Derived.Test.YtpbooljmkplnhaaChecked
import Derived.Test.YtpbooljmkplnhaaCl
namespace Go.Proofs.Ytpbooljmkplnhaa.pt4c0
open Go.RowKit Ev
theorem namesOk : Ev.namesOk Try.prog = true := by kernel_rfl
theorem mixes : Try.prog.follows .mixedOrders = true := by kernel_rfl
noncomputable def B0 : Code := bd Try.f3
theorem body : (Try.f3).body = some B0 := by kernel_rfl
noncomputable def G : CodeF := evQ Try.prog 100000
theorem hG : CodeSound Try.prog G := evQ_sound namesOk mixes 100000
theorem hL : LoopSound Try.prog G := evQ_loop namesOk mixes 100000
noncomputable def C0 : Cx := ⟨false, [], 0, (Try.f3).ntmps⟩
noncomputable def L0 : List Code := flat B0
noncomputable def e0 : Env := sets [.int .i64 (.ofNat 4), .int .i64 (.ofNat 0)] 0 .lf
def s0 : St := ⟨0, .lf⟩
def e1 : Env := (.nd (.nd (.nd (.nd (.nd (.nd .lf (some (.t [(.p 898 0), (i 0)])) .lf) (some ff) (.nd .lf (some (i 54)) .lf)) (some (i 0)) (.nd (.nd .lf (some ff) .lf) (some (i 0)) .lf)) none (.nd (.nd (.nd .lf (some (.t [(.p 898 0), (i 0)])) .lf) (some (i 4)) .lf) (some (i 0)) (.nd (.nd .lf (some ff) .lf) (some (i 0)) .lf))) (some (i 0)) (.nd (.nd (.nd (.nd .lf (some (.g [(i 100), (i 10), (i 2), (i 16)])) .lf) (some ff) .lf) (some (i 45)) (.nd (.nd .lf (some (.p 898 0)) .lf) (some ff) .lf)) (some (.p 471 0)) (.nd (.nd (.nd .lf (some (i 0)) .lf) (some ff) .lf) none (.nd (.nd .lf (some (.g [(i 100), (i 10), (i 2), (i 16)])) .lf) (some ff) .lf)))) (some (i 4)) (.nd (.nd (.nd (.nd (.nd .lf (some (.g [(i 100), (i 10), (i 2), (i 16)])) .lf) (some (i 4)) (.nd .lf (some (i 45)) .lf)) (some (i 54)) (.nd (.nd .lf (some ff) .lf) (some ff) .lf)) (some ff) (.nd (.nd (.nd .lf (some (.p 898 0)) .lf) (some ff) .lf) none (.nd (.nd .lf (some (.t [(i 54), (i 45)])) .lf) (some ff) .lf))) none (.nd (.nd (.nd (.nd .lf (some (.g [(.sg 880 0 2 1)])) .lf) (some ff) .lf) (some ns) (.nd (.nd .lf (some ff) .lf) (some ff) .lf)) (some (.p 898 0)) (.nd (.nd (.nd .lf (some (i 0)) .lf) (some ff) .lf) (some tt) (.nd (.nd .lf (some (.t [(i 54), (i 45)])) .lf) (some (.g [(i 100), (i 10), (i 2), (i 16)])) .lf)))))
def s1 : St := ⟨920, (.nd (.nd .lf none (.nd (.nd (.nd (.nd (.nd (.nd .lf none (.nd .lf none (.nd .lf (some (.cs 70 2 (.nd (.nd .lf (some (u 34359738368)) .lf) (some (u 18014398509481983)) .lf))) .lf))) none .lf) none .lf) none .lf) none .lf) none .lf)) none (.nd .lf none (.nd (.nd (.nd (.nd (.nd (.nd .lf none (.nd .lf none (.nd .lf (some (.cs 50 5 (.nd (.nd (.nd .lf (some (i 16)) .lf) (some (i 10)) .lf) (some (i 100)) (.nd (.nd .lf (some (.sg 897 0 2 1)) .lf) (some (i 2)) .lf)))) .lf))) none .lf) none .lf) none .lf) none .lf) none .lf)))⟩
noncomputable def L1 : List Code := dropL 12 L0
theorem c0 : stepS G C0 12 L0 [897, 898] e0 s0 = some (e1, s1) := by kernel_rfl
theorem hl1 : L1 = .block 0 (.loop (lbL L1)) :: dropL 1 L1 := by kernel_rfl
def e2 : Env := (.nd (.nd (.nd (.nd (.nd (.nd (.nd .lf (some (.sl 2343 0 1 1)) .lf) (some (.t [(.p 898 0), (i 0)])) .lf) (some ff) (.nd .lf (some (i 54)) .lf)) (some (i 0)) (.nd (.nd .lf (some ff) .lf) (some (i 0)) (.nd .lf (some (i 0)) .lf))) none (.nd (.nd (.nd .lf (some (.t [(.p 898 0), (i 0)])) .lf) (some (i 4)) (.nd .lf (some (i 10)) .lf)) (some (i 11)) (.nd (.nd .lf (some ff) .lf) (some (i 0)) (.nd .lf (some (i 7)) .lf)))) (some (i 0)) (.nd (.nd (.nd (.nd .lf (some (.g [(i 100), (i 10), (i 2), (i 16)])) .lf) (some ff) (.nd .lf (some (i 11)) .lf)) (some (i 45)) (.nd (.nd .lf (some (.p 898 0)) .lf) (some ff) (.nd .lf (some (.t [ns, (i 7)])) .lf))) (some (.p 471 0)) (.nd (.nd (.nd .lf (some (i 0)) .lf) (some ff) (.nd .lf (some (.t [ns, (i 7)])) .lf)) (some (i 7)) (.nd (.nd .lf (some (.g [(i 100), (i 10), (i 2), (i 16)])) .lf) (some ff) (.nd .lf (some tt) .lf))))) (some (i 4)) (.nd (.nd (.nd (.nd (.nd (.nd .lf (some (.sg 2366 0 11 2)) .lf) (some (.g [(i 100), (i 10), (i 2), (i 16)])) .lf) (some (i 4)) (.nd .lf (some (i 45)) .lf)) (some (i 54)) (.nd (.nd .lf (some ff) .lf) (some ff) (.nd .lf (some (i 4)) .lf))) (some ff) (.nd (.nd (.nd .lf (some (.p 898 0)) .lf) (some ff) (.nd .lf (some (i 11)) .lf)) (some ns) (.nd (.nd .lf (some (.t [(i 54), (i 45)])) .lf) (some ff) (.nd .lf (some (i 7)) .lf)))) none (.nd (.nd (.nd (.nd .lf (some (.g [(.sg 880 0 2 1)])) .lf) (some ff) (.nd .lf (some tt) .lf)) (some (.sg 2366 0 11 2)) (.nd (.nd .lf (some ff) .lf) (some ff) (.nd .lf (some ns) .lf))) (some (.p 898 0)) (.nd (.nd (.nd .lf (some (i 0)) .lf) (some ff) (.nd .lf (some (.p 898 0)) .lf)) (some tt) (.nd (.nd .lf (some (.t [(i 54), (i 45)])) .lf) (some (.g [(i 100), (i 10), (i 2), (i 16)])) (.nd .lf (some (.sg 2164 0 10 2)) .lf))))))
def s2 : St := ⟨2684, (.nd .lf none (.nd (.nd (.nd .lf none (.nd .lf none (.nd .lf none (.nd (.nd (.nd .lf none (.nd (.nd (.nd .lf (some (.cs 70 2 (.nd (.nd .lf (some (u 51539607551)) .lf) (some (u 18446744073709551615)) .lf))) .lf) none .lf) none .lf)) none .lf) none .lf)))) none .lf) none (.nd (.nd (.nd (.nd (.nd (.nd .lf none (.nd .lf none (.nd .lf (some (.cs 50 5 (.nd (.nd (.nd .lf (some (i 16)) .lf) (some (i 10)) .lf) (some (i 100)) (.nd (.nd .lf (some (.sg 2360 0 2 1)) .lf) (some (i 2)) .lf)))) .lf))) none .lf) none .lf) none .lf) none .lf) none (.nd .lf none (.nd .lf none (.nd .lf none (.nd (.nd (.nd .lf none (.nd (.nd (.nd .lf (some (.cs 46 22 (.nd (.nd (.nd (.nd (.nd .lf (some (i 4)) .lf) (some (i 4)) .lf) (some (i 4)) (.nd (.nd .lf (some (i 4)) .lf) (some (i 4)) .lf)) (some (i 4)) (.nd (.nd (.nd .lf (some (i 4)) .lf) (some (i 4)) .lf) (some (i 4)) (.nd (.nd .lf (some (i 4)) .lf) (some (i 4)) .lf))) (some (i 54)) (.nd (.nd (.nd (.nd .lf (some (i 86)) .lf) (some (i 70)) .lf) (some (i 62)) (.nd (.nd .lf (some (i 94)) .lf) (some (i 78)) .lf)) (some (i 58)) (.nd (.nd (.nd .lf (some (i 90)) .lf) (some (i 74)) .lf) (some (i 66)) (.nd .lf (some (i 82)) .lf)))))) .lf) none .lf) none .lf)) none .lf) none .lf)))))))⟩
noncomputable def L2 : List Code := dropL 1 L1
theorem c1 : exitR G C0 0 (lbL L1) [898, 2360, 2366] e1 s1 = some (e2, s2) := by kernel_rfl
theorem cl : lastS Try.prog G Try.f3 1 L2 e2 s2 = true := by kernel_rfl
theorem g2 : GoodL Try.prog Try.f3 L2 e2 s2 := GoodL.last hG cl
theorem r1 : ∃ n, GoodLR Try.prog Try.f3 0 (lbL L1) (dropL 1 L1) n e1 s1 := GoodLR.exit hL c1 g2
theorem g1 : GoodL Try.prog Try.f3 L1 e1 s1 := GoodL.loop hl1 r1
theorem g0 : GoodL Try.prog Try.f3 L0 e0 s0 := GoodL.step hG c0 g1
theorem good : Ev.Good Try.prog Try.f3 B0 e0 s0 := GoodL.good g0
end Go.Proofs.Ytpbooljmkplnhaa.pt4c0
namespace Go.Proofs.Ytpbooljmkplnhaa
open Go.RowKit Ev
theorem pt_4c0 (W : World) : Calls Try.prog 3 ⟨[.int .i64 (.ofNat 4), .int .i64 (.ofNat 0)]⟩ W fun e W' => e = .returned (.bool true) ∧ Below W.heap.size W W' := Ev.Good.callsA Try.func3 pt4c0.body (.cons (rel_int _ _) (.cons (rel_int _ _) (.nil))) (Nat.le_of_ble_eq_true (by kernel_rfl)) pt4c0.good W
end Go.Proofs.Ytpbooljmkplnhaa
