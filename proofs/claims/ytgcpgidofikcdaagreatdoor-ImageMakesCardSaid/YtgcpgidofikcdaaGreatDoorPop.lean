/-
  PLAIN: the count of a word's bits, as the standard library reckons it.
-/
namespace Go.Proofs.YtgcpgidofikcdaaGreatDoor.Pop
def f1 (d : Nat) : Nat := (d / 2 &&& 0x55) + (d &&& 0x55)
def f2 (d : Nat) : Nat := (d / 4 &&& 0x33) + (d &&& 0x33)
def f3 (d : Nat) : Nat := (d / 16 + d) &&& 0x0f
def s1 (m x : Nat) : Nat := (x >>> 1 &&& m) + (x &&& m)
def s2 (m x : Nat) : Nat := (x >>> 2 &&& m) + (x &&& m)
def s3 (m x : Nat) : Nat := ((x >>> 4) + x) &&& m
def m1 : Nat → Nat
  | 0 => 0
  | n + 1 => 2 ^ 8 * m1 n + 0x55
def m2 : Nat → Nat
  | 0 => 0
  | n + 1 => 2 ^ 8 * m2 n + 0x33
def m3 : Nat → Nat
  | 0 => 0
  | n + 1 => 2 ^ 8 * m3 n + 0x0f
def val : List Nat → Nat
  | [] => 0
  | d :: l => d + 256 * val l
end Go.Proofs.YtgcpgidofikcdaaGreatDoor.Pop
