/- The digest, by definition. -/
import Derived.Test.YtencpplopdogmaaDoorSg
namespace Go.Proofs.YtencpplopdogmaaDoor
set_option maxRecDepth 100000
open Go.RowKit
set_option linter.unusedVariables false

def kW : List Nat := [
  0x428a2f98, 0x71374491, 0xb5c0fbcf, 0xe9b5dba5, 0x3956c25b, 0x59f111f1, 0x923f82a4, 0xab1c5ed5,
  0xd807aa98, 0x12835b01, 0x243185be, 0x550c7dc3, 0x72be5d74, 0x80deb1fe, 0x9bdc06a7, 0xc19bf174,
  0xe49b69c1, 0xefbe4786, 0x0fc19dc6, 0x240ca1cc, 0x2de92c6f, 0x4a7484aa, 0x5cb0a9dc, 0x76f988da,
  0x983e5152, 0xa831c66d, 0xb00327c8, 0xbf597fc7, 0xc6e00bf3, 0xd5a79147, 0x06ca6351, 0x14292967,
  0x27b70a85, 0x2e1b2138, 0x4d2c6dfc, 0x53380d13, 0x650a7354, 0x766a0abb, 0x81c2c92e, 0x92722c85,
  0xa2bfe8a1, 0xa81a664b, 0xc24b8b70, 0xc76c51a3, 0xd192e819, 0xd6990624, 0xf40e3585, 0x106aa070,
  0x19a4c116, 0x1e376c08, 0x2748774c, 0x34b0bcb5, 0x391c0cb3, 0x4ed8aa4a, 0x5b9cca4f, 0x682e6ff3,
  0x748f82ee, 0x78a5636f, 0x84c87814, 0x8cc70208, 0x90befffa, 0xa4506ceb, 0xbef9a3f7, 0xc67178f2]
def beginW : List Nat := [0x6a09e667, 0xbb67ae85, 0x3c6ef372, 0xa54ff53a, 0x510e527f, 0x9b05688c, 0x1f83d9ab, 0x5be0cd19]
/-- The t-th word of 64 bytes. -/
def wordAt (b : List UInt8) (t : Nat) : Nat := (b.getD (4 * t) 0).toNat * 2 ^ 24 + (b.getD (4 * t + 1) 0).toNat * 2 ^ 16 + (b.getD (4 * t + 2) 0).toNat * 2 ^ 8 + (b.getD (4 * t + 3) 0).toNat
def lowW (x : Nat) : Nat := rotn x 7 ^^^ rotn x 18 ^^^ x / 2 ^ 3
def highW (y : Nat) : Nat := rotn y 17 ^^^ rotn y 19 ^^^ y / 2 ^ 10
/-- The first t words of a block's 64. -/
def sched (b : List UInt8) : Nat → List Nat
  | 0 => []
  | t + 1 =>
    let l := sched b t
    l ++ [if t < 16 then wordAt b t else (l.getD (t - 16) 0 + lowW (l.getD (t - 15) 0) + l.getD (t - 7) 0 + highW (l.getD (t - 2) 0)) % 4294967296]
/-- One round: the eight words, behind it. -/
def roundW (v : List Nat) (k x : Nat) : List Nat :=
  match v with
  | [a, b, c, d, e, f, g, h] =>
    let t1 := (h + (rotn e 6 ^^^ rotn e 11 ^^^ rotn e 25) + ((e &&& f) ^^^ ((4294967295 ^^^ e) &&& g)) + k + x) % 4294967296
    let t2 := ((rotn a 2 ^^^ rotn a 13 ^^^ rotn a 22) + ((a &&& b) ^^^ (a &&& c) ^^^ (b &&& c))) % 4294967296
    [add32 t1 t2, a, b, c, add32 d t1, e, f, g]
  | v => v
def roundsW (h : List Nat) (w : List Nat) : List Nat := (List.zip kW w).foldl (fun v p => roundW v p.1 p.2) h
/-- The state behind one block. -/
def takeW (h : List Nat) (b : List UInt8) : List Nat := addW h (roundsW h (sched b 64))
/-- What stands behind n bytes. -/
def padW (n : Nat) : List UInt8 := 128 :: (List.replicate ((119 - n % 64) % 64) 0 ++ (List.range 8).map fun i => UInt8.ofNat (8 * n / 2 ^ (8 * (7 - i))))
def blocksW : Nat → List Nat → List UInt8 → List Nat
  | 0, h, _ => h
  | k + 1, h, l => blocksW k (takeW h (l.take 64)) (l.drop 64)
def shaW (l : List UInt8) : List UInt8 := beW (blocksW ((l.length + 72) / 64) beginW (l ++ padW l.length))
theorem abc_name : hexN (shaW [97, 98, 99]) = "ba7816bf8f01cfea414140de5dae2223b00361a396177a9cb410ff61f20015ad".toUTF8.data.toList := by decide +kernel
theorem none_name : hexN (shaW []) = "e3b0c44298fc1c149afbf4c8996fb92427ae41e4649b934ca495991b7852b855".toUTF8.data.toList := by decide +kernel
theorem kW_len : kW.length = 64 := rfl
end Go.Proofs.YtencpplopdogmaaDoor
