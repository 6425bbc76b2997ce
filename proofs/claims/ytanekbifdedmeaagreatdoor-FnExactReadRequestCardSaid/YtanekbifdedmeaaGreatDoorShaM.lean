/- SHA-256 as plain functions on words that are numbers below 2 to 32. -/
import Derived.Test.YtanekbifdedmeaaGreatDoorGAA
namespace Go.Proofs.YtanekbifdedmeaaGreatDoor.Plain
open Go Go.RowKit
set_option linter.unusedVariables false

def bS1 (e : Int) : Int := bits .xor .u32 (bits .xor .u32 (rotI e 6) (rotI e 11)) (rotI e 25)
def bS0 (a : Int) : Int := bits .xor .u32 (bits .xor .u32 (rotI a 2) (rotI a 13)) (rotI a 22)
def lS0 (x : Int) : Int := bits .xor .u32 (bits .xor .u32 (rotI x 7) (rotI x 18)) (x / 8)
def lS1 (y : Int) : Int := bits .xor .u32 (bits .xor .u32 (rotI y 17) (rotI y 19)) (y / 1024)
def chI (e f g : Int) : Int := bits .xor .u32 (bits .and .u32 e f) (bits .and .u32 (bits .xor .u32 IntKind.u32.max e) g)
def majI (a b c : Int) : Int := bits .xor .u32 (bits .xor .u32 (bits .and .u32 a b) (bits .and .u32 a c)) (bits .and .u32 b c)

/-- One round: the eight words behind it. -/
def rnd0 (a b c d e f g h x : Int) : Int := (h + bS1 e + chI e f g + x + (bS0 a + majI a b c)) % 4294967296
def rnd4 (a b c d e f g h x : Int) : Int := (d + (h + bS1 e + chI e f g + x)) % 4294967296

def rndL (v : List Int) (x : Int) : List Int :=
  [rnd0 (v.getD 0 0) (v.getD 1 0) (v.getD 2 0) (v.getD 3 0) (v.getD 4 0) (v.getD 5 0) (v.getD 6 0) (v.getD 7 0) x, v.getD 0 0, v.getD 1 0, v.getD 2 0,
   rnd4 (v.getD 0 0) (v.getD 1 0) (v.getD 2 0) (v.getD 3 0) (v.getD 4 0) (v.getD 5 0) (v.getD 6 0) (v.getD 7 0) x, v.getD 4 0, v.getD 5 0, v.getD 6 0]

/-- The word of four bytes, the first one highest, as both programs put it together. -/
def hiI (a b c d : Int) : Int := bits .or .u32 (bits .or .u32 (bits .or .u32 (a * 16777216) (b * 65536)) (c * 256)) d

/-- The first t words of a block's schedule. -/
def schedTo (b : List Int) : Nat → List Int
  | 0 => []
  | t + 1 => schedTo b t ++ [if t < 16 then hiI (b.getD (4 * t) 0) (b.getD (4 * t + 1) 0) (b.getD (4 * t + 2) 0) (b.getD (4 * t + 3) 0)
      else (lS1 ((schedTo b t).getD (t - 2) 0) + (schedTo b t).getD (t - 7) 0 + lS0 ((schedTo b t).getD (t - 15) 0) + (schedTo b t).getD (t - 16) 0) % 4294967296]

/-- The words of the rounds' constants. -/
def kL : List Int := [
  0x428a2f98, 0x71374491, 0xb5c0fbcf, 0xe9b5dba5, 0x3956c25b, 0x59f111f1, 0x923f82a4, 0xab1c5ed5,
  0xd807aa98, 0x12835b01, 0x243185be, 0x550c7dc3, 0x72be5d74, 0x80deb1fe, 0x9bdc06a7, 0xc19bf174,
  0xe49b69c1, 0xefbe4786, 0x0fc19dc6, 0x240ca1cc, 0x2de92c6f, 0x4a7484aa, 0x5cb0a9dc, 0x76f988da,
  0x983e5152, 0xa831c66d, 0xb00327c8, 0xbf597fc7, 0xc6e00bf3, 0xd5a79147, 0x06ca6351, 0x14292967,
  0x27b70a85, 0x2e1b2138, 0x4d2c6dfc, 0x53380d13, 0x650a7354, 0x766a0abb, 0x81c2c92e, 0x92722c85,
  0xa2bfe8a1, 0xa81a664b, 0xc24b8b70, 0xc76c51a3, 0xd192e819, 0xd6990624, 0xf40e3585, 0x106aa070,
  0x19a4c116, 0x1e376c08, 0x2748774c, 0x34b0bcb5, 0x391c0cb3, 0x4ed8aa4a, 0x5b9cca4f, 0x682e6ff3,
  0x748f82ee, 0x78a5636f, 0x84c87814, 0x8cc70208, 0x90befffa, 0xa4506ceb, 0xbef9a3f7, 0xc67178f2]

/-- The eight words behind t rounds. -/
def compTo (W v : List Int) : Nat → List Int
  | 0 => v
  | t + 1 => rndL (compTo W v t) ((kL.getD t 0 + W.getD t 0) % 4294967296)

/-- The eight words behind a block. -/
def blockL (h b : List Int) : List Int := (List.range 8).map fun i => (h.getD i 0 + (compTo (schedTo b 64) h 64).getD i 0) % 4294967296

end Go.Proofs.YtanekbifdedmeaaGreatDoor.Plain
