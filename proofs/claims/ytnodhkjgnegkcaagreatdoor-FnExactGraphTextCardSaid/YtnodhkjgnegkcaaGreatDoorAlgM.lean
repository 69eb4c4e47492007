/-
  The algorithms of sums in plain words.
-/
import Derived.Test.YtnodhkjgnegkcaaGreatDoorRdB
namespace Go.Proofs.YtnodhkjgnegkcaaGreatDoor

def sha1L : List UInt8 := [115, 104, 97, 49]
def sha256L : List UInt8 := [115, 104, 97, 50, 53, 54]
def sha512L : List UInt8 := [115, 104, 97, 53, 49, 50]
def h1L : List UInt8 := [104, 49]
/-- A sum that an integrity text tells. -/
def algOk (a : List UInt8) : Bool := a == sha1L || a == sha256L || a == sha512L
/-- How many bytes a sum has, or -1. -/
def longI (a : List UInt8) : Int := if a = sha1L then 20 else if a = sha256L then 32 else if a = h1L then 32 else if a = sha512L then 64 else -1
end Go.Proofs.YtnodhkjgnegkcaaGreatDoor
