/- Texts put together: BitPlain. -/
import Derived.Test.YtpddanmnlkcdpaaGreatDoorHz8
/- Plain mathematics of bits: a number in bits. -/
namespace Go.Proofs.YtpddanmnlkcdpaaGreatDoor.Bi
open Go.RowKit
open Sh
def bitB (n p:Nat):Nat:=48+n/2 ^ p%2
def bitsV (n w:Nat):ByteArray:=strF w (fun j=>bitB n (w-1-j))
def bitsR (n w:Int):ByteArray:=if w<1∨20<w∨n<0∨2 ^ w.toNat<=n then ⟨#[]⟩ else bitsV n.toNat w.toNat
def upK (n w k j:Nat):Nat:=if j<k then bitB n (w-1-j) else 0
def dnK (n w k j:Nat):Nat:=if w<=j+k then bitB n (w-1-j) else 0
end Go.Proofs.YtpddanmnlkcdpaaGreatDoor.Bi

