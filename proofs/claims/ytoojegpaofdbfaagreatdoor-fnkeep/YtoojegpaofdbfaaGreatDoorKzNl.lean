/- A number is at most itself; what is hidden is shown. -/
import Derived.Below
namespace Go.RowKit
theorem Hid.o {p : Prop} (h : Hid p) : p := h
end Go.RowKit
namespace Go.Proofs.YtoojegpaofdbfaaGreatDoor
theorem nl {n : Nat} : n ≤ n := Nat.le_refl n
abbrev zY:=ByteArray
abbrev zW:=World
end Go.Proofs.YtoojegpaofdbfaaGreatDoor
