import Derived.Below
set_option linter.defProp false
namespace Go.RowKit
def Hid.o {p : Prop} (h : Hid p) : p := h
end Go.RowKit
namespace Go.Proofs.YthhacleplhaihaaGreatDoor
def nl {n : Nat} : n ≤ n := Nat.le_refl n
abbrev zY:=ByteArray
abbrev zW:=World
abbrev zs0:Go.Value:=.slice none 0 0
abbrev zt0:Go.Value:=.string ⟨#[]⟩
def zh0{p:Prop}(h:p):Go.RowKit.Hid p:=h
