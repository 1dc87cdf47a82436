import Derived.Test.YthhacleplhaihaaGreatDoorPv8
import Derived.Test.YthhacleplhaihaaGreatDoorPv9
import Derived.Test.YthhacleplhaihaaGreatDoorPv12
set_option linter.defProp false
namespace Go.Proofs.YthhacleplhaihaaGreatDoor
open Go.RowKit
def jB{p:Prop}(h:p):Hid p:=h
