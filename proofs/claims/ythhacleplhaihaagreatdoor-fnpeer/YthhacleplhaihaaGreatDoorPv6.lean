import Derived.Test.YthhacleplhaihaaGreatDoorChecked
import Derived.Test.YthhacleplhaihaaGreatDoorPv5
import Derived.WalkSpells
import Derived.WalkLawsBesides
set_option linter.defProp false
namespace Go.Proofs.YthhacleplhaihaaGreatDoor
open Go.RowKit
open Go.Proofs.Tryz
def JV{p:Prop}(h:p):Hid p:=h
def qR{a b:zY}(h:a=b):Ending.returned (.string a)=.returned (.string b):=by rw[h]
def Tryz.infoJ5:(prog.info? 5).map (fun i=>(i.zero,i.size,i.bytes))=some (some (.int .u8 0),1,1):=by kernel_rfl
def Tryz.sizeJ5:(prog.info? 5).map (·.size)=some 1:=by kernel_rfl
