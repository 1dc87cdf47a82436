import Derived.Test.YtoojegpaofdbfaaGreatDoorChecked
import Derived.Test.YtoojegpaofdbfaaGreatDoorKz5
import Derived.WalkSpells
import Derived.WalkLawsBesides
namespace Go.Proofs.YtoojegpaofdbfaaGreatDoor
open Go.RowKit
open Go.Proofs.Tryz
namespace Nu
theorem QP{p:Prop}(h:p):Hid p:=h
theorem zr{a b:zY}(h:a=b):Ending.returned (.string a)=.returned (.string b):=by rw[h]
theorem Tryz.infoJ5:(prog.info? 5).map (fun i=>(i.zero,i.size,i.bytes))=some (some (.int .u8 0),1,1):=by kernel_rfl
theorem Tryz.sizeJ5:(prog.info? 5).map (·.size)=some 1:=by kernel_rfl
end Nu
end Go.Proofs.YtoojegpaofdbfaaGreatDoor
