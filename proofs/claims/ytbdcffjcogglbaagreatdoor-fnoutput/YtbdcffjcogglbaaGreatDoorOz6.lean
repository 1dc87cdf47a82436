import Derived.Test.YtbdcffjcogglbaaGreatDoorChecked
import Derived.Test.YtbdcffjcogglbaaGreatDoorOz5
import Derived.WalkSpells
import Derived.WalkLawsBesides
namespace Go.Proofs.YtbdcffjcogglbaaGreatDoor
open Go.RowKit
open Go.Proofs.Tryz
namespace Nu
theorem hideJ {p:Prop} (h:p):Hid p:=h
theorem ret_strJ {a b:ByteArray} (h:a=b):Ending.returned (.string a)=.returned (.string b):=by rw[h]
theorem Tryz.infoJ5:(prog.info? 5).map (fun i=>(i.zero,i.size,i.bytes))=some (some (.int .u8 0),1,1):=by kernel_rfl
theorem Tryz.sizeJ5:(prog.info? 5).map (·.size)=some 1:=by kernel_rfl
end Nu
end Go.Proofs.YtbdcffjcogglbaaGreatDoor
