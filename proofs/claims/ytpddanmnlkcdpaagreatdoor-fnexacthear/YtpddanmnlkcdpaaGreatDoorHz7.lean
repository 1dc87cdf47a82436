/- Texts put together: MemBase. -/
import Derived.Test.YtpddanmnlkcdpaaGreatDoorChecked
import Derived.Test.YtpddanmnlkcdpaaGreatDoorHz6
import Derived.WalkKit
import Derived.WalkSpells
import Derived.WalkLawsBesides
/- Small facts that the walks over texts in memory share: the row of the table of bytes, and how an answer is told. -/
namespace Go.Proofs.YtpddanmnlkcdpaaGreatDoor.Nu
open Go.RowKit
theorem hideJ {p:Prop} (h:p):Hid p:=h
theorem ret_strJ {a b:ByteArray} (h:a=b):Ending.returned (.string a)=.returned (.string b):=by rw[h]
theorem Tryz.infoJ5:(Tryz.prog.info? 5).map (fun i=>(i.zero,i.size,i.bytes))=some (some (.int .u8 0),1,1):=by kernel_rfl
theorem Tryz.sizeJ5:(Tryz.prog.info? 5).map (·.size)=some 1:=by kernel_rfl
end Go.Proofs.YtpddanmnlkcdpaaGreatDoor.Nu

