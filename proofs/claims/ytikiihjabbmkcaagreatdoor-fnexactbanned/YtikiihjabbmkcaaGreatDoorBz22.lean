/- Texts put together: KpIn. -/
import Derived.Test.YtikiihjabbmkcaaGreatDoorBz21
import Derived.WalkKit
import Derived.ProofKit
import Derived.OpenShut
import Derived.ShutString
import Derived.ChangeOld
import Derived.Below
import Derived.ChangeSame
import Derived.Lib.SmallJoins
/- A Keep that is handed in, opened. -/
namespace Go.Proofs.YtikiihjabbmkcaaGreatDoor.Kp
open Go.RowKit Go.ChangeShapes Go.WideShapes Go.ChangeAt Go.Deep
theorem cellsList:Tryz.prog.cellsOf 23=3:=by kernel_rfl
theorem cellsStr:Tryz.prog.cellsOf 9=1:=by kernel_rfl
theorem cellsI64:Tryz.prog.cellsOf 2=1:=by kernel_rfl
theorem cellsKeep:Tryz.prog.cellsOf 25=5:=by kernel_rfl
end Go.Proofs.YtikiihjabbmkcaaGreatDoor.Kp

