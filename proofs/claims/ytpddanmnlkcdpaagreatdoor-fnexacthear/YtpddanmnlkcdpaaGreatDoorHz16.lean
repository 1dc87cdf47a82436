/- Texts put together: BitWalks. -/
import Derived.Test.YtpddanmnlkcdpaaGreatDoorHz15
import Derived.Test.YtpddanmnlkcdpaaGreatDoorChecked
/- The walks of both BitsOf. -/
namespace Go.Proofs.YtpddanmnlkcdpaaGreatDoor.Bi
open Go.RowKit
open Sh
open Nu (ret_strJ)
theorem is_yes (n a b:Int) (w:World) (h1:a<=n) (h2:n<=b) :
  Calls Tryz.prog 53 #[.int .i64 n,.int .i64 a,.int .i64 b] w fun e w'=>e=.returned (.bool true)/\w'=w:=by
 go_enter Tryz.func53,Tryz.ntmps53
 go_wp2_with fail
 go_ret
 exact⟨rfl,rfl⟩
theorem is_no (n a b:Int) (w:World) (h:n<a∨b<n) :
  Calls Tryz.prog 53 #[.int .i64 n,.int .i64 a,.int .i64 b] w fun e w'=>e=.returned (.bool false)/\w'=w:=by
 by_cases h1:a<=n
 ·have h2:¬n<=b:=by omega
  clear h
  go_enter Tryz.func53,Tryz.ntmps53
  go_wp2_with fail
  go_ret
  exact⟨rfl,rfl⟩
 ·clear h
  go_enter Tryz.func53,Tryz.ntmps53
  go_wp2_with fail
  go_ret
  exact⟨rfl,rfl⟩
end Go.Proofs.YtpddanmnlkcdpaaGreatDoor.Bi

