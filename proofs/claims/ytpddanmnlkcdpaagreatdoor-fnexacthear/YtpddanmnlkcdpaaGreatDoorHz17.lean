/- Texts put together: BlkSpec. -/
import Derived.Test.YtpddanmnlkcdpaaGreatDoorHz14
import Derived.Test.YtpddanmnlkcdpaaGreatDoorHz16
/- The walks of the specification's Blocks. -/
namespace Go.Proofs.YtpddanmnlkcdpaaGreatDoor.Bk
open Go.RowKit
open St (OwnS one_newS one_cellS app_one)
open Bi (is_yes is_no)
theorem count_any (p k:Nat) (w:World) (hp:p<=1000) (hk:0<k) (hk2:k<=48) :
  Calls Tryz.prog 102 #[.int .i64 p,.int .i64 k] w fun e w'=>e=.returned (.int .i64 (cnt p k:Nat))/\w'=w:=by
 have hq:((p:Int)+k-1).tdiv k=((cnt p k:Nat):Int):=by
  unfold cnt
  rw[Int.tdiv_eq_ediv_of_nonneg (by omega),Int.natCast_ediv]
  congr 1
  omega
 have hk0:((k:Int)==0)=false:=by simp;omega
 have hcb:cnt p k<=1047:=by
  have:=Nat.div_le_self (p+k-1) k
  unfold cnt
  omega
 generalize cnt p k=c at hq hcb ⊢
 go_enter Tryz.func102,Tryz.ntmps102
 go_wp2_with fail
 go_ret
 exact⟨rfl,rfl⟩
end Go.Proofs.YtpddanmnlkcdpaaGreatDoor.Bk

