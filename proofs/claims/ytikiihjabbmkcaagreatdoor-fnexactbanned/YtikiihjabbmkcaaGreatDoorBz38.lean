/- Texts put together: OnesWalks, TreeLen, TreeRight, TreeWalks, TreeSpec. -/
import Derived.Test.YtikiihjabbmkcaaGreatDoorBz37
import Derived.Test.YtikiihjabbmkcaaGreatDoorChecked
import Derived.Shelf.Strconv.Itoa0
import Derived.Test.YtikiihjabbmkcaaGreatDoorBz13
import Derived.BigRegion
import Derived.BigQuiet
import Derived.Deep.QuietTactic
import Derived.Deep.RegionWith
set_option maxRecDepth 100000
set_option maxHeartbeats 8000000
/- The walks of math/bits.OnesCount64 (for small numbers) and spec.l03Ones. -/
namespace Go.Proofs.YtikiihjabbmkcaaGreatDoor.Tr
open Go.RowKit
open St (hideT)
end Go.Proofs.YtikiihjabbmkcaaGreatDoor.Tr


namespace Go.Proofs.YtikiihjabbmkcaaGreatDoor.Tr
open Go.RowKit
open St (hideT)
def renL:Go.Shelf.Ren:=⟨fun _=>171,fun k=>if k=53 then 194 else if k=46 then 183 else if k=3 then 3 else if k=4 then 4 else if k=5 then 5 else 9,fun k=>k⟩
theorem laysL:Lays.n129 Tryz.prog renL where
 mixed:=by kernel_rfl
 f129:=by kernel_rfl
 t3:=by kernel_rfl
 a3:=fun w=>by kernel_rfl
 z3:=fun w=>by kernel_rfl
 v3:=fun w=>by kernel_rfl
 t4:=by kernel_rfl
 a4:=fun w=>by kernel_rfl
 z4:=fun w=>by kernel_rfl
 v4:=fun w=>by kernel_rfl
 t5:=by kernel_rfl
 a5:=fun w=>by kernel_rfl
 z5:=fun w=>by kernel_rfl
 v5:=fun w=>by kernel_rfl
 t9:=by kernel_rfl
 a9:=fun w=>by kernel_rfl
 z9:=fun w=>by kernel_rfl
 v9:=fun w=>by kernel_rfl
 t46:=by kernel_rfl
 a46:=fun w=>by kernel_rfl
 z46:=fun w=>by kernel_rfl
 v46:=fun w=>by kernel_rfl
 t53:=by kernel_rfl
 a53:=fun w=>by kernel_rfl
 z53:=fun w=>by kernel_rfl
 v53:=fun w=>by kernel_rfl
theorem len64_any (x:Nat) (w:World) (h:x<18446744073709551616) :
  Calls Tryz.prog 171 #[.int .u64 x] w fun e w'=>e=.returned (.int .i64 (Lib.bitLen x))/\w'=w:=by
 have:=Any.bits_Len64 laysL x w (by omega) (by omega)
 rw[Int.toNat_natCast]at this
 exact this
theorem bitLen_log (x:Nat) (h0:x≠0) (h:x<18446744073709551616):Lib.bitLen x=Nat.log2 x+1:=by
 induction x using Nat.strongRecOn with
 |ind x ih =>
  rw[Lib.bitLen_half x h0 h]
  by_cases h1:x/2=0
  ·have:x=1:=by omega
   subst this
   rfl
  ·rw[ih (x/2) (by omega) h1 (by omega)]
   have:Nat.log2 x=Nat.log2 (x/2)+1:=by
    refine(Nat.log2_eq_iff h0).2 ⟨?_,?_⟩
    ·have:=Nat.log2_self_le h1
     rw[Nat.pow_succ]
     omega
    ·have:=Nat.lt_log2_self (n:=x/2)
     rw[Nat.pow_succ]at this ⊢
     omega
   omega
theorem half_impl (n:Nat) (w:World) (h2:2<=n) (hn:n<9223372036854775808) :
  Calls Tryz.prog 222 #[.int .i64 n] w fun e w'=>e=.returned (.int .i64 (half n))/\w'=w:=by
 have e1:IntKind.u64.wrap ((n:Int)-1)=((n-1:Nat):Int):=by
  rw[IntKind.wrap_u64]
  omega
 have HL:=hideT (bitLen_log (n-1) (by omega) (by omega))
 obtain⟨k,hk⟩:∃ k,k=Nat.log2 (n-1):=⟨_,rfl⟩
 have HH:=hideT (show half n=2 ^ k by rw[hk];rfl)
 have hk62:k<=62:=by
  rw[hk]
  have:Nat.log2 (n-1)<63:=(Nat.log2_lt (by omega)).2 (by omega)
  omega
 rw[<-hk]at HL
 clear hk
 go_enter Tryz.func222,Tryz.ntmps222
 go_wp2_with fail
 refine(len64_any (n-1) w (by omega)).mono ?_
 rw[HL.out]
 rintro e w1 ⟨rfl,hw⟩
 subst w1
 go_wp2_with fail
 go_ret
 refine⟨ret_int ?_,rfl⟩
 have h3:(2:Nat) ^ k<=2 ^ 62:=Nat.pow_le_pow_right (by decide) hk62
 rw[HH.out]
 have h4:((2:Int) ^ k)=((2 ^ k:Nat):Int):=by simp
 rw[h4]
 generalize (2:Nat) ^ k=y at h3 ⊢
 unfold wrap64
 omega
end Go.Proofs.YtikiihjabbmkcaaGreatDoor.Tr


namespace Go.Proofs.YtikiihjabbmkcaaGreatDoor.Tr
open Go.RowKit
open St
end Go.Proofs.YtikiihjabbmkcaaGreatDoor.Tr


/- The walk of impl.treeOf: of right entries it answers their tree, and writes nothing that was there. -/
namespace Go.Proofs.YtikiihjabbmkcaaGreatDoor.Tr
open Go.RowKit
open St
open Sh (Vars leafV nodeV leafR nodeR leaf_impl node_impl digest_impl digestV leafR_yes nodeR_yes below3)
end Go.Proofs.YtikiihjabbmkcaaGreatDoor.Tr


/- The walk of spec.l03Tree: of right entries it answers their tree, and writes nothing that was there. -/
namespace Go.Proofs.YtikiihjabbmkcaaGreatDoor.Tr
open Go.RowKit
open St
open Sh (leafV nodeV all_any l03Leaf_any l03Node_any)
end Go.Proofs.YtikiihjabbmkcaaGreatDoor.Tr

