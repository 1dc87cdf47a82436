/- Texts put together: ShaPlain, ShaTurn. -/
import Derived.Laws.BitsAllLaws
import Derived.Test.YtjfdllgodijibaaGreatDoorChecked
import Derived.WalkKit
import Derived.WalkSpells
import Derived.WalkLawsBesides
/- Plain mathematics of SHA-256, in the spellings of the model's own operations on numbers of 32 bits: turns, the spread of a chunk, the rounds. -/
namespace Go.Proofs.YtjfdllgodijibaaGreatDoor.Sh
def rot (x:Int) (k:Nat):Int:=bits BinOp.or IntKind.u32 (x/2 ^ k) (x*2 ^ (32-k)%4294967296)
def rotI (x K:Int):Int:=rot x K.toNat
theorem or_comm32 (a b:Int):bits BinOp.or IntKind.u32 a b=bits BinOp.or IntKind.u32 b a:=by
 show IntKind.u32.wrap ((BitVec.ofInt 32 a ||| BitVec.ofInt 32 b).toNat:Int)=IntKind.u32.wrap ((BitVec.ofInt 32 b ||| BitVec.ofInt 32 a).toNat:Int)
 rw[BitVec.or_comm]
theorem neg_mask (k m:Nat) (hk:0<k) (hm:0<m) (h:k+m=32):bits BinOp.and IntKind.u64 (IntKind.u64.wrap (-(k:Int))) 31=(m:Int):=by
 have e:IntKind.u64.wrap (-(k:Int))=((18446744073709551616-k:Nat):Int):=by
  simp[IntKind.wrap,IntKind.bits,IntKind.signed]
  omega
 rw[e]
 have:=u64_and_nat (18446744073709551616-k) 31 (by omega) (by decide)
 rw[nat_mask5]at this
 refine Eq.trans this ?_
 omega
end Go.Proofs.YtjfdllgodijibaaGreatDoor.Sh


/- The walks of the functions that turn a number of 32 bits. -/
namespace Go.Proofs.YtjfdllgodijibaaGreatDoor.Sh
open Go.RowKit
theorem ret_int {k:IntKind} {a b:Int} (h:a=b):Ending.returned (.int k a)=.returned (.int k b):=by rw[h]
theorem turn_spec (x:Int) (k:Nat) (w:World) (hk:0<k) (hk2:k<32) :
  Calls Tryz.prog 72 #[.int .u32 x,.int .u64 k] w fun e w'=>e=.returned (.int .u32 (rot x k))/\w'=w:=by
 go_enter Tryz.func72,Tryz.ntmps72
 go_wp2
 go_ret
 exact⟨rfl,rfl⟩
theorem turn_bits (x:Int) (k m:Nat) (w:World) (hk:0<k) (hm:0<m) (h:k+m=32) :
  Calls Tryz.prog 74 #[.int .u32 x,.int .i64 (-k)] w fun e w'=>e=.returned (.int .u32 (rot x k))/\w'=w:=by
 have HR:Hid (bits BinOp.or IntKind.u32 (x*2 ^ m%4294967296) (x/2 ^ k)=rot x k):=by
  unfold Hid rot
  rw[or_comm32]
  obtain rfl:m=32-k:=by omega
  rfl
 have he:=neg_mask k m hk hm h
 have hs:32-(m:Int)=(k:Int):=by omega
 go_enter Tryz.func74,Tryz.ntmps74
 go_wp2
 go_ret
 exact⟨ret_int HR.out,rfl⟩
theorem turn_impl (x:Int) (k:Nat) (w:World) (hk:0<k) (h:k<32) :
  Calls Tryz.prog 60 #[.int .u32 x,.int .i64 k] w fun e w'=>e=.returned (.int .u32 (rot x k))/\w'=w:=by
 go_enter Tryz.func60,Tryz.ntmps60
 go_wp2_with fail
 refine(turn_bits x k (32-k) _ hk (by omega) (by omega)).mono ?_
 rintro e w' ⟨rfl,hw⟩
 subst w'
 go_wp2
 go_ret
 exact⟨rfl,rfl⟩
theorem turnI_impl (x K:Int) (w:World) (h0:0<K) (h1:K<32) :
  Calls Tryz.prog 60 #[.int .u32 x,.int .i64 K] w fun e w'=>e=.returned (.int .u32 (rotI x K))/\w'=w:=by
 obtain⟨k,rfl⟩:=Int.eq_ofNat_of_zero_le (show 0<=K from by omega)
 exact turn_impl x k w (by omega) (by omega)
theorem turnI_spec (x K:Int) (w:World) (h0:0<K) (h1:K<32) :
  Calls Tryz.prog 72 #[.int .u32 x,.int .u64 K] w fun e w'=>e=.returned (.int .u32 (rotI x K))/\w'=w:=by
 obtain⟨k,rfl⟩:=Int.eq_ofNat_of_zero_le (show 0<=K from by omega)
 exact turn_spec x k w (by omega) (by omega)
end Go.Proofs.YtjfdllgodijibaaGreatDoor.Sh

