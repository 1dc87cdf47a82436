/- Texts put together: NumWalks. -/
import Derived.Test.YtjfdllgodijibaaGreatDoorChecked
import Derived.Test.YtjfdllgodijibaaGreatDoorWz4
import Derived.WalkKit
import Derived.WalkSpells
import Derived.WalkLawsBesides
set_option maxRecDepth 100000
set_option maxHeartbeats 8000000
namespace Go.Proofs.YtjfdllgodijibaaGreatDoor.Nu
open Go.RowKit
theorem hide {p:Prop} (h:p):Hid p:=h
theorem ret_int {k:IntKind} {a b:Int} (h:a=b):Ending.returned (.int k a)=.returned (.int k b):=by rw[h]
theorem ret_str {a b:ByteArray} (h:a=b):Ending.returned (.string a)=.returned (.string b):=by rw[h]
theorem Tryz.info5:(Tryz.prog.info? 5).map (fun i=>(i.zero,i.size,i.bytes))=some (some (.int .u8 0),1,1):=by kernel_rfl
theorem fold_spec (n:Int) (w:World) (h1:-9223372036854775808<=n) (h2:n<=9223372036854775807) :
  Calls Tryz.prog 96 #[.int .i64 n] w fun e w'=>e=.returned (.int .u64 (zz n))/\w'=w:=by
 by_cases h:n<0
 ·have HZ:Hid ((zz n:Int)=2 * -(n+1)+1):=zz_neg n h
  go_enter Tryz.func96,Tryz.ntmps96
  go_wp2
  go_ret
  exact⟨ret_int HZ.out.symm,rfl⟩
 ·have HZ:Hid ((zz n:Int)=2*n):=zz_pos n h
  go_enter Tryz.func96,Tryz.ntmps96
  go_wp2
  go_ret
  exact⟨ret_int HZ.out.symm,rfl⟩
theorem put_spec (n:Int) (w:World) (h1:-9223372036854775808<=n) (h2:n<=9223372036854775807) :
  Calls Tryz.prog 85 #[.int .i64 n] w fun e w'=>e=.returned (.string (putS n))/\Below w.heap.size w w':=by
 obtain⟨U,hU⟩:∃ U,U=zz n:=⟨_,rfl⟩
 have hz:=zz_lt n h1 h2
 rw[<-hU]at hz
 have HU:=hide hU
 clear hU
 obtain⟨i0,hi,hz0,hz1,hz2⟩:=info_parts Tryz.info5
 go_enter Tryz.func85,Tryz.ntmps85
 go_wp2_with (go_at_call 96;refine(fold_spec _ _ h1 h2).mono ?_;rw[<-HU.out];rintro e w' ⟨rfl,hw⟩;subst w')
 go_loopw [3,4] (fun u v wr=>∃ k q:Nat,k<=9/\u=.int .u64 q/\q=U/128 ^ k/\(∀ j,j<k->128<=U/128 ^ j)/\wr.ownsRow w.heap.size 5 1 v k ((numH U k).map bv)/\Below w.heap.size w wr) (fun u _ _=>(intOf u).toNat)
 case atStart=>exact⟨0,U,by omega,rfl,by simp,fun j hj=>absurd hj (Nat.not_lt_zero j),World.ownsRow_made _ _ _ (Nat.le_refl _) (by decide) rfl,(Below.refl _ _).alloc (Nat.le_refl _) _⟩
 case round =>
  obtain⟨k,q,hk,rfl,hq,hall,hown,hbel⟩:=hrel
  have hqb:q<=18446744073709551615:=by have:=Nat.div_le_self U (128 ^ k);omega
  have HQ:=hide hq
  have HA:=hide hall
  clear hq hall
  by_cases hge:128<=q
  ·have hk9:k<9:=few U k hz (by rw[<-HQ.out];exact hge)
   go_wp2_with (at_builtin;refine wpList_append_own _ rfl (.tmp 10) (.tmp 15) 22 rfl w.heap.size 5 i0 (.int .u8 0) 1 1 Tryz.underlying22 hi hz0 hz1 hz2 rfl (by decide) _ _ _ rfl (hown.alloc _) ⟨wr.heap.size,0,none⟩ 1 1 [.int .u8 ((q:Int)%128+128)] rfl rfl ?c1 ?c2 ?c3 ?c4 ?c5 ?_)
   case c1 =>
    intro j u hj
    match j,hj with
    |0,hj=>simp at hj;subst hj;simp[Addr.add]
   case c2=>intro u hu;simp at hu;subst hu;rfl
   case c3=>unfold maxLen;omega
   case c4=>omega
   case c5=>have:=hbel.size;simp;omega
   intro v' w1 hown' hgrow _
   have hb1:=app_below hbel (Nat.le_refl _) hown hgrow
   have hr1:=hi_row HQ.out hown'
   clear hown' hgrow hown
   go_wp2
   go_roundw
   case rel=>exact⟨k+1,q/128,by omega,by go_num,by rw[pow_div,<-HQ.out],all_more U k HA.out (by rw[<-HQ.out];exact hge),hr1,hb1⟩
   case measure=>simp[intOf];omega
  ·have hlo:q<128:=by omega
   have HB:=hide (numB_of U k hk HA.out (by rw[<-HQ.out];exact hlo))
   go_wp2_with (at_builtin;refine wpList_append_own _ rfl (.tmp 19) (.tmp 22) 22 rfl w.heap.size 5 i0 (.int .u8 0) 1 1 Tryz.underlying22 hi hz0 hz1 hz2 rfl (by decide) _ _ _ rfl (hown.alloc _) ⟨wr.heap.size,0,none⟩ 1 1 [.int .u8 (q:Int)] rfl rfl ?c1 ?c2 ?c3 ?c4 ?c5 ?_)
   case c1 =>
    intro j u hj
    match j,hj with
    |0,hj=>simp at hj;subst hj;simp[Addr.add]
   case c2=>intro u hu;simp at hu;subst hu;rfl
   case c3=>unfold maxLen;omega
   case c4=>omega
   case c5=>have:=hbel.size;simp;omega
   intro v' w1 hown' hgrow _
   have hb1:=app_below hbel (Nat.le_refl _) hown hgrow
   have hconv:=own_string (P:=Tryz.prog) (src:=22) (dst:=9) _ (lo_row HQ.out hlo hown') Tryz.underlying22 Tryz.underlying5 Tryz.underlying9
   clear hown' hgrow hown
   go_wp2
   go_ret
   exact⟨ret_str (by rw[putS,<-HU.out,HB.out]),hb1⟩
end Go.Proofs.YtjfdllgodijibaaGreatDoor.Nu

