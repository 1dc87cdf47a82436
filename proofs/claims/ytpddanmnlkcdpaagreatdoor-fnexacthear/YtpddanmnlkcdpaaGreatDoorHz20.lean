/- Texts put together: NumWalks. -/
import Derived.Test.YtpddanmnlkcdpaaGreatDoorChecked
import Derived.Test.YtpddanmnlkcdpaaGreatDoorHz5
import Derived.WalkKit
import Derived.WalkSpells
import Derived.WalkLawsBesides
set_option maxRecDepth 100000
set_option maxHeartbeats 8000000
namespace Go.Proofs.YtpddanmnlkcdpaaGreatDoor.Nu
open Go.RowKit
theorem hide {p:Prop} (h:p):Hid p:=h
theorem ret_int {k:IntKind} {a b:Int} (h:a=b):Ending.returned (.int k a)=.returned (.int k b):=by rw[h]
theorem ret_str {a b:ByteArray} (h:a=b):Ending.returned (.string a)=.returned (.string b):=by rw[h]
theorem Tryz.info5:(Tryz.prog.info? 5).map (fun i=>(i.zero,i.size,i.bytes))=some (some (.int .u8 0),1,1):=by kernel_rfl
theorem fold_spec (n:Int) (w:World) (h1:-9223372036854775808<=n) (h2:n<=9223372036854775807) :
  Calls Tryz.prog 202 #[.int .i64 n] w fun e w'=>e=.returned (.int .u64 (zz n))/\w'=w:=by
 by_cases h:n<0
 ·have HZ:Hid ((zz n:Int)=2 * -(n+1)+1):=zz_neg n h
  go_enter Tryz.func202,Tryz.ntmps202
  go_wp2
  go_ret
  exact⟨ret_int HZ.out.symm,rfl⟩
 ·have HZ:Hid ((zz n:Int)=2*n):=zz_pos n h
  go_enter Tryz.func202,Tryz.ntmps202
  go_wp2
  go_ret
  exact⟨ret_int HZ.out.symm,rfl⟩
theorem fold_impl (n:Int) (w:World) (h1:-9223372036854775808<=n) (h2:n<=9223372036854775807) :
  Calls Tryz.prog 238 #[.int .i64 n] w fun e w'=>e=.returned (.int .u64 (zz n))/\w'=w:=by
 by_cases h:n<0
 ·have HZ:=hide (fold_not n h1 h)
  go_enter Tryz.func238,Tryz.ntmps238
  go_wp2
  go_ret
  exact⟨ret_int HZ.out,rfl⟩
 ·have HZ:=hide (zz_pos' n h)
  go_enter Tryz.func238,Tryz.ntmps238
  go_wp2
  go_ret
  exact⟨ret_int HZ.out.symm,rfl⟩
theorem put_spec (n:Int) (w:World) (h1:-9223372036854775808<=n) (h2:n<=9223372036854775807) :
  Calls Tryz.prog 182 #[.int .i64 n] w fun e w'=>e=.returned (.string (putS n))/\Below w.heap.size w w':=by
 obtain⟨U,hU⟩:∃ U,U=zz n:=⟨_,rfl⟩
 have hz:=zz_lt n h1 h2
 rw[<-hU]at hz
 have HU:=hide hU
 clear hU
 obtain⟨i0,hi,hz0,hz1,hz2⟩:=info_parts Tryz.info5
 go_enter Tryz.func182,Tryz.ntmps182
 go_wp2_with (go_at_call 202;refine(fold_spec _ _ h1 h2).mono ?_;rw[<-HU.out];rintro e w' ⟨rfl,hw⟩;subst w')
 go_loopw [3,4] (fun u v wr=>∃ k q:Nat,k<=9/\u=.int .u64 q/\q=U/128 ^ k/\(∀ j,j<k->128<=U/128 ^ j)/\wr.ownsRow w.heap.size 5 1 v k ((numH U k).map bv)/\Below w.heap.size w wr) (fun u _ _=>(intOf u).toNat)
 case atStart=>exact⟨0,U,by omega,rfl,by simp,fun j hj=>absurd hj (Nat.not_lt_zero j),World.ownsRow_made _ _ _ (Nat.le_refl _) (by decide) rfl,(Below.refl _ _).alloc (Nat.le_refl _) _⟩
 case round =>
  obtain⟨k,q,hk,rfl,hq,hall,hown,hbel⟩:=hrel
  have hqb:q<=18446744073709551615:=by have:=Nat.div_le_self U (128 ^ k);omega
  have HQ:=hide hq
  have HA:=hide hall
  clear hq hall
  by_cases hge:128<=q
  ·have hk9:k<9:=few U k hz (by rw[<-HQ.out];exact hge)
   go_wp2_with (at_builtin;refine wpList_append_own _ rfl (.tmp 10) (.tmp 15) 168 rfl w.heap.size 5 i0 (.int .u8 0) 1 1 Tryz.underlying168 hi hz0 hz1 hz2 rfl (by decide) _ _ _ rfl (hown.alloc _) ⟨wr.heap.size,0,none⟩ 1 1 [.int .u8 ((q:Int)%128+128)] rfl rfl ?c1 ?c2 ?c3 ?c4 ?c5 ?_)
   case c1 =>
    intro j u hj
    match j,hj with
    |0,hj=>simp at hj;subst hj;simp[Addr.add]
   case c2=>intro u hu;simp at hu;subst hu;rfl
   case c3=>unfold maxLen;omega
   case c4=>omega
   case c5=>have:=hbel.size;simp;omega
   intro v' w1 hown' hgrow _
   have hb1:=app_below hbel (Nat.le_refl _) hown hgrow
   have hr1:=hi_row HQ.out hown'
   clear hown' hgrow hown
   go_wp2
   go_roundw
   case rel=>exact⟨k+1,q/128,by omega,by go_num,by rw[pow_div,<-HQ.out],all_more U k HA.out (by rw[<-HQ.out];exact hge),hr1,hb1⟩
   case measure=>simp[intOf];omega
  ·have hlo:q<128:=by omega
   have HB:=hide (numB_of U k hk HA.out (by rw[<-HQ.out];exact hlo))
   go_wp2_with (at_builtin;refine wpList_append_own _ rfl (.tmp 19) (.tmp 22) 168 rfl w.heap.size 5 i0 (.int .u8 0) 1 1 Tryz.underlying168 hi hz0 hz1 hz2 rfl (by decide) _ _ _ rfl (hown.alloc _) ⟨wr.heap.size,0,none⟩ 1 1 [.int .u8 (q:Int)] rfl rfl ?c1 ?c2 ?c3 ?c4 ?c5 ?_)
   case c1 =>
    intro j u hj
    match j,hj with
    |0,hj=>simp at hj;subst hj;simp[Addr.add]
   case c2=>intro u hu;simp at hu;subst hu;rfl
   case c3=>unfold maxLen;omega
   case c4=>omega
   case c5=>have:=hbel.size;simp;omega
   intro v' w1 hown' hgrow _
   have hb1:=app_below hbel (Nat.le_refl _) hown hgrow
   have hconv:=own_string (P:=Tryz.prog) (src:=168) (dst:=9) _ (lo_row HQ.out hlo hown') Tryz.underlying168 Tryz.underlying5 Tryz.underlying9
   clear hown' hgrow hown
   go_wp2
   go_ret
   exact⟨ret_str (by rw[putS,<-HU.out,HB.out]),hb1⟩
theorem slice10 (a:Addr) (h:Int) (h0:0<=h) (h1:h<=10) (u:World) :
  (Instr.sliceAt 298 (.pointer (some a)) none (some (.int .i64 h)) none).run Tryz.prog u=.ok (.slice (some a) h.toNat 10) u:=by
 have ea:Tryz.prog.arrayLen 298=10:=by kernel_rfl
 have es:∀ u:World,(Go.sizeOf (Tryz.prog.elem 298)).run Tryz.prog u=.ok 1 u:=fun u=>by kernel_rfl
 rw[run_sliceAt_array_h u 298 a (by kernel_rfl) .i64 h h0 (by rw[ea];exact h1),es u,ea]
 simp[Result.andThen,slicedAt,Addr.add]
theorem put_impl (n:Int) (w:World) (h1:-9223372036854775808<=n) (h2:n<=9223372036854775807) :
  Calls Tryz.prog 226 #[.int .i64 n] w fun e w'=>e=.returned (.string (putS n))/\Below w.heap.size w w':=by
 obtain⟨U,hU⟩:∃ U,U=zz n:=⟨_,rfl⟩
 have hz:=zz_lt n h1 h2
 rw[<-hU]at hz
 have HU:=hide hU
 clear hU
 go_enter Tryz.func226,Tryz.ntmps226
 go_wp2_with (go_at_call 238;refine(fold_impl _ _ h1 h2).mono ?_;rw[<-HU.out];rintro e w' ⟨rfl,hw⟩;subst w')
 go_loopw [4,5] (fun u m wr=>∃ (k q:Nat) (cs:Array Value),k<=9/\u=.int .u64 q/\m=.int .i64 k/\q=U/128 ^ k/\(∀ j,j<k->128<=U/128 ^ j)/\wr.heap[w.heap.size]? = some (.cells cs 298 (0,0))/\cs.size=10/\cs.toList.take k=(numH U k).map bv/\Below w.heap.size w wr) (fun u _ _=>(intOf u).toNat)
 case atStart=>exact⟨0,U,_,by omega,rfl,rfl,by simp,fun j hj=>absurd hj (Nat.not_lt_zero j),heap_alloc_new _ _,rfl,rfl,(Below.refl _ _).alloc (Nat.le_refl _) _⟩
 case round =>
  obtain⟨k,q,cs,hk,rfl,rfl,hq,hall,hblk,hsz,htk,hbel⟩:=hrel
  have hqb:q<=18446744073709551615:=by have:=Nat.div_le_self U (128 ^ k);omega
  have HQ:=hide hq
  have HA:=hide hall
  have HT:=hide htk
  have HB:=hide hblk
  have HS:=hide hsz
  have hfz:=frozen_of_row wr w.heap.size k cs 298 hblk
  obtain⟨x,hx⟩:∃ x,wr.cell? ⟨w.heap.size,k,none⟩=some x:=⟨cs[k]'(by omega),by rw[cell_of_row wr _ k cs _ _ hblk];exact Array.getElem?_eq_getElem (by omega)⟩
  clear hq hall htk hblk hsz
  by_cases hge:128<=q
  ·have hk9:k<9:=few U k hz (by rw[<-HQ.out];exact hge)
   have HN:=hide (impl_hi HQ.out hqb HB.out HS.out hk9 HT.out)
   go_wp2
   go_roundw
   case rel =>
    obtain⟨cs',e1,e2,e3⟩:=HN.out
    exact⟨k+1,q/128,cs',by omega,by go_num,by go_num,by rw[pow_div,<-HQ.out],all_more U k HA.out (by rw[<-HQ.out];exact hge),e1,e2,e3,hbel.setCell (Nat.le_refl _) _⟩
   case measure=>simp[intOf];omega
  ·have hlo:q<128:=by omega
   have HN:=hide (numB_of U k hk HA.out (by rw[<-HQ.out];exact hlo))
   have hsl:=slice10 ⟨w.heap.size,0,none⟩ ((k:Int)+1) (by omega) (by omega)
   have e1:((k:Int)+1).toNat=(numL U k).length:=by rw[numL_length];omega
   rw[e1]at hsl
   clear e1
   have hcv:(convert 168 9 (.slice (some ⟨w.heap.size,0,none⟩) (numL U k).length 10)).run Tryz.prog (wr.setCell ⟨w.heap.size,k,none⟩ (.int .u8 (q:Int)))=.ok (.string ⟨(numL U k).toArray⟩) (wr.setCell ⟨w.heap.size,k,none⟩ (.int .u8 (q:Int))):=by
    obtain⟨cs',e1,e2⟩:=impl_lo HQ.out hlo HB.out HS.out hk HT.out
    exact arr_string (P:=Tryz.prog) _ 10 e1 e2 Tryz.underlying168 Tryz.underlying5 Tryz.underlying9
   go_wp2
   go_ret
   exact⟨ret_str (by rw[putS,<-HU.out,HN.out]),hbel.setCell (Nat.le_refl _) _⟩
end Go.Proofs.YtpddanmnlkcdpaaGreatDoor.Nu

