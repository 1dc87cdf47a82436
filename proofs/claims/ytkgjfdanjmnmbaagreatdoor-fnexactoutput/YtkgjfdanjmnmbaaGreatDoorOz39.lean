/- Texts put together: ZeroApp, ZeroWalks, ZeroTop, ZeroSpec, ShaMade, FrontRow, FrontSpec, FrontB, BackWalks, FrontBS, BackSpec, FrontO, FrontOS, ZeroSpec2. -/
import Derived.Test.YtkgjfdanjmnmbaaGreatDoorOz23
import Derived.Test.YtkgjfdanjmnmbaaGreatDoorOz26
import Derived.Test.YtkgjfdanjmnmbaaGreatDoorOz34
import Derived.Test.YtkgjfdanjmnmbaaGreatDoorOz7
import Derived.Test.YtkgjfdanjmnmbaaGreatDoorOz3
import Derived.Test.YtkgjfdanjmnmbaaGreatDoorOz30
import Derived.Test.YtkgjfdanjmnmbaaGreatDoorOz2
import Derived.Test.YtkgjfdanjmnmbaaGreatDoorOz12
import Derived.Test.YtkgjfdanjmnmbaaGreatDoorChecked
import Derived.WalkSpells
import Derived.WalkLawsBesides
import Derived.BigRegion
import Derived.BigQuiet
import Derived.Deep.QuietTactic
import Derived.Laws.CopyOwn
import Derived.Test.YtkgjfdanjmnmbaaGreatDoorOz27
import Derived.WalkMore
import Derived.Scope
set_option maxRecDepth 100000
set_option maxHeartbeats 8000000
/- An append of so many zeros onto a row of numbers of the call's own. -/
namespace Go.Proofs.YtkgjfdanjmnmbaaGreatDoor.Ze
open Go.RowKit
theorem zeros_list (m:Nat):(Builtin.zeroCells (Value.int .i64 0).cells m)=(List.replicate m (Value.int .i64 0)).toArray:=by
 apply Array.ext'
 apply List.ext_getElem
 ·simp[Builtin.zeroCells,Value.cells]
 ·intro i h1 h2
  simp[Builtin.zeroCells,Value.cells,Nat.mod_one]
theorem one_zeros (m:Nat):∀ u∈List.replicate m (Value.int .i64 0),u.oneCell'=true:=by
 intro u hu
 rw[(List.mem_replicate.1 hu).2]
 rfl
theorem run_append_zeros {P:Program} (w:World) (base:Nat) (t ti ty e:TypeId) (i:TypeInfo) (ht:P.underlying t=some (.slice e)) (hti:P.underlying ti=some (.int .i64)) (hi:P.info? e=some i) (hz:i.zero=some (.int .i64 0))
  (hsize:i.size=1) (hby:i.bytes=8)
  (v:Value) (n:Nat) (xs:List Value) (hown:w.ownsRow base e 1 v n xs) (m:Nat) (hs:n+m<=1048576) (hbase:base<=w.heap.size) :
  ∃ v' w',(Builtin.append_ #[t,ti] ty #[v,.int .i64 m]).run P w=.ok v' w'/\w'.ownsRow base e 1 v' (n+m) (xs++List.replicate m (.int .i64 0))/\w.grownBy w' v.ownBlock:=by
 have hlen:(xs++List.replicate m (Value.int .i64 0)).length=(n+m)*1:=by rw[List.length_append,hown.1,List.length_replicate];omega
 have hwrap:IntKind.i64.wrap (m:Int)=m:=by
  simp[IntKind.wrap,IntKind.bits,IntKind.signed]
  omega
 have hwrap0:IntKind.i64.wrap 0=0:=by simp[IntKind.wrap,IntKind.bits,IntKind.signed]
 have h0:¬((m:Int)<0):=by omega
 have h1:¬((m:Int)*((8:Nat):Int) > 2 ^ 48):=by omega
 have grown:∀ (old:Nat),old<n+m->∀ (row:Option Nat),
   (w.drew.alloc (.cells (xs.toArray++(List.replicate m (Value.int .i64 0)).toArray++Builtin.zeroCells (Value.int .i64 0).cells (grownCap w (n+m) old e-(n+m))) e)).ownsRow base e 1
    (.slice (some ⟨w.heap.size,0,none⟩) (n+m) (grownCap w (n+m) old e)) (n+m) (xs++List.replicate m (Value.int .i64 0)) /\
   w.grownBy (w.drew.alloc (.cells (xs.toArray++(List.replicate m (Value.int .i64 0)).toArray++Builtin.zeroCells (Value.int .i64 0).cells (grownCap w (n+m) old e-(n+m))) e)) row:=by
  intro old ho row
  have hge:=grownCap_ge w (n+m) old e
  have hcm:grownCap w (n+m) old e<=maxLen:=grownCap_le_maxLen w (n+m) old e (by unfold maxLen;omega)
  refine⟨⟨hlen,.inr ⟨w.heap.size,_,_,rfl,hbase,heap_alloc_new w.drew _,hge,hcm,?_,?_⟩⟩,⟨rfl,rfl,rfl,by simp,fun k hk _=>heap_alloc_old w.drew _ hk⟩⟩
  ·have h2:=hown.1
   simp only[Array.size_append,List.size_toArray,size_zeroCells,List.length_replicate,Value.cells,List.size_toArray,List.length_cons,List.length_nil]
   omega
  ·simp only[Array.toList_append,List.append_assoc]
   rw[<-List.append_assoc,<-hlen]
   exact List.take_left
 have hnew:∀ W:World,(if m*1=0 then (pure #[]:Sem (Array Value)) else do pure (Builtin.zeroCells (<-zeroValue e).cells m)).run P W=.ok (List.replicate m (Value.int .i64 0)).toArray W:=by
  intro W
  by_cases hm:m=0
  ·subst hm
   simp
  ·rw[if_neg (by omega)]
   simp[zeroValue,typeInfo,hi,hz,zeros_list]
 rcases hown.2 with⟨rfl,rfl⟩|⟨g,cap,cur,rfl,hbg,hg,hnc,hcm,hcs,htake⟩
 ·have hx:xs=[]:=List.eq_nil_of_length_eq_zero (by simpa using hown.1)
  subst hx
  by_cases hm:m=0
  ·subst hm
   refine⟨.slice none 0 0,w,?_,World.ownsRow_nil w base e 1,⟨rfl,rfl,rfl,Nat.le_refl _,fun _ _ _=>rfl⟩⟩
   simp[Builtin.append_,run_underlying ht,run_underlying hti,sizeOf,typeInfo,hi,hby,asInt,asIntOf,hwrap0]
  ·have hgr:=grown 0 (by omega) (Value.ownBlock (.slice none 0 0))
   simp only[Nat.zero_add,List.nil_append,Array.empty_append]at hgr ⊢
   refine⟨_,_,?_,hgr.1,hgr.2⟩
   have hnc:¬(281474976710656<Builtin.nextslicecap m 0*8):=by rw[nextslicecap_zero (by omega)];omega
   have h63':¬(9223372036854775807<(m:Int)):=by omega
   have hq:¬(281474976710656<(m:Int)*8):=by omega
   simp[Builtin.append_,run_underlying ht,run_underlying hti,sizeOf,typeInfo,zeroValue,hi,hz,hsize,hby,asInt,asIntOf,hwrap,h0,hq,hm,h63',hnc,Question.forced,run_firstCells_none,newRow,grownCap,zeros_list]
 ·by_cases hroom:n+m<=cap
  ·have hfit:n*1+(List.replicate m (Value.int .i64 0)).length<=cur.size:=by rw[List.length_replicate,hcs];omega
   have hst:=run_storeCells_at P g (n*1) e (List.replicate m (Value.int .i64 0)) 0 cur w hg (by simpa using hfit) (one_zeros m)
   simp only[Nat.add_zero]at hst
   have hq:¬(281474976710656<(m:Int)*8):=by omega
   refine⟨.slice (some ⟨g,0,none⟩) (n+m) cap,w.setRow g (cur.toList.take (n*1)++List.replicate m (Value.int .i64 0)++cur.toList.drop (n*1+(List.replicate m (Value.int .i64 0)).length)).toArray,?_,⟨hlen,.inr ⟨g,cap,_,rfl,hbg,setRow_heap w g cur _ e _ hg,hroom,hcm,?_,?_⟩⟩,⟨rfl,rfl,rfl,by simp,fun k _ hk=>setRow_other w g k _ (fun e=>hk (by simp[Value.ownBlock,e]))⟩⟩
   ·by_cases hm:m=0
    ·subst hm
     simp at hst
     simp[Builtin.append_,run_underlying ht,run_underlying hti,sizeOf,typeInfo,zeroValue,hi,hsize,hby,asInt,asIntOf,hnc,Addr.add_lit,hwrap0,hst]
    ·simp at hst
     simp[Builtin.append_,run_underlying ht,run_underlying hti,sizeOf,typeInfo,zeroValue,hi,hz,hsize,hby,asInt,asIntOf,hwrap,h0,hq,hm,hroom,Addr.add_lit,zeros_list,hst]
   ·simp only[List.size_toArray,List.length_append,List.length_take,List.length_drop,Array.length_toList,List.length_replicate]
    omega
   ·rw[htake,<-hlen]
    exact List.take_left
  ·have holds:∀ j u,xs[j]? = some u->w.cell? ((⟨g,0,none⟩:Addr).add j)=some u:=hown.cells (g:=g) rfl
   have hm:m≠0:=by omega
   have hgr:=grown cap (by omega) (Value.ownBlock (.slice (some ⟨g,0,none⟩) n cap))
   refine⟨_,_,?_,hgr.1,hgr.2⟩
   have hfo:=run_firstCells_some (P:=P) w.drew 1 n ⟨g,0,none⟩ n cap xs hown.1 (by simpa using holds)
   have hn:¬(n+m<=cap):=by omega
   have h63':¬(9223372036854775807<((n:Int)+(m:Int))):=by omega
   have hfits:Builtin.nextslicecap (n+m) cap*8<=281474976710656:=growslice_fits (by omega) (by omega)
   have h48':¬(281474976710656<Builtin.nextslicecap (n+m) cap*8):=by omega
   have hq:¬(281474976710656<(m:Int)*8):=by omega
   simp[Builtin.append_,run_underlying ht,run_underlying hti,sizeOf,typeInfo,zeroValue,hi,hz,hsize,hby,asInt,asIntOf,hwrap,h0,hq,hm,hn,h63',h48',Question.forced,hfo,newRow,grownCap,zeros_list]
theorem wpList_append_zeros {P:Program} (w:World) {ops:Array Oper} {rest:List Oper} {o:Oper} {a:Act} {Q:Exit->Act->World->Prop} (hgd:o.guard=none) (s x:Operand) (t ti:TypeId)
  (ho:o.op=.call { callee:=.builtin .append,args:=#[s,x],argTypes:=#[t,ti] })
  (base:Nat) (e:TypeId) (i:TypeInfo) (ht:P.underlying t=some (.slice e)) (hti:P.underlying ti=some (.int .i64)) (hi:P.info? e=some i) (hz:i.zero=some (.int .i64 0)) (hsize:i.size=1) (hby:i.bytes=8)
  (v:Value) (n:Nat) (xs:List Value) (hv:a.eval s=v) (hown:w.ownsRow base e 1 v n xs) (m:Nat) (hx:a.eval x=.int .i64 m) (hs:n+m<=1048576) (hbase:base<=w.heap.size)
  (h:∀ v' w',w'.ownsRow base e 1 v' (n+m) (xs++List.replicate m (.int .i64 0))->w.grownBy w' v.ownBlock->wpList P ops Q rest (a.put o.dst v') w'):wpList P ops Q (o :: rest) a w :=
 wpList_plain hgd fun _ hK=>by
  obtain⟨v',w',hr,h2,h3⟩:=run_append_zeros (P:=P) w base t ti o.type e i ht hti hi hz hsize hby v n xs hown m hs hbase
  unfold Oper.wp execOp
  simp only[ho,resolve,invoke,builtin,Sem.run_bind,Sem.run_pure,Result.andThen_ok,List.map_toArray,List.map_cons,List.map_nil,hv,hx,hr]
  exact hK _ _ (h v' w' h2 h3)
end Go.Proofs.YtkgjfdanjmnmbaaGreatDoor.Ze


namespace Go.Proofs.YtkgjfdanjmnmbaaGreatDoor.Ze
open Go.RowKit
open Bi (upTo_impl ret_boolB)
open In (Ints OwnI one_newI one_cellI app_one)
open In.Tryz (infoI2)
theorem OwnI.alloc {w:World} {base:Nat} {v:Value} {l:List Int} (h:OwnI w base v l) (o:Obj):OwnI (w.alloc o) base v l :=
 h.below ((Below.refl _ _).alloc (Nat.le_refl _) o)
theorem putZeros_any (l:List Int) (r base:Nat) (v:Value) (w:World) (ho:OwnI w base v l) (hb:base<=w.heap.size) (hs:l.length+r<=1048576) :
  Calls Tryz.prog 137 #[v,.int .i64 r] w fun e w'=>∃ v',e=.returned v'/\OwnI w' base v' (l++zrun r)/\Below base w w':=by
 obtain⟨i0,hi0,hz0,hz1,hz2⟩:=info_parts infoI2
 have HO:=hideZ ho
 obtain⟨a,cap,rfl,_,_⟩:=ho.ints
 clear ho
 generalize hln:l.length=n at hs HO
 have HLN:=hideZ hln
 clear hln
 go_enter Tryz.func137,Tryz.ntmps137
 go_wp2_with fail
 go_loopw [0,1] (fun u m wr=>∃ (l':List Int) (r':Nat),m=.int .i64 r'/\OwnI wr base u l'/\l'++zrun r'=l++zrun r/\l'.length+r'<=1048576/\Below base w wr) (fun _ m _=>(intOf m).toNat)
 case atStart=>exact⟨l,r,rfl,HO.out,rfl,by have:=HLN.out;omega,Below.refl _ _⟩
 case round =>
  obtain⟨l',r',rfl,hown,he,hs',hbel⟩:=hrel
  have G1:=hideZ hown
  have GB:=hideZ hbel
  have HE:=hideZ he
  have hz:=hbel.size
  have HS:=hideZ hs'
  have hs2:r'<=1048576:=by omega
  clear he hbel hs'
  obtain⟨a',cap',rfl,_,_⟩:=hown.ints
  clear hown
  by_cases h0:0<r'
  ·by_cases h1:r' % 2=1
   ·have hq:(r':Int).tmod 2=1:=by rw[Int.tmod_eq_emod_of_nonneg (by omega)];omega
    have hd:((r':Int)-1).tdiv 2=(((r' - 1)/2:Nat):Int):=by rw[Int.tdiv_eq_ediv_of_nonneg (by omega)];omega
    have HZ:Hid (l'++([0]++zrun ((r' - 1)/2))=l++zrun r):=by
     unfold Hid
     rw[<-HE.out,zrun_odd h1]
     rfl
    go_wp2_with (at_builtin;refine wpList_append_own _ rfl (.tmp 10) (.tmp 11) 114 rfl base 2 i0 (.int .i64 0) 1 8 Tryz.underlying114 hi0 hz0 hz1 hz2 rfl (by decide) _ _ _ rfl (OwnI.alloc G1.out _) ⟨wr.heap.size,0,none⟩ 1 1 [.int .i64 0] rfl rfl (one_newI _ _ _) (one_cellI _) (by unfold maxLen;have:=HS.out;omega) (by have:=HS.out;omega) (by simp;omega) ?_)
    intro v' w5 hown' hgrow _
    have N5:=hideZ (OwnI.snoc hown')
    have b5:=hideZ (app_one GB.out (by omega) (Nat.le_refl _) G1.out hgrow)
    clear hown' hgrow
    go_wp2_with fail
    go_roundw
    case rel=>exact⟨l'++[0],(r' - 1)/2,by go_num,N5.out,by rw[List.append_assoc];exact HZ.out,by have:=HS.out;simp;omega,b5.out⟩
    case measure=>simp[intOf];omega
   ·have hq:(r':Int).tmod 2=0:=by rw[Int.tmod_eq_emod_of_nonneg (by omega)];omega
    have hd:((r':Int)-2).tdiv 2=(((r' - 2)/2:Nat):Int):=by rw[Int.tdiv_eq_ediv_of_nonneg (by omega)];omega
    have HZ:Hid (l'++([1]++zrun ((r' - 2)/2))=l++zrun r):=by
     unfold Hid
     rw[<-HE.out,zrun_even h0 h1]
     rfl
    go_wp2_with (at_builtin;refine wpList_append_own _ rfl (.tmp 16) (.tmp 17) 114 rfl base 2 i0 (.int .i64 0) 1 8 Tryz.underlying114 hi0 hz0 hz1 hz2 rfl (by decide) _ _ _ rfl (OwnI.alloc G1.out _) ⟨wr.heap.size,0,none⟩ 1 1 [.int .i64 1] rfl rfl (one_newI _ _ _) (one_cellI _) (by unfold maxLen;have:=HS.out;omega) (by have:=HS.out;omega) (by simp;omega) ?_)
    intro v' w5 hown' hgrow _
    have N5:=hideZ (OwnI.snoc hown')
    have b5:=hideZ (app_one GB.out (by omega) (Nat.le_refl _) G1.out hgrow)
    clear hown' hgrow
    go_wp2_with fail
    go_roundw
    case rel=>exact⟨l'++[1],(r' - 2)/2,by go_num,N5.out,by rw[List.append_assoc];exact HZ.out,by have:=HS.out;simp;omega,b5.out⟩
    case measure=>simp[intOf];omega
  ·obtain rfl:r'=0:=by omega
   have HZ:Hid (l'=l++zrun r):=by
    unfold Hid
    rw[<-HE.out,zrun_zero,List.append_nil]
   go_wp2_with fail
   go_ret
   exact⟨_,rfl,by rw[<-HZ.out];exact G1.out,GB.out⟩
end Go.Proofs.YtkgjfdanjmnmbaaGreatDoor.Ze


namespace Go.Proofs.YtkgjfdanjmnmbaaGreatDoor.Ze
open Go.RowKit
open Bi (upTo_impl ret_boolB is_yes is_no)
open In (Ints OwnI one_newI one_cellI app_one)
open In.Tryz (infoI2)
theorem OwnI.empty (w:World):OwnI (w.alloc (.cells #[] 2)) w.heap.size (.slice (some ⟨w.heap.size,0,none⟩) 0 0) [] :=
 ⟨rfl,.inr ⟨w.heap.size,0,#[],rfl,Nat.le_refl _,heap_alloc_last w _,Nat.le_refl _,by decide,rfl,rfl⟩⟩
theorem zerosOf_impl (l:List Int) (a:Option Addr) (cap B:Nat) (w:World) (hi:Ints w B a l) (hB:B<=w.heap.size) (hn:l.length<=1048576) :
  Calls Tryz.prog 94 #[.slice a l.length cap] w fun e w'=>∃ v,e=.returned v/\OwnI w' w.heap.size v (zerosR l)/\Below w.heap.size w w':=by
 obtain⟨i0,hi0,hz0,hz1,hz2⟩:=info_parts infoI2
 by_cases hlong:400<l.length
 ·rw[zerosR_no (numsR_long hlong)]
  clear hi
  generalize l.length=n at hlong hn ⊢
  go_enter Tryz.func94,Tryz.ntmps94
  go_wp2_with fail
  go_ret
  exact⟨_,rfl,OwnI.nil _ _,Below.refl _ _⟩
 ·have HU:=hideZ (upTo_impl l 255 a cap B w hi hn)
  cases hu:upTo l 255 with
  |false =>
   rw[zerosR_no ((numsR_of (by omega)).trans hu)]
   rw[hu]at HU
   clear hi hu
   generalize l.length=n at HU hlong hn ⊢
   have hd:decide (400<(n:Int))=false:=decide_eq_false (by omega)
   go_enter Tryz.func94,Tryz.ntmps94
   go_wp2_with fail
   refine HU.out.mono ?_
   rintro e w' ⟨rfl,hw⟩
   subst w'
   go_wp2_with fail
   go_ret
   exact⟨_,rfl,OwnI.nil _ _,Below.refl _ _⟩
  |true =>
   rw[zerosR_yes ((numsR_of (by omega)).trans hu)]
   have HUP:=hideZ (upTo_yes hu)
   rw[hu]at HU
   have HS:=hideZ (hi.mono hB)
   clear hi hu
   obtain⟨n,hln⟩:∃ n,n=l.length:=⟨_,rfl⟩
   have HLN:=hideZ hln
   rw[<-hln]at HU hlong ⊢
   clear hln hn
   have hd:decide (400<(n:Int))=false:=decide_eq_false (by omega)
   go_enter Tryz.func94,Tryz.ntmps94
   go_wp2_with fail
   refine HU.out.mono ?_
   rintro e w' ⟨rfl,hw⟩
   subst w'
   go_wp2_with fail
   go_loopw [17,3,4] (fun i u m wr=>∃ k z:Nat,i=.int .i64 k/\m=.int .i64 z/\k<=n/\z=(zst (l.take k)).2/\OwnI wr w.heap.size u (zst (l.take k)).1/\Below w.heap.size w wr) (fun i _ _ _=>n-(intOf i).toNat)
   case atStart=>exact⟨0,0,rfl,rfl,Nat.zero_le _,rfl,OwnI.nil _ _,Below.refl _ _⟩
   case round =>
    obtain⟨k,z,rfl,rfl,hk,hz,hown,hbel⟩:=hrel
    have hzl:=zst_len (l.take k)
    rw[List.length_take]at hzl
    have hzk:(zst (l.take k)).1.length+z<=k:=by omega
    have G1:=hideZ hown
    have GB:=hideZ hbel
    have HZ:=hideZ hz
    have hsz:=hbel.size
    clear hzl
    obtain⟨a',cap',rfl,_,_⟩:=hown.ints
    generalize hnl:(zst (l.take k)).1.length=nl at hzk G1
    have HNL:=hideZ hnl
    clear hz hown hbel hnl
    by_cases hlt:k<n
    ·have hkl:k<l.length:=by rw[<-HLN.out];exact hlt
     obtain⟨b,off,rfl,hb,hc⟩:=(HS.out.below GB.out).some (by omega)
     have ci:=hc k hkl
     have hx255:=HUP.out _ (List.getElem_mem hkl)
     obtain⟨x,hx⟩:∃ x,x=l[k]:=⟨_,rfl⟩
     have HX:=hideZ hx
     rw[<-hx]at ci hx255
     clear hc hx
     by_cases h0:x=0
     ·have HZ1:Hid (zst (l.take (k+1))=((zst (l.take k)).1,z+1)):=by
       unfold Hid
       rw[zst_zero hkl (by rw[<-HX.out];exact h0),HZ.out]
      have hbx:(x==0)=true:=beq_iff_eq.2 h0
      clear h0
      go_wp2_with fail
      go_roundw
      case rel=>exact⟨k+1,z+1,by go_num,by go_num,by omega,by rw[HZ1.out],by rw[HZ1.out];exact G1.out,GB.out⟩
      case measure=>simp[intOf];omega
     ·have HZ1:Hid (zst (l.take (k+1))=((zst (l.take k)).1++zrun z++[x+1],0)):=by
       unfold Hid
       rw[zst_other hkl (by rw[<-HX.out];exact h0),HZ.out,HX.out]
      have hbx:(x==0)=false:=beq_eq_false_iff_ne.2 h0
      have HPZ:=hideZ (putZeros_any (zst (l.take k)).1 z w.heap.size (.slice a' nl cap') wr G1.out (by omega) (by have:=HNL.out;omega))
      have hrl:=zrun_len z
      clear h0
      go_wp2_with fail
      refine HPZ.out.mono ?_
      rintro e w4 ⟨v4,rfl,hown4,hbel4⟩
      have HL4:Hid (((zst (l.take k)).1++zrun z).length<=400):=by
       unfold Hid
       rw[List.length_append,HNL.out]
       omega
      obtain⟨l4,hl4⟩:∃ l4,l4=(zst (l.take k)).1++zrun z:=⟨_,rfl⟩
      rw[<-hl4]at hown4 HZ1 HL4
      have G4:=hideZ hown4
      have B4:=hideZ (GB.out.trans hbel4)
      have z4:=hbel4.size
      obtain⟨a4,cap4,rfl,_,_⟩:=hown4.ints
      clear hown4 hbel4 hl4
      go_wp2_with (at_builtin;refine wpList_append_own _ rfl (.tmp 27) (.tmp 30) 114 rfl w.heap.size 2 i0 (.int .i64 0) 1 8 Tryz.underlying114 hi0 hz0 hz1 hz2 rfl (by decide) _ _ _ rfl (OwnI.alloc G4.out _) ⟨w4.heap.size,0,none⟩ 1 1 [.int .i64 (x+1)] rfl rfl (one_newI _ _ _) (one_cellI _) (by unfold maxLen;have:=HL4.out;omega) (by have:=HL4.out;omega) (by simp;omega) ?_)
      intro v' w5 hown' hgrow _
      have N5:=hideZ (OwnI.snoc hown')
      have b5:=hideZ (app_one B4.out (by omega) (Nat.le_refl _) G4.out hgrow)
      clear hown' hgrow
      go_wp2_with fail
      go_roundw
      case rel=>exact⟨k+1,0,by go_num,rfl,by omega,by rw[HZ1.out],by rw[HZ1.out];exact N5.out,b5.out⟩
      case measure=>simp[intOf];omega
    ·have hkn:k=l.length:=by have:=HLN.out;omega
     have HT:Hid (l.take k=l):=by
      unfold Hid
      rw[hkn,List.take_length]
     have HPZ:=hideZ (putZeros_any (zst (l.take k)).1 z w.heap.size (.slice a' nl cap') wr G1.out (by omega) (by have:=HNL.out;omega))
     rw[HT.out]at HPZ HZ
     rw[HZ.out]at HPZ ⊢
     clear hkn HZ
     go_wp2_with fail
     refine HPZ.out.mono ?_
     rintro e w4 ⟨v4,rfl,hown4,hbel4⟩
     have G4:=hideZ hown4
     have B4:=hideZ (GB.out.trans hbel4)
     clear hown4 hbel4
     go_wp2_with fail
     go_ret
     exact⟨_,rfl,G4.out,B4.out⟩
end Go.Proofs.YtkgjfdanjmnmbaaGreatDoor.Ze


namespace Go.Proofs.YtkgjfdanjmnmbaaGreatDoor.Ze
open Go.RowKit
open Bi (ret_boolB is_yes is_no)
open In (Ints OwnI IsO one_newI one_cellI app_one)
open In.Tryz (infoI2)
theorem nums_spec (l:List Int) (m:Int) (a:Option Addr) (cap B:Nat) (w:World) (hi:Ints w B a l) (hn:l.length<=1048576) :
  Calls Tryz.prog 112 #[.slice a l.length cap,.int .i64 m] w fun e w'=>e=.returned (.bool (numsR l m))/\w'=w:=by
 have HS:=hideZ hi
 clear hi
 obtain⟨n,hln⟩:∃ n,n=l.length:=⟨_,rfl⟩
 have HLN:=hideZ hln
 rw[<-hln]at hn ⊢
 clear hln
 go_enter Tryz.func112,Tryz.ntmps112
 go_wp2_with fail
 go_loopw [5] (fun i wr=>∃ k:Nat,i=.int .i64 k/\k<=n/\(∀ j (hj:j<l.length),j<k->0<=l[j]/\l[j]<=m)/\wr=w) (fun i _=>n-(intOf i).toNat)
 case atStart=>exact⟨0,rfl,Nat.zero_le _,fun j hj h0=>absurd h0 (Nat.not_lt_zero j),rfl⟩
 case round =>
  obtain⟨k,rfl,hk,hall,hw⟩:=hrel
  subst hw
  have HA:=hideZ hall
  clear hall
  by_cases hlt:k<n
  ·have hkl:k<l.length:=by rw[<-HLN.out];exact hlt
   obtain⟨b,off,rfl,hb,hc⟩:=HS.out.some (by omega)
   have ci:=hc k hkl
   obtain⟨x,hx⟩:∃ x,x=l[k]:=⟨_,rfl⟩
   have HX:=hideZ hx
   rw[<-hx]at ci
   clear hc hx
   by_cases h0:x<0∨m<x
   ·have HE:Hid (numsR l m=false):=by
     have:=upTo_bad (m:=m) hkl (by rw[<-HX.out];exact h0)
     unfold Hid numsR
     rw[this,Bool.and_false]
    have HI:=hideZ (is_no x 0 m wr h0)
    clear h0
    go_wp2_with fail
    refine HI.out.mono ?_
    rintro e w' ⟨rfl,hw⟩
    subst w'
    go_wp2_with fail
    go_ret
    exact⟨ret_boolB HE.out.symm,rfl⟩
   ·have HI:=hideZ (is_yes x 0 m wr (by omega) (by omega))
    have HX2:Hid (0<=x/\x<=m):=by
     unfold Hid
     omega
    clear h0
    go_wp2_with fail
    refine HI.out.mono ?_
    rintro e w' ⟨rfl,hw⟩
    subst w'
    go_wp2_with fail
    go_roundw
    case rel =>
     refine⟨k+1,by go_num,by omega,fun j hj hjk=>?_,trivial⟩
     by_cases e:j=k
     ·subst e
      rw[<-HX.out]
      exact HX2.out
     ·exact HA.out j hj (by omega)
    case measure=>simp[intOf];omega
  ·have HU:Hid (upTo l m=true):=upTo_of (fun x hx=>by
    obtain⟨j,hj,rfl⟩:=List.getElem_of_mem hx
    exact HA.out j hj (by have:=HLN.out;omega))
   by_cases h4:n<=400
   ·have HE:Hid (numsR l m=true):=by
     unfold Hid
     rw[numsR_of (by have:=HLN.out;omega)]
     exact HU.out
    have h4':(n:Int)<=400:=by omega
    go_wp2_with fail
    go_ret
    exact⟨ret_boolB HE.out.symm,rfl⟩
   ·have HE:Hid (numsR l m=false):=numsR_long (by have:=HLN.out;omega)
    have h4':decide ((n:Int)<=400)=false:=decide_eq_false (by omega)
    go_wp2_with fail
    go_ret
    exact⟨ret_boolB HE.out.symm,rfl⟩
theorem run_spec (r:Nat) (w:World) (hs:r<=1048576) :
  Calls Tryz.prog 186 #[.int .i64 r] w fun e w'=>∃ v,e=.returned v/\OwnI w' w.heap.size v (zrun r)/\v≠.slice none 0 0/\Below w.heap.size w w':=by
 obtain⟨i0,hi0,hz0,hz1,hz2⟩:=info_parts infoI2
 have HW:=hideZ (OwnI.empty w)
 go_enter Tryz.func186,Tryz.ntmps186
 go_wp2_with fail
 go_loopw [3,0] (fun u m wr=>∃ (l':List Int) (r':Nat),m=.int .i64 r'/\OwnI wr w.heap.size u l'/\u≠.slice none 0 0/\l'++zrun r'=zrun r/\l'.length+r'<=1048576/\Below w.heap.size w wr) (fun _ m _=>(intOf m).toNat)
 case atStart=>exact⟨[],r,rfl,HW.out,by simp,rfl,by simpa using hs,(Below.refl _ _).alloc (Nat.le_refl _) _⟩
 case round =>
  obtain⟨l',r',rfl,hown,hne,he,hs',hbel⟩:=hrel
  have G1:=hideZ hown
  have GB:=hideZ hbel
  have HE:=hideZ he
  have hz:=hbel.size
  have HS:=hideZ hs'
  have hs2:r'<=1048576:=by omega
  clear he hbel hs'
  obtain⟨a',cap',rfl,_,_⟩:=hown.ints
  have HNE:=hideZ hne
  clear hown hne
  by_cases h0:0<r'
  ·by_cases h1:r' % 2=1
   ·have hq:(r':Int).tmod 2=1:=by rw[Int.tmod_eq_emod_of_nonneg (by omega)];omega
    have hd:((r':Int)-1).tdiv 2=(((r' - 1)/2:Nat):Int):=by rw[Int.tdiv_eq_ediv_of_nonneg (by omega)];omega
    have HZ:Hid (l'++([0]++zrun ((r' - 1)/2))=zrun r):=by
     unfold Hid
     rw[<-HE.out,zrun_odd h1]
     rfl
    go_wp2_with (at_builtin;refine wpList_append_own _ rfl (.tmp 10) (.tmp 11) 114 rfl w.heap.size 2 i0 (.int .i64 0) 1 8 Tryz.underlying114 hi0 hz0 hz1 hz2 rfl (by decide) _ _ _ rfl (OwnI.alloc G1.out _) ⟨wr.heap.size,0,none⟩ 1 1 [.int .i64 0] rfl rfl (one_newI _ _ _) (one_cellI _) (by unfold maxLen;have:=HS.out;omega) (by have:=HS.out;omega) (by simp;omega) ?_)
    intro v' w5 hown' hgrow hnn
    have N5:=hideZ (OwnI.snoc hown')
    have b5:=hideZ (app_one GB.out (by omega) (Nat.le_refl _) G1.out hgrow)
    have HN5:Hid (v'≠.slice none 0 0):=hnn
    clear hown' hgrow hnn
    go_wp2_with fail
    go_roundw
    case rel=>exact⟨l'++[0],(r' - 1)/2,by go_num,N5.out,HN5.out,by rw[List.append_assoc];exact HZ.out,by have:=HS.out;simp;omega,b5.out⟩
    case measure=>simp[intOf];omega
   ·have hq:(r':Int).tmod 2=0:=by rw[Int.tmod_eq_emod_of_nonneg (by omega)];omega
    have hd:((r':Int)-2).tdiv 2=(((r' - 2)/2:Nat):Int):=by rw[Int.tdiv_eq_ediv_of_nonneg (by omega)];omega
    have HZ:Hid (l'++([1]++zrun ((r' - 2)/2))=zrun r):=by
     unfold Hid
     rw[<-HE.out,zrun_even h0 h1]
     rfl
    go_wp2_with (at_builtin;refine wpList_append_own _ rfl (.tmp 16) (.tmp 17) 114 rfl w.heap.size 2 i0 (.int .i64 0) 1 8 Tryz.underlying114 hi0 hz0 hz1 hz2 rfl (by decide) _ _ _ rfl (OwnI.alloc G1.out _) ⟨wr.heap.size,0,none⟩ 1 1 [.int .i64 1] rfl rfl (one_newI _ _ _) (one_cellI _) (by unfold maxLen;have:=HS.out;omega) (by have:=HS.out;omega) (by simp;omega) ?_)
    intro v' w5 hown' hgrow hnn
    have N5:=hideZ (OwnI.snoc hown')
    have b5:=hideZ (app_one GB.out (by omega) (Nat.le_refl _) G1.out hgrow)
    have HN5:Hid (v'≠.slice none 0 0):=hnn
    clear hown' hgrow hnn
    go_wp2_with fail
    go_roundw
    case rel=>exact⟨l'++[1],(r' - 2)/2,by go_num,N5.out,HN5.out,by rw[List.append_assoc];exact HZ.out,by have:=HS.out;simp;omega,b5.out⟩
    case measure=>simp[intOf];omega
  ·obtain rfl:r'=0:=by omega
   have HZ:Hid (l'=zrun r):=by
    unfold Hid
    rw[<-HE.out,zrun_zero,List.append_nil]
   go_wp2_with fail
   go_ret
   exact⟨_,rfl,by rw[<-HZ.out];exact G1.out,HNE.out,GB.out⟩
theorem own_some {w:World} {base:Nat} {v:Value} {l:List Int} (h:OwnI w base v l) (hn:v≠.slice none 0 0) :
  ∃ g cap,v=.slice (some ⟨g,0,none⟩) l.length cap/\base<=g/\g<w.heap.size/\IsO w g 2 l:=by
 rcases h.split with⟨rfl,_⟩|⟨g,cap,rfl,hg,_,ho⟩
 ·exact absurd rfl hn
 ·exact⟨g,cap,rfl,hg,ho.lt,ho⟩
theorem own_news {w:World} {g:Nat} {l:List Int} (h:IsO w g 2 l):∀ (j:Nat) (u:Value),(l.map (Value.int .i64))[j]? = some u->w.cell? ((⟨g,0,none⟩:Addr).add j)=some u:=by
 intro j u hj
 rw[List.getElem?_map]at hj
 cases hl:l[j]? with
 |none=>rw[hl]at hj;cases hj
 |some x =>
  rw[hl]at hj
  obtain⟨hlt,hx⟩:=List.getElem?_eq_some_iff.1 hl
  have hadd:(⟨g,0,none⟩:Addr).add j=⟨g,j,none⟩:=by unfold Addr.add;split<;>simp_all
  rw[hadd,h.cell hlt,hx]
  exact hj
theorem own_cells (l:List Int):∀ u∈l.map (Value.int .i64),u.oneCell'=true:=by
 intro u hu
 obtain⟨x,_,rfl⟩:=List.mem_map.1 hu
 rfl
theorem OwnI.joined {w:World} {base:Nat} {v:Value} {l p:List Int} (h:w.ownsRow base 2 1 v (l.length+p.length) (l.map (Value.int .i64)++p.map (Value.int .i64))):OwnI w base v (l++p):=by
 unfold OwnI
 rw[List.length_append,List.map_append]
 exact h
theorem app_row {B base:Nat} {e:TypeId} {w0 w w1:World} {v:Value} {n size:Nat} {xs:List Value} (hbel:Below B w0 w) (hB:B<=w.heap.size) (hBb:B<=base)
  (hown:w.ownsRow base e size v n xs) (hgrow:w.grownBy w1 v.ownBlock):Below B w0 w1:=by
 refine hbel.grown hgrow hB ?_
 intro k hk
 exact Nat.le_trans hBb (hown.lt k hk).1
end Go.Proofs.YtkgjfdanjmnmbaaGreatDoor.Ze


/- A row of numbers that make has just made. -/
namespace Go.Proofs.YtkgjfdanjmnmbaaGreatDoor.Sh
open Go.RowKit
theorem made_zerosK (k:IntKind) (n:Nat):(madeCells (Value.int k 0).cells (n*1)).toList=(rowF k n (fun _=>0)).toList:=by
 apply List.ext_getElem?
 intro i
 by_cases hi:i<n
 ·simp[madeCells,rowF,hi,Value.cells,Nat.mod_one]
 ·simp[madeCells,rowF,hi,Value.cells]
theorem made_rowK {k:IntKind} {w:World} {base e g n:Nat} (h:w.ownsRow base e 1 (.slice (some ⟨g,0,none⟩) n n) n (madeCells (Value.int k 0).cells (n*1)).toList):IsB w g e k n (fun _=>0):=by
 obtain⟨_,h⟩:=h
 rcases h with⟨h,_⟩|⟨g',cap,cur,hv,_,hb,_,_,hsz,htk⟩
 ·simp at h
 ·simp at hv
  obtain⟨rfl,rfl⟩:=hv
  rw[made_zerosK,List.take_of_length_le (by simp[hsz])]at htk
  have:cur=rowF k n (fun _=>0):=by simpa using htk
  rw[this]at hb
  exact hb
theorem own_cells {w:World} {base e n:Nat} {v:Value} {k:IntKind} {f:Nat->Int} (hn:0<n) (h:w.ownsRow base e 1 v n (rowF k n f).toList) :
  ∃ g c,v=.slice (some ⟨g,0,none⟩) n c/\base<=g/\g<w.heap.size/\∀ j,j<n->w.cell? ⟨g,j,none⟩=some (.int k (f j)):=by
 obtain⟨_,h⟩:=h
 rcases h with⟨_,h⟩|⟨g,cap,cur,hv,hg,hb,hnc,_,hsz,htk⟩
 ·omega
 ·refine⟨g,cap,hv,hg,(Array.getElem?_eq_some_iff.1 hb).1,fun j hj=>?_⟩
  rw[cell_of_row w g j cur e (0,0) hb]
  have h1:cur.toList[j]? = (cur.toList.take (n*1))[j]?:=by rw[List.getElem?_take_of_lt (by omega)]
  rw[<-Array.getElem?_toList,h1,htk,Array.getElem?_toList]
  exact rowF_get k n f j hj
theorem rowF_snoc (k:IntKind) (n:Nat) (f:Nat->Int):(rowF k n f).toList++[.int k (f n)]=(rowF k (n+1) f).toList:=by
 simp[rowF,List.range_succ]
theorem byte_at (t:ByteArray) (j:Nat) (h:j<t.size):∃ y:UInt8,t[j]=y/\y.toNat=bt t j:=⟨t[j],rfl,bt_get t j h⟩
theorem word_spec (B:Nat->Nat) (k:Nat) (y0 y1 y2 y3:Nat) (h0:y0=B (4*k)) (h1:y1=B (4*k+1)) (h2:y2=B (4*k+2)) (h3:y3=B (4*k+3)) (hB:∀ j,B j<256) :
  bits BinOp.or IntKind.u32 (bits BinOp.or IntKind.u32 (bits BinOp.or IntKind.u32 ((y0:Int)*16777216) ((y1:Int)*65536))
   ((y2:Int)*256)) (y3:Int)=((word B k:Nat):Int):=by
 have b0:=hB (4*k)
 have b1:=hB (4*k+1)
 have b2:=hB (4*k+2)
 have b3:=hB (4*k+3)
 rw[<-h0]at b0
 rw[<-h1]at b1
 rw[<-h2]at b2
 rw[<-h3]at b3
 rw[show (y0:Int)*16777216=((y0*16777216:Nat):Int) by simp,show (y1:Int)*65536=((y1*65536:Nat):Int) by simp,show (y2:Int)*256=((y2*256:Nat):Int) by simp]
 rw[u32_or_nat _ _ (by omega) (by omega),nat_join 24 (y0*16777216) (y1*65536) (by omega) (by omega),
  u32_or_nat _ _ (by omega) (by omega),nat_join 16 (y0*16777216+y1*65536) (y2*256) (by omega) (by omega),
  u32_or_nat _ _ (by omega) (by omega),nat_join 8 (y0*16777216+y1*65536+y2*256) y3 (by omega) (by omega)]
 simp only[word,part,Nat.add_zero,<-h0,<-h1,<-h2,<-h3]
 omega
end Go.Proofs.YtkgjfdanjmnmbaaGreatDoor.Sh


namespace Go.Proofs.YtkgjfdanjmnmbaaGreatDoor.Fr
open Go.RowKit
open Sh (IsB rowF upd rowF_size rowF_get rowF_one rowF_congr results_row below_row row_size upd_same upd_other)
open Ze (hideZ)
open St (Aft)
theorem Tryz.zeroA191:(Tryz.prog.info? 191).bind (·.zero)=some (.agg (rowF .u8 256 fun _=>0)):=by kernel_rfl
theorem Tryz.sizeA191:(Tryz.prog.info? 191).map (·.size)=some 256:=by kernel_rfl
theorem Tryz.sizeB5:(Tryz.prog.info? 5).map (·.size)=some 1:=by kernel_rfl
theorem wpList_alloc_row {P:Program} {w:World} {ops:Array Oper} {rest:List Oper} {a:Act} {Q:Exit->Act->World->Prop} {d:Tmp} {ty tt:TypeId} {pos:String} {af:Array Edge}
  {k:IntKind} {n:Nat} (hz:(P.info? ty).bind (·.zero)=some (.agg (rowF k n fun _=>0)))
  (h:∀ w',IsB w' w.heap.size ty k n (fun _=>0)->(∀ B,B<=w.heap.size->Below B w w')->w'.heap.size=w.heap.size+1->(∀ j,j<w.heap.size->w'.heap[j]? = w.heap[j]?)->wpList P ops Q rest (a.put (some d) (.pointer (some ⟨w.heap.size,0,none⟩))) w') :
  wpList P ops Q (⟨some d,.alloc ty,tt,pos,af,none⟩ :: rest) a w:=by
 refine wpList_plain rfl fun K hK=>?_
 obtain⟨i,hi,hzi⟩:∃ i,P.info? ty=some i/\i.zero=some (.agg (rowF k n fun _=>0)):=by
  cases hi:P.info? ty with
  |none=>rw[hi]at hz;cases hz
  |some i=>exact⟨i,rfl,by rw[hi]at hz;exact hz⟩
 have hl:(Instr.alloc ty true (.tuple #[])).run P w=.ok (.pointer (some ⟨w.heap.size,0,none⟩)) (w.alloc (.cells (rowF k n fun _=>0) ty)):=by
  simp[Instr.alloc,zeroValue,typeInfo,hi,hzi,newVar,newRow,Value.cells]
 unfold Oper.wp
 simp[execOp,hl,Result.andThen]
 exact hK _ _ (h _ (IsB.new w ty k n _) (fun B hB=>(Below.refl B w).alloc hB _) (by simp) (fun j hj=>Below.heap_alloc w _ j hj))
def copyF (f:Nat->Int) (p:Nat):Nat->Int:=fun j=>if j=0 then f 0 else if j<=p then f (j-1) else f j
theorem copy_front (f:Nat->Int) (p j:Nat):upd (copyF f p) 0 (f p) j=front f p j:=by
 unfold upd copyF front
 by_cases h:j=0
 ·rw[if_pos h,if_pos h]
 ·rw[if_neg h,if_neg h,if_neg h]
theorem copy_row (f:Nat->Int) (p:Nat) (hp:p<256) :
  ((rowF .u8 256 f).toList.take 1++(List.range p).map (fun j=>Value.int .u8 (f j))++(rowF .u8 256 f).toList.drop (1+((List.range p).map (fun j=>Value.int .u8 (f j))).length)).toArray=rowF .u8 256 (copyF f p):=by
 rw[List.append_assoc]
 apply Array.ext'
 apply List.ext_getElem?
 intro j
 simp only[rowF,List.length_map,List.length_range]
 by_cases h0:j=0
 ·subst h0
  rw[List.getElem?_append_left (by simp)]
  simp[copyF]
 ·rw[List.getElem?_append_right (by simp;omega)]
  simp only[List.length_take,List.length_map,List.length_range]
  rw[show j-min 1 256=j-1 by omega]
  by_cases h1:j<=p
  ·rw[List.getElem?_append_left (by simp;omega)]
   have:j<256:=by omega
   have h2:j-1<p:=by omega
   simp[copyF,h0,h1,h2,this]
  ·rw[List.getElem?_append_right (by simp;omega),List.getElem?_drop]
   simp only[List.length_map,List.length_range]
   rw[show 1+p+(j-1-p)=j by omega]
   by_cases h2:j<256
   ·simp[copyF,h0,h1,h2]
   ·simp[h2]
theorem run_copy_up {P:Program} (w:World) (dT sT ty elem:TypeId) (hu:P.underlying dT=some (.slice elem)) (hsz:(P.info? elem).map (·.size)=some 1)
  (g p dCap sCap:Nat) (t:TypeId) (f:Nat->Int) (hp:p<256) (hb:IsB w g t .u8 256 f) :
  ∃ w',(Builtin.copy_ #[dT,sT] ty #[.slice (some ⟨g,1,none⟩) 255 dCap,.slice (some ⟨g,0,none⟩) p sCap]).run P w=.ok (goInt p) w'/\IsB w' g t .u8 256 (copyF f p)/\Aft g w w':=by
 have hrun:=run_copy_row (P:=P) w dT sT ty elem g 1 255 dCap ⟨g,0,none⟩ p sCap (rowF .u8 256 f) t ((List.range p).map (fun j=>Value.int .u8 (f j))) hu hsz hb (by simp[Nat.min_def];omega)
  (fun j v hv=>by
   have hadd:(⟨g,0,none⟩:Addr).add j=⟨g,j,none⟩:=by unfold Addr.add;split<;>simp_all
   rw[hadd]
   rw[List.getElem?_map]at hv
   by_cases hj:j<p
   ·rw[List.getElem?_range hj]at hv
    rw[hb.cell (by omega)]
    exact hv
   ·rw[List.getElem?_eq_none (by simpa using hj)]at hv
    cases hv)
  (by rw[rowF_size];simp;omega) (fun v hv=>by
   obtain⟨j,_,rfl⟩:=List.mem_map.1 hv
   rfl)
 rw[copy_row f p hp,List.length_map,List.length_range]at hrun
 exact⟨_,hrun,hb.row _,rfl,rfl,rfl,by simp[World.setRow],fun k hk hg=>setRow_other w g k _ hg⟩
theorem bring_impl (g p:Nat) (t:TypeId) (f:Nat->Int) (w:World) (hb:IsB w g t .u8 256 f) (hp:p<256) :
  Calls Tryz.prog 139 #[.pointer (some ⟨g,0,none⟩),.int .i64 p] w fun e w'=>e=.returned (.tuple #[])/\IsB w' g t .u8 256 (front f p)/\Aft g w w':=by
 have c0:=hb.cell hp
 have HB:=hideZ hb
 have HA:=hideZ (Aft.refl g w)
 obtain⟨x,hx⟩:∃ x,x=f p:=⟨_,rfl⟩
 have HX:=hideZ hx
 rw[<-hx]at c0
 clear hx hb
 go_enter Tryz.func139,Tryz.ntmps139
 go_wp2_with fail
 have hp1:(p:Int)<=256:=by omega
 have hp2:¬(p:Int)<0:=by omega
 have hp3:¬(256:Int)<(p:Int):=by omega
 obtain⟨W4,hcp,hb4,ha4⟩:=run_copy_up (P:=Tryz.prog) w.drew 87 87 3 5 Tryz.underlying87 Tryz.sizeB5 g p 255 256 t f hp (HB.out.of_heap rfl)
 have HB4:=hideZ hb4
 have HA4:Hid (Aft g w W4):=⟨ha4.1,ha4.2.1,ha4.2.2.1,ha4.2.2.2.1,ha4.2.2.2.2⟩
 clear hb4 ha4
 have c1:=HB4.out.cell (j:=0) (by omega)
 have f1:=HB4.out.frozen 0
 have HF:=hideZ (HB4.out.set 0 x)
 go_region
 go_wp2_with fail
 refine bodyPost_end (v:=.tuple #[]) (by simp[results,Tryz.results139,go_sem]) rfl ⟨rfl,HF.out.congr (fun j _=>?_),HA4.out.set 0 _⟩
 rw[HX.out]
 exact copy_front f p j
def rise (k:Nat):Nat->Int:=fun j=>if j<k then (j:Int) else 0
theorem rise_next (k j:Nat):upd (rise k) k (k:Int) j=rise (k+1) j:=by
 unfold upd rise
 by_cases e:j=k
 ·subst e;rw[if_pos rfl,if_pos (by omega)]
 ·rw[if_neg e]
  by_cases h:j<k
  ·rw[if_pos h,if_pos (by omega)]
  ·rw[if_neg h,if_neg (by omega)]
theorem rise_all (j:Nat) (h:j<256):rise 256 j=row0 j:=if_pos h
theorem rising_impl (w:World) :
  Calls Tryz.prog 138 #[] w fun e w'=>e=.returned (.agg (rowF .u8 256 row0))/\Below w.heap.size w w':=by
 go_enter Tryz.func138,Tryz.ntmps138
 go_wp2_with ((with_reducible refine wpList_alloc_row Tryz.zeroA191 ?_);intro w1 hb1 hbel1 hs1 ho1)
 rename_i w0 hb0 hbel0 hs0 ho0 K0 a0
 have HB1:=hideZ hb1
 have HB0:=hideZ (hb0.of_heap (ho1 w.heap.size (by omega)))
 have HBel:=hideZ ((hbel0 w.heap.size (Nat.le_refl _)).trans (hbel1 w.heap.size (by omega)))
 rw[hs0]at HB1 hs1
 clear hb1 hbel1 ho1 hb0 hbel0 ho0
 go_loopw [3] (fun i wr=>∃ k:Nat,i=.int .i64 k/\k<=256/\IsB wr (w.heap.size+1) 191 .u8 256 (rise k)/\IsB wr w.heap.size 191 .u8 256 (fun _=>0)/\Below w.heap.size w wr) (fun i _=>256-(intOf i).toNat)
 case atStart=>exact⟨0,rfl,by omega,HB1.out.congr (fun j _=>by unfold rise;rw[if_neg (by omega)]),HB0.out,HBel.out⟩
 case round =>
  obtain⟨k,rfl,hk,h1,h0,hbel⟩:=hrel
  have G1:=hideZ h1
  have G0:=hideZ h0
  have GB:=hideZ hbel
  by_cases hlt:k<256
  ·have ck:=h1.cell (j:=k) hlt
   have fk:=h1.frozen k
   have hwr:((k:Int))%256=(k:Int):=by omega
   have HN:=hideZ (h1.set k (k:Int))
   clear h1 h0 hbel
   go_wp2_with fail
   go_roundw
   case rel=>exact⟨k+1,by go_num,by omega,HN.out.congr (fun j _=>rise_next k j),G0.out.set_other _ _ (by simp),GB.out.setCell (by simp) _⟩
   case measure=>simp[intOf];omega
  ·obtain rfl:k=256:=by omega
   have G2:=hideZ (h1.congr (fun j hj=>rise_all j hj))
   clear h1 h0 hbel
   go_wp2_with (first|((with_reducible refine Sh.wpList_load_row G2.out Tryz.underlying191 Tryz.sizeA191 ?_ ?_);(· rfl))|((with_reducible refine Sh.wpList_store_row G0.out Tryz.sizeA191 row0 ?_ ?_ ?_);(· rfl);(· rfl)))
   exact bodyPost_ret (v:=.agg (rowF .u8 256 row0)) (results_row rfl _ rfl (G0.out.row _) Tryz.underlying191 Tryz.sizeA191) rfl ⟨rfl,below_row GB.out (Nat.le_refl _) _⟩
end Go.Proofs.YtkgjfdanjmnmbaaGreatDoor.Fr


namespace Go.Proofs.YtkgjfdanjmnmbaaGreatDoor.Fr
open Go.RowKit
open Sh (IsB rowF upd made_row upd_same upd_other)
open Ze (hideZ)
open St (Aft)
theorem row_spec (w:World) :
  Calls Tryz.prog 111 #[] w fun e w'=>e=.returned (.slice (some ⟨w.heap.size,0,none⟩) 256 256)/\IsB w' w.heap.size 5 .u8 256 row0/\Below w.heap.size w w':=by
 obtain⟨i0,hi,hz0,hz1,hz2⟩:=info_parts Nu.Tryz.infoJ5
 go_enter Tryz.func111,Tryz.ntmps111
 go_wp2_with (at_make;refine wpList_make_full _ rfl (.const (.int .i64 256)) (.const (.int .i64 256)) 87 rfl w.heap.size 5 i0 (.int .u8 0) 1 Tryz.underlying87 hi hz0 hz1 .i64 .i64 _ _ 256 rfl rfl (by simp) (by simp) (by rw[hz2];omega) (by unfold maxLen;omega) (Nat.le_refl _) ?_;intro w1 hown1 hgrow1;have HR:=hideZ (made_row hown1);have HB:=hideZ ((Below.refl w.heap.size w).grown hgrow1 (Nat.le_refl _) (by simp));clear hown1 hgrow1)
 go_loopw [2] (fun i wr=>∃ k:Nat,i=.int .i64 k/\k<=256/\IsB wr w.heap.size 5 .u8 256 (rise k)/\Below w.heap.size w wr) (fun i _=>256-(intOf i).toNat)
 case atStart=>exact⟨0,rfl,by omega,HR.out.congr (fun j _=>by unfold rise;rw[if_neg (by omega)]),HB.out⟩
 case round =>
  obtain⟨k,rfl,hk,h1,hbel⟩:=hrel
  have G1:=hideZ h1
  have GB:=hideZ hbel
  by_cases hlt:k<256
  ·have ck:=h1.cell (j:=k) hlt
   have fk:=h1.frozen k
   have hwr:((k:Int))%256=(k:Int):=by omega
   have HN:=hideZ (h1.set k (k:Int))
   clear h1 hbel
   go_wp2_with fail
   go_roundw
   case rel=>exact⟨k+1,by go_num,by omega,HN.out.congr (fun j _=>rise_next k j),GB.out.setCell (by simp) _⟩
   case measure=>simp[intOf];omega
  ·obtain rfl:k=256:=by omega
   have G2:=hideZ (h1.congr (fun j hj=>rise_all j hj))
   clear h1 hbel
   go_wp2_with fail
   go_ret
   exact⟨rfl,G2.out,GB.out⟩
def downF (f:Nat->Int) (p k:Nat):Nat->Int:=fun j=>if k<j/\j<=p then f (j-1) else f j
theorem down_start (f:Nat->Int) (p j:Nat):downF f p p j=f j:=by
 unfold downF
 rw[if_neg (by omega)]
theorem down_next (f:Nat->Int) (p k j:Nat) (h:k+1<=p):upd (downF f p (k+1)) (k+1) (f k) j=downF f p k j:=by
 unfold upd downF
 by_cases e:j=k+1
 ·subst e
  rw[if_pos rfl,if_pos (by omega)]
  rfl
 ·rw[if_neg e]
  by_cases h2:k+1<j/\j<=p
  ·rw[if_pos h2,if_pos (by omega)]
  ·rw[if_neg h2,if_neg (by omega)]
theorem down_at (f:Nat->Int) (p k:Nat):downF f p (k+1) k=f k:=by
 unfold downF
 rw[if_neg (by omega)]
theorem down_front (f:Nat->Int) (p j:Nat):upd (downF f p 0) 0 (f p) j=front f p j:=by
 unfold upd downF front
 by_cases h:j=0
 ·rw[if_pos h,if_pos h]
 ·rw[if_neg h,if_neg h]
  by_cases h2:j<=p
  ·rw[if_pos (by omega),if_pos h2]
  ·rw[if_neg (by omega),if_neg h2]
theorem front_spec (g p c:Nat) (t:TypeId) (f:Nat->Int) (w:World) (hb:IsB w g t .u8 256 f) (hp:p<256) :
  Calls Tryz.prog 113 #[.slice (some ⟨g,0,none⟩) 256 c,.int .i64 p] w fun e w'=>e=.returned (.tuple #[])/\IsB w' g t .u8 256 (front f p)/\Aft g w w':=by
 have c0:=hb.cell hp
 have HB:=hideZ hb
 have HA:=hideZ (Aft.refl g w)
 obtain⟨x,hx⟩:∃ x,x=f p:=⟨_,rfl⟩
 have HX:=hideZ hx
 rw[<-hx]at c0
 clear hx hb
 go_enter Tryz.func113,Tryz.ntmps113
 go_wp2_with fail
 go_loopw [1] (fun i wr=>∃ k:Nat,i=.int .i64 k/\k<=p/\IsB wr g t .u8 256 (downF f p k)/\Aft g w wr) (fun i _=>(intOf i).toNat)
 case atStart=>exact⟨p,rfl,Nat.le_refl _,HB.out.congr (fun j _=>(down_start f p j).symm),HA.out⟩
 case round =>
  obtain⟨k,rfl,hk,h1,ha⟩:=hrel
  have G1:=hideZ h1
  have GA:=hideZ ha
  cases k with
  |zero =>
   have c1:=h1.cell (j:=0) (by omega)
   have f1:=h1.frozen 0
   have HF:=hideZ (h1.set 0 x)
   clear h1 ha
   go_wp2_with fail
   refine bodyPost_end (v:=.tuple #[]) (by simp[results,Tryz.results113,go_sem]) rfl ⟨rfl,HF.out.congr (fun j _=>?_),GA.out.set 0 _⟩
   rw[HX.out]
   exact down_front f p j
  |succ k =>
   have c1:=h1.cell (j:=k) (by omega)
   have c2:=h1.cell (j:=k+1) (by omega)
   have f1:=h1.frozen (k+1)
   obtain⟨y,hy⟩:∃ y,y=f k:=⟨_,rfl⟩
   rw[down_at,<-hy]at c1
   have HF:Hid (IsB (wr.setCell ⟨g,k+1,none⟩ (.int .u8 y)) g t .u8 256 (downF f p k)):=by
    have:=(h1.set (k+1) y).congr (f':=downF f p k) (fun j _=>by rw[hy];exact down_next f p k j hk)
    exact this
   have e1:((k+1:Nat):Int)=(k:Int)+1:=by omega
   have e2:((k:Int)+1).toNat=k+1:=by omega
   rw[e1]
   clear h1 ha hy e1
   go_wp2_with fail
   go_roundw
   case rel=>exact⟨k,by go_num,by omega,HF.out,GA.out.set (k+1) _⟩
   case measure=>simp[intOf]
end Go.Proofs.YtkgjfdanjmnmbaaGreatDoor.Fr


namespace Go.Proofs.YtkgjfdanjmnmbaaGreatDoor.Fr
open Go.RowKit
open Sh (IsB rowF upd made_row upd_same upd_other strF)
open Ze (hideZ numsR upTo upTo_yes numsR_of numsR_long numsR_yes nums_spec)
open Bi (upTo_impl)
open St (Aft)
open In (Ints)
open Nu (ret_strJ bv own_string app_below)
def fillB (b:List UInt8):Nat->Nat:=fun j=>(b.getD j 0).toNat
theorem fillB_lt (b:List UInt8) (j:Nat):fillB b j<256:=UInt8.toNat_lt _
theorem fillB_next (b:List UInt8) (k:Nat) (x:Int) (hk:b.length=k) (h0:0<=x) (h1:x<256) (j:Nat) :
  upd (fun j=>((fillB b j:Nat):Int)) k x j=((fillB (b++[UInt8.ofNat x.toNat]) j:Nat):Int):=by
 unfold upd fillB
 subst hk
 by_cases e:j=b.length
 ·subst e
  rw[if_pos rfl,List.getD_eq_getElem?_getD,List.getElem?_append_right (Nat.le_refl _)]
  simp
  omega
 ·rw[if_neg e]
  simp only[List.getD_eq_getElem?_getD]
  by_cases h:j<b.length
  ·rw[List.getElem?_append_left h]
  ·rw[List.getElem?_eq_none (by omega),List.getElem?_eq_none (by simp;omega)]
theorem fillB_all (b:List UInt8):strF b.length (fillB b)=⟨b.toArray⟩:=by
 unfold strF
 congr 1
 congr 1
 apply List.ext_getElem
 ·simp
 ·intro i h1 h2
  have h3:i<b.length:=by simpa using h1
  simp[fillB,List.getD_eq_getElem?_getD,List.getElem?_eq_getElem h3]
theorem frontBack_impl (l:List Int) (a:Option Addr) (cap B:Nat) (w:World) (hi:Ints w B a l) (hB:B<=w.heap.size) (hn:l.length<=1048576) :
  Calls Tryz.prog 132 #[.slice a l.length cap] w fun e w'=>e=.returned (.string ⟨(fbackR l).toArray⟩)/\Below w.heap.size w w':=by
 obtain⟨i0,hi0,hz0,hz1,hz2⟩:=info_parts Nu.Tryz.infoJ5
 by_cases hlong:400<l.length
 ·rw[fbackR_no (numsR_long hlong)]
  clear hi
  generalize l.length=n at hlong hn ⊢
  go_enter Tryz.func132,Tryz.ntmps132
  go_wp2_with fail
  go_ret
  exact⟨rfl,Below.refl _ _⟩
 ·have HU:=hideZ (upTo_impl l 255 a cap B w hi hn)
  cases hu:upTo l 255 with
  |false =>
   rw[fbackR_no ((numsR_of (by omega)).trans hu)]
   rw[hu]at HU
   clear hi hu
   generalize l.length=n at HU hlong hn ⊢
   have hd:decide (400<(n:Int))=false:=decide_eq_false (by omega)
   go_enter Tryz.func132,Tryz.ntmps132
   go_wp2_with fail
   refine HU.out.mono ?_
   rintro e w' ⟨rfl,hw⟩
   subst w'
   go_wp2_with fail
   go_ret
   exact⟨rfl,Below.refl _ _⟩
  |true =>
   rw[fbackR_yes ((numsR_of (by omega)).trans hu)]
   have HUP:=hideZ (upTo_yes hu)
   rw[hu]at HU
   have HS:=hideZ (hi.mono hB)
   clear hi hu
   obtain⟨n,hln⟩:∃ n,n=l.length:=⟨_,rfl⟩
   have HLN:=hideZ hln
   rw[<-hln]at HU hlong ⊢
   clear hln hn
   have hd:decide (400<(n:Int))=false:=decide_eq_false (by omega)
   go_enter Tryz.func132,Tryz.ntmps132
   go_wp2_with fail
   refine HU.out.mono ?_
   rintro e w' ⟨rfl,hw⟩
   subst w'
   go_wp2_with fail
   refine(rising_impl w).mono ?_
   rintro e w1 ⟨rfl,hb1⟩
   have HB1:=hideZ hb1
   have z1:=hb1.size
   clear hb1
   go_wp2_with (first|((with_reducible refine wpList_alloc_row Tryz.zeroA191 ?_);intro w2 hb2 hbel2 hs2 ho2;have G2:=hideZ hb2;have HB2:=hideZ (HB1.out.trans (hbel2 _ z1));clear hb2 hbel2 ho2)|((with_reducible refine Sh.wpList_store_row' G2.out Tryz.sizeA191 row0 ?_ ?_ ?_);(· rfl);(· rfl);intro w3 hb3 hbel3 hs3 ho3;have G3:=hideZ hb3;have HB3:=hideZ (HB2.out.trans (hbel3 _ z1));clear hb3 hbel3 ho3)|(at_make;refine wpList_make_full _ rfl (.tmp 17) (.tmp 17) 87 rfl w3.heap.size 5 i0 (.int .u8 0) 1 Tryz.underlying87 hi0 hz0 hz1 .i64 .i64 _ _ n rfl rfl (by simp) (by simp) (by rw[hz2];omega) (by unfold maxLen;omega) (Nat.le_refl _) ?_;intro w4 hown4 hgrow4;have HR4:=hideZ (made_row hown4);have hb4:=(Below.refl w3.heap.size w3).grown hgrow4 (Nat.le_refl _) (by simp);have G4:=hideZ (G3.out.below hb4 (by omega));have HB4:=hideZ (HB3.out.trans (hb4.mono (by omega)));clear hown4 hgrow4 hb4))
   obtain⟨g1,hg1⟩:∃ g1,g1=w1.heap.size:=⟨_,rfl⟩
   have e3:w3.heap.size=w1.heap.size+1:=by omega
   rw[e3]at HR4
   have hgw:w.heap.size<=g1:=by omega
   rw[<-hg1]at G4 HR4 ⊢
   obtain⟨g2,hg2⟩:∃ g2,g2=g1+1:=⟨_,rfl⟩
   have hg12:g1<g2:=by omega
   rw[<-hg2]at HR4 ⊢
   clear e3
   clear hg1 hg2 hs2 hs3 z1 HU
   go_loopw [21] (fun i wr=>∃ k:Nat,i=.int .i64 k/\k<=n/\IsB wr g1 191 .u8 256 (kst (l.take k)).2/\IsB wr g2 5 .u8 n (fun j=>((fillB (kst (l.take k)).1 j:Nat):Int))/\Below w.heap.size w wr) (fun i _=>n-(intOf i).toNat)
   case atStart=>exact⟨0,rfl,Nat.zero_le _,G4.out,HR4.out.congr (fun j _=>by simp[fillB,kst]),HB4.out⟩
   case round =>
    obtain⟨k,rfl,hk,hrow,htxt,hbel⟩:=hrel
    obtain⟨hfull,hlen⟩:=kst_full l HUP.out k (by have:=HLN.out;omega)
    have R1:=hideZ hrow
    have T1:=hideZ htxt
    have GB:=hideZ hbel
    clear hbel
    by_cases hlt:k<n
    ·have hkl:k<l.length:=by rw[<-HLN.out];exact hlt
     obtain⟨b,off,rfl,hb,hc⟩:=(HS.out.below GB.out).some (by omega)
     have ci:=hc k hkl
     have hx255:=HUP.out _ (List.getElem_mem hkl)
     have HM:=hideZ (kst_more hkl)
     obtain⟨x,hx⟩:∃ x,x=l[k]:=⟨_,rfl⟩
     rw[<-hx]at ci hx255 HM
     obtain⟨p,rfl⟩:∃ p:Nat,x=p:=⟨x.toNat,by omega⟩
     have hp:p<256:=by omega
     have hfp:=hfull.2 p hp
     rw[Int.toNat_natCast]at HM
     obtain⟨f,hf⟩:∃ f,f=(kst (l.take k)).2:=⟨_,rfl⟩
     obtain⟨bs,hbs⟩:∃ bs,bs=(kst (l.take k)).1:=⟨_,rfl⟩
     rw[<-hf]at R1 HM hrow hfp
     rw[<-hbs]at T1 HM hlen htxt
     have c1:=hrow.cell (j:=p) hp
     have c2:=htxt.cell (j:=k) hlt
     have f2:=htxt.frozen k
     obtain⟨y,hy⟩:∃ y,y=f p:=⟨_,rfl⟩
     have HY:=hideZ hy
     rw[<-hy]at c1 hfp
     have HT2:=hideZ ((htxt.set k y).congr (fun j _=>fillB_next bs k y hlen hfp.1 hfp.2 j))
     have HR2:=hideZ (hrow.set_other ⟨g2,k,none⟩ (.int .u8 y) (by simp;omega))
     have HBr:=hideZ (bring_impl g1 p 191 f _ HR2.out hp)
     rw[<-hy]at HM
     clear hc hx hf hbs hrow htxt hfull hlen hy
     go_wp2_with fail
     refine HBr.out.mono ?_
     rintro e w5 ⟨rfl,hb5,ha5⟩
     have G5:=hideZ hb5
     have T5:=hideZ (HT2.out.of_heap (ha5.2.2.2.2 g2 HT2.out.lt (by omega)))
     have B5:=hideZ (Aft.below (GB.out.setCell (p:=⟨g2,k,none⟩) (by simp;omega) (.int .u8 y)) ha5 (by omega) (by have:=HT2.out.lt;omega))
     clear hb5 ha5
     go_wp2_with fail
     go_roundw
     case rel=>exact⟨k+1,by go_num,by omega,by rw[HM.out];exact G5.out,by rw[HM.out];exact T5.out,B5.out⟩
     case measure=>simp[intOf];omega
    ·obtain rfl:k=n:=by omega
     have HT:Hid (l.take k=l):=by
      unfold Hid
      rw[HLN.out,List.take_length]
     rw[HT.out]at htxt hlen
     have hcv:=htxt.str (P:=Tryz.prog) (src:=87) (dst:=9) k k (Nat.le_refl _) (fun j _=>fillB_lt _ j) Tryz.underlying87 Tryz.underlying5 Tryz.underlying9
     have HF:Hid (strF k (fillB (kst l).1)=⟨(kst l).1.toArray⟩):=by
      unfold Hid
      rw[<-hlen]
      exact fillB_all _
     rw[HF.out]at hcv
     clear hrow htxt hfull hlen
     go_wp2_with fail
     go_ret
     exact⟨rfl,GB.out⟩
end Go.Proofs.YtkgjfdanjmnmbaaGreatDoor.Fr


namespace Go.Proofs.YtkgjfdanjmnmbaaGreatDoor.Ze
open Go.RowKit
open Bi (upTo_impl)
open In (Ints OwnI IsO one_newI one_cellI app_one)
open In.Tryz (infoI2)
theorem OwnI.zeros {w:World} {base:Nat} {v:Value} {l:List Int} {m:Nat} (h:w.ownsRow base 2 1 v (l.length+m) (l.map (Value.int .i64)++List.replicate m (.int .i64 0))):OwnI w base v (l++List.replicate m 0):=by
 unfold OwnI
 rw[List.length_append,List.map_append,List.length_replicate,List.map_replicate]
 exact h
theorem zerosBack_impl (l:List Int) (a:Option Addr) (cap B:Nat) (w:World) (hi:Ints w B a l) (hB:B<=w.heap.size) (hn:l.length<=1048576) :
  Calls Tryz.prog 133 #[.slice a l.length cap] w fun e w'=>∃ v,e=.returned v/\OwnI w' w.heap.size v (backR l)/\Below w.heap.size w w':=by
 obtain⟨i0,hi0,hz0,hz1,hz2⟩:=info_parts infoI2
 by_cases hlong:400<l.length
 ·rw[backR_no (numsR_long hlong)]
  clear hi
  generalize l.length=n at hlong hn ⊢
  go_enter Tryz.func133,Tryz.ntmps133
  go_wp2_with fail
  go_ret
  exact⟨_,rfl,OwnI.nil _ _,Below.refl _ _⟩
 ·have HU:=hideZ (upTo_impl l 256 a cap B w hi hn)
  cases hu:upTo l 256 with
  |false =>
   rw[backR_no ((numsR_of (by omega)).trans hu)]
   rw[hu]at HU
   clear hi hu
   generalize l.length=n at HU hlong hn ⊢
   have hd:decide (400<(n:Int))=false:=decide_eq_false (by omega)
   go_enter Tryz.func133,Tryz.ntmps133
   go_wp2_with fail
   refine HU.out.mono ?_
   rintro e w' ⟨rfl,hw⟩
   subst w'
   go_wp2_with fail
   go_ret
   exact⟨_,rfl,OwnI.nil _ _,Below.refl _ _⟩
  |true =>
   have HNR:=hideZ ((numsR_of (by omega)).trans hu)
   have HUP:=hideZ (upTo_yes hu)
   rw[hu]at HU
   have HS:=hideZ (hi.mono hB)
   clear hi hu
   obtain⟨n,hln⟩:∃ n,n=l.length:=⟨_,rfl⟩
   have HLN:=hideZ hln
   rw[<-hln]at HU hlong ⊢
   clear hln hn
   have hd:decide (400<(n:Int))=false:=decide_eq_false (by omega)
   go_enter Tryz.func133,Tryz.ntmps133
   go_wp2_with fail
   refine HU.out.mono ?_
   rintro e w' ⟨rfl,hw⟩
   subst w'
   go_wp2_with fail
   go_loopw [17,3,4] (fun i u m wr=>∃ k q:Nat,i=.int .i64 k/\m=.int .i64 q/\k<=n/\q=(bst (l.take k)).2/\(bst (l.take k)).1.length<=400/\OwnI wr w.heap.size u (bst (l.take k)).1/\Below w.heap.size w wr) (fun i _ _ _=>n-(intOf i).toNat)
   case atStart=>exact⟨0,1,rfl,rfl,Nat.zero_le _,rfl,by simp[bst],OwnI.nil _ _,Below.refl _ _⟩
   case round =>
    obtain⟨k,q,rfl,rfl,hk,hq,h400,hown,hbel⟩:=hrel
    have hwo:=(bst_worth l k (by have:=HLN.out;omega)).2
    rw[<-hq]at hwo
    have hq4:q<=401:=by omega
    have GB:=hideZ hbel
    have HQ:=hideZ hq
    have hsz:=hbel.size
    obtain⟨a',cap',rfl,_,_⟩:=hown.ints
    obtain⟨lk,hlk⟩:∃ lk,lk=(bst (l.take k)).1:=⟨_,rfl⟩
    rw[<-hlk]at hown h400 ⊢
    have G1:=hideZ hown
    have HLK:=hideZ hlk
    clear hq hown hbel hlk hwo
    by_cases hlt:k<n
    ·have hkl:k<l.length:=by rw[<-HLN.out];exact hlt
     obtain⟨b,off,rfl,hb,hc⟩:=(HS.out.below GB.out).some (by omega)
     have ci:=hc k hkl
     have hx256:=HUP.out _ (List.getElem_mem hkl)
     obtain⟨x,hx⟩:∃ x,x=l[k]:=⟨_,rfl⟩
     have HX:=hideZ hx
     rw[<-hx]at ci hx256
     clear hc hx
     by_cases h0:1<x
     ·have HZ1:Hid (bst (l.take (k+1))=(lk++[x-1],1)):=by
       unfold Hid
       rw[bst_one hkl (by rw[<-HX.out];exact h0),HX.out,HLK.out]
      go_wp2_with (at_builtin;refine wpList_append_own _ rfl (.tmp 23) (.tmp 26) 114 rfl w.heap.size 2 i0 (.int .i64 0) 1 8 Tryz.underlying114 hi0 hz0 hz1 hz2 rfl (by decide) _ _ _ rfl (OwnI.alloc G1.out _) ⟨wr.heap.size,0,none⟩ 1 1 [.int .i64 (x-1)] rfl rfl (one_newI _ _ _) (one_cellI _) (by unfold maxLen;omega) (by omega) (by simp;omega) ?_)
      intro v' w6 hown' hgrow _
      have hown6:=OwnI.snoc hown'
      have b6:=hideZ (app_one GB.out (by omega) (Nat.le_refl _) G1.out hgrow)
      obtain⟨l6,hl6⟩:∃ l6,l6=lk++[x-1]:=⟨_,rfl⟩
      rw[<-hl6]at hown6 HZ1
      have N6:=hideZ hown6
      obtain⟨a6,cap6,rfl,_,_⟩:=hown6.ints
      clear hown' hgrow hown6 hl6
      by_cases h4:400<l6.length
      ·have HE:Hid (backR l=[]):=backR_long (k:=k+1) (by have:=HLN.out;omega) (by rw[HZ1.out];exact h4)
       have h4':(400:Int)<(l6.length:Int):=by omega
       go_wp2_with fail
       go_ret
       exact⟨_,rfl,by rw[HE.out];exact OwnI.nil _ _,b6.out⟩
      ·have h4':¬(400:Int)<(l6.length:Int):=by omega
       go_wp2_with fail
       go_roundw
       case rel=>exact⟨k+1,1,by go_num,rfl,by omega,by rw[HZ1.out],by rw[HZ1.out];simp only;omega,by rw[HZ1.out];exact N6.out,b6.out⟩
       case measure=>simp[intOf];omega
     ·have HZ1:Hid (bst (l.take (k+1))=(lk++List.replicate ((x.toNat+1)*q) 0,q*2)):=by
       unfold Hid
       rw[bst_zeros hkl (by rw[<-HX.out];exact h0),HQ.out,HX.out,HLK.out]
      obtain⟨xn,rfl⟩:∃ xn:Nat,x=xn:=⟨x.toNat,by omega⟩
      obtain⟨mm,hmm⟩:∃ mm,mm=(xn+1)*q:=⟨_,rfl⟩
      have hm8:mm<=802:=by
       have:xn=0∨xn=1:=by omega
       rcases this with rfl|rfl<;>omega
      have hmul:((xn:Int)+1)*(q:Int)=(mm:Int):=by rw[hmm];simp
      rw[Int.toNat_natCast,<-hmm]at HZ1
      clear hmm
      go_wp2_with (at_builtin;refine wpList_append_zeros _ rfl (.tmp 28) (.tmp 32) 114 2 rfl w.heap.size 2 i0 Tryz.underlying114 Tryz.underlying2 hi0 hz0 hz1 hz2 _ _ _ rfl G1.out mm rfl (by omega) (by omega) ?_)
      intro v' w6 hown' hgrow
      have hown6:=OwnI.zeros hown'
      have b6:=hideZ (app_row GB.out (by omega) (Nat.le_refl _) G1.out hgrow)
      obtain⟨l6,hl6⟩:∃ l6,l6=lk++List.replicate mm 0:=⟨_,rfl⟩
      rw[<-hl6]at hown6 HZ1
      have N6:=hideZ hown6
      obtain⟨a6,cap6,rfl,_,_⟩:=hown6.ints
      clear hown' hgrow hown6 hl6
      by_cases h4:400<l6.length
      ·have HE:Hid (backR l=[]):=backR_long (k:=k+1) (by have:=HLN.out;omega) (by rw[HZ1.out];exact h4)
       have h4':(400:Int)<(l6.length:Int):=by omega
       go_wp2_with fail
       go_ret
       exact⟨_,rfl,by rw[HE.out];exact OwnI.nil _ _,b6.out⟩
      ·have h4':¬(400:Int)<(l6.length:Int):=by omega
       go_wp2_with fail
       go_roundw
       case rel=>exact⟨k+1,q*2,by go_num,by go_num,by omega,by rw[HZ1.out],by rw[HZ1.out];simp only;omega,by rw[HZ1.out];exact N6.out,b6.out⟩
       case measure=>simp[intOf];omega
    ·have hkn:k=l.length:=by have:=HLN.out;omega
     have HT:Hid (l.take k=l):=by
      unfold Hid
      rw[hkn,List.take_length]
     have HE:Hid (backR l=lk):=by
      unfold Hid
      rw[HLK.out,HT.out,backR_yes HNR.out (by rw[<-HT.out,<-HLK.out];exact h400)]
     clear hkn
     go_wp2_with fail
     go_ret
     exact⟨_,rfl,by rw[HE.out];exact G1.out,GB.out⟩
end Go.Proofs.YtkgjfdanjmnmbaaGreatDoor.Ze


namespace Go.Proofs.YtkgjfdanjmnmbaaGreatDoor.Fr
open Go.RowKit
open Sh (IsB rowF upd made_row upd_same upd_other strF)
open Ze (hideZ numsR upTo upTo_yes numsR_of numsR_long numsR_yes nums_spec)
open St (Aft)
open In (Ints)
open Nu (ret_strJ bv own_string app_below)
open Ap (Own0 wpList_append_own0)
def Own0B (w:World) (base:Nat) (v:Value) (l:List UInt8):Prop:=Own0 w base 5 1 v l.length (l.map bv)
theorem own0_string {P:Program} {w:World} {base src dst:TypeId} {v:Value} (l:List UInt8) (h:Own0B w base v l)
  (hs:P.underlying src=some (.slice 5)) (he:P.underlying 5=some (.int .u8)) (hd:P.underlying dst=some .string) :
  (convert src dst v).run P w=.ok (.string ⟨l.toArray⟩) w:=by
 rcases h with⟨b,rfl,h0,_⟩|h
 ·obtain rfl:l=[]:=List.eq_nil_of_length_eq_zero h0
  exact run_convert_bytes_back w src dst 5 b 0 [] hs he hd (by intro j hj;exact absurd hj (Nat.not_lt_zero j))
 ·exact own_string l h hs he hd
theorem one_newB (W:World) (s:Int) (t:TypeId):∀ (j:Nat) (u:Value),[(Value.int .u8) s][j]? = some u->(W.alloc (.cells #[.int .u8 s] t)).cell? ((⟨W.heap.size,0,none⟩:Addr).add j)=some u:=by
 intro j u hj
 match j,hj with
 |0,hj=>simp at hj;subst hj;simp[Addr.add]
theorem one_cellB (s:Int):∀ u∈[(Value.int .u8) s],u.oneCell'=true:=by
 intro u hu
 simp at hu
 subst hu
 rfl
theorem own0B_snoc {w:World} {base:Nat} {v:Value} {l:List UInt8} {x:Int} (h0:0<=x) (h1:x<256) (h:w.ownsRow base 5 1 v (l.length+1) (l.map bv++[.int .u8 x])):Own0B w base v (l++[UInt8.ofNat x.toNat]):=by
 refine .inr ?_
 have e:bv (UInt8.ofNat x.toNat)=.int .u8 x:=by
  simp[bv]
  omega
 rw[List.length_append,List.map_append,List.map_singleton,e]
 exact h
theorem frontBack_spec (l:List Int) (a:Option Addr) (cap B:Nat) (w:World) (hi:Ints w B a l) (hB:B<=w.heap.size) (hn:l.length<=1048576) :
  Calls Tryz.prog 79 #[.slice a l.length cap] w fun e w'=>e=.returned (.string ⟨(fbackR l).toArray⟩)/\Below w.heap.size w w':=by
 obtain⟨i0,hi0,hz0,hz1,hz2⟩:=info_parts Nu.Tryz.infoJ5
 have HS:=hideZ (hi.mono hB)
 have HU:=hideZ (fun W (hW:Below w.heap.size w W)=>nums_spec l 255 a cap w.heap.size W ((hi.mono hB).below hW) hn)
 have hb0:Below w.heap.size w (w.alloc (.cells #[] 5)):=(Below.refl _ _).alloc (Nat.le_refl _) _
 have HB0:=hideZ hb0
 have HRS:=hideZ (row_spec (w.alloc (.cells #[] 5)))
 have zs:(w.alloc (.cells #[] 5)).heap.size=w.heap.size+1:=by simp
 rw[zs]at HRS
 clear hi hb0 zs
 cases hu:numsR l 255 with
 |false =>
  rw[fbackR_no hu]
  rw[hu]at HU
  clear hu
  generalize l.length=n at HU hn ⊢
  go_enter Tryz.func79,Tryz.ntmps79
  go_wp2_with fail
  refine HRS.out.mono ?_
  rintro e w1 ⟨rfl,hr1,hb1⟩
  have HB1:=hideZ (HB0.out.trans (hb1.mono (by omega)))
  have H0:Hid (Own0B w1 (w.heap.size+2) (.slice (some ⟨w.heap.size,0,none⟩) 0 0) []):=.inl ⟨_,rfl,rfl,rfl⟩
  have hcv:=own0_string (P:=Tryz.prog) (src:=87) (dst:=9) [] H0.out Tryz.underlying87 Tryz.underlying5 Tryz.underlying9
  clear hr1 hb1
  by_cases h0:0<n
  ·have hd0:decide ((0:Int)<(n:Int))=true:=decide_eq_true (by omega)
   go_wp2_with fail
   go_loopw [5,3] (fun i u wr=>i=.int .i64 0/\u=.slice (some ⟨w.heap.size,0,none⟩) 0 0/\wr=w1) (fun _ _ _=>0)
   case atStart=>exact⟨rfl,rfl,rfl⟩
   case round =>
    obtain⟨rfl,rfl,rfl⟩:=hrel
    go_wp2_with fail
    refine(HU.out _ HB1.out).mono ?_
    rintro e w' ⟨rfl,hw⟩
    subst w'
    go_wp2_with fail
    go_ret
    exact⟨rfl,HB1.out⟩
  ·have hd0:decide ((0:Int)<(n:Int))=false:=decide_eq_false (by omega)
   go_wp2_with fail
   go_loopw [5,3] (fun i u wr=>i=.int .i64 0/\u=.slice (some ⟨w.heap.size,0,none⟩) 0 0/\wr=w1) (fun _ _ _=>0)
   case atStart=>exact⟨rfl,rfl,rfl⟩
   case round =>
    obtain⟨rfl,rfl,rfl⟩:=hrel
    go_wp2_with fail
    go_ret
    exact⟨rfl,HB1.out⟩
 |true =>
  rw[fbackR_yes hu]
  have HUP:=hideZ (upTo_yes (numsR_yes hu).2)
  have hlong:=(numsR_yes hu).1
  rw[hu]at HU
  clear hu
  obtain⟨n,hln⟩:∃ n,n=l.length:=⟨_,rfl⟩
  have HLN:=hideZ hln
  rw[<-hln]at HU hlong ⊢
  clear hln hn
  go_enter Tryz.func79,Tryz.ntmps79
  go_wp2_with fail
  refine HRS.out.mono ?_
  rintro e w1 ⟨rfl,hr1,hb1⟩
  have HB1:=hideZ (HB0.out.trans (hb1.mono (by omega)))
  have HR1:=hideZ hr1
  have hg1:=hr1.lt
  clear hr1 hb1 HRS
  go_wp2_with fail
  go_loopw [5,3] (fun i u wr=>∃ k:Nat,i=.int .i64 k/\k<=n/\IsB wr (w.heap.size+1) 5 .u8 256 (kst (l.take k)).2/\Own0B wr (w.heap.size+2) u (kst (l.take k)).1/\Below w.heap.size w wr) (fun i _ _=>n-(intOf i).toNat)
  case atStart=>exact⟨0,rfl,Nat.zero_le _,HR1.out,.inl ⟨_,rfl,rfl,rfl⟩,HB1.out⟩
  case round =>
   obtain⟨k,rfl,hk,hrow,hown,hbel⟩:=hrel
   obtain⟨hfull,hlen⟩:=kst_full l HUP.out k (by have:=HLN.out;omega)
   have R1:=hideZ hrow
   have O1:=hideZ hown
   have GB:=hideZ hbel
   have hgs:=hrow.lt
   clear hbel
   by_cases hlt:k<n
   ·have hd0:decide ((k:Int)<(n:Int))=true:=decide_eq_true (by omega)
    have hkl:k<l.length:=by rw[<-HLN.out];exact hlt
    obtain⟨b,off,rfl,hb,hc⟩:=(HS.out.below GB.out).some (by omega)
    have ci:=hc k hkl
    have HC:Hid (∀ W:World,Below w.heap.size w W->W.cell? ⟨b,off+k,none⟩=some (.int .i64 l[k])):=fun W hW=>by
     obtain⟨b',off',e1,_,hc'⟩:=((HS.out.below hW).some (by omega:0<l.length))
     cases e1
     exact hc' k hkl
    have hx255:=HUP.out _ (List.getElem_mem hkl)
    have HM:=hideZ (kst_more hkl)
    obtain⟨x,hx⟩:∃ x,x=l[k]:=⟨_,rfl⟩
    rw[<-hx]at ci hx255 HM HC
    obtain⟨p,rfl⟩:∃ p:Nat,x=p:=⟨x.toNat,by omega⟩
    have hp:p<256:=by omega
    have hfp:=hfull.2 p hp
    rw[Int.toNat_natCast]at HM
    obtain⟨f,hf⟩:∃ f,f=(kst (l.take k)).2:=⟨_,rfl⟩
    obtain⟨bs,hbs⟩:∃ bs,bs=(kst (l.take k)).1:=⟨_,rfl⟩
    rw[<-hf]at R1 HM hrow hfp
    rw[<-hbs]at O1 HM hlen hown
    have c1:=hrow.cell (j:=p) hp
    obtain⟨y,hy⟩:∃ y,y=f p:=⟨_,rfl⟩
    rw[<-hy]at c1 hfp HM
    have HFP:=hideZ hfp
    have HL:=hideZ hlen
    clear hc hx hf hbs hrow hown hfull hlen hy hfp
    go_wp2_with fail
    refine(HU.out _ GB.out).mono ?_
    rintro e w' ⟨rfl,hw⟩
    subst w'
    go_wp2_with (at_builtin;refine wpList_append_own0 _ rfl (.tmp 18) (.tmp 26) 87 rfl (w.heap.size+2) 5 i0 (.int .u8 0) 1 1 Tryz.underlying87 hi0 hz0 hz1 hz2 rfl (by decide) _ bs.length (bs.map bv) rfl (Own0.alloc O1.out _) ⟨wr.heap.size,0,none⟩ 1 1 [.int .u8 y] rfl rfl (one_newB _ _ _) (one_cellB _) (by decide) (by unfold maxLen;have:=HL.out;omega) (by have:=HL.out;omega) (by simp;omega) ?_)
    intro v' w5 hown' hb5
    have N5:=hideZ (own0B_snoc HFP.out.1 HFP.out.2 hown')
    have ba:Below (w.heap.size+2) wr w5:=((Below.refl (w.heap.size+2) wr).alloc (by omega) _).trans (hb5 _ (Nat.le_refl _))
    have R5:=hideZ (R1.out.below ba (by omega))
    have B5:=hideZ (GB.out.trans (ba.mono (by omega)))
    have c5:=HC.out w5 B5.out
    have HFS:=hideZ (front_spec (w.heap.size+1) p 256 5 f w5 R5.out hp)
    have z5:=ba.size
    clear hown' hb5 ba ci c1
    go_wp2_with fail
    refine HFS.out.mono ?_
    rintro e w6 ⟨rfl,hr6,ha6⟩
    have R6:=hideZ hr6
    have N6:=hideZ (N5.out.keep (fun j hj1 hj2=>ha6.2.2.2.2 j hj2 (by omega)))
    have B6:=hideZ (Aft.below B5.out ha6 (by omega) (by omega))
    clear hr6 ha6
    go_wp2_with fail
    go_roundw
    case rel=>exact⟨k+1,by go_num,by omega,by rw[HM.out];exact R6.out,by rw[HM.out];exact N6.out,B6.out⟩
    case measure=>simp[intOf];omega
   ·have hd0:decide ((k:Int)<(n:Int))=false:=decide_eq_false (by omega)
    obtain rfl:k=n:=by omega
    have HT:Hid (l.take k=l):=by
     unfold Hid
     rw[HLN.out,List.take_length]
    rw[HT.out]at hown
    have hcv:=own0_string (P:=Tryz.prog) (src:=87) (dst:=9) _ hown Tryz.underlying87 Tryz.underlying5 Tryz.underlying9
    clear hrow hown hfull hlen
    go_wp2_with fail
    go_ret
    exact⟨rfl,GB.out⟩
end Go.Proofs.YtkgjfdanjmnmbaaGreatDoor.Fr


namespace Go.Proofs.YtkgjfdanjmnmbaaGreatDoor.Ze
open Go.RowKit
open In (Ints OwnI IsO one_newI one_cellI app_one)
open In.Tryz (infoI2)
theorem min_any (p q:Nat) (w:World):Calls Tryz.prog 40 #[.int .i64 p,.int .i64 q] w fun e w'=>e=.returned (.int .i64 (min p q:Nat))/\w'=w:=by
 by_cases h:p<q
 ·have HE:Hid (min p q=p):=by unfold Hid;omega
  rw[HE.out]
  have h':(p:Int)<q:=by omega
  go_enter Tryz.func40,Tryz.ntmps40
  go_wp2_with fail
  go_ret
  exact⟨rfl,rfl⟩
 ·have HE:Hid (min p q=q):=by unfold Hid;omega
  rw[HE.out]
  have h':¬(p:Int)<q:=by omega
  go_enter Tryz.func40,Tryz.ntmps40
  go_wp2_with fail
  go_ret
  exact⟨rfl,rfl⟩
def Bs (l:List Int) (k:Nat) (lo:List Int) (q:Nat):Prop :=
 ((bst (l.take k)).1.length<=400/\lo=(bst (l.take k)).1/\q=(bst (l.take k)).2)∨(400<(bst (l.take k)).1.length/\400<lo.length)
theorem Bs.one {l:List Int} {k:Nat} {lo:List Int} {q:Nat} (h:Bs l k lo q) (hk:k<l.length) (h1:1<l[k]):Bs l (k+1) (lo++[l[k]-1]) 1:=by
 have e:=bst_one hk h1
 rcases h with⟨h4,rfl,rfl⟩|⟨h4,h5⟩
 ·by_cases h6:(bst (l.take k)).1.length+1<=400
  ·exact .inl ⟨by rw[e];simpa using h6,by rw[e],by rw[e]⟩
  ·exact .inr ⟨by rw[e];simp;omega,by simp;omega⟩
 ·exact .inr ⟨by rw[e];simp;omega,by simp;omega⟩
theorem Bs.zeros {l:List Int} {k:Nat} {lo:List Int} {q j:Nat} (h:Bs l k lo q) (hk:k<l.length) (h1:¬1<l[k]) (hj:j<=(l[k].toNat+1)*q) (hs:j=(l[k].toNat+1)*q∨400<lo.length+j) :
  Bs l (k+1) (lo++List.replicate j 0) (min 1000 (2*q)):=by
 have e:=bst_zeros hk h1
 have hw:=bst_worth l k (by omega)
 have hg:=bst_grow hk
 have hl:(bst (l.take (k+1))).1.length=(bst (l.take k)).1.length+(l[k].toNat+1)*(bst (l.take k)).2:=by rw[e];simp
 rcases h with⟨h4,rfl,rfl⟩|⟨h4,h5⟩
 ·by_cases h6:(bst (l.take k)).1.length+(l[k].toNat+1)*(bst (l.take k)).2<=400
  ·have hj2:j=(l[k].toNat+1)*(bst (l.take k)).2:=by omega
   refine .inl ⟨by omega,by rw[e,hj2],?_⟩
   rw[e]
   simp only
   have:(bst (l.take k)).2<=(l[k].toNat+1)*(bst (l.take k)).2:=Nat.le_mul_of_pos_left _ (by omega)
   omega
  ·refine .inr ⟨by omega,?_⟩
   rw[List.length_append,List.length_replicate]
   rcases hs with hs|hs<;>omega
 ·refine .inr ⟨by omega,?_⟩
  rw[List.length_append]
  omega
theorem Bs.done {l:List Int} {lo:List Int} {q:Nat} (h:Bs l l.length lo q) (hn:numsR l 256=true):backR l=if 400<lo.length then [] else lo:=by
 unfold Bs at h
 rw[List.take_length]at h
 rcases h with⟨h4,rfl,rfl⟩|⟨h4,h5⟩
 ·rw[backR_yes hn h4,if_neg (by omega)]
 ·rw[if_pos h5]
  exact backR_long (k:=l.length) (Nat.le_refl _) (by rw[List.take_length];exact h4)
theorem zerosBack_spec (l:List Int) (a:Option Addr) (cap B:Nat) (w:World) (hi:Ints w B a l) (hB:B<=w.heap.size) (hn:l.length<=1048576) :
  Calls Tryz.prog 80 #[.slice a l.length cap] w fun e w'=>∃ v,e=.returned v/\OwnI w' w.heap.size v (backR l)/\Below w.heap.size w w':=by
 obtain⟨i0,hi0,hz0,hz1,hz2⟩:=info_parts infoI2
 have hb0:Below w.heap.size w (w.alloc (.cells #[] 2)):=(Below.refl _ _).alloc (Nat.le_refl _) _
 have HU:=hideZ (nums_spec l 256 a cap w.heap.size (w.alloc (.cells #[] 2)) ((hi.mono hB).below hb0) hn)
 have HW:=hideZ (OwnI.empty w)
 have HB0:=hideZ hb0
 cases hu:numsR l 256 with
 |false =>
  rw[backR_no hu]
  rw[hu]at HU
  clear hi hu hb0
  generalize l.length=n at HU hn ⊢
  go_enter Tryz.func80,Tryz.ntmps80
  go_wp2_with fail
  refine HU.out.mono ?_
  rintro e w' ⟨rfl,hw⟩
  subst w'
  go_wp2_with fail
  go_ret
  exact⟨_,rfl,HW.out,HB0.out⟩
 |true =>
  have HNR:=hideZ hu
  have HUP:=hideZ (upTo_yes (numsR_yes hu).2)
  have hlong:=(numsR_yes hu).1
  rw[hu]at HU
  have HS:=hideZ (hi.mono hB)
  clear hi hu hb0
  obtain⟨n,hln⟩:∃ n,n=l.length:=⟨_,rfl⟩
  have HLN:=hideZ hln
  rw[<-hln]at HU hlong ⊢
  clear hln hn
  go_enter Tryz.func80,Tryz.ntmps80
  go_wp2_with fail
  refine HU.out.mono ?_
  rintro e w' ⟨rfl,hw⟩
  subst w'
  go_wp2_with fail
  go_loopw [5,3,4] (fun i u m wr=>∃ (k q:Nat) (lo:List Int),i=.int .i64 k/\m=.int .i64 q/\k<=n/\q<=1000/\lo.length<=401+k/\Bs l k lo q/\OwnI wr w.heap.size u lo/\Below w.heap.size w wr) (fun i _ _ _=>n-(intOf i).toNat)
  case atStart=>exact⟨0,1,[],rfl,rfl,Nat.zero_le _,by omega,by simp,.inl ⟨by simp[bst],rfl,rfl⟩,HW.out,HB0.out⟩
  case round =>
   obtain⟨k,q,lo,rfl,rfl,hk,hq,h400,hbs,hown,hbel⟩:=hrel
   have GB:=hideZ hbel
   have HBS:=hideZ hbs
   have hsz:=hbel.size
   have G1:=hideZ hown
   obtain⟨a',cap',rfl,_,_⟩:=hown.ints
   clear hown hbel hbs
   by_cases hlt:k<n
   ·have hkl:k<l.length:=by rw[<-HLN.out];exact hlt
    obtain⟨b,off,rfl,hb,hc⟩:=(HS.out.below GB.out).some (by omega)
    have ci:=hc k hkl
    have hx256:=HUP.out _ (List.getElem_mem hkl)
    have HC:Hid (∀ W:World,Below w.heap.size w W->W.cell? ⟨b,off+k,none⟩=some (.int .i64 l[k])):=fun W hW=>by
     obtain⟨b',off',e1,_,hc'⟩:=((HS.out.below hW).some (by omega:0<l.length))
     cases e1
     exact hc' k hkl
    obtain⟨x,hx⟩:∃ x,x=l[k]:=⟨_,rfl⟩
    have HX:=hideZ hx
    rw[<-hx]at ci hx256 HC
    clear hc hx
    by_cases h0:1<x
    ·have HZ1:Hid (Bs l (k+1) (lo++[x-1]) 1):=by
      unfold Hid
      rw[HX.out]
      exact HBS.out.one hkl (by rw[<-HX.out];exact h0)
     go_wp2_with (at_builtin;refine wpList_append_own _ rfl (.tmp 23) (.tmp 29) 114 rfl w.heap.size 2 i0 (.int .i64 0) 1 8 Tryz.underlying114 hi0 hz0 hz1 hz2 rfl (by decide) _ _ _ rfl (OwnI.alloc G1.out _) ⟨wr.heap.size,0,none⟩ 1 1 [.int .i64 (x-1)] rfl rfl (one_newI _ _ _) (one_cellI _) (by unfold maxLen;omega) (by omega) (by simp;omega) ?_)
     intro v' w6 hown' hgrow _
     have N6:=hideZ (OwnI.snoc hown')
     have b6:=hideZ (app_one GB.out (by omega) (Nat.le_refl _) G1.out hgrow)
     clear hown' hgrow
     go_wp2_with fail
     go_roundw
     case rel=>exact⟨k+1,1,lo++[x-1],by go_num,rfl,by omega,by omega,by simp;omega,HZ1.out,N6.out,b6.out⟩
     case measure=>simp[intOf];omega
    ·obtain⟨xn,rfl⟩:∃ xn:Nat,x=xn:=⟨x.toNat,by omega⟩
     obtain⟨mm,hmm⟩:∃ mm,mm=(xn+1)*q:=⟨_,rfl⟩
     have hm8:mm<=2000:=by
      have:xn=0∨xn=1:=by omega
      rcases this with rfl|rfl<;>omega
     have hmul:(q:Int)*((xn:Int)+1)=(mm:Int):=by rw[hmm,Int.mul_comm];simp
     have HST:Hid (∀ j,j<=mm->(j=mm∨400<lo.length+j)->Bs l (k+1) (lo++List.replicate j 0) (min 1000 (2*q))):=fun j h1 h2=>by
      have e:l[k].toNat=xn:=by rw[<-HX.out];rfl
      exact HBS.out.zeros hkl (by rw[<-HX.out];exact h0) (by rw[e,<-hmm];exact h1) (by rw[e,<-hmm];exact h2)
     clear hmm HBS
     obtain⟨nl,hnl⟩:∃ nl,nl=lo.length:=⟨_,rfl⟩
     have HNL:=hideZ hnl
     rw[<-hnl]at h400 ⊢
     clear hnl
     go_wp2_with fail
     go_loopw [6,3] (fun i u wr2=>∃ j:Nat,i=.int .i64 j/\j<=mm/\(j=0∨nl+j<=401)/\OwnI wr2 w.heap.size u (lo++List.replicate j 0)/\Below w.heap.size w wr2) (fun i _ _=>mm-(intOf i).toNat)
     case atStart=>exact⟨0,rfl,Nat.zero_le _,.inl rfl,by simpa [HNL.out] using G1.out,GB.out⟩
     case round =>
      obtain⟨j,rfl,hj,hj4,hown2,hbel2⟩:=hrel
      have GB2:=hideZ hbel2
      have z2:=hbel2.size
      have c2:=HC.out _ hbel2
      obtain⟨l2,hl2⟩:∃ l2,l2=lo++List.replicate j 0:=⟨_,rfl⟩
      have hll:l2.length=nl+j:=by rw[hl2,List.length_append,List.length_replicate,HNL.out]
      rw[<-hl2]at hown2
      have G2:=hideZ hown2
      have HL2:=hideZ hl2
      obtain⟨a2,cap2,rfl,_,_⟩:=hown2.ints
      rw[hll]at G2 ⊢
      have HLL:=hideZ hll
      clear hown2 hbel2 hl2 hll ci
      by_cases hjm:j<mm
      ·by_cases h4:nl+j<=400
       ·have hg1:decide ((j:Int)<(mm:Int))=true:=decide_eq_true (by omega)
        have hg2:decide ((((nl+j:Nat):Int))<=400)=true:=decide_eq_true (by omega)
        go_wp2_with (at_builtin;refine wpList_append_own _ rfl (.tmp 47) (.tmp 48) 114 rfl w.heap.size 2 i0 (.int .i64 0) 1 8 Tryz.underlying114 hi0 hz0 hz1 hz2 rfl (by decide) _ _ (l2.map (Value.int .i64)) rfl (by have:=OwnI.alloc (l:=l2) (by exact G2.out) (Obj.cells #[Value.int .i64 0] 2);unfold OwnI at this;rw[HLL.out]at this;exact this) ⟨wr.heap.size,0,none⟩ 1 1 [.int .i64 0] rfl rfl (one_newI _ _ _) (one_cellI _) (by unfold maxLen;omega) (by omega) (by simp;omega) ?_)
        intro v' w6 hown' hgrow _
        have N6:Hid (OwnI w6 w.heap.size v' (lo++List.replicate (j+1) 0)):=by
         have e:lo++List.replicate (j+1) 0=l2++[0]:=by rw[HL2.out,List.append_assoc];congr 1;exact List.replicate_succ'
         rw[e]
         apply OwnI.snoc
         rw[HLL.out]
         exact hown'
        have b6:=hideZ (app_one GB2.out (by omega) (Nat.le_refl _) G2.out hgrow)
        clear hown' hgrow
        go_wp2_with fail
        go_roundw
        case rel=>exact⟨j+1,by go_num,by omega,.inr (by omega),N6.out,b6.out⟩
        case measure=>simp[intOf];omega
       ·have hg1:decide ((j:Int)<(mm:Int))=true:=decide_eq_true (by omega)
        have hg2:decide ((((nl+j:Nat):Int))<=400)=false:=decide_eq_false (by omega)
        have HB1:Hid (Bs l (k+1) l2 (min 1000 (2*q))):=by
         unfold Hid
         rw[HL2.out]
         exact HST.out j hj (.inr (by have:=HNL.out;omega))
        have HMN:=hideZ (fun W=>min_any 1000 (2*q) W)
        have hmn:min 1000 (2*q)<=1000:=Nat.min_le_left _ _
        generalize min 1000 (2*q)=q2 at HMN HB1 hmn
        go_wp2_with fail
        refine(HMN.out wr).mono ?_
        rintro e w' ⟨rfl,hw⟩
        subst w'
        go_wp2_with fail
        go_roundw
        case rel=>exact⟨k+1,q2,l2,by go_num,rfl,by omega,by omega,by rw[HLL.out];omega,HB1.out,G2.out,GB2.out⟩
        case measure=>simp[intOf];omega
      ·have hg1:decide ((j:Int)<(mm:Int))=false:=decide_eq_false (by omega)
       have HB1:Hid (Bs l (k+1) l2 (min 1000 (2*q))):=by
        unfold Hid
        rw[HL2.out]
        exact HST.out j hj (.inl (by omega))
       have HMN:=hideZ (fun W=>min_any 1000 (2*q) W)
       have hmn:min 1000 (2*q)<=1000:=Nat.min_le_left _ _
       generalize min 1000 (2*q)=q2 at HMN HB1 hmn
       go_wp2_with fail
       refine(HMN.out wr).mono ?_
       rintro e w' ⟨rfl,hw⟩
       subst w'
       go_wp2_with fail
       go_roundw
       case rel=>exact⟨k+1,q2,l2,by go_num,rfl,by omega,by omega,by rw[HLL.out];omega,HB1.out,G2.out,GB2.out⟩
       case measure=>simp[intOf];omega
   ·have hkn:k=l.length:=by have:=HLN.out;omega
    have HE:=hideZ (Bs.done (by rw[<-hkn];exact HBS.out) HNR.out)
    clear hkn
    by_cases h4:400<lo.length
    ·have h4':(400:Int)<(lo.length:Int):=by omega
     rw[if_pos h4]at HE
     have HW2:=hideZ ((OwnI.empty wr).mono hsz)
     have HB2:=hideZ (GB.out.alloc hsz (.cells #[] 2))
     go_wp2_with fail
     go_ret
     exact⟨_,rfl,by rw[HE.out];exact HW2.out,HB2.out⟩
    ·have h4':¬(400:Int)<(lo.length:Int):=by omega
     rw[if_neg h4]at HE
     go_wp2_with fail
     go_ret
     exact⟨_,rfl,by rw[HE.out];exact G1.out,GB.out⟩
end Go.Proofs.YtkgjfdanjmnmbaaGreatDoor.Ze


namespace Go.Proofs.YtkgjfdanjmnmbaaGreatDoor.Fr
open Go.RowKit
open Sh (IsB rowF upd made_row bt bt_get)
open Ze (hideZ)
open St (Aft)
open In (Ints IsI OwnI made_ints)
open In.Tryz (infoI2)
def padI (xs:List Int) (n:Nat):List Int:=xs++List.replicate (n-xs.length) 0
theorem padI_len (xs:List Int) (n:Nat) (h:xs.length<=n):(padI xs n).length=n:=by simp[padI];omega
theorem padI_next (xs:List Int) (n:Nat) (v:Int) (h:xs.length<n):(padI xs n).set xs.length v=padI (xs++[v]) n:=by
 unfold padI
 rw[List.set_append_right _ _ (Nat.le_refl _),Nat.sub_self,List.append_assoc]
 congr 1
 obtain⟨m,hm⟩:∃ m,n-xs.length=m+1:=⟨n-xs.length-1,by omega⟩
 rw[hm,List.replicate_succ,List.length_append,List.length_singleton,show n-(xs.length+1)=m by omega]
 rfl
theorem padI_all (xs:List Int):padI xs xs.length=xs:=by simp[padI]
theorem list_get (t:ByteArray) (k:Nat) (h:k<t.size):∃ h':k<t.data.toList.length,t.data.toList[k]=t[k]:=⟨by simpa using h,by simp[ByteArray.getElem_eq_getElem_data]⟩
theorem row_own {w:World} {g base:Nat} {l:List Int} (h:IsI w g 2 l) (hb:base<=g) (hm:l.length<=maxLen):OwnI w base (.slice (some ⟨g,0,none⟩) l.length l.length) l :=
 ⟨by simp,.inr ⟨g,l.length,_,rfl,hb,h,Nat.le_refl _,hm,by simp[In.irow],by rw[List.take_of_length_le (by simp[In.irow])];simp[In.irow]⟩⟩
theorem below_drewN {B:Nat} {w w':World} (h:Below B w w') (n:Nat):Below B w (w'.drewN n):=⟨h.os,h.tape,h.output,h.size,h.block⟩
theorem isI_of_heap {w w':World} {g t:Nat} {l:List Int} (h:IsI w g t l) (e:w'.heap[g]? = w.heap[g]?):IsI w' g t l:=by
 unfold IsI
 rw[e]
 exact h
theorem frontOf_impl (t:ByteArray) (w:World) (hn:t.size<=1048576) :
  Calls Tryz.prog 95 #[.string t] w fun e w'=>∃ v,e=.returned v/\OwnI w' w.heap.size v (frontR t.data.toList)/\Below w.heap.size w w':=by
 obtain⟨i0,hi0,hz0,hz1,hz2⟩:=info_parts infoI2
 have hdl:t.data.toList.length=t.size:=by simp
 by_cases hlong:400<t.size
 ·rw[frontR_no (by omega)]
  clear hdl
  go_enter Tryz.func95,Tryz.ntmps95
  go_wp2_with fail
  go_step3
  go_wp2_with fail
  try rw[Exit.noGoto_ret]
  go_ret
  exact⟨_,rfl,OwnI.nil _ _,Below.refl _ _⟩
 ·rw[frontR_yes (by omega)]
  have HDL:=hideZ hdl
  clear hdl
  have hlong':¬(400:Int)<(t.size:Int):=by omega
  go_enter Tryz.func95,Tryz.ntmps95
  go_wp2_with fail
  go_step3
  go_wp2_with fail
  refine(rising_impl w).mono ?_
  rintro e w1 ⟨rfl,hb1⟩
  have HB1:=hideZ hb1
  have z1:=hb1.size
  clear hb1
  obtain⟨n,hln⟩:∃ n,n=t.size:=⟨_,rfl⟩
  go_wp2_with (first|((with_reducible refine wpList_alloc_row Tryz.zeroA191 ?_);intro w2 hb2 hbel2 hs2 ho2;have G2:=hideZ hb2;have HB2:=hideZ (HB1.out.trans (hbel2 _ z1));clear hb2 hbel2 ho2)|((with_reducible refine Sh.wpList_store_row' G2.out Tryz.sizeA191 row0 ?_ ?_ ?_);(· rfl);(· rfl);intro w3 hb3 hbel3 hs3 ho3;have G3:=hideZ hb3;have HB3:=hideZ (HB2.out.trans (hbel3 _ z1));clear hb3 hbel3 ho3)|(at_make;refine wpList_make_full _ rfl (.tmp 12) (.tmp 12) 114 rfl w3.heap.size 2 i0 (.int .i64 0) 1 Tryz.underlying114 hi0 hz0 hz1 .i64 .i64 _ _ t.size rfl rfl (by simp) (by simp) (by rw[hz2];omega) (by unfold maxLen;omega) (Nat.le_refl _) ?_;intro w4 hown4 hgrow4;have HR4:=hideZ (made_ints hown4);have hb4:=(Below.refl w3.heap.size w3).grown hgrow4 (Nat.le_refl _) (by simp);have G4:=hideZ (G3.out.below hb4 (by omega));have HB4:=hideZ (HB3.out.trans (hb4.mono (by omega)));clear hown4 hgrow4 hb4))
  go_step3
  go_wp2_with fail
  clear hln n
  obtain⟨g1,hg1⟩:∃ g1,g1=w1.heap.size:=⟨_,rfl⟩
  have e3:w3.heap.size=w1.heap.size+1:=by omega
  rw[e3]at HR4
  have hgw:w.heap.size<=g1:=by omega
  rw[<-hg1]at G4 HR4 ⊢
  obtain⟨g2,hg2⟩:∃ g2,g2=g1+1:=⟨_,rfl⟩
  have hg12:g1<g2:=by omega
  rw[<-hg2]at HR4 ⊢
  clear e3 hg1 hg2 hs2 hs3 z1
  obtain⟨l,hl⟩:∃ l,l=t.data.toList:=⟨_,rfl⟩
  rw[<-hl]at HDL
  have HL:=hideZ hl
  clear hl
  go_loopw [16] (fun i wr=>∃ k:Nat,i=.int .i64 k/\k<=t.size/\IsB wr g1 191 .u8 256 (fst' (l.take k)).2/\IsI wr g2 2 (padI (fst' (l.take k)).1 t.size)/\Below w.heap.size w wr) (fun i _=>t.size-(intOf i).toNat)
  case atStart=>exact⟨0,rfl,Nat.zero_le _,G4.out,by simpa [padI,fst'] using HR4.out,HB4.out⟩
  case round =>
   obtain⟨k,rfl,hk,hrow,hpl,hbel⟩:=hrel
   obtain⟨hfull,hlen⟩:=fst_full l k (by have:=HDL.out;omega)
   have R1:=hideZ hrow
   have T1:=hideZ hpl
   have GB:=hideZ hbel
   clear hbel
   by_cases hlt:k<t.size
   ·obtain⟨hkl',hget⟩:=list_get t k hlt
    have hkl:k<l.length:=by rw[HDL.out];exact hlt
    have hge:l[k]=t[k]:=by
     have:=HL.out
     subst this
     exact hget
    have HM:=hideZ (fst_more hkl)
    rw[hge]at HM
    obtain⟨c,hc⟩:∃ c:UInt8,t[k]=c:=⟨_,rfl⟩
    rw[hc]at HM
    obtain⟨f,hf⟩:∃ f,f=(fst' (l.take k)).2:=⟨_,rfl⟩
    obtain⟨ps,hps⟩:∃ ps,ps=(fst' (l.take k)).1:=⟨_,rfl⟩
    rw[<-hf]at R1 HM hfull
    rw[<-hps]at T1 HM hlen
    have hlk:=look_some hfull (c:=c.toNat) (UInt8.toNat_lt _)
    obtain⟨q,hq⟩:∃ q,q=look f c.toNat:=⟨_,rfl⟩
    rw[<-hq]at hlk HM
    have hq256:=hlk.1
    have HLK:=hideZ hlk.2
    have HLE:=hideZ hlen
    have HFU:=hideZ hfull
    clear hget hge hf hps hrow hpl hfull hlen hlk hq
    go_wp2_with fail
    go_loopw [19] (fun i wr2=>∃ p:Nat,i=.int .i64 p/\p<=q/\IsB wr2 g1 191 .u8 256 f/\IsI wr2 g2 2 (padI ps t.size)/\Below w.heap.size w wr2) (fun i _=>q-(intOf i).toNat)
    case atStart=>exact⟨0,rfl,Nat.zero_le _,R1.out,T1.out,GB.out⟩
    case round =>
     obtain⟨p,rfl,hp,hrow2,hpl2,hbel2⟩:=hrel
     have R2:=hideZ hrow2
     have T2:=hideZ hpl2
     have GB2:=hideZ hbel2
     have c1:=hrow2.cell (j:=p) (by omega)
     have hbnd:=HFU.out.2 p (by omega)
     obtain⟨y,hy⟩:∃ y,y=f p:=⟨_,rfl⟩
     rw[<-hy]at c1 hbnd
     have HY:=hideZ hy
     clear hrow2 hpl2 hbel2 hy
     by_cases hpq:p=q
     ·have hyc:(y==((c.toNat:Nat):Int))=true:=beq_iff_eq.2 (by rw[HY.out,hpq];exact HLK.out.1)
      have hq1:q<256:=hq256
      have c2:=T2.out.cell (j:=k) (by rw[padI_len _ _ (by have:=HLE.out;omega)];exact hlt)
      have f2:=T2.out.frozen k
      have HT3:Hid (∀ nq,IsI ((wr.drewN nq).setCell ⟨g2,k,none⟩ (.int .i64 p)) g2 2 (padI (ps++[(p:Int)]) t.size)):=fun nq=>by
       have h1:IsI (wr.drewN nq) g2 2 (padI ps t.size):=T2.out
       have h2:=h1.set k (p:Int)
       have h3:=padI_next ps t.size (p:Int) (by have:=HLE.out;omega)
       rw[HLE.out]at h3
       rw[h3]at h2
       exact h2
      have HR3:Hid (∀ nq,IsB ((wr.drewN nq).setCell ⟨g2,k,none⟩ (.int .i64 p)) g1 191 .u8 256 f):=fun nq=>by
       have h1:IsB (wr.drewN nq) g1 191 .u8 256 f:=R2.out
       exact h1.set_other _ _ (by simp;omega)
      have HBr:=hideZ (fun nq=>bring_impl g1 p 191 f _ (HR3.out nq) (by omega))
      have HB3':Hid (∀ nq,Below w.heap.size w ((wr.drewN nq).setCell ⟨g2,k,none⟩ (.int .i64 p))):=fun nq=>(below_drewN GB2.out nq).setCell (p:=⟨g2,k,none⟩) (by simp;omega) _
      rw[<-hpq]at HM
      clear hpq
      go_wp2_with fail
      go_quiet (fail)
      all_goals (try go_wp2_with fail)
      refine(HBr.out _).mono ?_
      rintro e w5 ⟨rfl,hb5,ha5⟩
      have G5:=hideZ hb5
      have T5:=hideZ (isI_of_heap (HT3.out _) (ha5.2.2.2.2 g2 (HT3.out _).lt (by omega)))
      have B5:=hideZ (Aft.below (HB3'.out _) ha5 (by omega) (by have:=(HT3.out nq).lt;omega))
      clear hb5 ha5
      go_wp2_with fail
      go_roundw
      case rel=>exact⟨k+1,by go_num,by omega,by rw[HM.out];exact G5.out,by rw[HM.out];exact T5.out,B5.out⟩
      case measure=>simp[intOf];omega
     ·have hyc:(y==((c.toNat:Nat):Int))=false:=beq_eq_false_iff_ne.2 (by rw[HY.out];exact HLK.out.2 p (by omega))
      go_wp2_with fail
      go_quiet (fail)
      all_goals (try go_wp2_with fail)
      go_roundw
      case rel=>exact⟨p+1,by go_num,by omega,R2.out,T2.out,below_drewN GB2.out _⟩
      case measure=>simp[intOf];omega
   ·obtain rfl:k=t.size:=by omega
    have HT:Hid (l.take t.size=l):=by
     unfold Hid
     rw[<-HDL.out,List.take_length]
    rw[HT.out]at hpl hlen
    have hpa:padI (fst' l).1 t.size=(fst' l).1:=by
     rw[<-hlen]
     exact padI_all _
    rw[hpa]at hpl
    have HV:=hideZ (row_own (base:=w.heap.size) hpl (by omega) (by unfold maxLen;omega))
    rw[hlen]at HV
    have HLL:=HL.out
    rw[HLL]at HV
    clear hrow hpl hfull hlen hpa HLL
    go_wp2_with fail
    try rw[Exit.noGoto_ret]
    go_ret
    exact⟨_,rfl,HV.out,GB.out⟩
end Go.Proofs.YtkgjfdanjmnmbaaGreatDoor.Fr


namespace Go.Proofs.YtkgjfdanjmnmbaaGreatDoor.Fr
open Go.RowKit
open Sh (IsB rowF upd made_row bt bt_get)
open Ze (hideZ)
open St (Aft)
open In (Ints IsI OwnI one_newI one_cellI)
open In.Tryz (infoI2)
open Ap (Own0 wpList_append_own0)
def Own0I (w:World) (lit base:Nat) (v:Value) (l:List Int):Prop :=
 w.heap[lit]? = some (.cells #[] 2 (0,0))/\((v=.slice (some ⟨lit,0,none⟩) 0 0/\l=[])∨OwnI w base v l)
theorem Own0I.own0 {w:World} {lit base:Nat} {v:Value} {l:List Int} (h:Own0I w lit base v l):Own0 w base 2 1 v l.length (l.map (Value.int .i64)):=by
 rcases h.2 with⟨rfl,rfl⟩|h
 ·exact .inl ⟨_,rfl,rfl,rfl⟩
 ·exact .inr h
theorem Own0I.done {w:World} {lit base:Nat} {v:Value} {l:List Int} (h:Own0I w lit base v l) (hb:lit<=base):OwnI w lit v l:=by
 obtain⟨he,⟨rfl,rfl⟩|h⟩:=h
 ·exact⟨rfl,.inr ⟨lit,0,#[],rfl,Nat.le_refl _,he,Nat.le_refl _,by decide,rfl,rfl⟩⟩
 ·exact h.mono hb
theorem Own0I.keep {w w':World} {lit base:Nat} {v:Value} {l:List Int} (h:Own0I w lit base v l) (hl:w'.heap[lit]? = w.heap[lit]?) (b:∀ k,base<=k->k<w.heap.size->w'.heap[k]? = w.heap[k]?):Own0I w' lit base v l:=by
 refine⟨hl.trans h.1,?_⟩
 rcases h.2 with h|⟨hl,h⟩
 ·exact .inl h
 ·refine .inr ⟨hl,?_⟩
  rcases h with h|⟨g,cap,cur,hv,hg,hb,rest⟩
  ·exact .inl h
  ·exact .inr ⟨g,cap,cur,hv,hg,by rw[b g hg (Array.getElem?_eq_some_iff.1 hb).1];exact hb,rest⟩
theorem frontOf_spec (t:ByteArray) (w:World) (hn:t.size<=1048576) :
  Calls Tryz.prog 153 #[.string t] w fun e w'=>∃ v,e=.returned v/\OwnI w' w.heap.size v (frontR t.data.toList)/\Below w.heap.size w w':=by
 obtain⟨i0,hi0,hz0,hz1,hz2⟩:=info_parts infoI2
 have hdl:t.data.toList.length=t.size:=by simp
 have HB0:Hid (Below w.heap.size w (w.alloc (.cells #[] 2))):=(Below.refl _ _).alloc (Nat.le_refl _) _
 have HRS:=hideZ (row_spec (w.alloc (.cells #[] 2)))
 have HE0:Hid ((w.alloc (.cells #[] 2)).heap[w.heap.size]? = some (.cells #[] 2 (0,0))):=heap_alloc_last w _
 have zs:(w.alloc (.cells #[] 2)).heap.size=w.heap.size+1:=by simp
 rw[zs]at HRS
 clear zs
 by_cases hlong:400<t.size
 ·rw[frontR_no (by omega)]
  clear hdl
  have hd4:decide ((t.size:Int)<=400)=false:=decide_eq_false (by omega)
  have hd0:decide ((0:Int)<(t.size:Int))=true:=decide_eq_true (by omega)
  go_enter Tryz.func153,Tryz.ntmps153
  go_wp2_with fail
  refine HRS.out.mono ?_
  rintro e w1 ⟨rfl,hr1,hb1⟩
  have HB1:=hideZ (HB0.out.trans (hb1.mono (by omega)))
  have HV:Hid (Own0I w1 w.heap.size (w.heap.size+2) (.slice (some ⟨w.heap.size,0,none⟩) 0 0) []):=⟨(hb1.block _ (by omega)).trans HE0.out,.inl ⟨rfl,rfl⟩⟩
  clear hr1 hb1
  go_wp2_with fail
  go_loopw [5,3] (fun i u wr=>i=.int .i64 0/\u=.slice (some ⟨w.heap.size,0,none⟩) 0 0/\wr=w1) (fun _ _ _=>0)
  case atStart=>exact⟨rfl,rfl,rfl⟩
  case round =>
   obtain⟨rfl,rfl,rfl⟩:=hrel
   go_wp2_with fail
   go_ret
   exact⟨_,rfl,HV.out.done (by omega),HB1.out⟩
 ·rw[frontR_yes (by omega)]
  have hd4:decide ((t.size:Int)<=400)=true:=decide_eq_true (by omega)
  have HDL:=hideZ hdl
  clear hdl
  go_enter Tryz.func153,Tryz.ntmps153
  go_wp2_with fail
  refine HRS.out.mono ?_
  rintro e w1 ⟨rfl,hr1,hb1⟩
  have HB1:=hideZ (HB0.out.trans (hb1.mono (by omega)))
  have HV:Hid (Own0I w1 w.heap.size (w.heap.size+2) (.slice (some ⟨w.heap.size,0,none⟩) 0 0) []):=⟨(hb1.block _ (by omega)).trans HE0.out,.inl ⟨rfl,rfl⟩⟩
  have HR1:=hideZ hr1
  clear hr1 hb1 HRS HE0
  obtain⟨l,hl⟩:∃ l,l=t.data.toList:=⟨_,rfl⟩
  rw[<-hl]at HDL
  have HL:=hideZ hl
  clear hl
  go_wp2_with fail
  go_loopw [5,3] (fun i u wr=>∃ k:Nat,i=.int .i64 k/\k<=t.size/\IsB wr (w.heap.size+1) 5 .u8 256 (fst' (l.take k)).2/\Own0I wr w.heap.size (w.heap.size+2) u (fst' (l.take k)).1/\Below w.heap.size w wr) (fun i _ _=>t.size-(intOf i).toNat)
  case atStart=>exact⟨0,rfl,Nat.zero_le _,HR1.out,HV.out,HB1.out⟩
  case round =>
   obtain⟨k,rfl,hk,hrow,hown,hbel⟩:=hrel
   obtain⟨hfull,hlen⟩:=fst_full l k (by have:=HDL.out;omega)
   have R1:=hideZ hrow
   have O1:=hideZ hown
   have GB:=hideZ hbel
   have hgs:=hrow.lt
   clear hbel
   by_cases hlt:k<t.size
   ·have hd0:decide ((k:Int)<(t.size:Int))=true:=decide_eq_true (by omega)
    obtain⟨hkl',hget⟩:=list_get t k hlt
    have hkl:k<l.length:=by rw[HDL.out];exact hlt
    have hge:l[k]=t[k]:=by
     have:=HL.out
     subst this
     exact hget
    have HM:=hideZ (fst_more hkl)
    rw[hge]at HM
    obtain⟨c,hc⟩:∃ c:UInt8,t[k]=c:=⟨_,rfl⟩
    rw[hc]at HM
    obtain⟨f,hf⟩:∃ f,f=(fst' (l.take k)).2:=⟨_,rfl⟩
    obtain⟨ps,hps⟩:∃ ps,ps=(fst' (l.take k)).1:=⟨_,rfl⟩
    rw[<-hf]at R1 HM hfull
    rw[<-hps]at O1 HM hlen
    have hlk:=look_some hfull (c:=c.toNat) (UInt8.toNat_lt _)
    obtain⟨q,hq⟩:∃ q,q=look f c.toNat:=⟨_,rfl⟩
    rw[<-hq]at hlk HM
    have hq256:=hlk.1
    have HLK:=hideZ hlk.2
    have HLE:=hideZ hlen
    have HFU:=hideZ hfull
    clear hget hge hf hps hrow hown hfull hlen hlk hq
    go_wp2_with fail
    go_loopw [6] (fun i wr2=>∃ p:Nat,i=.int .i64 p/\p<=q/\IsB wr2 (w.heap.size+1) 5 .u8 256 f/\Own0I wr2 w.heap.size (w.heap.size+2) u3 ps/\Below w.heap.size w wr2) (fun i _=>q-(intOf i).toNat)
    case atStart=>exact⟨0,rfl,Nat.zero_le _,R1.out,O1.out,GB.out⟩
    case round =>
     obtain⟨p,rfl,hp,hrow2,hown2,hbel2⟩:=hrel
     have R2:=hideZ hrow2
     have O2:=hideZ hown2
     have GB2:=hideZ hbel2
     have hgs2:=hrow2.lt
     have c1:=hrow2.cell (j:=p) (by omega)
     have hbnd:=HFU.out.2 p (by omega)
     obtain⟨y,hy⟩:∃ y,y=f p:=⟨_,rfl⟩
     rw[<-hy]at c1 hbnd
     have HY:=hideZ hy
     clear hrow2 hown2 hbel2 hy
     by_cases hpq:p=q
     ·have hyc:(y==((c.toNat:Nat):Int))=true:=beq_iff_eq.2 (by rw[HY.out,hpq];exact HLK.out.1)
      have hq1:q<256:=hq256
      have HR3:Hid (∀ nq,IsB (wr.drewN nq) (w.heap.size+1) 5 .u8 256 f):=fun nq=>R2.out
      have HO3:Hid (∀ nq,Own0I (wr.drewN nq) w.heap.size (w.heap.size+2) u3 ps):=fun nq=>O2.out.keep rfl (fun _ _ _=>rfl)
      have HB3:Hid (∀ nq,Below w.heap.size w (wr.drewN nq)):=fun nq=>below_drewN GB2.out nq
      rw[<-hpq]at HM
      clear hpq
      go_wp2_with fail
      go_quiet (fail)
      have R4:=HR3.out nq
      have O4:=HO3.out nq
      have B4:=HB3.out nq
      have z4:w.heap.size+1<(wr.drewN nq).heap.size:=hgs2
      generalize wr.drewN nq=W at R4 O4 B4 z4 ⊢
      have HR4:=hideZ R4
      have HO4:=hideZ O4
      have HB4:=hideZ B4
      clear R4 O4 B4 HR3 HO3 HB3 c1
      go_wp2_with (at_builtin;refine wpList_append_own0 _ rfl (.tmp 30) (.tmp 32) 114 rfl (w.heap.size+2) 2 i0 (.int .i64 0) 1 8 Tryz.underlying114 hi0 hz0 hz1 hz2 rfl (by decide) _ ps.length (ps.map (Value.int .i64)) rfl (Own0.alloc HO4.out.own0 _) ⟨W.heap.size,0,none⟩ 1 1 [.int .i64 (p:Int)] rfl rfl (one_newI _ _ _) (one_cellI _) (by decide) (by unfold maxLen;have:=HLE.out;omega) (by have:=HLE.out;omega) (by simp;omega) ?_)
      intro v' w5 hown' hb5
      have ba:Below (w.heap.size+2) W w5:=((Below.refl (w.heap.size+2) W).alloc (by omega) _).trans (hb5 _ (Nat.le_refl _))
      have N5:Hid (Own0I w5 w.heap.size (w.heap.size+2) v' (ps++[(p:Int)])):=⟨(ba.block _ (by omega)).trans HO4.out.1,.inr (In.OwnI.snoc hown')⟩
      have R5:=hideZ (HR4.out.below ba (by omega))
      have B5:=hideZ (HB4.out.trans (ba.mono (by omega)))
      have HFS:=hideZ (front_spec (w.heap.size+1) p 256 5 f w5 R5.out (by omega))
      have z5:=ba.size
      clear hown' hb5 ba
      go_wp2_with fail
      refine HFS.out.mono ?_
      rintro e w6 ⟨rfl,hr6,ha6⟩
      have R6:=hideZ hr6
      have N6:=hideZ (N5.out.keep (ha6.2.2.2.2 _ (by omega) (by omega)) (fun j hj1 hj2=>ha6.2.2.2.2 j hj2 (by omega)))
      have B6:=hideZ (Aft.below B5.out ha6 (by omega) (by omega))
      clear hr6 ha6
      go_wp2_with fail
      go_roundw
      case rel=>exact⟨k+1,by go_num,by omega,by rw[HM.out];exact R6.out,by rw[HM.out];exact N6.out,B6.out⟩
      case measure=>simp[intOf];omega
     ·have hyc:(y==((c.toNat:Nat):Int))=false:=beq_eq_false_iff_ne.2 (by rw[HY.out];exact HLK.out.2 p (by omega))
      go_wp2_with fail
      go_quiet (fail)
      all_goals (try go_wp2_with fail)
      go_roundw
      case rel=>exact⟨p+1,by go_num,by omega,R2.out,O2.out.keep rfl (fun _ _ _=>rfl),below_drewN GB2.out _⟩
      case measure=>simp[intOf];omega
   ·have hd0:decide ((k:Int)<(t.size:Int))=false:=decide_eq_false (by omega)
    obtain rfl:k=t.size:=by omega
    have HT:Hid (l.take t.size=l):=by
     unfold Hid
     rw[<-HDL.out,List.take_length]
    rw[HT.out,HL.out]at hown
    have HVV:=hideZ (hown.done (by omega))
    clear hrow hown hfull hlen
    go_wp2_with fail
    go_ret
    exact⟨_,rfl,HVV.out,GB.out⟩
end Go.Proofs.YtkgjfdanjmnmbaaGreatDoor.Fr


namespace Go.Proofs.YtkgjfdanjmnmbaaGreatDoor.Ze
open Go.RowKit
open In (Ints OwnI IsO one_newI one_cellI app_one)
open In.Tryz (infoI2)
theorem zerosOf_spec (l:List Int) (a:Option Addr) (cap B:Nat) (w:World) (hi:Ints w B a l) (hB:B<=w.heap.size) (hn:l.length<=1048576) :
  Calls Tryz.prog 152 #[.slice a l.length cap] w fun e w'=>∃ v,e=.returned v/\OwnI w' w.heap.size v (zerosR l)/\Below w.heap.size w w':=by
 obtain⟨i0,hi0,hz0,hz1,hz2⟩:=info_parts infoI2
 have hb0:Below w.heap.size w (w.alloc (.cells #[] 2)):=(Below.refl _ _).alloc (Nat.le_refl _) _
 have HU:=hideZ (nums_spec l 255 a cap w.heap.size (w.alloc (.cells #[] 2)) ((hi.mono hB).below hb0) hn)
 have HW:=hideZ (OwnI.empty w)
 have HB0:=hideZ hb0
 cases hu:numsR l 255 with
 |false =>
  rw[zerosR_no hu]
  rw[hu]at HU
  clear hi hu hb0
  generalize l.length=n at HU hn ⊢
  go_enter Tryz.func152,Tryz.ntmps152
  go_wp2_with fail
  refine HU.out.mono ?_
  rintro e w' ⟨rfl,hw⟩
  subst w'
  go_wp2_with fail
  go_ret
  exact⟨_,rfl,HW.out,HB0.out⟩
 |true =>
  rw[zerosR_yes hu]
  have HUP:=hideZ (upTo_yes (numsR_yes hu).2)
  have hlong:=(numsR_yes hu).1
  rw[hu]at HU
  have HS:=hideZ (hi.mono hB)
  clear hi hu hb0
  obtain⟨n,hln⟩:∃ n,n=l.length:=⟨_,rfl⟩
  have HLN:=hideZ hln
  rw[<-hln]at HU hlong ⊢
  clear hln hn
  go_enter Tryz.func152,Tryz.ntmps152
  go_wp2_with fail
  refine HU.out.mono ?_
  rintro e w' ⟨rfl,hw⟩
  subst w'
  go_wp2_with fail
  go_loopw [5,3,4] (fun i u m wr=>∃ k z:Nat,i=.int .i64 k/\m=.int .i64 z/\k<=n/\z=(zst (l.take k)).2/\OwnI wr w.heap.size u (zst (l.take k)).1/\Below w.heap.size w wr) (fun i _ _ _=>n-(intOf i).toNat)
  case atStart=>exact⟨0,0,rfl,rfl,Nat.zero_le _,rfl,HW.out,HB0.out⟩
  case round =>
   obtain⟨k,z,rfl,rfl,hk,hz,hown,hbel⟩:=hrel
   have hzl:=zst_len (l.take k)
   rw[List.length_take]at hzl
   have hzk:(zst (l.take k)).1.length+z<=k:=by omega
   have GB:=hideZ hbel
   have HZ:=hideZ hz
   have hsz:=hbel.size
   have hrl:=zrun_len z
   obtain⟨a',cap',rfl,_,_⟩:=hown.ints
   obtain⟨lk,hlk⟩:∃ lk,lk=(zst (l.take k)).1:=⟨_,rfl⟩
   rw[<-hlk]at hown hzk ⊢
   have G1:=hideZ hown
   have HLK:=hideZ hlk
   clear hz hown hbel hlk hzl
   have HRS:=hideZ (fun W=>run_spec z W (by omega))
   by_cases hlt:k<n
   ·have hkl:k<l.length:=by rw[<-HLN.out];exact hlt
    obtain⟨b,off,rfl,hb,hc⟩:=(HS.out.below GB.out).some (by omega)
    have ci:=hc k hkl
    have hx255:=HUP.out _ (List.getElem_mem hkl)
    obtain⟨x,hx⟩:∃ x,x=l[k]:=⟨_,rfl⟩
    have HX:=hideZ hx
    rw[<-hx]at ci hx255
    clear hc hx
    by_cases h0:x=0
    ·have HZ1:Hid (zst (l.take (k+1))=(lk,z+1)):=by
      unfold Hid
      rw[zst_zero hkl (by rw[<-HX.out];exact h0),HZ.out,HLK.out]
     have hbx:(x==0)=true:=beq_iff_eq.2 h0
     clear h0
     go_wp2_with fail
     go_roundw
     case rel=>exact⟨k+1,z+1,by go_num,by go_num,by omega,by rw[HZ1.out],by rw[HZ1.out];exact G1.out,GB.out⟩
     case measure=>simp[intOf];omega
    ·have HZ1:Hid (zst (l.take (k+1))=(lk++zrun z++[x+1],0)):=by
      unfold Hid
      rw[zst_other hkl (by rw[<-HX.out];exact h0),HZ.out,HX.out,HLK.out]
     have hbx:(x==0)=false:=beq_eq_false_iff_ne.2 h0
     clear h0
     go_wp2_with fail
     refine(HRS.out wr).mono ?_
     rintro e w4 ⟨v4,rfl,hown4,hne4,hbel4⟩
     have G4:=hideZ (G1.out.below hbel4)
     have B4:=hideZ (GB.out.trans (hbel4.mono hsz))
     have z4:=hbel4.size
     obtain⟨g4,cap4,rfl,hg4,hg4',ho4⟩:=own_some hown4 hne4
     have O4:=hideZ ho4
     clear hown4 hbel4 hne4 ho4
     obtain⟨rl,hrl2⟩:∃ rl,rl=zrun z:=⟨_,rfl⟩
     rw[<-hrl2]at O4 hrl HZ1 ⊢
     clear hrl2 HRS
     go_wp2_with (at_builtin;refine wpList_append_own _ rfl (.tmp 24) (.tmp 26) 114 rfl w.heap.size 2 i0 (.int .i64 0) 1 8 Tryz.underlying114 hi0 hz0 hz1 hz2 rfl (by decide) _ _ _ rfl G4.out ⟨g4,0,none⟩ _ cap4 (rl.map (Value.int .i64)) rfl (by simp) (own_news O4.out) (own_cells rl) (by unfold maxLen;omega) (by omega) (by omega) ?_)
     intro v' w5 hown' hgrow _
     have hown5:=OwnI.joined hown'
     have b5:=app_row B4.out (by omega) (Nat.le_refl _) G4.out hgrow
     have HL4:Hid ((lk++rl).length<=400):=by
      unfold Hid
      rw[List.length_append]
      omega
     obtain⟨l4,hl4⟩:∃ l4,l4=lk++rl:=⟨_,rfl⟩
     rw[<-hl4]at hown5 HZ1 HL4
     have N5:=hideZ hown5
     have B5:=hideZ b5
     have z5:=b5.size
     obtain⟨a5,cap5,rfl,_,_⟩:=hown5.ints
     have c5:w5.cell? ⟨b,off+k,none⟩=some (.int .i64 x):=by
      have h1:=((HS.out.below b5).some (by omega:0<l.length))
      obtain⟨b',off',e1,_,hc'⟩:=h1
      cases e1
      rw[hc' k hkl,HX.out]
     clear hown' hgrow hown5 b5 hl4 ci
     go_wp2_with (at_builtin;refine wpList_append_own _ rfl (.tmp 28) (.tmp 34) 114 rfl w.heap.size 2 i0 (.int .i64 0) 1 8 Tryz.underlying114 hi0 hz0 hz1 hz2 rfl (by decide) _ _ _ rfl (OwnI.alloc N5.out _) ⟨w5.heap.size,0,none⟩ 1 1 [.int .i64 (x+1)] rfl rfl (one_newI _ _ _) (one_cellI _) (by unfold maxLen;have:=HL4.out;omega) (by have:=HL4.out;omega) (by simp;omega) ?_)
     intro v' w6 hown' hgrow _
     have N6:=hideZ (OwnI.snoc hown')
     have b6:=hideZ (app_one B5.out (by omega) (Nat.le_refl _) N5.out hgrow)
     clear hown' hgrow
     go_wp2_with fail
     go_roundw
     case rel=>exact⟨k+1,0,by go_num,rfl,by omega,by rw[HZ1.out],by rw[HZ1.out];exact N6.out,b6.out⟩
     case measure=>simp[intOf];omega
   ·have hkn:k=l.length:=by have:=HLN.out;omega
    have HT:Hid (l.take k=l):=by
     unfold Hid
     rw[hkn,List.take_length]
    have HR:Hid ((zst l).1++zrun (zst l).2=lk++zrun z):=by
     unfold Hid
     rw[HLK.out,HZ.out,HT.out]
    clear hkn
    go_wp2_with fail
    refine(HRS.out wr).mono ?_
    rintro e w4 ⟨v4,rfl,hown4,hne4,hbel4⟩
    have G4:=hideZ (G1.out.below hbel4)
    have B4:=hideZ (GB.out.trans (hbel4.mono hsz))
    have z4:=hbel4.size
    obtain⟨g4,cap4,rfl,hg4,hg4',ho4⟩:=own_some hown4 hne4
    have O4:=hideZ ho4
    clear hown4 hbel4 hne4 ho4
    obtain⟨rl,hrl2⟩:∃ rl,rl=zrun z:=⟨_,rfl⟩
    rw[<-hrl2]at O4 hrl HR ⊢
    clear hrl2 HRS
    go_wp2_with (at_builtin;refine wpList_append_own _ rfl (.tmp 36) (.tmp 38) 114 rfl w.heap.size 2 i0 (.int .i64 0) 1 8 Tryz.underlying114 hi0 hz0 hz1 hz2 rfl (by decide) _ _ _ rfl G4.out ⟨g4,0,none⟩ _ cap4 (rl.map (Value.int .i64)) rfl (by simp) (own_news O4.out) (own_cells rl) (by unfold maxLen;omega) (by omega) (by omega) ?_)
    intro v' w5 hown' hgrow _
    have N5:=hideZ (OwnI.joined hown')
    have B5:=hideZ (app_row B4.out (by omega) (Nat.le_refl _) G4.out hgrow)
    clear hown' hgrow
    go_wp2_with fail
    go_ret
    exact⟨_,rfl,by rw[HR.out];exact N5.out,B5.out⟩
end Go.Proofs.YtkgjfdanjmnmbaaGreatDoor.Ze

