/- Texts put together: OrdImpl, PlaceI, BwtImpl, UnbImpl, UnbImpl2, OrdSpec, BwtSpec, UnbSpec, UnbSpec2. -/
import Derived.Test.YtkgjfdanjmnmbaaGreatDoorOz30
import Derived.Test.YtkgjfdanjmnmbaaGreatDoorOz37
import Derived.Test.YtkgjfdanjmnmbaaGreatDoorOz39
import Derived.Test.YtkgjfdanjmnmbaaGreatDoorOz36
import Derived.Test.YtkgjfdanjmnmbaaGreatDoorOz34
set_option maxRecDepth 100000
set_option maxHeartbeats 8000000
/- What the program's OrderOf answers. -/
namespace Go.Proofs.YtkgjfdanjmnmbaaGreatDoor.So
open Go.RowKit Go.Sort Go.Proofs
open In (OwnI one_newI one_cellI)
open In.Tryz (infoI2)
theorem own_not {w:World} {base g:Nat} {v:Value} {l:List Int} {cur:Array Value} {t:TypeId} (h:OwnI w base v l) (hg:w.heap[g]? = some (.cells cur t (0,0))) (ht:t≠2):∀ k,v.ownBlock=some k->k≠g:=by
 intro k hk e
 subst e
 obtain⟨_,h⟩:=h
 rcases h with⟨rfl,_⟩|⟨g',cap,c,rfl,_,hb,_⟩
 ·simp[Value.ownBlock]at hk
 ·simp[Value.ownBlock]at hk
  subst hk
  rw[hb]at hg
  simp at hg
  exact ht hg.2.symm
end Go.Proofs.YtkgjfdanjmnmbaaGreatDoor.So


namespace Go.Proofs.YtkgjfdanjmnmbaaGreatDoor.So
open Go.RowKit Go.Sort Go.Proofs
open Sh (bt bt_get bt_lt IsB)
theorem sortStable_I (T:ByteArray) (cc blk cap:Nat) (d:Array Nat) (w:World) (hH:HoldsK encI 1 w blk 0 d) (hblk:blk<w.heap.size) (hsz:d.size<=1048576) (hcap:Cap w cc T) (hcb0:cc≠blk) (hbd:∀ i,dF d i<T.size) (hid:∀ i,i<d.size->dF d i=i) :
  Calls Tryz.prog 204 #[.slice (some ⟨blk,0,none⟩) d.size cap,.func (.func 205) #[] #[.pointer (some ⟨cc,0,none⟩)]] w fun e w' =>
   e=.returned (.tuple #[])/\∃ n d' os,w'=sortWorldK encI 1 w blk 0 n d' os/\d'.size=d.size/\PermF 0 d.size (dF d) (dF d')/\Ris (clI T) 0 d.size (dF d'):=by
 have HS:=hideO (stable_I T cc blk cap d w hH hblk hsz hcap hcb0 hbd hid)
 clear hH hid hcap hbd
 generalize d.size=z at HS hsz ⊢
 go_enter Tryz.func204,Tryz.ntmps204
 go_wp2_with fail
 refine HS.out.mono ?_
 rintro e w' ⟨rfl,n,d',os,hw,hs,hp,hr⟩
 have HX:Hid (∃ n d' os,w'=sortWorldK encI 1 w blk 0 n d' os/\d'.size=z/\PermF 0 z (dF d) (dF d')/\Ris (clI T) 0 z (dF d')):=⟨n,d',os,hw,hs,hp,hr⟩
 clear hw hs hp hr
 go_wp2_with fail
 refine bodyPost_end (v:=.tuple #[]) (by simp[results,Tryz.results204,go_sem]) rfl ⟨rfl,HX.out⟩
theorem holds_isB {w:World} {g n:Nat} {f:Nat->Nat} {e:TypeId} (h:IsB w g e .i64 n (fun j=>((f j:Nat):Int))):HoldsK encI 1 w g 0 ((List.range n).map f).toArray:=by
 intro j hj
 rw[size_flatK]at hj
 have hj':j<n:=by simpa using hj
 rw[get_flatK _ _ _ _ hj,Nat.zero_add]
 refine⟨?_,h.frozen j⟩
 rw[h.cell hj']
 simp[encI,hj',Nat.mod_one]
def iotaF (k:Nat):Nat->Nat:=fun j=>if j<k then j else 0
theorem iotaF_next (k j:Nat):Sh.upd (fun j=>((iotaF k j:Nat):Int)) k (k:Nat) j=((iotaF (k+1) j:Nat):Int):=by
 unfold Sh.upd iotaF
 by_cases e:j=k
 ·subst e
  rw[if_pos rfl,if_pos (by omega)]
 ·rw[if_neg e]
  by_cases h:j<k
  ·have h':j<k+1:=by omega
   simp only[h,h',if_true]
  ·have h':¬j<k+1:=by omega
   simp only[h,h',if_false]
theorem Tryz.infoI3:(Tryz.prog.info? 3).map (fun i=>(i.zero,i.size,i.bytes))=some (some (.int .i64 0),1,8):=by kernel_rfl
theorem insertion_0 (blk cap:Nat) (cv:Value) (w:World) :
  Calls Tryz.prog 214 #[.slice (some ⟨blk,0,none⟩) 0 cap,.int .i64 0,.int .i64 0,cv] w fun e w'=>e=.returned (.tuple #[])/\w'=w:=by
 go_enter Tryz.func214,Tryz.ntmps214
 go_wp2_with fail
 go_loopw [8] (fun i wr=>i=.int .i64 1/\wr=w) (fun _ _=>0)
 case atStart=>exact⟨rfl,rfl⟩
 case round =>
  obtain⟨rfl,rfl⟩:=hrel
  go_wp2_with fail
  refine bodyPost_end (v:=.tuple #[]) (by simp[results,Tryz.results214,go_sem]) rfl ⟨rfl,rfl⟩
theorem stable_0 (blk cap:Nat) (cv:Value) (w:World) :
  Calls Tryz.prog 211 #[.slice (some ⟨blk,0,none⟩) 0 cap,.int .i64 0,cv] w fun e w'=>e=.returned (.tuple #[])/\w'=w:=by
 have HI:=hideO (insertion_0 blk cap cv w)
 go_enter Tryz.func211,Tryz.ntmps211
 go_wp2_with fail
 go_loopw [7,8] (fun u v wr=>u=.int .i64 0/\v=.int .i64 20/\wr=w) (fun _ _ _=>0)
 case atStart=>exact⟨rfl,rfl,rfl⟩
 case round =>
  obtain⟨rfl,rfl,rfl⟩:=hrel
  go_wp2_with fail
  refine HI.out.mono ?_
  rintro e w' ⟨rfl,hw⟩
  subst w'
  go_wp2_with fail
  go_loopw [6] (fun u wr2=>u=.int .i64 20/\wr2=wr) (fun _ _=>0)
  case atStart=>exact⟨rfl,rfl⟩
  case round =>
   obtain⟨rfl,hw⟩:=hrel
   subst hw
   go_wp2_with fail
   refine bodyPost_end (v:=.tuple #[]) (by simp[results,Tryz.results211,go_sem]) rfl ⟨rfl,rfl⟩
theorem sortStable_0 (blk cap:Nat) (cv:Value) (w:World) :
  Calls Tryz.prog 204 #[.slice (some ⟨blk,0,none⟩) 0 cap,cv] w fun e w'=>e=.returned (.tuple #[])/\w'=w:=by
 have HS:=hideO (stable_0 blk cap cv w)
 go_enter Tryz.func204,Tryz.ntmps204
 go_wp2_with fail
 refine HS.out.mono ?_
 rintro e w' ⟨rfl,hw⟩
 subst w'
 go_wp2_with fail
 refine bodyPost_end (v:=.tuple #[]) (by simp[results,Tryz.results204,go_sem]) rfl ⟨rfl,rfl⟩
theorem sort_all (t:ByteArray) (cc blk:Nat) (w:World) (hn:t.size<=1048576) (hB:IsB w blk 3 .i64 t.size (fun j=>((iotaF t.size j:Nat):Int))) (hcap:Cap w cc t) (hcb:cc<blk) :
  Calls Tryz.prog 204 #[.slice (some ⟨blk,0,none⟩) t.size t.size,.func (.func 205) #[] #[.pointer (some ⟨cc,0,none⟩)]] w fun e w' =>
   e=.returned (.tuple #[])/\blk<w'.heap.size/\(∀ j,j<t.size->w'.cell? ⟨blk,j,none⟩=some (.int .i64 (plF t j:Nat)))/\Below blk w w':=by
 by_cases h0:t.size=0
 ·rw[h0]
  refine(sortStable_0 blk 0 _ w).mono ?_
  rintro e w' ⟨rfl,rfl⟩
  exact⟨rfl,hB.lt,fun j hj=>absurd hj (Nat.not_lt_zero _),Below.refl _ _⟩
 ·have hH:=holds_isB hB
  have hds:((List.range t.size).map (iotaF t.size)).toArray.size=t.size:=by simp
  have hdf:∀ i,i<t.size->dF ((List.range t.size).map (iotaF t.size)).toArray i=i:=fun i hi=>by
   simp[dF,hi,iotaF]
  have hbd:∀ i,dF ((List.range t.size).map (iotaF t.size)).toArray i<t.size:=fun i=>by
   by_cases hi:i<t.size
   ·rw[hdf i hi];exact hi
   ·rw[dF_out _ _ (by rw[hds];omega)];omega
  have:=sortStable_I t cc blk t.size _ w hH hB.lt (by rw[hds];exact hn) hcap (by omega) hbd (fun i hi=>hdf i (by rw[hds]at hi;exact hi))
  rw[hds]at this
  refine this.mono ?_
  rintro e w' ⟨rfl,n,d',os,rfl,hs,hp,hr⟩
  refine⟨rfl,Nat.lt_of_lt_of_le hB.lt (world_size n d' os),fun j hj=>?_,world_below n d' os (Nat.le_refl _) (Nat.le_of_lt hB.lt)⟩
  have hH':=world_holds hH hB.lt n d' os (hs.trans hds.symm)
  have hc:=(cells_I hH' (i:=j) (by rw[hs];exact hj)).1
  rw[hc]
  have hseg:(seg (dF d') 0 t.size).Perm (List.range t.size):=by
   have h1:=hp.1
   have e:seg (dF ((List.range t.size).map (iotaF t.size)).toArray) 0 t.size=List.range t.size:=by
    unfold seg
    rw[Nat.sub_zero]
    apply List.ext_getElem
    ·simp
    ·intro i h1 h2
     have h3:i<t.size:=by simpa using h2
     simp only[List.getElem_map,List.getElem_range]
     rw[show (List.range' 0 t.size)[i]'(by simpa using h3)=i by simp]
     exact hdf i h3
   rw[e]at h1
   exact h1
  have:=plF_seg hseg hr j hj
  rw[<-this]
  rfl
theorem places_impl (t:ByteArray) (w:World) (hn:t.size<=1048576) :
  Calls Tryz.prog 192 #[.string t] w fun e w'=>∃ g,e=.returned (.slice (some ⟨g,0,none⟩) t.size t.size)/\w.heap.size<=g/\g<w'.heap.size/\(∀ j,j<t.size->w'.cell? ⟨g,j,none⟩=some (.int .i64 (plF t j:Nat)))/\Below w.heap.size w w':=by
 obtain⟨i0,hi0,hz0,hz1,hz2⟩:=info_parts Tryz.infoI3
 obtain⟨w0,hw0⟩:∃ w0,w0=w.alloc (.cells #[.string t] 9):=⟨_,rfl⟩
 have z0:w0.heap.size=w.heap.size+1:=by rw[hw0];simp
 have HC0:Hid (Cap w0 w.heap.size t):=by unfold Hid Cap;rw[hw0,cell_of_row _ w.heap.size 0 _ _ (0,0) (heap_alloc_last w _)];rfl
 have HB0:Hid (Below w.heap.size w w0):=by unfold Hid;rw[hw0];exact(Below.refl _ _).alloc (Nat.le_refl _) _
 go_enter Tryz.func192,Tryz.ntmps192
 go_wp2_with (at_make;rw[<-hw0];refine wpList_make_full _ rfl (.tmp 6) (.tmp 6) 222 rfl w0.heap.size 3 i0 (.int .i64 0) 1 Tryz.underlying222 hi0 hz0 hz1 .i64 .i64 _ _ t.size rfl rfl (by simp) (by simp) (by rw[hz2];omega) (by unfold maxLen;omega) (Nat.le_refl _) ?_;intro w1 hown1 hgrow1;have HT1:=hideO (Sh.made_rowK hown1);have hb1:=(Below.refl w0.heap.size w0).grown hgrow1 (Nat.le_refl _) (by simp);have HC1:Hid (Cap w1 w.heap.size t):=HC0.out.block (hb1.block w.heap.size (by omega));have HB1:=hideO (HB0.out.trans (hb1.mono (by omega)));have zz1:=HT1.out.lt;clear hown1 hgrow1 hb1)
 go_loopw [10] (fun i wr=>∃ k:Nat,i=.int .i64 k/\k<=t.size/\IsB wr (w.heap.size+1) 3 .i64 t.size (fun j=>((iotaF k j:Nat):Int))/\Cap wr w.heap.size t/\Below w.heap.size w wr) (fun i _=>t.size-(intOf i).toNat)
 case atStart=>exact⟨0,rfl,Nat.zero_le _,by rw[<-z0];exact HT1.out.congr (fun j _=>by simp[iotaF]),HC1.out,HB1.out⟩
 case round =>
  obtain⟨k,rfl,hk,hrow,hcap,hbel⟩:=hrel
  have T1:=hideO hrow
  have C1:=hideO hcap
  have GB:=hideO hbel
  clear hbel hcap
  by_cases hlt:k<t.size
  ·have c2:=hrow.cell (j:=k) hlt
   have f2:=hrow.frozen k
   have hkz:(k:Int)<(t.size:Int):=by omega
   have TS:=hideO ((hrow.set k (k:Nat)).congr (fun j _=>iotaF_next k j))
   have CS:Hid (Cap (wr.setCell ⟨w.heap.size+1,k,none⟩ (.int .i64 (k:Nat))) w.heap.size t):=C1.out.block (heap_setCell_other _ _ _ _ (by simp))
   have BS:=hideO (GB.out.setCell (p:=⟨w.heap.size+1,k,none⟩) (by simp) (.int .i64 (k:Nat)))
   clear hrow
   go_wp2_with fail
   go_roundw
   case rel=>exact⟨k+1,by go_num,by omega,TS.out,CS.out,BS.out⟩
   case measure=>simp[intOf];omega
  ·obtain rfl:k=t.size:=by omega
   have HS:=hideO (sort_all t w.heap.size (w.heap.size+1) wr hn T1.out C1.out (by omega))
   clear hrow
   go_wp2_with fail
   refine HS.out.mono ?_
   rintro e w2 ⟨rfl,hz,hc,hb⟩
   have HC:=hideO hc
   have HB2:=hideO (GB.out.trans (hb.mono (by omega)))
   clear hc hb
   go_wp2_with fail
   go_ret
   exact⟨_,rfl,by omega,hz,HC.out,HB2.out⟩
end Go.Proofs.YtkgjfdanjmnmbaaGreatDoor.So


namespace Go.Proofs.YtkgjfdanjmnmbaaGreatDoor.So
open Go.RowKit Go.Sort Go.Proofs
open Sh (bt bt_get bt_lt strF IsB made_row)
def sOut (t:ByteArray) (a c:Nat):Value:=.agg #[.string t,.int .i64 a,.int .i64 c]
def IsR (w:World) (g:Nat):Prop:=w.heap[g]? = some (.cells #[.string ⟨#[]⟩,.int .i64 0,.int .i64 0] 151 (0,0))
theorem IsR.cells {w:World} {g:Nat} (h:IsR w g):w.cell? ⟨g,0,none⟩=some (.string ⟨#[]⟩)/\w.cell? ⟨g,1,none⟩=some (.int .i64 0)/\w.cell? ⟨g,2,none⟩=some (.int .i64 0)/\(∀ j,w.frozen? ⟨g,j,none⟩=false):=by
 refine⟨?_,?_,?_,fun j=>frozen_of_row w g j _ _ h⟩
 ·rw[cell_of_row w g 0 _ _ (0,0) h];rfl
 ·rw[cell_of_row w g 1 _ _ (0,0) h];rfl
 ·rw[cell_of_row w g 2 _ _ (0,0) h];rfl
theorem atK_next (f:Nat->Nat) (k:Nat):(f k=0->atK f (k+1)=k)/\(f k≠0->atK f (k+1)=atK f k):=by
 constructor
 ·intro h;rw[atK,if_pos h]
 ·intro h;rw[atK,if_neg h]
theorem bwt_impl (t:ByteArray) (w:World) (hn:t.size<=1048576) :
  Calls Tryz.prog 93 #[.string t] w fun e w'=>e=.returned (sOut (bwtT t) (bwtA t) (bwtC t))/\Below w.heap.size w w':=by
 obtain⟨i0,hi0,hz0,hz1,hz2⟩:=info_parts Nu.Tryz.infoJ5
 by_cases hbig:8000<t.size
 ·have HV:Hid (sOut (bwtT t) (bwtA t) (bwtC t)=sOut ⟨#[]⟩ 0 2):=by
   unfold Hid
   rw[(bwt_no (by omega)).1,(bwt_no (by omega)).2,bwtC,if_pos hbig]
  go_enter Tryz.func93,Tryz.ntmps93
  go_wp2_with fail
  refine bodyPost_ret (v:=sOut ⟨#[]⟩ 0 2) (by simp[results,sOut,Tryz.results93,go_sem]) rfl ⟨by rw[HV.out],?_⟩
  exact(Below.refl _ _).alloc (Nat.le_refl _) _
 ·have hbig':¬(8000:Int)<(t.size:Int):=by omega
  by_cases hlong:48<t.size
  ·have HV:Hid (sOut (bwtT t) (bwtA t) (bwtC t)=sOut ⟨#[]⟩ 0 1):=by
    unfold Hid
    rw[(bwt_no (by omega)).1,(bwt_no (by omega)).2,bwtC,if_neg hbig,if_pos hlong]
   go_enter Tryz.func93,Tryz.ntmps93
   go_wp2_with fail
   refine bodyPost_ret (v:=sOut ⟨#[]⟩ 0 1) (by simp[results,sOut,Tryz.results93,go_sem]) rfl ⟨by rw[HV.out],?_⟩
   exact(Below.refl _ _).alloc (Nat.le_refl _) _
  ·have hlong':¬(48:Int)<(t.size:Int):=by omega
   obtain⟨w0,hw0⟩:∃ w0,w0=w.alloc (.cells #[.string ⟨#[]⟩,.int .i64 0,.int .i64 0] 151):=⟨_,rfl⟩
   have z0:w0.heap.size=w.heap.size+1:=by rw[hw0];simp
   have HR0:Hid (IsR w0 w.heap.size):=by unfold Hid;rw[hw0];exact heap_alloc_last w _
   have HB0:Hid (Below w.heap.size w w0):=by unfold Hid;rw[hw0];exact(Below.refl _ _).alloc (Nat.le_refl _) _
   go_enter Tryz.func93,Tryz.ntmps93
   go_wp2_with (at_make;rw[<-hw0];refine wpList_make_full _ rfl (.tmp 16) (.tmp 16) 87 rfl w0.heap.size 5 i0 (.int .u8 0) 1 Tryz.underlying87 hi0 hz0 hz1 .i64 .i64 _ _ t.size rfl rfl (by simp) (by simp) (by rw[hz2];omega) (by unfold maxLen;omega) (Nat.le_refl _) ?_;intro w1 hown1 hgrow1;have HT1:=hideO (made_row hown1);have hb1:=(Below.refl w0.heap.size w0).grown hgrow1 (Nat.le_refl _) (by simp);have HR1:Hid (IsR w1 w.heap.size):=(hb1.block w.heap.size (by omega)).trans HR0.out;have HB1:=hideO (HB0.out.trans (hb1.mono (by omega)));have zz1:=HT1.out.lt;clear hown1 hgrow1 hb1)
   refine(sorted_T t hn w1).mono ?_
   rintro e w2 ⟨g,cap,d,rfl,hg1,hg2,hH,hds,hp,hr,⟨cur,hty⟩,hb2⟩
   have HH:=hideO hH
   have HDS:=hideO hds
   have HB2:=hideO (HB1.out.trans (hb2.mono HB1.out.size))
   have HR2:Hid (IsR w2 w.heap.size):=(hb2.block w.heap.size (by omega)).trans HR1.out
   have HT2:=hideO (HT1.out.below hb2 zz1)
   have z2:=hb2.size
   have HXT:Hid (∀ k,k<t.size->d[k]! < t.size):=fun k hk=>by
    have:dF d k∈seg (dF d) 0 t.size:=by
     rw[seg,List.mem_map]
     exact⟨k,by simp;omega,by simp⟩
    have:=hp.mem_iff.1 this
    have h2:=List.mem_range.1 this
    exact h2
   have HE:=hideO (bwt_yes (by omega) (ordF_seg (ord_seg hp hr)))
   clear hH hds hp hr hb2 hty
   go_wp2_with fail
   go_loopw [21,4] (fun i a wr=>∃ k:Nat,i=.int .i64 k/\k<=t.size/\a=.int .i64 (atK (dF d) k:Nat)/\IsB wr (w.heap.size+1) 5 .u8 t.size (fun j=>((fillL t (dF d) k j:Nat):Int))/\IsR wr w.heap.size/\wr.heap[g]? = w2.heap[g]?/\Below w.heap.size w wr) (fun i _ _=>t.size-(intOf i).toNat)
   case atStart=>exact⟨0,rfl,Nat.zero_le _,rfl,by rw[<-z0];exact HT2.out.congr (fun j _=>by simp[fillL]),HR2.out,rfl,HB2.out⟩
   case round =>
    obtain⟨k,rfl,hk,rfl,htxt,hres,hbg,hbel⟩:=hrel
    have T1:=hideO htxt
    have R1:=hideO hres
    have GB:=hideO hbel
    have HBG:=hideO hbg
    have hsz:=htxt.lt
    clear hbel
    by_cases hlt:k<t.size
    ·obtain⟨x0c,_,x1c,_⟩:=cells_T (holds_block HH.out hbg) (i:=k) (by rw[HDS.out];exact hlt)
     have hkz:(k:Int)<(t.size:Int):=by omega
     have hxt:=HXT.out k hlt
     have HN:=hideO (fillL_next t (dF d) k)
     have HA:=hideO (atK_next (dF d) k)
     have HX:Hid (dF d k=d[k]!):=rfl
     obtain⟨x,hx⟩:∃ x,x=d[k]!:=⟨_,rfl⟩
     rw[<-hx]at x0c x1c hxt HX
     rw[HX.out]at HN HA
     obtain⟨p,hp⟩:∃ p,t.size=p+1:=⟨t.size-1,by omega⟩
     have e1:(t.size:Int)-1=(p:Int):=by omega
     have hwp:IntKind.i64.wrap (p:Int)=(p:Int):=by rw[IntKind.wrap_i64];omega
     have htz:=turnV_size t x (by omega)
     have hlast:=turnV_last t x hxt
     rw[show t.size-1=p by omega]at hlast
     have hpx:p<(turnV t x).size:=by omega
     obtain⟨y,hy,hyt⟩:∃ y:UInt8,(turnV t x)[p]=y/\y.toNat=lastB t x:=⟨_,rfl,(bt_get _ _ hpx).trans hlast⟩
     rw[<-hyt]at HN
     generalize turnV t x=tx at x1c hpx hy htz
     have hpx':(p:Int)<(tx.size:Int):=by omega
     have c2:=htxt.cell (j:=k) hlt
     have f2:=htxt.frozen k
     have hgl:g<wr.heap.size:=by
      have:=GB.out.size
      have h2:w2.heap[g]?≠none:=by rw[Array.getElem?_eq_getElem hg2];simp
      rw[<-hbg]at h2
      exact Nat.lt_of_not_le fun h=>h2 (Array.getElem?_eq_none h)
     have HTN:=hideO fun W (h:IsB W (w.heap.size+1) 5 .u8 t.size (fun j=>((fillL t (dF d) k j:Nat):Int)))=>(h.set k (y.toNat:Nat)).congr (fun j _=>HN.out j)
     obtain⟨m,hm⟩:∃ m,m=atK (dF d) k:=⟨_,rfl⟩
     rw[<-hm]at HA ⊢
     clear hx htxt hres hbg hlast hyt hm
     have TS:=HTN.out wr T1.out
     have RS:IsR (wr.setCell ⟨w.heap.size+1,k,none⟩ (.int .u8 (y.toNat:Nat))) w.heap.size:=by
      unfold IsR
      rw[heap_setCell_other _ _ _ _ (by simp)]
      exact R1.out
     have GS:(wr.setCell ⟨w.heap.size+1,k,none⟩ (.int .u8 (y.toNat:Nat))).heap[g]? = w2.heap[g]?:=by
      rw[heap_setCell_other _ _ _ _ (by simp;omega)]
      exact HBG.out
     have BS:=GB.out.setCell (p:=⟨w.heap.size+1,k,none⟩) (by simp) (.int .u8 (y.toNat:Nat))
     have LS:g<(wr.setCell ⟨w.heap.size+1,k,none⟩ (.int .u8 (y.toNat:Nat))).heap.size:=by simpa using hgl
     have HS:Hid (∀ o:Obj,IsB ((wr.setCell ⟨w.heap.size+1,k,none⟩ (.int .u8 (y.toNat:Nat))).alloc o) (w.heap.size+1) 5 .u8 t.size (fun j=>((fillL t (dF d) (k+1) j:Nat):Int))/\IsR ((wr.setCell ⟨w.heap.size+1,k,none⟩ (.int .u8 (y.toNat:Nat))).alloc o) w.heap.size/\((wr.setCell ⟨w.heap.size+1,k,none⟩ (.int .u8 (y.toNat:Nat))).alloc o).heap[g]? = w2.heap[g]?/\Below w.heap.size w ((wr.setCell ⟨w.heap.size+1,k,none⟩ (.int .u8 (y.toNat:Nat))).alloc o)):=by
      intro o
      generalize wr.setCell ⟨w.heap.size+1,k,none⟩ (.int .u8 (y.toNat:Nat))=W at TS RS GS BS LS ⊢
      have ba:Below W.heap.size W (W.alloc o):=(Below.refl _ _).alloc (Nat.le_refl _) _
      have h1:=TS.lt
      exact⟨TS.below ba h1,(ba.block _ (by omega)).trans RS,(ba.block _ LS).trans GS,BS.trans (ba.mono BS.size)⟩
     clear TS RS GS BS LS
     by_cases hx0:x=0
     ·subst hx0
      have HM:=hideO (HA.out.1 rfl)
      go_wp2_with fail
      go_roundw
      case rel=>exact⟨k+1,by go_num,by omega,by rw[HM.out],HS.out _⟩
      case measure=>simp[intOf];omega
     ·have HM:=hideO (HA.out.2 hx0)
      have hxz:((x:Int)==0)=false:=by simpa using hx0
      go_wp2_with fail
      go_roundw
      case rel=>exact⟨k+1,by go_num,by omega,by rw[HM.out],HS.out _⟩
      case measure=>simp[intOf];omega
    ·obtain rfl:k=t.size:=by omega
     have hcv:=htxt.str (P:=Tryz.prog) (src:=87) (dst:=9) t.size t.size (Nat.le_refl _) (fun j _=>fillL_lt _ _ _ j) Tryz.underlying87 Tryz.underlying5 Tryz.underlying9
     rw[fillL_all]at hcv
     obtain⟨c0,c1,c2,f0⟩:=hres.cells
     have HV:Hid (sOut (bwtT t) (bwtA t) (bwtC t)=sOut (strF t.size (fun j=>lastB t (dF d j))) (atK (dF d) t.size) 0):=by
      unfold Hid
      rw[HE.out.1,HE.out.2.1,HE.out.2.2]
     obtain⟨q,hq⟩:∃ q,q=strF t.size (fun j=>lastB t (dF d j)):=⟨_,rfl⟩
     obtain⟨m,hm⟩:∃ m,m=atK (dF d) t.size:=⟨_,rfl⟩
     rw[<-hq]at hcv HV
     rw[<-hm]at HV ⊢
     clear htxt hres hbg hq hm
     go_wp2_with fail
     refine bodyPost_ret (v:=sOut q m 0) (by simp[results,sOut,Tryz.results93,go_sem,c0,c1,c2]) rfl ⟨by rw[HV.out],?_⟩
     exact((GB.out.setCell (Nat.le_refl _) _).setCell (Nat.le_refl _) _).setCell (Nat.le_refl _) _
end Go.Proofs.YtkgjfdanjmnmbaaGreatDoor.So


namespace Go.Proofs.YtkgjfdanjmnmbaaGreatDoor.So
open Go.RowKit Go.Sort Go.Proofs
open Sh (bt bt_get bt_lt strF IsB made_row)
theorem turnBack_impl (t:ByteArray) (a:Nat) (w:World) (hn:t.size<=1048576) (ha:a<t.size∨t.size=0) :
  Calls Tryz.prog 172 #[.string t,.int .i64 a] w fun e w'=>e=.returned (.string (backT t a))/\Below w.heap.size w w':=by
 obtain⟨i0,hi0,hz0,hz1,hz2⟩:=info_parts Nu.Tryz.infoJ5
 have HPL:=hideO (places_impl t w hn)
 go_enter Tryz.func172,Tryz.ntmps172
 go_wp2_with fail
 refine HPL.out.mono ?_
 rintro e w1 ⟨g,rfl,hg1,hg2,hc,hb1⟩
 have HC:=hideO hc
 have HB1:=hideO hb1
 have z1:=hb1.size
 clear hc hb1
 go_wp2_with (at_make;refine wpList_make_full _ rfl (.tmp 12) (.tmp 12) 87 rfl w1.heap.size 5 i0 (.int .u8 0) 1 Tryz.underlying87 hi0 hz0 hz1 .i64 .i64 _ _ t.size rfl rfl (by simp) (by simp) (by rw[hz2];omega) (by unfold maxLen;omega) (Nat.le_refl _) ?_;intro w2 hown2 hgrow2;have HT2:=hideO (made_row hown2);have HB2:=hideO ((Below.refl w1.heap.size w1).grown hgrow2 (Nat.le_refl _) (by simp));clear hown2 hgrow2)
 go_loopw [17,7] (fun i m wr=>∃ k:Nat,i=.int .i64 k/\k<=t.size/\m=.int .i64 (itR t a k:Nat)/\IsB wr w1.heap.size 5 .u8 t.size (fun j=>((fillK t a k j:Nat):Int))/\Below w1.heap.size w1 wr) (fun i _ _=>t.size-(intOf i).toNat)
 case atStart=>exact⟨0,rfl,Nat.zero_le _,rfl,HT2.out.congr (fun j _=>by simp[fillK]),HB2.out⟩
 case round =>
  obtain⟨k,rfl,hk,rfl,hrow,hbel⟩:=hrel
  have T1:=hideO hrow
  have GB:=hideO hbel
  have hsz:=hrow.lt
  clear hbel
  by_cases hlt:k<t.size
  ·have hat:a<t.size:=by omega
   have hr1:=itR_lt t a k hat
   have hr2:=itR_lt t a (k+1) hat
   have e0:itR t a (k+1)=plF t (itR t a k):=rfl
   have c1:wr.cell? ⟨g,itR t a k,none⟩=some (.int .i64 (itR t a (k+1):Nat)):=by
    rw[GB.out.cell (p:=⟨g,itR t a k,none⟩) hg2,e0]
    exact HC.out _ hr1
   have HN:=hideO (fillK_next t a k)
   obtain⟨p,hp⟩:∃ p,p=itR t a k:=⟨_,rfl⟩
   obtain⟨q,hq⟩:∃ q,q=itR t a (k+1):=⟨_,rfl⟩
   have HQ:=hideO hq
   rw[<-hp,<-hq]at c1
   rw[<-hq]at hr2 HN
   rw[<-hp]at hr1 ⊢
   have hpz:(p:Int)<(t.size:Int):=by omega
   have hqz:(q:Int)<(t.size:Int):=by omega
   have hkz:(k:Int)<(t.size:Int):=by omega
   obtain⟨y,hy,hyt⟩:∃ y:UInt8,t[q]=y/\y.toNat=bt t q:=⟨_,rfl,bt_get _ _ hr2⟩
   rw[<-hyt]at HN
   have c2:=hrow.cell (j:=k) hlt
   have f2:=hrow.frozen k
   have TS:=hideO ((hrow.set k (y.toNat:Nat)).congr (fun j _=>HN.out j))
   have BS:=hideO (GB.out.setCell (p:=⟨w1.heap.size,k,none⟩) (Nat.le_refl _) (.int .u8 (y.toNat:Nat)))
   clear hrow hp hq hyt e0 ha
   go_wp2_with fail
   go_roundw
   case rel=>exact⟨k+1,by go_num,by omega,by rw[<-HQ.out],TS.out,BS.out⟩
   case measure=>simp[intOf];omega
  ·obtain rfl:k=t.size:=by omega
   have hcv:=hrow.str (P:=Tryz.prog) (src:=87) (dst:=9) t.size t.size (Nat.le_refl _) (fun j _=>fillK_lt _ _ _ j) Tryz.underlying87 Tryz.underlying5 Tryz.underlying9
   rw[fillK_all]at hcv
   have BZ:=hideO (HB1.out.trans (GB.out.mono z1))
   generalize itR t a t.size=m
   clear hrow ha
   go_wp2_with fail
   go_ret
   exact⟨rfl,BZ.out⟩
theorem isPlace_impl (t:ByteArray) (a:Int) (w:World) :
  Calls Tryz.prog 171 #[.string t,.int .i64 a] w fun e w'=>e=.returned (.bool (!decide (a<0∨((t.size:Int)<=a/\0<a))))/\w'=w:=by
 by_cases h0:a=0
 ·subst h0
  rw[decide_eq_false (by omega)]
  go_enter Tryz.func171,Tryz.ntmps171
  go_wp2_with fail
  go_ret
  exact⟨rfl,rfl⟩
 ·have hz:(a==0)=false:=beq_eq_false_iff_ne.2 h0
  by_cases h1:0<a
  ·have hd:decide (0<a)=true:=decide_eq_true h1
   by_cases h2:a<(t.size:Int)
   ·have hd2:decide (a<(t.size:Int))=true:=decide_eq_true h2
    rw[decide_eq_false (by omega)]
    clear h0
    go_enter Tryz.func171,Tryz.ntmps171
    go_wp2_with fail
    go_ret
    exact⟨rfl,rfl⟩
   ·have hd2:decide (a<(t.size:Int))=false:=decide_eq_false h2
    rw[decide_eq_true (by omega)]
    clear h0
    go_enter Tryz.func171,Tryz.ntmps171
    go_wp2_with fail
    go_ret
    exact⟨rfl,rfl⟩
  ·have hd:decide (0<a)=false:=decide_eq_false h1
   rw[decide_eq_true (by omega)]
   clear h0
   go_enter Tryz.func171,Tryz.ntmps171
   go_wp2_with fail
   go_ret
   exact⟨rfl,rfl⟩
end Go.Proofs.YtkgjfdanjmnmbaaGreatDoor.So


namespace Go.Proofs.YtkgjfdanjmnmbaaGreatDoor.So
open Go.RowKit Go.Sort Go.Proofs
def IsX (w:World) (g:Nat):Prop:=w.heap[g]? = some (.cells #[.string ⟨#[]⟩,.int .i64 0,.int .i64 0] 67 (0,0))
theorem IsX.cells {w:World} {g:Nat} (h:IsX w g):w.cell? ⟨g,0,none⟩=some (.string ⟨#[]⟩)/\w.cell? ⟨g,1,none⟩=some (.int .i64 0)/\w.cell? ⟨g,2,none⟩=some (.int .i64 0)/\(∀ j,w.frozen? ⟨g,j,none⟩=false):=by
 refine⟨?_,?_,?_,fun j=>frozen_of_row w g j _ _ h⟩
 ·rw[cell_of_row w g 0 _ _ (0,0) h];rfl
 ·rw[cell_of_row w g 1 _ _ (0,0) h];rfl
 ·rw[cell_of_row w g 2 _ _ (0,0) h];rfl
theorem bwtC_no {t:ByteArray} (h:t.size<=48):bwtC t=0:=by
 unfold bwtC
 rw[if_neg (by omega),if_neg (by omega)]
theorem unbwt_impl (t:ByteArray) (a:Int) (w:World) (hn:t.size<=1048576) :
  Calls Tryz.prog 134 #[.string t,.int .i64 a] w fun e w'=>e=.returned (unR t a)/\Below w.heap.size w w':=by
 by_cases hbig:8000<t.size
 ·have HV:=hideO (unR_big (a:=a) hbig)
  go_enter Tryz.func134,Tryz.ntmps134
  go_wp2_with fail
  refine bodyPost_ret (v:=tOut ⟨#[]⟩ 0 2) (by simp[results,tOut,Tryz.results134,go_sem]) rfl ⟨by rw[HV.out],?_⟩
  exact(Below.refl _ _).alloc (Nat.le_refl _) _
 ·have hbig':¬(8000:Int)<(t.size:Int):=by omega
  by_cases hlong:48<t.size
  ·have HV:=hideO (unR_form (a:=a) hbig (Or.inl hlong))
   have hd:decide ((48:Int)<(t.size:Int))=true:=decide_eq_true (by omega)
   go_enter Tryz.func134,Tryz.ntmps134
   go_wp2_with fail
   refine bodyPost_ret (v:=tOut ⟨#[]⟩ 0 1) (by simp[results,tOut,Tryz.results134,go_sem]) rfl ⟨by rw[HV.out],?_⟩
   exact(Below.refl _ _).alloc (Nat.le_refl _) _
  ·have hlong':¬(48:Int)<(t.size:Int):=by omega
   have hd:decide ((48:Int)<(t.size:Int))=false:=decide_eq_false (by omega)
   obtain⟨w0,hw0⟩:∃ w0,w0=w.alloc (.cells #[.string ⟨#[]⟩,.int .i64 0,.int .i64 0] 67):=⟨_,rfl⟩
   have z0:w0.heap.size=w.heap.size+1:=by rw[hw0];simp
   have HR0:Hid (IsX w0 w.heap.size):=by unfold Hid;rw[hw0];exact heap_alloc_last w _
   have HB0:Hid (Below w.heap.size w w0):=by unfold Hid;rw[hw0];exact(Below.refl _ _).alloc (Nat.le_refl _) _
   have HIP:=hideO (isPlace_impl t a w0)
   by_cases hbad:a<0∨((t.size:Int)<=a/\0<a)
   ·have HV:=hideO (unR_form hbig (Or.inr hbad))
    rw[decide_eq_true hbad]at HIP
    go_enter Tryz.func134,Tryz.ntmps134
    go_wp2_with fail
    rw[<-hw0]
    refine HIP.out.mono ?_
    rintro e w' ⟨rfl,hw⟩
    subst w'
    subst hw0
    go_wp2_with fail
    refine bodyPost_ret (v:=tOut ⟨#[]⟩ 0 1) (by simp[results,tOut,Tryz.results134,go_sem]) rfl ⟨by rw[HV.out],?_⟩
    exact(Below.refl _ _).alloc (Nat.le_refl _) _
   ·rw[decide_eq_false hbad]at HIP
    obtain⟨m,rfl⟩:∃ m:Nat,a=m:=⟨a.toNat,by omega⟩
    have HTB:=hideO (turnBack_impl t m w0 hn (by omega))
    have hbz:=backT_size t m
    have HBW:=hideO (fun W=>bwt_impl (backT t m) W (by omega))
    rw[bwtC_no (show (backT t m).size<=48 by omega)]at HBW
    have HY:=hideO (fun h=>unR_yes (t:=t) (a:=m) (by omega) (by omega) h)
    have HNO:=hideO (fun h=>unR_no (t:=t) (a:=m) (by omega) (by omega) h)
    obtain⟨b,hb⟩:∃ b,b=backT t m:=⟨_,rfl⟩
    obtain⟨bt',hbt⟩:∃ bt',bt'=bwtT b:=⟨_,rfl⟩
    obtain⟨ba,hba⟩:∃ ba,ba=bwtA b:=⟨_,rfl⟩
    rw[<-hb]at HTB HBW HY HNO
    rw[<-hbt,<-hba]at HBW HY HNO
    unfold sOut at HBW
    clear hb hbt hba hbz hbad
    by_cases hq:bt'=t/\ba=m
    ·obtain⟨rfl,rfl⟩:=hq
     have HV:=hideO (HY.out ⟨rfl,rfl⟩)
     clear HY HNO
     go_enter Tryz.func134,Tryz.ntmps134
     go_wp2_with fail
     rw[<-hw0]
     refine HIP.out.mono ?_
     rintro e w' ⟨rfl,hw⟩
     subst w'
     go_wp2_with fail
     rw[<-hw0]
     refine HTB.out.mono ?_
     rintro e w1 ⟨rfl,hb1⟩
     have HR1:Hid (IsX w1 w.heap.size):=(hb1.block w.heap.size (by omega)).trans HR0.out
     have HB1:=hideO (HB0.out.trans (hb1.mono (by omega)))
     have z1:=hb1.size
     clear hb1
     go_wp2_with fail
     refine(HBW.out w1).mono ?_
     rintro e w2 ⟨rfl,hb2⟩
     have hr2:IsX w2 w.heap.size:=(hb2.block w.heap.size (by omega)).trans HR1.out
     have GB:=hideO (HB1.out.trans (hb2.mono (by omega)))
     have z2:=hb2.size
     obtain⟨c0,c1,c2,f0⟩:=hr2.cells
     clear hr2 hb2
     go_wp2_with fail
     refine bodyPost_ret (v:=tOut b 0 0) (by simp[results,tOut,Tryz.results134,go_sem,c0,c1,c2]) rfl ⟨by rw[HV.out],?_⟩
     exact((GB.out.setCell (Nat.le_refl _) _).setCell (Nat.le_refl _) _).setCell (Nat.le_refl _) _
    ·have HV:=hideO (HNO.out hq)
     by_cases hqt:bt'=t
     ·subst hqt
      have hqm:((ba:Int)==(m:Int))=false:=beq_eq_false_iff_ne.2 (fun e=>hq ⟨rfl,by omega⟩)
      clear hq
      clear HY HNO
      go_enter Tryz.func134,Tryz.ntmps134
      go_wp2_with fail
      rw[<-hw0]
      refine HIP.out.mono ?_
      rintro e w' ⟨rfl,hw⟩
      subst w'
      go_wp2_with fail
      rw[<-hw0]
      refine HTB.out.mono ?_
      rintro e w1 ⟨rfl,hb1⟩
      have HR1:Hid (IsX w1 w.heap.size):=(hb1.block w.heap.size (by omega)).trans HR0.out
      have HB1:=hideO (HB0.out.trans (hb1.mono (by omega)))
      have z1:=hb1.size
      clear hb1
      go_wp2_with fail
      refine(HBW.out w1).mono ?_
      rintro e w2 ⟨rfl,hb2⟩
      have hr2:IsX w2 w.heap.size:=(hb2.block w.heap.size (by omega)).trans HR1.out
      have GB:=hideO (HB1.out.trans (hb2.mono (by omega)))
      have z2:=hb2.size
      obtain⟨c0,c1,c2,f0⟩:=hr2.cells
      clear hr2 hb2
      go_wp2_with fail
      refine bodyPost_ret (v:=tOut ⟨#[]⟩ 0 3) (by simp[results,tOut,Tryz.results134,go_sem,c0,c1,c2]) rfl ⟨by rw[HV.out],?_⟩
      exact((GB.out.setCell (Nat.le_refl _) _).setCell (Nat.le_refl _) _).setCell (Nat.le_refl _) _
     ·have hqe:(bt'.toList==t.toList)=false:=by rw[list_eq_iff];exact decide_eq_false hqt
      clear hq hqt
      clear HY HNO
      go_enter Tryz.func134,Tryz.ntmps134
      go_wp2_with fail
      rw[<-hw0]
      refine HIP.out.mono ?_
      rintro e w' ⟨rfl,hw⟩
      subst w'
      go_wp2_with fail
      rw[<-hw0]
      refine HTB.out.mono ?_
      rintro e w1 ⟨rfl,hb1⟩
      have HR1:Hid (IsX w1 w.heap.size):=(hb1.block w.heap.size (by omega)).trans HR0.out
      have HB1:=hideO (HB0.out.trans (hb1.mono (by omega)))
      have z1:=hb1.size
      clear hb1
      go_wp2_with fail
      refine(HBW.out w1).mono ?_
      rintro e w2 ⟨rfl,hb2⟩
      have hr2:IsX w2 w.heap.size:=(hb2.block w.heap.size (by omega)).trans HR1.out
      have GB:=hideO (HB1.out.trans (hb2.mono (by omega)))
      have z2:=hb2.size
      obtain⟨c0,c1,c2,f0⟩:=hr2.cells
      clear hr2 hb2
      go_wp2_with fail
      refine bodyPost_ret (v:=tOut ⟨#[]⟩ 0 3) (by simp[results,tOut,Tryz.results134,go_sem,c0,c1,c2]) rfl ⟨by rw[HV.out],?_⟩
      exact((GB.out.setCell (Nat.le_refl _) _).setCell (Nat.le_refl _) _).setCell (Nat.le_refl _) _
end Go.Proofs.YtkgjfdanjmnmbaaGreatDoor.So


namespace Go.Proofs.YtkgjfdanjmnmbaaGreatDoor.So
open Go.RowKit
open In (OwnI IsO one_newI one_cellI)
open In.Tryz (infoI2)
open Ze (own_some own_news own_cells)
theorem turn_spec (t:ByteArray) (k:Nat) (w:World) (ht:t.size<=1048576) (hk:k<=t.size) :
  Calls Tryz.prog 185 #[.string t,.int .i64 k] w fun e w'=>e=.returned (.string (turnV t k))/\∃ q,w'=w.drewN q:=by
 have mixed:=mixed
 unfold turnV
 have hq0:(t.extract k t.size).size+(t.extract 0 k).size<=9223372036854775807:=by simp;omega
 have hle:(k:Int)<=(t.size:Int):=by omega
 have hge:¬(t.size:Int)<(k:Int):=by omega
 go_enter Tryz.func185,Tryz.ntmps185
 go_wp2_with fail
 go_quiet (fail)
 go_wp2_with fail
 go_ret
 exact⟨rfl,nq,rfl⟩
theorem below_drewN {B:Nat} {w w':World} (h:Below B w w') (n:Nat):Below B w (w'.drewN n):=⟨h.os,h.tape,h.output,h.size,h.block⟩
theorem own_drewN {w:World} {base:Nat} {v:Value} {l:List Int} (h:OwnI w base v l) (n:Nat):OwnI (w.drewN n) base v l :=
 h.below (below_drewN (Below.refl _ _) n)
theorem isO_take {w:World} {g:Nat} {l:List Nat} (h:IsO w g 2 (ints l)) (p:Nat):IsO w g 2 (ints (l.take p)):=by
 obtain⟨cur,hb,hc⟩:=h
 refine⟨cur,hb,fun j hj=>?_⟩
 have hj2:j<min p l.length:=by simpa [ints] using hj
 have hj':j<p/\j<l.length:=by omega
 have:=hc j (by rw[ints_len];exact hj'.2)
 simpa [ints] using this
theorem isO_drop {w:World} {g:Nat} {l:List Nat} (h:IsO w g 2 (ints l)) (p:Nat):∀ (j:Nat) (u:Value),((ints (l.drop p)).map (Value.int .i64))[j]? = some u->w.cell? ((⟨g,p,none⟩:Addr).add j)=some u:=by
 intro j u hj
 have hadd:(⟨g,p,none⟩:Addr).add j=⟨g,p+j,none⟩:=by unfold Addr.add;split<;>simp_all
 rw[hadd]
 simp only[ints,List.getElem?_map,List.getElem?_drop]at hj
 cases hl:l[p+j]? with
 |none=>rw[hl]at hj;cases hj
 |some x =>
  rw[hl]at hj
  obtain⟨hlt,hx⟩:=List.getElem?_eq_some_iff.1 hl
  rw[h.cell (j:=p+j) (by rw[ints_len];exact hlt)]
  simp[ints,hx]at hj ⊢
  exact hj
theorem block_spec (t:ByteArray) (w:World) (hn:t.size<=1048576):Calls Tryz.prog 81 #[.string t] w fun e w'=>e=.returned (.bool (decide (t.size<=48)))/\w'=w:=by
 by_cases h:t.size<=48
 ·rw[decide_eq_true h]
  have h':(t.size:Int)<=48:=by omega
  go_enter Tryz.func81,Tryz.ntmps81
  go_wp2_with fail
  go_ret
  exact⟨rfl,rfl⟩
 ·rw[decide_eq_false h]
  have h':decide ((t.size:Int)<=48)=false:=decide_eq_false (by omega)
  go_enter Tryz.func81,Tryz.ntmps81
  go_wp2_with fail
  go_ret
  exact⟨rfl,rfl⟩
theorem own_ne {w:World} {base:Nat} {v:Value} {l:List Int} (h:OwnI w base v l) (hl:0<l.length):v≠.slice none 0 0:=by
 rcases h.split with⟨_,rfl⟩|⟨g,cap,rfl,_⟩
 ·simp at hl
 ·simp
theorem order_spec (t:ByteArray) (w:World) (ht:t.size<=48) :
  Calls Tryz.prog 151 #[.string t] w fun e w'=>∃ v l,e=.returned v/\OwnI w' w.heap.size v (ints l)/\OrdOk t l/\v≠.slice none 0 0/\Below w.heap.size w w':=by
 have mixed:=mixed
 obtain⟨i0,hi0,hz0,hz1,hz2⟩:=info_parts infoI2
 have HW:=hideO (Ze.OwnI.empty w)
 have HT:=hideO (fun (k:Nat) (W:World) (hk:k<=t.size)=>turn_spec t k W (by omega) hk)
 have htz:(t.size:Int)<=48:=by omega
 go_enter Tryz.func151,Tryz.ntmps151
 go_wp2_with fail
 go_loopw [4,3] (fun i u wr=>∃ (k:Nat) (l:List Nat),i=.int .i64 k/\k<=t.size/\l.Perm (List.range k)/\l.Pairwise (lx (clT (turnV t)))/\OwnI wr w.heap.size u (ints l)/\u≠.slice none 0 0/\Below w.heap.size w wr) (fun i _ _=>t.size-(intOf i).toNat)
 case atStart=>exact⟨0,[],rfl,Nat.zero_le _,List.Perm.refl _,List.Pairwise.nil,HW.out,by simp,(Below.refl _ _).alloc (Nat.le_refl _) _⟩
 case round =>
  obtain⟨k,l,rfl,hk,hp,hs,hown,hne,hbel⟩:=hrel
  have HP:=hideO hp
  have HS:=hideO hs
  have GB:=hideO hbel
  have hsz:=hbel.size
  have hlk:l.length=k:=by have:=hp.length_eq;simpa using this
  have HL:=hideO hlk
  have G1:=hideO hown
  obtain⟨g,cap,rfl,hg,hgl,ho⟩:=own_some hown hne
  rw[ints_len,hlk]at G1 ⊢
  have HO:=hideO ho
  have hcap:k<=cap:=by
   obtain⟨_,h⟩:=hown
   rcases h with⟨h,_⟩|⟨g',cap',cur,hv,_,_,hle,_⟩
   ·cases h
   ·simp at hv
    rw[ints_len,hlk]at hle
    omega
  have hcm:cap<=maxLen:=by
   obtain⟨_,h⟩:=hown
   rcases h with⟨h,_⟩|⟨g',cap',cur,hv,_,_,_,hle,_⟩
   ·cases h
   ·simp at hv
    omega
  clear hown hne hbel hp hs ho hlk
  by_cases hlt:k<t.size
  ·have hlt':(k:Int)<(t.size:Int):=by omega
   obtain⟨wo,hwo⟩:∃ wo,wo=wr:=⟨_,rfl⟩
   subst hwo
   go_wp2_with fail
   go_loopw [5] (fun i wr2=>∃ (p q:Nat),i=.int .i64 p/\p<=k/\(∀ j (h:j<l.length),p<=j->clT (turnV t) k l[j]=true)/\wr2=wo.drewN q) (fun i _=>(intOf i).toNat)
   case atStart=>exact⟨k,0,rfl,Nat.le_refl _,fun j h1 h2=>absurd h1 (by have:=HL.out;omega),rfl⟩
   case round =>
    obtain⟨p,q,rfl,hpk,hhi,hwr⟩:=hrel
    have HHI:=hideO hhi
    have HWR:=hideO hwr
    have hO2:IsO wr g 2 (ints l):=by rw[hwr];exact HO.out.of_heap rfl
    clear hhi hwr
    by_cases hp0:0<p
    ·obtain⟨pp,hpp⟩:∃ pp,p=pp+1:=⟨p-1,by omega⟩
     have hppl:pp<l.length:=by have:=HL.out;omega
     have c0:=hO2.cell (j:=pp) (by rw[ints_len];exact hppl)
     have ey:(ints l)[pp]'(by rw[ints_len];exact hppl)=((l[pp]:Nat):Int):=by simp[ints]
     rw[ey]at c0
     have hyk:l[pp]<k:=by
      have:=HP.out.mem_iff.1 (List.getElem_mem hppl)
      simpa using this
     obtain⟨y,hy⟩:∃ y,y=l[pp]:=⟨_,rfl⟩
     rw[<-hy]at c0 hyk
     have c1:=fun n'=>(show (wr.drewN n').cell? ⟨g,pp,none⟩=some (.int .i64 (y:Nat)) from c0)
     have HTK:=hideO (fun W=>HT.out k W (by omega))
     have HTY:=hideO (fun W=>HT.out y W (by omega))
     have HCL:Hid (Op.bytesLess (turnV t k).toList (turnV t y).toList=clT (turnV t) k y):=rfl
     have e1:(p:Int)-1=(pp:Int):=by omega
     have hwp:IntKind.i64.wrap (pp:Int)=(pp:Int):=by rw[IntKind.wrap_i64];omega
     have hpz:(pp:Int)<(k:Int):=by omega
     have hp0':(0:Int)<(p:Int):=by omega
     have hpd:decide ((0:Int)<(p:Int))=true:=decide_eq_true hp0'
     have HPP:=hideO hpp
     have HY:=hideO hy
     generalize turnV t k=A at HTK HCL
     generalize turnV t y=B at HTY HCL
     clear c0 ey hpp hy hO2
     cases hcb:clT (turnV t) k y with
     |true =>
      have hbl:Op.bytesLess A.toList B.toList=true:=HCL.out.trans hcb
      have HC2:Hid (∀ j (h:j<l.length),pp<=j->clT (turnV t) k l[j]=true):=fun j h1 h2=>by
       rcases Nat.eq_or_lt_of_le h2 with e|e
       ·subst e
        rw[<-HY.out]
        exact hcb
       ·exact HHI.out j h1 (by have:=HPP.out;omega)
      go_wp2_with fail
      go_quiet (first|(go_at_call 185;(with_reducible refine Calls.quiet_of (HTK.out _)))|(go_at_call 185;(with_reducible refine Calls.quiet_of (HTY.out _))))
      all_goals (try go_wp2_with fail)
      go_roundw
      case rel=>exact⟨pp,q+nq,rfl,by omega,HC2.out,by rw[HWR.out];exact World.drewN_drewN _ _ _⟩
      case measure=>have:=HPP.out;simp[intOf];omega
     |false =>
      have hbl:Op.bytesLess A.toList B.toList=false:=HCL.out.trans hcb
      go_wp2_with fail
      go_quiet (first|(go_at_call 185;(with_reducible refine Calls.quiet_of (HTK.out _)))|(go_at_call 185;(with_reducible refine Calls.quiet_of (HTY.out _))))
      have HQ:=hideO (ord_put (clT_weak (turnV t)) HP.out HS.out (show p<=l.length by have:=HL.out;omega) HHI.out (by
       have:=HPP.out
       exact Or.inr ⟨by omega,by
        have e:l[p-1]'(by omega)=y:=by rw[HY.out];congr 1;omega
        rw[e]
        exact hcb⟩))
      have G4:=hideO (own_drewN G1.out (q+nq))
      have O4:Hid (IsO (wo.drewN (q+nq)) g 2 (ints l)):=HO.out.of_heap rfl
      have B4:=hideO (below_drewN GB.out (q+nq))
      have hW:wr.drewN nq=wo.drewN (q+nq):=by rw[HWR.out];exact World.drewN_drewN _ _ _
      have z4:g<(wo.drewN (q+nq)).heap.size:=hgl
      have zs4:w.heap.size<=(wo.drewN (q+nq)).heap.size:=hsz
      rw[hW]
      clear hW
      generalize wo.drewN (q+nq)=W at G4 O4 B4 z4 zs4 ⊢
      have HEM:=hideO (Ze.OwnI.empty W)
      have HTA:Hid ((ints l).length=k):=by
       unfold Hid
       rw[ints_len,HL.out]
      have hpc:(p:Int)<=(cap:Int):=by omega
      have hpk':(p:Int)<=(k:Int):=by omega
      go_wp2_with (at_builtin;refine wpList_append_own _ rfl (.tmp 33) (.tmp 36) 114 rfl W.heap.size 2 i0 (.int .i64 0) 1 8 Tryz.underlying114 hi0 hz0 hz1 hz2 rfl (by decide) _ 0 [] rfl HEM.out ⟨g,0,none⟩ p cap ((ints (l.take p)).map (Value.int .i64)) rfl ?len1 ?new1 (own_cells _) (by unfold maxLen;omega) (by omega) (by simp) ?_)
      case len1=>simp[ints_len];have:=HL.out;omega
      case new1=>exact own_news (isO_take (O4.out.below ((Below.refl _ W).alloc (Nat.le_refl _) _) z4) p)
      intro v1 w1 hown1 hgrow1 _
      have HO1:Hid (OwnI w1 W.heap.size v1 (ints (l.take p))):=by
       have e:(ints (l.take p)).length=p:=by simp[ints_len];have:=HL.out;omega
       unfold Hid OwnI
       rw[e]
       exact hown1
      have hb1:Below W.heap.size W w1:=((Below.refl W.heap.size W).alloc (Nat.le_refl _) _).grown hgrow1 (by simp) (fun k hk=>by simp[Value.ownBlock]at hk;omega)
      have z1:=hb1.size
      have O1:=hideO (O4.out.below hb1 z4)
      have B1:=hideO hb1
      clear hown1 hgrow1 hb1
      have HLT:Hid ((ints (l.take p)).length=p):=by
       unfold Hid
       simp[ints_len]
       have:=HL.out
       omega
      go_wp2_with (at_builtin;refine wpList_append_own _ rfl (.tmp 38) (.tmp 40) 114 rfl W.heap.size 2 i0 (.int .i64 0) 1 8 Tryz.underlying114 hi0 hz0 hz1 hz2 rfl (by decide) _ _ _ rfl (Ze.OwnI.alloc HO1.out _) ⟨w1.heap.size,0,none⟩ 1 1 [.int .i64 (k:Nat)] rfl rfl (one_newI _ _ _) (one_cellI _) (by rw[HLT.out];unfold maxLen;omega) (by rw[HLT.out];omega) (by simp;omega) ?_)
      intro v2 w2 hown2 hgrow2 _
      have HO2:Hid (OwnI w2 W.heap.size v2 (ints (l.take p++[k]))):=by
       unfold Hid
       rw[ints_snoc]
       exact In.OwnI.snoc hown2
      have hb2:=In.app_one B1.out z1 (Nat.le_refl _) HO1.out hgrow2
      have z2:=hb2.size
      have O2:=hideO (O4.out.below hb2 z4)
      have B2:=hideO hb2
      clear hown2 hgrow2 hb2 B1 O1
      have HLT2:Hid ((ints (l.take p++[k])).length=p+1):=by
       unfold Hid
       simp[ints_len]
       have:=HL.out
       omega
      have HLD:Hid ((ints (l.drop p)).length=k-p):=by
       unfold Hid
       simp[ints_len,HL.out]
      have HFIN:Hid (∀ v3 w3,w3.ownsRow W.heap.size 2 1 v3 (p+1+(k-p)) ((ints (l.take p++[k])).map (Value.int .i64)++(ints (l.drop p)).map (Value.int .i64))->OwnI w3 W.heap.size v3 (ints (l.take p++[k]++l.drop p))):=fun v3 w3 h=>by
       have e:ints (l.take p++[k]++l.drop p)=ints (l.take p++[k])++ints (l.drop p):=by simp[ints]
       rw[e]
       apply Ze.OwnI.joined
       rw[HLT2.out,HLD.out]
       exact h
      have HOW2:Hid (w2.ownsRow W.heap.size 2 1 v2 (p+1) ((ints (l.take p++[k])).map (Value.int .i64))):=by
       have:=HO2.out
       unfold OwnI at this
       rw[HLT2.out]at this
       exact this
      have hv2:v2≠.slice none 0 0:=own_ne HO2.out (by rw[HLT2.out];omega)
      by_cases hkp:p=k
      ·have HD0:Hid (ints (l.drop p)=[]):=by
        unfold Hid
        rw[hkp,<-HL.out,List.drop_length]
        rfl
       subst hkp
       by_cases hcp:cap=p
       ·subst hcp
        go_wp2_with (at_builtin;refine wpList_append_own _ rfl (.tmp 42) (.tmp 45) 114 rfl W.heap.size 2 i0 (.int .i64 0) 1 8 Tryz.underlying114 hi0 hz0 hz1 hz2 rfl (by decide) _ _ _ rfl HOW2.out _ 0 _ [] rfl rfl (by intro j u hj;simp at hj) (by intro u hu;simp at hu) (by unfold maxLen;omega) (by omega) (by omega) ?_)
        intro v3 w3 hown3 hgrow3 _
        have HO3:=hideO (HFIN.out v3 w3 (by rw[HD0.out,Nat.sub_self,List.map_nil,List.append_nil];exact hown3))
        have HN3:=hideO (own_ne HO3.out (by simp[ints_len];omega))
        have hb3:=hideO (Ze.app_row B2.out z2 (Nat.le_refl _) HO2.out hgrow3)
        clear hown3 hgrow3
        go_wp2_with fail
        go_roundw
        case rel=>exact⟨cap+1,_,by go_num,by omega,HQ.out.1,HQ.out.2,HO3.out.mono zs4,HN3.out,B4.out.trans (hb3.out.mono zs4)⟩
        case measure=>simp[intOf];omega
       ·have hcp1:¬(cap:Int)=(p:Int):=by omega
        have hcp2:p<cap:=by omega
        go_wp2_with (at_builtin;refine wpList_append_own _ rfl (.tmp 42) (.tmp 45) 114 rfl W.heap.size 2 i0 (.int .i64 0) 1 8 Tryz.underlying114 hi0 hz0 hz1 hz2 rfl (by decide) _ _ _ rfl HOW2.out _ 0 _ [] rfl rfl (by intro j u hj;simp at hj) (by intro u hu;simp at hu) (by unfold maxLen;omega) (by omega) (by omega) ?_)
        intro v3 w3 hown3 hgrow3 _
        have HO3:=hideO (HFIN.out v3 w3 (by rw[HD0.out,Nat.sub_self,List.map_nil,List.append_nil];exact hown3))
        have HN3:=hideO (own_ne HO3.out (by simp[ints_len];omega))
        have hb3:=hideO (Ze.app_row B2.out z2 (Nat.le_refl _) HO2.out hgrow3)
        clear hown3 hgrow3
        go_wp2_with fail
        go_roundw
        case rel=>exact⟨p+1,_,by go_num,by omega,HQ.out.1,HQ.out.2,HO3.out.mono zs4,HN3.out,B4.out.trans (hb3.out.mono zs4)⟩
        case measure=>simp[intOf];omega
      ·have hpk2:p<k:=by omega
       have hcp0:¬cap=p:=by omega
       have hcp1:¬(cap:Int)=(p:Int):=by omega
       obtain⟨dl,hdl⟩:∃ dl,dl=k-p:=⟨_,rfl⟩
       have edl:(k:Int)-(p:Int)=(dl:Int):=by omega
       have edl2:k-p=dl:=hdl.symm
       rw[<-hdl]at HFIN HLD
       clear hkp hdl
       go_wp2_with (at_builtin;refine wpList_append_own _ rfl (.tmp 42) (.tmp 45) 114 rfl W.heap.size 2 i0 (.int .i64 0) 1 8 Tryz.underlying114 hi0 hz0 hz1 hz2 rfl (by decide) _ _ _ rfl HOW2.out ⟨g,p,none⟩ dl _ ((ints (l.drop p)).map (Value.int .i64)) rfl ?len3 ?new3 (own_cells _) ?c31 ?c32 (by omega) ?_)
       case len3=>rw[List.length_map,HLD.out,Nat.mul_one]
       case new3=>exact isO_drop O2.out p
       case c31=>have:=HLD.out;unfold maxLen;omega
       case c32=>have:=HLD.out;omega
       intro v3 w3 hown3 hgrow3 _
       have HO3:=hideO (HFIN.out v3 w3 hown3)
       have HN3:=hideO (own_ne HO3.out (by simp[ints_len];omega))
       have hb3:=hideO (Ze.app_row B2.out z2 (Nat.le_refl _) HO2.out hgrow3)
       clear hown3 hgrow3
       go_wp2_with fail
       go_roundw
       case rel=>exact⟨k+1,_,by go_num,by omega,HQ.out.1,HQ.out.2,HO3.out.mono zs4,HN3.out,B4.out.trans (hb3.out.mono zs4)⟩
       case measure=>simp[intOf];omega
    ·have hpd:decide ((0:Int)<(p:Int))=false:=decide_eq_false (by omega)
     have hpn:¬(0:Int)<(p:Int):=by omega
     clear hO2
     go_wp2_with fail
     go_quiet (fail)
     have HQ:=hideO (ord_put (clT_weak (turnV t)) HP.out HS.out (show p<=l.length by have:=HL.out;omega) HHI.out (by exact Or.inl (by omega)))
     have G4:=hideO (own_drewN G1.out (q+nq))
     have O4:Hid (IsO (wo.drewN (q+nq)) g 2 (ints l)):=HO.out.of_heap rfl
     have B4:=hideO (below_drewN GB.out (q+nq))
     have hW:wr.drewN nq=wo.drewN (q+nq):=by rw[HWR.out];exact World.drewN_drewN _ _ _
     have z4:g<(wo.drewN (q+nq)).heap.size:=hgl
     have zs4:w.heap.size<=(wo.drewN (q+nq)).heap.size:=hsz
     rw[hW]
     clear hW
     generalize wo.drewN (q+nq)=W at G4 O4 B4 z4 zs4 ⊢
     have HEM:=hideO (Ze.OwnI.empty W)
     have HTA:Hid ((ints l).length=k):=by
      unfold Hid
      rw[ints_len,HL.out]
     have hpc:(p:Int)<=(cap:Int):=by omega
     have hpk':(p:Int)<=(k:Int):=by omega
     go_wp2_with (at_builtin;refine wpList_append_own _ rfl (.tmp 33) (.tmp 36) 114 rfl W.heap.size 2 i0 (.int .i64 0) 1 8 Tryz.underlying114 hi0 hz0 hz1 hz2 rfl (by decide) _ 0 [] rfl HEM.out ⟨g,0,none⟩ p cap ((ints (l.take p)).map (Value.int .i64)) rfl ?len1 ?new1 (own_cells _) (by unfold maxLen;omega) (by omega) (by simp) ?_)
     case len1=>simp[ints_len];have:=HL.out;omega
     case new1=>exact own_news (isO_take (O4.out.below ((Below.refl _ W).alloc (Nat.le_refl _) _) z4) p)
     intro v1 w1 hown1 hgrow1 _
     have HO1:Hid (OwnI w1 W.heap.size v1 (ints (l.take p))):=by
      have e:(ints (l.take p)).length=p:=by simp[ints_len];have:=HL.out;omega
      unfold Hid OwnI
      rw[e]
      exact hown1
     have hb1:Below W.heap.size W w1:=((Below.refl W.heap.size W).alloc (Nat.le_refl _) _).grown hgrow1 (by simp) (fun k hk=>by simp[Value.ownBlock]at hk;omega)
     have z1:=hb1.size
     have O1:=hideO (O4.out.below hb1 z4)
     have B1:=hideO hb1
     clear hown1 hgrow1 hb1
     have HLT:Hid ((ints (l.take p)).length=p):=by
      unfold Hid
      simp[ints_len]
      have:=HL.out
      omega
     go_wp2_with (at_builtin;refine wpList_append_own _ rfl (.tmp 38) (.tmp 40) 114 rfl W.heap.size 2 i0 (.int .i64 0) 1 8 Tryz.underlying114 hi0 hz0 hz1 hz2 rfl (by decide) _ _ _ rfl (Ze.OwnI.alloc HO1.out _) ⟨w1.heap.size,0,none⟩ 1 1 [.int .i64 (k:Nat)] rfl rfl (one_newI _ _ _) (one_cellI _) (by rw[HLT.out];unfold maxLen;omega) (by rw[HLT.out];omega) (by simp;omega) ?_)
     intro v2 w2 hown2 hgrow2 _
     have HO2:Hid (OwnI w2 W.heap.size v2 (ints (l.take p++[k]))):=by
      unfold Hid
      rw[ints_snoc]
      exact In.OwnI.snoc hown2
     have hb2:=In.app_one B1.out z1 (Nat.le_refl _) HO1.out hgrow2
     have z2:=hb2.size
     have O2:=hideO (O4.out.below hb2 z4)
     have B2:=hideO hb2
     clear hown2 hgrow2 hb2 B1 O1
     have HLT2:Hid ((ints (l.take p++[k])).length=p+1):=by
      unfold Hid
      simp[ints_len]
      have:=HL.out
      omega
     have HLD:Hid ((ints (l.drop p)).length=k-p):=by
      unfold Hid
      simp[ints_len,HL.out]
     have HFIN:Hid (∀ v3 w3,w3.ownsRow W.heap.size 2 1 v3 (p+1+(k-p)) ((ints (l.take p++[k])).map (Value.int .i64)++(ints (l.drop p)).map (Value.int .i64))->OwnI w3 W.heap.size v3 (ints (l.take p++[k]++l.drop p))):=fun v3 w3 h=>by
      have e:ints (l.take p++[k]++l.drop p)=ints (l.take p++[k])++ints (l.drop p):=by simp[ints]
      rw[e]
      apply Ze.OwnI.joined
      rw[HLT2.out,HLD.out]
      exact h
     have HOW2:Hid (w2.ownsRow W.heap.size 2 1 v2 (p+1) ((ints (l.take p++[k])).map (Value.int .i64))):=by
      have:=HO2.out
      unfold OwnI at this
      rw[HLT2.out]at this
      exact this
     have hv2:v2≠.slice none 0 0:=own_ne HO2.out (by rw[HLT2.out];omega)
     by_cases hkp:p=k
     ·have HD0:Hid (ints (l.drop p)=[]):=by
       unfold Hid
       rw[hkp,<-HL.out,List.drop_length]
       rfl
      subst hkp
      by_cases hcp:cap=p
      ·subst hcp
       go_wp2_with (at_builtin;refine wpList_append_own _ rfl (.tmp 42) (.tmp 45) 114 rfl W.heap.size 2 i0 (.int .i64 0) 1 8 Tryz.underlying114 hi0 hz0 hz1 hz2 rfl (by decide) _ _ _ rfl HOW2.out _ 0 _ [] rfl rfl (by intro j u hj;simp at hj) (by intro u hu;simp at hu) (by unfold maxLen;omega) (by omega) (by omega) ?_)
       intro v3 w3 hown3 hgrow3 _
       have HO3:=hideO (HFIN.out v3 w3 (by rw[HD0.out,Nat.sub_self,List.map_nil,List.append_nil];exact hown3))
       have HN3:=hideO (own_ne HO3.out (by simp[ints_len];omega))
       have hb3:=hideO (Ze.app_row B2.out z2 (Nat.le_refl _) HO2.out hgrow3)
       clear hown3 hgrow3
       go_wp2_with fail
       go_roundw
       case rel=>exact⟨cap+1,_,by go_num,by omega,HQ.out.1,HQ.out.2,HO3.out.mono zs4,HN3.out,B4.out.trans (hb3.out.mono zs4)⟩
       case measure=>simp[intOf];omega
      ·have hcp1:¬(cap:Int)=(p:Int):=by omega
       have hcp2:p<cap:=by omega
       go_wp2_with (at_builtin;refine wpList_append_own _ rfl (.tmp 42) (.tmp 45) 114 rfl W.heap.size 2 i0 (.int .i64 0) 1 8 Tryz.underlying114 hi0 hz0 hz1 hz2 rfl (by decide) _ _ _ rfl HOW2.out _ 0 _ [] rfl rfl (by intro j u hj;simp at hj) (by intro u hu;simp at hu) (by unfold maxLen;omega) (by omega) (by omega) ?_)
       intro v3 w3 hown3 hgrow3 _
       have HO3:=hideO (HFIN.out v3 w3 (by rw[HD0.out,Nat.sub_self,List.map_nil,List.append_nil];exact hown3))
       have HN3:=hideO (own_ne HO3.out (by simp[ints_len];omega))
       have hb3:=hideO (Ze.app_row B2.out z2 (Nat.le_refl _) HO2.out hgrow3)
       clear hown3 hgrow3
       go_wp2_with fail
       go_roundw
       case rel=>exact⟨p+1,_,by go_num,by omega,HQ.out.1,HQ.out.2,HO3.out.mono zs4,HN3.out,B4.out.trans (hb3.out.mono zs4)⟩
       case measure=>simp[intOf];omega
     ·have hpk2:p<k:=by omega
      have hcp0:¬cap=p:=by omega
      have hcp1:¬(cap:Int)=(p:Int):=by omega
      obtain⟨dl,hdl⟩:∃ dl,dl=k-p:=⟨_,rfl⟩
      have edl:(k:Int)-(p:Int)=(dl:Int):=by omega
      have edl2:k-p=dl:=hdl.symm
      rw[<-hdl]at HFIN HLD
      clear hkp hdl
      go_wp2_with (at_builtin;refine wpList_append_own _ rfl (.tmp 42) (.tmp 45) 114 rfl W.heap.size 2 i0 (.int .i64 0) 1 8 Tryz.underlying114 hi0 hz0 hz1 hz2 rfl (by decide) _ _ _ rfl HOW2.out ⟨g,p,none⟩ dl _ ((ints (l.drop p)).map (Value.int .i64)) rfl ?len3 ?new3 (own_cells _) ?c31 ?c32 (by omega) ?_)
      case len3=>rw[List.length_map,HLD.out,Nat.mul_one]
      case new3=>exact isO_drop O2.out p
      case c31=>have:=HLD.out;unfold maxLen;omega
      case c32=>have:=HLD.out;omega
      intro v3 w3 hown3 hgrow3 _
      have HO3:=hideO (HFIN.out v3 w3 hown3)
      have HN3:=hideO (own_ne HO3.out (by simp[ints_len];omega))
      have hb3:=hideO (Ze.app_row B2.out z2 (Nat.le_refl _) HO2.out hgrow3)
      clear hown3 hgrow3
      go_wp2_with fail
      go_roundw
      case rel=>exact⟨k+1,_,by go_num,by omega,HQ.out.1,HQ.out.2,HO3.out.mono zs4,HN3.out,B4.out.trans (hb3.out.mono zs4)⟩
      case measure=>simp[intOf];omega
  ·obtain rfl:k=t.size:=by omega
   go_wp2_with fail
   go_ret
   exact⟨_,l,rfl,G1.out,⟨HP.out,HS.out⟩,by simp,GB.out⟩
end Go.Proofs.YtkgjfdanjmnmbaaGreatDoor.So


namespace Go.Proofs.YtkgjfdanjmnmbaaGreatDoor.So
open Go.RowKit Go.Sort Go.Proofs
open Sh (bt bt_get bt_lt strF IsB made_row)
open In (OwnI Ints)
open Nu (bv)
open Ap (Own0 wpList_append_own0)
open Fr (Own0B own0_string one_newB one_cellB own0B_snoc)
def blB (t:ByteArray) (f:Nat->Nat) (k:Nat):List UInt8:=(List.range k).map fun j=>UInt8.ofNat (lastB t (f j))
theorem blB_len (t:ByteArray) (f:Nat->Nat) (k:Nat):(blB t f k).length=k:=by simp[blB]
theorem blB_snoc (t:ByteArray) (f:Nat->Nat) (k:Nat):blB t f (k+1)=blB t f k++[UInt8.ofNat (((lastB t (f k):Nat):Int)).toNat]:=by
 unfold blB
 rw[List.range_succ,List.map_append]
 rfl
theorem l05Bwt_spec (t:ByteArray) (w:World) (ht:t.size<=48) :
  Calls Tryz.prog 110 #[.string t] w fun e w'=>e=.returned (.tuple #[.string (bwtT t),.int .i64 (bwtA t:Nat)])/\Below w.heap.size w w':=by
 obtain⟨i0,hi0,hz0,hz1,hz2⟩:=info_parts Nu.Tryz.infoJ5
 have HOS:=hideO (order_spec t w ht)
 go_enter Tryz.func110,Tryz.ntmps110
 go_wp2_with fail
 refine HOS.out.mono ?_
 rintro e w1 ⟨v,l,rfl,ho,hok,_,hb⟩
 have HE:=hideO (bwt_yes ht (fun j hj=>rfl) (f:=ordF t))
 have hlen:l.length=t.size:=by have:=hok.1.length_eq;simpa using this
 have HLen:=hideO hlen
 have HOR:Hid (∀ k (h:k<l.length),ordF t k=l[k]/\l[k]<t.size):=fun k h=>⟨ordF_list hok k h,by
  have:=hok.1.mem_iff.1 (List.getElem_mem h)
  simpa using this⟩
 obtain⟨a,cap,rfl,hcap,hI⟩:=ho.ints
 have HI:=hideO hI
 rw[ints_len,hlen]at hcap ⊢
 have HB1:=hideO hb
 have z1:=hb.size
 clear ho hok hb hI hlen
 go_wp2_with fail
 go_loopw [7,5,6] (fun i u m wr=>∃ k:Nat,i=.int .i64 k/\k<=t.size/\m=.int .i64 (atK (ordF t) k:Nat)/\Own0B wr (w1.heap.size+1) u (blB t (ordF t) k)/\w1.heap.size<wr.heap.size/\Below w1.heap.size w1 wr) (fun i _ _ _=>t.size-(intOf i).toNat)
 case atStart=>exact⟨0,rfl,Nat.zero_le _,rfl,.inl ⟨_,rfl,rfl,rfl⟩,by simp,(Below.refl _ _).alloc (Nat.le_refl _) _⟩
 case round =>
  obtain⟨k,rfl,hk,rfl,hown,hgs,hbel⟩:=hrel
  have O1:=hideO hown
  have GB:=hideO hbel
  clear hbel
  by_cases hlt:k<t.size
  ·have hd0:decide ((k:Int)<(t.size:Int))=true:=decide_eq_true (by omega)
   have hkz:(k:Int)<(t.size:Int):=by omega
   have hkl:k<l.length:=by rw[HLen.out];exact hlt
   have hkl':k<(ints l).length:=by rw[ints_len];exact hkl
   obtain⟨b,off,rfl,hb,hc⟩:=(HI.out.below GB.out).some (by omega)
   have ci:=hc k hkl'
   have HC:Hid (∀ W:World,Below w1.heap.size w1 W->W.cell? ⟨b,off+k,none⟩=some (.int .i64 (ints l)[k])):=fun W hW=>by
    obtain⟨b',off',e1,_,hc'⟩:=((HI.out.below hW).some (by omega:0<(ints l).length))
    cases e1
    exact hc' k hkl'
   have ey:(ints l)[k]=((l[k]:Nat):Int):=by simp[ints]
   rw[ey]at ci HC
   obtain⟨ho1,hxt⟩:=HOR.out k hkl
   have HN:=hideO (blB_snoc t (ordF t) k)
   have HA:=hideO (atK_next (ordF t) k)
   rw[ho1]at HN HA
   obtain⟨x,hx⟩:∃ x,x=l[k]:=⟨_,rfl⟩
   rw[<-hx]at ci HC hxt HN HA
   obtain⟨s,hs⟩:∃ s,s=x+t.size-1:=⟨_,rfl⟩
   obtain⟨r,hr⟩:∃ r,r=s%t.size:=⟨_,rfl⟩
   have hrt:r<t.size:=by rw[hr];exact Nat.mod_lt _ (by omega)
   have e1:(x:Int)+(t.size:Int)-1=(s:Int):=by omega
   have e2:(s:Int).tmod (t.size:Int)=(r:Int):=by rw[Int.tmod_eq_emod_of_nonneg (by omega),hr,Int.natCast_emod]
   have hwp:IntKind.i64.wrap (s:Int)=(s:Int):=by rw[IntKind.wrap_i64];omega
   have hwr:IntKind.i64.wrap (r:Int)=(r:Int):=by rw[IntKind.wrap_i64];omega
   have hrz:(r:Int)<(t.size:Int):=by omega
   have htn:¬((t.size:Int)=0):=by omega
   obtain⟨y,hy,hyt⟩:∃ y:UInt8,t[r]=y/\y.toNat=lastB t x:=⟨_,rfl,by rw[bt_get];unfold lastB;rw[hr,hs]⟩
   rw[<-hyt]at HN
   have HBL:=hideO (blB_len t (ordF t) k)
   obtain⟨bs,hbs⟩:∃ bs,bs=blB t (ordF t) k:=⟨_,rfl⟩
   rw[<-hbs]at O1 HN HBL
   obtain⟨m,hm⟩:∃ m,m=atK (ordF t) k:=⟨_,rfl⟩
   rw[<-hm]at HA ⊢
   have hmk:m<=k:=by rw[hm];exact atK_le _ _
   clear hc ey hown ho1 hx hs hr hyt hbs hm
   have HY:=hideO (UInt8.toNat_lt y)
   go_wp2_with (at_builtin;refine wpList_append_own0 _ rfl (.tmp 17) (.tmp 31) 87 rfl (w1.heap.size+1) 5 i0 (.int .u8 0) 1 1 Tryz.underlying87 hi0 hz0 hz1 hz2 rfl (by decide) _ bs.length (bs.map bv) rfl (Own0.alloc O1.out _) ⟨wr.heap.size,0,none⟩ 1 1 [.int .u8 (y.toNat:Nat)] rfl rfl (one_newB _ _ _) (one_cellB _) (by decide) (by unfold maxLen;have:=HBL.out;omega) (by have:=HBL.out;omega) (by simp;omega) ?_)
   intro v' w5 hown' hb5
   have N5:=hideO (own0B_snoc (by omega) (by have:=HY.out;omega) hown')
   have ba:Below (w1.heap.size+1) wr w5:=((Below.refl (w1.heap.size+1) wr).alloc (by omega) _).trans (hb5 _ (Nat.le_refl _))
   have B5:=hideO (GB.out.trans (ba.mono (by omega)))
   have c5:=HC.out w5 B5.out
   have z5:=ba.size
   clear hown' hb5 ba ci
   by_cases hx0:x=0
   ·subst hx0
    have HM:=hideO (HA.out.1 rfl)
    go_wp2_with fail
    go_roundw
    case rel=>exact⟨k+1,by go_num,by omega,by rw[HM.out],by rw[HN.out];exact N5.out,by omega,B5.out⟩
    case measure=>simp[intOf];omega
   ·have HM:=hideO (HA.out.2 hx0)
    have hxz:((x:Int)==0)=false:=by simpa using hx0
    go_wp2_with fail
    go_roundw
    case rel=>exact⟨k+1,by go_num,by omega,by rw[HM.out],by rw[HN.out];exact N5.out,by omega,B5.out⟩
    case measure=>simp[intOf];omega
  ·have hd0:decide ((k:Int)<(t.size:Int))=false:=decide_eq_false (by omega)
   obtain rfl:k=t.size:=by omega
   have hcv:=own0_string (P:=Tryz.prog) (src:=87) (dst:=9) _ hown Tryz.underlying87 Tryz.underlying5 Tryz.underlying9
   have HQ:Hid ((⟨(blB t (ordF t) t.size).toArray⟩:ByteArray)=bwtT t):=HE.out.1.symm
   have HQ2:Hid (atK (ordF t) t.size=bwtA t):=HE.out.2.1.symm
   rw[HQ.out]at hcv
   rw[HQ2.out]
   have BZ:=hideO (HB1.out.trans (GB.out.mono z1))
   clear hown
   go_wp2_with fail
   refine bodyPost_ret (v:=.tuple #[.string (bwtT t),.int .i64 (bwtA t:Nat)]) (by simp[results,Tryz.results110,go_sem]) rfl ⟨rfl,BZ.out⟩
end Go.Proofs.YtkgjfdanjmnmbaaGreatDoor.So


namespace Go.Proofs.YtkgjfdanjmnmbaaGreatDoor.So
open Go.RowKit Go.Sort Go.Proofs
open Sh (bt bt_get bt_lt strF IsB)
open In (OwnI Ints one_newI one_cellI)
open In.Tryz (infoI2)
open Nu (bv)
open Ap (Own0 wpList_append_own0)
open Fr (Own0B own0_string one_newB one_cellB own0B_snoc)
theorem wrap_byte (y:UInt8):wrap64 ((y.toNat:Nat):Int)=((y.toNat:Nat):Int):=by
 have h:=UInt8.toNat_lt y
 generalize y.toNat=n at h
 simp only[wrap64]
 omega
theorem l05Back_spec (t:ByteArray) (a:Nat) (w:World) (ht:t.size<=48) (ha:a<t.size∨t.size=0) :
  Calls Tryz.prog 109 #[.string t,.int .i64 a] w fun e w'=>e=.returned (.string (backT t a))/\Below w.heap.size w w':=by
 obtain⟨i0,hi0,hz0,hz1,hz2⟩:=info_parts Nu.Tryz.infoJ5
 obtain⟨i1,hi1,hy0,hy1,hy2⟩:=info_parts infoI2
 have HW:=hideO (Ze.OwnI.empty w)
 go_enter Tryz.func109,Tryz.ntmps109
 go_wp2_with fail
 go_loopw [6,5] (fun i u wr=>∃ b:Nat,i=.int .i64 b/\b<=256/\OwnI wr w.heap.size u (ints (plK t b))/\Below w.heap.size w wr) (fun i _ _=>256-(intOf i).toNat)
 case atStart=>exact⟨0,rfl,by omega,HW.out,(Below.refl _ _).alloc (Nat.le_refl _) _⟩
 case round =>
  obtain⟨b,rfl,hb,hown,hbel⟩:=hrel
  have O1:=hideO hown
  have GB:=hideO hbel
  have hsz:=hbel.size
  clear hbel
  by_cases hb2:b<256
  ·have hbz:(b:Int)<256:=by omega
   clear hown
   go_wp2_with fail
   go_loopw [7,5] (fun i u wr=>∃ k:Nat,i=.int .i64 k/\k<=t.size/\OwnI wr w.heap.size u (ints (plK t b++plB t b k))/\Below w.heap.size w wr) (fun i _ _=>t.size-(intOf i).toNat)
   case atStart=>exact⟨0,rfl,Nat.zero_le _,by rw[show plK t b++plB t b 0=plK t b by simp[plB]];exact O1.out,GB.out⟩
   case round =>
    obtain⟨k,rfl,hk,hown,hbel⟩:=hrel
    have O2:=hideO hown
    have GB2:=hideO hbel
    have hsz2:=hbel.size
    obtain⟨a',cap',rfl,_,_⟩:=hown.ints
    have HLL:Hid ((ints (plK t b++plB t b k)).length<=256*48+48):=by
     unfold Hid
     rw[ints_len,List.length_append]
     have h1:=plK_len t b
     have h2:=plB_len t b k
     have h3:b*t.size<=256*48:=Nat.mul_le_mul hb ht
     omega
    have HYB:=hideO (plB_yes t b k)
    have HNB:=hideO (plB_no t b k)
    clear hown hbel
    by_cases hlt:k<t.size
    ·have hkz:(k:Int)<(t.size:Int):=by omega
     obtain⟨y,hy,hyt⟩:∃ y:UInt8,t[k]=y/\y.toNat=bt t k:=⟨_,rfl,bt_get _ _ hlt⟩
     by_cases hq:bt t k=b
     ·have hyb:(wrap64 ((y.toNat:Nat):Int)==(b:Int))=true:=by rw[wrap_byte];exact beq_iff_eq.2 (by omega)
      have HN:Hid (ints (plK t b++plB t b (k+1))=ints (plK t b++plB t b k)++[(k:Int)]):=by
       unfold Hid
       rw[HYB.out hq,<-List.append_assoc,ints_snoc]
      obtain⟨L,hL⟩:∃ L,L=ints (plK t b++plB t b k):=⟨_,rfl⟩
      rw[<-hL]at O2 HLL HN ⊢
      clear hyt hq hL HYB HNB
      go_wp2_with (at_builtin;refine wpList_append_own _ rfl (.tmp 27) (.tmp 29) 114 rfl w.heap.size 2 i1 (.int .i64 0) 1 8 Tryz.underlying114 hi1 hy0 hy1 hy2 rfl (by decide) _ L.length (L.map (Value.int .i64)) rfl ?own ⟨wr.heap.size,0,none⟩ 1 1 [.int .i64 (k:Nat)] rfl rfl (one_newI _ _ _) (one_cellI _) (by unfold maxLen;have:=HLL.out;omega) (by have:=HLL.out;omega) (by simp;omega) ?_)
      case own=>exact Ze.OwnI.alloc O2.out _
      intro v' w5 hown' hgrow _
      have N5:Hid (OwnI w5 w.heap.size v' (L++[(k:Int)])):=In.OwnI.snoc hown'
      have b5:=hideO (In.app_one GB2.out hsz2 (Nat.le_refl _) O2.out hgrow)
      clear hown' hgrow
      go_wp2_with fail
      go_roundw
      case rel=>exact⟨k+1,by go_num,by omega,by rw[HN.out];exact N5.out,b5.out⟩
      case measure=>simp[intOf];omega
     ·have hyb:(wrap64 ((y.toNat:Nat):Int)==(b:Int))=false:=by rw[wrap_byte];exact beq_eq_false_iff_ne.2 (by omega)
      have HN:=hideO (HNB.out hq)
      clear hyt hq HYB HNB
      go_wp2_with fail
      go_roundw
      case rel=>exact⟨k+1,by go_num,by omega,by rw[HN.out];exact O2.out,GB2.out⟩
      case measure=>simp[intOf];omega
    ·obtain rfl:k=t.size:=by omega
     have HN:=hideO (plK_succ t b)
     go_wp2_with fail
     go_roundw
     case rel=>exact⟨b+1,by go_num,by omega,by rw[HN.out];exact O2.out,GB2.out⟩
     case measure=>simp[intOf];omega
  ·have hb3:¬(b:Int)<256:=by omega
   have ho:OwnI wr w.heap.size u5 (ints (pl t)):=by
    have h:=hown
    rw[show b=256 by omega]at h
    exact h
   obtain⟨g,cap,rfl,hcap,hI⟩:=ho.ints
   have HI:=hideO hI
   rw[ints_len,pl_len]at hcap ⊢
   obtain⟨w1,hw1⟩:∃ w1,w1=wr:=⟨_,rfl⟩
   rw[<-hw1]at HI GB hsz ⊢
   clear hown ho hI O1 hw1 hb2 hb
   go_wp2_with fail
   go_loopw [9,8,1] (fun i u m wr=>∃ k:Nat,i=.int .i64 k/\k<=t.size/\m=.int .i64 (itR t a k:Nat)/\Own0B wr (w1.heap.size+1) u (blK t a k)/\w1.heap.size<wr.heap.size/\Below w1.heap.size w1 wr) (fun i _ _ _=>t.size-(intOf i).toNat)
   case atStart=>exact⟨0,rfl,Nat.zero_le _,rfl,.inl ⟨_,rfl,rfl,rfl⟩,by simp,(Below.refl _ _).alloc (Nat.le_refl _) _⟩
   case round =>
    obtain⟨k,rfl,hk,rfl,hown,hgs,hbel⟩:=hrel
    have O1:=hideO hown
    have GB3:=hideO hbel
    clear hbel
    by_cases hlt:k<t.size
    ·have hd0:decide ((k:Int)<(t.size:Int))=true:=decide_eq_true (by omega)
     have hkz:(k:Int)<(t.size:Int):=by omega
     have hat:a<t.size:=by omega
     have hr1:=itR_lt t a k hat
     have hr2:=itR_lt t a (k+1) hat
     have e0:itR t a (k+1)=plF t (itR t a k):=rfl
     have hpl:(ints (pl t)).length=t.size:=by rw[ints_len,pl_len]
     obtain⟨gb,off,rfl,hb,hc⟩:=(HI.out.below GB3.out).some (by omega)
     have c1:=hc (itR t a k) (by omega)
     have ey:(ints (pl t))[itR t a k]'(by omega)=((itR t a (k+1):Nat):Int):=by
      rw[e0,<-plF_get t _ (by rw[pl_len];exact hr1)]
      simp[ints]
     rw[ey]at c1
     have HN:=hideO (blK_snoc t a k)
     obtain⟨p,hp⟩:∃ p,p=itR t a k:=⟨_,rfl⟩
     obtain⟨q,hq⟩:∃ q,q=itR t a (k+1):=⟨_,rfl⟩
     have HQ:=hideO hq
     rw[<-hp,<-hq]at c1
     rw[<-hq]at hr2 HN
     rw[<-hp]at hr1 ⊢
     have hpz:(p:Int)<(t.size:Int):=by omega
     have hqz:(q:Int)<(t.size:Int):=by omega
     obtain⟨y,hy,hyt⟩:∃ y:UInt8,t[q]=y/\y.toNat=bt t q:=⟨_,rfl,bt_get _ _ hr2⟩
     rw[<-hyt]at HN
     have HBL:=hideO (blK_len t a k)
     have HY:=hideO (UInt8.toNat_lt y)
     obtain⟨bs,hbs⟩:∃ bs,bs=blK t a k:=⟨_,rfl⟩
     rw[<-hbs]at O1 HN HBL
     clear hc ey hown e0 hp hq hyt hbs hpl ha
     go_wp2_with (at_builtin;refine wpList_append_own0 _ rfl (.tmp 42) (.tmp 46) 87 rfl (w1.heap.size+1) 5 i0 (.int .u8 0) 1 1 Tryz.underlying87 hi0 hz0 hz1 hz2 rfl (by decide) _ bs.length (bs.map bv) rfl (Own0.alloc O1.out _) ⟨wr.heap.size,0,none⟩ 1 1 [.int .u8 (y.toNat:Nat)] rfl rfl (one_newB _ _ _) (one_cellB _) (by decide) (by unfold maxLen;have:=HBL.out;omega) (by have:=HBL.out;omega) (by simp;omega) ?_)
     intro v' w5 hown' hb5
     have N5:=hideO (own0B_snoc (by omega) (by have:=HY.out;omega) hown')
     have ba:Below (w1.heap.size+1) wr w5:=((Below.refl (w1.heap.size+1) wr).alloc (by omega) _).trans (hb5 _ (Nat.le_refl _))
     have B5:=hideO (GB3.out.trans (ba.mono (by omega)))
     have z5:=ba.size
     clear hown' hb5 ba c1
     go_wp2_with fail
     go_roundw
     case rel=>exact⟨k+1,by go_num,by omega,by rw[<-HQ.out],by rw[HN.out];exact N5.out,by omega,B5.out⟩
     case measure=>simp[intOf];omega
    ·have hd0:decide ((k:Int)<(t.size:Int))=false:=decide_eq_false (by omega)
     obtain rfl:k=t.size:=by omega
     have hcv:=own0_string (P:=Tryz.prog) (src:=87) (dst:=9) _ hown Tryz.underlying87 Tryz.underlying5 Tryz.underlying9
     rw[blK_all]at hcv
     have BZ:=hideO (GB.out.trans (GB3.out.mono hsz))
     generalize itR t a t.size=m
     clear hown ha
     go_wp2_with fail
     go_ret
     exact⟨rfl,BZ.out⟩
end Go.Proofs.YtkgjfdanjmnmbaaGreatDoor.So


namespace Go.Proofs.YtkgjfdanjmnmbaaGreatDoor.So
open Go.RowKit Go.Sort Go.Proofs
theorem unbwt_spec (t:ByteArray) (a:Int) (w:World) (hn:t.size<=1048576) :
  Calls Tryz.prog 78 #[.string t,.int .i64 a] w fun e w'=>e=.returned (unR t a)/\Below w.heap.size w w':=by
 by_cases hbig:8000<t.size
 ·have HV:=hideO (unR_big (a:=a) hbig)
  go_enter Tryz.func78,Tryz.ntmps78
  go_wp2_with fail
  refine bodyPost_ret (v:=tOut ⟨#[]⟩ 0 2) (by simp[results,tOut,Tryz.results78,go_sem]) rfl ⟨by rw[HV.out],?_⟩
  exact(Below.refl _ _).alloc (Nat.le_refl _) _
 ·have hbig':¬(8000:Int)<(t.size:Int):=by omega
  obtain⟨w0,hw0⟩:∃ w0,w0=w.alloc (.cells #[.string ⟨#[]⟩,.int .i64 0,.int .i64 0] 67):=⟨_,rfl⟩
  have z0:w0.heap.size=w.heap.size+1:=by rw[hw0];simp
  have HR0:Hid (IsX w0 w.heap.size):=by unfold Hid;rw[hw0];exact heap_alloc_last w _
  have HB0:Hid (Below w.heap.size w w0):=by unfold Hid;rw[hw0];exact(Below.refl _ _).alloc (Nat.le_refl _) _
  have HIP:=hideO (block_spec t w0 hn)
  by_cases hlong:48<t.size
  ·have HV:=hideO (unR_form (a:=a) hbig (Or.inl hlong))
   rw[decide_eq_false (by omega:¬t.size<=48)]at HIP
   go_enter Tryz.func78,Tryz.ntmps78
   go_wp2_with fail
   rw[<-hw0]
   refine HIP.out.mono ?_
   rintro e w' ⟨rfl,hw⟩
   subst w'
   subst hw0
   go_wp2_with fail
   refine bodyPost_ret (v:=tOut ⟨#[]⟩ 0 1) (by simp[results,tOut,Tryz.results78,go_sem]) rfl ⟨by rw[HV.out],?_⟩
   exact(Below.refl _ _).alloc (Nat.le_refl _) _
  ·rw[decide_eq_true (by omega:t.size<=48)]at HIP
   by_cases hbad:a<0∨((t.size:Int)<=a/\0<a)
   ·have HV:=hideO (unR_form hbig (Or.inr hbad))
    by_cases hneg:a<0
    ·have hd1:decide (a<0)=true:=decide_eq_true hneg
     clear hbad
     go_enter Tryz.func78,Tryz.ntmps78
     go_wp2_with fail
     rw[<-hw0]
     refine HIP.out.mono ?_
     rintro e w' ⟨rfl,hw⟩
     subst w'
     subst hw0
     go_wp2_with fail
     refine bodyPost_ret (v:=tOut ⟨#[]⟩ 0 1) (by simp[results,tOut,Tryz.results78,go_sem]) rfl ⟨by rw[HV.out],?_⟩
     exact(Below.refl _ _).alloc (Nat.le_refl _) _
    ·have hd1:decide (a<0)=false:=decide_eq_false hneg
     have hd2:decide ((t.size:Int)<=a)=true:=decide_eq_true (by omega)
     have hd3:decide (0<a)=true:=decide_eq_true (by omega)
     have hd4:decide (a<(t.size:Int))=false:=decide_eq_false (by omega)
     have p2:(t.size:Int)<=a:=by omega
     have p3:0<a:=by omega
     clear hbad
     go_enter Tryz.func78,Tryz.ntmps78
     go_wp2_with fail
     rw[<-hw0]
     refine HIP.out.mono ?_
     rintro e w' ⟨rfl,hw⟩
     subst w'
     subst hw0
     go_wp2_with fail
     refine bodyPost_ret (v:=tOut ⟨#[]⟩ 0 1) (by simp[results,tOut,Tryz.results78,go_sem]) rfl ⟨by rw[HV.out],?_⟩
     exact(Below.refl _ _).alloc (Nat.le_refl _) _
   ·obtain⟨m,rfl⟩:∃ m:Nat,a=m:=⟨a.toNat,by omega⟩
    have hd1:decide ((m:Int)<0)=false:=decide_eq_false (by omega)
    have HTB:=hideO (l05Back_spec t m w0 (by omega) (by omega))
    have hbz:=backT_size t m
    have HBW:=hideO (fun W=>l05Bwt_spec (backT t m) W (by omega))
    have HY:=hideO (fun h=>unR_yes (t:=t) (a:=m) (by omega) (by omega) h)
    have HNO:=hideO (fun h=>unR_no (t:=t) (a:=m) (by omega) (by omega) h)
    obtain⟨b,hb⟩:∃ b,b=backT t m:=⟨_,rfl⟩
    obtain⟨bt',hbt⟩:∃ bt',bt'=bwtT b:=⟨_,rfl⟩
    obtain⟨ba,hba⟩:∃ ba,ba=bwtA b:=⟨_,rfl⟩
    rw[<-hb]at HTB HBW HY HNO
    rw[<-hbt,<-hba]at HBW HY HNO
    have hcase:(¬t.size<=m)∨(t.size<=m/\¬0<m):=by omega
    clear hb hbt hba hbz hbad
    have HALL:Hid (∀ w1:World,Below w0.heap.size w0 w1->∀ w2:World,Below w1.heap.size w1 w2->IsX w2 w.heap.size/\Below w.heap.size w w2/\w.heap.size<w2.heap.size):=fun w1 h1 w2 h2=>by
     have z1:=h1.size
     have z2:=h2.size
     exact⟨(h2.block w.heap.size (by omega)).trans ((h1.block w.heap.size (by omega)).trans HR0.out),(HB0.out.trans (h1.mono (by omega))).trans (h2.mono (by omega)),by omega⟩
    by_cases hq:bt'=t/\ba=m
    ·obtain⟨rfl,rfl⟩:=hq
     have HV:=hideO (HY.out ⟨rfl,rfl⟩)
     clear HY HNO
     rcases hcase with p2|⟨p2,p3⟩
     ·have q2:¬(bt'.size:Int)<=(ba:Int):=by omega
      have d2:decide (bt'.size<=ba)=false:=decide_eq_false p2
      have d2z:decide ((bt'.size:Int)<=(ba:Int))=false:=decide_eq_false q2
      go_enter Tryz.func78,Tryz.ntmps78
      go_wp2_with fail
      rw[<-hw0]
      refine HIP.out.mono ?_
      rintro e w' ⟨rfl,hw⟩
      subst w'
      go_wp2_with fail
      rw[<-hw0]
      refine HTB.out.mono ?_
      rintro e w1 ⟨rfl,hb1⟩
      have HB1:=hideO hb1
      clear hb1
      go_wp2_with fail
      refine(HBW.out w1).mono ?_
      rintro e w2 ⟨rfl,hb2⟩
      obtain⟨hr2,hg2,z2⟩:=HALL.out w1 HB1.out w2 hb2
      have GB:=hideO hg2
      obtain⟨c0,c1,c2,f0⟩:=hr2.cells
      clear hr2 hb2 hg2
      go_wp2_with fail
      refine bodyPost_ret (v:=tOut b 0 0) (by simp[results,tOut,Tryz.results78,go_sem,c0,c1,c2]) rfl ⟨by rw[HV.out],?_⟩
      exact((GB.out.setCell (Nat.le_refl _) _).setCell (Nat.le_refl _) _).setCell (Nat.le_refl _) _
     ·have q2:(bt'.size:Int)<=(ba:Int):=by omega
      have d2:decide (bt'.size<=ba)=true:=decide_eq_true p2
      have d2z:decide ((bt'.size:Int)<=(ba:Int))=true:=decide_eq_true q2
      have q3:¬(0:Int)<(ba:Int):=by omega
      have d3:decide (0<ba)=false:=decide_eq_false p3
      have d3z:decide ((0:Int)<(ba:Int))=false:=decide_eq_false q3
      go_enter Tryz.func78,Tryz.ntmps78
      go_wp2_with fail
      rw[<-hw0]
      refine HIP.out.mono ?_
      rintro e w' ⟨rfl,hw⟩
      subst w'
      go_wp2_with fail
      rw[<-hw0]
      refine HTB.out.mono ?_
      rintro e w1 ⟨rfl,hb1⟩
      have HB1:=hideO hb1
      clear hb1
      go_wp2_with fail
      refine(HBW.out w1).mono ?_
      rintro e w2 ⟨rfl,hb2⟩
      obtain⟨hr2,hg2,z2⟩:=HALL.out w1 HB1.out w2 hb2
      have GB:=hideO hg2
      obtain⟨c0,c1,c2,f0⟩:=hr2.cells
      clear hr2 hb2 hg2
      go_wp2_with fail
      refine bodyPost_ret (v:=tOut b 0 0) (by simp[results,tOut,Tryz.results78,go_sem,c0,c1,c2]) rfl ⟨by rw[HV.out],?_⟩
      exact((GB.out.setCell (Nat.le_refl _) _).setCell (Nat.le_refl _) _).setCell (Nat.le_refl _) _
    ·have HV:=hideO (HNO.out hq)
     by_cases hqt:bt'=t
     ·subst hqt
      have hqm:((ba:Int) != (m:Int))=true:=bne_iff_ne.2 (fun e=>hq ⟨rfl,by omega⟩)
      clear hq HY HNO
      rcases hcase with p2|⟨p2,p3⟩
      ·have q2:¬(bt'.size:Int)<=(m:Int):=by omega
       have d2:decide (bt'.size<=m)=false:=decide_eq_false p2
       have d2z:decide ((bt'.size:Int)<=(m:Int))=false:=decide_eq_false q2
       go_enter Tryz.func78,Tryz.ntmps78
       go_wp2_with fail
       rw[<-hw0]
       refine HIP.out.mono ?_
       rintro e w' ⟨rfl,hw⟩
       subst w'
       go_wp2_with fail
       rw[<-hw0]
       refine HTB.out.mono ?_
       rintro e w1 ⟨rfl,hb1⟩
       have HB1:=hideO hb1
       clear hb1
       go_wp2_with fail
       refine(HBW.out w1).mono ?_
       rintro e w2 ⟨rfl,hb2⟩
       obtain⟨hr2,hg2,z2⟩:=HALL.out w1 HB1.out w2 hb2
       have GB:=hideO hg2
       obtain⟨c0,c1,c2,f0⟩:=hr2.cells
       clear hr2 hb2 hg2
       go_wp2_with fail
       refine bodyPost_ret (v:=tOut ⟨#[]⟩ 0 3) (by simp[results,tOut,Tryz.results78,go_sem,c0,c1,c2]) rfl ⟨by rw[HV.out],?_⟩
       exact((GB.out.setCell (Nat.le_refl _) _).setCell (Nat.le_refl _) _).setCell (Nat.le_refl _) _
      ·have q2:(bt'.size:Int)<=(m:Int):=by omega
       have d2:decide (bt'.size<=m)=true:=decide_eq_true p2
       have d2z:decide ((bt'.size:Int)<=(m:Int))=true:=decide_eq_true q2
       have q3:¬(0:Int)<(m:Int):=by omega
       have d3:decide (0<m)=false:=decide_eq_false p3
       have d3z:decide ((0:Int)<(m:Int))=false:=decide_eq_false q3
       go_enter Tryz.func78,Tryz.ntmps78
       go_wp2_with fail
       rw[<-hw0]
       refine HIP.out.mono ?_
       rintro e w' ⟨rfl,hw⟩
       subst w'
       go_wp2_with fail
       rw[<-hw0]
       refine HTB.out.mono ?_
       rintro e w1 ⟨rfl,hb1⟩
       have HB1:=hideO hb1
       clear hb1
       go_wp2_with fail
       refine(HBW.out w1).mono ?_
       rintro e w2 ⟨rfl,hb2⟩
       obtain⟨hr2,hg2,z2⟩:=HALL.out w1 HB1.out w2 hb2
       have GB:=hideO hg2
       obtain⟨c0,c1,c2,f0⟩:=hr2.cells
       clear hr2 hb2 hg2
       go_wp2_with fail
       refine bodyPost_ret (v:=tOut ⟨#[]⟩ 0 3) (by simp[results,tOut,Tryz.results78,go_sem,c0,c1,c2]) rfl ⟨by rw[HV.out],?_⟩
       exact((GB.out.setCell (Nat.le_refl _) _).setCell (Nat.le_refl _) _).setCell (Nat.le_refl _) _
     ·have hqe:(bt'.toList==t.toList)=false:=by rw[list_eq_iff];exact decide_eq_false hqt
      clear hq hqt HY HNO
      rcases hcase with p2|⟨p2,p3⟩
      ·have q2:¬(t.size:Int)<=(m:Int):=by omega
       have d2:decide (t.size<=m)=false:=decide_eq_false p2
       have d2z:decide ((t.size:Int)<=(m:Int))=false:=decide_eq_false q2
       go_enter Tryz.func78,Tryz.ntmps78
       go_wp2_with fail
       rw[<-hw0]
       refine HIP.out.mono ?_
       rintro e w' ⟨rfl,hw⟩
       subst w'
       go_wp2_with fail
       rw[<-hw0]
       refine HTB.out.mono ?_
       rintro e w1 ⟨rfl,hb1⟩
       have HB1:=hideO hb1
       clear hb1
       go_wp2_with fail
       refine(HBW.out w1).mono ?_
       rintro e w2 ⟨rfl,hb2⟩
       obtain⟨hr2,hg2,z2⟩:=HALL.out w1 HB1.out w2 hb2
       have GB:=hideO hg2
       obtain⟨c0,c1,c2,f0⟩:=hr2.cells
       clear hr2 hb2 hg2
       go_wp2_with fail
       refine bodyPost_ret (v:=tOut ⟨#[]⟩ 0 3) (by simp[results,tOut,Tryz.results78,go_sem,c0,c1,c2]) rfl ⟨by rw[HV.out],?_⟩
       exact((GB.out.setCell (Nat.le_refl _) _).setCell (Nat.le_refl _) _).setCell (Nat.le_refl _) _
      ·have q2:(t.size:Int)<=(m:Int):=by omega
       have d2:decide (t.size<=m)=true:=decide_eq_true p2
       have d2z:decide ((t.size:Int)<=(m:Int))=true:=decide_eq_true q2
       have q3:¬(0:Int)<(m:Int):=by omega
       have d3:decide (0<m)=false:=decide_eq_false p3
       have d3z:decide ((0:Int)<(m:Int))=false:=decide_eq_false q3
       go_enter Tryz.func78,Tryz.ntmps78
       go_wp2_with fail
       rw[<-hw0]
       refine HIP.out.mono ?_
       rintro e w' ⟨rfl,hw⟩
       subst w'
       go_wp2_with fail
       rw[<-hw0]
       refine HTB.out.mono ?_
       rintro e w1 ⟨rfl,hb1⟩
       have HB1:=hideO hb1
       clear hb1
       go_wp2_with fail
       refine(HBW.out w1).mono ?_
       rintro e w2 ⟨rfl,hb2⟩
       obtain⟨hr2,hg2,z2⟩:=HALL.out w1 HB1.out w2 hb2
       have GB:=hideO hg2
       obtain⟨c0,c1,c2,f0⟩:=hr2.cells
       clear hr2 hb2 hg2
       go_wp2_with fail
       refine bodyPost_ret (v:=tOut ⟨#[]⟩ 0 3) (by simp[results,tOut,Tryz.results78,go_sem,c0,c1,c2]) rfl ⟨by rw[HV.out],?_⟩
       exact((GB.out.setCell (Nat.le_refl _) _).setCell (Nat.le_refl _) _).setCell (Nat.le_refl _) _
end Go.Proofs.YtkgjfdanjmnmbaaGreatDoor.So

