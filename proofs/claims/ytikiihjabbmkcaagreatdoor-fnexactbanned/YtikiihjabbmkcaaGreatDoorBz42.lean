/- Texts put together: PeTo2, PeTo3, PeEq, PqOther, UnsealSpec. -/
import Derived.Test.YtikiihjabbmkcaaGreatDoorBz41
import Derived.Test.YtikiihjabbmkcaaGreatDoorBz30
import Derived.Test.YtikiihjabbmkcaaGreatDoorBz32
import Derived.Test.YtikiihjabbmkcaaGreatDoorBz35
set_option maxRecDepth 100000
set_option maxHeartbeats 8000000
namespace Go.Proofs.YtikiihjabbmkcaaGreatDoor.Pe
open Go.RowKit
open Kp
open In (Ints OwnI)
open Ap (KeepE)
open Ls (lowL)
def zMO:MO:=(⟨⟨#[]⟩,[],0,0,0⟩,.slice none 0 0)
theorem made_oths (n:Nat):(madeCells (Value.agg #[.string ⟨#[]⟩,.slice none 0 0,.int .i64 0,.int .i64 0,.int .i64 0]).cells (n*5)).toList=cellsO (List.replicate n zMO):=by
 apply List.ext_getElem?
 intro i
 by_cases hi:i<n*5
 ·have hk:i/5<(List.replicate n zMO).length:=by rw[List.length_replicate];omega
  have hc:=cellsO_at (List.replicate n zMO) (i/5) hk
  rw[List.getElem_replicate]at hc
  have e:∀ q:Nat,i%5=q->i=i/5*5+q:=fun q h=>by omega
  have hl:(madeCells (Value.agg #[.string ⟨#[]⟩,.slice none 0 0,.int .i64 0,.int .i64 0,.int .i64 0]).cells (n*5)).toList[i]? = some (#[Value.string ⟨#[]⟩,.slice none 0 0,.int .i64 0,.int .i64 0,.int .i64 0][i%5]!):=by
   simp[madeCells,hi,Value.cells]
  rw[hl]
  have h5:i%5<5:=Nat.mod_lt _ (by decide)
  generalize hq:i%5=q at h5 ⊢
  rw[e q hq]
  match q,h5 with
  |0,_=>exact hc.1.symm
  |1,_=>exact hc.2.1.symm
  |2,_=>exact hc.2.2.1.symm
  |3,_=>exact hc.2.2.2.1.symm
  |4,_=>exact hc.2.2.2.2.symm
 ·rw[List.getElem?_eq_none (by simp[madeCells];omega),List.getElem?_eq_none (by rw[cellsO_length,List.length_replicate];omega)]
theorem OwnO.frozen {W:World} {base g n cap:Nat} {m:List MO} (h:OwnO W base (.slice (some ⟨g,0,none⟩) n cap) m) (o:Nat):W.frozen? ⟨g,o,none⟩=false:=by
 obtain⟨_,h⟩:=h
 rcases h with⟨h,_⟩|⟨g',cap',cur,hv,_,hb,_⟩
 ·cases h
 ·simp at hv
  obtain⟨rfl,_⟩:=hv
  exact frozen_of_row W g o _ _ hb
theorem OwnO.blk {W:World} {base g n cap:Nat} {m:List MO} (h:OwnO W base (.slice (some ⟨g,0,none⟩) n cap) m):∃ cur,W.heap[g]? = some (.cells cur 89 (0,0)):=by
 obtain⟨_,h⟩:=h
 rcases h with⟨h,_⟩|⟨g',cap',cur,hv,_,hb,_⟩
 ·cases h
 ·simp at hv
  obtain⟨rfl,_⟩:=hv
  exact⟨cur,hb⟩
theorem keepE_five {W:World} {g o:Nat} {cs:Array Value} {e:TypeId} (hg:W.heap[g]? = some (.cells cs e (0,0))) (a0 a1 a2 a3 a4:Value) :
  KeepE e W (((((W.setCell ⟨g,o,none⟩ a0).setCell ⟨g,o+1,none⟩ a1).setCell ⟨g,o+2,none⟩ a2).setCell ⟨g,o+3,none⟩ a3).setCell ⟨g,o+4,none⟩ a4):=fun k cur t ht hk=>by
 have hne:k≠g:=by
  rintro rfl
  rw[hg]at hk
  simp at hk
  exact ht hk.2.symm
 rw[heap_setCell_other _ _ k _ (by exact hne),heap_setCell_other _ _ k _ (by exact hne),heap_setCell_other _ _ k _ (by exact hne),heap_setCell_other _ _ k _ (by exact hne),heap_setCell_other _ _ k _ (by exact hne)]
 exact hk
theorem low_five {w W:World} {B g o:Nat} (h:Below B w W) (hg:B<=g) (a0 a1 a2 a3 a4:Value) :
  Below B w (((((W.setCell ⟨g,o,none⟩ a0).setCell ⟨g,o+1,none⟩ a1).setCell ⟨g,o+2,none⟩ a2).setCell ⟨g,o+3,none⟩ a3).setCell ⟨g,o+4,none⟩ a4) :=
 ((((h.setCell (p:=⟨g,o,none⟩) hg a0).setCell (p:=⟨g,o+1,none⟩) hg a1).setCell (p:=⟨g,o+2,none⟩) hg a2).setCell (p:=⟨g,o+3,none⟩) hg a3).setCell (p:=⟨g,o+4,none⟩) hg a4
structure Mad (w wr:World) (m:List MO) (n j:Nat) (mo:List MO):Prop where
 os:oths mo=oths (m.take j)
 len:mo.length=j
 row:OwnO wr w.heap.size (.slice (some ⟨w.heap.size,0,none⟩) n n) (mo++List.replicate (n-j) zMO)
 has:Hass wr w.heap.size mo
 ap:Apart mo
 low:Below w.heap.size w wr
theorem Mad.more {w wr w1:World} {m mo:List MO} {n j:Nat} {x:Oth} {v:Value} (h:Mad w wr m n j mo) (hj:j<n) (hx:oths (m.take (j+1))=oths (m.take j)++[x]) (ho:OwnI w1 wr.heap.size v x.has) (hb:Below wr.heap.size wr w1) :
  Mad w (((((w1.setCell ⟨w.heap.size,j*5,none⟩ (.string x.name)).setCell ⟨w.heap.size,j*5+1,none⟩ v).setCell ⟨w.heap.size,j*5+2,none⟩ (.int .i64 x.asked)).setCell ⟨w.heap.size,j*5+3,none⟩ (.int .i64 x.age)).setCell ⟨w.heap.size,j*5+4,none⟩ (.int .i64 x.strikes)) m n (j+1) (mo++[(x,v)]):=by
 have hr:=h.row.below hb
 have hlen:(mo++List.replicate (n-j) zMO).length=n:=by
  rw[List.length_append,List.length_replicate,h.len]
  omega
 have hset:(mo++List.replicate (n-j) zMO).set j (x,v)=(mo++[(x,v)])++List.replicate (n-(j+1)) zMO:=by
  rw[List.set_append,if_neg (by rw[h.len];omega),h.len,Nat.sub_self,show n-j=(n-(j+1))+1 by omega,List.replicate_succ,List.set_cons_zero,List.append_assoc]
  rfl
 have hr2:=hr.set (i:=j) hlen (by omega) (x,v)
 rw[hset]at hr2
 obtain⟨cur,hcur⟩:=hr.blk
 have he:(2:TypeId)≠89:=by decide
 have hk:=keepE_five (o:=j*5) hcur (.string x.name) v (.int .i64 x.asked) (.int .i64 x.age) (.int .i64 x.strikes)
 refine⟨?_,by rw[List.length_append,h.len];rfl,hr2,?_,?_,low_five (lowL h.low hb) (Nat.le_refl _) _ _ _ _ _⟩
 ·unfold oths at hx ⊢
  rw[List.map_append,hx,<-show List.map (·.1) mo=List.map (·.1) (m.take j) from h.os]
  rfl
 ·intro y hy
  rcases List.mem_append.1 hy with hy|hy
  ·exact ownI_keep ((h.has y hy).below hb) hk he
  ·rw[List.mem_singleton.1 hy]
   exact ownI_keep (ho.mono h.low.size) hk he
 ·unfold Apart
  rw[List.pairwise_append]
  refine⟨h.ap,List.pairwise_singleton _ _,fun y hy z hq g hg=>?_⟩
  rw[List.mem_singleton.1 hq]
  intro hg'
  have h1:=(World.ownsRow.lt (h.has y hy) g hg).2
  have h2:=(World.ownsRow.lt ho g hg').1
  omega
structure MadeO (W:World) (base:Nat) (v:Value) (m mo:List MO):Prop where
 os:oths mo=oths m
 row:OwnO W base v mo
 has:Hass W base mo
 ap:Apart mo
theorem MadeO.call {W W':World} {base:Nat} {v:Value} {m mo:List MO} (h:MadeO W base v m mo) (hb:Below W.heap.size W W'):MadeO W' base v m mo:=⟨h.os,h.row.below hb,h.has.below hb,h.ap⟩
theorem MadeO.mono {W:World} {base base':Nat} {v:Value} {m mo:List MO} (h:MadeO W base v m mo) (hb:base'<=base):MadeO W base' v m mo:=⟨h.os,h.row.mono hb,fun x hx=>(h.has x hx).mono hb,h.ap⟩
theorem ownI_hasAt {W:World} {base:Nat} {x:MO} (h:OwnI W base x.2 x.1.has):HasAt W W.heap.size x:=by
 rcases h.split with⟨h1,h2⟩|⟨g,cap,hv,_,hc,ho⟩
 ·exact⟨none,0,by rw[h1,h2];rfl,by rw[h2];exact Nat.le_refl _,fun _=>rfl,.inl h2⟩
 ·exact⟨_,cap,hv,hc,fun h=>(by cases h),ho.ints ho.lt⟩
theorem MadeO.oths {W:World} {base n:Nat} {a:Option Addr} {cap:Nat} {m mo:List MO} (h:MadeO W base (.slice a n cap) m mo):Oths W W.heap.size a mo/\mo.length=n:=by
 refine⟨⟨?_,fun x hx=>ownI_hasAt (h.has x hx)⟩,?_⟩
 ·by_cases h0:0<mo.length
  ·obtain⟨g,cp,hv,_,hg,_,hc⟩:=h.row.cells h0
   simp at hv
   obtain⟨rfl,_⟩:=hv
   exact .inr ⟨g,0,rfl,hg,fun j hj=>by rw[Nat.zero_add];exact hc j hj⟩
  ·exact .inl (List.eq_nil_of_length_eq_zero (by omega))
 ·obtain⟨a',c',hv,_⟩:=h.row.one
  simp at hv
  exact hv.2.1.symm
theorem small_of {m mo:List MO} (h:oths mo=oths m) (hs:Small m):Small mo:=fun x hx=>by
 have:x.1∈oths m:=by rw[<-h];exact List.mem_map_of_mem hx
 obtain⟨y,hy,he⟩:=List.mem_map.1 this
 rw[<-he]
 exact hs y hy
theorem toOs_any (a:Option Addr) (n cap:Nat) (m:List MO) (w:World) (h:Oths w w.heap.size a m) (hm:m.length=n) (hn:n<=1048576) (hsm:Small m) :
  Calls Tryz.prog 51 #[.slice a n cap] w fun e w'=>e=.returned (.slice (some ⟨w.heap.size,0,none⟩) n n)/\(∃ mo,MadeO w' w.heap.size (.slice (some ⟨w.heap.size,0,none⟩) n n) m mo)/\Below w.heap.size w w':=by
 obtain⟨j0,hj0,ho0,ho1,ho2⟩:=info_parts Tryz.infoOther
 have HS:=hideK h
 have HM:=hideK hm
 have HSM:=hideK hsm
 clear h hm hsm
 go_enter Tryz.func51,Tryz.ntmps51
 go_wp2_with (at_make;refine wpList_make_full _ rfl (.tmp 6) (.tmp 6) 41 rfl w.heap.size 89 j0 (.agg #[.string ⟨#[]⟩,.slice none 0 0,.int .i64 0,.int .i64 0,.int .i64 0]) 5 Tryz.underlying41 hj0 ho0 ho1 .i64 .i64 _ _ n rfl rfl (by simp) (by simp) (by rw[ho2];omega) (by unfold maxLen;omega) (Nat.le_refl _) ?_;intro w1 hown1 hgrow1;have HR:=hideK hown1;have HB:=hideK ((Below.refl w.heap.size w).grown hgrow1 (Nat.le_refl _) (by simp));clear hown1 hgrow1)
 have M0:Hid (Mad w w1 m n 0 []):=⟨rfl,rfl,by unfold OwnO;rw[List.nil_append,Nat.sub_zero,List.length_replicate,<-made_oths];exact HR.out,fun x hx=>absurd hx List.not_mem_nil,List.Pairwise.nil,HB.out⟩
 clear HR HB
 go_loopw [4] (fun jv wr=>∃ (j:Nat) (mo:List MO),jv=.int .i64 j/\j<=n/\Mad w wr m n j mo) (fun jv _=>n-(intOf jv).toNat)
 case atStart=>exact⟨0,[],rfl,Nat.zero_le _,M0.out⟩
 case round =>
  obtain⟨j,mo,rfl,hj,hmad⟩:=hrel
  have MA:=hideK hmad
  clear hmad M0
  by_cases hlt:j<n
  ·have hlt':(j:Int)<(n:Int):=by omega
   have hjl:j<m.length:=by rw[HM.out];exact hlt
   obtain⟨b,off,rfl,hb,hc⟩:=HS.out.some (by omega)
   obtain⟨d0,d1,d2,d3,d4⟩:=(hc j hjl).below MA.out.low hb
   obtain⟨ax,cx,hxv,_,_,hix⟩:=HS.out.2 m[j] (List.getElem_mem hjl)
   have HIX:=hideK ((hix.below MA.out.low).mono MA.out.low.size)
   have hkx:=(HSM.out m[j] (List.getElem_mem hjl)).1
   have HT:=hideK (oths_take hjl)
   rw[hxv]at d1
   generalize m[j].1=x at d0 d1 d2 d3 d4 HIX HT hkx
   obtain⟨nm,l,q,g,t⟩:=x
   dsimp only at d0 d1 d2 d3 d4 HIX hkx
   have HTO:=hideK (toO_any nm ax l.length cx l q g t wr HIX.out rfl hkx)
   have HMO:Hid (∀ (w1:World) (v:Value),OwnI w1 wr.heap.size v l->Below wr.heap.size wr w1->FiveAt w1 w.heap.size (j*5) zMO/\(∀ o,w1.frozen? ⟨w.heap.size,o,none⟩=false)/\Mad w (((((w1.setCell ⟨w.heap.size,j*5,none⟩ (.string nm)).setCell ⟨w.heap.size,j*5+1,none⟩ v).setCell ⟨w.heap.size,j*5+2,none⟩ (.int .i64 q)).setCell ⟨w.heap.size,j*5+3,none⟩ (.int .i64 g)).setCell ⟨w.heap.size,j*5+4,none⟩ (.int .i64 t)) m n (j+1) (mo++[(⟨nm,l,q,g,t⟩,v)])):=fun w1 v h1 h2=>by
    have hr:=MA.out.row.below h2
    have hlen:(mo++List.replicate (n-j) zMO).length=n:=by
     rw[List.length_append,List.length_replicate,MA.out.len]
     omega
    obtain⟨g',cp',hv',_,_,_,hcc⟩:=hr.cells (by omega)
    obtain rfl:w.heap.size=g':=by simp at hv';exact hv'.1
    have hcj:=hcc j (by omega)
    rw[List.getElem_append_right (by rw[MA.out.len];exact Nat.le_refl _),List.getElem_replicate]at hcj
    exact⟨hcj,hr.frozen,MA.out.more (x:=⟨nm,l,q,g,t⟩) hlt HT.out h1 h2⟩
   clear hc hxv hix
   generalize l.length=k at d1 HTO
   go_wp2_with fail
   refine HTO.out.mono ?_
   rintro e w2 ⟨v,rfl,ho,hb2⟩
   obtain⟨hz5,hfz,hmd⟩:=HMO.out w2 v ho hb2
   obtain⟨av,cv,hv,_,_⟩:=ho.ints
   have hcl:∀ w:World,w.cell? ⟨0,0,none⟩=w.cell? ⟨0,0,none⟩:=fun _=>rfl
   clear hcl
   subst hv
   have MD:=hideK hmd
   unfold FiveAt zMO at hz5
   obtain⟨y0,y1,y2,y3,y4⟩:=hz5
   dsimp only at y0 y1 y2 y3 y4
   clear ho hb2 hmd d0 d1 d2 d3 d4 HTO
   go_wp2_with fail
   go_roundw
   case rel=>exact⟨j+1,_,by go_num,by omega,MD.out⟩
   case measure=>simp[intOf];omega
  ·have HE:Hid (MadeO wr w.heap.size (.slice (some ⟨w.heap.size,0,none⟩) n n) m mo):=⟨by rw[MA.out.os,List.take_of_length_le (by rw[HM.out];omega)],by
    have:=MA.out.row
    rwa[show n-j=0 by omega,List.replicate_zero,List.append_nil]at this,MA.out.has,MA.out.ap⟩
   have hltD:decide ((j:Int)<(n:Int))=false:=by simp;omega
   have hlt2:¬((j:Int)<(n:Int)):=by omega
   go_wp2_with fail
   go_ret
   exact⟨rfl,⟨mo,HE.out⟩,MA.out.low⟩
end Go.Proofs.YtikiihjabbmkcaaGreatDoor.Pe


namespace Go.Proofs.YtikiihjabbmkcaaGreatDoor.Pe
open Go.RowKit
open Kp
open In (Ints OwnI)
open Ap (KeepE)
open Ls (lowL)
theorem OwnO.keepE {W W':World} {base:Nat} {v:Value} {m:List MO} {e:TypeId} (h:OwnO W base v m) (k:KeepE e W W') (he:(89:TypeId)≠e):OwnO W' base v m:=by
 obtain⟨hl,h⟩:=h
 refine⟨hl,?_⟩
 rcases h with h|⟨g,cap,cur,hv,hg,hb,rest⟩
 ·exact .inl h
 ·exact .inr ⟨g,cap,cur,hv,hg,k g cur _ he hb,rest⟩
theorem MadeO.keepE {W W':World} {base:Nat} {v:Value} {m mo:List MO} {e:TypeId} (h:MadeO W base v m mo) (k:KeepE e W W') (h1:(89:TypeId)≠e) (h2:(2:TypeId)≠e):MadeO W' base v m mo:=⟨h.os,h.row.keepE k h1,h.has.keep k h2,h.ap⟩
theorem keepE_six {W:World} {g:Nat} {cs:Array Value} {e:TypeId} (hg:W.heap[g]? = some (.cells cs e (0,0))) (a0 a1 a2 a3 a4 a5:Value):KeepE e W ((((((W.setCell ⟨g,0,none⟩ a0).setCell ⟨g,1,none⟩ a1).setCell ⟨g,2,none⟩ a2).setCell ⟨g,3,none⟩ a3).setCell ⟨g,4,none⟩ a4).setCell ⟨g,5,none⟩ a5):=fun k cur t ht hk =>
 setP6_keep hk (by
  rintro rfl
  rw[hg]at hk
  simp at hk
  exact ht hk.2.symm) _ _ _ _ _ _
def pZ:Obj:=.cells #[.int .i64 0,.int .i64 0,.string ⟨#[]⟩,.string ⟨#[]⟩,.int .i64 0,.slice none 0 0] 43
theorem toP_any (z b:Int) (r s:ByteArray) (y:Int) (a:Option Addr) (n cap:Nat) (m:List MO) (w:World) (h:Oths w w.heap.size a m) (hm:m.length=n) (hn:n<=1048576) (hsm:Small m) :
  Calls Tryz.prog 18 #[lpV z b r s y (.slice a n cap)] w fun e w'=>∃ g mo,e=.returned (peerV z b r s y (.slice (some ⟨g,0,none⟩) n n))/\MadeO w' w.heap.size (.slice (some ⟨g,0,none⟩) n n) m mo/\Below w.heap.size w w':=by
 have HK:=hideK (fun W=>toK_any z b r s y W)
 have HO:=hideK (fun W (hW:Below w.heap.size w W)=>toOs_any a n cap m W ((h.below hW).mono hW.size) hm hn hsm)
 have C0:=hideK ((((Cx.nil w).new (lpO z b r s y (.slice a n cap))).new pZ).new pZ)
 simp only[World.size_alloc]at C0
 clear h hsm
 unfold peerV
 unfold kV at HK
 unfold lpV
 unfold lpO pZ at C0
 go_enter Tryz.func18,Tryz.ntmps18
 go_wp2_with fail
 generalize ((w.alloc _).alloc _).alloc _=W0 at C0 ⊢
 refine(HK.out _).mono ?_
 rintro e w1 ⟨rfl,hb⟩
 have C1:=hideK (C0.out.call hb)
 clear hb C0
 obtain⟨q0,q1,q2,q3,q4,q5⟩:=cellsP6 (C1.out.get 0 rfl)
 have ff:=fun o=>frozen_of_row w1 (w.heap.size+1+1) o _ _ (C1.out.get 0 rfl)
 have D1:Hid (Cx w w1 [(w.heap.size+1,.cells #[.int .i64 0,.int .i64 0,.string ⟨#[]⟩,.string ⟨#[]⟩,.int .i64 0,.slice none 0 0] 43),(w.heap.size,.cells #[.int .i64 z,.int .i64 b,.string r,.string s,.int .i64 y,.slice a n cap] 38)]):=⟨C1.out.low,fun x hx=>C1.out.blk x (List.mem_cons_of_mem _ hx)⟩
 have ne:∀ x∈[(w.heap.size+1,Obj.cells #[.int .i64 0,.int .i64 0,.string ⟨#[]⟩,.string ⟨#[]⟩,.int .i64 0,.slice none 0 0] 43),(w.heap.size,.cells #[.int .i64 z,.int .i64 b,.string r,.string s,.int .i64 y,.slice a n cap] 38)],x.1≠w.heap.size+1+1:=fun x hx=>by
   rcases List.mem_cons.1 hx with rfl|hx
   ·show w.heap.size+1≠w.heap.size+1+1;omega
   ·rw[List.mem_singleton.1 hx];show w.heap.size≠w.heap.size+1+1;omega
 have D5:=hideK (((((D1.out.set (g:=w.heap.size+1+1) (by omega) ne 0 (.int .i64 z)).set (g:=w.heap.size+1+1) (by omega) ne 1 (.int .i64 b)).set (g:=w.heap.size+1+1) (by omega) ne 2 (.string r)).set (g:=w.heap.size+1+1) (by omega) ne 3 (.string s)).set (g:=w.heap.size+1+1) (by omega) ne 4 (.int .i64 y))
 have X1:=setC (cs':=#[.int .i64 z,.int .i64 0,.string ⟨#[]⟩,.string ⟨#[]⟩,.int .i64 0,.slice none 0 0]) (C1.out.get 0 rfl) 0 (.int .i64 z) rfl
 have X2:=setC (cs':=#[.int .i64 z,.int .i64 b,.string ⟨#[]⟩,.string ⟨#[]⟩,.int .i64 0,.slice none 0 0]) X1 1 (.int .i64 b) rfl
 have X3:=setC (cs':=#[.int .i64 z,.int .i64 b,.string r,.string ⟨#[]⟩,.int .i64 0,.slice none 0 0]) X2 2 (.string r) rfl
 have X4:=setC (cs':=#[.int .i64 z,.int .i64 b,.string r,.string s,.int .i64 0,.slice none 0 0]) X3 3 (.string s) rfl
 have X5:=hideK (setC (cs':=#[.int .i64 z,.int .i64 b,.string r,.string s,.int .i64 y,.slice none 0 0]) X4 4 (.int .i64 y) rfl)
 clear X1 X2 X3 X4 D1 C1
 go_upto_region 3 with fail
 generalize ((((w1.setCell _ _).setCell _ _).setCell _ _).setCell _ _).setCell _ _=W5 at D5 X5 ⊢
 clear q0 q1 q2 q3 q4 q5 ff
 have k5:=cell_of_row W5 w.heap.size 5 _ _ _ (D5.out.get 1 rfl)
 simp at k5
 go_wp2_with fail
 refine(HO.out _ D5.out.low).mono ?_
 rintro e w6 ⟨rfl,⟨mo,hmo⟩,hb⟩
 have M6:=hideK (hmo.mono D5.out.low.size)
 have X6:=hideK (Ls.blkL X5.out hb)
 have D6:=hideK (D5.out.call hb)
 clear hb hmo k5 D5 X5
 generalize W5.heap.size=gm at M6 ⊢
 obtain⟨q0,q1,q2,q3,q4,q5⟩:=cellsP6 X6.out
 have ff:=fun o=>frozen_of_row w6 (w.heap.size+1+1) o _ _ X6.out
 have D7:=hideK (D6.out.set (g:=w.heap.size+1+1) (by omega) ne 5 (.slice (some ⟨gm,0,none⟩) n n))
 have X7:=hideK (setC (cs':=#[.int .i64 z,.int .i64 b,.string r,.string s,.int .i64 y,.slice (some ⟨gm,0,none⟩) n n]) X6.out 5 (.slice (some ⟨gm,0,none⟩) n n) rfl)
 have M7:=hideK (M6.out.keepE (keepE_set X6.out 5 (.slice (some ⟨gm,0,none⟩) n n)) (by decide) (by decide))
 go_upto_region 4 with fail
 generalize w6.setCell _ _=W7 at D7 X7 M7 ⊢
 clear q0 q1 q2 q3 q4 q5 ff D6 X6 M6
 obtain⟨q0,q1,q2,q3,q4,q5⟩:=cellsP6 X7.out
 obtain⟨p0,p1,p2,p3,p4,p5⟩:=cellsP6 (D7.out.get 0 rfl)
 have ff:=fun o=>frozen_of_row W7 (w.heap.size+1) o _ _ (D7.out.get 0 rfl)
 have s6:=cellsP6 (setP6 (D7.out.get 0 rfl) (.int .i64 z) (.int .i64 b) (.string r) (.string s) (.int .i64 y) (.slice (some ⟨gm,0,none⟩) n n))
 have E6:=hideK (setP6_low D7.out.low (g:=w.heap.size+1) (by omega) (.int .i64 z) (.int .i64 b) (.string r) (.string s) (.int .i64 y) (.slice (some ⟨gm,0,none⟩) n n))
 have M8:=hideK (M7.out.keepE (keepE_six (D7.out.get 0 rfl) (.int .i64 z) (.int .i64 b) (.string r) (.string s) (.int .i64 y) (.slice (some ⟨gm,0,none⟩) n n)) (by decide) (by decide))
 clear ne
 go_wp2_with fail
 exact bodyPost_ret (v:=.agg #[.int .i64 z,.int .i64 b,.string r,.string s,.int .i64 y,.slice (some ⟨gm,0,none⟩) n n]) (by simp[results,Tryz.results18,go_sem,s6.1,s6.2.1,s6.2.2.1,s6.2.2.2.1,s6.2.2.2.2.1,s6.2.2.2.2.2]) rfl ⟨gm,mo,rfl,M8.out,E6.out⟩
end Go.Proofs.YtikiihjabbmkcaaGreatDoor.Pe


namespace Go.Proofs.YtikiihjabbmkcaaGreatDoor.Pe
open Go.RowKit
open Kp
open In (Ints OwnI)
open Ls (lowL)
theorem eqO_any (nm:ByteArray) (a a':Option Addr) (n cap cap':Nat) (l:List Int) (q g t:Int) (w:World) (h:Ints w w.heap.size a l) (h':Ints w w.heap.size a' l) (hln:l.length=n) (hn:n<=1048576) :
  Calls Tryz.prog 98 #[.agg #[.string nm,.slice a n cap,.int .i64 q,.int .i64 g,.int .i64 t],.agg #[.string nm,.slice a' n cap',.int .i64 q,.int .i64 g,.int .i64 t]] w fun e w'=>e=.returned (.bool true)/\Below w.heap.size w w':=by
 have C0:=hideK (((Cx.nil w).new (.cells #[.string nm,.slice a n cap,.int .i64 q,.int .i64 g,.int .i64 t] 89)).new (.cells #[.string nm,.slice a' n cap',.int .i64 q,.int .i64 g,.int .i64 t] 89))
 simp only[World.size_alloc]at C0
 have HE:=hideK (fun W (hW:Below w.heap.size w W)=>In.eq_any a a' cap cap' l W W.heap.size ((h.below hW).mono hW.size) ((h'.below hW).mono hW.size) (by rw[hln];exact hn))
 rw[hln]at HE
 clear h h' hln
 have h1:(nm.toList==nm.toList)=true:=by simp
 have h2:(q != q)=false:=by simp
 have h3:(g != g)=false:=by simp
 have h4:(t != t)=false:=by simp
 go_enter Tryz.func98,Tryz.ntmps98
 go_upto_region 1 with fail
 generalize (w.alloc _).alloc _=W0 at C0 ⊢
 obtain⟨p0,p1,p2,p3,p4⟩:=cells5 (C0.out.get 0 rfl)
 obtain⟨q0,q1,q2,q3,q4⟩:=cells5 (C0.out.get 1 rfl)
 go_wp2_with fail
 refine(HE.out _ C0.out.low).mono ?_
 rintro e w1 ⟨rfl,hb⟩
 have C1:=hideK (C0.out.call hb)
 clear hb C0 p0 p1 p2 p3 p4 q0 q1 q2 q3 q4
 obtain⟨p0,p1,p2,p3,p4⟩:=cells5 (C1.out.get 0 rfl)
 obtain⟨q0,q1,q2,q3,q4⟩:=cells5 (C1.out.get 1 rfl)
 go_wp2_with fail
 go_ret
 exact⟨rfl,C1.out.low⟩
theorem eqOs_any (a a':Option Addr) (n cap cap':Nat) (m m':List MO) (w:World) (h:Oths w w.heap.size a m) (h':Oths w w.heap.size a' m') (he:oths m=oths m') (hm:m.length=n) (hn:n<=1048576) (hsm:Small m) :
  Calls Tryz.prog 54 #[.slice a n cap,.slice a' n cap'] w fun e w'=>e=.returned (.bool true)/\Below w.heap.size w w':=by
 have hm':m'.length=n:=by rw[<-hm,<-oths_length m,<-oths_length m',he]
 have HS:=hideK h
 have HS':=hideK h'
 have HM:=hideK hm
 have HM':=hideK hm'
 have HSM:=hideK hsm
 have HEQ:Hid (∀ j (h1:j<m.length) (h2:j<m'.length),m'[j].1=m[j].1):=fun j h1 h2=>by rw[<-oths_get m' j h2,<-oths_get m j h1];simp only[he]
 have hmx:=mixedK
 have hnn:((n:Int) != (n:Int))=false:=by simp
 clear h h' he hm hm' hsm
 go_enter Tryz.func54,Tryz.ntmps54
 go_wp2_with fail
 go_loopw [5] (fun jv wr=>∃ j:Nat,jv=.int .i64 j/\j<=n/\Below w.heap.size w wr) (fun jv _=>n-(intOf jv).toNat)
 case atStart=>exact⟨0,rfl,Nat.zero_le _,Below.refl _ _⟩
 case round =>
  obtain⟨j,rfl,hj,hbel⟩:=hrel
  have GB:=hideK hbel
  clear hbel
  by_cases hlt:j<n
  ·have hlt':(j:Int)<(n:Int):=by omega
   have hjl:j<m.length:=by rw[HM.out];exact hlt
   have hjl':j<m'.length:=by rw[HM'.out];exact hlt
   obtain⟨b,off,rfl,hb,hc⟩:=HS.out.some (by omega)
   obtain⟨b',off',rfl,hb',hc'⟩:=HS'.out.some (by omega)
   obtain⟨d0,d1,d2,d3,d4⟩:=(hc j hjl).below GB.out hb
   obtain⟨e0,e1,e2,e3,e4⟩:=(hc' j hjl').below GB.out hb'
   obtain⟨ax,cx,hxv,_,_,hix⟩:=HS.out.2 m[j] (List.getElem_mem hjl)
   obtain⟨ax',cx',hxv',_,_,hix'⟩:=HS'.out.2 m'[j] (List.getElem_mem hjl')
   have hkx:=(HSM.out m[j] (List.getElem_mem hjl)).1
   rw[HEQ.out j hjl hjl']at e0 e2 e3 e4 hxv' hix'
   rw[hxv]at d1
   rw[hxv']at e1
   have HEO:=hideK (fun W (hW:Below w.heap.size w W)=>eqO_any m[j].1.name ax ax' _ cx cx' m[j].1.has m[j].1.asked m[j].1.age m[j].1.strikes W ((hix.below hW).mono hW.size) ((hix'.below hW).mono hW.size) rfl hkx)
   clear hix hix' hxv hxv' hc hc' hkx
   generalize m[j].1.name=nm at d0 e0 HEO
   generalize m[j].1.has.length=k at d1 e1 HEO
   generalize m[j].1.asked=q at d2 e2 HEO
   generalize m[j].1.age=g at d3 e3 HEO
   generalize m[j].1.strikes=t at d4 e4 HEO
   have r0:=fun d os=>cell_regrown d0 d os
   have r1:=fun d os=>cell_regrown d1 d os
   have r2:=fun d os=>cell_regrown d2 d os
   have r3:=fun d os=>cell_regrown d3 d os
   have r4:=fun d os=>cell_regrown d4 d os
   have s0:=fun d os=>cell_regrown e0 d os
   have s1:=fun d os=>cell_regrown e1 d os
   have s2:=fun d os=>cell_regrown e2 d os
   have s3:=fun d os=>cell_regrown e3 d os
   have s4:=fun d os=>cell_regrown e4 d os
   go_wp2_with fail
   refine wp_region_quiet_below (by assumption) (by kernel_rfl) ?_
   repeat (go_big_quiet_step ((go_at_call 98;exact Calls.regrown_of (HEO.out _ (lowL GB.out (below_regrown _ _ _))))))
   refine wpQuiet_nil ?_
   intro _ hw'
   obtain⟨⟨dq,osq⟩,hw''⟩:=hw'
   subst hw''
   have K1:=hideK (lowL GB.out (below_regrown wr dq osq))
   generalize Go.Sort.grow (redrawn wr dq) osq=w8 at K1 ⊢
   clear r0 r1 r2 r3 r4 s0 s1 s2 s3 s4 d0 d1 d2 d3 d4 e0 e1 e2 e3 e4
   go_wp2_with fail
   go_roundw
   case rel=>exact⟨j+1,by go_num,by omega,K1.out⟩
   case measure=>simp[intOf];omega
  ·have hltD:decide ((j:Int)<(n:Int))=false:=by simp;omega
   have hlt2:¬((j:Int)<(n:Int)):=by omega
   go_wp2_with fail
   go_ret
   exact⟨rfl,GB.out⟩
theorem eqP_any (z b:Int) (r s:ByteArray) (y:Int) (a a':Option Addr) (n cap cap':Nat) (m m':List MO) (w:World) (h:Oths w w.heap.size a m) (h':Oths w w.heap.size a' m') (he:oths m=oths m') (hm:m.length=n) (hn:n<=1048576) (hsm:Small m) :
  Calls Tryz.prog 20 #[peerV z b r s y (.slice a n cap),peerV z b r s y (.slice a' n cap')] w fun e w'=>e=.returned (.bool true)/\Below w.heap.size w w':=by
 have HK:=hideK (fun W=>eqK_same z b r s y W)
 have HO:=hideK (fun W (hW:Below w.heap.size w W)=>eqOs_any a a' n cap cap' m m' W ((h.below hW).mono hW.size) ((h'.below hW).mono hW.size) he hm hn hsm)
 have C0:=hideK (((Cx.nil w).new (peerO z b r s y (.slice a n cap))).new (peerO z b r s y (.slice a' n cap')))
 simp only[World.size_alloc]at C0
 clear h h' hsm
 unfold peerV
 unfold kV at HK
 unfold peerO at C0
 go_enter Tryz.func20,Tryz.ntmps20
 go_wp2_with fail
 generalize (w.alloc _).alloc _=W0 at C0 ⊢
 refine(HK.out _).mono ?_
 rintro e w1 ⟨rfl,hb⟩
 have C1:=hideK (C0.out.call hb)
 clear hb C0
 obtain⟨l0,l1,l2,l3,l4,l5⟩:=cellsP6 (C1.out.get 0 rfl)
 obtain⟨k0,k1,k2,k3,k4,k5⟩:=cellsP6 (C1.out.get 1 rfl)
 go_wp2_with fail
 refine(HO.out _ C1.out.low).mono ?_
 rintro e w2 ⟨rfl,hb⟩
 have C2:=hideK (C1.out.call hb)
 clear hb C1
 go_wp2_with fail
 go_ret
 exact⟨rfl,C2.out.low⟩
end Go.Proofs.YtikiihjabbmkcaaGreatDoor.Pe


namespace Go.Proofs.YtikiihjabbmkcaaGreatDoor.Pe
open Go.RowKit
open Kp
open In (Ints)
open Ls (lowL)
open Go.Proofs.YtikiihjabbmkcaaGreatDoor.Nm (nameB)
def isB (x a b:Int):Bool:=decide (a<=x/\x<=b)
theorem isq_any (x a b:Int) (w:World):Calls Tryz.prog 74 #[.int .i64 x,.int .i64 a,.int .i64 b] w fun e w'=>e=.returned (.bool (isB x a b))/\Below w.heap.size w w':=by
 by_cases h1:a<=x
 ·by_cases h2:x<=b
  ·have HE:Hid (isB x a b=true):=decide_eq_true ⟨h1,h2⟩
   go_enter Tryz.func74,Tryz.ntmps74
   go_wp2_with fail
   go_ret
   exact⟨ret_boolP HE.out.symm,Below.refl _ _⟩
  ·have HE:Hid (isB x a b=false):=decide_eq_false (fun h=>h2 h.2)
   go_enter Tryz.func74,Tryz.ntmps74
   go_wp2_with fail
   go_ret
   exact⟨ret_boolP HE.out.symm,Below.refl _ _⟩
 ·have HE:Hid (isB x a b=false):=decide_eq_false (fun h=>h1 h.1)
  go_enter Tryz.func74,Tryz.ntmps74
  go_wp2_with fail
  go_ret
  exact⟨ret_boolP HE.out.symm,Below.refl _ _⟩
theorem ask2_of {q g c:Int}:ask2 q g c=(isB q 0 c && isB g 0 3 && !((q==0) && !(g==0))):=by
 unfold ask2 isB
 by_cases h1:0<=q/\q<=c
 ·by_cases h2:0<=g/\g<=3
  ·by_cases h3:q=0
   ·by_cases h4:g=0
    ·rw[decide_eq_true (by omega),decide_eq_true h1,decide_eq_true h2,beq_iff_eq.2 h3,beq_iff_eq.2 h4];rfl
    ·rw[decide_eq_false (by omega),decide_eq_true h1,decide_eq_true h2,beq_iff_eq.2 h3,beq_eq_false_iff_ne.2 h4];rfl
   ·rw[decide_eq_true (by omega),decide_eq_true h1,decide_eq_true h2,beq_eq_false_iff_ne.2 h3];rfl
  ·rw[decide_eq_false (by omega),decide_eq_false h2,Bool.and_false,Bool.false_and]
 ·rw[decide_eq_false (by omega),decide_eq_false h1,Bool.false_and,Bool.false_and]
theorem other_specrun (nm:ByteArray) (a:Option Addr) (n cap:Nat) (l:List Int) (q g t c:Int) (w:World) (h:Ints w w.heap.size a l) (hln:l.length=n) (hn:n<=1048576) (hnm:nm.size<=maxLen) (hc0:0<=c) (hc1:c<=64) (N Q:Bool) (hN:nameB nm=N)
  (hQ:(N && risesB l c && (isB q 0 c && isB g 0 3 && !((q==0) && !(g==0))) && isB t 0 3 && (!(t==3) || (decide (l.length=0) && decide (q=0))))=Q) :
  Calls Tryz.prog 50 #[.agg #[.string nm,.slice a n cap,.int .i64 q,.int .i64 g,.int .i64 t],.int .i64 c] w fun e w'=>e=.returned (.bool Q)/\Below w.heap.size w w':=by
 have C0:=hideK ((Cx.nil w).new (.cells #[.string nm,.slice a n cap,.int .i64 q,.int .i64 g,.int .i64 t] 89))
 have HNM:=hideK (fun W=>Nm.spec_any nm W hnm)
 rw[hN]at HNM
 have HS:=hideK h
 have HLN:=hideK hln
 have HNO:Hid (∀ j (hj:j<l.length),¬(0<=l[j]/\l[j]<c/\(0<j->l.getD (j-1) 0<l[j]))->Q=false):=fun j hj h=>by rw[<-hQ,risesB_no (rises_bad2 hj h),Bool.and_false,Bool.false_and,Bool.false_and,Bool.false_and]
 have HYE:Hid (RisesTo l c l.length->(N && (isB q 0 c && isB g 0 3 && !((q==0) && !(g==0))) && isB t 0 3 && (!(t==3) || (decide (l.length=0) && decide (q=0))))=Q):=fun h=>by rw[<-hQ,risesB_yes h,Bool.and_true]
 have hmx:=mixedK
 clear h hln hnm hN hQ
 go_enter Tryz.func50,Tryz.ntmps50
 go_wp2_with fail
 go_loopw [5] (fun jv wr=>∃ j:Nat,jv=.int .i64 j/\j<=n/\RisesTo l c j/\Cx w wr [(w.heap.size,(.cells #[.string nm,.slice a n cap,.int .i64 q,.int .i64 g,.int .i64 t] 89))]) (fun jv _=>n-(intOf jv).toNat)
 case atStart=>exact⟨0,rfl,Nat.zero_le _,rises_zero _ _,C0.out⟩
 case round =>
  obtain⟨j,rfl,hj,hr,hcx⟩:=hrel
  have HR:=hideK hr
  have C1:=hideK hcx
  clear hr hcx C0
  obtain⟨q0,q1,q2,q3,q4⟩:=cells5 (C1.out.get 0 rfl)
  by_cases hlt:j<n
  ·have hlt':(j:Int)<(n:Int):=by omega
   have hjl:j<l.length:=by rw[HLN.out];exact hlt
   obtain⟨b,off,rfl,hb,hc⟩:=HS.out.some (by omega)
   have cx:=(C1.out.low.cell (p:=⟨b,off+j,none⟩) hb).trans (hc j hjl)
   have HB:=hideK (HNO.out j hjl)
   have HST:Hid (0<=l[j]->l[j]<c->(0<j->l.getD (j-1) 0<l[j])->RisesTo l c (j+1)):=fun h0 h1 h2=>rises_step2 hjl HR.out h0 h1 h2
   have HPV:Hid (∀ j' (_:j=j' + 1),∃ p:Int,wr.cell? ⟨b,off+j',none⟩=some (.int .i64 p)/\l.getD (j-1) 0=p):=fun j' e=>by
    subst e
    exact⟨l[j']'(by omega),(C1.out.low.cell (p:=⟨b,off+j',none⟩) hb).trans (hc j' (by omega)),by rw[Nat.add_sub_cancel,List.getD_eq_getElem?_getD,List.getElem?_eq_getElem (by omega)];rfl⟩
   have HIS:=hideK (fun W=>isq_any l[j] 0 (c-1) W)
   have HIY:Hid (isB l[j] 0 (c-1)=true->0<=l[j]/\l[j]<c):=fun h=>by unfold isB at h;have:=of_decide_eq_true h;omega
   have HIN:Hid (isB l[j] 0 (c-1)=false->¬(0<=l[j]/\l[j]<c)):=fun h=>by unfold isB at h;have:=of_decide_eq_false h;omega
   have hwr:IntKind.i64.wrap (c-1)=c-1:=by rw[IntKind.wrap_i64];omega
   generalize isB l[j] 0 (c-1)=I at HIS HIY HIN
   generalize l[j]=x at cx HB HST HIS HIY HIN
   clear hc hjl
   have r0:=fun d os=>cell_regrown q0 d os
   have r1:=fun d os=>cell_regrown q1 d os
   have r2:=fun d os=>cell_regrown q2 d os
   have r3:=fun d os=>cell_regrown q3 d os
   have r4:=fun d os=>cell_regrown q4 d os
   have rx:=fun d os=>cell_regrown cx d os
   cases I with
   |false =>
    have HE:=hideK (HB.out (fun hh=>HIN.out rfl ⟨hh.1,hh.2.1⟩))
    clear HIY HIN HST HB
    go_wp2_with fail
    refine wp_region_quiet_below (by assumption) (by kernel_rfl) ?_
    repeat (go_big_quiet_step ((go_at_call 74;exact Calls.regrown_of (HIS.out _))))
    refine wpQuiet_nil ?_
    intro _ hw'
    obtain⟨⟨dq,osq⟩,hw''⟩:=hw'
    subst hw''
    have C2:=hideK (C1.out.call (below_regrown wr dq osq))
    generalize Go.Sort.grow (redrawn wr dq) osq=w8 at C2 ⊢
    clear r0 r1 r2 r3 r4 rx q0 q1 q2 q3 q4 cx
    go_wp2_with fail
    go_ret
    exact⟨ret_boolP HE.out.symm,C2.out.low⟩
   |true =>
    have HI:=hideK (HIY.out rfl)
    clear HIY HIN
    rcases Nat.eq_zero_or_pos j with h0|h0
    ·subst h0
     rw[Nat.add_zero]at cx
     clear rx
     have rx:=fun d os=>cell_regrown cx d os
     have HNX:=hideK (HST.out HI.out.1 HI.out.2 (fun h=>by omega))
     have hd:decide ((0:Int)<((0:Nat):Int))=false:=by simp
     clear HB HST
     go_wp2_with fail
     refine wp_region_quiet_below (by assumption) (by kernel_rfl) ?_
     repeat (go_big_quiet_step ((go_at_call 74;exact Calls.regrown_of (HIS.out _))))
     refine wpQuiet_nil ?_
     intro _ hw'
     obtain⟨⟨dq,osq⟩,hw''⟩:=hw'
     subst hw''
     have C2:=hideK (C1.out.call (below_regrown wr dq osq))
     generalize Go.Sort.grow (redrawn wr dq) osq=w8 at C2 ⊢
     clear r0 r1 r2 r3 r4 rx q0 q1 q2 q3 q4 cx
     go_wp2_with fail
     go_roundw
     case rel=>exact⟨1,by go_num,by omega,HNX.out,C2.out⟩
     case measure=>simp[intOf];omega
    ·obtain⟨j',rfl⟩:∃ j',j=j' + 1:=⟨j-1,by omega⟩
     obtain⟨p,hcp,hpe⟩:=HPV.out j' rfl
     rw[hpe]at HB HST
     clear hpe
     have rp:=fun d os=>cell_regrown hcp d os
     have hd:decide ((0:Int)<((j' + 1:Nat):Int))=true:=decide_eq_true (by omega)
     have hj3:(j':Int)<(n:Int):=by omega
     by_cases hge:x<=p
     ·have HE:=hideK (HB.out (fun hh=>by have:=hh.2.2 (by omega);omega))
      have hge':decide (x<=p)=true:=decide_eq_true hge
      clear HB HST
      go_wp2_with fail
      refine wp_region_quiet_below (by assumption) (by kernel_rfl) ?_
      repeat (go_big_quiet_step ((go_at_call 74;exact Calls.regrown_of (HIS.out _))))
      refine wpQuiet_nil ?_
      intro _ hw'
      obtain⟨⟨dq,osq⟩,hw''⟩:=hw'
      subst hw''
      have C2:=hideK (C1.out.call (below_regrown wr dq osq))
      generalize Go.Sort.grow (redrawn wr dq) osq=w8 at C2 ⊢
      clear r0 r1 r2 r3 r4 rx q0 q1 q2 q3 q4 cx
      clear rp hcp
      go_wp2_with fail
      go_ret
      exact⟨ret_boolP HE.out.symm,C2.out.low⟩
     ·have HNX:=hideK (HST.out HI.out.1 HI.out.2 (fun _=>by omega))
      have hge':decide (x<=p)=false:=decide_eq_false hge
      clear HB HST
      go_wp2_with fail
      refine wp_region_quiet_below (by assumption) (by kernel_rfl) ?_
      repeat (go_big_quiet_step ((go_at_call 74;exact Calls.regrown_of (HIS.out _))))
      refine wpQuiet_nil ?_
      intro _ hw'
      obtain⟨⟨dq,osq⟩,hw''⟩:=hw'
      subst hw''
      have C2:=hideK (C1.out.call (below_regrown wr dq osq))
      generalize Go.Sort.grow (redrawn wr dq) osq=w8 at C2 ⊢
      clear r0 r1 r2 r3 r4 rx q0 q1 q2 q3 q4 cx
      clear rp hcp
      go_wp2_with fail
      go_roundw
      case rel=>exact⟨j' + 1+1,by go_num,by omega,HNX.out,C2.out⟩
      case measure=>simp[intOf];omega
  ·have HQ1:=hideK (HYE.out (by have:=HR.out;rwa[show l.length=j by have:=HLN.out;omega]))
   rw[HLN.out]at HQ1
   have hltD:decide ((j:Int)<(n:Int))=false:=by simp;omega
   have hlt2:¬((j:Int)<(n:Int)):=by omega
   have HI1:=hideK (fun W=>isq_any q 0 c W)
   have HI2:=hideK (fun W=>isq_any g 0 3 W)
   have HI3:=hideK (fun W=>isq_any t 0 3 W)
   have HT3:Hid (isB t 0 3=true->¬t<3->t=3):=fun h h2=>by unfold isB at h;have:=of_decide_eq_true h;omega
   generalize isB q 0 c=A1 at HI1 HQ1
   generalize isB g 0 3=A2 at HI2 HQ1
   generalize isB t 0 3=A3 at HI3 HQ1 HT3
   clear HNO HYE HR
   cases N with
   |false =>
    have HE:Hid (Q=false):=by unfold Hid;rw[<-HQ1.out];rfl
    go_wp2_with fail
    refine(HNM.out _).mono ?_
    rintro e w1 ⟨rfl,hw⟩
    subst hw
    go_wp2_with fail
    go_ret
    exact⟨ret_boolP HE.out.symm,C1.out.low⟩
   |true =>
   cases A1 with
   |false =>
    have HE:Hid (Q=false):=by unfold Hid;rw[<-HQ1.out];rfl
    go_wp2_with fail
    refine(HNM.out _).mono ?_
    rintro e w1 ⟨rfl,hw⟩
    subst hw
    go_wp2_with fail
    refine(HI1.out _).mono ?_
    rintro e w2 ⟨rfl,hb⟩
    have C2:=hideK (C1.out.call hb)
    clear hb C1 q0 q1 q2 q3 q4
    obtain⟨q0,q1,q2,q3,q4⟩:=cells5 (C2.out.get 0 rfl)
    go_wp2_with fail
    go_ret
    exact⟨ret_boolP HE.out.symm,C2.out.low⟩
   |true =>
   cases A2 with
   |false =>
    have HE:Hid (Q=false):=by unfold Hid;rw[<-HQ1.out];rfl
    go_wp2_with fail
    refine(HNM.out _).mono ?_
    rintro e w1 ⟨rfl,hw⟩
    subst hw
    go_wp2_with fail
    refine(HI1.out _).mono ?_
    rintro e w2 ⟨rfl,hb⟩
    have C2:=hideK (C1.out.call hb)
    clear hb C1 q0 q1 q2 q3 q4
    obtain⟨q0,q1,q2,q3,q4⟩:=cells5 (C2.out.get 0 rfl)
    go_wp2_with fail
    refine(HI2.out _).mono ?_
    rintro e w3 ⟨rfl,hb⟩
    have C3:=hideK (C2.out.call hb)
    clear hb C2 q0 q1 q2 q3 q4
    obtain⟨q0,q1,q2,q3,q4⟩:=cells5 (C3.out.get 0 rfl)
    go_wp2_with fail
    go_ret
    exact⟨ret_boolP HE.out.symm,C3.out.low⟩
   |true =>
   by_cases hz:q=0/\¬g=0
   ·have HE:Hid (Q=false):=by unfold Hid;rw[<-HQ1.out,beq_iff_eq.2 hz.1,beq_eq_false_iff_ne.2 hz.2];rfl
    have hz1:(q==0)=true:=beq_iff_eq.2 hz.1
    have hz2:(g != 0)=true:=by simpa using hz.2
    clear hz
    go_wp2_with fail
    refine(HNM.out _).mono ?_
    rintro e w1 ⟨rfl,hw⟩
    subst hw
    go_wp2_with fail
    refine(HI1.out _).mono ?_
    rintro e w2 ⟨rfl,hb⟩
    have C2:=hideK (C1.out.call hb)
    clear hb C1 q0 q1 q2 q3 q4
    obtain⟨q0,q1,q2,q3,q4⟩:=cells5 (C2.out.get 0 rfl)
    go_wp2_with fail
    refine(HI2.out _).mono ?_
    rintro e w3 ⟨rfl,hb⟩
    have C3:=hideK (C2.out.call hb)
    clear hb C2 q0 q1 q2 q3 q4
    obtain⟨q0,q1,q2,q3,q4⟩:=cells5 (C3.out.get 0 rfl)
    go_wp2_with fail
    go_ret
    exact⟨ret_boolP HE.out.symm,C3.out.low⟩
   ·have hzz:((q==0) && !(g==0))=false:=by
     by_cases h1:q=0
     ·have h2:g=0:=by
       by_cases h3:g=0
       ·exact h3
       ·exact absurd ⟨h1,h3⟩ hz
      rw[beq_iff_eq.2 h2];simp
     ·rw[beq_eq_false_iff_ne.2 h1];rfl
    rw[hzz]at HQ1
    clear hzz
    cases A3 with
    |false =>
     have HE:Hid (Q=false):=by unfold Hid;rw[<-HQ1.out];rfl
     by_cases hq:q=0
     ·have hg:g=0:=by
       by_cases h3:g=0
       ·exact h3
       ·exact absurd ⟨hq,h3⟩ hz
      have hz1:(q==0)=true:=beq_iff_eq.2 hq
      have hz2:(g != 0)=false:=by simpa using hg
      clear hz hq hg
      go_wp2_with fail
      refine(HNM.out _).mono ?_
      rintro e w1 ⟨rfl,hw⟩
      subst hw
      go_wp2_with fail
      refine(HI1.out _).mono ?_
      rintro e w2 ⟨rfl,hb⟩
      have C2:=hideK (C1.out.call hb)
      clear hb C1 q0 q1 q2 q3 q4
      obtain⟨q0,q1,q2,q3,q4⟩:=cells5 (C2.out.get 0 rfl)
      go_wp2_with fail
      refine(HI2.out _).mono ?_
      rintro e w3 ⟨rfl,hb⟩
      have C3:=hideK (C2.out.call hb)
      clear hb C2 q0 q1 q2 q3 q4
      obtain⟨q0,q1,q2,q3,q4⟩:=cells5 (C3.out.get 0 rfl)
      go_wp2_with fail
      refine(HI3.out _).mono ?_
      rintro e w4 ⟨rfl,hb⟩
      have C4:=hideK (C3.out.call hb)
      clear hb C3 q0 q1 q2 q3 q4
      obtain⟨q0,q1,q2,q3,q4⟩:=cells5 (C4.out.get 0 rfl)
      go_wp2_with fail
      go_ret
      exact⟨ret_boolP HE.out.symm,C4.out.low⟩
     ·have hz1:(q==0)=false:=beq_eq_false_iff_ne.2 hq
      clear hz
      go_wp2_with fail
      refine(HNM.out _).mono ?_
      rintro e w1 ⟨rfl,hw⟩
      subst hw
      go_wp2_with fail
      refine(HI1.out _).mono ?_
      rintro e w2 ⟨rfl,hb⟩
      have C2:=hideK (C1.out.call hb)
      clear hb C1 q0 q1 q2 q3 q4
      obtain⟨q0,q1,q2,q3,q4⟩:=cells5 (C2.out.get 0 rfl)
      go_wp2_with fail
      refine(HI2.out _).mono ?_
      rintro e w3 ⟨rfl,hb⟩
      have C3:=hideK (C2.out.call hb)
      clear hb C2 q0 q1 q2 q3 q4
      obtain⟨q0,q1,q2,q3,q4⟩:=cells5 (C3.out.get 0 rfl)
      go_wp2_with fail
      refine(HI3.out _).mono ?_
      rintro e w4 ⟨rfl,hb⟩
      have C4:=hideK (C3.out.call hb)
      clear hb C3 q0 q1 q2 q3 q4
      obtain⟨q0,q1,q2,q3,q4⟩:=cells5 (C4.out.get 0 rfl)
      go_wp2_with fail
      go_ret
      exact⟨ret_boolP HE.out.symm,C4.out.low⟩
    |true =>
     have HQ2:Hid ((!(t==3) || (decide (n=0) && decide (q=0)))=Q):=by unfold Hid;rw[<-HQ1.out];rfl
     clear HQ1
     by_cases hq:q=0
     ·have hg:g=0:=by
       by_cases h3:g=0
       ·exact h3
       ·exact absurd ⟨hq,h3⟩ hz
      have hz1:(q==0)=true:=beq_iff_eq.2 hq
      have hz2:(g != 0)=false:=by simpa using hg
      have HQD:Hid (decide (q=0)=true):=decide_eq_true hq
      clear hz hq hg
      go_wp2_with fail
      refine(HNM.out _).mono ?_
      rintro e w1 ⟨rfl,hw⟩
      subst hw
      go_wp2_with fail
      refine(HI1.out _).mono ?_
      rintro e w2 ⟨rfl,hb⟩
      have C2:=hideK (C1.out.call hb)
      clear hb C1 q0 q1 q2 q3 q4
      obtain⟨q0,q1,q2,q3,q4⟩:=cells5 (C2.out.get 0 rfl)
      go_wp2_with fail
      refine(HI2.out _).mono ?_
      rintro e w3 ⟨rfl,hb⟩
      have C3:=hideK (C2.out.call hb)
      clear hb C2 q0 q1 q2 q3 q4
      obtain⟨q0,q1,q2,q3,q4⟩:=cells5 (C3.out.get 0 rfl)
      go_wp2_with fail
      refine(HI3.out _).mono ?_
      rintro e w4 ⟨rfl,hb⟩
      have C4:=hideK (C3.out.call hb)
      clear hb C3 q0 q1 q2 q3 q4
      obtain⟨q0,q1,q2,q3,q4⟩:=cells5 (C4.out.get 0 rfl)
      by_cases h3:t<3
      ·have HE:Hid (Q=true):=by unfold Hid;rw[<-HQ2.out,beq_eq_false_iff_ne.2 (by omega)];rfl
       go_wp2_with fail
       go_ret
       exact⟨ret_boolP HE.out.symm,C4.out.low⟩
      ·have ht3:=HT3.out (by first|rfl|trivial) (by omega)
       have h3d:decide (t<3)=false:=decide_eq_false h3
       by_cases h4:n=0
       ·have h4':((n:Int)==0)=true:=beq_iff_eq.2 (by omega)
        have HE:Hid (Q=true):=by unfold Hid;rw[<-HQ2.out,beq_iff_eq.2 ht3,decide_eq_true h4,HQD.out];rfl
        clear ht3
        go_wp2_with fail
        go_ret
        exact⟨ret_boolP HE.out.symm,C4.out.low⟩
       ·have h4':((n:Int)==0)=false:=beq_eq_false_iff_ne.2 (by omega)
        have HE:Hid (Q=false):=by unfold Hid;rw[<-HQ2.out,beq_iff_eq.2 ht3,decide_eq_false h4];rfl
        clear ht3
        go_wp2_with fail
        go_ret
        exact⟨ret_boolP HE.out.symm,C4.out.low⟩
     ·have hz1:(q==0)=false:=beq_eq_false_iff_ne.2 hq
      have HQD:Hid (decide (q=0)=false):=decide_eq_false hq
      clear hz
      go_wp2_with fail
      refine(HNM.out _).mono ?_
      rintro e w1 ⟨rfl,hw⟩
      subst hw
      go_wp2_with fail
      refine(HI1.out _).mono ?_
      rintro e w2 ⟨rfl,hb⟩
      have C2:=hideK (C1.out.call hb)
      clear hb C1 q0 q1 q2 q3 q4
      obtain⟨q0,q1,q2,q3,q4⟩:=cells5 (C2.out.get 0 rfl)
      go_wp2_with fail
      refine(HI2.out _).mono ?_
      rintro e w3 ⟨rfl,hb⟩
      have C3:=hideK (C2.out.call hb)
      clear hb C2 q0 q1 q2 q3 q4
      obtain⟨q0,q1,q2,q3,q4⟩:=cells5 (C3.out.get 0 rfl)
      go_wp2_with fail
      refine(HI3.out _).mono ?_
      rintro e w4 ⟨rfl,hb⟩
      have C4:=hideK (C3.out.call hb)
      clear hb C3 q0 q1 q2 q3 q4
      obtain⟨q0,q1,q2,q3,q4⟩:=cells5 (C4.out.get 0 rfl)
      by_cases h3:t<3
      ·have HE:Hid (Q=true):=by unfold Hid;rw[<-HQ2.out,beq_eq_false_iff_ne.2 (by omega)];rfl
       go_wp2_with fail
       go_ret
       exact⟨ret_boolP HE.out.symm,C4.out.low⟩
      ·have ht3:=HT3.out (by first|rfl|trivial) (by omega)
       have h3d:decide (t<3)=false:=decide_eq_false h3
       by_cases h4:n=0
       ·have h4':((n:Int)==0)=true:=beq_iff_eq.2 (by omega)
        have HE:Hid (Q=false):=by unfold Hid;rw[<-HQ2.out,beq_iff_eq.2 ht3,decide_eq_true h4,HQD.out];rfl
        clear ht3
        go_wp2_with fail
        go_ret
        exact⟨ret_boolP HE.out.symm,C4.out.low⟩
       ·have h4':((n:Int)==0)=false:=beq_eq_false_iff_ne.2 (by omega)
        have HE:Hid (Q=false):=by unfold Hid;rw[<-HQ2.out,beq_iff_eq.2 ht3,decide_eq_false h4];rfl
        clear ht3
        go_wp2_with fail
        go_ret
        exact⟨ret_boolP HE.out.symm,C4.out.low⟩
theorem other_spec (x:MO) (c:Int) (w:World) (h:HasAt w w.heap.size x) (hn:x.1.has.length<=1048576) (hnm:x.1.name.size<=maxLen) (hc0:0<=c) (hc1:c<=64) :
  Calls Tryz.prog 50 #[othV x,.int .i64 c] w fun e w'=>e=.returned (.bool (othB x.1 c))/\Below w.heap.size w w':=by
 obtain⟨a,cap,hv,_,_,hi⟩:=h
 unfold othV
 rw[hv]
 exact other_specrun x.1.name a _ cap x.1.has _ _ _ c w hi rfl hn hnm hc0 hc1 _ _ rfl (by rw[oth_eq,ask2_of];rfl)
end Go.Proofs.YtikiihjabbmkcaaGreatDoor.Pe


namespace Go.Proofs.YtikiihjabbmkcaaGreatDoor.Se
open Go.RowKit
open Nu (bv arr_string ret_strJ hideJ)
theorem seal_split (s t:ByteArray) (ht:t=s.extract 0 (s.size-4)) (hts:t.size<=7996):sealV t=s↔fourS (crcOf t)=s.extract (s.size-4) s.size:=by
 have e:t++s.extract (s.size-4) s.size=s:=by
  rw[ht,ByteArray.extract_append_extract];simp[Nat.max_eq_right]
 unfold sealV
 rw[if_pos hts]
 constructor
 ·intro h
  rw[<-e]at h
  generalize s.extract (s.size-4) s.size=r at h e ⊢
  have h':t++fourS (crcOf t)=t++r:=by
   rw[e]at h
   rw[e]
   exact h
  exact(ByteArray.append_right_inj t).1 h'
 ·intro h
  rw[h]
  exact e
theorem unseal_spec (s:ByteArray) (w:World) (hs:s.size<=maxLen) :
  Calls Tryz.prog 121 #[.string s] w fun e w'=>e=.returned (unsealV s)/\Below w.heap.size w w':=by
 unfold maxLen at hs
 by_cases h1:8000<s.size
 ·have HV:=hideJ (show unsealV s=outV ⟨#[]⟩ 0 2 by unfold unsealV;rw[if_pos h1])
  go_enter Tryz.func121,Tryz.ntmps121
  go_wp2
  refine bodyPost_ret (v:=outV ⟨#[]⟩ 0 2) (by simp[results,outV,Tryz.results121,go_sem]) rfl ⟨by rw[HV.out],?_⟩
  exact(Below.refl _ _).alloc (Nat.le_refl _) _
 ·by_cases h2:s.size<4
  ·have HV:=hideJ (show unsealV s=outV ⟨#[]⟩ 0 4 by unfold unsealV;rw[if_neg h1,if_pos h2])
   go_enter Tryz.func121,Tryz.ntmps121
   go_wp2
   refine bodyPost_ret (v:=outV ⟨#[]⟩ 0 4) (by simp[results,outV,Tryz.results121,go_sem]) rfl ⟨by rw[HV.out],?_⟩
   exact(Below.refl _ _).alloc (Nat.le_refl _) _
  ·obtain⟨t,ht⟩:∃ t,t=s.extract 0 (s.size-4):=⟨_,rfl⟩
   have hts:t.size<=7996:=by rw[ht];simp;omega
   by_cases hq:sealV t=s
   ·have HV:=hideJ (unsealV_yes s t h1 h2 ht hq)
    have hB:((fourS (crcOf t)).toList==(s.extract (s.size-4) s.size).toList)=true:=by rw[list_eq_iff];exact decide_eq_true ((seal_split s t ht hts).1 hq)
    have hB2:((fourS (crcOf t)).toList==(s.extract ((s.size:Int)-4).toNat s.size).toList)=true:=by rw[show ((s.size:Int)-4).toNat=s.size-4 from by omega];exact hB
    have HT:=hideJ ht
    clear ht hq
    have g1:(0:Int)<=(s.size:Int)-4:=by omega
    have g2:(s.size:Int)-4<=(s.size:Int):=by omega
    have hwr:IntKind.i64.wrap ((s.size:Int)-4)=(s.size:Int)-4:=by rw[IntKind.wrap_i64];omega
    go_enter Tryz.func121,Tryz.ntmps121
    go_wp2
    rw[<-HT.out]
    go_region_with (first|(go_at_call 149;refine(Cr.crc_spec 0 t _ (by omega) (by omega)).mono ?_;rintro e w' ⟨rfl,hw⟩;subst w')|(go_at_call 148;refine(four_any (crcOf t) _ (crcOf_lt t)).mono ?_;rintro e wa ⟨rfl,hb1⟩))
    obtain⟨hc1,hf1⟩:=bcell hb1
    have hz1:w.heap.size+1<=wa.heap.size:=by have:=hb1.size;simpa using this
    go_wp2
    refine bodyPost_ret (v:=outV t 0 0) (by simp[results,outV,Tryz.results121,go_sem,hc1]) rfl ⟨by rw[HV.out],?_⟩
    exact((below2d hb1).setCell (Nat.le_refl _) _ |>.setCell (Nat.le_refl _) _).setCell (Nat.le_refl _) _
   ·have HV:=hideJ (unsealV_no s t h1 h2 ht hq)
    have hB:((fourS (crcOf t)).toList==(s.extract (s.size-4) s.size).toList)=false:=by rw[list_eq_iff];exact decide_eq_false (fun h=>hq ((seal_split s t ht hts).2 h))
    have hB2:((fourS (crcOf t)).toList==(s.extract ((s.size:Int)-4).toNat s.size).toList)=false:=by rw[show ((s.size:Int)-4).toNat=s.size-4 from by omega];exact hB
    have HT:=hideJ ht
    clear ht hq
    have g1:(0:Int)<=(s.size:Int)-4:=by omega
    have g2:(s.size:Int)-4<=(s.size:Int):=by omega
    have hwr:IntKind.i64.wrap ((s.size:Int)-4)=(s.size:Int)-4:=by rw[IntKind.wrap_i64];omega
    go_enter Tryz.func121,Tryz.ntmps121
    go_wp2
    rw[<-HT.out]
    go_region_with (first|(go_at_call 149;refine(Cr.crc_spec 0 t _ (by omega) (by omega)).mono ?_;rintro e w' ⟨rfl,hw⟩;subst w')|(go_at_call 148;refine(four_any (crcOf t) _ (crcOf_lt t)).mono ?_;rintro e wa ⟨rfl,hb1⟩))
    obtain⟨hc1,hf1⟩:=bcell hb1
    have hz1:w.heap.size+1<=wa.heap.size:=by have:=hb1.size;simpa using this
    go_wp2
    refine bodyPost_ret (v:=outV ⟨#[]⟩ 0 5) (by simp[results,outV,Tryz.results121,go_sem,hc1]) rfl ⟨by rw[HV.out],?_⟩
    exact((below2d hb1).setCell (Nat.le_refl _) _ |>.setCell (Nat.le_refl _) _).setCell (Nat.le_refl _) _
end Go.Proofs.YtikiihjabbmkcaaGreatDoor.Se

