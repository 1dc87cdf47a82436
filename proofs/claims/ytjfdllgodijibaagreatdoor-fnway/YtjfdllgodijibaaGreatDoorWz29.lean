/- Texts put together: FrontO, AppFresh, FrontOS, DrawFb, HuffPlain, HuffBound, HuffOf, HuLeastB, HuRow. -/
import Derived.Test.YtjfdllgodijibaaGreatDoorWz28
import Derived.Test.YtjfdllgodijibaaGreatDoorWz17
import Derived.WalkMore
import Derived.Scope
import Derived.Laws.AppendOwn
import Derived.WalkKit
import Derived.Below
import Derived.Test.YtjfdllgodijibaaGreatDoorWz27
import Derived.Laws.OwnMore
set_option maxRecDepth 100000
set_option maxHeartbeats 8000000
/- What the program's FrontOf answers. -/
namespace Go.Proofs.YtjfdllgodijibaaGreatDoor.Fr
open Go.RowKit
open Sh (IsB rowF upd made_row bt bt_get)
open Ze (hideZ)
open St (Aft)
open In (Ints IsI OwnI made_ints)
open In.Tryz (infoI2)
def padI (xs:List Int) (n:Nat):List Int:=xs++List.replicate (n-xs.length) 0
theorem list_get (t:ByteArray) (k:Nat) (h:k<t.size):∃ h':k<t.data.toList.length,t.data.toList[k]=t[k]:=⟨by simpa using h,by simp[ByteArray.getElem_eq_getElem_data]⟩
theorem below_drewN {B:Nat} {w w':World} (h:Below B w w') (n:Nat):Below B w (w'.drewN n):=⟨h.os,h.tape,h.output,h.size,h.block⟩
end Go.Proofs.YtjfdllgodijibaaGreatDoor.Fr


/- An append of some things onto a row of the call's own, or onto one that is empty and has no room: the row behind it lies above a mark. -/
namespace Go.Proofs.YtjfdllgodijibaaGreatDoor.Ap
open Go.RowKit
def Own0 (w:World) (base:Nat) (e:TypeId) (size:Nat) (v:Value) (n:Nat) (xs:List Value):Prop :=
 (∃ b,v=.slice (some b) 0 0/\n=0/\xs=[])∨w.ownsRow base e size v n xs
theorem Own0.below {w w':World} {base:Nat} {e:TypeId} {size:Nat} {v:Value} {n:Nat} {xs:List Value} (h:Own0 w base e size v n xs) (b:Below w.heap.size w w'):Own0 w' base e size v n xs:=by
 rcases h with h|⟨hl,h⟩
 ·exact .inl h
 ·refine .inr ⟨hl,?_⟩
  rcases h with h|⟨g,cap,cur,hv,hg,hb,rest⟩
  ·exact .inl h
  ·exact .inr ⟨g,cap,cur,hv,hg,by rw[b.block g (Array.getElem?_eq_some_iff.1 hb).1];exact hb,rest⟩
theorem Own0.alloc {w:World} {base:Nat} {e:TypeId} {size:Nat} {v:Value} {n:Nat} {xs:List Value} (h:Own0 w base e size v n xs) (o:Obj):Own0 (w.alloc o) base e size v n xs :=
 h.below ((Below.refl _ _).alloc (Nat.le_refl _) o)
theorem Own0.keep {w w':World} {base:Nat} {e:TypeId} {size:Nat} {v:Value} {n:Nat} {xs:List Value} (h:Own0 w base e size v n xs) (b:∀ k,base<=k->k<w.heap.size->w'.heap[k]? = w.heap[k]?):Own0 w' base e size v n xs:=by
 rcases h with h|⟨hl,h⟩
 ·exact .inl h
 ·refine .inr ⟨hl,?_⟩
  rcases h with h|⟨g,cap,cur,hv,hg,hb,rest⟩
  ·exact .inl h
  ·exact .inr ⟨g,cap,cur,hv,hg,by rw[b g hg (Array.getElem?_eq_some_iff.1 hb).1];exact hb,rest⟩
theorem run_append_own0 {P:Program} (w:World) (base:Nat) (t ty e:TypeId) (i:TypeInfo) (z:Value) (size bytes:Nat) (ht:P.underlying t=some (.slice e)) (hi:P.info? e=some i) (hz:i.zero=some z)
  (hsize:i.size=size) (hby:i.bytes=bytes) (hzs:z.cells.size=size) (hsz:0<size)
  (v:Value) (n:Nat) (xs:List Value) (hown:Own0 w base e size v n xs)
  (a:Addr) (m c:Nat) (news:List Value) (hl:news.length=m*size) (hnews:∀ j u,news[j]? = some u->w.cell? (a.add j)=some u) (h1:∀ u∈news,u.oneCell'=true) (hm:0<m)
  (h63:n+m<=maxLen) (hbytes:(n+m)*bytes<=140737488355328) (hbase:base<=w.heap.size) :
  ∃ v' w',(Builtin.append_ #[t,t] ty #[v,.slice (some a) m c]).run P w=.ok v' w'/\w'.ownsRow base e size v' (n+m) (xs++news)/\∀ B,B<=base->Below B w w':=by
 rcases hown with⟨b,rfl,rfl,rfl⟩|hown
 ·subst hsize
  subst hby
  have hsmall:m<=9223372036854775807:=by simp only[maxLen]at h63;omega
  have hr:=run_append_grow (P:=P) w t ty e i z ht hi hz b 0 0 [] (by simp) (by simp) a m c news hl hnews (by omega) (by omega) (growslice_fits (by omega) hbytes)
  refine⟨_,_,hr,?_,fun B hB=>?_⟩
  ·have hge:=grownCap_ge w (0+m) 0 e
   have hcm:grownCap w (0+m) 0 e<=maxLen:=grownCap_le_maxLen w (0+m) 0 e h63
   refine⟨by simpa using hl,.inr ⟨w.heap.size,_,_,rfl,hbase,heap_alloc_new w.drew _,hge,hcm,?_,?_⟩⟩
   ·simp only[Array.size_append,List.size_toArray,size_zeroCells,hzs,hl,List.length_nil]
    rw[Nat.zero_add,<-Nat.add_mul]
    congr 1
    omega
   ·simp only[Array.toList_append,List.nil_append]
    rw[show (0+m)*i.size=news.length by rw[Nat.zero_add,hl]]
    exact List.take_left
  ·exact((Below.refl B w).drew).alloc (by simp;omega) _
 ·obtain⟨v',w',hr,h2,h3,_⟩:=run_append_own (P:=P) w base t ty e i z size bytes ht hi hz hsize hby hzs hsz v n xs hown a m c news hl hnews h1 h63 hbytes hbase
  refine⟨v',w',hr,h2,fun B hB=>(Below.refl B w).grown h3 (by omega) ?_⟩
  intro k hk
  exact Nat.le_trans hB (hown.lt k hk).1
theorem wpList_append_own0 {P:Program} (w:World) {ops:Array Oper} {rest:List Oper} {o:Oper} {a:Act} {Q:Exit->Act->World->Prop} (hgd:o.guard=none) (s x:Operand) (t:TypeId)
  (ho:o.op=.call { callee:=.builtin .append,args:=#[s,x],argTypes:=#[t,t] })
  (base:Nat) (e:TypeId) (i:TypeInfo) (z:Value) (size bytes:Nat) (ht:P.underlying t=some (.slice e)) (hi:P.info? e=some i) (hz:i.zero=some z)
  (hsize:i.size=size) (hby:i.bytes=bytes) (hzs:z.cells.size=size) (hsz:0<size)
  (v:Value) (n:Nat) (xs:List Value) (hs:a.eval s=v) (hown:Own0 w base e size v n xs)
  (ad:Addr) (m c:Nat) (news:List Value) (hx:a.eval x=.slice (some ad) m c) (hl:news.length=m*size) (hnews:∀ j u,news[j]? = some u->w.cell? (ad.add j)=some u) (h1:∀ u∈news,u.oneCell'=true) (hm:0<m)
  (h63:n+m<=maxLen) (hbytes:(n+m)*bytes<=140737488355328) (hbase:base<=w.heap.size)
  (h:∀ v' w',w'.ownsRow base e size v' (n+m) (xs++news)->(∀ B,B<=base->Below B w w')->wpList P ops Q rest (a.put o.dst v') w'):wpList P ops Q (o :: rest) a w :=
 wpList_plain hgd fun _ hK=>by
  obtain⟨v',w',hr,h2,h3⟩:=run_append_own0 (P:=P) w base t o.type e i z size bytes ht hi hz hsize hby hzs hsz v n xs hown ad m c news hl hnews h1 hm h63 hbytes hbase
  unfold Oper.wp execOp
  simp only[ho,resolve,invoke,builtin,Sem.run_bind,Sem.run_pure,Result.andThen_ok,List.map_toArray,List.map_cons,List.map_nil,hs,hx,hr]
  exact hK _ _ (h v' w' h2 h3)
end Go.Proofs.YtjfdllgodijibaaGreatDoor.Ap


namespace Go.Proofs.YtjfdllgodijibaaGreatDoor.Fr
open Go.RowKit
open Sh (IsB rowF upd made_row bt bt_get)
open Ze (hideZ)
open St (Aft)
open In (Ints IsI OwnI one_newI one_cellI)
open In.Tryz (infoI2)
open Ap (Own0 wpList_append_own0)
def Own0I (w:World) (lit base:Nat) (v:Value) (l:List Int):Prop :=
 w.heap[lit]? = some (.cells #[] 2 (0,0))/\((v=.slice (some ⟨lit,0,none⟩) 0 0/\l=[])∨OwnI w base v l)
theorem Own0I.own0 {w:World} {lit base:Nat} {v:Value} {l:List Int} (h:Own0I w lit base v l):Own0 w base 2 1 v l.length (l.map (Value.int .i64)):=by
 rcases h.2 with⟨rfl,rfl⟩|h
 ·exact .inl ⟨_,rfl,rfl,rfl⟩
 ·exact .inr h
theorem Own0I.done {w:World} {lit base:Nat} {v:Value} {l:List Int} (h:Own0I w lit base v l) (hb:lit<=base):OwnI w lit v l:=by
 obtain⟨he,⟨rfl,rfl⟩|h⟩:=h
 ·exact⟨rfl,.inr ⟨lit,0,#[],rfl,Nat.le_refl _,he,Nat.le_refl _,by decide,rfl,rfl⟩⟩
 ·exact h.mono hb
theorem Own0I.keep {w w':World} {lit base:Nat} {v:Value} {l:List Int} (h:Own0I w lit base v l) (hl:w'.heap[lit]? = w.heap[lit]?) (b:∀ k,base<=k->k<w.heap.size->w'.heap[k]? = w.heap[k]?):Own0I w' lit base v l:=by
 refine⟨hl.trans h.1,?_⟩
 rcases h.2 with h|⟨hl,h⟩
 ·exact .inl h
 ·refine .inr ⟨hl,?_⟩
  rcases h with h|⟨g,cap,cur,hv,hg,hb,rest⟩
  ·exact .inl h
  ·exact .inr ⟨g,cap,cur,hv,hg,by rw[b g hg (Array.getElem?_eq_some_iff.1 hb).1];exact hb,rest⟩
theorem frontOf_spec (t:ByteArray) (w:World) (hn:t.size<=1048576) :
  Calls Tryz.prog 83 #[.string t] w fun e w'=>∃ v,e=.returned v/\OwnI w' w.heap.size v (frontR t.data.toList)/\Below w.heap.size w w':=by
 obtain⟨i0,hi0,hz0,hz1,hz2⟩:=info_parts infoI2
 have hdl:t.data.toList.length=t.size:=by simp
 have HB0:Hid (Below w.heap.size w (w.alloc (.cells #[] 2))):=(Below.refl _ _).alloc (Nat.le_refl _) _
 have HRS:=hideZ (row_spec (w.alloc (.cells #[] 2)))
 have HE0:Hid ((w.alloc (.cells #[] 2)).heap[w.heap.size]? = some (.cells #[] 2 (0,0))):=heap_alloc_last w _
 have zs:(w.alloc (.cells #[] 2)).heap.size=w.heap.size+1:=by simp
 rw[zs]at HRS
 clear zs
 by_cases hlong:400<t.size
 ·rw[frontR_no (by omega)]
  clear hdl
  have hd4:decide ((t.size:Int)<=400)=false:=decide_eq_false (by omega)
  have hd0:decide ((0:Int)<(t.size:Int))=true:=decide_eq_true (by omega)
  go_enter Tryz.func83,Tryz.ntmps83
  go_wp2_with fail
  refine HRS.out.mono ?_
  rintro e w1 ⟨rfl,hr1,hb1⟩
  have HB1:=hideZ (HB0.out.trans (hb1.mono (by omega)))
  have HV:Hid (Own0I w1 w.heap.size (w.heap.size+2) (.slice (some ⟨w.heap.size,0,none⟩) 0 0) []):=⟨(hb1.block _ (by omega)).trans HE0.out,.inl ⟨rfl,rfl⟩⟩
  clear hr1 hb1
  go_wp2_with fail
  go_loopw [5,3] (fun i u wr=>i=.int .i64 0/\u=.slice (some ⟨w.heap.size,0,none⟩) 0 0/\wr=w1) (fun _ _ _=>0)
  case atStart=>exact⟨rfl,rfl,rfl⟩
  case round =>
   obtain⟨rfl,rfl,rfl⟩:=hrel
   go_wp2_with fail
   go_ret
   exact⟨_,rfl,HV.out.done (by omega),HB1.out⟩
 ·rw[frontR_yes (by omega)]
  have hd4:decide ((t.size:Int)<=400)=true:=decide_eq_true (by omega)
  have HDL:=hideZ hdl
  clear hdl
  go_enter Tryz.func83,Tryz.ntmps83
  go_wp2_with fail
  refine HRS.out.mono ?_
  rintro e w1 ⟨rfl,hr1,hb1⟩
  have HB1:=hideZ (HB0.out.trans (hb1.mono (by omega)))
  have HV:Hid (Own0I w1 w.heap.size (w.heap.size+2) (.slice (some ⟨w.heap.size,0,none⟩) 0 0) []):=⟨(hb1.block _ (by omega)).trans HE0.out,.inl ⟨rfl,rfl⟩⟩
  have HR1:=hideZ hr1
  clear hr1 hb1 HRS HE0
  obtain⟨l,hl⟩:∃ l,l=t.data.toList:=⟨_,rfl⟩
  rw[<-hl]at HDL
  have HL:=hideZ hl
  clear hl
  go_wp2_with fail
  go_loopw [5,3] (fun i u wr=>∃ k:Nat,i=.int .i64 k/\k<=t.size/\IsB wr (w.heap.size+1) 5 .u8 256 (fst' (l.take k)).2/\Own0I wr w.heap.size (w.heap.size+2) u (fst' (l.take k)).1/\Below w.heap.size w wr) (fun i _ _=>t.size-(intOf i).toNat)
  case atStart=>exact⟨0,rfl,Nat.zero_le _,HR1.out,HV.out,HB1.out⟩
  case round =>
   obtain⟨k,rfl,hk,hrow,hown,hbel⟩:=hrel
   obtain⟨hfull,hlen⟩:=fst_full l k (by have:=HDL.out;omega)
   have R1:=hideZ hrow
   have O1:=hideZ hown
   have GB:=hideZ hbel
   have hgs:=hrow.lt
   clear hbel
   by_cases hlt:k<t.size
   ·have hd0:decide ((k:Int)<(t.size:Int))=true:=decide_eq_true (by omega)
    obtain⟨hkl',hget⟩:=list_get t k hlt
    have hkl:k<l.length:=by rw[HDL.out];exact hlt
    have hge:l[k]=t[k]:=by
     have:=HL.out
     subst this
     exact hget
    have HM:=hideZ (fst_more hkl)
    rw[hge]at HM
    obtain⟨c,hc⟩:∃ c:UInt8,t[k]=c:=⟨_,rfl⟩
    rw[hc]at HM
    obtain⟨f,hf⟩:∃ f,f=(fst' (l.take k)).2:=⟨_,rfl⟩
    obtain⟨ps,hps⟩:∃ ps,ps=(fst' (l.take k)).1:=⟨_,rfl⟩
    rw[<-hf]at R1 HM hfull
    rw[<-hps]at O1 HM hlen
    have hlk:=look_some hfull (c:=c.toNat) (UInt8.toNat_lt _)
    obtain⟨q,hq⟩:∃ q,q=look f c.toNat:=⟨_,rfl⟩
    rw[<-hq]at hlk HM
    have hq256:=hlk.1
    have HLK:=hideZ hlk.2
    have HLE:=hideZ hlen
    have HFU:=hideZ hfull
    clear hget hge hf hps hrow hown hfull hlen hlk hq
    go_wp2_with fail
    go_loopw [6] (fun i wr2=>∃ p:Nat,i=.int .i64 p/\p<=q/\IsB wr2 (w.heap.size+1) 5 .u8 256 f/\Own0I wr2 w.heap.size (w.heap.size+2) u3 ps/\Below w.heap.size w wr2) (fun i _=>q-(intOf i).toNat)
    case atStart=>exact⟨0,rfl,Nat.zero_le _,R1.out,O1.out,GB.out⟩
    case round =>
     obtain⟨p,rfl,hp,hrow2,hown2,hbel2⟩:=hrel
     have R2:=hideZ hrow2
     have O2:=hideZ hown2
     have GB2:=hideZ hbel2
     have hgs2:=hrow2.lt
     have c1:=hrow2.cell (j:=p) (by omega)
     have hbnd:=HFU.out.2 p (by omega)
     obtain⟨y,hy⟩:∃ y,y=f p:=⟨_,rfl⟩
     rw[<-hy]at c1 hbnd
     have HY:=hideZ hy
     clear hrow2 hown2 hbel2 hy
     by_cases hpq:p=q
     ·have hyc:(y==((c.toNat:Nat):Int))=true:=beq_iff_eq.2 (by rw[HY.out,hpq];exact HLK.out.1)
      have hq1:q<256:=hq256
      have HR3:Hid (∀ nq,IsB (wr.drewN nq) (w.heap.size+1) 5 .u8 256 f):=fun nq=>R2.out
      have HO3:Hid (∀ nq,Own0I (wr.drewN nq) w.heap.size (w.heap.size+2) u3 ps):=fun nq=>O2.out.keep rfl (fun _ _ _=>rfl)
      have HB3:Hid (∀ nq,Below w.heap.size w (wr.drewN nq)):=fun nq=>below_drewN GB2.out nq
      rw[<-hpq]at HM
      clear hpq
      go_wp2_with fail
      go_quiet (fail)
      have R4:=HR3.out nq
      have O4:=HO3.out nq
      have B4:=HB3.out nq
      have z4:w.heap.size+1<(wr.drewN nq).heap.size:=hgs2
      generalize wr.drewN nq=W at R4 O4 B4 z4 ⊢
      have HR4:=hideZ R4
      have HO4:=hideZ O4
      have HB4:=hideZ B4
      clear R4 O4 B4 HR3 HO3 HB3 c1
      go_wp2_with (at_builtin;refine wpList_append_own0 _ rfl (.tmp 30) (.tmp 32) 44 rfl (w.heap.size+2) 2 i0 (.int .i64 0) 1 8 Tryz.underlying44 hi0 hz0 hz1 hz2 rfl (by decide) _ ps.length (ps.map (Value.int .i64)) rfl (Own0.alloc HO4.out.own0 _) ⟨W.heap.size,0,none⟩ 1 1 [.int .i64 (p:Int)] rfl rfl (one_newI _ _ _) (one_cellI _) (by decide) (by unfold maxLen;have:=HLE.out;omega) (by have:=HLE.out;omega) (by simp;omega) ?_)
      intro v' w5 hown' hb5
      have ba:Below (w.heap.size+2) W w5:=((Below.refl (w.heap.size+2) W).alloc (by omega) _).trans (hb5 _ (Nat.le_refl _))
      have N5:Hid (Own0I w5 w.heap.size (w.heap.size+2) v' (ps++[(p:Int)])):=⟨(ba.block _ (by omega)).trans HO4.out.1,.inr (In.OwnI.snoc hown')⟩
      have R5:=hideZ (HR4.out.below ba (by omega))
      have B5:=hideZ (HB4.out.trans (ba.mono (by omega)))
      have HFS:=hideZ (front_spec (w.heap.size+1) p 256 5 f w5 R5.out (by omega))
      have z5:=ba.size
      clear hown' hb5 ba
      go_wp2_with fail
      refine HFS.out.mono ?_
      rintro e w6 ⟨rfl,hr6,ha6⟩
      have R6:=hideZ hr6
      have N6:=hideZ (N5.out.keep (ha6.2.2.2.2 _ (by omega) (by omega)) (fun j hj1 hj2=>ha6.2.2.2.2 j hj2 (by omega)))
      have B6:=hideZ (Aft.below B5.out ha6 (by omega) (by omega))
      clear hr6 ha6
      go_wp2_with fail
      go_roundw
      case rel=>exact⟨k+1,by go_num,by omega,by rw[HM.out];exact R6.out,by rw[HM.out];exact N6.out,B6.out⟩
      case measure=>simp[intOf];omega
     ·have hyc:(y==((c.toNat:Nat):Int))=false:=beq_eq_false_iff_ne.2 (by rw[HY.out];exact HLK.out.2 p (by omega))
      go_wp2_with fail
      go_quiet (fail)
      all_goals (try go_wp2_with fail)
      go_roundw
      case rel=>exact⟨p+1,by go_num,by omega,R2.out,O2.out.keep rfl (fun _ _ _=>rfl),below_drewN GB2.out _⟩
      case measure=>simp[intOf];omega
   ·have hd0:decide ((k:Int)<(t.size:Int))=false:=decide_eq_false (by omega)
    obtain rfl:k=t.size:=by omega
    have HT:Hid (l.take t.size=l):=by
     unfold Hid
     rw[<-HDL.out,List.take_length]
    rw[HT.out,HL.out]at hown
    have HVV:=hideZ (hown.done (by omega))
    clear hrow hown hfull hlen
    go_wp2_with fail
    go_ret
    exact⟨_,rfl,HVV.out,GB.out⟩
end Go.Proofs.YtjfdllgodijibaaGreatDoor.Fr


/- What is drawn for FrontBack: some numbers. -/
namespace Go.Proofs.YtjfdllgodijibaaGreatDoor.Dr
open Go.RowKit
open In (OwnI one_newI one_cellI)
open In.Tryz (infoI2)
open Fr (frontOf_spec frontR frontR_len)
def vals4 (j:Nat):Int:=if j=0 then -1 else if j=1 then 0 else if j=2 then 255 else 256
end Go.Proofs.YtjfdllgodijibaaGreatDoor.Dr


/- Plain mathematics of lengths: trees are put together, the two least ones first; of counts of 1 and 2 no length comes above 12. -/
namespace Go.Proofs.YtjfdllgodijibaaGreatDoor.Hf
abbrev Tree:=Nat × List Nat
def wt (l:List Tree) (i:Nat):Nat:=(l.getD i (0,[])).1
def least (l:List Tree):Nat->Nat
 |0=>0
 |i+1=>if wt l i<wt l (least l i) then i else least l i
theorem least_le (l:List Tree):∀ i,least l i<=i-1
 |0=>Nat.le_refl _
 |i+1=>by
  rw[least]
  have:=least_le l i
  split<;>omega
theorem least_lt (l:List Tree) (h:0<l.length):least l l.length<l.length:=by
 have:=least_le l l.length
 omega
theorem least_min (l:List Tree):∀ i j,j<i->wt l (least l i)<=wt l j
 |0,j,h=>by omega
 |i+1,j,h=>by
  rw[least]
  by_cases hj:j=i
  ·subst hj
   split<;>omega
  ·have:=least_min l i j (by omega)
   split<;>omega
def at0 (l:List Tree) (i:Nat):Tree:=l.getD i (0,[])
def first (l:List Tree):Tree:=at0 l (least l l.length)
def rest1 (l:List Tree):List Tree:=l.eraseIdx (least l l.length)
def second (l:List Tree):Tree:=first (rest1 l)
def rest2 (l:List Tree):List Tree:=rest1 (rest1 l)
def both (l:List Tree):Tree:=((first l).1+(second l).1,(first l).2++(second l).2)
def join (l:List Tree):List Tree:=rest2 l++[both l]
theorem rest1_length (l:List Tree) (h:0<l.length):(rest1 l).length=l.length-1:=by
 unfold rest1
 rw[List.length_eraseIdx,if_pos (least_lt l h)]
theorem rest2_length (l:List Tree) (h:2<=l.length):(rest2 l).length=l.length-2:=by
 unfold rest2
 rw[rest1_length _ (by rw[rest1_length l (by omega)];omega),rest1_length l (by omega)]
 omega
theorem join_length (l:List Tree) (h:2<=l.length):(join l).length=l.length-1:=by
 unfold join
 rw[List.length_append,rest2_length l h]
 simp
 omega
def incs (d:List Nat) (s:List Nat):List Nat:=s.foldl (fun d k=>d.set k (d.getD k 0+1)) d
theorem incs_length (s:List Nat):∀ d,(incs d s).length=d.length:=by
 unfold incs
 induction s with
 |nil=>intro d;rfl
 |cons k s ih =>
  intro d
  rw[List.foldl_cons,ih,List.length_set]
theorem getD_set (d:List Nat) (k j v:Nat) (hk:k<d.length):(d.set k v).getD j 0=if j=k then v else d.getD j 0:=by
 rw[List.getD_eq_getElem?_getD,List.getElem?_set]
 by_cases h:k=j
 ·subst h
  rw[if_pos rfl,if_pos hk,if_pos rfl]
  rfl
 ·rw[if_neg h,if_neg (fun e=>h e.symm),List.getD_eq_getElem?_getD]
theorem incs_at (s:List Nat):∀ (d:List Nat) (j:Nat),s.Nodup->(∀ k∈s,k<d.length)->(incs d s).getD j 0=if j∈s then d.getD j 0+1 else d.getD j 0:=by
 unfold incs
 induction s with
 |nil=>intro d j _ _;simp
 |cons k s ih =>
  intro d j hn hk
  obtain⟨h1,h2⟩:=List.nodup_cons.1 hn
  have hkd:=hk k (List.mem_cons_self ..)
  rw[List.foldl_cons,ih (d.set k (d.getD k 0+1)) j h2 (fun x hx=>by rw[List.length_set];exact hk x (List.mem_cons_of_mem _ hx)),getD_set _ _ _ _ hkd]
  by_cases hj:j=k
  ·subst hj
   rw[if_neg h1,if_pos rfl,if_pos (List.mem_cons_self ..)]
  ·rw[if_neg hj]
   by_cases hs:j∈s
   ·rw[if_pos hs,if_pos (List.mem_cons_of_mem _ hs)]
   ·rw[if_neg hs,if_neg (fun h=>by rcases List.mem_cons.1 h with h|h;exact hj h;exact hs h)]
def run:Nat->List Tree->List Nat->List Nat
 |0,_,d=>d
 |f+1,l,d=>if l.length<=1 then d else run f (join l) (incs (incs d (first l).2) (second l).2)
theorem run_done (f:Nat) (l:List Tree) (d:List Nat) (h:l.length<=1):run f l d=d:=by
 cases f with
 |zero=>rfl
 |succ f=>rw[run,if_pos h]
theorem run_more (l:List Tree) (d:List Nat) (h:¬l.length<=1):run l.length l d=run (join l).length (join l) (incs (incs d (first l).2) (second l).2):=by
 rw[join_length l (by omega)]
 obtain⟨f,hf⟩:∃ f,l.length=f+1:=⟨l.length-1,by omega⟩
 rw[hf,run,if_neg h]
 rfl
end Go.Proofs.YtjfdllgodijibaaGreatDoor.Hf


/- Plain mathematics of lengths: how deep trees come to be. -/
namespace Go.Proofs.YtjfdllgodijibaaGreatDoor.Hf
def fib:Nat->Nat
 |0=>0
 |1=>1
 |n+2=>fib n+fib (n+1)
theorem fib_le (n:Nat):fib n<=fib (n+1):=by
 cases n with
 |zero=>decide
 |succ n =>
  rw[show fib (n+1+1)=fib n+fib (n+1) from rfl]
  omega
theorem fib_mono {m n:Nat} (h:m<=n):fib m<=fib n:=by
 induction n with
 |zero =>
  have:m=0:=by omega
  rw[this]
  exact Nat.le_refl _
 |succ n ih =>
  by_cases hm:m=n+1
  ·rw[hm]
   exact Nat.le_refl _
  ·exact Nat.le_trans (ih (by omega)) (fib_le n)
def dep (d:List Nat) (s:Nat):Nat:=d.getD s 0
def sep (d:List Nat) (t u:Tree):Prop:=(∀ s∈t.2,fib (dep d s+1)<=u.1)/\(∀ s∈u.2,fib (dep d s+1)<=t.1)/\∀ s∈t.2,s ∉ u.2
theorem sep_symm {d:List Nat} {t u:Tree} (h:sep d t u):sep d u t:=⟨h.2.1,h.1,fun s hs ht=>h.2.2 s ht hs⟩
structure Inv (l:List Tree) (d:List Nat) (n:Nat):Prop where
 own:∀ t∈l,∀ s∈t.2,fib (dep d s+2)<=t.1
 nd:∀ t∈l,t.2.Nodup
 lt:∀ t∈l,∀ s∈t.2,s<d.length
 pw:l.Pairwise (sep d)
 sum:(l.map (·.1)).sum=n
 out:∀ s,(∀ t∈l,s ∉ t.2)->dep d s=0
theorem Inv.perm {l l':List Tree} {d:List Nat} {n:Nat} (h:Inv l d n) (p:l.Perm l'):Inv l' d n :=
 ⟨fun t ht=>h.own t (p.mem_iff.2 ht),fun t ht=>h.nd t (p.mem_iff.2 ht),fun t ht=>h.lt t (p.mem_iff.2 ht),(p.pairwise_iff sep_symm).1 h.pw,(p.map _).sum_nat.symm.trans h.sum,fun s hs=>h.out s fun t ht=>hs t (p.mem_iff.1 ht)⟩
theorem first_mem (l:List Tree) (h:0<l.length):first l=l[least l l.length]'(least_lt l h):=by
 unfold first at0
 rw[List.getD_eq_getElem?_getD,List.getElem?_eq_getElem (least_lt l h)]
 rfl
theorem erase_perm:∀ (l:List Tree) (i:Nat) (h:i<l.length),l.Perm (l[i] :: l.eraseIdx i)
 |[],i,h=>absurd h (Nat.not_lt_zero i)
 |_ :: _,0,_=>List.Perm.refl _
 |x :: l,i+1,h=>((erase_perm l i (Nat.lt_of_succ_lt_succ h)).cons x).trans (List.Perm.swap _ _ _)
theorem le_sum:∀ (l:List Nat) (x:Nat),x∈l->x<=l.sum
 |[],x,h=>absurd h (List.not_mem_nil)
 |y :: l,x,h=>by
  rw[List.sum_cons]
  rcases List.mem_cons.1 h with rfl|h
  ·omega
  ·have:=le_sum l x h
   omega
theorem first_perm (l:List Tree) (h:0<l.length):l.Perm (first l :: rest1 l):=by
 rw[first_mem l h]
 exact erase_perm l _ (least_lt l h)
theorem first_min (l:List Tree) (t:Tree) (ht:t∈l):(first l).1<=t.1:=by
 obtain⟨j,hj,rfl⟩:=List.getElem_of_mem ht
 have:=least_min l l.length j hj
 unfold wt at this
 rw[show (l.getD j (0,[]))=l[j] by rw[List.getD_eq_getElem?_getD,List.getElem?_eq_getElem hj];rfl]at this
 exact this
theorem two_perm (l:List Tree) (h:2<=l.length):l.Perm (first l :: second l :: rest2 l) :=
 (first_perm l (by omega)).trans ((first_perm (rest1 l) (by rw[rest1_length l (by omega)];omega)).cons _)
theorem join_perm (l:List Tree):(join l).Perm (both l :: rest2 l):=List.perm_append_comm
theorem two_dep (d a b:List Nat) (ha:a.Nodup) (hb:b.Nodup) (hab:∀ s∈a,s ∉ b) (la:∀ s∈a,s<d.length) (lb:∀ s∈b,s<d.length) (s:Nat):dep (incs (incs d a) b) s=if s∈a++b then dep d s+1 else dep d s:=by
 unfold dep
 rw[incs_at b _ s hb (fun k hk=>by rw[incs_length];exact lb k hk),incs_at a d s ha la]
 by_cases h1:s∈a
 ·rw[if_neg (hab s h1),if_pos h1,if_pos (List.mem_append_left _ h1)]
 ·by_cases h2:s∈b
  ·rw[if_pos h2,if_neg h1,if_pos (List.mem_append_right _ h2)]
  ·rw[if_neg h2,if_neg h1,if_neg (fun h=>by rcases List.mem_append.1 h with h|h;exact h1 h;exact h2 h)]
theorem Inv.two {a b:Tree} {r:List Tree} {d:List Nat} {n:Nat} (h:Inv (a :: b :: r) d n) (hm:∀ c∈r,a.1<=c.1/\b.1<=c.1):Inv ((a.1+b.1,a.2++b.2) :: r) (incs (incs d a.2) b.2) n:=by
 have ma:a∈a :: b :: r:=List.mem_cons_self ..
 have mb:b∈a :: b :: r:=List.mem_cons_of_mem _ (List.mem_cons_self ..)
 have mr:∀ c∈r,c∈a :: b :: r:=fun c hc=>List.mem_cons_of_mem _ (List.mem_cons_of_mem _ hc)
 obtain⟨pa,pb'⟩:=List.pairwise_cons.1 h.pw
 obtain⟨pb,pr⟩:=List.pairwise_cons.1 pb'
 have sab:=pa b (List.mem_cons_self ..)
 have hd:=two_dep d a.2 b.2 (h.nd a ma) (h.nd b mb) sab.2.2 (h.lt a ma) (h.lt b mb)
 have hlen:(incs (incs d a.2) b.2).length=d.length:=by rw[incs_length,incs_length]
 have hout:∀ c∈r,∀ s∈c.2,dep (incs (incs d a.2) b.2) s=dep d s:=fun c hc s hs=>by
  rw[hd,if_neg]
  intro hx
  rcases List.mem_append.1 hx with hx|hx
  ·exact(pa c (List.mem_cons_of_mem _ hc)).2.2 s hx hs
  ·exact(pb c hc).2.2 s hx hs
 refine⟨?_,?_,?_,?_,?_,?_⟩
 ·intro t ht s hs
  rcases List.mem_cons.1 ht with rfl|ht
  ·rw[hd,if_pos hs,show fib (dep d s+1+2)=fib (dep d s+1)+fib (dep d s+2) from rfl]
   show _<=a.1+b.1
   rcases List.mem_append.1 hs with hs|hs
   ·have h1:=sab.1 s hs
    have h2:=h.own a ma s hs
    omega
   ·have h1:=sab.2.1 s hs
    have h2:=h.own b mb s hs
    omega
  ·rw[hout t ht s hs]
   exact h.own t (mr t ht) s hs
 ·intro t ht
  rcases List.mem_cons.1 ht with rfl|ht
  ·exact List.nodup_append.2 ⟨h.nd a ma,h.nd b mb,fun x hx y hy e=>sab.2.2 x hx (e ▸ hy)⟩
  ·exact h.nd t (mr t ht)
 ·intro t ht s hs
  rw[hlen]
  rcases List.mem_cons.1 ht with rfl|ht
  ·rcases List.mem_append.1 hs with hs|hs
   ·exact h.lt a ma s hs
   ·exact h.lt b mb s hs
  ·exact h.lt t (mr t ht) s hs
 ·refine List.pairwise_cons.2 ⟨fun c hc=>⟨?_,?_,?_⟩,?_⟩
  ·intro s hs
   rw[hd,if_pos hs]
   rcases List.mem_append.1 hs with hs|hs
   ·exact Nat.le_trans (h.own a ma s hs) (hm c hc).1
   ·exact Nat.le_trans (h.own b mb s hs) (hm c hc).2
  ·intro s hs
   rw[hout c hc s hs]
   have:=(pa c (List.mem_cons_of_mem _ hc)).2.1 s hs
   show _<=a.1+b.1
   omega
  ·intro s hs hc'
   rcases List.mem_append.1 hs with hs|hs
   ·exact(pa c (List.mem_cons_of_mem _ hc)).2.2 s hs hc'
   ·exact(pb c hc).2.2 s hs hc'
  ·refine List.Pairwise.imp_of_mem ?_ pr
   intro c c' hc hc' hs
   refine⟨fun s x=>?_,fun s x=>?_,hs.2.2⟩
   ·rw[hout c hc s x]
    exact hs.1 s x
   ·rw[hout c' hc' s x]
    exact hs.2.1 s x
 ·have:=h.sum
  simp only[List.map_cons,List.sum_cons]at this ⊢
  omega
 ·intro s hs
  have h0:=hs _ (List.mem_cons_self ..)
  rw[hd,if_neg h0]
  refine h.out s fun t ht hts=>?_
  rcases List.mem_cons.1 ht with rfl|ht
  ·exact h0 (List.mem_append_left _ hts)
  ·rcases List.mem_cons.1 ht with rfl|ht
   ·exact h0 (List.mem_append_right _ hts)
   ·exact hs t (List.mem_cons_of_mem _ ht) hts
theorem Inv.join {l:List Tree} {d:List Nat} {n:Nat} (h:Inv l d n) (h2:2<=l.length):Inv (join l) (incs (incs d (first l).2) (second l).2) n:=by
 refine Inv.perm (Inv.two (h.perm (two_perm l h2)) fun c hc=>⟨?_,?_⟩) (join_perm l).symm
 ·exact first_min l c ((two_perm l h2).mem_iff.2 (List.mem_cons_of_mem _ (List.mem_cons_of_mem _ hc)))
 ·refine first_min (rest1 l) c ?_
  have hp:=first_perm (rest1 l) (by rw[rest1_length l (by omega)];omega)
  exact hp.mem_iff.2 (List.mem_cons_of_mem _ hc)
theorem Inv.bound {l:List Tree} {d:List Nat} {n:Nat} (h:Inv l d n) (s:Nat):dep d s=0∨fib (dep d s+2)<=n:=by
 by_cases hs:∀ t∈l,s ∉ t.2
 ·exact .inl (h.out s hs)
 ·refine .inr ?_
  obtain⟨t,ht⟩:∃ t,¬(t∈l->s ∉ t.2):=Classical.not_forall.1 hs
  obtain⟨hl,hst⟩:t∈l/\s∈t.2:=⟨Classical.byContradiction fun e=>ht fun h=>absurd h e,Classical.byContradiction fun e=>ht fun _=>e⟩
  refine Nat.le_trans (h.own t hl s hst) ?_
  rw[<-h.sum]
  exact le_sum _ _ (List.mem_map.2 ⟨t,hl,rfl⟩)
theorem run_bound (f:Nat):∀ (l:List Tree) (d:List Nat) (n:Nat),Inv l d n->∀ s,dep (run f l d) s=0∨fib (dep (run f l d) s+2)<=n:=by
 induction f with
 |zero=>intro l d n h s;exact h.bound s
 |succ f ih =>
  intro l d n h s
  rw[run]
  split
  ·exact h.bound s
  ·exact ih _ _ _ (h.join (by omega)) s
theorem run_length (f:Nat):∀ (l:List Tree) (d:List Nat),(run f l d).length=d.length:=by
 induction f with
 |zero=>intro l d;rfl
 |succ f ih =>
  intro l d
  rw[run]
  split
  ·rfl
  ·rw[ih,incs_length,incs_length]
end Go.Proofs.YtjfdllgodijibaaGreatDoor.Hf


/- Plain mathematics of lengths: counts made more alike till no length is above 12. -/
namespace Go.Proofs.YtjfdllgodijibaaGreatDoor.Hf
def trees (c:List Nat):Nat->List Tree
 |0=>[]
 |i+1=>if 0<c.getD i 0 then trees c i++[(c.getD i 0,[i])] else trees c i
theorem trees_length (c:List Nat):∀ i,(trees c i).length<=i
 |0=>Nat.le_refl _
 |i+1=>by
  rw[trees]
  have:=trees_length c i
  split
  ·rw[List.length_append]
   simp
   exact this
  ·omega
theorem trees_mem (c:List Nat):∀ i t,t∈trees c i->∃ j,j<i/\0<c.getD j 0/\t=(c.getD j 0,[j])
 |0,t,h=>absurd h (List.not_mem_nil)
 |i+1,t,h=>by
  rw[trees]at h
  split at h
  ·rcases List.mem_append.1 h with h|h
   ·obtain⟨j,hj,hr⟩:=trees_mem c i t h
    exact⟨j,by omega,hr⟩
   ·exact⟨i,by omega,by assumption,List.mem_singleton.1 h⟩
  ·obtain⟨j,hj,hr⟩:=trees_mem c i t h
   exact⟨j,by omega,hr⟩
def zeros (n:Nat):List Nat:=List.replicate n 0
theorem dep_zeros (n s:Nat):dep (zeros n) s=0:=by
 unfold dep zeros
 rw[List.getD_eq_getElem?_getD,List.getElem?_replicate]
 split<;>rfl
theorem sum_take (c:List Nat) (i:Nat) (h:i<c.length):(c.take (i+1)).sum=(c.take i).sum+c.getD i 0:=by
 rw[List.take_add_one,List.getElem?_eq_getElem h,List.sum_append,List.getD_eq_getElem?_getD,List.getElem?_eq_getElem h]
 simp
theorem trees_inv (c:List Nat):∀ i,i<=c.length->Inv (trees c i) (zeros c.length) (c.take i).sum
 |0,_=>⟨fun t h=>absurd h (List.not_mem_nil),fun t h=>absurd h (List.not_mem_nil),fun t h=>absurd h (List.not_mem_nil),List.Pairwise.nil,rfl,fun s _=>dep_zeros _ _⟩
 |i+1,h=>by
  have ih:=trees_inv c i (by omega)
  rw[sum_take c i (by omega),trees]
  by_cases h0:0<c.getD i 0
  ·rw[if_pos h0]
   refine⟨?_,?_,?_,?_,?_,fun s _=>dep_zeros _ _⟩
   ·intro t ht s hs
    rw[dep_zeros]
    obtain⟨j,_,hj,rfl⟩:=trees_mem c (i+1) t (by rw[trees,if_pos h0];exact ht)
    exact hj
   ·intro t ht
    obtain⟨j,_,hj,rfl⟩:=trees_mem c (i+1) t (by rw[trees,if_pos h0];exact ht)
    simp
   ·intro t ht s hs
    obtain⟨j,hji,hj,rfl⟩:=trees_mem c (i+1) t (by rw[trees,if_pos h0];exact ht)
    rw[List.mem_singleton.1 hs,show (zeros c.length).length=c.length from List.length_replicate ..]
    omega
   ·refine List.pairwise_append.2 ⟨ih.pw,List.pairwise_singleton _ _,fun t ht u hu=>?_⟩
    obtain⟨j,hji,hj,rfl⟩:=trees_mem c i t ht
    rw[List.mem_singleton.1 hu]
    refine⟨fun s _=>?_,fun s _=>?_,fun s hs hs'=>?_⟩
    ·rw[dep_zeros]
     exact h0
    ·rw[dep_zeros]
     exact hj
    ·have e1:=List.mem_singleton.1 hs
     have e2:=List.mem_singleton.1 hs'
     omega
   ·rw[List.map_append,List.sum_append,ih.sum]
    simp
  ·rw[if_neg h0,show c.getD i 0=0 by omega]
   exact ih
def depths (c:List Nat):List Nat :=
 if (trees c c.length).length=1 then (zeros c.length).set ((at0 (trees c c.length) 0).2.getD 0 0) 1 else run (trees c c.length).length (trees c c.length) (zeros c.length)
theorem depths_length (c:List Nat):(depths c).length=c.length:=by
 unfold depths
 split
 ·rw[List.length_set]
  exact List.length_replicate ..
 ·rw[run_length]
  exact List.length_replicate ..
theorem depths_bound (c:List Nat) (s:Nat):dep (depths c) s<=1∨fib (dep (depths c) s+2)<=c.sum:=by
 unfold depths
 split
 ·refine .inl ?_
  unfold dep
  rw[List.getD_eq_getElem?_getD,List.getElem?_set]
  split
  ·split
   ·exact Nat.le_refl _
   ·exact Nat.zero_le _
  ·have:=dep_zeros c.length s
   unfold dep at this
   rw[List.getD_eq_getElem?_getD]at this
   omega
 ·have h:=trees_inv c c.length (Nat.le_refl _)
  rw[List.take_length]at h
  rcases run_bound (trees c c.length).length _ _ _ h s with h|h
  ·exact .inl (by omega)
  ·exact .inr h
def okay (d:List Nat):Bool:=d.all (fun x=>decide (x<=12))
theorem sum_le (c:List Nat) (m:Nat) (h:∀ x∈c,x<=m):c.sum<=m*c.length:=by
 induction c with
 |nil=>simp
 |cons x c ih =>
  have h1:=ih fun y hy=>h y (List.mem_cons_of_mem _ hy)
  have h2:=h x (List.mem_cons_self ..)
  rw[List.sum_cons,List.length_cons,Nat.mul_add]
  omega
theorem okay_small (c:List Nat) (h:∀ x∈c,x<=2) (hl:c.length<=257):okay (depths c)=true:=by
 unfold okay
 rw[List.all_eq_true]
 intro x hx
 obtain⟨j,hj,rfl⟩:=List.getElem_of_mem hx
 have hd:dep (depths c) j=(depths c)[j]:=by
  unfold dep
  rw[List.getD_eq_getElem?_getD,List.getElem?_eq_getElem hj]
  rfl
 have hs:=sum_le c 2 h
 rw[<-hd]
 rcases depths_bound c j with h1|h1
 ·exact decide_eq_true (by omega)
 ·refine decide_eq_true (Nat.le_of_not_lt fun h12=>?_)
  have h2:=fib_mono (show 15<=dep (depths c) j+2 by omega)
  rw[show fib 15=610 from rfl]at h2
  omega
def flat (c:List Nat):List Nat:=c.map fun x=>if 0<x then x/2+1 else 0
theorem flat_length (c:List Nat):(flat c).length=c.length:=by
 unfold flat
 rw[List.length_map]
theorem flat_le (c:List Nat):(flat c).sum<=c.sum:=by
 unfold flat
 induction c with
 |nil=>exact Nat.le_refl _
 |cons x c ih =>
  rw[List.map_cons,List.sum_cons,List.sum_cons]
  split<;>omega
theorem flat_lt (c:List Nat) (h:∃ x∈c,3<=x):(flat c).sum<c.sum:=by
 induction c with
 |nil =>
  obtain⟨x,hx,_⟩:=h
  cases hx
 |cons x c ih =>
  have hle:=flat_le c
  unfold flat at hle ih ⊢
  rw[List.map_cons,List.sum_cons,List.sum_cons]
  obtain⟨y,hy,h3⟩:=h
  rcases List.mem_cons.1 hy with rfl|hy
  ·rw[if_pos (by omega)]
   omega
  ·have:=ih ⟨y,hy,h3⟩
   split<;>omega
theorem flat_more (c:List Nat) (hl:c.length<=257) (h:¬okay (depths c)=true):(flat c).sum<c.sum:=by
 refine flat_lt c (Classical.byContradiction fun hn=>h (okay_small c (fun x hx=>?_) hl))
 refine Nat.le_of_not_lt fun h3=>hn ⟨x,hx,h3⟩
def ofN:Nat->List Nat->List Nat
 |0,c=>depths c
 |f+1,c=>if okay (depths c)=true then depths c else ofN f (flat c)
theorem ofN_more (f:Nat):∀ (c:List Nat) (g:Nat),c.length<=257->c.sum<=f->c.sum<=g->ofN f c=ofN g c:=by
 induction f with
 |zero =>
  intro c g hl hf _
  have hz:okay (depths c)=true:=Classical.byContradiction fun h=>by
   have:=flat_more c hl h
   omega
  cases g with
  |zero=>rfl
  |succ g=>rw[ofN,ofN,if_pos hz]
 |succ f ih =>
  intro c g hl hf hg
  rw[ofN]
  by_cases h:okay (depths c)=true
  ·rw[if_pos h]
   cases g with
   |zero=>rfl
   |succ g=>rw[ofN,if_pos h]
  ·have hlt:=flat_more c hl h
   rw[if_neg h]
   cases g with
   |zero=>omega
   |succ g =>
    rw[ofN,if_neg h]
    exact ih (flat c) g (by rw[flat_length];exact hl) (by omega) (by omega)
def lenOf (c:List Nat):List Nat:=ofN c.sum c
theorem lenOf_yes (c:List Nat) (h:okay (depths c)=true):lenOf c=depths c:=by
 unfold lenOf
 cases c.sum with
 |zero=>rfl
 |succ f=>rw[ofN,if_pos h]
theorem lenOf_no (c:List Nat) (hl:c.length<=257) (h:¬okay (depths c)=true):lenOf c=lenOf (flat c):=by
 have hlt:=flat_more c hl h
 unfold lenOf
 obtain⟨f,hf⟩:∃ f,c.sum=f+1:=⟨c.sum-1,by omega⟩
 rw[hf,ofN,if_neg h]
 exact ofN_more f (flat c) _ (by rw[flat_length];exact hl) (by omega) (Nat.le_refl _)
end Go.Proofs.YtjfdllgodijibaaGreatDoor.Hf


/- Plain mathematics: the first of the least but one, and what is left. -/
namespace Go.Proofs.YtjfdllgodijibaaGreatDoor.Hf
def lb (l:List Tree) (a:Nat):Nat->Option Nat
 |0=>none
 |i+1=>if i=a then lb l a i else match lb l a i with
  |none=>some i
  |some k=>if wt l i<wt l k then some i else some k
def shift (a b:Nat):Nat:=if b<a then b else b+1
theorem wt_low (l:List Tree) (a j:Nat) (h:j<a):wt (l.eraseIdx a) j=wt l j:=by
 unfold wt
 rw[List.getD_eq_getElem?_getD,List.getD_eq_getElem?_getD,List.getElem?_eraseIdx_of_lt h]
theorem wt_high (l:List Tree) (a j:Nat) (h:a<=j):wt (l.eraseIdx a) j=wt l (j+1):=by
 unfold wt
 rw[List.getD_eq_getElem?_getD,List.getD_eq_getElem?_getD,List.getElem?_eraseIdx_of_ge h]
theorem wt_shift (l:List Tree) (a b:Nat):wt (l.eraseIdx a) b=wt l (shift a b):=by
 unfold shift
 split
 ·exact wt_low l a b (by assumption)
 ·exact wt_high l a b (by omega)
theorem lb_low (l:List Tree) (a:Nat):∀ i,i<=a->lb l a i=if i=0 then none else some (shift a (least (l.eraseIdx a) i))
 |0,_=>rfl
 |i+1,h=>by
  have ih:=lb_low l a i (by omega)
  have hle:=least_le (l.eraseIdx a) i
  rw[lb,if_neg (by omega),ih,if_neg (Nat.succ_ne_zero i),least]
  by_cases h0:i=0
  ·subst h0
   rw[if_pos rfl]
   show some 0=_
   have:least (l.eraseIdx a) 0=0:=rfl
   rw[this,if_neg (Nat.lt_irrefl _)]
   unfold shift
   rw[if_pos (by omega)]
  ·rw[if_neg h0]
   simp only
   rw[wt_low l a i (by omega),wt_shift l a (least (l.eraseIdx a) i)]
   by_cases hw:wt l i<wt l (shift a (least (l.eraseIdx a) i))
   ·rw[if_pos hw,if_pos hw]
    unfold shift
    rw[if_pos (by omega)]
   ·rw[if_neg hw,if_neg hw]
theorem lb_high (l:List Tree) (a:Nat):∀ i,lb l a (a+1+i)=if a+i=0 then none else some (shift a (least (l.eraseIdx a) (a+i)))
 |0=>by
  rw[Nat.add_zero,lb,if_pos rfl,lb_low l a a (Nat.le_refl _),Nat.add_zero]
 |i+1=>by
  have ih:=lb_high l a i
  have hle:=least_le (l.eraseIdx a) (a+i)
  rw[show a+1+(i+1)=(a+1+i)+1 by omega,lb,if_neg (by omega),ih,show a+(i+1)=(a+i)+1 by omega,if_neg (Nat.succ_ne_zero _),least]
  have hs:shift a (a+i)=a+1+i:=by
   unfold shift
   rw[if_neg (by omega)]
   omega
  by_cases h0:a+i=0
  ·rw[if_pos h0]
   simp only
   have h00:least (l.eraseIdx a) (a+i)=0:=by rw[h0];rfl
   rw[h00,h0,if_neg (Nat.lt_irrefl _),<-hs,h0]
  ·rw[if_neg h0]
   simp only
   rw[wt_high l a (a+i) (by omega),show a+i+1=a+1+i by omega,wt_shift l a (least (l.eraseIdx a) (a+i))]
   by_cases hw:wt l (a+1+i)<wt l (shift a (least (l.eraseIdx a) (a+i)))
   ·rw[if_pos hw,if_pos hw,hs]
   ·rw[if_neg hw,if_neg hw]
theorem lb_all (l:List Tree) (a n:Nat) (ha:a<n) (h2:2<=n):lb l a n=some (shift a (least (l.eraseIdx a) (n-1))):=by
 have:=lb_high l a (n-(a+1))
 rw[show a+1+(n-(a+1))=n by omega,show a+(n-(a+1))=n-1 by omega,if_neg (by omega)]at this
 exact this
end Go.Proofs.YtjfdllgodijibaaGreatDoor.Hf


/- Rows of trees in memory. -/
namespace Go.Proofs.YtjfdllgodijibaaGreatDoor.Hf
open Go.RowKit
theorem hideH {p:Prop} (h:p):Hid p:=h
abbrev MT:=Tree × Value
def cells:List MT->List Value
 |[]=>[]
 |x :: m=>.int .i64 (x.1.1:Nat) :: x.2 :: cells m
theorem cells_length:∀ m:List MT,(cells m).length=m.length*2
 |[]=>rfl
 |x :: m=>by
  rw[cells,List.length_cons,List.length_cons,cells_length m,List.length_cons]
  omega
theorem cells_append:∀ m k:List MT,cells (m++k)=cells m++cells k
 |[],k=>rfl
 |x :: m,k=>by
  rw[List.cons_append,cells,cells,cells_append m k]
  rfl
theorem cells_at:∀ (m:List MT) (i:Nat) (h:i<m.length),(cells m)[i*2]? = some (.int .i64 (m[i].1.1:Nat))/\(cells m)[i*2+1]? = some m[i].2
 |x :: m,0,_=>⟨rfl,rfl⟩
 |x :: m,i+1,h=>by
  have:=cells_at m i (Nat.lt_of_succ_lt_succ h)
  rw[cells,show (i+1)*2=i*2+2 by omega,show i*2+2+1=(i*2+1)+2 by omega]
  exact this
def Sym (W:World) (v:Value) (s:List Nat):Prop :=
 ∃ g cap cur,v=.slice (some ⟨g,0,none⟩) s.length cap/\W.heap[g]? = some (.cells cur 3 (0,0))/\s.length<=cap/\∀ j (h:j<s.length),cur[j]? = some (.int .i64 (s[j]:Nat))
def Keeps (W W':World):Prop:=∀ (g:Nat) (cur:Array Value),W.heap[g]? = some (.cells cur 3 (0,0))->W'.heap[g]? = some (.cells cur 3 (0,0))
theorem Keeps.refl (W:World):Keeps W W:=fun _ _ h=>h
theorem Keeps.trans {W W' W'':World} (h:Keeps W W') (k:Keeps W' W''):Keeps W W'':=fun g cur e=>k g cur (h g cur e)
theorem lt_row {w:World} {g:Nat} {o:Obj} (h:w.heap[g]? = some o):g<w.heap.size:=(Array.getElem?_eq_some_iff.1 h).1
theorem Keeps.below {W W':World} (h:Below W.heap.size W W'):Keeps W W':=fun g _ e=>(h.block g (lt_row e)).trans e
theorem Keeps.set {W:World} {g:Nat} {cs:Array Value} {e:TypeId} (hg:W.heap[g]? = some (.cells cs e (0,0))) (he:e≠3) (i:Nat) (v:Value):Keeps W (W.setCell ⟨g,i,none⟩ v):=fun k cur h=>by
 rw[heap_setCell_other W _ k v (by
  rintro rfl
  rw[hg]at h
  simp at h
  exact he h.2)]
 exact h
theorem Sym.keeps {W W':World} {v:Value} {s:List Nat} (h:Sym W v s) (k:Keeps W W'):Sym W' v s:=by
 obtain⟨g,cap,cur,hv,hg,hc⟩:=h
 exact⟨g,cap,cur,hv,k g cur hg,hc⟩
theorem Sym.cell {W:World} {v:Value} {s:List Nat} (h:Sym W v s):∃ g cap,v=.slice (some ⟨g,0,none⟩) s.length cap/\g<W.heap.size/\s.length<=cap/\∀ j (h:j<s.length),W.cell? ⟨g,j,none⟩=some (.int .i64 (s[j]:Nat)):=by
 obtain⟨g,cap,cur,hv,hg,hs,hc⟩:=h
 exact⟨g,cap,hv,lt_row hg,hs,fun j hj=>(cell_of_row W g j _ _ _ hg).trans (hc j hj)⟩
def OwnT (W:World) (e:TypeId) (base:Nat) (v:Value) (m:List MT):Prop:=W.ownsRow base e 2 v m.length (cells m)
def Syms (W:World) (m:List MT):Prop:=∀ x∈m,Sym W x.2 x.1.2
theorem Syms.keeps {W W':World} {m:List MT} (h:Syms W m) (k:Keeps W W'):Syms W' m:=fun x hx=>(h x hx).keeps k
theorem OwnT.slice {W:World} {e:TypeId} {base:Nat} {v:Value} {m:List MT} (h:OwnT W e base v m) (h0:0<m.length):∃ g cap cur,v=.slice (some ⟨g,0,none⟩) m.length cap/\base<=g/\m.length<=cap/\W.heap[g]? = some (.cells cur e (0,0))/\cur.size=cap*2/\cur.toList.take (m.length*2)=cells m:=by
 obtain⟨_,h⟩:=h
 rcases h with⟨_,h⟩|⟨g,cap,cur,hv,hg,hb,hn,_,hs,ht⟩
 ·omega
 ·exact⟨g,cap,cur,hv,hg,hn,hb,hs,ht⟩
theorem row_at {W:World} {e:TypeId} {g:Nat} {cur:Array Value} {m:List MT} (hb:W.heap[g]? = some (.cells cur e (0,0))) (ht:cur.toList.take (m.length*2)=cells m) (i:Nat) (hi:i<m.length) :
  W.cell? ⟨g,i*2,none⟩=some (.int .i64 (m[i].1.1:Nat))/\W.cell? ⟨g,i*2+1,none⟩=some m[i].2:=by
 have hc:=cells_at m i hi
 rw[<-ht]at hc
 rw[List.getElem?_take_of_lt (by omega),List.getElem?_take_of_lt (by omega),Array.getElem?_toList,Array.getElem?_toList]at hc
 exact⟨(cell_of_row W g _ _ _ _ hb).trans hc.1,(cell_of_row W g _ _ _ _ hb).trans hc.2⟩
def mt (m:List MT):List Tree:=m.map (·.1)
theorem mt_length (m:List MT):(mt m).length=m.length:=List.length_map ..
theorem wt_mt (m:List MT) (i:Nat) (h:i<m.length):wt (mt m) i=m[i].1.1:=by
 unfold wt mt
 rw[List.getD_eq_getElem?_getD,List.getElem?_map,List.getElem?_eq_getElem h]
 rfl
end Go.Proofs.YtjfdllgodijibaaGreatDoor.Hf

