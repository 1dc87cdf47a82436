/- Texts put together: ShaLaws2, IntRow, ShaMade, ShaAppend, ShaSpecA, ShaOwn, KhPlain. -/
import Derived.Test.YtpddanmnlkcdpaaGreatDoorHz2
import Derived.StillTailTactics
import Derived.Test.YtpddanmnlkcdpaaGreatDoorHz7
import Derived.Test.YtpddanmnlkcdpaaGreatDoorHz1
import Derived.Test.YtpddanmnlkcdpaaGreatDoorHz8
import Derived.Test.YtpddanmnlkcdpaaGreatDoorHz0
import Derived.Deep.RegionLaw
import Derived.Laws.IdiomStrings
import Derived.ArgAppend
import Derived.Test.YtpddanmnlkcdpaaGreatDoorChecked
set_option maxRecDepth 100000
set_option maxHeartbeats 8000000
/- A law on one operation in the still head of a region that draws its order: a whole array of numbers loaded out of its block. -/
namespace Go.Proofs.YtpddanmnlkcdpaaGreatDoor.Sh
open Go.RowKit
theorem wpStill_load_row {P:Program} {w:World} {ops:Array Oper} {rest:List Oper} {a:Act} {Q:Act->Prop} {d:Tmp} {p:Operand} {ty tt:TypeId} {pos:String} {af:Array Edge}
  {g:Nat} {t:TypeId} {k:IntKind} {n:Nat} {f:Nat->Int} {e:TypeId} (hb:IsB w g t k n f) (hu:P.underlying ty=some (.array n e)) (hi:(P.info? ty).map (·.size)=some n)
  (hp:a.eval p=.pointer (some ⟨g,0,none⟩)) (h:wpStill P ops w Q rest (a.put (some d) (.agg (rowF k n f)))) :
  wpStill P ops w Q (⟨some d,.load ty p,tt,pos,af,none⟩ :: rest) a:=by
 refine wpStill_step fun K hK=>?_
 have hl:=hb.loadAt (P:=P) ty e hu hi
 simp[Region.wanted,Oper.still,Oper.stillUpon,execOp,hp,hl,Result.andThen]
 exact hK _ h
end Go.Proofs.YtpddanmnlkcdpaaGreatDoor.Sh


namespace Go.Proofs.YtpddanmnlkcdpaaGreatDoor.In
open Go.RowKit
theorem hideI {p:Prop} (h:p):Hid p:=h
def Ints (w:World) (B:Nat) (a:Option Addr) (l:List Int):Prop :=
 l=[]∨∃ b off,a=some ⟨b,off,none⟩/\b<B/\∀ j (h:j<l.length),w.cell? ⟨b,off+j,none⟩=some (.int .i64 l[j])
theorem Ints.below {w w':World} {B:Nat} {a:Option Addr} {l:List Int} (h:Ints w B a l) (hb:Below B w w'):Ints w' B a l:=by
 rcases h with h0|⟨b,off,rfl,hlt,hc⟩
 ·exact .inl h0
 ·exact .inr ⟨b,off,rfl,hlt,fun j hj=>(hb.cell (p:=⟨b,off+j,none⟩) hlt).trans (hc j hj)⟩
theorem Ints.mono {w:World} {B C:Nat} {a:Option Addr} {l:List Int} (h:Ints w B a l) (hBC:B<=C):Ints w C a l:=by
 rcases h with h0|⟨b,off,rfl,hlt,hc⟩
 ·exact .inl h0
 ·exact .inr ⟨b,off,rfl,Nat.lt_of_lt_of_le hlt hBC,hc⟩
theorem Ints.some {w:World} {B:Nat} {a:Option Addr} {l:List Int} (h:Ints w B a l) (hl:0<l.length) :
  ∃ b off,a=.some ⟨b,off,none⟩/\b<B/\∀ j (h:j<l.length),w.cell? ⟨b,off+j,none⟩=.some (.int .i64 l[j]):=by
 rcases h with h0|h
 ·subst h0;simp at hl
 ·exact h
def irow (l:List Int):Array Value:=(l.map (Value.int .i64)).toArray
def IsI (w:World) (g:Nat) (t:TypeId) (l:List Int):Prop:=w.heap[g]? = some (.cells (irow l) t (0,0))
theorem irow_size (l:List Int):(irow l).size=l.length:=by simp[irow]
theorem irow_get (l:List Int) (j:Nat) (h:j<l.length):(irow l)[j]? = some (.int .i64 l[j]):=by simp[irow,h]
theorem irow_set (l:List Int) (i:Nat) (s:Int):(irow l).setIfInBounds i (.int .i64 s)=irow (l.set i s):=by
 simp[irow,List.map_set]
theorem IsI.cell {w:World} {g t:Nat} {l:List Int} (h:IsI w g t l) {j:Nat} (hj:j<l.length):w.cell? ⟨g,j,none⟩=some (.int .i64 l[j]):=by
 rw[cell_of_row w g j _ t (0,0) h,irow_get l j hj]
theorem IsI.frozen {w:World} {g t:Nat} {l:List Int} (h:IsI w g t l) (j:Nat):w.frozen? ⟨g,j,none⟩=false:=frozen_of_row w g j _ t h
theorem IsI.set {w:World} {g t:Nat} {l:List Int} (h:IsI w g t l) (i:Nat) (s:Int):IsI (w.setCell ⟨g,i,none⟩ (.int .i64 s)) g t (l.set i s):=by
 unfold IsI
 rw[heap_setCell_same w g i _ t _ h,irow_set]
def mid (l:List Int) (k:Nat):List Int:=l.take k++List.replicate (l.length-k) 0
theorem mid_length (l:List Int) (k:Nat) (h:k<=l.length):(mid l k).length=l.length:=by simp[mid];omega
theorem mid_zero (l:List Int):mid l 0=List.replicate l.length 0:=by simp[mid]
theorem mid_all (l:List Int):mid l l.length=l:=by simp[mid]
theorem mid_next (l:List Int) (k:Nat) (h:k<l.length):(mid l k).set k l[k]=mid l (k+1):=by
 apply List.ext_getElem?
 intro i
 unfold mid
 rw[List.getElem?_set]
 have hl:(l.take k).length=k:=by simp;omega
 have hl':(l.take (k+1)).length=k+1:=by simp;omega
 by_cases e:k=i
 ·subst e
  rw[if_pos rfl,if_pos (by simp;omega),List.getElem?_append_left (by omega),List.getElem?_take_of_lt (by omega),List.getElem?_eq_getElem h]
 ·rw[if_neg e]
  by_cases hi:i<k
  ·rw[List.getElem?_append_left (by omega),List.getElem?_append_left (by omega),List.getElem?_take_of_lt hi,List.getElem?_take_of_lt (by omega)]
  ·rw[List.getElem?_append_right (by omega),List.getElem?_append_right (by omega),hl,hl',List.getElem?_replicate,List.getElem?_replicate]
   have:(i-k<l.length-k)=(i-(k+1)<l.length-(k+1)):=propext ⟨fun h=>by omega,fun h=>by omega⟩
   simp only[this]
theorem made_ints {w:World} {base e g n:Nat} (h:w.ownsRow base e 1 (.slice (some ⟨g,0,none⟩) n n) n (madeCells (Value.int .i64 0).cells (n*1)).toList):IsI w g e (List.replicate n 0):=by
 obtain⟨_,h⟩:=h
 rcases h with⟨h,_⟩|⟨g',cap,cur,hv,_,hb,_,_,hsz,htk⟩
 ·simp at h
 ·simp at hv
  obtain⟨rfl,rfl⟩:=hv
  have hm:(madeCells (Value.int .i64 0).cells (n*1)).toList=(irow (List.replicate n 0)).toList:=by
   rw[Nat.mul_one]
   have:=toList_madeCells_one (.int .i64 0) n
   simp only[irow,List.map_replicate]
   exact this
  rw[hm,List.take_of_length_le (by simp[hsz])]at htk
  have:cur=irow (List.replicate n 0):=by simpa using htk
  rw[this]at hb
  exact hb
theorem Tryz.infoI2:(Tryz.prog.info? 2).map (fun i=>(i.zero,i.size,i.bytes))=some (some (.int .i64 0),1,8):=by kernel_rfl
theorem toInt_any (a:Option Addr) (cap:Nat) (l:List Int) (w:World) (h:Ints w w.heap.size a l) (hn:l.length<=1048576) :
  Calls Tryz.prog 105 #[.slice a l.length cap] w fun e w'=>e=.returned (.slice (some ⟨w.heap.size,0,none⟩) l.length l.length)/\IsI w' w.heap.size 2 l/\Below w.heap.size w w':=by
 obtain⟨i0,hi,hz0,hz1,hz2⟩:=info_parts Tryz.infoI2
 have HS:=hideI h
 clear h
 obtain⟨n,hln⟩:∃ n,n=l.length:=⟨_,rfl⟩
 have HLN:=hideI hln
 rw[<-hln]at hn ⊢
 clear hln
 go_enter Tryz.func105,Tryz.ntmps105
 go_wp2_with (at_make;refine wpList_make_full _ rfl (.tmp 6) (.tmp 6) 84 rfl w.heap.size 2 i0 (.int .i64 0) 1 Tryz.underlying84 hi hz0 hz1 .i64 .i64 _ _ n rfl rfl (by simp) (by simp) (by rw[hz2];omega) (by unfold maxLen;omega) (Nat.le_refl _) ?_;intro w1 hown1 hgrow1;have HR:=hideI (made_ints hown1);have HB:=hideI ((Below.refl w.heap.size w).grown hgrow1 (Nat.le_refl _) (by simp));clear hown1 hgrow1)
 go_loopw [4] (fun i wr=>∃ k:Nat,i=.int .i64 k/\k<=n/\IsI wr w.heap.size 2 (mid l k)/\Below w.heap.size w wr) (fun i _=>n-(intOf i).toNat)
 case atStart=>exact⟨0,rfl,by omega,by rw[mid_zero,<-HLN.out];exact HR.out,HB.out⟩
 case round =>
  obtain⟨k,rfl,hk,h1,hbel⟩:=hrel
  have G1:=hideI h1
  have GB:=hideI hbel
  by_cases hlt:k<n
  ·have hkl:k<l.length:=by rw[<-HLN.out];exact hlt
   obtain⟨b,off,rfl,hb,hc⟩:=(HS.out.below hbel).some (by omega)
   have ci:=hc k hkl
   have HM:=hideI (mid_next l k hkl)
   have cf:=h1.frozen k
   have ce:∃ v,wr.cell? ⟨w.heap.size,k,none⟩=some (.int .i64 v):=⟨_,h1.cell (j:=k) (by rw[mid_length l k (by omega)];exact hkl)⟩
   obtain⟨v0,ce⟩:=ce
   obtain⟨s,hs⟩:∃ s,s=l[k]:=⟨_,rfl⟩
   have HSE:=hideI hs
   rw[<-hs]at ci
   clear h1 hbel hc hs
   go_wp2_with fail
   go_roundw
   case rel=>exact⟨k+1,by go_num,by omega,by rw[<-HM.out,<-HSE.out];exact G1.out.set k s,GB.out.setCell (Nat.le_refl _) _⟩
   case measure=>simp[intOf];omega
  ·have HE:Hid (mid l k=l):=by
    unfold Hid
    rw[show k=l.length by have:=HLN.out;omega]
    exact mid_all l
   clear h1 hbel
   go_wp2_with fail
   go_ret
   exact⟨rfl,by rw[<-HE.out];exact G1.out,GB.out⟩
end Go.Proofs.YtpddanmnlkcdpaaGreatDoor.In


/- A row of numbers that make has just made. -/
namespace Go.Proofs.YtpddanmnlkcdpaaGreatDoor.Sh
open Go.RowKit
theorem made_zerosK (k:IntKind) (n:Nat):(madeCells (Value.int k 0).cells (n*1)).toList=(rowF k n (fun _=>0)).toList:=by
 apply List.ext_getElem?
 intro i
 by_cases hi:i<n
 ·simp[madeCells,rowF,hi,Value.cells,Nat.mod_one]
 ·simp[madeCells,rowF,hi,Value.cells]
theorem made_rowK {k:IntKind} {w:World} {base e g n:Nat} (h:w.ownsRow base e 1 (.slice (some ⟨g,0,none⟩) n n) n (madeCells (Value.int k 0).cells (n*1)).toList):IsB w g e k n (fun _=>0):=by
 obtain⟨_,h⟩:=h
 rcases h with⟨h,_⟩|⟨g',cap,cur,hv,_,hb,_,_,hsz,htk⟩
 ·simp at h
 ·simp at hv
  obtain⟨rfl,rfl⟩:=hv
  rw[made_zerosK,List.take_of_length_le (by simp[hsz])]at htk
  have:cur=rowF k n (fun _=>0):=by simpa using htk
  rw[this]at hb
  exact hb
theorem own_cells {w:World} {base e n:Nat} {v:Value} {k:IntKind} {f:Nat->Int} (hn:0<n) (h:w.ownsRow base e 1 v n (rowF k n f).toList) :
  ∃ g c,v=.slice (some ⟨g,0,none⟩) n c/\base<=g/\g<w.heap.size/\∀ j,j<n->w.cell? ⟨g,j,none⟩=some (.int k (f j)):=by
 obtain⟨_,h⟩:=h
 rcases h with⟨_,h⟩|⟨g,cap,cur,hv,hg,hb,hnc,_,hsz,htk⟩
 ·omega
 ·refine⟨g,cap,hv,hg,(Array.getElem?_eq_some_iff.1 hb).1,fun j hj=>?_⟩
  rw[cell_of_row w g j cur e (0,0) hb]
  have h1:cur.toList[j]? = (cur.toList.take (n*1))[j]?:=by rw[List.getElem?_take_of_lt (by omega)]
  rw[<-Array.getElem?_toList,h1,htk,Array.getElem?_toList]
  exact rowF_get k n f j hj
theorem rowF_snoc (k:IntKind) (n:Nat) (f:Nat->Int):(rowF k n f).toList++[.int k (f n)]=(rowF k (n+1) f).toList:=by
 simp[rowF,List.range_succ]
theorem byte_at (t:ByteArray) (j:Nat) (h:j<t.size):∃ y:UInt8,t[j]=y/\y.toNat=bt t j:=⟨t[j],rfl,bt_get t j h⟩
theorem word_spec (B:Nat->Nat) (k:Nat) (y0 y1 y2 y3:Nat) (h0:y0=B (4*k)) (h1:y1=B (4*k+1)) (h2:y2=B (4*k+2)) (h3:y3=B (4*k+3)) (hB:∀ j,B j<256) :
  bits BinOp.or IntKind.u32 (bits BinOp.or IntKind.u32 (bits BinOp.or IntKind.u32 ((y0:Int)*16777216) ((y1:Int)*65536))
   ((y2:Int)*256)) (y3:Int)=((word B k:Nat):Int):=by
 have b0:=hB (4*k)
 have b1:=hB (4*k+1)
 have b2:=hB (4*k+2)
 have b3:=hB (4*k+3)
 rw[<-h0]at b0
 rw[<-h1]at b1
 rw[<-h2]at b2
 rw[<-h3]at b3
 rw[show (y0:Int)*16777216=((y0*16777216:Nat):Int) by simp,show (y1:Int)*65536=((y1*65536:Nat):Int) by simp,show (y2:Int)*256=((y2*256:Nat):Int) by simp]
 rw[u32_or_nat _ _ (by omega) (by omega),nat_join 24 (y0*16777216) (y1*65536) (by omega) (by omega),
  u32_or_nat _ _ (by omega) (by omega),nat_join 16 (y0*16777216+y1*65536) (y2*256) (by omega) (by omega),
  u32_or_nat _ _ (by omega) (by omega),nat_join 8 (y0*16777216+y1*65536+y2*256) y3 (by omega) (by omega)]
 simp only[word,part,Nat.add_zero,<-h0,<-h1,<-h2,<-h3]
 omega
end Go.Proofs.YtpddanmnlkcdpaaGreatDoor.Sh


/- append onto a row that the call owns, as one step of a region that draws its order. -/
namespace Go.Proofs.YtpddanmnlkcdpaaGreatDoor.Sh
open Go.RowKit
theorem step_append_own {P:Program} {ops:Array Oper} {o:Oper} {a:Act} {w:World} {K:Act->World->Prop} {Q:Exit->Act->World->Prop} {E:Prop}
  (hg:o.guard=none) (s x:Operand) (t:TypeId) (ho:o.op=.call { callee:=.builtin .append,args:=#[s,x],argTypes:=#[t,t] })
  (base:Nat) (e:TypeId) (i:TypeInfo) (z:Value) (size bytes:Nat) (ht:P.underlying t=some (.slice e)) (hi:P.info? e=some i) (hz:i.zero=some z)
  (hsize:i.size=size) (hby:i.bytes=bytes) (hzs:z.cells.size=size) (hsz:0<size)
  (v:Value) (n:Nat) (xs:List Value) (hs:a.eval s=v) (hown:w.ownsRow base e size v n xs)
  (ad:Addr) (m c:Nat) (news:List Value) (hx:a.eval x=.slice (some ad) m c) (hl:news.length=m*size) (hnews:∀ j u,news[j]? = some u->w.cell? (ad.add j)=some u) (h1:∀ u∈news,u.oneCell'=true)
  (h63:n+m<=maxLen) (hbytes:(n+m)*bytes<=140737488355328) (hbase:base<=w.heap.size)
  (h:∀ v' w',w'.ownsRow base e size v' (n+m) (xs++news)->w.grownBy w' v.ownBlock->K (a.put o.dst v') w') :
  if Region.wanted o (yielded ops a.tmps)=true then Oper.wp P o a w K Q else E:=by
 have hw:Region.wanted o (yielded ops a.tmps)=true:=by simp[Region.wanted,hg]
 rw[if_pos hw]
 exact wp_append_own w s x t ho base e i z size bytes ht hi hz hsize hby hzs hsz v n xs hs hown ad m c news hx hl hnews h1 h63 hbytes hbase fun v' w' h2 h3 _=>h v' w' h2 h3
theorem one_new (W:World) (x:Value) (t:TypeId):∀ (j:Nat) (u:Value),[x][j]? = some u->(W.alloc (.cells #[x] t)).cell? ((⟨W.heap.size,0,none⟩:Addr).add j)=some u:=by
 intro j u hj
 match j,hj with
 |0,hj=>simp at hj;subst hj;simp[Addr.add]
theorem one_cell (k:IntKind) (x:Int):∀ u∈[Value.int k x],u.oneCell'=true:=by
 intro u hu
 simp at hu
 subst hu
 rfl
theorem own_empty (W:World) (base t:Nat) (h:base<=W.heap.size):(W.alloc (.cells #[] t)).ownsRow base t 1 (.slice (some ⟨W.heap.size,0,none⟩) 0 0) 0 [] :=
 ⟨rfl,Or.inr ⟨W.heap.size,0,#[],rfl,h,heap_alloc_last W _,Nat.le_refl _,by decide,rfl,rfl⟩⟩
theorem app_low {B:Nat} {e:TypeId} {w wr w1:World} {v:Value} {n size:Nat} {xs:List Value} {o:Obj} (hbel:Below B w wr) (hB:B<=wr.heap.size)
  (hown:wr.ownsRow B e size v n xs) (hgrow:(wr.drew.alloc o).grownBy w1 v.ownBlock):Below B w w1:=by
 refine(hbel.drew.alloc hB o).grown hgrow (by simp;omega) ?_
 intro k hk
 exact(hown.lt k hk).1
end Go.Proofs.YtpddanmnlkcdpaaGreatDoor.Sh


namespace Go.Proofs.YtpddanmnlkcdpaaGreatDoor.Sh
open Go.RowKit
theorem keys_any (w:World):Calls Tryz.prog 208 #[] w fun e w'=>e=.returned (.slice (some ⟨w.heap.size,0,none⟩) 64 64)/\w'=w.alloc (.cells (rowF .u32 64 keyF) 199):=by
 go_enter Tryz.func208,Tryz.ntmps208
 go_wp2
 go_ret
 exact⟨rfl,rfl⟩
theorem start_any (w:World):Calls Tryz.prog 192 #[] w fun e w'=>e=.returned (.slice (some ⟨w.heap.size,0,none⟩) 8 8)/\w'=w.alloc (.cells (rowF .i64 8 firstF) 2):=by
 go_enter Tryz.func192,Tryz.ntmps192
 go_wp2
 go_ret
 exact⟨rfl,rfl⟩
end Go.Proofs.YtpddanmnlkcdpaaGreatDoor.Sh


/- A row of bytes that the call made, in whatever block it lies by now, told by a function from places to numbers; and append of one byte onto it. -/
namespace Go.Proofs.YtpddanmnlkcdpaaGreatDoor.Sh
open Go.RowKit
def OwnB (w:World) (base:Nat) (v:Value) (n:Nat) (f:Nat->Nat):Prop :=
 ∃ g cap,v=.slice (some ⟨g,0,none⟩) n cap/\base<=g/\g<w.heap.size/\n<=cap/\cap<=maxLen/\(∀ j,j<n->w.cell? ⟨g,j,none⟩=some (.int .u8 (f j:Nat))) /\
  ∀ j,n<=j->j<cap->(w.cell? ⟨g,j,none⟩).isSome=true/\w.frozen? ⟨g,j,none⟩=false
theorem OwnB.congr {w:World} {base:Nat} {v:Value} {n:Nat} {f f':Nat->Nat} (h:OwnB w base v n f) (e:∀ j,j<n->f j=f' j):OwnB w base v n f':=by
 obtain⟨g,cap,h1,h2,h3,h4,h5,h6,h7⟩:=h
 exact⟨g,cap,h1,h2,h3,h4,h5,fun j hj=>by rw[h6 j hj,e j hj],h7⟩
theorem OwnB.alloc {w:World} {base:Nat} {v:Value} {n:Nat} {f:Nat->Nat} (h:OwnB w base v n f) (o:Obj):OwnB (w.alloc o) base v n f:=by
 obtain⟨g,cap,h1,h2,h3,h4,h5,h6,h7⟩:=h
 refine⟨g,cap,h1,h2,by simp;omega,h4,h5,fun j hj=>?_,fun j hj1 hj2=>?_⟩
 ·rw[World.cell?_alloc_past o g j h3];exact h6 j hj
 ·rw[World.cell?_alloc_past o g j h3,World.frozen?_alloc_past o g j h3];exact h7 j hj1 hj2
theorem OwnB.below {w w':World} {base B:Nat} {v:Value} {n:Nat} {f:Nat->Nat} (h:OwnB w base v n f) (b:Below B w w') (hB:w.heap.size<=B):OwnB w' base v n f:=by
 obtain⟨g,cap,h1,h2,h3,h4,h5,h6,h7⟩:=h
 refine⟨g,cap,h1,h2,Nat.lt_of_lt_of_le h3 b.size,h4,h5,fun j hj=>?_,fun j hj1 hj2=>?_⟩
 ·rw[b.cell (p:=⟨g,j,none⟩) (show g<B by omega)];exact h6 j hj
 ·rw[b.cell (p:=⟨g,j,none⟩) (show g<B by omega),b.frozen (p:=⟨g,j,none⟩) (show g<B by omega)];exact h7 j hj1 hj2
theorem OwnB.slice {w:World} {base:Nat} {v:Value} {n:Nat} {f:Nat->Nat} (h:OwnB w base v n f):∃ g cap,v=.slice (some ⟨g,0,none⟩) n cap/\n<=cap:=by
 obtain⟨g,cap,h1,_,_,h4,_⟩:=h
 exact⟨g,cap,h1,h4⟩
theorem own_of_string (w:World) (base:Nat) (s:ByteArray) (e:TypeId) (hs:s.size<=maxLen) (hb:base<=w.heap.size) :
  OwnB (w.drew.alloc (.cells (bytesRow s (grownCap w s.size 0 e)) e ((bytesRow s (grownCap w s.size 0 e)).size,(bytesRow s (grownCap w s.size 0 e)).size+1))) base
   (.slice (some ⟨w.heap.size,0,none⟩) s.size (grownCap w s.size 0 e)) s.size (bt s):=by
 have hge:=grownCap_ge w s.size 0 e
 have hcm:=grownCap_le_maxLen w s.size 0 e hs
 generalize grownCap w s.size 0 e=cap at hge hcm
 have hsz:(bytesRow s cap).size=cap:=by
  have:s.data.size=s.size:=rfl
  simp[bytesRow]
  omega
 have hc:∀ j,(w.drew.alloc (.cells (bytesRow s cap) e ((bytesRow s cap).size,(bytesRow s cap).size+1))).cell? ⟨w.heap.size,j,none⟩=(bytesRow s cap)[j]?:=fun j =>
  cell_of_row _ w.heap.size j _ e _ (heap_alloc_last w.drew _)
 refine⟨w.heap.size,cap,rfl,hb,by simp,hge,hcm,fun j hj=>?_,fun j hj1 hj2=>?_⟩
 ·rw[hc,bytesRow_at s cap j (show j<s.data.size from hj)]
  have:=bt_get s j hj
  simp only[<-this]
  rfl
 ·rw[hc]
  refine⟨by rw[Array.getElem?_eq_getElem (by omega)];rfl,?_⟩
  unfold World.frozen?
  rw[show (w.drew.alloc (.cells (bytesRow s cap) e ((bytesRow s cap).size,(bytesRow s cap).size+1))).heap[(⟨w.heap.size,j,none⟩:Addr).block]? = some (.cells (bytesRow s cap) e ((bytesRow s cap).size,(bytesRow s cap).size+1)) from heap_alloc_last w.drew _]
  simp[hsz]
  omega
theorem run_append_b {P:Program} (w:World) (base:Nat) (t ty e:TypeId) (i:TypeInfo) (ht:P.underlying t=some (.slice e)) (hi:P.info? e=some i) (hz:i.zero=some (.int .u8 0))
  (hsize:i.size=1) (hby:i.bytes=1) (v:Value) (n:Nat) (f:Nat->Nat) (hown:OwnB w base v n f) (ad:Addr) (c x:Nat) (hx:w.cell? (ad.add 0)=some (.int .u8 (x:Nat))) (hn:n+1<=140737488355328) (hbase:base<=w.heap.size) :
  ∃ v' w',(Builtin.append_ #[t,t] ty #[v,.slice (some ad) 1 c]).run P w=.ok v' w'/\OwnB w' base v' (n+1) (fun j=>if j=n then x else f j)/\w.grownBy w' v.ownBlock:=by
 obtain⟨g,cap,rfl,hg1,hg2,hnc,hcm,hcl,hsp⟩:=hown
 have hnews:∀ (j:Nat) (u:Value),[Value.int .u8 (x:Nat)][j]? = some u->w.cell? (ad.add j)=some u:=by
  intro j u hj
  match j,hj with
  |0,hj=>simp at hj;subst hj;exact hx
 have hone:∀ u∈[Value.int .u8 (x:Nat)],u.oneCell'=true:=by
  intro u hu
  simp at hu
  subst hu
  rfl
 by_cases hroom:n+1<=cap
 ·obtain⟨sp1,sp2⟩:=hsp n (Nat.le_refl _) hroom
  have hr:=run_append_room_cells (P:=P) w t ty e i ht hi g 0 n cap ad 1 c [.int .u8 (x:Nat)] (by simp[hsize]) hnews hone hroom
   (fun j hj=>by simp at hj;subst hj;simpa [hsize] using sp1) (fun j hj=>by simp at hj;subst hj;simpa [hsize] using sp2)
  refine⟨_,_,hr,?_,⟨rfl,rfl,rfl,?_,?_⟩⟩
  ·obtain⟨y,hy⟩:=Option.isSome_iff_exists.1 sp1
   simp only[hsize,Nat.mul_one,Nat.zero_add,World.setCells]
   refine⟨g,cap,rfl,hg1,by simpa using hg2,hroom,hcm,fun j hj=>?_,fun j hj1 hj2=>?_⟩
   ·by_cases e':j=n
    ·subst e'
     rw[World.cell?_setCell_same w _ _ hy]
     simp
    ·rw[World.cell?_setCell_other w _ _ _ (by simp<;>omega),hcl j (by omega)]
     simp[e']
   ·rw[World.cell?_setCell_other w _ _ _ (by simp<;>omega),World.frozen?_setCell]
    exact hsp j (by omega) hj2
  ·simp[hsize,World.setCells]
  ·intro k _ hk
   simp only[hsize,World.setCells]
   exact heap_setCell_other w _ k _ (by intro e';exact hk (by simp[Value.ownBlock,e']))
 ·have hcap:cap=n:=by omega
  have hr:=run_append_grow (P:=P) w t ty e i (.int .u8 0) ht hi hz ⟨g,0,none⟩ n cap ((List.range n).map fun j=>Value.int .u8 (f j:Nat)) (by simp[hsize])
   (fun j u hj=>by
    have hadd:(⟨g,0,none⟩:Addr).add j=⟨g,j,none⟩:=by unfold Addr.add;split<;>simp_all
    rw[hadd]
    by_cases hjn:j<n
    ·simp[hjn]at hj
     rw[hcl j hjn,hj]
    ·simp[hjn]at hj)
   ad 1 c [.int .u8 (x:Nat)] (by simp[hsize]) hnews (by omega) (by omega) (by rw[hby];exact growslice_fits (by omega) (by omega))
  have hge:=grownCap_ge w (n+1) cap e
  have hcm2:=grownCap_le_maxLen w (n+1) cap e (by unfold maxLen;omega)
  refine⟨_,_,hr,?_,⟨rfl,rfl,rfl,by simp,fun k hk _=>Below.heap_alloc w.drew _ k hk⟩⟩
  generalize grownCap w (n+1) cap e=cap' at hge hcm2
  have hcc:∀ (cs:Array Value) (j:Nat),(w.drew.alloc (.cells cs e)).cell? ⟨w.heap.size,j,none⟩=cs[j]?:=fun cs j=>World.cell?_alloc_new w.drew cs e j
  have hff:∀ (cs:Array Value) (j:Nat),(w.drew.alloc (.cells cs e)).frozen? ⟨w.heap.size,j,none⟩=false:=fun cs j=>World.frozen?_alloc_new w.drew cs e j
  refine⟨w.heap.size,cap',rfl,hbase,by simp,hge,hcm2,fun j hj=>?_,fun j hj1 hj2=>⟨?_,hff _ j⟩⟩
  ·rw[hcc]
   by_cases e':j=n
   ·subst e'
    simp[Array.getElem?_append]
   ·have hjn:j<n:=by omega
    simp[Array.getElem?_append,hjn,hj,e']
  ·rw[hcc,Array.getElem?_eq_getElem]
   ·rfl
   ·simp[size_zeroCells,Value.cells]
    omega
theorem wpList_append_b {P:Program} {w:World} {ops:Array Oper} {rest:List Oper} {o:Oper} {a:Act} {Q:Exit->Act->World->Prop} (hgd:o.guard=none) (s y:Operand) (t:TypeId)
  (ho:o.op=.call { callee:=.builtin .append,args:=#[s,y],argTypes:=#[t,t] })
  (base:Nat) (e:TypeId) (i:TypeInfo) (ht:P.underlying t=some (.slice e)) (hi:P.info? e=some i) (hz:i.zero=some (.int .u8 0)) (hsize:i.size=1) (hby:i.bytes=1)
  (v:Value) (n:Nat) (f:Nat->Nat) (hs:a.eval s=v) (hown:OwnB w base v n f) (ad:Addr) (c x:Nat) (hy:a.eval y=.slice (some ad) 1 c) (hx:w.cell? (ad.add 0)=some (.int .u8 (x:Nat)))
  (hn:n+1<=140737488355328) (hbase:base<=w.heap.size)
  (h:∀ v' w',OwnB w' base v' (n+1) (fun j=>if j=n then x else f j)->w.grownBy w' v.ownBlock->wpList P ops Q rest (a.put o.dst v') w'):wpList P ops Q (o :: rest) a w:=by
 refine wpList_plain hgd fun K hK=>?_
 obtain⟨v',w',hr,h2,h3⟩:=run_append_b (P:=P) w base t o.type e i ht hi hz hsize hby v n f hown ad c x hx hn hbase
 unfold Oper.wp execOp
 simp only[ho,resolve,invoke,builtin,Sem.run_bind,Sem.run_pure,Result.andThen_ok,List.map_toArray,List.map_cons,List.map_nil,hs,hy,hr]
 exact hK _ _ (h v' w' h2 h3)
end Go.Proofs.YtpddanmnlkcdpaaGreatDoor.Sh


/- Numbers in order: the one rising row of them; a number put in its place. -/
namespace Go.Proofs.YtpddanmnlkcdpaaGreatDoor.Kh
def sortZ (l:List Int):List Int:=l.mergeSort fun x y=>decide (x<=y)
def insZ (s:List Int) (x:Int) (k:Nat):List Int:=s.take k++[x]++s.drop k
end Go.Proofs.YtpddanmnlkcdpaaGreatDoor.Kh

