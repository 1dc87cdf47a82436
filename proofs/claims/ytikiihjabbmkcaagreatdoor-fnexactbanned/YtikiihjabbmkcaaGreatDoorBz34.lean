/- Texts put together: KpFind, ShaMade, ShaAppend, KpPut, KpOpen. -/
import Derived.Test.YtikiihjabbmkcaaGreatDoorBz33
import Derived.Test.YtikiihjabbmkcaaGreatDoorBz8
import Derived.Test.YtikiihjabbmkcaaGreatDoorBz3
import Derived.Deep.RegionLaw
set_option maxRecDepth 100000
set_option maxHeartbeats 8000000
namespace Go.Proofs.YtikiihjabbmkcaaGreatDoor.Kp
open Go.RowKit
open Ls (cells3 set3_all)
theorem find_none {m:List MR} {i:Int} (h:∀ j (hj:j<m.length),¬m[j].1.1=i):hasR (recs m) i=false:=by
 rw[hasR_recs,<-Bool.not_eq_true,List.any_eq_true]
 rintro⟨x,hx,he⟩
 obtain⟨j,hj,rfl⟩:=List.getElem_of_mem hx
 exact h j hj (by simpa using he)
theorem find_some {m:List MR} {i:Int} {j:Nat} (hj:j<m.length) (h:m[j].1.1=i):hasR (recs m) i=true:=by
 rw[hasR_recs,List.any_eq_true]
 exact⟨m[j],List.getElem_mem hj,by simpa using h⟩
theorem find_any (g base n:Nat) (i:Int) (v:Value) (m:List MR) (w:World) (hc:w.cell? ⟨g,0,none⟩=some v) (hg:g<w.heap.size) (ho:OwnR w base v m) (hsl:∀ x∈m,∃ a n cap,x.2=.slice a n cap) (hn:m.length=n) (hm:n<=1048576) :
  Calls Tryz.prog 129 #[.pointer (some ⟨g,0,none⟩),.int .i64 i] w fun r w' =>
   ((∃ (j:Nat) (hj:j<m.length),m[j].1.1=i/\(∀ k (hk:k<j),¬(m[k]'(Nat.lt_trans hk hj)).1.1=i)/\r=.returned (.tuple #[.agg #[.int .i64 i,.string m[j].1.2.1,m[j].2],.bool true])) ∨
   ((∀ j (hj:j<m.length),¬m[j].1.1=i)/\r=.returned (.tuple #[.agg #[.int .i64 0,.string ⟨#[]⟩,.slice none 0 0],.bool false])))/\Below w.heap.size w w':=by
 have HN:=hideK hn
 obtain⟨a,cap,rfl⟩:=ho.one
 have HC:=hideK (fun h0=>ho.cells h0)
 rw[hn]at hc
 have C0:=hideK ((Cx.nil w).new (.cells #[.int .i64 0,.string ⟨#[]⟩,.slice none 0 0] 130))
 have hc0:(w.alloc (.cells #[.int .i64 0,.string ⟨#[]⟩,.slice none 0 0] 130)).cell? ⟨g,0,none⟩=some (.slice a n cap):=(C0.out.low.cell (p:=⟨g,0,none⟩) hg).trans hc
 have HSL:=hideK hsl
 clear hc ho hn hsl
 go_enter Tryz.func129,Tryz.ntmps129
 go_wp2_with fail
 go_loopw [13,7] (fun jv _ wr=>∃ (j:Nat),jv=.int .i64 j/\j<=n/\(∀ k (hk:k<m.length),k<j->¬m[k].1.1=i)/\Cx w wr [(w.heap.size,.cells #[.int .i64 0,.string ⟨#[]⟩,.slice none 0 0] 130)]) (fun jv _ _=>n-(intOf jv).toNat)
 case atStart=>exact⟨0,rfl,Nat.zero_le _,fun k _ h=>absurd h (Nat.not_lt_zero _),C0.out⟩
 case round =>
  obtain⟨j,rfl,hj,hno,hcx⟩:=hrel
  have NO:=hideK hno
  have CX:=hideK hcx
  clear hno hcx
  by_cases hlt:j<n
  ·have hlt':(j:Int)<(n:Int):=by omega
   have hjm:j<m.length:=by rw[HN.out];exact hlt
   obtain⟨gr,cp,hv,_,hgl,_,hcl⟩:=HC.out (by rw[HN.out];omega)
   cases hv
   obtain⟨e0,e1,e2⟩:=hcl j hjm
   have c0:=(CX.out.low.cell (p:=⟨gr,j*3,none⟩) hgl).trans e0
   have c1:=(CX.out.low.cell (p:=⟨gr,j*3+1,none⟩) hgl).trans e1
   have c2:=(CX.out.low.cell (p:=⟨gr,j*3+2,none⟩) hgl).trans e2
   have HI:Hid (∀ x:MR,x=m[j]->x.1.1=i->(∃ (j:Nat) (hj:j<m.length),m[j].1.1=i/\(∀ k (hk:k<j),¬(m[k]'(Nat.lt_trans hk hj)).1.1=i)/\(.tuple #[.agg #[.int .i64 i,.string x.1.2.1,x.2],.bool true]:Value)=.tuple #[.agg #[.int .i64 i,.string m[j].1.2.1,m[j].2],.bool true])):=fun x hx he=>⟨j,hjm,by rw[<-hx];exact he,fun k hk=>NO.out k (Nat.lt_trans hk hjm) hk,by rw[hx]⟩
   have HQ:Hid (∀ x:MR,x=m[j]->¬x.1.1=i->∀ k (hk:k<m.length),k<j+1->¬m[k].1.1=i):=fun x hx he k hk hk1=>by
    by_cases hkj:k<j
    ·exact NO.out k hk hkj
    ·have:k=j:=by omega
     subst this
     rw[<-hx]
     exact he
   obtain⟨x,hx⟩:∃ x,x=m[j]:=⟨_,rfl⟩
   obtain⟨ap,np,cp,hxv⟩:=HSL.out x (by rw[hx];exact List.getElem_mem hjm)
   have HI1:=hideK (HI.out x hx)
   have HQ1:=hideK (HQ.out x hx)
   rw[<-hx]at c0 c1 c2
   clear e0 e1 e2 hcl hx HI HQ hjm
   obtain⟨⟨xi,xt,xp⟩,xv⟩:=x
   dsimp only at c0 c1 c2 HI1 HQ1 hxv
   subst hxv
   have C1:=hideK (CX.out.new (.cells #[.int .i64 xi,.string xt,.slice ap np cp] 130))
   go_upto_region 4 with fail
   generalize wr.alloc (.cells #[.int .i64 xi,.string xt,.slice ap np cp] 130)=W1 at C1 ⊢
   generalize wr.heap.size=g1 at C1 ⊢
   obtain⟨q0,q1,q2⟩:=cells3 (C1.out.get 1 rfl)
   obtain⟨d0,d1,d2⟩:=cells3 (C1.out.get 0 rfl)
   clear c0 c1 c2
   by_cases he:xi=i
   ·subst he
    have HI2:=hideK (HI1.out rfl)
    have ff:=fun o=>frozen_of_row W1 w.heap.size o _ _ (C1.out.get 1 rfl)
    have s3:=set3_all (C1.out.get 1 rfl) (.int .i64 xi) (.string xt) (.slice ap np cp)
    have E3:=hideK (set3_low C1.out.low (Nat.le_refl _) (.int .i64 xi) (.string xt) (.slice ap np cp))
    go_wp2_with fail
    obtain⟨jj,hjj,k1,k2,k3⟩:=HI2.out
    exact bodyPost_ret (v:=.tuple #[.agg #[.int .i64 xi,.string xt,.slice ap np cp],.bool true]) (by simp[results,Tryz.results129,go_sem,s3.1,s3.2.1,s3.2.2]) rfl ⟨.inl ⟨jj,hjj,k1,k2,by rw[k3]⟩,E3.out⟩
   ·have he':(xi==i)=false:=beq_eq_false_iff_ne.2 he
    have HQ2:=hideK (HQ1.out he)
    clear he
    have C2:Hid (Cx w W1 [(w.heap.size,.cells #[.int .i64 0,.string ⟨#[]⟩,.slice none 0 0] 130)]):=⟨C1.out.low,fun x hx=>C1.out.blk x (List.mem_cons_of_mem _ hx)⟩
    go_wp2_with fail
    go_roundw
    case rel=>exact⟨j+1,by go_num,by omega,HQ2.out,C2.out⟩
    case measure=>simp[intOf];omega
  ·obtain rfl:j=n:=by omega
   have NN:Hid (∀ k (hk:k<m.length),¬m[k].1.1=i):=fun k hk=>NO.out k hk (by rw[<-HN.out];exact hk)
   obtain⟨q0,q1,q2⟩:=cells3 (CX.out.get 0 rfl)
   have ff:=fun o=>frozen_of_row wr w.heap.size o _ _ (CX.out.get 0 rfl)
   have s3:=set3_all (CX.out.get 0 rfl) (.int .i64 0) (.string ⟨#[]⟩) (.slice none 0 0)
   have E3:=hideK (set3_low CX.out.low (Nat.le_refl _) (.int .i64 0) (.string ⟨#[]⟩) (.slice none 0 0))
   go_wp2_with fail
   exact bodyPost_ret (v:=.tuple #[.agg #[.int .i64 0,.string ⟨#[]⟩,.slice none 0 0],.bool false]) (by simp[results,Tryz.results129,go_sem,s3.1,s3.2.1,s3.2.2]) rfl ⟨.inr ⟨NN.out,rfl⟩,E3.out⟩
theorem has_any (g base n:Nat) (i:Int) (v:Value) (m:List MR) (w:World) (hc:w.cell? ⟨g,0,none⟩=some v) (hg:g<w.heap.size) (ho:OwnR w base v m) (hsl:∀ x∈m,∃ a n cap,x.2=.slice a n cap) (hn:m.length=n) (hm:n<=1048576) :
  Calls Tryz.prog 86 #[.pointer (some ⟨g,0,none⟩),.int .i64 i] w fun r w'=>r=.returned (.bool (hasR (recs m) i))/\Below w.heap.size w w':=by
 have HF:=hideK (find_any g base n i v m w hc hg ho hsl hn hm)
 have HSL:=hideK hsl
 clear hc ho hsl
 go_enter Tryz.func86,Tryz.ntmps86
 go_wp2_with fail
 refine HF.out.mono ?_
 rintro e w1 ⟨⟨j,hj,he,_,rfl⟩|⟨hno,rfl⟩,hb⟩
 ·obtain⟨ap,np,cp,hv⟩:=HSL.out m[j] (List.getElem_mem hj)
  rw[hv]
  have HB:=hideK (hb.alloc hb.size (.cells #[.int .i64 i,.string m[j].1.2.1,.slice ap np cp] 130))
  have HH:=hideK (find_some hj he)
  clear hb he
  go_wp2_with fail
  go_ret
  exact⟨by rw[HH.out];rfl,HB.out⟩
 ·have HB:=hideK (hb.alloc hb.size (.cells #[.int .i64 0,.string ⟨#[]⟩,.slice none 0 0] 130))
  have HH:=hideK (find_none hno)
  clear hb hno
  go_wp2_with fail
  go_ret
  exact⟨by rw[HH.out];rfl,HB.out⟩
end Go.Proofs.YtikiihjabbmkcaaGreatDoor.Kp


/- A row of numbers that make has just made. -/
namespace Go.Proofs.YtikiihjabbmkcaaGreatDoor.Sh
open Go.RowKit
theorem made_zerosK (k:IntKind) (n:Nat):(madeCells (Value.int k 0).cells (n*1)).toList=(rowF k n (fun _=>0)).toList:=by
 apply List.ext_getElem?
 intro i
 by_cases hi:i<n
 ·simp[madeCells,rowF,hi,Value.cells,Nat.mod_one]
 ·simp[madeCells,rowF,hi,Value.cells]
theorem made_rowK {k:IntKind} {w:World} {base e g n:Nat} (h:w.ownsRow base e 1 (.slice (some ⟨g,0,none⟩) n n) n (madeCells (Value.int k 0).cells (n*1)).toList):IsB w g e k n (fun _=>0):=by
 obtain⟨_,h⟩:=h
 rcases h with⟨h,_⟩|⟨g',cap,cur,hv,_,hb,_,_,hsz,htk⟩
 ·simp at h
 ·simp at hv
  obtain⟨rfl,rfl⟩:=hv
  rw[made_zerosK,List.take_of_length_le (by simp[hsz])]at htk
  have:cur=rowF k n (fun _=>0):=by simpa using htk
  rw[this]at hb
  exact hb
theorem own_cells {w:World} {base e n:Nat} {v:Value} {k:IntKind} {f:Nat->Int} (hn:0<n) (h:w.ownsRow base e 1 v n (rowF k n f).toList) :
  ∃ g c,v=.slice (some ⟨g,0,none⟩) n c/\base<=g/\g<w.heap.size/\∀ j,j<n->w.cell? ⟨g,j,none⟩=some (.int k (f j)):=by
 obtain⟨_,h⟩:=h
 rcases h with⟨_,h⟩|⟨g,cap,cur,hv,hg,hb,hnc,_,hsz,htk⟩
 ·omega
 ·refine⟨g,cap,hv,hg,(Array.getElem?_eq_some_iff.1 hb).1,fun j hj=>?_⟩
  rw[cell_of_row w g j cur e (0,0) hb]
  have h1:cur.toList[j]? = (cur.toList.take (n*1))[j]?:=by rw[List.getElem?_take_of_lt (by omega)]
  rw[<-Array.getElem?_toList,h1,htk,Array.getElem?_toList]
  exact rowF_get k n f j hj
theorem rowF_snoc (k:IntKind) (n:Nat) (f:Nat->Int):(rowF k n f).toList++[.int k (f n)]=(rowF k (n+1) f).toList:=by
 simp[rowF,List.range_succ]
theorem byte_at (t:ByteArray) (j:Nat) (h:j<t.size):∃ y:UInt8,t[j]=y/\y.toNat=bt t j:=⟨t[j],rfl,bt_get t j h⟩
theorem word_spec (B:Nat->Nat) (k:Nat) (y0 y1 y2 y3:Nat) (h0:y0=B (4*k)) (h1:y1=B (4*k+1)) (h2:y2=B (4*k+2)) (h3:y3=B (4*k+3)) (hB:∀ j,B j<256) :
  bits BinOp.or IntKind.u32 (bits BinOp.or IntKind.u32 (bits BinOp.or IntKind.u32 ((y0:Int)*16777216) ((y1:Int)*65536))
   ((y2:Int)*256)) (y3:Int)=((word B k:Nat):Int):=by
 have b0:=hB (4*k)
 have b1:=hB (4*k+1)
 have b2:=hB (4*k+2)
 have b3:=hB (4*k+3)
 rw[<-h0]at b0
 rw[<-h1]at b1
 rw[<-h2]at b2
 rw[<-h3]at b3
 rw[show (y0:Int)*16777216=((y0*16777216:Nat):Int) by simp,show (y1:Int)*65536=((y1*65536:Nat):Int) by simp,show (y2:Int)*256=((y2*256:Nat):Int) by simp]
 rw[u32_or_nat _ _ (by omega) (by omega),nat_join 24 (y0*16777216) (y1*65536) (by omega) (by omega),
  u32_or_nat _ _ (by omega) (by omega),nat_join 16 (y0*16777216+y1*65536) (y2*256) (by omega) (by omega),
  u32_or_nat _ _ (by omega) (by omega),nat_join 8 (y0*16777216+y1*65536+y2*256) y3 (by omega) (by omega)]
 simp only[word,part,Nat.add_zero,<-h0,<-h1,<-h2,<-h3]
 omega
end Go.Proofs.YtikiihjabbmkcaaGreatDoor.Sh


/- append onto a row that the call owns, as one step of a region that draws its order. -/
namespace Go.Proofs.YtikiihjabbmkcaaGreatDoor.Sh
open Go.RowKit
theorem step_append_own {P:Program} {ops:Array Oper} {o:Oper} {a:Act} {w:World} {K:Act->World->Prop} {Q:Exit->Act->World->Prop} {E:Prop}
  (hg:o.guard=none) (s x:Operand) (t:TypeId) (ho:o.op=.call { callee:=.builtin .append,args:=#[s,x],argTypes:=#[t,t] })
  (base:Nat) (e:TypeId) (i:TypeInfo) (z:Value) (size bytes:Nat) (ht:P.underlying t=some (.slice e)) (hi:P.info? e=some i) (hz:i.zero=some z)
  (hsize:i.size=size) (hby:i.bytes=bytes) (hzs:z.cells.size=size) (hsz:0<size)
  (v:Value) (n:Nat) (xs:List Value) (hs:a.eval s=v) (hown:w.ownsRow base e size v n xs)
  (ad:Addr) (m c:Nat) (news:List Value) (hx:a.eval x=.slice (some ad) m c) (hl:news.length=m*size) (hnews:∀ j u,news[j]? = some u->w.cell? (ad.add j)=some u) (h1:∀ u∈news,u.oneCell'=true)
  (h63:n+m<=maxLen) (hbytes:(n+m)*bytes<=140737488355328) (hbase:base<=w.heap.size)
  (h:∀ v' w',w'.ownsRow base e size v' (n+m) (xs++news)->w.grownBy w' v.ownBlock->K (a.put o.dst v') w') :
  if Region.wanted o (yielded ops a.tmps)=true then Oper.wp P o a w K Q else E:=by
 have hw:Region.wanted o (yielded ops a.tmps)=true:=by simp[Region.wanted,hg]
 rw[if_pos hw]
 exact wp_append_own w s x t ho base e i z size bytes ht hi hz hsize hby hzs hsz v n xs hs hown ad m c news hx hl hnews h1 h63 hbytes hbase fun v' w' h2 h3 _=>h v' w' h2 h3
theorem one_new (W:World) (x:Value) (t:TypeId):∀ (j:Nat) (u:Value),[x][j]? = some u->(W.alloc (.cells #[x] t)).cell? ((⟨W.heap.size,0,none⟩:Addr).add j)=some u:=by
 intro j u hj
 match j,hj with
 |0,hj=>simp at hj;subst hj;simp[Addr.add]
theorem one_cell (k:IntKind) (x:Int):∀ u∈[Value.int k x],u.oneCell'=true:=by
 intro u hu
 simp at hu
 subst hu
 rfl
theorem own_empty (W:World) (base t:Nat) (h:base<=W.heap.size):(W.alloc (.cells #[] t)).ownsRow base t 1 (.slice (some ⟨W.heap.size,0,none⟩) 0 0) 0 [] :=
 ⟨rfl,Or.inr ⟨W.heap.size,0,#[],rfl,h,heap_alloc_last W _,Nat.le_refl _,by decide,rfl,rfl⟩⟩
theorem app_low {B:Nat} {e:TypeId} {w wr w1:World} {v:Value} {n size:Nat} {xs:List Value} {o:Obj} (hbel:Below B w wr) (hB:B<=wr.heap.size)
  (hown:wr.ownsRow B e size v n xs) (hgrow:(wr.drew.alloc o).grownBy w1 v.ownBlock):Below B w w1:=by
 refine(hbel.drew.alloc hB o).grown hgrow (by simp;omega) ?_
 intro k hk
 exact(hown.lt k hk).1
end Go.Proofs.YtikiihjabbmkcaaGreatDoor.Sh


namespace Go.Proofs.YtikiihjabbmkcaaGreatDoor.Kp
open Go.RowKit
open Ls (cells3 set3_all blk_alloc)
open Sh (step_append_own)
theorem Tryz.infoRecord:(Tryz.prog.info? 130).map (fun i=>(i.zero,i.size,i.bytes))=some (some (.agg #[.int .i64 0,.string ⟨#[]⟩,.slice none 0 0]),3,48):=by kernel_rfl
def wkB (v:Value) (e:Int) (z b:Int) (r s:ByteArray) (y:Int):Obj:=.cells #[v,.int .i64 e,.int .i64 z,.int .i64 b,.string r,.string s,.int .i64 y] 81
theorem wk_set0 {W:World} {g:Nat} {v:Value} {e z b:Int} {r s:ByteArray} {y:Int} (h:W.heap[g]? = some (wkB v e z b r s y)) (u:Value):(W.setCell ⟨g,0,none⟩ u).heap[g]? = some (wkB u e z b r s y):=by
 unfold wkB at h ⊢
 rw[heap_setCell_same W g 0 _ _ u h]
 rfl
theorem wk_set1 {W:World} {g:Nat} {v:Value} {e z b:Int} {r s:ByteArray} {y:Int} (h:W.heap[g]? = some (wkB v e z b r s y)) (f:Int):(W.setCell ⟨g,1,none⟩ (.int .i64 f)).heap[g]? = some (wkB v f z b r s y):=by
 unfold wkB at h ⊢
 rw[heap_setCell_same W g 1 _ _ _ h]
 rfl
theorem wk_cells {W:World} {g:Nat} {v:Value} {e z b:Int} {r s:ByteArray} {y:Int} (h:W.heap[g]? = some (wkB v e z b r s y)):W.cell? ⟨g,0,none⟩=some v/\W.cell? ⟨g,1,none⟩=some (.int .i64 e)/\W.cell? ⟨g,2,none⟩=some (.int .i64 z)/\W.cell? ⟨g,3,none⟩=some (.int .i64 b)/\W.cell? ⟨g,4,none⟩=some (.string r)/\W.cell? ⟨g,5,none⟩=some (.string s)/\W.cell? ⟨g,6,none⟩=some (.int .i64 y) :=
 ⟨cell_of_row W g 0 _ _ _ h,cell_of_row W g 1 _ _ _ h,cell_of_row W g 2 _ _ _ h,cell_of_row W g 3 _ _ _ h,cell_of_row W g 4 _ _ _ h,cell_of_row W g 5 _ _ _ h,cell_of_row W g 6 _ _ _ h⟩
theorem OwnR.set {W:World} {base g:Nat} {v:Value} {m:List MR} {cs:Array Value} {T:TypeId} (h:OwnR W base v m) (hg:W.heap[g]? = some (.cells cs T (0,0))) (hT:T≠130) (i:Nat) (u:Value):OwnR (W.setCell ⟨g,i,none⟩ u) base v m:=by
 obtain⟨hl,h⟩:=h
 refine⟨hl,?_⟩
 rcases h with h|⟨k,cap,cur,hv,hk,hb,rest⟩
 ·exact .inl h
 ·refine .inr ⟨k,cap,cur,hv,hk,?_,rest⟩
  rw[heap_setCell_other W _ k u (by
   rintro rfl
   rw[hg]at hb
   simp at hb
   exact hT hb.2)]
  exact hb
theorem own_one {W:World} {base size n:Nat} {e:TypeId} {v:Value} {xs:List Value} (h:W.ownsRow base e size v n xs):∃ a cap,v=.slice a n cap:=by
 obtain⟨_,h⟩:=h
 rcases h with⟨h,h0⟩|⟨g,cap,cur,hv,_⟩
 ·exact⟨none,0,by rw[h,h0]⟩
 ·exact⟨_,cap,hv⟩
theorem own_drewA {W:World} {base:Nat} {v:Value} {m:List MR} (h:OwnR W base v m) (o:Obj):OwnR (W.drew.alloc o) base v m:=(h.below (show Below W.heap.size W W.drew from (Below.refl _ _).drew)).alloc o
theorem grown_blk {W W':World} {row:Option Nat} {g:Nat} {o:Obj} (h:W.grownBy W' row) (hg:W.heap[g]? = some o) (hr:row≠some g):W'.heap[g]? = some o:=(h.block g (lt_rowK hg) (fun e=>hr e.symm)).trans hg
theorem own_not {W:World} {base g:Nat} {v:Value} {m:List MR} {cs:Array Value} {T:TypeId} (h:OwnR W base v m) (hg:W.heap[g]? = some (.cells cs T (0,0))) (hT:T≠130):v.ownBlock≠some g:=fun e=>by
 obtain⟨cs',hk⟩:=h.rowT g e
 rw[hg]at hk
 simp at hk
 exact hT hk.2
theorem put_end {w w1 w8:World} {o:Obj} {g base:Nat} {x:MR} {e e0 z b:Int} {r s:ByteArray} {y:Int} {v v8:Value} {m:List MR} (hg:w.heap[g]? = some (wkB v e0 z b r s y)) (ho:OwnR w base v m) (hw1:∃ q,w1=w.alloc q) (hbase:base<=w.heap.size)
  (hg8:(w1.drew.alloc o).grownBy w8 v.ownBlock) (ho8:w8.ownsRow base 130 3 v8 (m.length+1) (cellsR m++[.int .i64 x.1.1,.string x.1.2.1,x.2])) :
  w8.heap[g]? = some (wkB v e0 z b r s y)/\∃ v',((w8.setCell ⟨g,0,none⟩ v8).setCell ⟨g,1,none⟩ (.int .i64 e)).heap[g]? = some (wkB v' e z b r s y)/\OwnR ((w8.setCell ⟨g,0,none⟩ v8).setCell ⟨g,1,none⟩ (.int .i64 e)) base v' (m++[x])/\KeepsS w ((w8.setCell ⟨g,0,none⟩ v8).setCell ⟨g,1,none⟩ (.int .i64 e)) /\
    (∀ k o,w.heap[k]? = some o->k≠g->v.ownBlock≠some k->((w8.setCell ⟨g,0,none⟩ v8).setCell ⟨g,1,none⟩ (.int .i64 e)).heap[k]? = some o)/\(∀ B,B<=base->B<=g->Below B w ((w8.setCell ⟨g,0,none⟩ v8).setCell ⟨g,1,none⟩ (.int .i64 e))):=by
 obtain⟨q,rfl⟩:=hw1
 have hT1:(81:Nat)≠130:=by decide
 have hT2:(81:Nat)≠9:=by decide
 have hT3:(130:Nat)≠9:=by decide
 have hne:v.ownBlock≠some g:=own_not ho hg hT1
 have up:∀ k u,w.heap[k]? = some u->((w.alloc q).drew.alloc o).heap[k]? = some u:=fun k u h=>blk_alloc (W:=(w.alloc q).drew) (blk_alloc h q) o
 have h8:w8.heap[g]? = some (wkB v e0 z b r s y):=grown_blk hg8 (up g _ hg) hne
 have o8:OwnR w8 base v8 (m++[x]):=OwnR.snoc ho8
 have h80:=wk_set0 h8 v8
 have hbl:Below w.heap.size w ((w.alloc q).drew.alloc o):=(((Below.refl _ w).alloc (Nat.le_refl _) q).drew).alloc (by simp) o
 refine⟨h8,v8,wk_set1 h80 e,(o8.set h8 hT1 0 v8).set h80 hT1 1 _,?_,?_,?_⟩
 ·refine((KeepsS.below hbl).trans (KeepsS.grown hg8 ?_)).trans ((KeepsS.set h8 hT2 0 v8).trans (KeepsS.set h80 hT2 1 _))
  intro k hk
  obtain⟨cs,hc⟩:=ho.rowT k hk
  exact⟨cs,_,up k _ hc,hT3⟩
 ·intro k u hk hkg hkv
  rw[heap_setCell_other _ _ k _ (by exact hkg),heap_setCell_other _ _ k _ (by exact hkg)]
  exact grown_blk hg8 (up k _ hk) hkv
 ·intro B hB hBg
  have hBs:B<=w.heap.size:=by have:=lt_rowK hg;omega
  refine((((((Below.refl B w).alloc hBs q).drew).alloc (by simp;omega) o).grown hg8 (by simp;omega) ?_).setCell (p:=⟨g,0,none⟩) hBg v8).setCell (p:=⟨g,1,none⟩) hBg _
  intro k hk
  exact Nat.le_trans hB (World.ownsRow.lt ho k hk).1
theorem put_any (g base n:Nat) (x:MR) (e e0 z b:Int) (r s:ByteArray) (y:Int) (v:Value) (m:List MR) (w:World) (hg:w.heap[g]? = some (wkB v e0 z b r s y)) (ho:OwnR w base v m) (hbase:base<=w.heap.size) (hn:m.length=n) (hm:n<=1048576) (hx:∃ a n cap,x.2=.slice a n cap) :
  Calls Tryz.prog 87 #[.pointer (some ⟨g,0,none⟩),.agg #[.int .i64 x.1.1,.string x.1.2.1,x.2],.int .i64 e] w fun q w' =>
   q=.returned (.tuple #[])/\∃ v',w'.heap[g]? = some (wkB v' e z b r s y)/\OwnR w' base v' (m++[x])/\KeepsS w w' /\
    (∀ k o,w.heap[k]? = some o->k≠g->v.ownBlock≠some k->w'.heap[k]? = some o)/\(∀ B,B<=base->B<=g->Below B w w'):=by
 obtain⟨i0,hi,hz0,hz1,hz2⟩:=info_parts Tryz.infoRecord
 have HEND:=hideK (fun w1 w8 o v8=>put_end (w:=w) (w1:=w1) (w8:=w8) (o:=o) (x:=x) (e:=e) (v8:=v8) hg ho)
 obtain⟨⟨xi,xt,xp⟩,xv⟩:=x
 obtain⟨ap,np,cp,hxv⟩:=hx
 dsimp only at hxv HEND ⊢
 subst hxv
 subst hn
 obtain⟨w1,hw1⟩:∃ w1,w1=w.alloc (.cells #[.int .i64 xi,.string xt,.slice ap np cp] 130):=⟨_,rfl⟩
 have HX1:Hid (w1.heap[w.heap.size]? = some (.cells #[.int .i64 xi,.string xt,.slice ap np cp] 130 (0,0))):=by rw[hw1];exact heap_alloc_new w _
 have B1:Hid (Below w.heap.size w w1):=by rw[hw1];exact(Below.refl _ _).alloc (Nat.le_refl _) _
 have G1:Hid (w1.heap[g]? = some (wkB v e0 z b r s y)):=by rw[hw1];exact blk_alloc hg _
 have O1:Hid (OwnR w1 base v m):=by rw[hw1];exact ho.alloc _
 have HW1:Hid (∃ q,w1=w.alloc q):=⟨_,hw1⟩
 have OD:=hideK (own_drewA O1.out (.cells #[.int .i64 xi,.string xt,.slice ap np cp] 130))
 have hz1':base<=w1.heap.size:=Nat.le_trans hbase B1.out.size
 clear hg ho
 obtain⟨a,cap,hv⟩:=O1.out.one
 obtain⟨x0,x1,x2⟩:=cells3 HX1.out
 obtain⟨k0,k1,_⟩:=wk_cells G1.out
 have hfz:=fun o=>frozen_of_row w1 g o _ _ G1.out
 go_enter Tryz.func87,Tryz.ntmps87
 go_upto_region 1 with fail
 rw[<-hw1]
 clear hw1
 generalize hml:m.length=n at hv OD HEND hm ⊢
 subst hv
 have ODD:Hid (((w1.alloc (.cells #[.int .i64 xi,.string xt,.slice ap np cp] 130)).drew).ownsRow base 130 3 (.slice a n cap) n (cellsR m)):=by
  have:=OD.out
  unfold OwnR at this
  rw[hml]at this
  exact this
 have cA:(w1.alloc (.cells #[.int .i64 xi,.string xt,.slice ap np cp] 130)).cell? ⟨g,0,none⟩=some (.slice a n cap):=(wk_cells (blk_alloc G1.out _)).1
 go_region_law (refine step_append_own rfl (.tmp 10) (.tmp 12) 77 rfl base 130 i0 _ 3 48 Tryz.underlying77 hi hz0 hz1 hz2 rfl (by decide) (.slice a n cap) n _ rfl ODD.out ⟨w1.heap.size,0,none⟩ 1 1 [.int .i64 xi,.string xt,.slice ap np cp] rfl rfl (three_new w1.drew _ _ _ _) (three_one rfl rfl rfl) (by unfold maxLen;omega) (by omega) (by simp;omega) ?_;intro v8 w8 ho8 hg8;obtain⟨a8,c8,hv8⟩:=own_one ho8;subst hv8;obtain⟨G8,HE8⟩:=HEND.out w1 w8 _ _ HW1.out hbase hg8 ho8;have E8:=hideK HE8;clear ho8 hg8 HE8;obtain⟨d0,d1,_⟩:=wk_cells G8;have hf8:=fun o=>frozen_of_row w8 g o _ _ G8)
 all_goals (try go_wp2_with fail)
 all_goals (
  refine bodyPost_end (v:=.tuple #[]) (by simp[results,Tryz.results87,go_sem]) rfl ⟨rfl,?_⟩
  exact E8.out)
end Go.Proofs.YtikiihjabbmkcaaGreatDoor.Kp


namespace Go.Proofs.YtikiihjabbmkcaaGreatDoor.Kp
open Go.RowKit
open Ls (HH hh_keep cells3 lV)
open St (Strs)
theorem set7 {W:World} {g:Nat} {x0 x1 x2 x3 x4 x5 x6:Value} {T:TypeId} (h:W.heap[g]? = some (.cells #[x0,x1,x2,x3,x4,x5,x6] T (0,0))) (a0 a1 a2 a3 a4 a5 a6:Value) :
  (((((((W.setCell ⟨g,0,none⟩ a0).setCell ⟨g,1,none⟩ a1).setCell ⟨g,2,none⟩ a2).setCell ⟨g,3,none⟩ a3).setCell ⟨g,4,none⟩ a4).setCell ⟨g,5,none⟩ a5).setCell ⟨g,6,none⟩ a6).heap[g]? = some (.cells #[a0,a1,a2,a3,a4,a5,a6] T (0,0)):=by
 have h0:(W.setCell ⟨g,0,none⟩ a0).heap[g]? = some (.cells #[a0,x1,x2,x3,x4,x5,x6] T (0,0)):=by rw[heap_setCell_same W g 0 _ T a0 h];rfl
 have h1:=heap_setCell_same _ g 1 _ T a1 h0
 have h2:=heap_setCell_same _ g 2 _ T a2 h1
 have h3:=heap_setCell_same _ g 3 _ T a3 h2
 have h4:=heap_setCell_same _ g 4 _ T a4 h3
 have h5:=heap_setCell_same _ g 5 _ T a5 h4
 have h6:=heap_setCell_same _ g 6 _ T a6 h5
 exact h6
theorem set7_keep {W:World} {g k:Nat} {o:Obj} (h:W.heap[k]? = some o) (hk:k≠g) (a0 a1 a2 a3 a4 a5 a6:Value) :
  (((((((W.setCell ⟨g,0,none⟩ a0).setCell ⟨g,1,none⟩ a1).setCell ⟨g,2,none⟩ a2).setCell ⟨g,3,none⟩ a3).setCell ⟨g,4,none⟩ a4).setCell ⟨g,5,none⟩ a5).setCell ⟨g,6,none⟩ a6).heap[k]? = some o:=by
 rw[heap_setCell_other _ _ k _ (by exact hk),heap_setCell_other _ _ k _ (by exact hk),heap_setCell_other _ _ k _ (by exact hk),heap_setCell_other _ _ k _ (by exact hk),heap_setCell_other _ _ k _ (by exact hk),heap_setCell_other _ _ k _ (by exact hk),heap_setCell_other _ _ k _ (by exact hk)]
 exact h
theorem set7_low {w0 W:World} {g:Nat} (h:Below w0.heap.size w0 W) (hg:w0.heap.size<=g) (a0 a1 a2 a3 a4 a5 a6:Value) :
  Below w0.heap.size w0 (((((((W.setCell ⟨g,0,none⟩ a0).setCell ⟨g,1,none⟩ a1).setCell ⟨g,2,none⟩ a2).setCell ⟨g,3,none⟩ a3).setCell ⟨g,4,none⟩ a4).setCell ⟨g,5,none⟩ a5).setCell ⟨g,6,none⟩ a6) :=
 ((((((h.setCell (p:=⟨g,0,none⟩) hg a0).setCell (p:=⟨g,1,none⟩) hg a1).setCell (p:=⟨g,2,none⟩) hg a2).setCell (p:=⟨g,3,none⟩) hg a3).setCell (p:=⟨g,4,none⟩) hg a4).setCell (p:=⟨g,5,none⟩) hg a5).setCell (p:=⟨g,6,none⟩) hg a6
theorem cells7 {W:World} {g:Nat} {x0 x1 x2 x3 x4 x5 x6:Value} {T:TypeId} (h:W.heap[g]? = some (.cells #[x0,x1,x2,x3,x4,x5,x6] T (0,0))):W.cell? ⟨g,0,none⟩=some x0/\W.cell? ⟨g,1,none⟩=some x1/\W.cell? ⟨g,2,none⟩=some x2/\W.cell? ⟨g,3,none⟩=some x3/\W.cell? ⟨g,4,none⟩=some x4/\W.cell? ⟨g,5,none⟩=some x5/\W.cell? ⟨g,6,none⟩=some x6 :=
 ⟨cell_of_row W g 0 _ _ _ h,cell_of_row W g 1 _ _ _ h,cell_of_row W g 2 _ _ _ h,cell_of_row W g 3 _ _ _ h,cell_of_row W g 4 _ _ _ h,cell_of_row W g 5 _ _ _ h,cell_of_row W g 6 _ _ _ h⟩
theorem OwnR.others {W W':World} {base g:Nat} {v:Value} {m:List MR} {cs:Array Value} {T:TypeId} (h:OwnR W base v m) (hg:W.heap[g]? = some (.cells cs T (0,0))) (hT:T≠130) (hk:∀ k o,W.heap[k]? = some o->k≠g->W'.heap[k]? = some o):OwnR W' base v m:=by
 obtain⟨hl,h⟩:=h
 refine⟨hl,?_⟩
 rcases h with h|⟨k,cap,cur,hv,hkb,hb,rest⟩
 ·exact .inl h
 ·exact .inr ⟨k,cap,cur,hv,hkb,hk k _ hb (ty_ne hb hg (fun e=>hT e.symm)),rest⟩
theorem KeepsS.others {W W':World} {g:Nat} {cs:Array Value} {T:TypeId} (hg:W.heap[g]? = some (.cells cs T (0,0))) (hT:T≠9) (hk:∀ k o,W.heap[k]? = some o->k≠g->W'.heap[k]? = some o):KeepsS W W' :=
 fun k _ e=>hk k _ e (ty_ne e hg (fun e=>hT e.symm))
def OpenOut (fit:Rec->Bool) (z b:Int) (r s:ByteArray) (y:Int) (base:Nat) (e:Ending) (w':World):Prop :=
 ∃ v m,e=.returned (.agg #[v,.int .i64 (allR fit s).2,.int .i64 z,.int .i64 b,.string r,.string s,.int .i64 y])/\recs m=(allR fit s).1/\OwnR w' base v m/\Paths w' m
structure Far (fit:Rec->Bool) (z b:Int) (r s:ByteArray) (y:Int) (gk gr gw:Nat) (w wr:World) (v:Value) (m:List MR) (e:Nat):Prop where
 cx:Cx w wr [(gw,wkB v e z b r s y),(gr,.cells #[.slice none 0 0,.int .i64 0,.int .i64 0,.int .i64 0,.string ⟨#[]⟩,.string ⟨#[]⟩,.int .i64 0] 81),(gk,kB z b r s y)]
 all:goR fit s (s.size-e) (recs m) e=allR fit s
 row:OwnR wr w.heap.size v m
 ps:Paths wr m
 ml:m.length<=e
 el:e<=s.size
theorem Far.call {fit:Rec->Bool} {z b:Int} {r s:ByteArray} {y:Int} {gk gr gw:Nat} {w wr w':World} {v:Value} {m:List MR} {e:Nat} (h:Far fit z b r s y gk gr gw w wr v m e) (hb:Below wr.heap.size wr w'):Far fit z b r s y gk gr gw w w' v m e :=
 ⟨h.cx.call hb,h.all,h.row.below hb,h.ps.keeps (KeepsS.below hb),h.ml,h.el⟩
theorem Far.new {fit:Rec->Bool} {z b:Int} {r s:ByteArray} {y:Int} {gk gr gw:Nat} {w wr:World} {v:Value} {m:List MR} {e:Nat} (h:Far fit z b r s y gk gr gw w wr v m e) (o:Obj):Far fit z b r s y gk gr gw w (wr.alloc o) v m e:=h.call ((Below.refl _ _).alloc (Nat.le_refl _) o)
theorem Paths.slices {W:World} {m:List MR} (h:Paths W m):∀ x∈m,∃ a n cap,x.2=.slice a n cap:=fun x hx=>by
 obtain⟨a,cap,hv,_⟩:=(h x hx).strs
 exact⟨a,_,cap,hv⟩
theorem Far.put {fit:Rec->Bool} {z b:Int} {r s:ByteArray} {y:Int} {gk gr gw:Nat} {w wr w':World} {v v':Value} {m:List MR} {e:Nat} {x:Rec × Nat} {xv:Value} (h:Far fit z b r s y gk gr gw w wr v m e) (hx:recR s e=some x) (hf:fit x.1=true) (hh:hasR (recs m) x.1.1=false)
  (hgk:w.heap.size<=gw) (hne1:gr≠gw) (hne2:gk≠gw) (hp:PathIn wr xv x.1.2.2)
  (h1:w'.heap[gw]? = some (wkB v' x.2 z b r s y)) (h2:OwnR w' w.heap.size v' (m++[(x.1,xv)])) (h3:KeepsS wr w') (h4:∀ k o,wr.heap[k]? = some o->k≠gw->v.ownBlock≠some k->w'.heap[k]? = some o) (h5:∀ B,B<=w.heap.size->B<=gw->Below B wr w'):Far fit z b r s y gk gr gw w w' v' (m++[(x.1,xv)]) x.2:=by
 have hfx:=recR_facts hx
 refine⟨⟨h.cx.low.trans (h5 _ (Nat.le_refl _) hgk),?_⟩,?_,h2,?_,?_,hfx.2.1⟩
 ·intro q hq
  rcases List.mem_cons.1 hq with rfl|hq
  ·exact h1
  ·rcases List.mem_cons.1 hq with rfl|hq
   ·exact h4 _ _ (h.cx.get 1 rfl) hne1 (own_not h.row (h.cx.get 1 rfl) (by decide))
   ·rw[List.mem_singleton.1 hq]
    exact h4 _ _ (h.cx.get 2 rfl) hne2 (own_not h.row (h.cx.get 2 rfl) (by decide))
 ·rw[<-h.all,goR_step hx hf hh]
  unfold recs
  rw[List.map_append]
  rfl
 ·intro q hq
  rcases List.mem_append.1 hq with hq|hq
  ·exact(h.ps q hq).keeps h3
  ·rw[List.mem_singleton.1 hq]
   exact hp.keeps h3
 ·rw[List.length_append]
  have:=h.ml
  simp
  omega
theorem Far.done {fit:Rec->Bool} {z b:Int} {r s:ByteArray} {y:Int} {gk gr gw:Nat} {w wr:World} {v:Value} {m:List MR} {e:Nat} (h:Far fit z b r s y gk gr gw w wr v m e) (hd:goR fit s (s.size-e) (recs m) e=(recs m,e)) (hg:w.heap.size<=gr) (a0 a1 a2 a3 a4 a5 a6:Value) (h0:a0=v) (h1:a1=.int .i64 e) (h2:a2=.int .i64 z) (h3:a3=.int .i64 b) (h4:a4=.string r) (h5:a5=.string s) (h6:a6=.int .i64 y) :
  OpenOut fit z b r s y w.heap.size (.returned (.agg #[a0,a1,a2,a3,a4,a5,a6])) (((((((wr.setCell ⟨gr,0,none⟩ a0).setCell ⟨gr,1,none⟩ a1).setCell ⟨gr,2,none⟩ a2).setCell ⟨gr,3,none⟩ a3).setCell ⟨gr,4,none⟩ a4).setCell ⟨gr,5,none⟩ a5).setCell ⟨gr,6,none⟩ a6) /\
  Below w.heap.size w (((((((wr.setCell ⟨gr,0,none⟩ a0).setCell ⟨gr,1,none⟩ a1).setCell ⟨gr,2,none⟩ a2).setCell ⟨gr,3,none⟩ a3).setCell ⟨gr,4,none⟩ a4).setCell ⟨gr,5,none⟩ a5).setCell ⟨gr,6,none⟩ a6):=by
 subst h0 h1 h2 h3 h4 h5 h6
 have hall:allR fit s=(recs m,e):=by rw[<-h.all,hd]
 have hk:∀ k o,wr.heap[k]? = some o->k≠gr->_:=fun k o hk hne=>set7_keep (g:=gr) hk hne a0 (.int .i64 e) (.int .i64 z) (.int .i64 b) (.string r) (.string s) (.int .i64 y)
 refine⟨⟨a0,m,by rw[hall],by rw[hall],h.row.others (h.cx.get 1 rfl) (by decide) hk,h.ps.keeps (KeepsS.others (h.cx.get 1 rfl) (by decide) hk)⟩,set7_low h.cx.low hg _ _ _ _ _ _ _⟩
def endAt (W:World) (g:Nat):Nat:=match W.cell? ⟨g,1,none⟩ with
 |some (.int _ n)=>n.toNat
 |_=>0
theorem endAt_eq {W:World} {g:Nat} {v:Value} {e:Nat} {z b:Int} {r s:ByteArray} {y:Int} (h:W.heap[g]? = some (wkB v e z b r s y)):endAt W g=e:=by
 unfold endAt
 rw[(wk_cells h).2.1]
 rfl
theorem openKeep_any (fit:Rec->Bool) (z b:Int) (r s:ByteArray) (y:Int) (w:World) (hs:s.size<=1048576) (hh:HH w)
  (hf:∀ (W:World) (x:MR),Below w.heap.size w W->x.1.2.1.size<=8000->x.1.2.2.length<=400->(∃ a cap,x.2=.slice a x.1.2.2.length cap/\x.1.2.2.length<=cap/\Strs W W.heap.size a x.1.2.2)->Calls Tryz.prog 85 #[.agg #[.int .i64 x.1.1,.string x.1.2.1,x.2],lV z b r] W fun e w'=>e=.returned (.bool (fit x.1))/\Below W.heap.size W w') :
  Calls Tryz.prog 45 #[kV z b r s y] w fun e w'=>OpenOut fit z b r s y w.heap.size e w'/\Below w.heap.size w w':=by
 have HHW:Hid (∀ W,Below w.heap.size w W->HH W):=fun W h=>hh_keep hh h
 have HF:=hideK hf
 have C0:=hideK ((((Cx.nil w).new (kB z b r s y)).new (.cells #[.slice none 0 0,.int .i64 0,.int .i64 0,.int .i64 0,.string ⟨#[]⟩,.string ⟨#[]⟩,.int .i64 0] 81)).new (wkB (.slice none 0 0) 0 z b r s y))
 simp only[World.size_alloc]at C0
 unfold kB wkB at C0
 unfold kV
 clear hh hf
 go_enter Tryz.func45,Tryz.ntmps45
 go_wp2_with fail
 generalize ((w.alloc (.cells #[.int .i64 z,.int .i64 b,.string r,.string s,.int .i64 y] 31)).alloc (.cells #[.slice none 0 0,.int .i64 0,.int .i64 0,.int .i64 0,.string ⟨#[]⟩,.string ⟨#[]⟩,.int .i64 0] 81)).alloc (.cells #[.slice none 0 0,.int .i64 0,.int .i64 z,.int .i64 b,.string r,.string s,.int .i64 y] 81)=W0 at C0 ⊢
 obtain⟨gk,hgk⟩:∃ gk,gk=w.heap.size:=⟨_,rfl⟩
 have F0:Hid (Far fit z b r s y gk (gk+1) (gk+1+1) w W0 (.slice none 0 0) [] 0):=⟨by rw[hgk];exact C0.out,rfl,OwnR.nil _ _,fun x hx=>absurd hx List.not_mem_nil,Nat.zero_le _,Nat.zero_le _⟩
 have HGK:=hideK hgk
 rw[<-hgk]
 clear C0 hgk
 go_loopw [4,5,6] (fun _ _ _ wr=>∃ v m e,Far fit z b r s y gk (gk+1) (gk+1+1) w wr v m e) (fun _ _ _ wr=>s.size-(endAt wr (gk+1+1)))
 case atStart=>exact⟨_,_,_,F0.out⟩
 case round =>
  obtain⟨v,m,e,hfar⟩:=hrel
  have F:=hideK hfar
  clear hfar F0
  obtain⟨a0,cap0,hv⟩:=F.out.row.one
  subst hv
  obtain⟨k0,k1,k2,k3,k4,k5,k6⟩:=wk_cells (F.out.cx.get 0 rfl)
  obtain⟨r0,r1,r2,r3,r4,r5,r6⟩:=cells7 (F.out.cx.get 1 rfl)
  obtain⟨l0,l1,l2,l3,l4⟩:=k_cells (F.out.cx.get 2 rfl)
  have fr:=fun o=>frozen_of_row wr (gk+1) o _ _ (F.out.cx.get 1 rfl)
  have HEA:Hid (endAt wr (gk+1+1)=e):=endAt_eq (F.out.cx.get 0 rfl)
  by_cases hlt:e<s.size
  ·have hlt':(e:Int)<(s.size:Int):=by omega
   have HRR:=hideK (readRecord_any s e wr hs (HHW.out _ F.out.cx.low))
   go_wp2_with fail
   refine HRR.out.mono ?_
   rintro e' w1 ⟨hro,hb⟩
   have F1:=hideK (F.out.call hb)
   clear hb HRR k0 k1 k2 k3 k4 k5 k6 r0 r1 r2 r3 r4 r5 r6 l0 l1 l2 l3 l4 fr
   rcases hro with⟨x,xv,hx,rfl,hp⟩|⟨hx,n,rfl⟩
   ·obtain⟨ap,cp,rfl,_,_⟩:=hp.strs
    have hfx:=recR_facts hx
    have HX:=hideK hx
    have F2:=hideK (F1.out.new (.cells #[.int .i64 x.1.1,.string x.1.2.1,.slice ap x.1.2.2.length cp] 130))
    have P2:=hideK (hp.keeps (KeepsS.below ((Below.refl _ w1).alloc (Nat.le_refl _) (.cells #[.int .i64 x.1.1,.string x.1.2.1,.slice ap x.1.2.2.length cp] 130))))
    have X2:Hid ((w1.alloc (.cells #[.int .i64 x.1.1,.string x.1.2.1,.slice ap x.1.2.2.length cp] 130)).heap[w1.heap.size]? = some (.cells #[.int .i64 x.1.1,.string x.1.2.1,.slice ap x.1.2.2.length cp] 130 (0,0))):=heap_alloc_new w1 _
    clear hp hx F1 F
    obtain⟨⟨xi,xt,xp⟩,xe⟩:=x
    dsimp only at F2 P2 X2 HX hfx ⊢
    go_upto_region 4 with fail
    generalize w1.alloc (.cells #[.int .i64 xi,.string xt,.slice ap xp.length cp] 130)=W2 at F2 P2 X2 ⊢
    generalize w1.heap.size=gx at X2 ⊢
    obtain⟨x0,x1,x2⟩:=cells3 X2.out
    obtain⟨l0,l1,l2,l3,l4⟩:=k_cells (F2.out.cx.get 2 rfl)
    have HFX:=hideK (HF.out W2 ((xi,xt,xp),.slice ap xp.length cp) F2.out.cx.low hfx.2.2.2.2 (Nat.le_trans hfx.2.2.2.1 (by decide)) P2.out.strs)
    unfold lV at HFX
    dsimp only at HFX
    cases hfit:fit (xi,xt,xp) with
    |false =>
     rw[hfit]at HFX
     have HBD:Hid (goR fit s (s.size-e) (recs m) e=(recs m,e)):=goR_bad HX.out (fun h=>by have:=h.1;rw[hfit]at this;cases this)
     clear hfit
     go_wp2_with fail
     refine HFX.out.mono ?_
     rintro e3 w3 ⟨rfl,hb⟩
     have F3:=hideK (F2.out.call hb)
     clear hb F2 HFX x0 x1 x2 l0 l1 l2 l3 l4
     obtain⟨k0,k1,k2,k3,k4,k5,k6⟩:=wk_cells (F3.out.cx.get 0 rfl)
     obtain⟨r0,r1,r2,r3,r4,r5,r6⟩:=cells7 (F3.out.cx.get 1 rfl)
     have fr:=fun o=>frozen_of_row w3 (gk+1) o _ _ (F3.out.cx.get 1 rfl)
     have s7:=cells7 (set7 (F3.out.cx.get 1 rfl) (.slice a0 m.length cap0) (.int .i64 e) (.int .i64 z) (.int .i64 b) (.string r) (.string s) (.int .i64 y))
     have HD:=hideK (F3.out.done (HBD.out) (by have:=HGK.out;omega) _ _ _ _ _ _ _ rfl rfl rfl rfl rfl rfl rfl)
     go_wp2_with fail
     exact bodyPost_ret (v:=.agg #[.slice a0 m.length cap0,.int .i64 e,.int .i64 z,.int .i64 b,.string r,.string s,.int .i64 y]) (by simp[results,Tryz.results45,go_sem,s7.1,s7.2.1,s7.2.2.1,s7.2.2.2.1,s7.2.2.2.2.1,s7.2.2.2.2.2.1,s7.2.2.2.2.2.2]) rfl HD.out
    |true =>
     rw[hfit]at HFX
     go_wp2_with fail
     refine HFX.out.mono ?_
     rintro e3 w3 ⟨rfl,hb⟩
     have F3:=hideK (F2.out.call hb)
     have P3:=hideK (P2.out.keeps (KeepsS.below hb))
     have X3:=hideK (Ls.blkL X2.out hb)
     clear hb F2 HFX x0 x1 x2 l0 l1 l2 l3 l4 P2 X2
     obtain⟨x0,x1,x2⟩:=cells3 X3.out
     have HHS:=hideK (has_any (gk+1+1) w.heap.size m.length xi _ m w3 (wk_cells (F3.out.cx.get 0 rfl)).1 (lt_rowK (F3.out.cx.get 0 rfl)) F3.out.row F3.out.ps.slices rfl (by have:=F3.out.ml;have:=F3.out.el;omega))
     cases hhas:hasR (recs m) xi with
     |true =>
      rw[hhas]at HHS
      have HBD:Hid (goR fit s (s.size-e) (recs m) e=(recs m,e)):=goR_bad HX.out (fun h=>by have:=h.2;rw[hhas]at this;cases this)
      clear hhas hfit
      go_wp2_with fail
      refine HHS.out.mono ?_
      rintro e4 w4 ⟨rfl,hb⟩
      have F4:=hideK (F3.out.call hb)
      clear hb F3 HHS x0 x1 x2
      obtain⟨k0,k1,k2,k3,k4,k5,k6⟩:=wk_cells (F4.out.cx.get 0 rfl)
      obtain⟨r0,r1,r2,r3,r4,r5,r6⟩:=cells7 (F4.out.cx.get 1 rfl)
      have fr:=fun o=>frozen_of_row w4 (gk+1) o _ _ (F4.out.cx.get 1 rfl)
      have s7:=cells7 (set7 (F4.out.cx.get 1 rfl) (.slice a0 m.length cap0) (.int .i64 e) (.int .i64 z) (.int .i64 b) (.string r) (.string s) (.int .i64 y))
      have HD:=hideK (F4.out.done (HBD.out) (by have:=HGK.out;omega) _ _ _ _ _ _ _ rfl rfl rfl rfl rfl rfl rfl)
      go_wp2_with fail
      exact bodyPost_ret (v:=.agg #[.slice a0 m.length cap0,.int .i64 e,.int .i64 z,.int .i64 b,.string r,.string s,.int .i64 y]) (by simp[results,Tryz.results45,go_sem,s7.1,s7.2.1,s7.2.2.1,s7.2.2.2.1,s7.2.2.2.2.1,s7.2.2.2.2.2.1,s7.2.2.2.2.2.2]) rfl HD.out
     |false =>
      rw[hhas]at HHS
      have FP:=hideK (fun (wa wb:World) (va:Value) (F:Far fit z b r s y gk (gk+1) (gk+1+1) w wa (.slice a0 m.length cap0) m e)=>F.put (w':=wb) (v':=va) (x:=((xi,xt,xp),xe)) (xv:=.slice ap xp.length cp) HX.out hfit hhas (by have:=HGK.out;omega) (by omega) (by omega))
      clear hhas hfit
      go_wp2_with fail
      refine HHS.out.mono ?_
      rintro e4 w4 ⟨rfl,hb⟩
      have F4:=hideK (F3.out.call hb)
      have P4:=hideK (P3.out.keeps (KeepsS.below hb))
      have X4:=hideK (Ls.blkL X3.out hb)
      clear hb F3 HHS x0 x1 x2 P3 X3
      obtain⟨x0,x1,x2⟩:=cells3 X4.out
      have HPU:=hideK (put_any (gk+1+1) w.heap.size m.length ((xi,xt,xp),.slice ap xp.length cp) xe e z b r s y _ m w4 (F4.out.cx.get 0 rfl) F4.out.row F4.out.cx.low.size rfl (by have:=F4.out.ml;have:=F4.out.el;omega) ⟨_,_,_,rfl⟩)
      dsimp only at HPU
      go_wp2_with fail
      refine HPU.out.mono ?_
      rintro e5 w5 ⟨rfl,v',h1,h2,h3,h4,h5⟩
      have F5:=hideK (FP.out w4 w5 v' F4.out P4.out h1 h2 h3 h4 h5)
      clear h1 h2 h3 h4 h5 HPU F4 P4 X4 FP x0 x1 x2
      have HE5:Hid (endAt w5 (gk+1+1)=xe):=endAt_eq (F5.out.cx.get 0 rfl)
      go_wp2_with fail
      go_roundw
      case rel=>exact⟨_,_,_,F5.out⟩
      case measure=>rw[HE5.out,HEA.out];omega
   ·have HBD:Hid (goR fit s (s.size-e) (recs m) e=(recs m,e)):=goR_none hx
    have F2:=hideK (F1.out.new (.cells #[.int .i64 0,.string ⟨#[]⟩,.slice none 0 0] 130))
    clear hx F1 F
    go_upto_region 4 with fail
    generalize w1.alloc (.cells #[.int .i64 0,.string ⟨#[]⟩,.slice none 0 0] 130)=W2 at F2 ⊢
    obtain⟨k0,k1,k2,k3,k4,k5,k6⟩:=wk_cells (F2.out.cx.get 0 rfl)
    obtain⟨r0,r1,r2,r3,r4,r5,r6⟩:=cells7 (F2.out.cx.get 1 rfl)
    have fr:=fun o=>frozen_of_row W2 (gk+1) o _ _ (F2.out.cx.get 1 rfl)
    have s7:=cells7 (set7 (F2.out.cx.get 1 rfl) (.slice a0 m.length cap0) (.int .i64 e) (.int .i64 z) (.int .i64 b) (.string r) (.string s) (.int .i64 y))
    have HD:=hideK (F2.out.done (HBD.out) (by have:=HGK.out;omega) _ _ _ _ _ _ _ rfl rfl rfl rfl rfl rfl rfl)
    go_wp2_with fail
    exact bodyPost_ret (v:=.agg #[.slice a0 m.length cap0,.int .i64 e,.int .i64 z,.int .i64 b,.string r,.string s,.int .i64 y]) (by simp[results,Tryz.results45,go_sem,s7.1,s7.2.1,s7.2.2.1,s7.2.2.2.1,s7.2.2.2.2.1,s7.2.2.2.2.2.1,s7.2.2.2.2.2.2]) rfl HD.out
  ·have hlt':decide ((e:Int)<(s.size:Int))=false:=by simp;omega
   have HBD:Hid (goR fit s (s.size-e) (recs m) e=(recs m,e)):=goR_end (by omega)
   have hlt2:¬((e:Int)<(s.size:Int)):=by omega
   obtain⟨k0,k1,k2,k3,k4,k5,k6⟩:=wk_cells (F.out.cx.get 0 rfl)
   obtain⟨r0,r1,r2,r3,r4,r5,r6⟩:=cells7 (F.out.cx.get 1 rfl)
   have fr:=fun o=>frozen_of_row wr (gk+1) o _ _ (F.out.cx.get 1 rfl)
   have s7:=cells7 (set7 (F.out.cx.get 1 rfl) (.slice a0 m.length cap0) (.int .i64 e) (.int .i64 z) (.int .i64 b) (.string r) (.string s) (.int .i64 y))
   have HD:=hideK (F.out.done (HBD.out) (by have:=HGK.out;omega) _ _ _ _ _ _ _ rfl rfl rfl rfl rfl rfl rfl)
   go_wp2_with fail
   exact bodyPost_ret (v:=.agg #[.slice a0 m.length cap0,.int .i64 e,.int .i64 z,.int .i64 b,.string r,.string s,.int .i64 y]) (by simp[results,Tryz.results45,go_sem,s7.1,s7.2.1,s7.2.2.1,s7.2.2.2.1,s7.2.2.2.2.1,s7.2.2.2.2.2.1,s7.2.2.2.2.2.2]) rfl HD.out
end Go.Proofs.YtikiihjabbmkcaaGreatDoor.Kp

