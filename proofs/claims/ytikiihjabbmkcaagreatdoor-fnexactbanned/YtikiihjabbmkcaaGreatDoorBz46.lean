/- Texts put together: PeIn. -/
import Derived.Test.YtikiihjabbmkcaaGreatDoorBz31
import Derived.Test.YtikiihjabbmkcaaGreatDoorBz22
import Derived.Deep.Slices
import Derived.ChangeSlices
set_option maxRecDepth 100000
set_option maxHeartbeats 8000000
namespace Go.Proofs.YtikiihjabbmkcaaGreatDoor.Pe
open Go.RowKit Go.ChangeShapes Go.WideShapes Go.ChangeAt Go.Deep
open Kp
open In (Ints)
theorem array6 {α:Type} {cs:Array α} (h:cs.size=6):∃ c0 c1 c2 c3 c4 c5,cs=#[c0,c1,c2,c3,c4,c5]:=by
 obtain⟨l⟩:=cs
 match l,h with
 |[c0,c1,c2,c3,c4,c5],_=>exact⟨c0,c1,c2,c3,c4,c5,rfl⟩
theorem list5 {α:Type} {cs:List α} (h:cs.length=5):∃ c0 c1 c2 c3 c4,cs=[c0,c1,c2,c3,c4]:=by
 match cs,h with
 |[c0,c1,c2,c3,c4],_=>exact⟨c0,c1,c2,c3,c4,rfl⟩
theorem cellsPeer:Tryz.prog.cellsOf 38=6:=by kernel_rfl
theorem cellsOther:Tryz.prog.cellsOf 139=5:=by kernel_rfl
theorem cellsIs:Tryz.prog.cellsOf 27=1:=by kernel_rfl
theorem cellsOs:Tryz.prog.cellsOf 36=1:=by kernel_rfl
theorem choose_list {α:Type} {P:Nat->α->Prop}:∀ n,(∀ i,i<n->∃ x,P i x)->∃ m:List α,m.length=n/\∀ i (h:i<m.length),P i m[i]
 |0,_=>⟨[],rfl,fun i h=>absurd h (Nat.not_lt_zero _)⟩
 |n+1,h=>by
  obtain⟨m,hl,hm⟩:=choose_list n (fun i hi=>h i (by omega))
  obtain⟨x,hx⟩:=h n (by omega)
  refine⟨m++[x],by rw[List.length_append,hl];rfl,fun i hi=>?_⟩
  by_cases hin:i<m.length
  ·rw[List.getElem_append_left hin]
   exact hm i hin
  ·rw[List.length_append]at hi
   simp at hi
   obtain rfl:i=m.length:=by omega
   rw[List.getElem_append_right (Nat.le_refl _)]
   simp
   rw[hl]
   exact hx
section
variable {H : Type} {enc : TypeId × Value → H} {W : World} {base : Nat} {sp : Nat → Bool} {held : Bool}
theorem trod_struct5 {t:TypeId} {f0 f1 f2 f3 f4:Field} {fuel:Nat} {cs:List Value} {x:DataW H × List MemPlace} (ht:Tryz.prog.underlying t=some (.struct #[f0,f1,f2,f3,f4])) (h:DataW.trod enc Tryz.prog W base sp held fuel t cs=some x) :
  ∃ y0 y1 y2 y3 y4 n,cs.length=Tryz.prog.cellsOf t/\DataW.trod enc Tryz.prog W base sp held n f0.type ((cs.drop f0.offset).take (Tryz.prog.cellsOf f0.type))=some y0 /\
   DataW.trod enc Tryz.prog W base sp held n f1.type ((cs.drop f1.offset).take (Tryz.prog.cellsOf f1.type))=some y1/\DataW.trod enc Tryz.prog W base sp held n f2.type ((cs.drop f2.offset).take (Tryz.prog.cellsOf f2.type))=some y2 /\
   DataW.trod enc Tryz.prog W base sp held n f3.type ((cs.drop f3.offset).take (Tryz.prog.cellsOf f3.type))=some y3/\DataW.trod enc Tryz.prog W base sp held n f4.type ((cs.drop f4.offset).take (Tryz.prog.cellsOf f4.type))=some y4:=by
 obtain⟨xs,n,_,rfl,hl,hlen,hf⟩:=DataW.trod_struct ht h
 match xs,hlen with
 |[y0,y1,y2,y3,y4],_=>exact⟨y0,y1,y2,y3,y4,n,hl,by simpa using hf 0 f0 rfl,by simpa using hf 1 f1 rfl,by simpa using hf 2 f2 rfl,by simpa using hf 3 f3 rfl,by simpa using hf 4 f4 rfl⟩
theorem open_has {fuel:Nat} {c:Value} {x:DataW H × List MemPlace} (h:DataW.trod enc Tryz.prog W base sp held fuel 27 [c]=some x):∃ (a:Option Addr) (cap:Nat) (l:List Int),c=.slice a l.length cap/\l.length<=cap/\(a=none->cap=0)/\Ints W W.heap.size a l/\l.length<=maxLen:=by
 rcases open_ints Tryz.underlying27 Tryz.underlying2 (by kernel_rfl) h with⟨hcs,_⟩|⟨x,l,c',zs,hcs,_,hl,hm,hz,_,hcell,hwz⟩
 ·simp at hcs
  exact⟨none,0,[],by rw[hcs];rfl,Nat.le_refl _,fun _=>rfl,.inl rfl,by decide⟩
 ·simp at hcs
  have hzl:l<=zs.length:=by rw[hz];split<;>omega
  refine⟨some x,c',zs.take l,(by rw[hcs,List.length_take,Nat.min_eq_left hzl]),(by rw[List.length_take];omega),(fun h=>(by cases h)),?_,(by rw[List.length_take];omega)⟩
  rcases Nat.eq_zero_or_pos l with h0|h0
  ·subst h0
   exact .inl (List.take_zero ..)
  ·obtain⟨b,off,spot⟩:=x
   have hc0:=hcell 0 (by omega)
   have hspot:spot=none:=by simpa [Addr.add] using World.cell?_spot hc0
   subst hspot
   have e:∀ i,(⟨b,off,none⟩:Addr).add i=⟨b,off+i,none⟩:=fun i=>by unfold Addr.add;split<;>simp_all
   have hlt:=World.block_lt_of_cell? W _ hc0
   rw[e 0]at hlt
   refine .inr ⟨b,off,rfl,hlt,fun j hj=>?_⟩
   rw[List.length_take]at hj
   have hj':j<zs.length:=by omega
   rw[<-e j,hcell j hj',List.getElem_take,List.getD_eq_getElem?_getD,List.getElem?_eq_getElem hj']
   rfl
theorem open_other {fuel:Nat} {cs:List Value} {x:DataW H × List MemPlace} (h:DataW.trod enc Tryz.prog W base sp held fuel 139 cs=some x):∃ y:MO,cs=five y/\HasAt W W.heap.size y/\y.1.has.length<=maxLen/\y.1.name.size<=maxLen:=by
 obtain⟨y0,y1,y2,y3,y4,n,hl,h0,h1,h2,h3,h4⟩:=trod_struct5 Tryz.underlying139 h
 obtain⟨c0,c1,c2,c3,c4,rfl⟩:=list5 (hl.trans cellsOther)
 simp only[cellsStr,cellsI64,cellsIs,List.drop_succ_cons,List.drop_zero,List.take_succ_cons,List.take_zero]at h0 h1 h2 h3 h4
 obtain⟨nm,hnm,_,wn⟩:=DataW.trod_string Tryz.underlying9 h0
 obtain⟨a,cap,l,hc1,hlc,hno,hi,hlm⟩:=open_has h1
 obtain⟨q,hq,_,wq⟩:=DataW.trod_int Tryz.underlying2 h2
 obtain⟨g,hg,_,wg⟩:=DataW.trod_int Tryz.underlying2 h3
 obtain⟨t,ht,_,wt⟩:=DataW.trod_int Tryz.underlying2 h4
 simp at hnm hq hg ht
 subst hnm hc1 hq hg ht
 exact⟨(⟨nm,l,q,g,t⟩,.slice a l.length cap),rfl,⟨a,cap,rfl,hlc,hno,hi⟩,hlm,wn⟩
theorem open_oths {fuel:Nat} {c:Value} {x:DataW H × List MemPlace} (h:DataW.trod enc Tryz.prog W base sp held fuel 36 [c]=some x):∃ (a:Option Addr) (n cap:Nat) (m:List MO),c=.slice a n cap/\m.length=n/\n<=maxLen/\Oths W W.heap.size a m/\Lens m:=by
 rcases open_slice Tryz.underlying36 h with⟨hcs,_⟩|⟨a,len,cap,k,n,D,Pl,hcs,_,hl,hm,hk,_,hel⟩
 ·simp at hcs
  exact⟨none,0,0,[],hcs,rfl,by decide,oths_nil _ _ _,fun x hx=>absurd hx List.not_mem_nil⟩
 ·simp at hcs
  have hlk:len<=k:=by rw[hk];split<;>omega
  obtain⟨b0,off0,spot⟩:=a
  have hspot:0<len->spot=none:=fun h0=>by
   obtain⟨cs',hc,ht⟩:=hel 0 (by omega)
   obtain⟨y,hy,_⟩:=open_other ht
   rw[cellsOther,hy]at hc
   have q0:W.cell? (((⟨b0,off0,spot⟩:Addr).add (0*5)).add 0)=some (.string y.1.name):=(World.cells?_some hc).2.2 0 (by decide)
   simpa [Addr.add] using World.cell?_spot q0
  obtain⟨m,hml,hmp⟩:=choose_list (P:=fun i (y:MO)=>(∃ b off,(⟨b0,off0,spot⟩:Addr)=⟨b,off,none⟩/\b<W.heap.size/\FiveAt W b (off+i*5) y)/\HasAt W W.heap.size y/\y.1.has.length<=maxLen/\y.1.name.size<=maxLen) len (fun i hi=>by
   obtain⟨cs',hc,ht⟩:=hel i (by omega)
   obtain⟨y,hy,h1,h2,h3⟩:=open_other ht
   refine⟨y,?_,h1,h2,h3⟩
   rw[cellsOther,hy]at hc
   have hcc:=(World.cells?_some hc).2.2
   have q0:=hcc 0 (by decide)
   have q1:=hcc 1 (by decide)
   have q2:=hcc 2 (by decide)
   have q3:=hcc 3 (by decide)
   have q4:=hcc 4 (by decide)
   obtain rfl:=hspot (by omega)
   have e:∀ i j,((⟨b0,off0,none⟩:Addr).add i).add j=⟨b0,off0+i+j,none⟩:=fun i j=>by rw[Addr.add_lit,Addr.add_lit]
   rw[e]at q0 q1 q2 q3 q4
   simp[five]at q0 q1 q2 q3 q4
   exact⟨b0,off0,rfl,World.block_lt_of_cell? W _ q0,q0,q1,q2,q3,q4⟩)
  refine⟨some ⟨b0,off0,spot⟩,len,cap,m,hcs,hml,by omega,⟨?_,fun y hy=>?_⟩,fun y hy=>?_⟩
  ·rcases Nat.eq_zero_or_pos len with h0|h0
   ·exact .inl (List.eq_nil_of_length_eq_zero (by omega))
   ·obtain⟨⟨b,off,he0,hb,_⟩,_⟩:=hmp 0 (by omega)
    simp at he0
    obtain⟨rfl,rfl,rfl⟩:=he0
    refine .inr ⟨b0,off0,rfl,hb,fun j hj=>?_⟩
    obtain⟨⟨b',off',he,_,hf⟩,_⟩:=hmp j hj
    simp at he
    obtain⟨rfl,rfl⟩:=he
    exact hf
  ·obtain⟨j,hj,rfl⟩:=List.getElem_of_mem hy
   exact(hmp j hj).2.1
  ·obtain⟨j,hj,rfl⟩:=List.getElem_of_mem hy
   exact(hmp j hj).2.2
theorem open_peer {rc:Reach} {b0:Nat} {v:Value} {d:DataW H} {p:List MemPlace}
  (hv:Value.okWide Tryz.prog W rc b0 38 v) (h:DataW.Trod enc Tryz.prog W base sp held 38 v d p) :
  ∃ (z b:Int) (r s:ByteArray) (y:Int) (a:Option Addr) (n cap:Nat) (m:List MO),v=lpV z b r s y (.slice a n cap)/\r.size<=maxLen/\s.size<=maxLen/\m.length=n/\n<=maxLen/\Oths W W.heap.size a m/\Lens m:=by
 obtain⟨cs,rfl,hsz⟩:=okWide_struct Tryz.underlying38 hv
 obtain⟨c0,c1,c2,c3,c4,c5,rfl⟩:=array6 (hsz.trans cellsPeer)
 obtain⟨fuel,hf⟩:=h
 obtain⟨y0,y1,n,_,_,hk,ho⟩:=trod_struct2 Tryz.underlying38 hf
 simp only[cellsKeep,cellsOs,Value.cells,List.drop_succ_cons,List.drop_zero,List.take_succ_cons,List.take_zero]at hk ho
 obtain⟨y2,y3,y4,n',_,_,h0,h1,h2⟩:=trod_struct3 Tryz.underlying25 hk
 simp only[cellsList,cellsStr,cellsI64,List.drop_succ_cons,List.drop_zero,List.take_succ_cons,List.take_zero]at h0 h1 h2
 obtain⟨x0,x1,x2,m',_,_,k0,k1,k2⟩:=trod_struct3 Tryz.underlying23 h0
 simp only[cellsStr,cellsI64,List.drop_succ_cons,List.drop_zero,List.take_succ_cons,List.take_zero]at k0 k1 k2
 obtain⟨z,hz,_,wz⟩:=DataW.trod_int Tryz.underlying2 k0
 obtain⟨b,hb,_,wb⟩:=DataW.trod_int Tryz.underlying2 k1
 obtain⟨r,hr,_,wr⟩:=DataW.trod_string Tryz.underlying9 k2
 obtain⟨s,hs,_,ws⟩:=DataW.trod_string Tryz.underlying9 h1
 obtain⟨y,hy,_,wy⟩:=DataW.trod_int Tryz.underlying2 h2
 obtain⟨a,k,cap,m,hc5,hm,hkm,hos,hl⟩:=open_oths ho
 simp at hz hb hr hs hy
 subst hz hb hr hs hy hc5
 exact⟨z,b,r,s,y,a,k,cap,m,rfl,wr,ws,hm,hkm,hos,hl⟩
end
end Go.Proofs.YtikiihjabbmkcaaGreatDoor.Pe

