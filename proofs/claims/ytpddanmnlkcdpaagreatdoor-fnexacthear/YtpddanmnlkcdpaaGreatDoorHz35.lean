/- Texts put together: PeTo, PeTo2, PmOut, PmMeet, PmMeetI. -/
import Derived.Test.YtpddanmnlkcdpaaGreatDoorHz27
import Derived.Test.YtpddanmnlkcdpaaGreatDoorHz34
import Derived.Test.YtpddanmnlkcdpaaGreatDoorHz39
import Derived.Test.YtpddanmnlkcdpaaGreatDoorHz42
import Derived.Test.YtpddanmnlkcdpaaGreatDoorHz43
set_option maxRecDepth 100000
set_option maxHeartbeats 8000000
namespace Go.Proofs.YtpddanmnlkcdpaaGreatDoor.Pe
open Go.RowKit
open Kp
open In (Ints OwnI IsI toInt_any irow irow_size)
open Ls (lowL)
theorem own_set {W:World} {base g k n cap p:Nat} {e:TypeId} {xs:List Value} (h:W.ownsRow base e k (.slice (some ⟨g,0,none⟩) n cap) n xs) (u:Value):(W.setCell ⟨g,p,none⟩ u).ownsRow base e k (.slice (some ⟨g,0,none⟩) n cap) n (xs.set p u):=by
 obtain⟨hl,h⟩:=h
 rcases h with⟨h,_⟩|⟨g',cap',cur,hv,hg,hb,h1,h2,h3,h4⟩
 ·cases h
 ·simp at hv
  obtain⟨rfl,rfl⟩:=hv
  refine⟨by rw[List.length_set];exact hl,.inr ⟨g,cap,cur.setIfInBounds p u,rfl,hg,heap_setCell_same W g p _ _ u hb,h1,h2,by rw[Array.size_setIfInBounds];exact h3,?_⟩⟩
  rw[Array.toList_setIfInBounds,<-h4,List.take_set]
theorem cellsO_set:∀ (m:List MO) (i:Nat) (x:MO),i<m.length->cellsO (m.set i x)=((((((cellsO m).set (i*5) (.string x.1.name)).set (i*5+1) x.2).set (i*5+2) (.int .i64 x.1.asked)).set (i*5+3) (.int .i64 x.1.age)).set (i*5+4) (.int .i64 x.1.strikes))
 |y :: m,0,x,_=>rfl
 |y :: m,i+1,x,h=>by
  rw[List.set_cons_succ,cellsO,cellsO,cellsO_set m i x (Nat.lt_of_succ_lt_succ h),show (i+1)*5=i*5+5 by omega,show i*5+5+1=(i*5+1)+5 by omega,show i*5+5+2=(i*5+2)+5 by omega,show i*5+5+3=(i*5+3)+5 by omega,show i*5+5+4=(i*5+4)+5 by omega]
  rfl
theorem OwnO.set {W:World} {base g n cap i:Nat} {m:List MO} (h:OwnO W base (.slice (some ⟨g,0,none⟩) n cap) m) (hn:m.length=n) (hi:i<m.length) (x:MO) :
  OwnO (((((W.setCell ⟨g,i*5,none⟩ (.string x.1.name)).setCell ⟨g,i*5+1,none⟩ x.2).setCell ⟨g,i*5+2,none⟩ (.int .i64 x.1.asked)).setCell ⟨g,i*5+3,none⟩ (.int .i64 x.1.age)).setCell ⟨g,i*5+4,none⟩ (.int .i64 x.1.strikes)) base (.slice (some ⟨g,0,none⟩) n cap) (m.set i x):=by
 unfold OwnO at h ⊢
 rw[List.length_set,cellsO_set m i x hi]
 rw[hn]at h ⊢
 exact own_set (own_set (own_set (own_set (own_set h _) _) _) _) _
theorem isI_own {W:World} {g base:Nat} {l:List Int} (h:IsI W g 2 l) (hb:base<=g) (hn:l.length<=1048576):OwnI W base (.slice (some ⟨g,0,none⟩) l.length l.length) l :=
 ⟨by simp,.inr ⟨g,l.length,irow l,rfl,hb,h,Nat.le_refl _,by unfold maxLen;omega,by rw[irow_size,Nat.mul_one],by rw[Nat.mul_one,List.take_of_length_le (by simp[irow])];simp[irow]⟩⟩
theorem toO_any (nm:ByteArray) (a:Option Addr) (n cap:Nat) (l:List Int) (q g t:Int) (w:World) (h:Ints w w.heap.size a l) (hln:l.length=n) (hn:n<=1048576) :
  Calls Tryz.prog 64 #[.agg #[.string nm,.slice a n cap,.int .i64 q,.int .i64 g,.int .i64 t]] w fun e w'=>∃ v,e=.returned (.agg #[.string nm,v,.int .i64 q,.int .i64 g,.int .i64 t])/\OwnI w' w.heap.size v l/\Below w.heap.size w w':=by
 have C0:=hideK ((((Cx.nil w).new (.cells #[.string nm,.slice a n cap,.int .i64 q,.int .i64 g,.int .i64 t] 106)).new (.cells #[.string ⟨#[]⟩,.slice none 0 0,.int .i64 0,.int .i64 0,.int .i64 0] 86)).new (.cells #[.string ⟨#[]⟩,.slice none 0 0,.int .i64 0,.int .i64 0,.int .i64 0] 86))
 simp only[World.size_alloc]at C0
 have HTI:=hideK (fun W (hW:Below w.heap.size w W)=>toInt_any a cap l W ((h.below hW).mono hW.size) (by rw[hln];exact hn))
 rw[hln]at HTI
 have HOW:Hid (∀ (W:World) g,IsI W g 2 l->w.heap.size<=g->OwnI W w.heap.size (.slice (some ⟨g,0,none⟩) n n) l):=fun W g hi hg=>by have:=isI_own hi hg (by rw[hln];exact hn);rwa[hln]at this
 clear h hln
 go_enter Tryz.func64,Tryz.ntmps64
 go_upto_region 2 with fail
 generalize ((w.alloc _).alloc _).alloc _=W0 at C0 ⊢
 obtain⟨p0,p1,p2,p3,p4⟩:=cells5 (C0.out.get 2 rfl)
 obtain⟨q0,q1,q2,q3,q4⟩:=cells5 (C0.out.get 0 rfl)
 have ff:=fun o=>frozen_of_row W0 (w.heap.size+1+1) o _ _ (C0.out.get 0 rfl)
 have D1:Hid (Cx w (W0.setCell ⟨w.heap.size+1+1,0,none⟩ (.string nm)) [(w.heap.size+1,.cells #[.string ⟨#[]⟩,.slice none 0 0,.int .i64 0,.int .i64 0,.int .i64 0] 86),(w.heap.size,.cells #[.string nm,.slice a n cap,.int .i64 q,.int .i64 g,.int .i64 t] 106)]) :=
  Cx.set (l:=[(w.heap.size+1,.cells #[.string ⟨#[]⟩,.slice none 0 0,.int .i64 0,.int .i64 0,.int .i64 0] 86),(w.heap.size,.cells #[.string nm,.slice a n cap,.int .i64 q,.int .i64 g,.int .i64 t] 106)]) ⟨C0.out.low,fun x hx=>C0.out.blk x (List.mem_cons_of_mem _ hx)⟩ (by omega) (fun x hx=>by
   rcases List.mem_cons.1 hx with rfl|hx
   ·show w.heap.size+1≠w.heap.size+1+1;omega
   ·rw[List.mem_singleton.1 hx];show w.heap.size≠w.heap.size+1+1;omega) 0 _
 have X1:=hideK (setC (cs':=#[.string nm,.slice none 0 0,.int .i64 0,.int .i64 0,.int .i64 0]) (C0.out.get 0 rfl) 0 (.string nm) rfl)
 go_upto_region 3 with fail
 generalize W0.setCell _ _=W1 at D1 X1 ⊢
 clear p0 p1 p2 p3 p4 q0 q1 q2 q3 q4 ff C0
 obtain⟨p0,p1,p2,p3,p4⟩:=cells5 (D1.out.get 1 rfl)
 go_wp2_with fail
 refine(HTI.out _ D1.out.low).mono ?_
 rintro e w2 ⟨rfl,hi2,hb⟩
 have O2:=hideK (HOW.out w2 _ hi2 D1.out.low.size)
 have zl:=lt_rowK X1.out
 have hI2:=hideK hi2
 have X2:=hideK (Ls.blkL X1.out hb)
 have D2:=hideK (D1.out.call hb)
 clear hb hi2 p0 p1 p2 p3 p4 D1 X1
 generalize hg1:W1.heap.size=g1 at O2 zl hI2 ⊢
 clear hg1
 obtain⟨p0,p1,p2,p3,p4⟩:=cells5 (D2.out.get 1 rfl)
 obtain⟨q0,q1,q2,q3,q4⟩:=cells5 X2.out
 have ff:=fun o=>frozen_of_row w2 (w.heap.size+1+1) o _ _ X2.out
 have ne1:∀ x∈[(w.heap.size+1,Obj.cells #[.string ⟨#[]⟩,.slice none 0 0,.int .i64 0,.int .i64 0,.int .i64 0] 86),(w.heap.size,.cells #[.string nm,.slice a n cap,.int .i64 q,.int .i64 g,.int .i64 t] 106)],x.1≠w.heap.size+1+1:=fun x hx=>by
   rcases List.mem_cons.1 hx with rfl|hx
   ·show w.heap.size+1≠w.heap.size+1+1;omega
   ·rw[List.mem_singleton.1 hx];show w.heap.size≠w.heap.size+1+1;omega
 have D6:=hideK ((((D2.out.set (g:=w.heap.size+1+1) (by omega) ne1 1 (.slice (some ⟨g1,0,none⟩) n n)).set (g:=w.heap.size+1+1) (by omega) ne1 2 (.int .i64 q)).set (g:=w.heap.size+1+1) (by omega) ne1 3 (.int .i64 g)).set (g:=w.heap.size+1+1) (by omega) ne1 4 (.int .i64 t))
 have X3:=setC (cs':=#[.string nm,.slice (some ⟨g1,0,none⟩) n n,.int .i64 0,.int .i64 0,.int .i64 0]) X2.out 1 (.slice (some ⟨g1,0,none⟩) n n) rfl
 have X4:=setC (cs':=#[.string nm,.slice (some ⟨g1,0,none⟩) n n,.int .i64 q,.int .i64 0,.int .i64 0]) X3 2 (.int .i64 q) rfl
 have X5:=setC (cs':=#[.string nm,.slice (some ⟨g1,0,none⟩) n n,.int .i64 q,.int .i64 g,.int .i64 0]) X4 3 (.int .i64 g) rfl
 have X6:=hideK (setC (cs':=#[.string nm,.slice (some ⟨g1,0,none⟩) n n,.int .i64 q,.int .i64 g,.int .i64 t]) X5 4 (.int .i64 t) rfl)
 have O6:Hid (OwnI ((((w2.setCell ⟨w.heap.size+1+1,1,none⟩ (.slice (some ⟨g1,0,none⟩) n n)).setCell ⟨w.heap.size+1+1,2,none⟩ (.int .i64 q)).setCell ⟨w.heap.size+1+1,3,none⟩ (.int .i64 g)).setCell ⟨w.heap.size+1+1,4,none⟩ (.int .i64 t)) w.heap.size (.slice (some ⟨g1,0,none⟩) n n) l):=by
  have he:(2:TypeId)≠86:=by decide
  exact ownI_keep (ownI_keep (ownI_keep (ownI_keep O2.out (keepE_set X2.out 1 _) he) (keepE_set X3 2 _) he) (keepE_set X4 3 _) he) (keepE_set X5 4 _) he
 clear X3 X4 X5 X2 D2 O2
 go_upto_region 7 with fail
 generalize (((w2.setCell _ _).setCell _ _).setCell _ _).setCell _ _=W6 at D6 X6 O6 ⊢
 clear p0 p1 p2 p3 p4 q0 q1 q2 q3 q4 ff
 obtain⟨q0,q1,q2,q3,q4⟩:=cells5 X6.out
 obtain⟨p0,p1,p2,p3,p4⟩:=cells5 (D6.out.get 0 rfl)
 have ff:=fun o=>frozen_of_row W6 (w.heap.size+1) o _ _ (D6.out.get 0 rfl)
 have s5:=cells5 (set5 (D6.out.get 0 rfl) (.string nm) (.slice (some ⟨g1,0,none⟩) n n) (.int .i64 q) (.int .i64 g) (.int .i64 t))
 have E5:=hideK (set5_low D6.out.low (g:=w.heap.size+1) (by omega) (.string nm) (.slice (some ⟨g1,0,none⟩) n n) (.int .i64 q) (.int .i64 g) (.int .i64 t))
 have O7:Hid (OwnI (((((W6.setCell ⟨w.heap.size+1,0,none⟩ (.string nm)).setCell ⟨w.heap.size+1,1,none⟩ (.slice (some ⟨g1,0,none⟩) n n)).setCell ⟨w.heap.size+1,2,none⟩ (.int .i64 q)).setCell ⟨w.heap.size+1,3,none⟩ (.int .i64 g)).setCell ⟨w.heap.size+1,4,none⟩ (.int .i64 t)) w.heap.size (.slice (some ⟨g1,0,none⟩) n n) l):=by
  have he:(2:TypeId)≠86:=by decide
  have Y1:=setC (cs':=#[.string nm,.slice none 0 0,.int .i64 0,.int .i64 0,.int .i64 0]) (D6.out.get 0 rfl) 0 (.string nm) rfl
  have Y2:=setC (cs':=#[.string nm,.slice (some ⟨g1,0,none⟩) n n,.int .i64 0,.int .i64 0,.int .i64 0]) Y1 1 (.slice (some ⟨g1,0,none⟩) n n) rfl
  have Y3:=setC (cs':=#[.string nm,.slice (some ⟨g1,0,none⟩) n n,.int .i64 q,.int .i64 0,.int .i64 0]) Y2 2 (.int .i64 q) rfl
  have Y4:=setC (cs':=#[.string nm,.slice (some ⟨g1,0,none⟩) n n,.int .i64 q,.int .i64 g,.int .i64 0]) Y3 3 (.int .i64 g) rfl
  exact ownI_keep (ownI_keep (ownI_keep (ownI_keep (ownI_keep O6.out (keepE_set (D6.out.get 0 rfl) 0 _) he) (keepE_set Y1 1 _) he) (keepE_set Y2 2 _) he) (keepE_set Y3 3 _) he) (keepE_set Y4 4 _) he
 go_wp2_with fail
 exact bodyPost_ret (v:=.agg #[.string nm,.slice (some ⟨g1,0,none⟩) n n,.int .i64 q,.int .i64 g,.int .i64 t]) (by simp[results,Tryz.results64,go_sem,s5.1,s5.2.1,s5.2.2.1,s5.2.2.2.1,s5.2.2.2.2]) rfl ⟨_,rfl,O7.out,E5.out⟩
end Go.Proofs.YtpddanmnlkcdpaaGreatDoor.Pe


namespace Go.Proofs.YtpddanmnlkcdpaaGreatDoor.Pe
open Go.RowKit
open Kp
open In (Ints OwnI)
open Ap (KeepE)
open Ls (lowL)
def zMO:MO:=(⟨⟨#[]⟩,[],0,0,0⟩,.slice none 0 0)
theorem made_oths (n:Nat):(madeCells (Value.agg #[.string ⟨#[]⟩,.slice none 0 0,.int .i64 0,.int .i64 0,.int .i64 0]).cells (n*5)).toList=cellsO (List.replicate n zMO):=by
 apply List.ext_getElem?
 intro i
 by_cases hi:i<n*5
 ·have hk:i/5<(List.replicate n zMO).length:=by rw[List.length_replicate];omega
  have hc:=cellsO_at (List.replicate n zMO) (i/5) hk
  rw[List.getElem_replicate]at hc
  have e:∀ q:Nat,i%5=q->i=i/5*5+q:=fun q h=>by omega
  have hl:(madeCells (Value.agg #[.string ⟨#[]⟩,.slice none 0 0,.int .i64 0,.int .i64 0,.int .i64 0]).cells (n*5)).toList[i]? = some (#[Value.string ⟨#[]⟩,.slice none 0 0,.int .i64 0,.int .i64 0,.int .i64 0][i%5]!):=by
   simp[madeCells,hi,Value.cells]
  rw[hl]
  have h5:i%5<5:=Nat.mod_lt _ (by decide)
  generalize hq:i%5=q at h5 ⊢
  rw[e q hq]
  match q,h5 with
  |0,_=>exact hc.1.symm
  |1,_=>exact hc.2.1.symm
  |2,_=>exact hc.2.2.1.symm
  |3,_=>exact hc.2.2.2.1.symm
  |4,_=>exact hc.2.2.2.2.symm
 ·rw[List.getElem?_eq_none (by simp[madeCells];omega),List.getElem?_eq_none (by rw[cellsO_length,List.length_replicate];omega)]
theorem OwnO.frozen {W:World} {base g n cap:Nat} {m:List MO} (h:OwnO W base (.slice (some ⟨g,0,none⟩) n cap) m) (o:Nat):W.frozen? ⟨g,o,none⟩=false:=by
 obtain⟨_,h⟩:=h
 rcases h with⟨h,_⟩|⟨g',cap',cur,hv,_,hb,_⟩
 ·cases h
 ·simp at hv
  obtain⟨rfl,_⟩:=hv
  exact frozen_of_row W g o _ _ hb
theorem OwnO.blk {W:World} {base g n cap:Nat} {m:List MO} (h:OwnO W base (.slice (some ⟨g,0,none⟩) n cap) m):∃ cur,W.heap[g]? = some (.cells cur 86 (0,0)):=by
 obtain⟨_,h⟩:=h
 rcases h with⟨h,_⟩|⟨g',cap',cur,hv,_,hb,_⟩
 ·cases h
 ·simp at hv
  obtain⟨rfl,_⟩:=hv
  exact⟨cur,hb⟩
theorem keepE_five {W:World} {g o:Nat} {cs:Array Value} {e:TypeId} (hg:W.heap[g]? = some (.cells cs e (0,0))) (a0 a1 a2 a3 a4:Value) :
  KeepE e W (((((W.setCell ⟨g,o,none⟩ a0).setCell ⟨g,o+1,none⟩ a1).setCell ⟨g,o+2,none⟩ a2).setCell ⟨g,o+3,none⟩ a3).setCell ⟨g,o+4,none⟩ a4):=fun k cur t ht hk=>by
 have hne:k≠g:=by
  rintro rfl
  rw[hg]at hk
  simp at hk
  exact ht hk.2.symm
 rw[heap_setCell_other _ _ k _ (by exact hne),heap_setCell_other _ _ k _ (by exact hne),heap_setCell_other _ _ k _ (by exact hne),heap_setCell_other _ _ k _ (by exact hne),heap_setCell_other _ _ k _ (by exact hne)]
 exact hk
theorem low_five {w W:World} {B g o:Nat} (h:Below B w W) (hg:B<=g) (a0 a1 a2 a3 a4:Value) :
  Below B w (((((W.setCell ⟨g,o,none⟩ a0).setCell ⟨g,o+1,none⟩ a1).setCell ⟨g,o+2,none⟩ a2).setCell ⟨g,o+3,none⟩ a3).setCell ⟨g,o+4,none⟩ a4) :=
 ((((h.setCell (p:=⟨g,o,none⟩) hg a0).setCell (p:=⟨g,o+1,none⟩) hg a1).setCell (p:=⟨g,o+2,none⟩) hg a2).setCell (p:=⟨g,o+3,none⟩) hg a3).setCell (p:=⟨g,o+4,none⟩) hg a4
structure Mad (w wr:World) (m:List MO) (n j:Nat) (mo:List MO):Prop where
 os:oths mo=oths (m.take j)
 len:mo.length=j
 row:OwnO wr w.heap.size (.slice (some ⟨w.heap.size,0,none⟩) n n) (mo++List.replicate (n-j) zMO)
 has:Hass wr w.heap.size mo
 ap:Apart mo
 low:Below w.heap.size w wr
theorem Mad.more {w wr w1:World} {m mo:List MO} {n j:Nat} {x:Oth} {v:Value} (h:Mad w wr m n j mo) (hj:j<n) (hx:oths (m.take (j+1))=oths (m.take j)++[x]) (ho:OwnI w1 wr.heap.size v x.has) (hb:Below wr.heap.size wr w1) :
  Mad w (((((w1.setCell ⟨w.heap.size,j*5,none⟩ (.string x.name)).setCell ⟨w.heap.size,j*5+1,none⟩ v).setCell ⟨w.heap.size,j*5+2,none⟩ (.int .i64 x.asked)).setCell ⟨w.heap.size,j*5+3,none⟩ (.int .i64 x.age)).setCell ⟨w.heap.size,j*5+4,none⟩ (.int .i64 x.strikes)) m n (j+1) (mo++[(x,v)]):=by
 have hr:=h.row.below hb
 have hlen:(mo++List.replicate (n-j) zMO).length=n:=by
  rw[List.length_append,List.length_replicate,h.len]
  omega
 have hset:(mo++List.replicate (n-j) zMO).set j (x,v)=(mo++[(x,v)])++List.replicate (n-(j+1)) zMO:=by
  rw[List.set_append,if_neg (by rw[h.len];omega),h.len,Nat.sub_self,show n-j=(n-(j+1))+1 by omega,List.replicate_succ,List.set_cons_zero,List.append_assoc]
  rfl
 have hr2:=hr.set (i:=j) hlen (by omega) (x,v)
 rw[hset]at hr2
 obtain⟨cur,hcur⟩:=hr.blk
 have he:(2:TypeId)≠86:=by decide
 have hk:=keepE_five (o:=j*5) hcur (.string x.name) v (.int .i64 x.asked) (.int .i64 x.age) (.int .i64 x.strikes)
 refine⟨?_,by rw[List.length_append,h.len];rfl,hr2,?_,?_,low_five (lowL h.low hb) (Nat.le_refl _) _ _ _ _ _⟩
 ·unfold oths at hx ⊢
  rw[List.map_append,hx,<-show List.map (·.1) mo=List.map (·.1) (m.take j) from h.os]
  rfl
 ·intro y hy
  rcases List.mem_append.1 hy with hy|hy
  ·exact ownI_keep ((h.has y hy).below hb) hk he
  ·rw[List.mem_singleton.1 hy]
   exact ownI_keep (ho.mono h.low.size) hk he
 ·unfold Apart
  rw[List.pairwise_append]
  refine⟨h.ap,List.pairwise_singleton _ _,fun y hy z hq g hg=>?_⟩
  rw[List.mem_singleton.1 hq]
  intro hg'
  have h1:=(World.ownsRow.lt (h.has y hy) g hg).2
  have h2:=(World.ownsRow.lt ho g hg').1
  omega
structure MadeO (W:World) (base:Nat) (v:Value) (m mo:List MO):Prop where
 os:oths mo=oths m
 row:OwnO W base v mo
 has:Hass W base mo
 ap:Apart mo
theorem MadeO.call {W W':World} {base:Nat} {v:Value} {m mo:List MO} (h:MadeO W base v m mo) (hb:Below W.heap.size W W'):MadeO W' base v m mo:=⟨h.os,h.row.below hb,h.has.below hb,h.ap⟩
theorem MadeO.mono {W:World} {base base':Nat} {v:Value} {m mo:List MO} (h:MadeO W base v m mo) (hb:base'<=base):MadeO W base' v m mo:=⟨h.os,h.row.mono hb,fun x hx=>(h.has x hx).mono hb,h.ap⟩
theorem ownI_hasAt {W:World} {base:Nat} {x:MO} (h:OwnI W base x.2 x.1.has):HasAt W W.heap.size x:=by
 rcases h.split with⟨h1,h2⟩|⟨g,cap,hv,_,hc,ho⟩
 ·exact⟨none,0,by rw[h1,h2];rfl,by rw[h2];exact Nat.le_refl _,fun _=>rfl,.inl h2⟩
 ·exact⟨_,cap,hv,hc,fun h=>(by cases h),ho.ints ho.lt⟩
theorem MadeO.oths {W:World} {base n:Nat} {a:Option Addr} {cap:Nat} {m mo:List MO} (h:MadeO W base (.slice a n cap) m mo):Oths W W.heap.size a mo/\mo.length=n:=by
 refine⟨⟨?_,fun x hx=>ownI_hasAt (h.has x hx)⟩,?_⟩
 ·by_cases h0:0<mo.length
  ·obtain⟨g,cp,hv,_,hg,_,hc⟩:=h.row.cells h0
   simp at hv
   obtain⟨rfl,_⟩:=hv
   exact .inr ⟨g,0,rfl,hg,fun j hj=>by rw[Nat.zero_add];exact hc j hj⟩
  ·exact .inl (List.eq_nil_of_length_eq_zero (by omega))
 ·obtain⟨a',c',hv,_⟩:=h.row.one
  simp at hv
  exact hv.2.1.symm
theorem small_of {m mo:List MO} (h:oths mo=oths m) (hs:Small m):Small mo:=fun x hx=>by
 have:x.1∈oths m:=by rw[<-h];exact List.mem_map_of_mem hx
 obtain⟨y,hy,he⟩:=List.mem_map.1 this
 rw[<-he]
 exact hs y hy
theorem toOs_any (a:Option Addr) (n cap:Nat) (m:List MO) (w:World) (h:Oths w w.heap.size a m) (hm:m.length=n) (hn:n<=1048576) (hsm:Small m) :
  Calls Tryz.prog 32 #[.slice a n cap] w fun e w'=>e=.returned (.slice (some ⟨w.heap.size,0,none⟩) n n)/\(∃ mo,MadeO w' w.heap.size (.slice (some ⟨w.heap.size,0,none⟩) n n) m mo)/\Below w.heap.size w w':=by
 obtain⟨j0,hj0,ho0,ho1,ho2⟩:=info_parts Tryz.infoOther
 have HS:=hideK h
 have HM:=hideK hm
 have HSM:=hideK hsm
 clear h hm hsm
 go_enter Tryz.func32,Tryz.ntmps32
 go_wp2_with (at_make;refine wpList_make_full _ rfl (.tmp 6) (.tmp 6) 33 rfl w.heap.size 86 j0 (.agg #[.string ⟨#[]⟩,.slice none 0 0,.int .i64 0,.int .i64 0,.int .i64 0]) 5 Tryz.underlying33 hj0 ho0 ho1 .i64 .i64 _ _ n rfl rfl (by simp) (by simp) (by rw[ho2];omega) (by unfold maxLen;omega) (Nat.le_refl _) ?_;intro w1 hown1 hgrow1;have HR:=hideK hown1;have HB:=hideK ((Below.refl w.heap.size w).grown hgrow1 (Nat.le_refl _) (by simp));clear hown1 hgrow1)
 have M0:Hid (Mad w w1 m n 0 []):=⟨rfl,rfl,by unfold OwnO;rw[List.nil_append,Nat.sub_zero,List.length_replicate,<-made_oths];exact HR.out,fun x hx=>absurd hx List.not_mem_nil,List.Pairwise.nil,HB.out⟩
 clear HR HB
 go_loopw [4] (fun jv wr=>∃ (j:Nat) (mo:List MO),jv=.int .i64 j/\j<=n/\Mad w wr m n j mo) (fun jv _=>n-(intOf jv).toNat)
 case atStart=>exact⟨0,[],rfl,Nat.zero_le _,M0.out⟩
 case round =>
  obtain⟨j,mo,rfl,hj,hmad⟩:=hrel
  have MA:=hideK hmad
  clear hmad M0
  by_cases hlt:j<n
  ·have hlt':(j:Int)<(n:Int):=by omega
   have hjl:j<m.length:=by rw[HM.out];exact hlt
   obtain⟨b,off,rfl,hb,hc⟩:=HS.out.some (by omega)
   obtain⟨d0,d1,d2,d3,d4⟩:=(hc j hjl).below MA.out.low hb
   obtain⟨ax,cx,hxv,_,_,hix⟩:=HS.out.2 m[j] (List.getElem_mem hjl)
   have HIX:=hideK ((hix.below MA.out.low).mono MA.out.low.size)
   have hkx:=(HSM.out m[j] (List.getElem_mem hjl)).1
   have HT:=hideK (oths_take hjl)
   rw[hxv]at d1
   generalize m[j].1=x at d0 d1 d2 d3 d4 HIX HT hkx
   obtain⟨nm,l,q,g,t⟩:=x
   dsimp only at d0 d1 d2 d3 d4 HIX hkx
   have HTO:=hideK (toO_any nm ax l.length cx l q g t wr HIX.out rfl hkx)
   have HMO:Hid (∀ (w1:World) (v:Value),OwnI w1 wr.heap.size v l->Below wr.heap.size wr w1->FiveAt w1 w.heap.size (j*5) zMO/\(∀ o,w1.frozen? ⟨w.heap.size,o,none⟩=false)/\Mad w (((((w1.setCell ⟨w.heap.size,j*5,none⟩ (.string nm)).setCell ⟨w.heap.size,j*5+1,none⟩ v).setCell ⟨w.heap.size,j*5+2,none⟩ (.int .i64 q)).setCell ⟨w.heap.size,j*5+3,none⟩ (.int .i64 g)).setCell ⟨w.heap.size,j*5+4,none⟩ (.int .i64 t)) m n (j+1) (mo++[(⟨nm,l,q,g,t⟩,v)])):=fun w1 v h1 h2=>by
    have hr:=MA.out.row.below h2
    have hlen:(mo++List.replicate (n-j) zMO).length=n:=by
     rw[List.length_append,List.length_replicate,MA.out.len]
     omega
    obtain⟨g',cp',hv',_,_,_,hcc⟩:=hr.cells (by omega)
    obtain rfl:w.heap.size=g':=by simp at hv';exact hv'.1
    have hcj:=hcc j (by omega)
    rw[List.getElem_append_right (by rw[MA.out.len];exact Nat.le_refl _),List.getElem_replicate]at hcj
    exact⟨hcj,hr.frozen,MA.out.more (x:=⟨nm,l,q,g,t⟩) hlt HT.out h1 h2⟩
   clear hc hxv hix
   generalize l.length=k at d1 HTO
   go_wp2_with fail
   refine HTO.out.mono ?_
   rintro e w2 ⟨v,rfl,ho,hb2⟩
   obtain⟨hz5,hfz,hmd⟩:=HMO.out w2 v ho hb2
   obtain⟨av,cv,hv,_,_⟩:=ho.ints
   have hcl:∀ w:World,w.cell? ⟨0,0,none⟩=w.cell? ⟨0,0,none⟩:=fun _=>rfl
   clear hcl
   subst hv
   have MD:=hideK hmd
   unfold FiveAt zMO at hz5
   obtain⟨y0,y1,y2,y3,y4⟩:=hz5
   dsimp only at y0 y1 y2 y3 y4
   clear ho hb2 hmd d0 d1 d2 d3 d4 HTO
   go_wp2_with fail
   go_roundw
   case rel=>exact⟨j+1,_,by go_num,by omega,MD.out⟩
   case measure=>simp[intOf];omega
  ·have HE:Hid (MadeO wr w.heap.size (.slice (some ⟨w.heap.size,0,none⟩) n n) m mo):=⟨by rw[MA.out.os,List.take_of_length_le (by rw[HM.out];omega)],by
    have:=MA.out.row
    rwa[show n-j=0 by omega,List.replicate_zero,List.append_nil]at this,MA.out.has,MA.out.ap⟩
   have hltD:decide ((j:Int)<(n:Int))=false:=by simp;omega
   have hlt2:¬((j:Int)<(n:Int)):=by omega
   go_wp2_with fail
   go_ret
   exact⟨rfl,⟨mo,HE.out⟩,MA.out.low⟩
end Go.Proofs.YtpddanmnlkcdpaaGreatDoor.Pe


namespace Go.Proofs.YtpddanmnlkcdpaaGreatDoor.Pl
open Go.RowKit
open Kp
open Pe
open Ls (blk_alloc lowL)
structure PO where
 z:Int
 b:Int
 r:ByteArray
 s:ByteArray
 y:Int
 os:List Oth
 ss:List Snt
 c:Int
def ill (c:Int):PO:=⟨0,0,⟨#[]⟩,⟨#[]⟩,0,[],[],c⟩
def poV (z b:Int) (r s:ByteArray) (y:Int) (vo vs:Value) (c:Int):Value:=.agg #[.int .i64 z,.int .i64 b,.string r,.string s,.int .i64 y,vo,vs,.int .i64 c]
def poO (z b:Int) (r s:ByteArray) (y:Int) (vo vs:Value) (c:Int):Obj:=.cells #[.int .i64 z,.int .i64 b,.string r,.string s,.int .i64 y,vo,vs,.int .i64 c] 38
def ApartL (m:List ML):Prop:=m.Pairwise fun x y=>∀ g,x.2.ownBlock=some g->y.2.ownBlock≠some g
structure PoIn (W:World) (base:Nat) (vo vs:Value) (mo:List MO) (ms:List ML):Prop where
 orow:OwnO W base vo mo
 has:Hass W base mo
 ap:Apart mo
 srow:OwnL W base vs ms
 pth:Pths W base ms
 apl:ApartL ms
theorem PoIn.call {W W':World} {base:Nat} {vo vs:Value} {mo:List MO} {ms:List ML} (h:PoIn W base vo vs mo ms) (hb:Below W.heap.size W W'):PoIn W' base vo vs mo ms :=
 ⟨h.orow.below hb,h.has.below hb,h.ap,h.srow.below hb,h.pth.below hb,h.apl⟩
theorem PoIn.mono {W:World} {base base':Nat} {vo vs:Value} {mo:List MO} {ms:List ML} (h:PoIn W base vo vs mo ms) (hb:base'<=base):PoIn W base' vo vs mo ms :=
 ⟨h.orow.mono hb,fun x hx=>(h.has x hx).mono hb,h.ap,h.srow.mono hb,h.pth.mono hb,h.apl⟩
theorem poIn_nil (W:World) (base:Nat):PoIn W base (.slice none 0 0) (.slice none 0 0) [] [] :=
 ⟨OwnO.nil _ _,fun _ hx=>absurd hx List.not_mem_nil,List.Pairwise.nil,OwnL.nil _ _,fun _ hx=>absurd hx List.not_mem_nil,List.Pairwise.nil⟩
def OwnPO (W:World) (base:Nat) (e:Ending) (p:PO):Prop:=∃ vo vs mo ms,e=.returned (poV p.z p.b p.r p.s p.y vo vs p.c)/\oths mo=p.os/\snts ms=p.ss/\PoIn W base vo vs mo ms
def SeePO (W:World) (B:Nat) (e:Ending) (p:PO):Prop:=∃ ao no co as' ns cs mo ms,e=.returned (poV p.z p.b p.r p.s p.y (.slice ao no co) (.slice as' ns cs) p.c)/\oths mo=p.os/\snts ms=p.ss/\mo.length=no/\ms.length=ns/\Oths W B ao mo/\Snts W B as' ms
def OwnPN (W:World) (base:Nat) (e:Ending) (p:PO):Prop:=∃ vo vs mo ms,e=.returned (poV p.z p.b p.r p.s p.y vo vs p.c)/\oths mo=p.os/\snts ms=p.ss/\PoIn W base vo vs mo ms/\∀ x∈ms,x.2=.slice none 0 0/\x.1.path=[]
theorem PoIn.oths {W:World} {base no co ns cs:Nat} {ao as':Option Addr} {mo:List MO} {ms:List ML} (h:PoIn W base (.slice ao no co) (.slice as' ns cs) mo ms):(Oths W W.heap.size ao mo/\mo.length=no)/\Snts W W.heap.size as' ms/\ms.length=ns :=
 ⟨MadeO.oths (m:=mo) ⟨rfl,h.orow,h.has,h.ap⟩,own_snts h.srow h.pth⟩
theorem out_any (g:Nat) (u:Value) (e z b:Int) (r s:ByteArray) (y:Int) (ao as':Option Addr) (no co ns cs:Nat) (w:World) (hg:w.heap[g]? = some (wpB u e z b r s y (.slice ao no co) (.slice as' ns cs))) :
  Calls Tryz.prog 39 #[.pointer (some ⟨g,0,none⟩)] w fun q w'=>q=.returned (poV z b r s y (.slice ao no co) (.slice as' ns cs) 0)/\Below w.heap.size w w':=by
 have C0:=hideK ((Cx.nil w).new (poO 0 0 ⟨#[]⟩ ⟨#[]⟩ 0 (.slice none 0 0) (.slice none 0 0) 0))
 have G0:Hid ((w.alloc (poO 0 0 ⟨#[]⟩ ⟨#[]⟩ 0 (.slice none 0 0) (.slice none 0 0) 0)).heap[g]? = some (wpB u e z b r s y (.slice ao no co) (.slice as' ns cs))):=blk_alloc hg _
 clear hg
 have hmx:=mixedK
 unfold poO at C0 G0
 unfold poV
 unfold wpB at G0
 go_enter Tryz.func39,Tryz.ntmps39
 go_upto_region 1 with fail
 generalize hgk:w.heap.size=gk at C0 ⊢
 generalize w.alloc _=W0 at C0 G0 ⊢
 obtain⟨p0,p1,p2,p3,p4,p5,p6,p7,p8⟩:=cellsP9 G0.out
 obtain⟨q0,q1,q2,q3,q4,q5,q6,q7⟩:=cellsP8 (C0.out.get 0 rfl)
 have ff:=fun o=>frozen_of_row W0 gk o _ _ (C0.out.get 0 rfl)
 have s8:=cellsP8 (setP8 (W:=W0) (C0.out.get 0 rfl) (.int .i64 z) (.int .i64 b) (.string r) (.string s) (.int .i64 y) (.slice ao no co) (.slice as' ns cs) (.int .i64 0))
 have E8:=hideK (setP8_low (W:=W0) C0.out.low (g:=gk) (by omega) (.int .i64 z) (.int .i64 b) (.string r) (.string s) (.int .i64 y) (.slice ao no co) (.slice as' ns cs) (.int .i64 0))
 refine Sh.still_tail 15 hmx (by kernel_rfl) ?_
 simp only[List.take_succ_cons,List.take_zero,List.drop_succ_cons,List.drop_zero]
 repeat still_step
 refine wpStill_nil ?_
 go_wp2_with fail
 exact bodyPost_ret (v:=.agg #[.int .i64 z,.int .i64 b,.string r,.string s,.int .i64 y,.slice ao no co,.slice as' ns cs,.int .i64 0]) (by simp[results,Tryz.results39,go_sem,s8.1,s8.2.1,s8.2.2.1,s8.2.2.2.1,s8.2.2.2.2.1,s8.2.2.2.2.2.1,s8.2.2.2.2.2.2.1,s8.2.2.2.2.2.2.2]) rfl ⟨rfl,E8.out.drew⟩
end Go.Proofs.YtpddanmnlkcdpaaGreatDoor.Pl


/- The program: another one is met. -/
namespace Go.Proofs.YtpddanmnlkcdpaaGreatDoor.Pl
open Go.RowKit
open Kp
open Pe
open Pm
open In (Ints OwnI)
open Go.Proofs.YtpddanmnlkcdpaaGreatDoor.Nm (nameB)
open Ap (KeepE keepE_own)
open Ls (blk_alloc lowL HH hh_keep)
def newO (nm:ByteArray):Oth:=⟨nm,[],0,0,0⟩
def meetO (l:List Oth) (nm:ByteArray):List Oth:=l.take (posN l nm)++[newO nm]++l.drop (posN l nm)
def letterH (nm:ByteArray) (i:Int):Snt:=⟨nm,1,i,⟨#[]⟩,[]⟩
def meetS (fit:Rec->Bool) (s nm:ByteArray):List Snt:=(Kh.sortZ ((allR fit s).1.map (·.1))).map (letterH nm)
noncomputable def meetP (fit:Rec->Bool) (z b:Int) (r s:ByteArray) (y:Int) (l:List Oth) (nm:ByteArray):PO :=
 if 8000<nm.size then ill 2 else if (peerB fit z b r s y l && nameB nm)=false then ill 1 else if hasN l nm=true then ill 7 else if l.length=4 then ill 9 else ⟨z,b,r,s,y,meetO l nm,meetS fit s nm,0⟩
def KeepX (W W':World):Prop:=∀ (k:Nat) (cs:Array Value) (T:TypeId),W.heap[k]? = some (.cells cs T (0,0))->T≠78->T≠114->W'.heap[k]? = some (.cells cs T (0,0))
theorem own_keepX {W W':World} {base k n:Nat} {e:TypeId} {v:Value} {xs:List Value} (h:W.ownsRow base e k v n xs) (hk:KeepX W W') (h1:e≠78) (h2:e≠114):W'.ownsRow base e k v n xs:=by
 obtain⟨hl,h⟩:=h
 refine⟨hl,?_⟩
 rcases h with h|⟨g,cap,cur,hv,hg,hb,rest⟩
 ·exact .inl h
 ·exact .inr ⟨g,cap,cur,hv,hg,hk g _ _ hb h1 h2,rest⟩
theorem SendPost.keep {g base:Nat} {x:ML} {u:Value} {e z b:Int} {r s:ByteArray} {y:Int} {vo vs:Value} {m:List ML} {w w':World} (h:SendPost g base x u e z b r s y vo vs m w w') (hg:w.heap[g]? = some (wpB u e z b r s y vo vs)) (ho:OwnL w base vs m):KeepX w w':=fun k cs T hk h1 h2=>by
 obtain⟨v',_,_,h3,_⟩:=h
 unfold wpB at hg
 refine h3 k _ hk (ty_ne hk hg h1) (fun e=>?_)
 obtain⟨cs',hc⟩:=ho.blk e
 exact ty_ne hk hc h2 rfl
structure MS (w:World) (gw ga:Nat) (u:Value) (e z b:Int) (r s:ByteArray) (y:Int) (vo:Value) (mo:List MO) (ui:Value) (il:List Int) (nm:ByteArray) (j:Nat) (vs:Value) (ms:List ML) (W:World):Prop where
 low:Below w.heap.size w W
 gwb:W.heap[gw]? = some (wpB u e z b r s y vo vs)
 gab:W.heap[ga]? = some (poO 0 0 ⟨#[]⟩ ⟨#[]⟩ 0 (.slice none 0 0) (.slice none 0 0) 0)
 orow:OwnO W w.heap.size vo mo
 has:Hass W w.heap.size mo
 srow:OwnL W w.heap.size vs ms
 sm:snts ms=(il.take j).map (letterH nm)
 nl:∀ x∈ms,x.2=.slice none 0 0/\x.1.path=[]
 irow:OwnI W w.heap.size ui il
theorem pairwise_all {α:Type} {R:α->α->Prop}:∀ (l:List α),(∀ a∈l,∀ c∈l,R a c)->l.Pairwise R
 |[],_=>List.Pairwise.nil
 |x :: l,h=>List.Pairwise.cons (fun c hc=>h x (List.mem_cons_self ..) c (List.mem_cons_of_mem _ hc)) (pairwise_all l fun a ha c hc=>h a (List.mem_cons_of_mem _ ha) c (List.mem_cons_of_mem _ hc))
end Go.Proofs.YtpddanmnlkcdpaaGreatDoor.Pl


/- The program: another one is met (the walk). -/
namespace Go.Proofs.YtpddanmnlkcdpaaGreatDoor.Pl
open Go.RowKit
open Kp
open Pe
open Pm
open In (Ints OwnI)
open Go.Proofs.YtpddanmnlkcdpaaGreatDoor.Nm (nameB)
open Ap (KeepE keepE_own)
open Ls (blk_alloc lowL HH hh_keep)
theorem rec_len (fit:Rec->Bool) (s:ByteArray) (hs:s.size<=1048576):(allR fit s).1.length<=1048576:=by
 have h1:=allR_many fit s
 have h2:=allR_le fit s
 omega
theorem _root_.Go.Proofs.YtpddanmnlkcdpaaGreatDoor.Pe.OpenP.lower {fit:Rec->Bool} {s:ByteArray} {m:List MO} {base base':Nat} {W:World} {v vo:Value} {mr:List MR} {mo:List MO} (h:OpenP fit s m base W v vo mr mo) (hb:base'<=base):OpenP fit s m base' W v vo mr mo :=
 ⟨h.rs,h.row.mono hb,h.ps.mono hb,h.os,h.orow.mono hb,fun x hx=>(h.has x hx).mono hb,h.ap⟩
theorem poIn_others {W W':World} {base g:Nat} {vo vs:Value} {mo:List MO} {ms:List ML} {cs:Array Value} (h:PoIn W base vo vs mo ms) (hg:W.heap[g]? = some (.cells cs 38 (0,0))) (hk:∀ k o,W.heap[k]? = some o->k≠g->W'.heap[k]? = some o):PoIn W' base vo vs mo ms :=
 ⟨own_others h.orow hg (by decide) hk,fun x hx=>own_others (h.has x hx) hg (by decide) hk,h.ap,own_others h.srow hg (by decide) hk,fun x hx=>own_others (h.pth x hx) hg (by decide) hk,h.apl⟩
end Go.Proofs.YtpddanmnlkcdpaaGreatDoor.Pl

