/- Texts put together: Mark, KqAll, KqTop, KhHave, KhTop, PmPlace, PmAt, KqText. -/
import Derived.Test.YtpddanmnlkcdpaaGreatDoorHz18
import Derived.Test.YtpddanmnlkcdpaaGreatDoorHz12
import Derived.Deep.RegionWith
import Derived.Test.YtpddanmnlkcdpaaGreatDoorHz38
import Derived.Test.YtpddanmnlkcdpaaGreatDoorHz27
import Derived.Test.YtpddanmnlkcdpaaGreatDoorHz39
import Derived.Test.YtpddanmnlkcdpaaGreatDoorHz33
import Derived.Test.YtpddanmnlkcdpaaGreatDoorHz22
import Derived.Deep.CutRange
import Derived.Lib.SmallJoins
set_option maxRecDepth 100000
set_option maxHeartbeats 8000000
namespace Go.Proofs.YtpddanmnlkcdpaaGreatDoor.St
open Go.RowKit
def dg (k:Nat) (o:ByteArray):ByteArray:=if _h:k=0 then o else dg (k/10) (⟨#[UInt8.ofNat (48+k%10)]⟩++o)
termination_by k
decreasing_by omega
theorem dg_zero (o:ByteArray):dg 0 o=o:=by rw[dg,dif_pos rfl]
theorem dg_more (k:Nat) (o:ByteArray) (h:k≠0):dg k o=dg (k/10) (⟨#[UInt8.ofNat (48+k%10)]⟩++o):=by rw[dg,dif_neg h]
def markT (k:Nat):ByteArray:=⟨#[109]⟩++dg k ⟨#[]⟩
theorem one_str (W:World) (y:Nat) (h:y<256):(convert 168 9 (.slice (some ⟨W.heap.size,0,none⟩) 1 1)).run Tryz.prog (W.alloc (.cells #[.int .u8 (y:Int)] 5))=.ok (.string ⟨#[UInt8.ofNat y]⟩) (W.alloc (.cells #[.int .u8 (y:Int)] 5)):=by
 refine run_convert_bytes_back (P:=Tryz.prog) (W.alloc (.cells #[.int .u8 (y:Int)] 5)) 168 9 5 ⟨W.heap.size,0,none⟩ 1 [UInt8.ofNat y] Tryz.underlying168 Tryz.underlying5 Tryz.underlying9 ?_
 intro j hj
 match j,hj with
 |0,_ =>
  simp[Addr.add]
  omega
theorem markT_any (k:Nat) (w:World) (h0:0<k) (hk:k<=1099511627776) :
  Calls Tryz.prog 81 #[.int .i64 k] w fun e w'=>e=.returned (.string (markT k))/\Below w.heap.size w w':=by
 go_enter Tryz.func81,Tryz.ntmps81
 go_wp2_with fail
 go_loopw [0,3] (fun kv ov wr=>∃ (j:Nat) (o:ByteArray),kv=.int .i64 j/\ov=.string o/\dg j o=dg k ⟨#[]⟩/\o.size+j<=k/\Below w.heap.size w wr) (fun kv _ _=>(intOf kv).toNat)
 case atStart=>exact⟨k,⟨#[]⟩,rfl,rfl,rfl,by simp[ByteArray.size],Below.refl _ _⟩
 case round =>
  obtain⟨j,o,rfl,rfl,hd,hsz,hbel⟩:=hrel
  have HD:=hideT hd
  have HB:=hideT hbel
  have hsz':=hbel.size
  clear hd hbel
  by_cases hj:j=0
  ·subst hj
   have HE:Hid ((⟨#[109]⟩:ByteArray)++o=markT k):=by
    unfold Hid markT
    rw[<-HD.out,dg_zero]
   go_wp2_with fail
   go_ret
   exact⟨Nu.ret_strJ HE.out,HB.out⟩
  ·have g0:0<(j:Int):=by omega
   have hy:48+j%10<256:=by omega
   have e1:IntKind.u8.wrap (48+(j:Int)%10)=((48+j%10:Nat):Int):=by
    simp[IntKind.wrap,IntKind.bits,IntKind.signed]
    omega
   have hconv:=one_str wr (48+j%10) hy
   rw[show ((48+j%10:Nat):Int)=48+(j:Int)%10 by omega]at hconv
   have hm:=dg_more j o hj
   generalize UInt8.ofNat (48+j%10)=y at hconv hm
   have HM:=hideT hm
   have hs1:(⟨#[y]⟩:ByteArray).size=1:=rfl
   clear hm
   go_wp2_with fail
   go_roundw
   case rel =>
    refine⟨j/10,_,by go_num,rfl,by rw[<-HM.out];exact HD.out,?_,HB.out.alloc hsz' _⟩
    rw[ByteArray.size_append,hs1]
    omega
   case measure=>simp[intOf];omega
def marks (k n:Nat):List ByteArray:=(List.range n).map fun j=>markT (k+j)
theorem marks_length (k n:Nat):(marks k n).length=n:=by simp[marks]
theorem marks_get (k n j:Nat) (h:j<(marks k n).length):(marks k n)[j]=markT (k+j):=by simp[marks]
def mmid (l:List ByteArray) (k i:Nat):List ByteArray:=marks k i++l.drop i
theorem mmid_length (l:List ByteArray) (k i:Nat) (h:i<=l.length):(mmid l k i).length=l.length:=by simp[mmid,marks_length];omega
theorem mmid_zero (l:List ByteArray) (k:Nat):mmid l k 0=l:=by simp[mmid,marks]
theorem mmid_all (l:List ByteArray) (k:Nat):mmid l k l.length=marks k l.length:=by simp[mmid]
theorem mmid_next (l:List ByteArray) (k i:Nat) (h:i<l.length):(mmid l k i).set i (markT (k+i))=mmid l k (i+1):=by
 unfold mmid
 rw[List.set_append,if_neg (by rw[marks_length];omega),marks_length,Nat.sub_self]
 have:marks k (i+1)=marks k i++[markT (k+i)]:=by simp[marks,List.range_succ]
 rw[this,List.append_assoc]
 congr 1
 rw[List.drop_eq_getElem_cons h]
 rfl
end Go.Proofs.YtpddanmnlkcdpaaGreatDoor.St


namespace Go.Proofs.YtpddanmnlkcdpaaGreatDoor.Kp
open Go.RowKit
open Ls (lV cells3 lowL blkL)
open Ap (Own0 KeepE wpList_append_own0k)
open St (Strs)
def RowQ (W:World) (base:Nat) (v:Value) (m:List MR):Prop:=Own0 W base 139 3 v m.length (cellsR m)
theorem RowQ.one {W:World} {base:Nat} {v:Value} {m:List MR} (h:RowQ W base v m):∃ a cap,v=.slice a m.length cap/\(0<m.length->∃ g,a=some ⟨g,0,none⟩/\g<W.heap.size/\m.length<=cap /\
  ∀ i (hi:i<m.length),W.cell? ⟨g,i*3,none⟩=some (.int .i64 m[i].1.1)/\W.cell? ⟨g,i*3+1,none⟩=some (.string m[i].1.2.1)/\W.cell? ⟨g,i*3+2,none⟩=some m[i].2):=by
 rcases h with⟨b,rfl,hn,_⟩|⟨_,h⟩
 ·exact⟨_,0,by rw[hn],fun h=>absurd h (by omega)⟩
 ·rcases h with⟨rfl,h0⟩|⟨g,cap,cur,hv,hg,hb,hn,_,hs,ht⟩
  ·exact⟨none,0,by rw[h0],fun h=>absurd h (by omega)⟩
  ·refine⟨_,cap,hv,fun _=>⟨g,rfl,lt_rowK hb,hn,fun i hi=>?_⟩⟩
   have hc:=cellsR_at m i hi
   rw[<-ht]at hc
   rw[List.getElem?_take_of_lt (by omega),List.getElem?_take_of_lt (by omega),List.getElem?_take_of_lt (by omega),Array.getElem?_toList,Array.getElem?_toList,Array.getElem?_toList]at hc
   exact⟨(cell_of_row W g _ _ _ _ hb).trans hc.1,(cell_of_row W g _ _ _ _ hb).trans hc.2.1,(cell_of_row W g _ _ _ _ hb).trans hc.2.2⟩
theorem RowQ.below {w w':World} {base:Nat} {v:Value} {m:List MR} (h:RowQ w base v m) (b:Below w.heap.size w w'):RowQ w' base v m:=Own0.below h b
def HasOut (m:List MR) (i:Int) (e:Ending):Prop :=
 (∃ (j:Nat) (hj:j<m.length),m[j].1.1=i/\(∀ k (hk:k<j),¬(m[k]'(Nat.lt_trans hk hj)).1.1=i)/\e=.returned (.int .i64 j))∨((∀ j (hj:j<m.length),¬m[j].1.1=i)/\e=.returned (.int .i64 (-1)))
theorem l08Has_any (base n:Nat) (i:Int) (v:Value) (m:List MR) (w:World) (ho:RowQ w base v m) (hn:m.length=n) (hm:n<=1048576) :
  Calls Tryz.prog 86 #[v,.int .i64 i] w fun r w'=>HasOut m i r/\w'=w:=by
 have HN:=hideK hn
 obtain⟨a,cap,hv,hc⟩:=ho.one
 subst hv
 have HC:=hideK hc
 rw[hn]
 clear ho hc hn
 go_enter Tryz.func86,Tryz.ntmps86
 go_wp2_with fail
 go_loopw [5] (fun jv wr=>∃ (j:Nat),jv=.int .i64 j/\j<=n/\(∀ k (hk:k<m.length),k<j->¬m[k].1.1=i)/\wr=w) (fun jv _=>n-(intOf jv).toNat)
 case atStart=>exact⟨0,rfl,Nat.zero_le _,fun k _ h=>absurd h (Nat.not_lt_zero _),rfl⟩
 case round =>
  obtain⟨j,rfl,hj,hno,hw⟩:=hrel
  subst wr
  have NO:=hideK hno
  clear hno
  by_cases hlt:j<n
  ·have hlt':(j:Int)<(n:Int):=by omega
   have hjm:j<m.length:=by rw[HN.out];exact hlt
   obtain⟨g,rfl,hgl,_,hcl⟩:=HC.out (by rw[HN.out];omega)
   have e0:=(hcl j hjm).1
   have HI:Hid (m[j].1.1=i->HasOut m i (.returned (.int .i64 j))):=fun he=>.inl ⟨j,hjm,he,fun k hk=>NO.out k (Nat.lt_trans hk hjm) hk,rfl⟩
   have HQ:Hid (¬m[j].1.1=i->∀ k (hk:k<m.length),k<j+1->¬m[k].1.1=i):=fun he k hk hk1=>by
    by_cases hkj:k<j
    ·exact NO.out k hk hkj
    ·have:k=j:=by omega
     subst this
     exact he
   generalize m[j].1.1=xi at e0 HI HQ
   clear hcl hjm
   by_cases he:xi=i
   ·subst he
    have HI2:=hideK (HI.out rfl)
    go_wp2_with fail
    go_ret
    exact⟨HI2.out,rfl⟩
   ·have he':(xi==i)=false:=beq_eq_false_iff_ne.2 he
    have HQ2:=hideK (HQ.out he)
    go_wp2_with fail
    go_roundw
    case rel=>exact⟨j+1,by go_num,by omega,HQ2.out,by trivial⟩
    case measure=>simp[intOf];omega
  ·have hltD:decide ((j:Int)<(n:Int))=false:=by simp;omega
   have hlt2:¬((j:Int)<(n:Int)):=by omega
   have NN:Hid (HasOut m i (.returned (.int .i64 (-1)))):=.inr ⟨fun k hk=>NO.out k hk (by have:=HN.out;omega),rfl⟩
   go_wp2_with fail
   go_ret
   exact⟨NN.out,rfl⟩
theorem HasOut.cases {m:List MR} {i:Int} {e:Ending} (h:HasOut m i e):(hasR (recs m) i=true/\∃ j:Nat,e=.returned (.int .i64 j))∨(hasR (recs m) i=false/\e=.returned (.int .i64 (-1))):=by
 rcases h with⟨j,hj,he,_,rfl⟩|⟨hno,rfl⟩
 ·exact .inl ⟨find_some hj he,j,rfl⟩
 ·exact .inr ⟨find_none hno,rfl⟩
def FitS (fit:Rec->Bool) (z b:Int) (r:ByteArray) (w:World):Prop :=
 ∀ (W:World) (x:MR),Below w.heap.size w W->x.1.2.1.size<=8000->x.1.2.2.length<=20->(∃ a cap,x.2=.slice a x.1.2.2.length cap/\x.1.2.2.length<=cap/\Strs W W.heap.size a x.1.2.2)->Calls Tryz.prog 104 #[lV z b r,.int .i64 x.1.1,.string x.1.2.1,x.2] W fun e w'=>e=.returned (.bool (fit x.1))/\Below W.heap.size W w'
theorem FitS.later {fit:Rec->Bool} {z b:Int} {r:ByteArray} {w w':World} (h:FitS fit z b r w) (hb:Below w.heap.size w w'):FitS fit z b r w':=fun W x hW=>h W x (lowL hb hW)
def AllOut (fit:Rec->Bool) (s:ByteArray) (base:Nat) (e:Ending) (w':World):Prop :=
 ∃ v m,e=.returned (.tuple #[v,.int .i64 (allR fit s).2])/\recs m=(allR fit s).1/\RowQ w' base v m/\Paths w' m
structure FarQ (fit:Rec->Bool) (z b:Int) (r s:ByteArray) (gl:Nat) (w wr:World) (v:Value) (m:List MR) (e:Nat):Prop where
 cx:Cx w wr [(gl,.cells #[.int .i64 z,.int .i64 b,.string r] 30)]
 all:goR fit s (s.size-e) (recs m) e=allR fit s
 row:RowQ wr w.heap.size v m
 ps:Paths wr m
 ml:m.length<=e
 el:e<=s.size
theorem FarQ.call {fit:Rec->Bool} {z b:Int} {r s:ByteArray} {gl:Nat} {w wr w':World} {v:Value} {m:List MR} {e:Nat} (h:FarQ fit z b r s gl w wr v m e) (hb:Below wr.heap.size wr w'):FarQ fit z b r s gl w w' v m e :=
 ⟨h.cx.call hb,h.all,h.row.below hb,h.ps.keeps (KeepsS.below hb),h.ml,h.el⟩
theorem FarQ.put {fit:Rec->Bool} {z b:Int} {r s:ByteArray} {gl:Nat} {w wr w':World} {v v':Value} {m:List MR} {e:Nat} {x:Rec × Nat} {xv:Value} (h:FarQ fit z b r s gl w wr v m e) (hx:recR s e=some x) (hf:fit x.1=true) (hh:hasR (recs m) x.1.1=false) (hp:PathIn wr xv x.1.2.2)
  (h2:w'.ownsRow w.heap.size 139 3 v' (m.length+1) (cellsR m++[.int .i64 x.1.1,.string x.1.2.1,xv])) (h3:∀ B,B<=w.heap.size->Below B wr w') (h4:KeepE 139 wr w'):FarQ fit z b r s gl w w' v' (m++[(x.1,xv)]) x.2:=by
 have hfx:=recR_facts hx
 have hk:KeepsS wr w':=fun g cur hg=>h4 g cur _ (by decide) hg
 refine⟨⟨h.cx.low.trans (h3 _ (Nat.le_refl _)),?_⟩,?_,.inr ?_,?_,?_,hfx.2.1⟩
 ·intro q hq
  rw[List.mem_singleton.1 hq]
  exact h4 gl _ _ (by decide) (h.cx.get 0 rfl)
 ·rw[<-h.all,goR_step hx hf hh]
  unfold recs
  rw[List.map_append]
  rfl
 ·rw[List.length_append,cellsR_append]
  exact h2
 ·intro q hq
  rcases List.mem_append.1 hq with hq|hq
  ·exact(h.ps q hq).keeps hk
  ·rw[List.mem_singleton.1 hq]
   exact hp.keeps hk
 ·rw[List.length_append]
  have:=h.ml
  simp
  omega
theorem Tryz.infoRecordS:(Tryz.prog.info? 139).map (fun i=>(i.zero,i.size,i.bytes))=some (some (.agg #[.int .i64 0,.string ⟨#[]⟩,.slice none 0 0]),3,48):=by kernel_rfl
theorem FarQ.done {fit:Rec->Bool} {z b:Int} {r s:ByteArray} {gl:Nat} {w wr:World} {v:Value} {m:List MR} {e:Nat} (h:FarQ fit z b r s gl w wr v m e) (hd:goR fit s (s.size-e) (recs m) e=(recs m,e)):AllOut fit s w.heap.size (.returned (.tuple #[v,.int .i64 e])) wr/\Below w.heap.size w wr:=by
 have hall:allR fit s=(recs m,e):=by rw[<-h.all,hd]
 exact⟨⟨v,m,by rw[hall],by rw[hall],h.row,h.ps⟩,h.cx.low⟩
theorem l08All_any (fit:Rec->Bool) (z b:Int) (r s:ByteArray) (w:World) (hs:s.size<=1048576) (hf:FitS fit z b r w) :
  Calls Tryz.prog 61 #[lV z b r,.string s] w fun e w'=>AllOut fit s w.heap.size e w'/\Below w.heap.size w w':=by
 obtain⟨i0,hif,hz0,hz1,hz2⟩:=info_parts Tryz.infoRecordS
 have HF:=hideK hf
 have C0:=hideK (((Cx.nil w).new (.cells #[.int .i64 z,.int .i64 b,.string r] 30)))
 unfold lV
 clear hf
 go_enter Tryz.func61,Tryz.ntmps61
 go_wp2_with fail
 have F0:Hid (FarQ fit z b r s w.heap.size w ((w.alloc (.cells #[.int .i64 z,.int .i64 b,.string r] 30)).alloc (.cells #[] 139)) (.slice (some ⟨w.heap.size+1,0,none⟩) 0 0) [] 0):=⟨C0.out.call ((Below.refl _ _).alloc (Nat.le_refl _) _),rfl,.inl ⟨_,rfl,rfl,rfl⟩,fun x hx=>absurd hx List.not_mem_nil,Nat.zero_le _,Nat.zero_le _⟩
 clear C0
 go_loopw [6,7,8,9,10] (fun lv ev _ _ _ wr=>∃ v m e,lv=v/\ev=.int .i64 ((e:Nat):Int)/\FarQ fit z b r s w.heap.size w wr v m e) (fun _ ev _ _ _ _=>s.size-(intOf ev).toNat)
 case atStart=>exact⟨_,[],0,rfl,rfl,F0.out⟩
 case round =>
  obtain⟨v,m,e,rfl,rfl,hfar⟩:=hrel
  have F:=hideK hfar
  obtain⟨a0,cap0,hv,_⟩:=hfar.row.one
  subst hv
  clear hfar F0
  by_cases hlt:e<s.size
  ·have hlt':(e:Int)<(s.size:Int):=by omega
   have HRR:=hideK (l08Read_any s e wr hs)
   go_wp2_with fail
   refine HRR.out.mono ?_
   rintro e' w1 ⟨hro,hb⟩
   have F1:=hideK (F.out.call hb)
   clear hb HRR F
   rcases hro with⟨x,xv,hx,rfl,hp⟩|⟨hx,xi,xt,xa,xn,xc,xk,rfl⟩
   ·obtain⟨ap,cp,rfl,_,_⟩:=hp.strs
    have hfx:=recR_facts hx
    have HX:=hideK hx
    have F2:=hideK (F1.out.call ((Below.refl _ w1).alloc (Nat.le_refl _) (.cells #[.int .i64 x.1.1,.string x.1.2.1,.slice ap x.1.2.2.length cp] 139)))
    have P2:=hideK (hp.keeps (KeepsS.below ((Below.refl _ w1).alloc (Nat.le_refl _) (.cells #[.int .i64 x.1.1,.string x.1.2.1,.slice ap x.1.2.2.length cp] 139))))
    have X2:Hid ((w1.alloc (.cells #[.int .i64 x.1.1,.string x.1.2.1,.slice ap x.1.2.2.length cp] 139)).heap[w1.heap.size]? = some (.cells #[.int .i64 x.1.1,.string x.1.2.1,.slice ap x.1.2.2.length cp] 139 (0,0))):=heap_alloc_new w1 _
    clear hp hx F1
    obtain⟨⟨xi,xt,xp⟩,xe⟩:=x
    dsimp only at F2 P2 X2 HX hfx ⊢
    go_upto_region 5 with fail
    generalize w1.alloc (.cells #[.int .i64 xi,.string xt,.slice ap xp.length cp] 139)=W2 at F2 P2 X2 ⊢
    generalize w1.heap.size=gx at X2 ⊢
    obtain⟨x0,x1,x2⟩:=cells3 X2.out
    obtain⟨l0,l1,l2⟩:=cells3 (F2.out.cx.get 0 rfl)
    have HHS:=hideK (l08Has_any w.heap.size m.length xi _ m W2 F2.out.row rfl (by have:=F2.out.ml;have:=F2.out.el;omega))
    have HFX:=hideK (HF.out W2 ((xi,xt,xp),.slice ap xp.length cp) F2.out.cx.low hfx.2.2.2.2 hfx.2.2.2.1 P2.out.strs)
    unfold lV at HFX
    dsimp only at HFX
    go_wp2_with fail
    refine HHS.out.mono ?_
    rintro e3 w3 ⟨hho,hw⟩
    subst w3
    rcases hho.cases with⟨hhas,jh,rfl⟩|⟨hhas,rfl⟩
    ·have HBD:Hid (goR fit s (s.size-e) (recs m) e=(recs m,e)):=goR_bad HX.out (fun h=>by have:=h.2;rw[hhas]at this;cases this)
     have HD:=hideK (F2.out.done HBD.out)
     clear hho hhas HHS HFX
     go_wp2_with fail
     go_ret2
     exact HD.out
    ·cases hfit:fit (xi,xt,xp) with
     |false =>
      rw[hfit]at HFX
      have HBD:Hid (goR fit s (s.size-e) (recs m) e=(recs m,e)):=goR_bad HX.out (fun h=>by have:=h.1;rw[hfit]at this;cases this)
      clear hho hhas HHS hfit
      go_wp2_with fail
      refine HFX.out.mono ?_
      rintro e4 w4 ⟨rfl,hb⟩
      have HD:=hideK ((F2.out.call hb).done HBD.out)
      clear hb
      go_wp2_with fail
      go_ret2
      exact HD.out
     |true =>
      rw[hfit]at HFX
      have HXF:=hideK (And.intro hfit hhas)
      clear hho hhas HHS hfit
      go_wp2_with fail
      refine HFX.out.mono ?_
      rintro e4 w4 ⟨rfl,hb⟩
      have F4:=hideK (F2.out.call hb)
      have P4:=hideK (P2.out.keeps (KeepsS.below hb))
      have X4:=hideK (blkL X2.out hb)
      clear hb F2 P2 X2 HFX x0 x1 x2 l0 l1 l2
      obtain⟨x0,x1,x2⟩:=cells3 X4.out
      have F5:=hideK (F4.out.call ((Below.refl _ w4).alloc (Nat.le_refl _) (.cells #[.int .i64 xi,.string xt,.slice ap xp.length cp] 139)))
      have P5:=hideK (P4.out.keeps (KeepsS.below ((Below.refl _ w4).alloc (Nat.le_refl _) (.cells #[.int .i64 xi,.string xt,.slice ap xp.length cp] 139))))
      have hlow:=F4.out.cx.low.size
      have hml:=F4.out.ml
      have hel:=F4.out.el
      have ROW:Hid (Own0 (w4.alloc (.cells #[.int .i64 xi,.string xt,.slice ap xp.length cp] 139)) w.heap.size 139 3 (.slice a0 m.length cap0) m.length (cellsR m)):=F5.out.row
      have FP:=hideK (fun (wb:World) (va:Value)=>F5.out.put (w':=wb) (v':=va) (x:=((xi,xt,xp),xe)) (xv:=.slice ap xp.length cp) HX.out HXF.out.1 HXF.out.2 P5.out)
      dsimp only at FP
      generalize hmn:m.length=n at ROW FP hml ⊢
      go_wp2_with (at_builtin;refine wpList_append_own0k _ rfl (.tmp 43) (.tmp 45) 67 rfl w.heap.size 139 i0 _ 3 48 Tryz.underlying67 hif hz0 hz1 hz2 rfl (by decide) _ _ _ rfl ROW.out ⟨w4.heap.size,0,none⟩ 1 1 [.int .i64 xi,.string xt,.slice ap xp.length cp] rfl rfl (three_new w4 _ _ _ _) (three_one rfl rfl rfl) (by decide) (by unfold maxLen;omega) (by omega) (by simp;omega) ?_)
      intro v' w5 hown hB hK
      have F6:=hideK (FP.out w5 v' hown hB hK)
      clear hown hB hK FP ROW F5 P5 F4 P4 X4 x0 x1 x2
      go_wp2_with fail
      go_roundw
      case rel=>exact⟨_,_,_,rfl,rfl,F6.out⟩
      case measure=>simp[intOf];omega
   ·have HBD:Hid (goR fit s (s.size-e) (recs m) e=(recs m,e)):=goR_none hx
    have F2:=hideK (F1.out.call ((Below.refl _ w1).alloc (Nat.le_refl _) (.cells #[.int .i64 xi,.string xt,.slice xa xn xc] 139)))
    have HD:=hideK (F2.out.done HBD.out)
    clear hx F1 F2
    go_wp2_with fail
    go_ret2
    exact HD.out
  ·have hltD:decide ((e:Int)<(s.size:Int))=false:=by simp;omega
   have hlt2:¬((e:Int)<(s.size:Int)):=by omega
   have HBD:Hid (goR fit s (s.size-e) (recs m) e=(recs m,e)):=goR_end (by omega)
   have HD:=hideK (F.out.done HBD.out)
   go_wp2_with fail
   go_ret2
   exact HD.out
end Go.Proofs.YtpddanmnlkcdpaaGreatDoor.Kp


namespace Go.Proofs.YtpddanmnlkcdpaaGreatDoor.Kp
open Go.RowKit
open Bi (is_yes is_no)
open Ls (rightB right_spec lV lowL blkL cells3 set3_all)
theorem keepB_no {fit:Rec->Bool} {z b:Int} {r s:ByteArray} {y:Int} (h:¬(rightB z b r=true/\s.size<=8000/\0<=y/\y<=s.size)):keepB fit z b r s y=false:=by
 rw[<-Bool.not_eq_true]
 intro h2
 obtain⟨h3,_,h5⟩:=keepB_yes h2
 unfold mayB at h3
 unfold spanB at h5
 simp only[Bool.and_eq_true,decide_eq_true_eq]at h3 h5
 exact h ⟨h3.1,h3.2,h5.1,h5.2⟩
theorem keepB_at {fit:Rec->Bool} {z b:Int} {r s:ByteArray} {y:Int} (h:rightB z b r=true/\s.size<=8000/\0<=y/\y<=s.size):keepB fit z b r s y=(((allR fit s).2:Int)==(s.size:Int)):=by
 unfold keepB atB mayB spanB
 rw[h.1,decide_eq_true h.2.1,decide_eq_true h.2.2.1,decide_eq_true h.2.2.2]
 by_cases he:(allR fit s).2=s.size
 ·rw[decide_eq_true he,he];simp
 ·rw[decide_eq_false he];simp;omega
theorem keepRight_spec (fit:Rec->Bool) (z b:Int) (r s:ByteArray) (y:Int) (w:World) (hs:s.size<=1048576) (hf:rightB z b r=true->FitS fit z b r w) :
  Calls Tryz.prog 58 #[kV z b r s y] w fun e w'=>e=.returned (.bool (keepB fit z b r s y))/\Below w.heap.size w w':=by
 have C0:=hideK ((Cx.nil w).new (kB z b r s y))
 have HR:=hideK (fun W=>right_spec z b r W)
 unfold kV
 unfold kB at C0
 unfold lV at HR
 cases hr:rightB z b r with
 |false =>
  have HK:=hideK (keepB_no (fit:=fit) (z:=z) (b:=b) (r:=r) (s:=s) (y:=y) (fun h=>by rw[hr]at h;exact Bool.false_ne_true h.1))
  rw[HK.out]
  rw[hr]at HR
  clear hr HK hf
  go_enter Tryz.func58,Tryz.ntmps58
  go_wp2_with fail
  refine(HR.out _).mono ?_
  rintro e w1 ⟨rfl,hb⟩
  have C1:=hideK (C0.out.call hb)
  clear hb C0
  go_wp2_with fail
  go_ret
  exact⟨rfl,C1.out.low⟩
 |true =>
  rw[hr]at HR
  by_cases h8:s.size<=8000
  ·have h8':¬((8000:Int)<s.size):=by omega
   have h8D:decide ((8000:Int)<s.size)=false:=by simp;omega
   by_cases hy:0<=y/\y<=s.size
   ·have HIS:=hideK (fun W=>is_yes y 0 s.size W hy.1 hy.2)
    have HK:=hideK (keepB_at (fit:=fit) ⟨hr,h8,hy.1,hy.2⟩)
    rw[HK.out]
    have HA:=hideK (fun W (h:Below w.heap.size w W)=>l08All_any fit z b r s W hs ((hf hr).later h))
    unfold AllOut lV at HA
    clear hr HK hf hy
    go_enter Tryz.func58,Tryz.ntmps58
    go_wp2_with fail
    refine(HR.out _).mono ?_
    rintro e w1 ⟨rfl,hb⟩
    have C1:=hideK (C0.out.call hb)
    clear hb C0
    obtain⟨l0,l1,l2,l3,l4⟩:=k_cells (C1.out.get 0 rfl)
    go_wp2_with fail
    refine(HIS.out _).mono ?_
    rintro e w2 ⟨rfl,hw⟩
    subst w2
    go_wp2_with fail
    refine(HA.out _ C1.out.low).mono ?_
    rintro e w3 ⟨⟨v,m,rfl,h1,h2,h3⟩,hb⟩
    obtain⟨a0,cap0,hv,_⟩:=h2.one
    subst hv
    have C3:=hideK (C1.out.call hb)
    clear hb h1 h2 h3 C1 l0 l1 l2 l3 l4 HA
    obtain⟨l0,l1,l2,l3,l4⟩:=k_cells (C3.out.get 0 rfl)
    go_wp2_with fail
    go_ret
    exact⟨rfl,C3.out.low⟩
   ·have HIS:=hideK (fun W=>is_no y 0 s.size W (by omega))
    have HK:=hideK (keepB_no (fit:=fit) (z:=z) (b:=b) (r:=r) (s:=s) (y:=y) (fun h=>hy ⟨h.2.2.1,h.2.2.2⟩))
    rw[HK.out]
    clear hr HK hf hy
    go_enter Tryz.func58,Tryz.ntmps58
    go_wp2_with fail
    refine(HR.out _).mono ?_
    rintro e w1 ⟨rfl,hb⟩
    have C1:=hideK (C0.out.call hb)
    clear hb C0
    obtain⟨l0,l1,l2,l3,l4⟩:=k_cells (C1.out.get 0 rfl)
    go_wp2_with fail
    refine(HIS.out _).mono ?_
    rintro e w2 ⟨rfl,hw⟩
    subst w2
    go_wp2_with fail
    go_ret
    exact⟨rfl,C1.out.low⟩
  ·have h8':(8000:Int)<s.size:=by omega
   have HK:=hideK (keepB_no (fit:=fit) (z:=z) (b:=b) (r:=r) (s:=s) (y:=y) (fun h=>h8 h.2.1))
   rw[HK.out]
   clear hr HK hf
   go_enter Tryz.func58,Tryz.ntmps58
   go_wp2_with fail
   refine(HR.out _).mono ?_
   rintro e w1 ⟨rfl,hb⟩
   have C1:=hideK (C0.out.call hb)
   clear hb C0
   obtain⟨l0,l1,l2,l3,l4⟩:=k_cells (C1.out.get 0 rfl)
   go_wp2_with fail
   go_ret
   exact⟨rfl,C1.out.low⟩
theorem k_set {W:World} {g:Nat} {z b:Int} {r s:ByteArray} {y:Int} (h:W.heap[g]? = some (kB z b r s y)) (t:ByteArray) (x:Int):(W.setCell ⟨g,3,none⟩ (.string t)).heap[g]? = some (kB z b r t y)/\(W.setCell ⟨g,4,none⟩ (.int .i64 x)).heap[g]? = some (kB z b r s x):=by
 unfold kB at h ⊢
 exact⟨by rw[heap_setCell_same W g 3 _ _ _ h];rfl,by rw[heap_setCell_same W g 4 _ _ _ h];rfl⟩
end Go.Proofs.YtpddanmnlkcdpaaGreatDoor.Kp


/- Have of the program: the indexes that are there, rising. -/
namespace Go.Proofs.YtpddanmnlkcdpaaGreatDoor.Kp
open Go.RowKit
open Ls (HH hh_keep lV lowL blkL cells3)
open In (OwnI one_newI one_cellI app_one)
open In.Tryz (infoI2)
open Kh (sortZ)
def idxs (m:List MR):List Int:=m.map (·.1.1)
theorem ownI_alloc {w:World} {base:Nat} {v:Value} {l:List Int} (h:OwnI w base v l) (o:Obj):OwnI (w.alloc o) base v l:=h.below ((Below.refl _ _).alloc (Nat.le_refl _) o)
end Go.Proofs.YtpddanmnlkcdpaaGreatDoor.Kp


/- Have of the program: what it answers. -/
namespace Go.Proofs.YtpddanmnlkcdpaaGreatDoor.Kp
open Go.RowKit
open Ls (HH hh_keep lV lowL blkL cells3)
open In (OwnI)
open Kh (sortZ)
def haveL (fit:Rec->Bool) (z b:Int) (r s:ByteArray) (y:Int):List Int:=if keepB fit z b r s y=true then sortZ ((allR fit s).1.map (·.1)) else []
end Go.Proofs.YtpddanmnlkcdpaaGreatDoor.Kp


namespace Go.Proofs.YtpddanmnlkcdpaaGreatDoor.Pm
open Go.RowKit
open Kp (hideK lt_rowK)
open Pe
def posN (l:List Oth) (nm:ByteArray):Nat:=(l.takeWhile fun o=>ltN o.name nm).length
def hasN (l:List Oth) (nm:ByteArray):Bool:=l.any fun o=>decide (o.name=nm)
def Ris (m:List MO):Prop:=∀ i j (hi:i<m.length) (hj:j<m.length),i<j->ltN m[i].1.name m[j].1.name=true
theorem posN_of {l:List Oth} {nm:ByteArray}:∀ {i:Nat},i<=l.length->(∀ t (h:t<l.length),t<i->ltN l[t].name nm=true)->(∀ (h:i<l.length),ltN l[i].name nm=false)->posN l nm=i:=by
 induction l with
 |nil=>intro i hi _ _;simp at hi;subst hi;rfl
 |cons x xs ih =>
  intro i hi h1 h2
  cases i with
  |zero =>
   have:=h2 (by simp)
   unfold posN
   rw[List.takeWhile_cons]
   simp at this
   simp[this]
  |succ i =>
   have h0:=h1 0 (by simp) (by omega)
   have:=ih (i:=i) (by simpa using hi) (fun t ht hti=>h1 (t+1) (by simpa using ht) (by omega)) (fun h=>h2 (by simpa using h))
   unfold posN at this ⊢
   rw[List.takeWhile_cons]
   simp at h0
   simp[h0,this]
theorem near_any (x:MO) (nm:ByteArray) (w:World) :
  Calls Tryz.prog 73 #[othV x,.string nm] w fun e w'=>e=.returned (.int .i64 (cmpZ x.1.name nm))/\Below w.heap.size w w':=by
 have X0:Hid ((w.alloc (othO x 86)).heap[w.heap.size]? = some (othO x 86)):=heap_alloc_new w _
 have B0:Hid (Below w.heap.size w (w.alloc (othO x 86))):=(Below.refl _ _).alloc (Nat.le_refl _) _
 unfold othV
 unfold othO at X0 B0
 go_enter Tryz.func73,Tryz.ntmps73
 go_upto_region 1 with fail
 generalize w.alloc _=W0 at X0 B0 ⊢
 have c0:=cell_of_row W0 w.heap.size 0 _ _ _ X0.out
 go_wp2_with fail
 refine(cmp_any _ _ _).mono ?_
 rintro e w1 ⟨rfl,hw⟩
 subst w1
 go_wp2_with fail
 go_ret
 exact⟨rfl,B0.out⟩
theorem has_at {m:List MO} {nm:ByteArray} {i:Nat} (hr:Ris m) (hi:i<=m.length) (lo:∀ t (h:t<m.length),t<i->ltN m[t].1.name nm=true) (hiq:∀ t (h:t<m.length),i<=t->ltN m[t].1.name nm=false):hasN (oths m) nm=if h:i<m.length then decide (m[i].1.name=nm) else false:=by
 have hany:hasN (oths m) nm=true↔∃ t,∃ h:t<m.length,m[t].1.name=nm:=by
  unfold hasN oths
  rw[List.any_eq_true]
  constructor
  ·rintro⟨o,ho,hd⟩
   obtain⟨x,hx,rfl⟩:=List.mem_map.1 ho
   obtain⟨t,ht,rfl⟩:=List.getElem_of_mem hx
   exact⟨t,ht,of_decide_eq_true hd⟩
  ·rintro⟨t,ht,he⟩
   exact⟨m[t].1,List.mem_map.2 ⟨m[t],List.getElem_mem ht,rfl⟩,decide_eq_true he⟩
 have honly:∀ t (h:t<m.length),m[t].1.name=nm->t=i:=fun t ht he=>by
  by_cases h1:t<i
  ·have:=lo t ht h1
   rw[he,ltN_self]at this
   cases this
  ·by_cases h2:t=i
   ·exact h2
   ·have h3:=hr i t (by omega) ht (by omega)
    rw[he]at h3
    rw[hiq i (by omega) (Nat.le_refl _)]at h3
    cases h3
 cases hh:hasN (oths m) nm with
 |true =>
  obtain⟨t,ht,he⟩:=hany.1 hh
  have:=honly t ht he
  subst this
  rw[dif_pos ht,decide_eq_true he]
 |false =>
  split
  ·rename_i h
   rw[decide_eq_false]
   intro he
   rw[hany.2 ⟨i,h,he⟩]at hh
   cases hh
  ·rfl
structure Sr (w:World) (m:List MO) (nm:ByteArray) (n i j:Nat) (wr:World):Prop where
 ij:i<=j
 jn:j<=n
 lo:∀ t (h:t<m.length),t<i->ltN m[t].1.name nm=true
 hi:∀ t (h:t<m.length),j<=t->ltN m[t].1.name nm=false
 low:Below w.heap.size w wr
theorem search_any (a:Option Addr) (n cap:Nat) (m:List MO) (nm:ByteArray) (w:World) (h:Oths w w.heap.size a m) (hm:m.length=n) (hn:n<=1048576) (hr:Ris m) :
  Calls Tryz.prog 72 #[.slice a n cap,.string nm,.func (.func 73) #[] #[]] w fun e w'=>e=.returned (.tuple #[.int .i64 ((posN (oths m) nm:Nat):Int),.bool (hasN (oths m) nm)])/\Below w.heap.size w w':=by
 have H0:=hideK h
 have HM:=hideK hm
 have HR:=hideK hr
 clear h hm hr
 go_enter Tryz.func72,Tryz.ntmps72
 go_wp2_with fail
 go_loopw [9,10] (fun iv jv wr=>∃ i j:Nat,iv=.int .i64 i/\jv=.int .i64 j/\Sr w m nm n i j wr) (fun iv jv _=>(intOf jv).toNat-(intOf iv).toNat)
 case atStart=>exact⟨0,n,rfl,rfl,Nat.zero_le _,Nat.le_refl _,fun t _ h=>absurd h (by omega),fun t ht h=>absurd ht (by have:=HM.out;omega),Below.refl _ _⟩
 case round =>
  obtain⟨i,j,rfl,rfl,hs⟩:=hrel
  have hij:=hs.ij
  have hjn:=hs.jn
  have S0:=hideK hs
  clear hs
  by_cases hlt:i<j
  ·have hlti:(i:Int)<(j:Int):=by omega
   have hltd:decide ((i:Int)<(j:Int))=true:=by simp;omega
   have hadd:IntKind.i64.wrap ((i:Int)+(j:Int))=(i:Int)+(j:Int):=by rw[IntKind.wrap_i64];omega
   have hu:IntKind.u64.wrap ((i:Int)+(j:Int))=(i:Int)+(j:Int):=by rw[IntKind.wrap_u64];omega
   obtain⟨k,hmid,hki,hkj⟩:∃ k:Nat,((i:Int)+(j:Int))/2=(k:Int)/\i<=k/\k<j:=⟨(i+j)/2,by omega,by omega,by omega⟩
   have hkm:k<m.length:=by have:=HM.out;omega
   have hk0:(0:Int)<=(k:Int):=by omega
   have hkn:(k:Int)<(n:Int):=by omega
   have hkn':¬(n:Int)<=(k:Int):=by omega
   have hkw:IntKind.i64.wrap ((k:Int)+1)=(k:Int)+1:=by rw[IntKind.wrap_i64];omega
   obtain⟨b,off,ha,hb,hc⟩:=(H0.out.later S0.out.low).some (by omega)
   subst ha
   obtain⟨c0,c1,c2,c3,c4⟩:=hc k hkm
   have HN:=hideK (fun W=>near_any m[k] nm W)
   have HLO:Hid (cmpZ m[k].1.name nm<0->Sr w m nm n (k+1) j wr):=fun hz=>⟨by omega,hjn,fun t ht htk=>by
    by_cases e:t=k
    ·subst e
     exact(cmpZ_less _ _).1 hz
    ·by_cases e2:t<i
     ·exact S0.out.lo t ht e2
     ·have h1:=HR.out t k ht hkm (by omega)
      exact ltN_trans h1 ((cmpZ_less _ _).1 hz),S0.out.hi,S0.out.low⟩
   have HHI:Hid (¬cmpZ m[k].1.name nm<0->Sr w m nm n i k wr):=fun hz=>⟨hki,by omega,S0.out.lo,fun t ht htk=>by
    have hk':ltN m[k].1.name nm=false:=by
     cases q:ltN m[k].1.name nm with
     |false=>rfl
     |true=>exact absurd ((cmpZ_less _ _).2 q) hz
    by_cases e:t=k
    ·subst e
     exact hk'
    ·have h1:=HR.out k t hkm ht (by omega)
     cases q:ltN m[t].1.name nm with
     |false=>rfl
     |true =>
      rw[ltN_trans h1 q]at hk'
      exact Bool.noConfusion hk',S0.out.low⟩
   unfold othV at HN
   generalize m[k]=x at c0 c1 c2 c3 c4 HN HLO HHI
   clear hc
   go_wp2_with fail
   refine(HN.out _).mono ?_
   rintro e w1 ⟨rfl,hb1⟩
   have K1:=hideK hb1
   clear hb1 c0 c1 c2 c3 c4
   generalize cmpZ x.1.name nm=cz at HLO HHI
   by_cases hz:cz<0
   ·have S1:=hideK (HLO.out hz)
    go_wp2_with fail
    go_roundw
    case rel=>exact⟨k+1,j,by go_num,rfl,⟨S1.out.ij,S1.out.jn,S1.out.lo,S1.out.hi,S1.out.low.trans (K1.out.mono S1.out.low.size)⟩⟩
    case measure=>simp[intOf];omega
   ·have S1:=hideK (HHI.out (by omega))
    go_wp2_with fail
    go_roundw
    case rel=>exact⟨i,k,rfl,rfl,⟨S1.out.ij,S1.out.jn,S1.out.lo,S1.out.hi,S1.out.low.trans (K1.out.mono S1.out.low.size)⟩⟩
    case measure=>simp[intOf];omega
  ·have hlti:¬(i:Int)<(j:Int):=by omega
   have hltd:decide ((i:Int)<(j:Int))=false:=by simp;omega
   obtain rfl:i=j:=by omega
   have HP:Hid (posN (oths m) nm=i):=by
    refine posN_of (by rw[oths_length,HM.out];exact hjn) (fun t ht hti=>?_) (fun ht=>?_)
    ·have:=S0.out.lo t (by rw[oths_length]at ht;exact ht) hti
     rw[oths_get m t (by rw[oths_length]at ht;exact ht)]
     exact this
    ·have:=S0.out.hi i (by rw[oths_length]at ht;exact ht) (Nat.le_refl _)
     rw[oths_get m i (by rw[oths_length]at ht;exact ht)]
     exact this
   have HH:Hid (hasN (oths m) nm=if h:i<m.length then decide (m[i].1.name=nm) else false):=by
    refine has_at HR.out (by rw[HM.out];exact hjn) S0.out.lo (fun t ht hti=>S0.out.hi t ht hti)
   by_cases hin:i<n
   ·have hini:(i:Int)<(n:Int):=by omega
    have hind:decide ((i:Int)<(n:Int))=true:=by simp;omega
    have him:i<m.length:=by rw[HM.out];exact hin
    have hi0:(0:Int)<=(i:Int):=by omega
    have hin':¬(n:Int)<=(i:Int):=by omega
    have HHV:Hid (hasN (oths m) nm=decide (m[i].1.name=nm)):=HH.out.trans (dif_pos him)
    obtain⟨b,off,ha,hb,hc⟩:=(H0.out.later S0.out.low).some (by omega)
    subst ha
    obtain⟨c0,c1,c2,c3,c4⟩:=hc i him
    have HN:=hideK (fun W=>near_any m[i] nm W)
    have HZ:=hideK (cmpZ_zero m[i].1.name nm)
    have BL:=hideK S0.out.low
    unfold othV at HN
    generalize m[i]=x at c0 c1 c2 c3 c4 HN HZ HHV
    clear hc HH S0
    go_wp2_with fail
    refine(HN.out _).mono ?_
    rintro e w1 ⟨rfl,hb1⟩
    have K1:=hideK (BL.out.trans (hb1.mono BL.out.size))
    clear hb1 c0 c1 c2 c3 c4
    have HQ:Hid ((cmpZ x.1.name nm==0)=decide (x.1.name=nm)):=by
     by_cases e:x.1.name=nm
     ·rw[decide_eq_true e,(HZ.out).2 e];rfl
     ·rw[decide_eq_false e,beq_eq_false_iff_ne]
      exact fun q=>e (HZ.out.1 q)
    have HHW:=hideK (HHV.out.trans HQ.out.symm)
    clear HHV HQ HZ
    generalize cmpZ x.1.name nm=cz at HHW ⊢
    go_wp2_with fail
    go_ret2
    exact⟨by rw[HP.out,HHW.out];rfl,K1.out⟩
   ·have hini:¬(i:Int)<(n:Int):=by omega
    have hind:decide ((i:Int)<(n:Int))=false:=by simp;omega
    have HHV:Hid (hasN (oths m) nm=false):=HH.out.trans (dif_neg (by rw[HM.out];exact hin))
    have BL:=hideK S0.out.low
    clear HH S0
    go_wp2_with fail
    go_ret2
    exact⟨by rw[HP.out,HHV.out];rfl,BL.out⟩
theorem place_any (gw:Nat) (v0 v1 v2 v3 v4 v5 v6 v8:Value) (a:Option Addr) (n cap:Nat) (m:List MO) (nm:ByteArray) (w:World) (hg:w.heap[gw]? = some (.cells #[v0,v1,v2,v3,v4,v5,v6,.slice a n cap,v8] 78 (0,0))) (h:Oths w w.heap.size a m) (hm:m.length=n) (hn:n<=1048576) (hr:Ris m) :
  Calls Tryz.prog 35 #[.pointer (some ⟨gw,0,none⟩),.string nm] w fun e w'=>e=.returned (.tuple #[.int .i64 ((posN (oths m) nm:Nat):Int),.bool (hasN (oths m) nm)])/\Below w.heap.size w w':=by
 have HS:=hideK (search_any a n cap m nm w h hm hn hr)
 have c7:=cell_of_row w gw 7 _ _ _ hg
 clear h hm hn hr hg
 go_enter Tryz.func35,Tryz.ntmps35
 go_wp2_with fail
 refine HS.out.mono ?_
 rintro e w1 ⟨rfl,hb⟩
 go_wp2_with fail
 go_ret2
 exact⟨rfl,hb⟩
end Go.Proofs.YtpddanmnlkcdpaaGreatDoor.Pm


namespace Go.Proofs.YtpddanmnlkcdpaaGreatDoor.Pm
open Go.RowKit
open Kp (hideK lt_rowK)
open Pe
theorem ris_of {m:List MO} {c:Int} (h:othsB (oths m) c=true):Ris m:=by
 have ho:=(oths_of h).2
 have step:∀ i (hi:i+1<m.length),ltN (m[i]'(by omega)).1.name m[i+1].1.name=true:=fun i hi=>by
  have:=(ho (i+1) (by rw[oths_length];exact hi) (by rw[oths_length];exact hi)).2 i (by rw[oths_length];omega) rfl
  rw[oths_get m i (by omega),oths_get m (i+1) hi]at this
  exact this
 have far:∀ d i (hi:i+d+1<m.length),ltN (m[i]'(by omega)).1.name m[i+d+1].1.name=true:=by
  intro d
  induction d with
  |zero=>intro i hi;exact step i hi
  |succ d ih =>
   intro i hi
   exact ltN_trans (ih i (by omega)) (step (i+d+1) hi)
 intro i j hi hj hij
 obtain⟨d,rfl⟩:∃ d,j=i+d+1:=⟨j-i-1,by omega⟩
 exact far d i hj
def atZ (l:List Oth) (nm:ByteArray):Int:=if hasN l nm=true then ((posN l nm:Nat):Int) else -1
theorem atZ_here {m:List MO} {nm:ByteArray} {j:Nat} (hr:Ris m) (hj:j<m.length) (he:m[j].1.name=nm):atZ (oths m) nm=(j:Int):=by
 have hlo:∀ t (h:t<m.length),t<j->ltN m[t].1.name nm=true:=fun t ht htj=>by rw[<-he];exact hr t j ht hj htj
 have hhi:∀ t (h:t<m.length),j<=t->ltN m[t].1.name nm=false:=fun t ht htj=>by
  cases q:ltN m[t].1.name nm with
  |false=>rfl
  |true =>
   by_cases e:t=j
   ·subst e
    rw[he,ltN_self]at q
    exact q.symm
   ·have h1:=hr j t hj ht (by omega)
    rw[he]at h1
    have:=ltN_trans h1 q
    rw[ltN_self]at this
    exact this.symm
 have h1:=has_at hr (Nat.le_of_lt hj) hlo hhi
 rw[dif_pos hj,decide_eq_true he]at h1
 have h2:posN (oths m) nm=j:=by
  refine posN_of (by rw[oths_length];omega) (fun t ht hti=>?_) (fun ht=>?_)
  ·rw[oths_get m t (by rw[oths_length]at ht;exact ht)]
   exact hlo t _ hti
  ·rw[oths_get m j hj]
   exact hhi j hj (Nat.le_refl _)
 unfold atZ
 rw[h1,h2]
 rfl
theorem atZ_none {m:List MO} {nm:ByteArray} (h:∀ t (ht:t<m.length),¬m[t].1.name=nm):atZ (oths m) nm = -1:=by
 have:hasN (oths m) nm=false:=by
  unfold hasN oths
  rw[List.any_eq_false]
  intro o ho
  obtain⟨x,hx,rfl⟩:=List.mem_map.1 ho
  obtain⟨t,ht,rfl⟩:=List.getElem_of_mem hx
  simpa using h t ht
 unfold atZ
 rw[this]
 rfl
theorem at_spec (gg:Nat) (v0 v1 v2 v3 v4 v6:Value) (a:Option Addr) (n cap:Nat) (m:List MO) (nm:ByteArray) (w:World) (hg:w.heap[gg]? = some (.cells #[v0,v1,v2,v3,v4,.slice a n cap,v6] 69 (0,0))) (h:Oths w w.heap.size a m) (hm:m.length=n) (hn:n<=1048576) (hr:Ris m) :
  Calls Tryz.prog 29 #[.pointer (some ⟨gg,0,none⟩),.string nm] w fun e w'=>e=.returned (.int .i64 (atZ (oths m) nm))/\w'=w:=by
 have H0:=hideK h
 have HM:=hideK hm
 have HR:=hideK hr
 have c5:=cell_of_row w gg 5 _ _ _ hg
 clear h hm hr hg
 go_enter Tryz.func29,Tryz.ntmps29
 go_wp2_with fail
 go_loopw [5] (fun jv wr=>∃ j:Nat,jv=.int .i64 j/\j<=n/\(∀ t (ht:t<m.length),t<j->¬m[t].1.name=nm)/\wr=w) (fun jv _=>n-(intOf jv).toNat)
 case atStart=>exact⟨0,rfl,Nat.zero_le _,fun t _ h=>absurd h (by omega),rfl⟩
 case round =>
  obtain⟨j,rfl,hj,hno,hw⟩:=hrel
  subst hw
  have HNO:=hideK hno
  clear hno
  have hwj:IntKind.i64.wrap ((j:Int)+1)=(j:Int)+1:=by rw[IntKind.wrap_i64];omega
  by_cases hlt:j<n
  ·have hlti:(j:Int)<(n:Int):=by omega
   have hltd:decide ((j:Int)<(n:Int))=true:=by simp;omega
   have hj0:(0:Int)<=(j:Int):=by omega
   have hjn:¬(n:Int)<=(j:Int):=by omega
   have hjm:j<m.length:=by rw[HM.out];exact hlt
   obtain⟨b,off,ha,hb,hc⟩:=H0.out.some (by omega)
   subst ha
   obtain⟨c0,_,_,_,_⟩:=hc j hjm
   by_cases he:m[j].1.name=nm
   ·have HZ:=hideK (atZ_here HR.out hjm he)
    rw[he]at c0
    clear hc HNO he
    go_wp2_with fail
    go_ret
    exact⟨by rw[HZ.out];rfl,by trivial⟩
   ·have HNX:Hid (∀ t (ht:t<m.length),t<j+1->¬m[t].1.name=nm):=fun t ht htj=>by
     by_cases e:t=j
     ·subst e;exact he
     ·exact HNO.out t ht (by omega)
    have hl:¬m[j].1.name.toList=nm.toList:=fun e=>he (ByteArray.ext (Array.toList_inj.1 (by rw[<-Lib.toList_data,<-Lib.toList_data];exact e)))
    have hl2:(m[j].1.name.toList==nm.toList)=false:=by rw[beq_eq_false_iff_ne];exact hl
    generalize m[j].1.name=q at c0 hl hl2
    clear hc HNO he
    go_wp2_with fail
    go_roundw
    case rel=>exact⟨j+1,by go_num,by omega,HNX.out,by trivial⟩
    case measure=>simp[intOf];omega
  ·have hlti:¬(j:Int)<(n:Int):=by omega
   have hltd:decide ((j:Int)<(n:Int))=false:=by simp;omega
   have HZ:=hideK (atZ_none (m:=m) (nm:=nm) fun t ht=>HNO.out t ht (by have:=HM.out;omega))
   clear HNO
   go_wp2_with fail
   go_ret
   exact⟨by rw[HZ.out];rfl,by trivial⟩
end Go.Proofs.YtpddanmnlkcdpaaGreatDoor.Pm


namespace Go.Proofs.YtpddanmnlkcdpaaGreatDoor.Kp
open Go.RowKit
open Ls (cells3 lowL blkL)
open St (Strs)
open Nu (putS putT)
open Pk (cat)
def accT (x:Rec) (j:Nat):ByteArray:=⟨(cat (partsR x j)).toArray⟩
theorem ba_ext {a b:ByteArray} (h:a.data.toList=b.data.toList):a=b:=by
 cases a
 cases b
 congr
 exact Array.toList_inj.1 h
theorem ba_data (a b:ByteArray):(a++b).data.toList=a.data.toList++b.data.toList:=Joins.data_append a b
theorem accT_zero (x:Rec):accT x 0=putS x.1++putT x.2.1++putS (x.2.2.length:Nat):=by
 apply ba_ext
 rw[ba_data,ba_data]
 unfold accT partsR cat
 simp
theorem accT_next (x:Rec) (j:Nat) (h:j<x.2.2.length):accT x (j+1)=accT x j++putT x.2.2[j]:=by
 apply ba_ext
 rw[ba_data]
 unfold accT
 rw[partsR_next x j h]
 unfold cat
 simp
theorem accT_size (x:Rec) (j:Nat) (h:j<=x.2.2.length):(accT x j).size<=8010*(3+j):=by
 show (cat _).toArray.size<=_
 rw[List.size_toArray]
 exact partsR_cat x j h
theorem mixedT:Tryz.prog.follows .mixedOrders=true:=by kernel_rfl
theorem l08Text_any (x:MR) (w:World) (hi1:-9223372036854775808<=x.1.1) (hi2:x.1.1<=9223372036854775807) (ht:x.1.2.1.size<=8000) (hp20:x.1.2.2.length<=20) (hq:∀ q∈x.1.2.2,q.size<=8000) (hs:∃ a cap,x.2=.slice a x.1.2.2.length cap/\x.1.2.2.length<=cap/\Strs w w.heap.size a x.1.2.2) :
  Calls Tryz.prog 154 #[.agg #[.int .i64 x.1.1,.string x.1.2.1,x.2]] w fun e w'=>e=.returned (.string (recT x.1))/\Below w.heap.size w w':=by
 obtain⟨⟨i,t,p⟩,v⟩:=x
 obtain⟨a,cap,hv,hc,hst⟩:=hs
 dsimp only at hi1 hi2 ht hp20 hq hv hc hst ⊢
 subst hv
 obtain⟨n,hn⟩:∃ n,n=p.length:=⟨_,rfl⟩
 have H1:=hideK (fun W=>Nu.put_spec i W hi1 hi2)
 have H2:=hideK (fun W=>Nu.text_spec t W (by unfold maxLen;omega))
 have H3:=hideK (fun W=>Nu.put_spec (n:Int) W (by omega) (by omega))
 have HQ:=hideK (fun j (h:j<p.length) W=>Nu.text_spec p[j] W (by have:=hq p[j] (List.getElem_mem h);unfold maxLen;omega))
 have HSE:=hideK (fun W=>Se.seal_spec (innerT (i,t,p)) W (by have:=innerT_size (i,t,p) hp20;unfold maxLen;omega))
 have HTX:=hideK (fun W=>Nu.text_spec (Se.sealV (innerT (i,t,p))) W (by have:=sealV_size (innerT (i,t,p));unfold maxLen;omega))
 have HRT:Hid (recT (i,t,p)=putT (Se.sealV (innerT (i,t,p)))):=rfl
 have HIN:Hid (innerT (i,t,p)=accT (i,t,p) n):=by unfold Hid innerT accT;rw[hn]
 have HZ:Hid (accT (i,t,p) 0=putS i++putT t++putS (n:Int)):=by unfold Hid;rw[accT_zero,hn]
 have HNX:=hideK (fun j (h:j<p.length)=>accT_next (i,t,p) j h)
 have HSZ:=hideK (fun j (h:j<=p.length)=>accT_size (i,t,p) j h)
 rw[HRT.out]
 have hA:=Nu.putS_size i
 have hB:=putT_size t
 have hC:=Nu.putS_size (n:Int)
 have HPT:=hideK (fun (q:ByteArray)=>putT_size q)
 have HST:=hideK hst
 have HN:=hideK hn
 rw[<-hn]at hp20 hc ⊢
 generalize innerT (i,t,p)=I at HSE HTX HIN ⊢
 generalize Se.sealV I=J at HSE HTX ⊢
 generalize putT J=R at HTX ⊢
 generalize putS i=A at H1 HZ hA
 generalize putT t=B at H2 HZ hB
 generalize putS (n:Int)=C at H3 HZ hC
 clear hst hq hn HRT ht hi1 hi2
 have C0:=hideK ((Cx.nil w).new (.cells #[.int .i64 i,.string t,.slice a n cap] 139))
 go_enter Tryz.func154,Tryz.ntmps154
 go_upto_region 1 with fail
 generalize w.alloc _=w0 at C0 ⊢
 generalize hgx:w.heap.size=gx at C0 ⊢
 have HGX:=hideK hgx
 clear hgx
 obtain⟨x0,x1,x2⟩:=cells3 (C0.out.get 0 rfl)
 have g0:=fun d os=>cell_regrown x0 d os
 have g1:=fun d os=>cell_regrown x1 d os
 have g2:=fun d os=>cell_regrown x2 d os
 have hmx:=mixedT
 have s1:¬9223372036854775807<A.size+B.size:=by omega
 have s2:¬9223372036854775807<(A++B).size+C.size:=by rw[ByteArray.size_append];omega
 refine wp_region_quiet_below (by assumption) (by kernel_rfl) ?_
 repeat (go_big_quiet_step ((first|(go_at_call 182;(with_reducible exact Calls.regrown_of (H1.out _)))|(go_at_call 183;(with_reducible exact Calls.regrown_of (H2.out _)))|(go_at_call 182;(with_reducible exact Calls.regrown_of (H3.out _))))))
 refine wpQuiet_nil ?_
 intro _ hw'
 obtain⟨⟨dq,osq⟩,hw''⟩:=hw'
 subst hw''
 have K1:=hideK (below_regrown w0 dq osq)
 generalize Go.Sort.grow (redrawn w0 dq) osq=w8 at K1 ⊢
 have C1:=hideK (C0.out.call K1.out)
 clear g0 g1 g2 x0 x1 x2 H1 H2 H3 C0 K1
 rw[<-HZ.out]
 go_wp2_with fail
 go_loopw [4,3] (fun jv tv wr=>∃ (j:Nat),jv=.int .i64 j/\tv=.string (accT (i,t,p) j)/\j<=n/\Cx w wr [(gx,.cells #[.int .i64 i,.string t,.slice a n cap] 139)]) (fun jv _ _=>n-(intOf jv).toNat)
 case atStart=>exact⟨0,rfl,rfl,Nat.zero_le _,C1.out⟩
 case round =>
  obtain⟨j,rfl,rfl,hj,hcx⟩:=hrel
  have CX:=hideK hcx
  clear hcx C1
  obtain⟨x0,x1,x2⟩:=cells3 (CX.out.get 0 rfl)
  by_cases hlt:j<n
  ·have hlt':(j:Int)<(n:Int):=by omega
   have hjl:j<p.length:=by rw[<-HN.out];exact hlt
   have HTJ:=hideK (fun W=>HQ.out j hjl W)
   have HNJ:=hideK (HNX.out j hjl)
   have hsz:=HSZ.out j (by omega)
   have hpq:=HPT.out p[j]
   obtain⟨bb,off,hab,hbl,hcl⟩:=HST.out.some (by omega)
   subst hab
   have cj:wr.cell? ⟨bb,off+j,none⟩=some (.string p[j]):=(CX.out.low.cell (p:=⟨bb,off+j,none⟩) hbl).trans (hcl j hjl)
   generalize p[j]=q at HTJ HNJ cj hpq
   generalize putT q=Q at HTJ HNJ hpq
   generalize accT (i,t,p) j=U at HNJ hsz ⊢
   have s3:¬9223372036854775807<U.size+Q.size:=by omega
   clear hcl hjl
   go_wp2_with fail
   refine(HTJ.out _).mono ?_
   rintro e w3 ⟨rfl,hb⟩
   have C3:=hideK (CX.out.call hb)
   clear hb CX cj x0 x1 x2
   go_wp2_with fail
   go_roundw
   case rel=>exact⟨j+1,by go_num,by rw[HNJ.out],by omega,C3.out⟩
   case measure=>simp[intOf];omega
  ·obtain rfl:j=n:=by omega
   have hltD:decide ((j:Int)<(j:Int))=false:=by simp
   rw[<-HIN.out]
   go_wp2_with fail
   refine(HSE.out _).mono ?_
   rintro e w4 ⟨rfl,hb⟩
   have C4:=hideK (CX.out.call hb)
   clear hb
   go_wp2_with fail
   refine(HTX.out _).mono ?_
   rintro e w5 ⟨rfl,hb⟩
   have C5:=hideK (C4.out.call hb)
   clear hb
   go_wp2_with fail
   go_ret
   exact⟨rfl,C5.out.low⟩
end Go.Proofs.YtpddanmnlkcdpaaGreatDoor.Kp

