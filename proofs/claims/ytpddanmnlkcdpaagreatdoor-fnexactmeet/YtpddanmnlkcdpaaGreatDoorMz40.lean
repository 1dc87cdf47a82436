/- Texts put together: KqAll, PmInsO. -/
import Derived.Test.YtpddanmnlkcdpaaGreatDoorMz39
import Derived.Test.YtpddanmnlkcdpaaGreatDoorMz25
import Derived.Test.YtpddanmnlkcdpaaGreatDoorMz31
import Derived.Test.YtpddanmnlkcdpaaGreatDoorMz29
import Derived.Test.YtpddanmnlkcdpaaGreatDoorMz20
import Derived.Test.YtpddanmnlkcdpaaGreatDoorMz22
import Derived.Lib.AppendZerosOnto
import Derived.Lib.Overlaps
import Derived.Laws.Externs
import Derived.Laws.NewBlocks
import Derived.Laws.OwnMore
import Derived.Shelf.RegionOpenPlain
set_option maxRecDepth 100000
set_option maxHeartbeats 8000000
namespace Go.Proofs.YtpddanmnlkcdpaaGreatDoor.Kp
open Go.RowKit
open Ls (lV cells3 lowL blkL)
open Ap (Own0 KeepE wpList_append_own0k)
open St (Strs)
def RowQ (W:World) (base:Nat) (v:Value) (m:List MR):Prop:=Own0 W base 139 3 v m.length (cellsR m)
theorem RowQ.one {W:World} {base:Nat} {v:Value} {m:List MR} (h:RowQ W base v m):∃ a cap,v=.slice a m.length cap/\(0<m.length->∃ g,a=some ⟨g,0,none⟩/\g<W.heap.size/\m.length<=cap /\
  ∀ i (hi:i<m.length),W.cell? ⟨g,i*3,none⟩=some (.int .i64 m[i].1.1)/\W.cell? ⟨g,i*3+1,none⟩=some (.string m[i].1.2.1)/\W.cell? ⟨g,i*3+2,none⟩=some m[i].2):=by
 rcases h with⟨b,rfl,hn,_⟩|⟨_,h⟩
 ·exact⟨_,0,by rw[hn],fun h=>absurd h (by omega)⟩
 ·rcases h with⟨rfl,h0⟩|⟨g,cap,cur,hv,hg,hb,hn,_,hs,ht⟩
  ·exact⟨none,0,by rw[h0],fun h=>absurd h (by omega)⟩
  ·refine⟨_,cap,hv,fun _=>⟨g,rfl,lt_rowK hb,hn,fun i hi=>?_⟩⟩
   have hc:=cellsR_at m i hi
   rw[<-ht]at hc
   rw[List.getElem?_take_of_lt (by omega),List.getElem?_take_of_lt (by omega),List.getElem?_take_of_lt (by omega),Array.getElem?_toList,Array.getElem?_toList,Array.getElem?_toList]at hc
   exact⟨(cell_of_row W g _ _ _ _ hb).trans hc.1,(cell_of_row W g _ _ _ _ hb).trans hc.2.1,(cell_of_row W g _ _ _ _ hb).trans hc.2.2⟩
theorem RowQ.below {w w':World} {base:Nat} {v:Value} {m:List MR} (h:RowQ w base v m) (b:Below w.heap.size w w'):RowQ w' base v m:=Own0.below h b
def HasOut (m:List MR) (i:Int) (e:Ending):Prop :=
 (∃ (j:Nat) (hj:j<m.length),m[j].1.1=i/\(∀ k (hk:k<j),¬(m[k]'(Nat.lt_trans hk hj)).1.1=i)/\e=.returned (.int .i64 j))∨((∀ j (hj:j<m.length),¬m[j].1.1=i)/\e=.returned (.int .i64 (-1)))
theorem l08Has_any (base n:Nat) (i:Int) (v:Value) (m:List MR) (w:World) (ho:RowQ w base v m) (hn:m.length=n) (hm:n<=1048576) :
  Calls Tryz.prog 86 #[v,.int .i64 i] w fun r w'=>HasOut m i r/\w'=w:=by
 have HN:=hideK hn
 obtain⟨a,cap,hv,hc⟩:=ho.one
 subst hv
 have HC:=hideK hc
 rw[hn]
 clear ho hc hn
 go_enter Tryz.func86,Tryz.ntmps86
 go_wp2_with fail
 go_loopw [5] (fun jv wr=>∃ (j:Nat),jv=.int .i64 j/\j<=n/\(∀ k (hk:k<m.length),k<j->¬m[k].1.1=i)/\wr=w) (fun jv _=>n-(intOf jv).toNat)
 case atStart=>exact⟨0,rfl,Nat.zero_le _,fun k _ h=>absurd h (Nat.not_lt_zero _),rfl⟩
 case round =>
  obtain⟨j,rfl,hj,hno,hw⟩:=hrel
  subst wr
  have NO:=hideK hno
  clear hno
  by_cases hlt:j<n
  ·have hlt':(j:Int)<(n:Int):=by omega
   have hjm:j<m.length:=by rw[HN.out];exact hlt
   obtain⟨g,rfl,hgl,_,hcl⟩:=HC.out (by rw[HN.out];omega)
   have e0:=(hcl j hjm).1
   have HI:Hid (m[j].1.1=i->HasOut m i (.returned (.int .i64 j))):=fun he=>.inl ⟨j,hjm,he,fun k hk=>NO.out k (Nat.lt_trans hk hjm) hk,rfl⟩
   have HQ:Hid (¬m[j].1.1=i->∀ k (hk:k<m.length),k<j+1->¬m[k].1.1=i):=fun he k hk hk1=>by
    by_cases hkj:k<j
    ·exact NO.out k hk hkj
    ·have:k=j:=by omega
     subst this
     exact he
   generalize m[j].1.1=xi at e0 HI HQ
   clear hcl hjm
   by_cases he:xi=i
   ·subst he
    have HI2:=hideK (HI.out rfl)
    go_wp2_with fail
    go_ret
    exact⟨HI2.out,rfl⟩
   ·have he':(xi==i)=false:=beq_eq_false_iff_ne.2 he
    have HQ2:=hideK (HQ.out he)
    go_wp2_with fail
    go_roundw
    case rel=>exact⟨j+1,by go_num,by omega,HQ2.out,by trivial⟩
    case measure=>simp[intOf];omega
  ·have hltD:decide ((j:Int)<(n:Int))=false:=by simp;omega
   have hlt2:¬((j:Int)<(n:Int)):=by omega
   have NN:Hid (HasOut m i (.returned (.int .i64 (-1)))):=.inr ⟨fun k hk=>NO.out k hk (by have:=HN.out;omega),rfl⟩
   go_wp2_with fail
   go_ret
   exact⟨NN.out,rfl⟩
theorem HasOut.cases {m:List MR} {i:Int} {e:Ending} (h:HasOut m i e):(hasR (recs m) i=true/\∃ j:Nat,e=.returned (.int .i64 j))∨(hasR (recs m) i=false/\e=.returned (.int .i64 (-1))):=by
 rcases h with⟨j,hj,he,_,rfl⟩|⟨hno,rfl⟩
 ·exact .inl ⟨find_some hj he,j,rfl⟩
 ·exact .inr ⟨find_none hno,rfl⟩
def FitS (fit:Rec->Bool) (z b:Int) (r:ByteArray) (w:World):Prop :=
 ∀ (W:World) (x:MR),Below w.heap.size w W->x.1.2.1.size<=8000->x.1.2.2.length<=20->(∃ a cap,x.2=.slice a x.1.2.2.length cap/\x.1.2.2.length<=cap/\Strs W W.heap.size a x.1.2.2)->Calls Tryz.prog 104 #[lV z b r,.int .i64 x.1.1,.string x.1.2.1,x.2] W fun e w'=>e=.returned (.bool (fit x.1))/\Below W.heap.size W w'
theorem FitS.later {fit:Rec->Bool} {z b:Int} {r:ByteArray} {w w':World} (h:FitS fit z b r w) (hb:Below w.heap.size w w'):FitS fit z b r w':=fun W x hW=>h W x (lowL hb hW)
def AllOut (fit:Rec->Bool) (s:ByteArray) (base:Nat) (e:Ending) (w':World):Prop :=
 ∃ v m,e=.returned (.tuple #[v,.int .i64 (allR fit s).2])/\recs m=(allR fit s).1/\RowQ w' base v m/\Paths w' m
structure FarQ (fit:Rec->Bool) (z b:Int) (r s:ByteArray) (gl:Nat) (w wr:World) (v:Value) (m:List MR) (e:Nat):Prop where
 cx:Cx w wr [(gl,.cells #[.int .i64 z,.int .i64 b,.string r] 30)]
 all:goR fit s (s.size-e) (recs m) e=allR fit s
 row:RowQ wr w.heap.size v m
 ps:Paths wr m
 ml:m.length<=e
 el:e<=s.size
theorem FarQ.call {fit:Rec->Bool} {z b:Int} {r s:ByteArray} {gl:Nat} {w wr w':World} {v:Value} {m:List MR} {e:Nat} (h:FarQ fit z b r s gl w wr v m e) (hb:Below wr.heap.size wr w'):FarQ fit z b r s gl w w' v m e :=
 ⟨h.cx.call hb,h.all,h.row.below hb,h.ps.keeps (KeepsS.below hb),h.ml,h.el⟩
theorem FarQ.put {fit:Rec->Bool} {z b:Int} {r s:ByteArray} {gl:Nat} {w wr w':World} {v v':Value} {m:List MR} {e:Nat} {x:Rec × Nat} {xv:Value} (h:FarQ fit z b r s gl w wr v m e) (hx:recR s e=some x) (hf:fit x.1=true) (hh:hasR (recs m) x.1.1=false) (hp:PathIn wr xv x.1.2.2)
  (h2:w'.ownsRow w.heap.size 139 3 v' (m.length+1) (cellsR m++[.int .i64 x.1.1,.string x.1.2.1,xv])) (h3:∀ B,B<=w.heap.size->Below B wr w') (h4:KeepE 139 wr w'):FarQ fit z b r s gl w w' v' (m++[(x.1,xv)]) x.2:=by
 have hfx:=recR_facts hx
 have hk:KeepsS wr w':=fun g cur hg=>h4 g cur _ (by decide) hg
 refine⟨⟨h.cx.low.trans (h3 _ (Nat.le_refl _)),?_⟩,?_,.inr ?_,?_,?_,hfx.2.1⟩
 ·intro q hq
  rw[List.mem_singleton.1 hq]
  exact h4 gl _ _ (by decide) (h.cx.get 0 rfl)
 ·rw[<-h.all,goR_step hx hf hh]
  unfold recs
  rw[List.map_append]
  rfl
 ·rw[List.length_append,cellsR_append]
  exact h2
 ·intro q hq
  rcases List.mem_append.1 hq with hq|hq
  ·exact(h.ps q hq).keeps hk
  ·rw[List.mem_singleton.1 hq]
   exact hp.keeps hk
 ·rw[List.length_append]
  have:=h.ml
  simp
  omega
theorem Tryz.infoRecordS:(Tryz.prog.info? 139).map (fun i=>(i.zero,i.size,i.bytes))=some (some (.agg #[.int .i64 0,.string ⟨#[]⟩,.slice none 0 0]),3,48):=by kernel_rfl
theorem FarQ.done {fit:Rec->Bool} {z b:Int} {r s:ByteArray} {gl:Nat} {w wr:World} {v:Value} {m:List MR} {e:Nat} (h:FarQ fit z b r s gl w wr v m e) (hd:goR fit s (s.size-e) (recs m) e=(recs m,e)):AllOut fit s w.heap.size (.returned (.tuple #[v,.int .i64 e])) wr/\Below w.heap.size w wr:=by
 have hall:allR fit s=(recs m,e):=by rw[<-h.all,hd]
 exact⟨⟨v,m,by rw[hall],by rw[hall],h.row,h.ps⟩,h.cx.low⟩
theorem l08All_any (fit:Rec->Bool) (z b:Int) (r s:ByteArray) (w:World) (hs:s.size<=1048576) (hf:FitS fit z b r w) :
  Calls Tryz.prog 61 #[lV z b r,.string s] w fun e w'=>AllOut fit s w.heap.size e w'/\Below w.heap.size w w':=by
 obtain⟨i0,hif,hz0,hz1,hz2⟩:=info_parts Tryz.infoRecordS
 have HF:=hideK hf
 have C0:=hideK (((Cx.nil w).new (.cells #[.int .i64 z,.int .i64 b,.string r] 30)))
 unfold lV
 clear hf
 go_enter Tryz.func61,Tryz.ntmps61
 go_wp2_with fail
 have F0:Hid (FarQ fit z b r s w.heap.size w ((w.alloc (.cells #[.int .i64 z,.int .i64 b,.string r] 30)).alloc (.cells #[] 139)) (.slice (some ⟨w.heap.size+1,0,none⟩) 0 0) [] 0):=⟨C0.out.call ((Below.refl _ _).alloc (Nat.le_refl _) _),rfl,.inl ⟨_,rfl,rfl,rfl⟩,fun x hx=>absurd hx List.not_mem_nil,Nat.zero_le _,Nat.zero_le _⟩
 clear C0
 go_loopw [6,7,8,9,10] (fun lv ev _ _ _ wr=>∃ v m e,lv=v/\ev=.int .i64 ((e:Nat):Int)/\FarQ fit z b r s w.heap.size w wr v m e) (fun _ ev _ _ _ _=>s.size-(intOf ev).toNat)
 case atStart=>exact⟨_,[],0,rfl,rfl,F0.out⟩
 case round =>
  obtain⟨v,m,e,rfl,rfl,hfar⟩:=hrel
  have F:=hideK hfar
  obtain⟨a0,cap0,hv,_⟩:=hfar.row.one
  subst hv
  clear hfar F0
  by_cases hlt:e<s.size
  ·have hlt':(e:Int)<(s.size:Int):=by omega
   have HRR:=hideK (l08Read_any s e wr hs)
   go_wp2_with fail
   refine HRR.out.mono ?_
   rintro e' w1 ⟨hro,hb⟩
   have F1:=hideK (F.out.call hb)
   clear hb HRR F
   rcases hro with⟨x,xv,hx,rfl,hp⟩|⟨hx,xi,xt,xa,xn,xc,xk,rfl⟩
   ·obtain⟨ap,cp,rfl,_,_⟩:=hp.strs
    have hfx:=recR_facts hx
    have HX:=hideK hx
    have F2:=hideK (F1.out.call ((Below.refl _ w1).alloc (Nat.le_refl _) (.cells #[.int .i64 x.1.1,.string x.1.2.1,.slice ap x.1.2.2.length cp] 139)))
    have P2:=hideK (hp.keeps (KeepsS.below ((Below.refl _ w1).alloc (Nat.le_refl _) (.cells #[.int .i64 x.1.1,.string x.1.2.1,.slice ap x.1.2.2.length cp] 139))))
    have X2:Hid ((w1.alloc (.cells #[.int .i64 x.1.1,.string x.1.2.1,.slice ap x.1.2.2.length cp] 139)).heap[w1.heap.size]? = some (.cells #[.int .i64 x.1.1,.string x.1.2.1,.slice ap x.1.2.2.length cp] 139 (0,0))):=heap_alloc_new w1 _
    clear hp hx F1
    obtain⟨⟨xi,xt,xp⟩,xe⟩:=x
    dsimp only at F2 P2 X2 HX hfx ⊢
    go_upto_region 5 with fail
    generalize w1.alloc (.cells #[.int .i64 xi,.string xt,.slice ap xp.length cp] 139)=W2 at F2 P2 X2 ⊢
    generalize w1.heap.size=gx at X2 ⊢
    obtain⟨x0,x1,x2⟩:=cells3 X2.out
    obtain⟨l0,l1,l2⟩:=cells3 (F2.out.cx.get 0 rfl)
    have HHS:=hideK (l08Has_any w.heap.size m.length xi _ m W2 F2.out.row rfl (by have:=F2.out.ml;have:=F2.out.el;omega))
    have HFX:=hideK (HF.out W2 ((xi,xt,xp),.slice ap xp.length cp) F2.out.cx.low hfx.2.2.2.2 hfx.2.2.2.1 P2.out.strs)
    unfold lV at HFX
    dsimp only at HFX
    go_wp2_with fail
    refine HHS.out.mono ?_
    rintro e3 w3 ⟨hho,hw⟩
    subst w3
    rcases hho.cases with⟨hhas,jh,rfl⟩|⟨hhas,rfl⟩
    ·have HBD:Hid (goR fit s (s.size-e) (recs m) e=(recs m,e)):=goR_bad HX.out (fun h=>by have:=h.2;rw[hhas]at this;cases this)
     have HD:=hideK (F2.out.done HBD.out)
     clear hho hhas HHS HFX
     go_wp2_with fail
     go_ret2
     exact HD.out
    ·cases hfit:fit (xi,xt,xp) with
     |false =>
      rw[hfit]at HFX
      have HBD:Hid (goR fit s (s.size-e) (recs m) e=(recs m,e)):=goR_bad HX.out (fun h=>by have:=h.1;rw[hfit]at this;cases this)
      clear hho hhas HHS hfit
      go_wp2_with fail
      refine HFX.out.mono ?_
      rintro e4 w4 ⟨rfl,hb⟩
      have HD:=hideK ((F2.out.call hb).done HBD.out)
      clear hb
      go_wp2_with fail
      go_ret2
      exact HD.out
     |true =>
      rw[hfit]at HFX
      have HXF:=hideK (And.intro hfit hhas)
      clear hho hhas HHS hfit
      go_wp2_with fail
      refine HFX.out.mono ?_
      rintro e4 w4 ⟨rfl,hb⟩
      have F4:=hideK (F2.out.call hb)
      have P4:=hideK (P2.out.keeps (KeepsS.below hb))
      have X4:=hideK (blkL X2.out hb)
      clear hb F2 P2 X2 HFX x0 x1 x2 l0 l1 l2
      obtain⟨x0,x1,x2⟩:=cells3 X4.out
      have F5:=hideK (F4.out.call ((Below.refl _ w4).alloc (Nat.le_refl _) (.cells #[.int .i64 xi,.string xt,.slice ap xp.length cp] 139)))
      have P5:=hideK (P4.out.keeps (KeepsS.below ((Below.refl _ w4).alloc (Nat.le_refl _) (.cells #[.int .i64 xi,.string xt,.slice ap xp.length cp] 139))))
      have hlow:=F4.out.cx.low.size
      have hml:=F4.out.ml
      have hel:=F4.out.el
      have ROW:Hid (Own0 (w4.alloc (.cells #[.int .i64 xi,.string xt,.slice ap xp.length cp] 139)) w.heap.size 139 3 (.slice a0 m.length cap0) m.length (cellsR m)):=F5.out.row
      have FP:=hideK (fun (wb:World) (va:Value)=>F5.out.put (w':=wb) (v':=va) (x:=((xi,xt,xp),xe)) (xv:=.slice ap xp.length cp) HX.out HXF.out.1 HXF.out.2 P5.out)
      dsimp only at FP
      generalize hmn:m.length=n at ROW FP hml ⊢
      go_wp2_with (at_builtin;refine wpList_append_own0k _ rfl (.tmp 43) (.tmp 45) 67 rfl w.heap.size 139 i0 _ 3 48 Tryz.underlying67 hif hz0 hz1 hz2 rfl (by decide) _ _ _ rfl ROW.out ⟨w4.heap.size,0,none⟩ 1 1 [.int .i64 xi,.string xt,.slice ap xp.length cp] rfl rfl (three_new w4 _ _ _ _) (three_one rfl rfl rfl) (by decide) (by unfold maxLen;omega) (by omega) (by simp;omega) ?_)
      intro v' w5 hown hB hK
      have F6:=hideK (FP.out w5 v' hown hB hK)
      clear hown hB hK FP ROW F5 P5 F4 P4 X4 x0 x1 x2
      go_wp2_with fail
      go_roundw
      case rel=>exact⟨_,_,_,rfl,rfl,F6.out⟩
      case measure=>simp[intOf];omega
   ·have HBD:Hid (goR fit s (s.size-e) (recs m) e=(recs m,e)):=goR_none hx
    have F2:=hideK (F1.out.call ((Below.refl _ w1).alloc (Nat.le_refl _) (.cells #[.int .i64 xi,.string xt,.slice xa xn xc] 139)))
    have HD:=hideK (F2.out.done HBD.out)
    clear hx F1 F2
    go_wp2_with fail
    go_ret2
    exact HD.out
  ·have hltD:decide ((e:Int)<(s.size:Int))=false:=by simp;omega
   have hlt2:¬((e:Int)<(s.size:Int)):=by omega
   have HBD:Hid (goR fit s (s.size-e) (recs m) e=(recs m,e)):=goR_end (by omega)
   have HD:=hideK (F.out.done HBD.out)
   go_wp2_with fail
   go_ret2
   exact HD.out
end Go.Proofs.YtpddanmnlkcdpaaGreatDoor.Kp


namespace Go.Proofs.YtpddanmnlkcdpaaGreatDoor.Pm
open Go.RowKit
open Kp (hideK)
theorem Tryz.insO_info:(Tryz.prog.info? 86).map (fun i=>(i.zero,i.size,i.bytes))=some (some (.agg #[.string ⟨#[]⟩,.slice none 0 0,.int .i64 0,.int .i64 0,.int .i64 0]),5,64):=by kernel_rfl
theorem insO_sz (w:World):(sizeOf 86).run Tryz.prog w=.ok 5 w:=by kernel_rfl
theorem insO_mx:Tryz.prog.follows Departure.mixedOrders=true:=by kernel_rfl
theorem insO_size:(Tryz.prog.info? 86).map (·.size)=some 5:=by kernel_rfl
theorem insO_ov (w:World) (g vb o lb cb:Nat) (cur:Array Value) (vs:List Value) (hg:w.heap[g]? = some (.cells cur 86 (0,0))) (hv:w.heap[vb]? = some (.cells vs.toArray 86 (0,0))) (hc:cur.size≠0) (hne:vb≠g) :
  (callFunc 75 #[.slice (some ⟨vb,0,none⟩) 1 1,.slice (some ⟨g,o,none⟩) lb cb]).run Tryz.prog w=.ok (.value (.bool false)) w:=by
 rw[run_callFunc_extern Tryz.func75 (by kernel_rfl) (by kernel_rfl) (by kernel_rfl) (e:=Extern.SlicesOverlaps.overlaps #[33,33] #[4]) (by kernel_rfl),
  Lib.run_overlaps_apart w 33 4 86 Tryz.underlying33 5 insO_sz ⟨vb,0,none⟩ ⟨g,o,none⟩ 1 1 lb cb hne 86 86 vs.length cur.size (by simp[World.shape?,hv]) (by simp[World.shape?,hg]) hc (frozen_of_row w vb _ _ _ hv) (frozen_of_row w vb _ _ _ hv)]
 rfl
/-- at the end -/
theorem insO_end (base n vb:Nat) (v:Value) (xs vs:List Value) (w:World) (hown:w.ownsRow base 86 5 v n xs) (hn:n<=1048576) (hb:base<=w.heap.size)
  (hvs:∀ j u,vs[j]? = some u->w.cell? ((⟨vb,0,none⟩:Addr).add j)=some u) (hvl:vs.length=1*5) (h1v:∀ u∈vs,u.oneCell'=true) :
  Calls Tryz.prog 36 #[v,.int .i64 n,.slice (some ⟨vb,0,none⟩) 1 1] w fun e w'=>∃ v',e=.returned v'/\w'.ownsRow base 86 5 v' (n+1) (xs++vs)/\w.grownBy w' v.ownBlock:=by
 obtain⟨i0,hi0,hz0,hz1,hz2⟩:=info_parts Tryz.insO_info
 obtain⟨a,cap,hv,hnc,ha⟩:∃ a cap,v=.slice a n cap/\n<=cap/\(a=none->cap=0/\n=0):=by
  rcases hown.2 with⟨h,h0⟩|⟨g,cap,cur,hv,_,_,hc,_⟩
  ·exact⟨none,0,by rw[h,h0],by omega,fun _=>⟨rfl,h0⟩⟩
  ·exact⟨_,cap,hv,hc,fun h=>by cases h⟩
 subst hv
 have hcap:(n:Int)<=(cap:Int):=by omega
 have hxx:n<=n:=by omega
 go_enter Tryz.func36,Tryz.ntmps36
 go_wp2_with (at_builtin;refine wpList_append_own _ rfl (.tmp 23) (.tmp 24) 33 rfl base 86 i0 (.agg #[.string ⟨#[]⟩,.slice none 0 0,.int .i64 0,.int .i64 0,.int .i64 0]) 5 64 Tryz.underlying33 hi0 hz0 hz1 hz2 rfl (by decide) (.slice a n cap) n xs rfl hown ⟨vb,0,none⟩ 1 1 vs rfl hvl hvs h1v (by unfold maxLen;omega) (by omega) hb ?_;intro v' w1 ho hg _)
 all_goals (go_ret;exact⟨v',rfl,ho,by cases a<;>exact hg⟩)
/-- there is room -/
theorem insO_room (g n cap i vb:Nat) (cur:Array Value) (vs:List Value) (w:World) (hg:w.heap[g]? = some (.cells cur 86 (0,0))) (hcs:cur.size=cap*5) (hi:i<n) (hn:n<=1048576) (hroom:n+1<=cap) (hcm:cap<=maxLen) (hne:vb≠g)
  (hv:w.heap[vb]? = some (.cells vs.toArray 86 (0,0))) (hvl:vs.length=5) (h1c:∀ u∈cur.toList.take (n*5),u.oneCell'=true) (h1v:∀ u∈vs,u.oneCell'=true) :
  Calls Tryz.prog 36 #[.slice (some ⟨g,0,none⟩) n cap,.int .i64 i,.slice (some ⟨vb,0,none⟩) 1 1] w fun e w'=>e=.returned (.slice (some ⟨g,0,none⟩) (n+1) cap) /\
   w'=((w.drew.setRow g (cur.toList.take (i*5+5)++(cur.toList.take (n*5)).drop (i*5)++cur.toList.drop (n*5+5)).toArray).setRow g (cur.toList.take (i*5)++vs++((cur.toList.take (n*5)).drop (i*5)++cur.toList.drop (n*5+5))).toArray):=by
 have hiI:(i:Int)<(n:Int):=by omega
 have hz2:¬((i:Int)=(n:Int)):=by omega
 have hz2b:((i:Int)==(n:Int))=false:=by simp;omega
 have hcI:(n:Int)+1<=(cap:Int):=by omega
 have hcJ:¬((cap:Int)<(n:Int)+1):=by omega
 have hci:¬cap=i:=by omega
 have hci1:¬cap=i+1:=by omega
 have hc63:cap<=9223372036854775807:=by unfold maxLen at hcm;omega
 have hin:i<=n:=by omega
 have hin1:i<=n+1:=by omega
 have hin2:(i:Int)<=(n:Int)+1:=by omega
 have hmx:=insO_mx
 have hw1:IntKind.i64.wrap ((i:Int)+1)=(i:Int)+1:=by rw[IntKind.wrap_i64];omega
 have hw2:IntKind.i64.wrap ((n:Int)+1)=(n:Int)+1:=by rw[IntKind.wrap_i64];omega
 have hb1:(0:Int)<=(i:Int)+1:=by omega
 have hb2:(0:Int)<=(n:Int)+1:=by omega
 have htn:((i:Int)+1).toNat=i+1:=by omega
 have htm:((n:Int)+1).toNat=n+1:=by omega
 have hov:∀ lb cb,(callFunc 75 #[.slice (some ⟨vb,0,none⟩) 1 1,.slice (some ⟨g,(i+1)*5,none⟩) lb cb]).run Tryz.prog w=.ok (.value (.bool false)) w:=fun lb cb=>insO_ov w g vb _ lb cb cur vs hg hv (by rw[hcs];omega) hne
 have hl1:((cur.toList.take (n*5)).drop (i*5)).length=(n-i)*5:=by
  rw[List.length_drop,List.length_take,Array.length_toList];omega
 have hcp1:∀ ty dc sc,(Builtin.copy_ #[33,33] ty #[.slice (some ⟨g,(i+1)*5,none⟩) (n-i) dc,.slice (some ⟨g,i*5,none⟩) (n+1-i) sc]).run Tryz.prog w.drew=.ok (goInt (Nat.min (n+1-i) (n-i))) (w.drew.setRow g (cur.toList.take (i*5+5)++(cur.toList.take (n*5)).drop (i*5)++cur.toList.drop (n*5+5)).toArray):=fun ty dc sc=>by
  have h:=run_copyZ (P:=Tryz.prog) w.drew 33 33 ty 86 5 g ((i+1)*5) (n-i) dc ⟨g,i*5,none⟩ (n+1-i) sc cur 86 ((cur.toList.take (n*5)).drop (i*5)) Tryz.underlying33 insO_size hg (by rw[hl1,show Nat.min (n+1-i) (n-i)=n-i by simp only[Nat.min_def];split<;>omega])
   (fun j u hj=>by
    rw[List.getElem?_drop,List.getElem?_take]at hj
    split at hj
    ·rw[Addr.add_lit]
     exact(cell_of_row w.drew g _ _ _ _ hg).trans (by rw[<-Array.getElem?_toList];exact hj)
    ·cases hj)
   (by rw[hl1];omega) (fun u hu=>h1c u (List.mem_of_mem_drop hu))
  rw[hl1,show (i+1)*5+(n-i)*5=n*5+5 by omega,show (i+1)*5=i*5+5 by omega]at h
  rw[show (i+1)*5=i*5+5 by omega]
  exact h
 have hR:((cur.toList.take (i*5+5)++(cur.toList.take (n*5)).drop (i*5)++cur.toList.drop (n*5+5)).toArray).toList=cur.toList.take (i*5+5)++(cur.toList.take (n*5)).drop (i*5)++cur.toList.drop (n*5+5):=rfl
 have hins:=ins_list cur.toList vs (i*5) (n*5) 5 hvl (by omega) (by rw[Array.length_toList];omega)
 have hrl:(cur.toList.take (i*5+5)++(cur.toList.take (n*5)).drop (i*5)++cur.toList.drop (n*5+5)).length=cur.size:=by
  rw[List.length_append,List.length_append,hl1,List.length_take,List.length_drop,Array.length_toList];omega
 have hcp2:∀ ty dc,(Builtin.copy_ #[33,33] ty #[.slice (some ⟨g,i*5,none⟩) (n+1-i) dc,.slice (some ⟨vb,0,none⟩) 1 1]).run Tryz.prog (w.drew.setRow g (cur.toList.take (i*5+5)++(cur.toList.take (n*5)).drop (i*5)++cur.toList.drop (n*5+5)).toArray)=.ok (goInt (Nat.min 1 (n+1-i))) ((w.drew.setRow g (cur.toList.take (i*5+5)++(cur.toList.take (n*5)).drop (i*5)++cur.toList.drop (n*5+5)).toArray).setRow g (cur.toList.take (i*5)++vs++((cur.toList.take (n*5)).drop (i*5)++cur.toList.drop (n*5+5))).toArray):=fun ty dc=>by
  have h:=run_copyZ (P:=Tryz.prog) (w.drew.setRow g (cur.toList.take (i*5+5)++(cur.toList.take (n*5)).drop (i*5)++cur.toList.drop (n*5+5)).toArray) 33 33 ty 86 5 g (i*5) (n+1-i) dc ⟨vb,0,none⟩ 1 1 _ 86 vs Tryz.underlying33 insO_size (setRow_heap w.drew g cur _ 86 _ hg) (by rw[hvl,show Nat.min 1 (n+1-i)=1 by simp only[Nat.min_def];split<;>omega])
   (fun j u hj=>by
    rw[Addr.add_lit]
    refine(cell_of_row _ vb _ _ _ _ ((setRow_other w.drew g vb _ hne).trans hv)).trans ?_
    rw[Nat.zero_add,<-Array.getElem?_toList]
    exact hj)
   (by rw[List.size_toArray,hrl,hvl,hcs];omega) h1v
  rw[hvl,hR,hins]at h
  exact h
 clear hR hins hrl
 generalize (cur.toList.take (i*5+5)++(cur.toList.take (n*5)).drop (i*5)++cur.toList.drop (n*5+5)).toArray=R1 at hcp1 hcp2 ⊢
 generalize (cur.toList.take (i*5)++vs++((cur.toList.take (n*5)).drop (i*5)++cur.toList.drop (n*5+5))).toArray=R2 at hcp2 ⊢
 clear hl1
 go_enter Tryz.func36,Tryz.ntmps36
 go_wp2_with fail
 go_region_law_o (refine step_copyZ rfl _ _ 33 33 rfl _ _ (by simp[Act.eval,Act.put]) (by simp[Act.eval,Act.put]) (hcp1 _ _ _) ?_)
 go_wp2_with (at_builtin;refine wpList_copyZ _ rfl _ _ 33 33 rfl _ _ rfl rfl (hcp2 _ _) ?_)
 go_ret
 exact⟨rfl,rfl⟩
theorem put_atinsO {α:Type} (A Zs X:List α) (k d:Nat) (hk:A.length=k) (hd:X.length=d):(A++Zs).take k++X++(A++Zs).drop (k+d)=A++X++Zs.drop d:=by
 subst hk
 rw[List.take_left,List.drop_append,List.drop_of_length_le (by omega),List.nil_append,show A.length+d-A.length=d by omega]
/-- there is no room -/
theorem insO_grow (base g n cap i vb:Nat) (row:Option Nat) (xs vs:List Value) (w:World) (hxl:xs.length=n*5) (hxs:∀ j u,xs[j]? = some u->w.cell? ⟨g,j,none⟩=some u) (hi:i<n) (hn:n<=1048576) (hroom:cap<n+1) (hnc:n<=cap) (hb:base<=w.heap.size) (hgl:g<w.heap.size)
  (hv:w.heap[vb]? = some (.cells vs.toArray 86 (0,0))) (hvl:vs.length=5) (h1c:∀ u∈xs,u.oneCell'=true) (h1v:∀ u∈vs,u.oneCell'=true) :
  Calls Tryz.prog 36 #[.slice (some ⟨g,0,none⟩) n cap,.int .i64 i,.slice (some ⟨vb,0,none⟩) 1 1] w fun e w'=>∃ v',e=.returned v'/\w'.ownsRow base 86 5 v' (n+1) (xs.take (i*5)++vs++xs.drop (i*5))/\w.grownBy w' row:=by
 obtain⟨i0,hi0,hz0,hzs,hzb⟩:=info_parts Tryz.insO_info
 obtain rfl:cap=n:=by omega
 have hiI:(i:Int)<(cap:Int):=by omega
 have hz2:¬((i:Int)=(cap:Int)):=by omega
 have hz2b:((i:Int)==(cap:Int))=false:=by simp;omega
 have hcJ:(cap:Int)<(cap:Int)+1:=by omega
 have hci:¬cap=i:=by omega
 have hin:i<=cap:=by omega
 have hw1:IntKind.i64.wrap ((i:Int)+1)=(i:Int)+1:=by rw[IntKind.wrap_i64];omega
 have hw2:IntKind.i64.wrap ((cap:Int)+1)=(cap:Int)+1:=by rw[IntKind.wrap_i64];omega
 have hw3:IntKind.i64.wrap ((cap:Int)+1-(i:Int))=(cap:Int)+1-(i:Int):=by rw[IntKind.wrap_i64];omega
 have hb1:(0:Int)<=(i:Int)+1:=by omega
 have htn:((i:Int)+1).toNat=i+1:=by omega
 have hin1:i<=cap+1:=by omega
 have hin2:(i:Int)<=(cap:Int)+1:=by omega
 have hmx:=insO_mx
 have hkk:(cap:Int)+1-(i:Int)=((cap+1-i:Nat):Int):=by omega
 have hik:i+(cap+1-i)=cap+1:=by omega
 have hAl:(xs.take (i*5)).length=i*5:=by rw[List.length_take,hxl];omega
 have hBl:(xs.drop (i*5)).length=(cap-i)*5:=by rw[List.length_drop,hxl];omega
 have hold:(Builtin.firstCells i0.size i (.slice (some ⟨g,0,none⟩) i cap)).run Tryz.prog w.drew=.ok (xs.take (i*5)).toArray w.drew:=by
  rw[hzs]
  exact run_firstCells_some w.drew 5 i ⟨g,0,none⟩ i cap (xs.take (i*5)) hAl (fun j v hj=>by
   rw[Addr.add_lit,Nat.zero_add]
   rw[List.getElem?_take]at hj
   split at hj
   ·exact hxs j v hj
   ·cases hj)
 have hrz:∀ ty,(Builtin.append_ #[33,3] ty #[.slice (some ⟨g,0,none⟩) i cap,.int .i64 ((cap:Int)+1-(i:Int))]).run Tryz.prog w =
   .ok (.slice (some ⟨w.heap.size,0,none⟩) (cap+1) (grownCap w (cap+1) cap 86)) (w.drew.alloc (.cells ((xs.take (i*5)).toArray++Builtin.zeroCells (Value.cells (.agg #[.string ⟨#[]⟩,.slice none 0 0,.int .i64 0,.int .i64 0,.int .i64 0])) (cap+1-i)++Builtin.zeroCells (Value.cells (.agg #[.string ⟨#[]⟩,.slice none 0 0,.int .i64 0,.int .i64 0,.int .i64 0])) (grownCap w (cap+1) cap 86 - (cap+1))) 86)):=fun ty=>by
  have h:=Lib.run_append_grow_zeros (P:=Tryz.prog) w 33 3 ty 86 i0 _ .i64 .i64 Tryz.underlying33 Tryz.underlying3 hi0 hz0 (some ⟨g,0,none⟩) i cap (xs.take (i*5)) hold (cap+1-i) (by omega) (by omega) (by omega) (by omega) (by rw[hzb];omega) (by rw[hzb,hik];exact growslice_fits hroom (by omega))
  rw[hik]at h
  rw[hkk]
  exact h
 have hGn:=grownCap_ge w (cap+1) cap 86
 have hGm:=grownCap_le_maxLen w (cap+1) cap 86 (by unfold maxLen;omega)
 generalize grownCap w (cap+1) cap 86=G at hrz hGn hGm
 have hG63:G<=9223372036854775807:=by unfold maxLen at hGm;omega
 obtain⟨Zs,hZs,hZl⟩:∃ Zs:List Value,((xs.take (i*5)).toArray++Builtin.zeroCells (Value.cells (.agg #[.string ⟨#[]⟩,.slice none 0 0,.int .i64 0,.int .i64 0,.int .i64 0])) (cap+1-i)++Builtin.zeroCells (Value.cells (.agg #[.string ⟨#[]⟩,.slice none 0 0,.int .i64 0,.int .i64 0,.int .i64 0])) (G-(cap+1)))=(xs.take (i*5)++Zs).toArray/\i*5+Zs.length=G*5:=by
  refine⟨(Builtin.zeroCells (Value.cells (.agg #[.string ⟨#[]⟩,.slice none 0 0,.int .i64 0,.int .i64 0,.int .i64 0])) (cap+1-i)).toList++(Builtin.zeroCells (Value.cells (.agg #[.string ⟨#[]⟩,.slice none 0 0,.int .i64 0,.int .i64 0,.int .i64 0])) (G-(cap+1))).toList,?_,?_⟩
  ·rw[<-List.append_assoc]
   apply Array.ext'
   simp
  ·rw[List.length_append,Array.length_toList,Array.length_toList,size_zeroCells,size_zeroCells,show (Value.cells (.agg #[.string ⟨#[]⟩,.slice none 0 0,.int .i64 0,.int .i64 0,.int .i64 0])).size=5 from rfl]
   omega
 simp only[hZs]at hrz
 have hGi:¬G=i:=by omega
 have hGi1:¬G=i+1:=by omega
 have hne1:vb≠w.heap.size:=by
  have:=(Array.getElem?_eq_some_iff.1 hv).1
  omega
 have hcpA:∀ (W:World),W.heap=(w.drew.alloc (.cells (xs.take (i*5)++Zs).toArray 86)).heap->∀ ty dc,(Builtin.copy_ #[33,33] ty #[.slice (some ⟨w.heap.size,i*5,none⟩) (cap+1-i) dc,.slice (some ⟨vb,0,none⟩) 1 1]).run Tryz.prog W=.ok (goInt (Nat.min 1 (cap+1-i))) (W.setRow w.heap.size (xs.take (i*5)++vs++Zs.drop 5).toArray):=fun W hW ty dc=>by
  have hq:W.heap[w.heap.size]? = some (.cells (xs.take (i*5)++Zs).toArray 86 (0,0)):=by rw[hW];exact heap_alloc_new w.drew _
  have hvW:W.heap[vb]? = some (.cells vs.toArray 86 (0,0)):=by rw[hW];exact(heap_alloc_old w.drew _ (Array.getElem?_eq_some_iff.1 hv).1).trans hv
  have h:=run_copyZ (P:=Tryz.prog) W 33 33 ty 86 5 w.heap.size (i*5) (cap+1-i) dc ⟨vb,0,none⟩ 1 1 _ 86 vs Tryz.underlying33 insO_size hq (by rw[hvl,show Nat.min 1 (cap+1-i)=1 by simp only[Nat.min_def];split<;>omega])
   (fun j u hj=>by
    rw[Addr.add_lit,Nat.zero_add]
    refine(cell_of_row _ vb _ _ _ _ hvW).trans ?_
    rw[<-Array.getElem?_toList]
    exact hj)
   (by rw[List.size_toArray,List.length_append,hAl,hvl];omega) h1v
  rw[hvl,put_atinsO _ _ _ _ _ hAl hvl]at h
  exact h
 have hcpB:∀ (W:World),W.heap=((w.drew.alloc (.cells (xs.take (i*5)++Zs).toArray 86)).setRow w.heap.size (xs.take (i*5)++vs++Zs.drop 5).toArray).heap->∀ ty dc sc,(Builtin.copy_ #[33,33] ty #[.slice (some ⟨w.heap.size,(i+1)*5,none⟩) (cap-i) dc,.slice (some ⟨g,i*5,none⟩) (cap-i) sc]).run Tryz.prog W=.ok (goInt (Nat.min (cap-i) (cap-i))) (W.setRow w.heap.size (xs.take (i*5)++vs++xs.drop (i*5)++(Zs.drop 5).drop ((cap-i)*5)).toArray):=fun W hW ty dc sc=>by
  have hq:W.heap[w.heap.size]? = some (.cells (xs.take (i*5)++vs++Zs.drop 5).toArray 86 (0,0)):=by rw[hW];exact setRow_heap _ _ _ _ 86 _ (heap_alloc_new w.drew _)
  have hgW:∀ j u,xs[j]? = some u->W.cell? ⟨g,j,none⟩=some u:=fun j u hj=>by
   refine Eq.trans ?_ (hxs j u hj)
   refine World.cell?_of_block (w:=w) (a:=⟨g,j,none⟩) ?_
   rw[hW]
   exact(setRow_other _ w.heap.size g _ (by omega)).trans (heap_alloc_old w.drew _ hgl)
  have hA2:(xs.take (i*5)++vs).length=(i+1)*5:=by rw[List.length_append,hAl,hvl];omega
  have h:=run_copyZ (P:=Tryz.prog) W 33 33 ty 86 5 w.heap.size ((i+1)*5) (cap-i) dc ⟨g,i*5,none⟩ (cap-i) sc _ 86 (xs.drop (i*5)) Tryz.underlying33 insO_size hq (by rw[hBl,show Nat.min (cap-i) (cap-i)=cap-i by simp only[Nat.min_def];split<;>omega])
   (fun j u hj=>by
    rw[Addr.add_lit]
    rw[List.getElem?_drop]at hj
    exact hgW _ u hj)
   (by rw[hBl,List.size_toArray,List.length_append,hA2,List.length_drop];omega) (fun u hu=>h1c u (List.mem_of_mem_drop hu))
  rw[hBl,put_atinsO _ _ _ _ _ hA2 hBl]at h
  exact h
 have HFIN:Hid (∀ W:World,W.heap=((w.drew.alloc (.cells (xs.take (i*5)++Zs).toArray 86)).setRow w.heap.size (xs.take (i*5)++vs++Zs.drop 5).toArray).heap->W.os=w.os->W.tape=w.tape->W.output=w.output->(W.setRow w.heap.size (xs.take (i*5)++vs++xs.drop (i*5)++(Zs.drop 5).drop ((cap-i)*5)).toArray).ownsRow base 86 5 (.slice (some ⟨w.heap.size,0,none⟩) (cap+1) G) (cap+1) (xs.take (i*5)++vs++xs.drop (i*5))/\w.grownBy (W.setRow w.heap.size (xs.take (i*5)++vs++xs.drop (i*5)++(Zs.drop 5).drop ((cap-i)*5)).toArray) row):=fun W hW h1 h2 h3=>by
  have hq:W.heap[w.heap.size]? = some (.cells (xs.take (i*5)++vs++Zs.drop 5).toArray 86 (0,0)):=by rw[hW];exact setRow_heap _ _ _ _ 86 _ (heap_alloc_new w.drew _)
  have hl:(xs.take (i*5)++vs++xs.drop (i*5)).length=(cap+1)*5:=by rw[List.length_append,List.length_append,hAl,hBl,hvl];omega
  refine⟨⟨hl,.inr ⟨w.heap.size,G,_,rfl,hb,setRow_heap _ _ _ _ 86 _ hq,hGn,hGm,?_,?_⟩⟩,⟨h1,h2,h3,?_,fun k hk _=>?_⟩⟩
  ·rw[List.size_toArray,List.length_append,hl,List.length_drop,List.length_drop];omega
  ·rw[<-hl];exact List.take_left
  ·have:=(Array.getElem?_eq_some_iff.1 hq).1
   simp only[World.setRow,Array.size_modify]
   omega
  ·refine(setRow_other W w.heap.size k _ (by omega)).trans ?_
   rw[hW]
   exact(setRow_other _ w.heap.size k _ (by omega)).trans (heap_alloc_old w.drew _ hk)
 clear hkk hik hold hZs hi0 hz0 hzs hzb hAl hBl hZl
 have hcpA1:=hcpA ((w.alloc (.cells (xs.take (i*5)++Zs).toArray 86)).drew) rfl
 have hcpB1:=hcpB (((w.alloc (.cells (xs.take (i*5)++Zs).toArray 86)).drew.setRow w.heap.size (xs.take (i*5)++vs++Zs.drop 5).toArray).drew) rfl
 have HF:=hideK (HFIN.out (((w.alloc (.cells (xs.take (i*5)++Zs).toArray 86)).drew.setRow w.heap.size (xs.take (i*5)++vs++Zs.drop 5).toArray).drew) rfl rfl rfl rfl)
 clear hcpA hcpB HFIN
 generalize (xs.take (i*5)++Zs).toArray=R0 at hrz hcpA1 hcpB1 HF
 generalize (xs.take (i*5)++vs++Zs.drop 5).toArray=R1 at hcpA1 hcpB1 HF
 generalize (xs.take (i*5)++vs++xs.drop (i*5)++(Zs.drop 5).drop ((cap-i)*5)).toArray=R2 at hcpB1 HF
 generalize (xs.take (i*5)++vs++xs.drop (i*5))=RX at HF ⊢
 go_enter Tryz.func36,Tryz.ntmps36
 go_wp2_with (first
  |(at_builtin;refine Lib.wpList_append_run _ rfl _ _ _ _ rfl _ _ rfl rfl _ _ (hrz _) ?_)
  |(at_builtin;refine wpList_copyZ _ rfl _ _ 33 33 rfl _ _ rfl rfl (hcpA1 _ _) ?_))
 go_region_law_o (refine step_copyZ rfl _ _ 33 33 rfl _ _ (by simp[Act.eval,Act.put]) (by simp[Act.eval,Act.put]) (hcpB1 _ _ _) ?_)
 go_wp2_with fail
 go_ret
 exact⟨_,rfl,HF.out.1,HF.out.2⟩
theorem insO_any (base n i vb:Nat) (v:Value) (xs vs:List Value) (w:World) (hown:w.ownsRow base 86 5 v n xs) (hi:i<=n) (hn:n<=1048576) (hb:base<=w.heap.size)
  (hv:w.heap[vb]? = some (.cells vs.toArray 86 (0,0))) (hvl:vs.length=5) (hne:v.ownBlock≠some vb) (h1c:∀ u∈xs,u.oneCell'=true) (h1v:∀ u∈vs,u.oneCell'=true) :
  Calls Tryz.prog 36 #[v,.int .i64 i,.slice (some ⟨vb,0,none⟩) 1 1] w fun e w'=>∃ v',e=.returned v'/\w'.ownsRow base 86 5 v' (n+1) (xs.take (i*5)++vs++xs.drop (i*5))/\w.grownBy w' v.ownBlock:=by
 have hxl:=hown.1
 by_cases hin:i=n
 ·subst hin
  have h:=insO_end base i vb v xs vs w hown hn hb (fun j u hj=>by
   rw[Addr.add_lit,Nat.zero_add]
   refine(cell_of_row _ vb _ _ _ _ hv).trans ?_
   rw[<-Array.getElem?_toList]
   exact hj) (by rw[hvl]) h1v
  rw[List.take_of_length_le (by omega),List.drop_of_length_le (by omega),List.append_nil]
  exact h
 ·rcases hown.2 with⟨_,h0⟩|⟨g,cap,cur,hvv,hbg,hg,hnc,hcm,hcs,htake⟩
  ·omega
  ·subst hvv
   have hgl:=(Array.getElem?_eq_some_iff.1 hg).1
   have hnv:vb≠g:=fun e=>hne (by rw[e];rfl)
   by_cases hroom:n+1<=cap
   ·refine(insO_room g n cap i vb cur vs w hg hcs (by omega) hn hroom hcm hnv hv hvl (by rw[htake];exact h1c) h1v).mono ?_
    rintro e w' ⟨rfl,rfl⟩
    have hh:=ins_head cur.toList vs (i*5) (n*5) 5 hvl (by omega) (by rw[Array.length_toList];omega)
    have hg1:=setRow_heap w.drew g cur (cur.toList.take (i*5+5)++(cur.toList.take (n*5)).drop (i*5)++cur.toList.drop (n*5+5)).toArray 86 (0,0) hg
    refine⟨_,rfl,⟨?_,.inr ⟨g,cap,_,rfl,hbg,setRow_heap _ g _ _ 86 _ hg1,hroom,hcm,?_,?_⟩⟩,⟨rfl,rfl,rfl,by simp[World.setRow],fun k _ hk=>?_⟩⟩
    ·rw[List.length_append,List.length_append,List.length_take,List.length_drop];omega
    ·rw[List.size_toArray,hh.2,Array.length_toList,hcs]
    ·rw[show (n+1)*5=n*5+5 by omega]
     refine hh.1.trans ?_
     rw[htake]
    ·have hkg:k≠g:=fun e=>hk (by rw[e];rfl)
     exact(setRow_other _ g k _ hkg).trans (setRow_other _ g k _ hkg)
   ·exact insO_grow base g n cap i vb _ xs vs w hxl (fun j u hj=>by
     have:=World.ownsRow.cells hown (g:=g) rfl j u hj
     rwa[Addr.add_lit,Nat.zero_add]at this) (by omega) hn (by omega) hnc hb hgl hv hvl h1c h1v
end Go.Proofs.YtpddanmnlkcdpaaGreatDoor.Pm

