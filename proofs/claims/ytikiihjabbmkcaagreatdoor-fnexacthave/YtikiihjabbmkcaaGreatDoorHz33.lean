/- Texts put together: ShaAppend, ShaBlock, ShaOwn, ShaAllB. -/
import Derived.Test.YtikiihjabbmkcaaGreatDoorHz32
import Derived.Deep.RegionLaw
import Derived.Test.YtikiihjabbmkcaaGreatDoorHz3
import Derived.Test.YtikiihjabbmkcaaGreatDoorHz4
import Derived.Deep.RegionWith
import Derived.Laws.IdiomStrings
import Derived.ArgAppend
import Derived.Test.YtikiihjabbmkcaaGreatDoorHz9
set_option maxRecDepth 100000
set_option maxHeartbeats 8000000
/- append onto a row that the call owns, as one step of a region that draws its order. -/
namespace Go.Proofs.YtikiihjabbmkcaaGreatDoor.Sh
open Go.RowKit
theorem step_append_own {P:Program} {ops:Array Oper} {o:Oper} {a:Act} {w:World} {K:Act->World->Prop} {Q:Exit->Act->World->Prop} {E:Prop}
  (hg:o.guard=none) (s x:Operand) (t:TypeId) (ho:o.op=.call { callee:=.builtin .append,args:=#[s,x],argTypes:=#[t,t] })
  (base:Nat) (e:TypeId) (i:TypeInfo) (z:Value) (size bytes:Nat) (ht:P.underlying t=some (.slice e)) (hi:P.info? e=some i) (hz:i.zero=some z)
  (hsize:i.size=size) (hby:i.bytes=bytes) (hzs:z.cells.size=size) (hsz:0<size)
  (v:Value) (n:Nat) (xs:List Value) (hs:a.eval s=v) (hown:w.ownsRow base e size v n xs)
  (ad:Addr) (m c:Nat) (news:List Value) (hx:a.eval x=.slice (some ad) m c) (hl:news.length=m*size) (hnews:∀ j u,news[j]? = some u->w.cell? (ad.add j)=some u) (h1:∀ u∈news,u.oneCell'=true)
  (h63:n+m<=maxLen) (hbytes:(n+m)*bytes<=140737488355328) (hbase:base<=w.heap.size)
  (h:∀ v' w',w'.ownsRow base e size v' (n+m) (xs++news)->w.grownBy w' v.ownBlock->K (a.put o.dst v') w') :
  if Region.wanted o (yielded ops a.tmps)=true then Oper.wp P o a w K Q else E:=by
 have hw:Region.wanted o (yielded ops a.tmps)=true:=by simp[Region.wanted,hg]
 rw[if_pos hw]
 exact wp_append_own w s x t ho base e i z size bytes ht hi hz hsize hby hzs hsz v n xs hs hown ad m c news hx hl hnews h1 h63 hbytes hbase fun v' w' h2 h3 _=>h v' w' h2 h3
theorem one_new (W:World) (x:Value) (t:TypeId):∀ (j:Nat) (u:Value),[x][j]? = some u->(W.alloc (.cells #[x] t)).cell? ((⟨W.heap.size,0,none⟩:Addr).add j)=some u:=by
 intro j u hj
 match j,hj with
 |0,hj=>simp at hj;subst hj;simp[Addr.add]
theorem one_cell (k:IntKind) (x:Int):∀ u∈[Value.int k x],u.oneCell'=true:=by
 intro u hu
 simp at hu
 subst hu
 rfl
theorem own_empty (W:World) (base t:Nat) (h:base<=W.heap.size):(W.alloc (.cells #[] t)).ownsRow base t 1 (.slice (some ⟨W.heap.size,0,none⟩) 0 0) 0 [] :=
 ⟨rfl,Or.inr ⟨W.heap.size,0,#[],rfl,h,heap_alloc_last W _,Nat.le_refl _,by decide,rfl,rfl⟩⟩
theorem app_low {B:Nat} {e:TypeId} {w wr w1:World} {v:Value} {n size:Nat} {xs:List Value} {o:Obj} (hbel:Below B w wr) (hB:B<=wr.heap.size)
  (hown:wr.ownsRow B e size v n xs) (hgrow:(wr.drew.alloc o).grownBy w1 v.ownBlock):Below B w w1:=by
 refine(hbel.drew.alloc hB o).grown hgrow (by simp;omega) ?_
 intro k hk
 exact(hown.lt k hk).1
end Go.Proofs.YtikiihjabbmkcaaGreatDoor.Sh


namespace Go.Proofs.YtikiihjabbmkcaaGreatDoor.Sh
open Go.RowKit
theorem Tryz.infoS214:(Tryz.prog.info? 214).map (fun i=>(i.zero,i.size,i.bytes))=some (some (.int .u32 0),1,4):=by kernel_rfl
theorem Tryz.infoS2:(Tryz.prog.info? 2).map (fun i=>(i.zero,i.size,i.bytes))=some (some (.int .i64 0),1,8):=by kernel_rfl
theorem step_walk2 (xa xb xc xd xe xf xg xh kk wk:Int) :
  (⟨(((((xh+big1 xe)%4294967296+pick xe xf xg)%4294967296+kk)%4294967296+wk)%4294967296+(big0 xa+most xa xb xc)%4294967296)%4294967296,xa,xb,xc,
   (xd+((((xh+big1 xe)%4294967296+pick xe xf xg)%4294967296+kk)%4294967296+wk)%4294967296)%4294967296,xe,xf,xg⟩:St)
   = stepS ⟨xa,xb,xc,xd,xe,xf,xg,xh⟩ kk wk:=by
 simp[stepS,t1,t2]
theorem blk_range (B:Nat->Nat) (s:Nat->Int) (j:Nat):0<=blk B s j/\blk B s j<4294967296:=by unfold blk;omega
theorem wrapS {s:Nat->Int} (h:∀ j,0<=s j/\s j<4294967296) (j:Nat):IntKind.u32.wrap (s j)=s j:=by
 have:=h j
 rw[IntKind.wrap_u32']
 omega
theorem block_any (s:Nat->Int) (gs c:Nat) (t:ByteArray) (w:World) (ht:t.size=64) (hgs:gs<w.heap.size) (hs:∀ j,j<8->w.cell? ⟨gs,j,none⟩=some (.int .i64 (s j))) (hr:∀ j,0<=s j/\s j<4294967296) :
  Calls Tryz.prog 186 #[.slice (some ⟨gs,0,none⟩) 8 c,.string t] w fun e w'=>∃ g c',e=.returned (.slice (some ⟨g,0,none⟩) 8 c')/\w.heap.size<=g/\g<w'.heap.size/\(∀ j,j<8->w'.cell? ⟨g,j,none⟩=some (.int .i64 (blk (bt t) s j)))/\Below w.heap.size w w':=by
 obtain⟨i0,hi,hz0,hz1,hz2⟩:=info_parts Tryz.infoS214
 have HS:=hideS hs
 have HRR:=hideS hr
 clear hs hr
 go_enter Tryz.func186,Tryz.ntmps186
 go_wp2_with (at_make;refine wpList_make_full _ rfl _ _ 246 rfl w.heap.size 214 i0 (.int .u32 0) 1 Tryz.underlying246 hi hz0 hz1 .i64 .i64 _ _ 64 rfl rfl (by rfl) (by rfl) (by rw[hz2];omega) (by unfold maxLen;omega) (Nat.le_refl _) ?_;intro w1 hown1 hgrow1;have HB1:=hideS (made_rowK hown1);have HL1:=hideS ((Below.refl w.heap.size w).grown hgrow1 (Nat.le_refl _) (by simp));clear hown1 hgrow1)
 go_loopw [6] (fun i wr=>∃ k:Nat,i=.int .i64 k/\k<=16/\IsB wr w.heap.size 214 .u32 64 (lows (bt t) k)/\Below w.heap.size w wr) (fun i _=>16-(intOf i).toNat)
 case atStart=>exact⟨0,rfl,by omega,IsB.congr HB1.out (fun j _=>by simp[lows]),HL1.out⟩
 case round =>
  obtain⟨k,rfl,hk,h1,hbel⟩:=hrel
  have G1:=hideS h1
  have GB:=hideS hbel
  by_cases hlt:k<16
  ·obtain⟨y0,b0,hy0⟩:=byte_at t (4*k) (by omega)
   obtain⟨y1,b1,hy1⟩:=byte_at t (4*k+1) (by omega)
   obtain⟨y2,b2,hy2⟩:=byte_at t (4*k+2) (by omega)
   obtain⟨y3,b3,hy3⟩:=byte_at t (4*k+3) (by omega)
   have Y0:=hideS hy0
   have Y1:=hideS hy1
   have Y2:=hideS hy2
   have Y3:=hideS hy3
   clear hy0 hy1 hy2 hy3
   have r0:=y0.toNat_lt
   have r1:=y1.toNat_lt
   have r2:=y2.toNat_lt
   have r3:=y3.toNat_lt
   have q0:IntKind.i64.wrap (4*(k:Int))=4*(k:Int):=by simp[IntKind.wrap,IntKind.bits,IntKind.signed];omega
   have q1:IntKind.i64.wrap (4*(k:Int)+1)=4*(k:Int)+1:=by simp[IntKind.wrap,IntKind.bits,IntKind.signed];omega
   have q2:IntKind.i64.wrap (4*(k:Int)+2)=4*(k:Int)+2:=by simp[IntKind.wrap,IntKind.bits,IntKind.signed];omega
   have q3:IntKind.i64.wrap (4*(k:Int)+3)=4*(k:Int)+3:=by simp[IntKind.wrap,IntKind.bits,IntKind.signed];omega
   have p0:(4*(k:Int)).toNat=4*k:=by omega
   have p1:(4*(k:Int)+1).toNat=4*k+1:=by omega
   have p2:(4*(k:Int)+2).toNat=4*k+2:=by omega
   have p3:(4*(k:Int)+3).toNat=4*k+3:=by omega
   have z0:0<=4*(k:Int):=by omega
   have z1:0<=4*(k:Int)+1:=by omega
   have z2:0<=4*(k:Int)+2:=by omega
   have z3:0<=4*(k:Int)+3:=by omega
   have lk:(k:Int)<64:=by omega
   have l0:4*(k:Int)<64:=by omega
   have l1:4*(k:Int)+1<64:=by omega
   have l2:4*(k:Int)+2<64:=by omega
   have l3:4*(k:Int)+3<64:=by omega
   have ck:=h1.cell (j:=k) (by omega)
   have cf:=h1.frozen k
   clear h1 hbel
   go_wp2_with fail
   refine still_tail 32 Tryz.checked.mixed (by kernel_rfl) ?_
   simp only[List.take_succ_cons,List.take_zero,List.drop_succ_cons,List.drop_zero]
   repeat still_step
   refine wpStill_nil ?_
   have HW:=hideS (word_spec (bt t) k _ _ _ _ Y0.out Y1.out Y2.out Y3.out (bt_lt t))
   go_wp2_with fail
   go_roundw
   case rel =>
    have hb3:=GB.out.setCell (p:=⟨w.heap.size,k,none⟩) (Nat.le_refl _) (.int .u32 ((word (bt t) k:Nat):Int))
    rw[HW.out]
    exact⟨k+1,by go_num,by omega,IsB.congr (G1.out.set k _) (fun j _=>lows_end (bt t) k j),⟨hb3.os,hb3.tape,hb3.output,hb3.size,hb3.block⟩⟩
   case measure=>simp[intOf];omega
  ·have H2:Hid (IsB wr w.heap.size 214 .u32 64 (highs (bt t) 16)):=by
    have e:k=16:=by omega
    have h:=G1.out
    rw[e]at h
    exact h.congr (fun j _=>highs_start (bt t) j)
   clear h1 hbel G1
   go_wp2_with fail
   go_loopw [7] (fun i wr=>∃ k:Nat,i=.int .i64 k/\16<=k/\k<=64/\IsB wr w.heap.size 214 .u32 64 (highs (bt t) k)/\Below w.heap.size w wr) (fun i _=>64-(intOf i).toNat)
   case atStart=>exact⟨16,rfl,by omega,by omega,H2.out,GB.out⟩
   case round =>
    obtain⟨k,rfl,hk1,hk2,h1,hbel⟩:=hrel
    have G1:=hideS h1
    have GB2:=hideS hbel
    by_cases hlt:k<64
    ·have e15:((k:Int)-15).toNat=k-15:=by omega
     have e2:((k:Int)-2).toNat=k-2:=by omega
     have e16:((k:Int)-16).toNat=k-16:=by omega
     have e7:((k:Int)-7).toNat=k-7:=by omega
     obtain⟨x15,hx15⟩:∃ x,x=wv (bt t) (k-15):=⟨_,rfl⟩
     obtain⟨x2,hx2⟩:∃ x,x=wv (bt t) (k-2):=⟨_,rfl⟩
     obtain⟨x16,hx16⟩:∃ x,x=wv (bt t) (k-16):=⟨_,rfl⟩
     obtain⟨x7,hx7⟩:∃ x,x=wv (bt t) (k-7):=⟨_,rfl⟩
     have HV:Hid ((x16+sm0 x15+x7+sm1 x2)%4294967296=wv (bt t) k):=by
      unfold Hid
      rw[wv_hi (bt t) k (by omega),hx15,hx2,hx16,hx7]
     have c15:wr.cell? ⟨w.heap.size,k-15,none⟩=some (.int .u32 x15):=by rw[h1.cell (by omega),highs_at (bt t) k _ (by omega),hx15]
     have c2:wr.cell? ⟨w.heap.size,k-2,none⟩=some (.int .u32 x2):=by rw[h1.cell (by omega),highs_at (bt t) k _ (by omega),hx2]
     have c16:wr.cell? ⟨w.heap.size,k-16,none⟩=some (.int .u32 x16):=by rw[h1.cell (by omega),highs_at (bt t) k _ (by omega),hx16]
     have c7:wr.cell? ⟨w.heap.size,k-7,none⟩=some (.int .u32 x7):=by rw[h1.cell (by omega),highs_at (bt t) k _ (by omega),hx7]
     have ck:=h1.cell (j:=k) (by omega)
     have hfz:=h1.frozen k
     clear h1 hbel hx15 hx2 hx16 hx7
     go_wp2_with fail
     have v16:IntKind.i64.wrap ((k:Int)-16)=(k:Int)-16:=by simp[IntKind.wrap,IntKind.bits,IntKind.signed];omega
     have v7:IntKind.i64.wrap ((k:Int)-7)=(k:Int)-7:=by simp[IntKind.wrap,IntKind.bits,IntKind.signed];omega
     have a16:(16:Int)<=(k:Int):=by omega
     have a7:(7:Int)<=(k:Int):=by omega
     have z16:0<=(k:Int)-16:=by omega
     have z7:0<=(k:Int)-7:=by omega
     have y16:(k:Int)-16<64:=by omega
     have y7:(k:Int)-7<64:=by omega
     refine still_tail 32 Tryz.checked.mixed (by kernel_rfl) ?_
     simp only[List.take_succ_cons,List.take_zero,List.drop_succ_cons,List.drop_zero]
     repeat (first|still_call (turnI_spec _ _ _ (by decide) (by decide))|still_step)
     refine wpStill_nil ?_
     go_wp2_with fail
     go_roundw
     case rel =>
      have hb3:=GB2.out.setCell (p:=⟨w.heap.size,k,none⟩) (Nat.le_refl _) (.int .u32 (wv (bt t) k))
      have e:=HV.out
      simp only[sm0,sm1]at e
      rw[e]
      exact⟨k+1,by go_num,by omega,by omega,IsB.congr (G1.out.set k _) (fun j _=>highs_end (bt t) k j _ rfl),⟨hb3.os,hb3.tape,hb3.output,hb3.size,hb3.block⟩⟩
     case measure=>simp[intOf];omega
    ·have HWV:Hid (IsB wr w.heap.size 214 .u32 64 (wv (bt t))):=by
      have e:k=64:=by omega
      have h:=G1.out
      rw[e]at h
      exact h.congr (fun j hj=>highs_at (bt t) 64 j hj)
     have hcs:∀ j,j<8->wr.cell? ⟨gs,j,none⟩=some (.int .i64 (s j)):=fun j hj=>(hbel.cell (p:=⟨gs,j,none⟩) hgs).trans (HS.out j hj)
     have g0:=hcs 0 (by decide)
     have g1:=hcs 1 (by decide)
     have g2:=hcs 2 (by decide)
     have g3:=hcs 3 (by decide)
     have g4:=hcs 4 (by decide)
     have g5:=hcs 5 (by decide)
     have g6:=hcs 6 (by decide)
     have g7:=hcs 7 (by decide)
     have HCS:=hideS hcs
     have m0:IntKind.u32.wrap (s 0)=s 0:=wrapS HRR.out 0
     have m1:IntKind.u32.wrap (s 1)=s 1:=wrapS HRR.out 1
     have m2:IntKind.u32.wrap (s 2)=s 2:=wrapS HRR.out 2
     have m3:IntKind.u32.wrap (s 3)=s 3:=wrapS HRR.out 3
     have m4:IntKind.u32.wrap (s 4)=s 4:=wrapS HRR.out 4
     have m5:IntKind.u32.wrap (s 5)=s 5:=wrapS HRR.out 5
     have m6:IntKind.u32.wrap (s 6)=s 6:=wrapS HRR.out 6
     have m7:IntKind.u32.wrap (s 7)=s 7:=wrapS HRR.out 7
     clear h1 hbel G1 hcs
     go_wp2_with fail
     refine still_lit Tryz.checked.mixed (by kernel_rfl) ?_
     repeat still_step
     refine wpStill_nil ?_
     go_wp2_with fail
     refine still_lit Tryz.checked.mixed (by kernel_rfl) ?_
     repeat still_step
     refine wpStill_nil ?_
     go_wp2_with fail
     refine(keys_any _).mono ?_
     rintro e w4 ⟨rfl,hw4⟩
     have HK4:Hid (IsB w4 wr.heap.size 214 .u32 64 keyF):=by
      unfold Hid
      rw[hw4]
      exact IsB.new wr.drew.drew _ _ _ _
     have HW4:Hid (IsB w4 w.heap.size 214 .u32 64 (wv (bt t))):=by
      unfold Hid
      rw[hw4]
      exact IsB.alloc (w:=wr.drew.drew) HWV.out _
     have HB4:Hid (Below w.heap.size w w4):=by
      unfold Hid
      rw[hw4]
      exact(GB2.out.drew.drew).alloc GB2.out.size _
     clear hw4 g0 g1 g2 g3 g4 g5 g6 g7 m0 m1 m2 m3 m4 m5 m6 m7
     have HGK:=hideS (show w.heap.size<=wr.heap.size from GB2.out.size)
     go_wp2_with fail
     generalize wr.heap.size=GK at HK4 HGK ⊢
     go_loopw [10,11,12,13,14,15,16,17,19] (fun va vb vc vd ve vf vg vh i wr=>∃ (k:Nat) (xa xb xc xd xe xf xg xh:Int),i=.int .i64 k/\k<=64/\va=.int .u32 xa/\vb=.int .u32 xb/\vc=.int .u32 xc/\vd=.int .u32 xd/\ve=.int .u32 xe/\vf=.int .u32 xf/\vg=.int .u32 xg/\vh=.int .u32 xh/\(⟨xa,xb,xc,xd,xe,xf,xg,xh⟩:St)=run (bt t) s k/\∃ n,wr=w4.drewN n) (fun _ _ _ _ _ _ _ _ i _=>64-(intOf i).toNat)
     case atStart=>exact⟨0,_,_,_,_,_,_,_,_,rfl,by omega,rfl,rfl,rfl,rfl,rfl,rfl,rfl,rfl,rfl,0,rfl⟩
     case round =>
      obtain⟨k,xa,xb,xc,xd,xe,xf,xg,xh,rfl,hk,rfl,rfl,rfl,rfl,rfl,rfl,rfl,rfl,hst,nd,rfl⟩:=hrel
      have HST:=hideS hst
      clear hst
      by_cases hlt:k<64
      ·obtain⟨wk,hwk⟩:∃ x,x=wv (bt t) k:=⟨_,rfl⟩
       obtain⟨kk,hkk⟩:∃ x,x=keyF k:=⟨_,rfl⟩
       have c1:w4.cell? ⟨GK,k,none⟩=some (.int .u32 kk):=by rw[HK4.out.cell hlt,hkk]
       have c2:w4.cell? ⟨w.heap.size,k,none⟩=some (.int .u32 wk):=by rw[HW4.out.cell hlt,hwk]
       have lk:(k:Int)<64:=by omega
       have HX:Hid (stepS ⟨xa,xb,xc,xd,xe,xf,xg,xh⟩ kk wk=run (bt t) s (k+1)):=by
        unfold Hid
        rw[HST.out,hwk,hkk]
        rfl
       clear hwk hkk
       go_wp2_with (go_at_call 210;refine(turnI_spec _ _ _ (by decide) (by decide)).mono ?_;rintro e w' ⟨rfl,hw⟩;subst w')
       refine still_lit Tryz.checked.mixed (by kernel_rfl) ?_
       repeat (first|still_call (turnI_spec _ _ _ (by decide) (by decide))|still_step)
       refine wpStill_nil ?_
       go_wp2_with (go_at_call 210;refine(turnI_spec _ _ _ (by decide) (by decide)).mono ?_;rintro e w' ⟨rfl,hw⟩;subst w')
       go_roundw
       case rel=>exact⟨k+1,_,_,_,_,_,_,_,_,by go_num,by omega,rfl,rfl,rfl,rfl,rfl,rfl,rfl,rfl,(step_walk2 xa xb xc xd xe xf xg xh kk wk).trans HX.out,nd+1,rfl⟩
       case measure=>simp[intOf];omega
      ·obtain⟨X,hX⟩:∃ X:St,X=⟨xa,xb,xc,xd,xe,xf,xg,xh⟩:=⟨_,rfl⟩
       have HE:Hid (X=run (bt t) s 64):=by
        unfold Hid
        rw[hX,HST.out]
        congr 1
        omega
       have HX:=hideS hX
       clear hX
       obtain⟨i1,hi1,hy0,hy1,hy2⟩:=info_parts Tryz.infoS2
       go_wp2_with fail
       have HV5:Hid (IsB ((w4.drewN nd).alloc (.cells #[.int .u32 xa,.int .u32 xb,.int .u32 xc,.int .u32 xd,.int .u32 xe,.int .u32 xf,.int .u32 xg,.int .u32 xh] 214)) w4.heap.size 214 .u32 8 X.at):=by
        unfold Hid
        rw[HX.out]
        exact IsB.of_list (w4.drewN nd) 214 .u32 8 _ _ (by rfl)
       have HB5:Hid (Below w.heap.size w ((w4.drewN nd).alloc (.cells #[.int .u32 xa,.int .u32 xb,.int .u32 xc,.int .u32 xd,.int .u32 xe,.int .u32 xf,.int .u32 xg,.int .u32 xh] 214))) :=
        Below.alloc (w:=w4.drewN nd) ⟨HB4.out.os,HB4.out.tape,HB4.out.output,HB4.out.size,HB4.out.block⟩ HB4.out.size _
       have HZ5:Hid (((w4.drewN nd).alloc (.cells #[.int .u32 xa,.int .u32 xb,.int .u32 xc,.int .u32 xd,.int .u32 xe,.int .u32 xf,.int .u32 xg,.int .u32 xh] 214)).heap.size=w4.heap.size+1):=by
        unfold Hid
        simp
       generalize ((w4.drewN nd).alloc (.cells #[.int .u32 xa,.int .u32 xb,.int .u32 xc,.int .u32 xd,.int .u32 xe,.int .u32 xf,.int .u32 xg,.int .u32 xh] 214))=w5 at HV5 HB5 HZ5 ⊢
       have HG5:=hideS HB4.out.size
       generalize w4.heap.size=G5 at HV5 HZ5 HG5 ⊢
       go_loopw [23,24] (fun v i wr=>∃ j:Nat,i=.int .i64 j/\j<=8/\wr.ownsRow (G5+1) 2 1 v j (rowF .i64 j (blk (bt t) s)).toList/\Below (G5+1) w5 wr) (fun _ i _=>8-(intOf i).toNat)
       case atStart =>
        have e:=own_empty w5 (G5+1) 2 (by rw[HZ5.out];exact Nat.le_refl _)
        rw[HZ5.out]at e
        exact⟨0,rfl,by omega,e,(Below.refl _ _).alloc (by rw[HZ5.out];exact Nat.le_refl _) _⟩
       case round =>
        obtain⟨j,rfl,hj,hown,hbel⟩:=hrel
        have HO:=hideS hown
        have HL:=hideS hbel
        have HBW:=hideS (HB5.out.trans (hbel.mono (show w.heap.size<=G5+1 from Nat.le_succ_of_le HG5.out)))
        by_cases hlt8:j<8
        ·obtain⟨sj,hsj⟩:∃ x,x=s j:=⟨_,rfl⟩
         obtain⟨xj,hxj⟩:∃ x,x=X.at j:=⟨_,rfl⟩
         obtain⟨bj,hbj⟩:∃ x,x=blk (bt t) s j:=⟨_,rfl⟩
         have cs:wr.cell? ⟨gs,j,none⟩=some (.int .i64 sj):=by rw[HBW.out.cell (p:=⟨gs,j,none⟩) hgs,HS.out j hlt8,hsj]
         have cv:wr.cell? ⟨G5,j,none⟩=some (.int .u32 xj):=by rw[hbel.cell (p:=⟨G5,j,none⟩) (by simp),HV5.out.cell hlt8,hxj]
         have u1:IntKind.u32.wrap sj=sj:=by rw[hsj];exact wrapS HRR.out j
         have u2:IntKind.u32.wrap (sj+xj)=bj:=by rw[IntKind.wrap_u32',hsj,hxj,hbj,HE.out];rfl
         have u3:IntKind.i64.wrap bj=bj:=by
          have:=blk_range (bt t) s j
          rw[<-hbj]at this
          simp[IntKind.wrap,IntKind.bits,IntKind.signed]
          omega
         have HBJ:=hideS hbj
         have l8:(j:Int)<8:=by omega
         have hownD:wr.drew.ownsRow (G5+1) 2 1 _ j (rowF .i64 j (blk (bt t) s)).toList:=hown
         have HOD:=hideS hownD
         have hsz5:G5+1<=wr.heap.size:=by have:=hbel.size;have:=HZ5.out;omega
         clear hown hbel hsj hxj hbj hownD
         go_wp2_with fail
         go_region_law (refine step_append_own rfl (.tmp 220) (.tmp 232) 27 rfl (G5+1) 2 i1 (.int .i64 0) 1 8 Tryz.underlying27 hi1 hy0 hy1 hy2 rfl (by decide) u23 _ _ rfl (HOD.out.alloc _) ⟨wr.heap.size,0,none⟩ 1 1 [.int .i64 bj] rfl rfl (one_new wr.drew _ _) (one_cell _ _) (by unfold maxLen;omega) (by omega) (by simp;omega) ?_;intro v' w6 ho6 hg6)
         all_goals (
          have hb6:Below (G5+1) w5 w6:=app_low HL.out hsz5 HO.out hg6
          have HR6:Hid (w6.ownsRow (G5+1) 2 1 v' (j+1) (rowF .i64 (j+1) (blk (bt t) s)).toList):=by
           unfold Hid
           rw[<-rowF_snoc,<-HBJ.out]
           exact ho6
          clear ho6 hg6
          go_wp2_with fail
          go_roundw
          case rel=>exact⟨j+1,by go_num,by omega,HR6.out,hb6⟩
          case measure=>simp[intOf];omega)
        ·have hown8:wr.ownsRow (G5+1) 2 1 u23 8 (rowF .i64 8 (blk (bt t) s)).toList:=by
          have e:j=8:=by omega
          rw[e]at hown
          exact hown
         obtain⟨g,c',hv,hg1,hg2,hcl⟩:=own_cells (n:=8) (by decide) hown8
         subst hv
         have HCL:=hideS hcl
         have HGG:=hideS (show w.heap.size<=g by have:=HG5.out;omega)
         have HG2:=hideS hg2
         clear hown hbel hown8 hcl hg1 hg2
         go_wp2_with fail
         go_ret
         exact⟨g,c',rfl,HGG.out,HG2.out,HCL.out,HBW.out⟩
end Go.Proofs.YtikiihjabbmkcaaGreatDoor.Sh


/- A row of bytes that the call made, in whatever block it lies by now, told by a function from places to numbers; and append of one byte onto it. -/
namespace Go.Proofs.YtikiihjabbmkcaaGreatDoor.Sh
open Go.RowKit
def OwnB (w:World) (base:Nat) (v:Value) (n:Nat) (f:Nat->Nat):Prop :=
 ∃ g cap,v=.slice (some ⟨g,0,none⟩) n cap/\base<=g/\g<w.heap.size/\n<=cap/\cap<=maxLen/\(∀ j,j<n->w.cell? ⟨g,j,none⟩=some (.int .u8 (f j:Nat))) /\
  ∀ j,n<=j->j<cap->(w.cell? ⟨g,j,none⟩).isSome=true/\w.frozen? ⟨g,j,none⟩=false
theorem OwnB.congr {w:World} {base:Nat} {v:Value} {n:Nat} {f f':Nat->Nat} (h:OwnB w base v n f) (e:∀ j,j<n->f j=f' j):OwnB w base v n f':=by
 obtain⟨g,cap,h1,h2,h3,h4,h5,h6,h7⟩:=h
 exact⟨g,cap,h1,h2,h3,h4,h5,fun j hj=>by rw[h6 j hj,e j hj],h7⟩
theorem OwnB.alloc {w:World} {base:Nat} {v:Value} {n:Nat} {f:Nat->Nat} (h:OwnB w base v n f) (o:Obj):OwnB (w.alloc o) base v n f:=by
 obtain⟨g,cap,h1,h2,h3,h4,h5,h6,h7⟩:=h
 refine⟨g,cap,h1,h2,by simp;omega,h4,h5,fun j hj=>?_,fun j hj1 hj2=>?_⟩
 ·rw[World.cell?_alloc_past o g j h3];exact h6 j hj
 ·rw[World.cell?_alloc_past o g j h3,World.frozen?_alloc_past o g j h3];exact h7 j hj1 hj2
theorem OwnB.below {w w':World} {base B:Nat} {v:Value} {n:Nat} {f:Nat->Nat} (h:OwnB w base v n f) (b:Below B w w') (hB:w.heap.size<=B):OwnB w' base v n f:=by
 obtain⟨g,cap,h1,h2,h3,h4,h5,h6,h7⟩:=h
 refine⟨g,cap,h1,h2,Nat.lt_of_lt_of_le h3 b.size,h4,h5,fun j hj=>?_,fun j hj1 hj2=>?_⟩
 ·rw[b.cell (p:=⟨g,j,none⟩) (show g<B by omega)];exact h6 j hj
 ·rw[b.cell (p:=⟨g,j,none⟩) (show g<B by omega),b.frozen (p:=⟨g,j,none⟩) (show g<B by omega)];exact h7 j hj1 hj2
theorem OwnB.slice {w:World} {base:Nat} {v:Value} {n:Nat} {f:Nat->Nat} (h:OwnB w base v n f):∃ g cap,v=.slice (some ⟨g,0,none⟩) n cap/\n<=cap:=by
 obtain⟨g,cap,h1,_,_,h4,_⟩:=h
 exact⟨g,cap,h1,h4⟩
theorem own_of_string (w:World) (base:Nat) (s:ByteArray) (e:TypeId) (hs:s.size<=maxLen) (hb:base<=w.heap.size) :
  OwnB (w.drew.alloc (.cells (bytesRow s (grownCap w s.size 0 e)) e ((bytesRow s (grownCap w s.size 0 e)).size,(bytesRow s (grownCap w s.size 0 e)).size+1))) base
   (.slice (some ⟨w.heap.size,0,none⟩) s.size (grownCap w s.size 0 e)) s.size (bt s):=by
 have hge:=grownCap_ge w s.size 0 e
 have hcm:=grownCap_le_maxLen w s.size 0 e hs
 generalize grownCap w s.size 0 e=cap at hge hcm
 have hsz:(bytesRow s cap).size=cap:=by
  have:s.data.size=s.size:=rfl
  simp[bytesRow]
  omega
 have hc:∀ j,(w.drew.alloc (.cells (bytesRow s cap) e ((bytesRow s cap).size,(bytesRow s cap).size+1))).cell? ⟨w.heap.size,j,none⟩=(bytesRow s cap)[j]?:=fun j =>
  cell_of_row _ w.heap.size j _ e _ (heap_alloc_last w.drew _)
 refine⟨w.heap.size,cap,rfl,hb,by simp,hge,hcm,fun j hj=>?_,fun j hj1 hj2=>?_⟩
 ·rw[hc,bytesRow_at s cap j (show j<s.data.size from hj)]
  have:=bt_get s j hj
  simp only[<-this]
  rfl
 ·rw[hc]
  refine⟨by rw[Array.getElem?_eq_getElem (by omega)];rfl,?_⟩
  unfold World.frozen?
  rw[show (w.drew.alloc (.cells (bytesRow s cap) e ((bytesRow s cap).size,(bytesRow s cap).size+1))).heap[(⟨w.heap.size,j,none⟩:Addr).block]? = some (.cells (bytesRow s cap) e ((bytesRow s cap).size,(bytesRow s cap).size+1)) from heap_alloc_last w.drew _]
  simp[hsz]
  omega
theorem run_append_b {P:Program} (w:World) (base:Nat) (t ty e:TypeId) (i:TypeInfo) (ht:P.underlying t=some (.slice e)) (hi:P.info? e=some i) (hz:i.zero=some (.int .u8 0))
  (hsize:i.size=1) (hby:i.bytes=1) (v:Value) (n:Nat) (f:Nat->Nat) (hown:OwnB w base v n f) (ad:Addr) (c x:Nat) (hx:w.cell? (ad.add 0)=some (.int .u8 (x:Nat))) (hn:n+1<=140737488355328) (hbase:base<=w.heap.size) :
  ∃ v' w',(Builtin.append_ #[t,t] ty #[v,.slice (some ad) 1 c]).run P w=.ok v' w'/\OwnB w' base v' (n+1) (fun j=>if j=n then x else f j)/\w.grownBy w' v.ownBlock:=by
 obtain⟨g,cap,rfl,hg1,hg2,hnc,hcm,hcl,hsp⟩:=hown
 have hnews:∀ (j:Nat) (u:Value),[Value.int .u8 (x:Nat)][j]? = some u->w.cell? (ad.add j)=some u:=by
  intro j u hj
  match j,hj with
  |0,hj=>simp at hj;subst hj;exact hx
 have hone:∀ u∈[Value.int .u8 (x:Nat)],u.oneCell'=true:=by
  intro u hu
  simp at hu
  subst hu
  rfl
 by_cases hroom:n+1<=cap
 ·obtain⟨sp1,sp2⟩:=hsp n (Nat.le_refl _) hroom
  have hr:=run_append_room_cells (P:=P) w t ty e i ht hi g 0 n cap ad 1 c [.int .u8 (x:Nat)] (by simp[hsize]) hnews hone hroom
   (fun j hj=>by simp at hj;subst hj;simpa [hsize] using sp1) (fun j hj=>by simp at hj;subst hj;simpa [hsize] using sp2)
  refine⟨_,_,hr,?_,⟨rfl,rfl,rfl,?_,?_⟩⟩
  ·obtain⟨y,hy⟩:=Option.isSome_iff_exists.1 sp1
   simp only[hsize,Nat.mul_one,Nat.zero_add,World.setCells]
   refine⟨g,cap,rfl,hg1,by simpa using hg2,hroom,hcm,fun j hj=>?_,fun j hj1 hj2=>?_⟩
   ·by_cases e':j=n
    ·subst e'
     rw[World.cell?_setCell_same w _ _ hy]
     simp
    ·rw[World.cell?_setCell_other w _ _ _ (by simp<;>omega),hcl j (by omega)]
     simp[e']
   ·rw[World.cell?_setCell_other w _ _ _ (by simp<;>omega),World.frozen?_setCell]
    exact hsp j (by omega) hj2
  ·simp[hsize,World.setCells]
  ·intro k _ hk
   simp only[hsize,World.setCells]
   exact heap_setCell_other w _ k _ (by intro e';exact hk (by simp[Value.ownBlock,e']))
 ·have hcap:cap=n:=by omega
  have hr:=run_append_grow (P:=P) w t ty e i (.int .u8 0) ht hi hz ⟨g,0,none⟩ n cap ((List.range n).map fun j=>Value.int .u8 (f j:Nat)) (by simp[hsize])
   (fun j u hj=>by
    have hadd:(⟨g,0,none⟩:Addr).add j=⟨g,j,none⟩:=by unfold Addr.add;split<;>simp_all
    rw[hadd]
    by_cases hjn:j<n
    ·simp[hjn]at hj
     rw[hcl j hjn,hj]
    ·simp[hjn]at hj)
   ad 1 c [.int .u8 (x:Nat)] (by simp[hsize]) hnews (by omega) (by omega) (by rw[hby];exact growslice_fits (by omega) (by omega))
  have hge:=grownCap_ge w (n+1) cap e
  have hcm2:=grownCap_le_maxLen w (n+1) cap e (by unfold maxLen;omega)
  refine⟨_,_,hr,?_,⟨rfl,rfl,rfl,by simp,fun k hk _=>Below.heap_alloc w.drew _ k hk⟩⟩
  generalize grownCap w (n+1) cap e=cap' at hge hcm2
  have hcc:∀ (cs:Array Value) (j:Nat),(w.drew.alloc (.cells cs e)).cell? ⟨w.heap.size,j,none⟩=cs[j]?:=fun cs j=>World.cell?_alloc_new w.drew cs e j
  have hff:∀ (cs:Array Value) (j:Nat),(w.drew.alloc (.cells cs e)).frozen? ⟨w.heap.size,j,none⟩=false:=fun cs j=>World.frozen?_alloc_new w.drew cs e j
  refine⟨w.heap.size,cap',rfl,hbase,by simp,hge,hcm2,fun j hj=>?_,fun j hj1 hj2=>⟨?_,hff _ j⟩⟩
  ·rw[hcc]
   by_cases e':j=n
   ·subst e'
    simp[Array.getElem?_append]
   ·have hjn:j<n:=by omega
    simp[Array.getElem?_append,hjn,hj,e']
  ·rw[hcc,Array.getElem?_eq_getElem]
   ·rfl
   ·simp[size_zeroCells,Value.cells]
    omega
theorem wpList_append_b {P:Program} {w:World} {ops:Array Oper} {rest:List Oper} {o:Oper} {a:Act} {Q:Exit->Act->World->Prop} (hgd:o.guard=none) (s y:Operand) (t:TypeId)
  (ho:o.op=.call { callee:=.builtin .append,args:=#[s,y],argTypes:=#[t,t] })
  (base:Nat) (e:TypeId) (i:TypeInfo) (ht:P.underlying t=some (.slice e)) (hi:P.info? e=some i) (hz:i.zero=some (.int .u8 0)) (hsize:i.size=1) (hby:i.bytes=1)
  (v:Value) (n:Nat) (f:Nat->Nat) (hs:a.eval s=v) (hown:OwnB w base v n f) (ad:Addr) (c x:Nat) (hy:a.eval y=.slice (some ad) 1 c) (hx:w.cell? (ad.add 0)=some (.int .u8 (x:Nat)))
  (hn:n+1<=140737488355328) (hbase:base<=w.heap.size)
  (h:∀ v' w',OwnB w' base v' (n+1) (fun j=>if j=n then x else f j)->w.grownBy w' v.ownBlock->wpList P ops Q rest (a.put o.dst v') w'):wpList P ops Q (o :: rest) a w:=by
 refine wpList_plain hgd fun K hK=>?_
 obtain⟨v',w',hr,h2,h3⟩:=run_append_b (P:=P) w base t o.type e i ht hi hz hsize hby v n f hown ad c x hx hn hbase
 unfold Oper.wp execOp
 simp only[ho,resolve,invoke,builtin,Sem.run_bind,Sem.run_pure,Result.andThen_ok,List.map_toArray,List.map_cons,List.map_nil,hs,hy,hr]
 exact hK _ _ (h v' w' h2 h3)
end Go.Proofs.YtikiihjabbmkcaaGreatDoor.Sh


/- Plain mathematics for spec.l02All: what is filled up byte by byte, and that a block looks at its 64 bytes alone. -/
namespace Go.Proofs.YtikiihjabbmkcaaGreatDoor.Sh
theorem pad_first (t:ByteArray) (j:Nat) (h:j<t.size+1):(if j=t.size then 128 else bt t j)=pad t j:=by
 by_cases e:j=t.size
 ·subst e;simp[pad,padK]
 ·have:j<t.size:=by omega
  simp[pad,padK,e,this]
theorem pad_zero (t:ByteArray) (n:Nat) (h1:t.size<n) (h2:n+8<chunks t.size*64):pad t n=0:=by
 have a:¬n<t.size:=by omega
 have b:¬n=t.size:=by omega
 have c:¬chunks t.size*64<=n+8:=by omega
 simp[pad,padK,a,b,c]
theorem pad_len (t:ByteArray) (m:Nat) (hm:m<8):pad t (chunks t.size*64-8+m)=t.size*8/2 ^ (56-8*m)%256:=by
 have hr:=chunks_room t.size
 have a:¬chunks t.size*64-8+m<t.size:=by omega
 have b:¬chunks t.size*64-8+m=t.size:=by omega
 have c:chunks t.size*64<=chunks t.size*64-8+m+8:=by omega
 have d:chunks t.size*64-1-(chunks t.size*64-8+m)=7-m:=by omega
 have e:8*(7-m)=56-8*m:=by omega
 simp only[pad,padK,if_neg a,if_neg b,if_pos c,d,e]
theorem pad_app (t:ByteArray) (n x:Nat) (hx:x=pad t n) (j:Nat):(if j=n then x else pad t j)=pad t j:=by
 by_cases e:j=n
 ·subst e;simp[hx]
 ·simp[e]
theorem part_congr (B B':Nat->Nat) (h:∀ j,j<64->B j=B' j) (i:Nat) (hi:i<16):∀ j,j<=4->part B i j=part B' i j
 |0,_=>rfl
 |j+1,hj=>by simp only[part];rw[part_congr B B' h i hi j (by omega),h _ (by omega)]
theorem wv_congr (B B':Nat->Nat) (h:∀ j,j<64->B j=B' j) (i:Nat):wv B i=wv B' i:=by
 induction i using Nat.strongRecOn with
 |_ i ih =>
  by_cases hi:i<16
  ·rw[wv_lo B i hi,wv_lo B' i hi]
   simp only[word]
   rw[part_congr B B' h i hi 4 (Nat.le_refl _)]
  ·rw[wv_hi B i hi,wv_hi B' i hi,ih (i-16) (by omega),ih (i-15) (by omega),ih (i-7) (by omega),ih (i-2) (by omega)]
theorem run_congr (B B':Nat->Nat) (s:Nat->Int) (h:∀ j,j<64->B j=B' j):∀ k,run B s k=run B' s k
 |0=>rfl
 |k+1=>by simp only[run];rw[run_congr B B' s h k,wv_congr B B' h k]
theorem blk_congr (B B':Nat->Nat) (s:Nat->Int) (h:∀ j,j<64->B j=B' j):blk B s=blk B' s:=by
 funext j
 simp only[blk]
 rw[run_congr B B' s h 64]
theorem blk_str (t:ByteArray) (k:Nat) (s:Nat->Int):blk (bt (strF 64 (blkB t k))) s=blk (blkB t k) s :=
 blk_congr _ _ s (fun j hj=>bt_strF 64 _ j hj (blkB_lt t k j))
theorem firstF_range (j:Nat):0<=firstF j/\firstF j<4294967296:=by
 by_cases h:j<8
 ·have:j=0∨j=1∨j=2∨j=3∨j=4∨j=5∨j=6∨j=7:=by omega
  rcases this with rfl|rfl|rfl|rfl|rfl|rfl|rfl|rfl<;>decide
 ·simp[firstF,firstL,List.getD,List.getElem?_eq_none (show [1779033703,3144134277,1013904242,2773480762,1359893119,2600822924,528734635,(1541459225:Int)].length<=j by simp;omega)]
theorem shaS_range (t:ByteArray) (k j:Nat):0<=shaS t k j/\shaS t k j<4294967296:=by
 cases k with
 |zero=>exact firstF_range j
 |succ k=>simp only[shaS,blk];omega
end Go.Proofs.YtikiihjabbmkcaaGreatDoor.Sh

