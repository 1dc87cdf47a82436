/- Texts put together: ShaAppend, ShaBlock, ShaOwn, ShaAllB, ShaOwn2, ShaAllA, ShaTop, JoinWalks, NodeTop. -/
import Derived.Test.YtjfdllgodijibaaGreatDoorWz8
import Derived.Deep.RegionLaw
import Derived.Test.YtjfdllgodijibaaGreatDoorWz3
import Derived.Deep.RegionWith
import Derived.Laws.IdiomStrings
import Derived.ArgAppend
import Derived.BigRegion
import Derived.Test.YtjfdllgodijibaaGreatDoorWz6
set_option maxRecDepth 100000
set_option maxHeartbeats 8000000
/- append onto a row that the call owns, as one step of a region that draws its order. -/
namespace Go.Proofs.YtjfdllgodijibaaGreatDoor.Sh
open Go.RowKit
theorem step_append_own {P:Program} {ops:Array Oper} {o:Oper} {a:Act} {w:World} {K:Act->World->Prop} {Q:Exit->Act->World->Prop} {E:Prop}
  (hg:o.guard=none) (s x:Operand) (t:TypeId) (ho:o.op=.call { callee:=.builtin .append,args:=#[s,x],argTypes:=#[t,t] })
  (base:Nat) (e:TypeId) (i:TypeInfo) (z:Value) (size bytes:Nat) (ht:P.underlying t=some (.slice e)) (hi:P.info? e=some i) (hz:i.zero=some z)
  (hsize:i.size=size) (hby:i.bytes=bytes) (hzs:z.cells.size=size) (hsz:0<size)
  (v:Value) (n:Nat) (xs:List Value) (hs:a.eval s=v) (hown:w.ownsRow base e size v n xs)
  (ad:Addr) (m c:Nat) (news:List Value) (hx:a.eval x=.slice (some ad) m c) (hl:news.length=m*size) (hnews:∀ j u,news[j]? = some u->w.cell? (ad.add j)=some u) (h1:∀ u∈news,u.oneCell'=true)
  (h63:n+m<=maxLen) (hbytes:(n+m)*bytes<=140737488355328) (hbase:base<=w.heap.size)
  (h:∀ v' w',w'.ownsRow base e size v' (n+m) (xs++news)->w.grownBy w' v.ownBlock->K (a.put o.dst v') w') :
  if Region.wanted o (yielded ops a.tmps)=true then Oper.wp P o a w K Q else E:=by
 have hw:Region.wanted o (yielded ops a.tmps)=true:=by simp[Region.wanted,hg]
 rw[if_pos hw]
 exact wp_append_own w s x t ho base e i z size bytes ht hi hz hsize hby hzs hsz v n xs hs hown ad m c news hx hl hnews h1 h63 hbytes hbase fun v' w' h2 h3 _=>h v' w' h2 h3
theorem one_new (W:World) (x:Value) (t:TypeId):∀ (j:Nat) (u:Value),[x][j]? = some u->(W.alloc (.cells #[x] t)).cell? ((⟨W.heap.size,0,none⟩:Addr).add j)=some u:=by
 intro j u hj
 match j,hj with
 |0,hj=>simp at hj;subst hj;simp[Addr.add]
theorem one_cell (k:IntKind) (x:Int):∀ u∈[Value.int k x],u.oneCell'=true:=by
 intro u hu
 simp at hu
 subst hu
 rfl
theorem own_empty (W:World) (base t:Nat) (h:base<=W.heap.size):(W.alloc (.cells #[] t)).ownsRow base t 1 (.slice (some ⟨W.heap.size,0,none⟩) 0 0) 0 [] :=
 ⟨rfl,Or.inr ⟨W.heap.size,0,#[],rfl,h,heap_alloc_last W _,Nat.le_refl _,by decide,rfl,rfl⟩⟩
theorem app_low {B:Nat} {e:TypeId} {w wr w1:World} {v:Value} {n size:Nat} {xs:List Value} {o:Obj} (hbel:Below B w wr) (hB:B<=wr.heap.size)
  (hown:wr.ownsRow B e size v n xs) (hgrow:(wr.drew.alloc o).grownBy w1 v.ownBlock):Below B w w1:=by
 refine(hbel.drew.alloc hB o).grown hgrow (by simp;omega) ?_
 intro k hk
 exact(hown.lt k hk).1
end Go.Proofs.YtjfdllgodijibaaGreatDoor.Sh


namespace Go.Proofs.YtjfdllgodijibaaGreatDoor.Sh
open Go.RowKit
theorem Tryz.infoS81:(Tryz.prog.info? 81).map (fun i=>(i.zero,i.size,i.bytes))=some (some (.int .u32 0),1,4):=by kernel_rfl
theorem Tryz.infoS2:(Tryz.prog.info? 2).map (fun i=>(i.zero,i.size,i.bytes))=some (some (.int .i64 0),1,8):=by kernel_rfl
theorem step_walk2 (xa xb xc xd xe xf xg xh kk wk:Int) :
  (⟨(((((xh+big1 xe)%4294967296+pick xe xf xg)%4294967296+kk)%4294967296+wk)%4294967296+(big0 xa+most xa xb xc)%4294967296)%4294967296,xa,xb,xc,
   (xd+((((xh+big1 xe)%4294967296+pick xe xf xg)%4294967296+kk)%4294967296+wk)%4294967296)%4294967296,xe,xf,xg⟩:St)
   = stepS ⟨xa,xb,xc,xd,xe,xf,xg,xh⟩ kk wk:=by
 simp[stepS,t1,t2]
theorem blk_range (B:Nat->Nat) (s:Nat->Int) (j:Nat):0<=blk B s j/\blk B s j<4294967296:=by unfold blk;omega
theorem wrapS {s:Nat->Int} (h:∀ j,0<=s j/\s j<4294967296) (j:Nat):IntKind.u32.wrap (s j)=s j:=by
 have:=h j
 rw[IntKind.wrap_u32']
 omega
theorem block_any (s:Nat->Int) (gs c:Nat) (t:ByteArray) (w:World) (ht:t.size=64) (hgs:gs<w.heap.size) (hs:∀ j,j<8->w.cell? ⟨gs,j,none⟩=some (.int .i64 (s j))) (hr:∀ j,0<=s j/\s j<4294967296) :
  Calls Tryz.prog 58 #[.slice (some ⟨gs,0,none⟩) 8 c,.string t] w fun e w'=>∃ g c',e=.returned (.slice (some ⟨g,0,none⟩) 8 c')/\w.heap.size<=g/\g<w'.heap.size/\(∀ j,j<8->w'.cell? ⟨g,j,none⟩=some (.int .i64 (blk (bt t) s j)))/\Below w.heap.size w w':=by
 obtain⟨i0,hi,hz0,hz1,hz2⟩:=info_parts Tryz.infoS81
 have HS:=hideS hs
 have HRR:=hideS hr
 clear hs hr
 go_enter Tryz.func58,Tryz.ntmps58
 go_wp2_with (at_make;refine wpList_make_full _ rfl _ _ 108 rfl w.heap.size 81 i0 (.int .u32 0) 1 Tryz.underlying108 hi hz0 hz1 .i64 .i64 _ _ 64 rfl rfl (by rfl) (by rfl) (by rw[hz2];omega) (by unfold maxLen;omega) (Nat.le_refl _) ?_;intro w1 hown1 hgrow1;have HB1:=hideS (made_rowK hown1);have HL1:=hideS ((Below.refl w.heap.size w).grown hgrow1 (Nat.le_refl _) (by simp));clear hown1 hgrow1)
 go_loopw [6] (fun i wr=>∃ k:Nat,i=.int .i64 k/\k<=16/\IsB wr w.heap.size 81 .u32 64 (lows (bt t) k)/\Below w.heap.size w wr) (fun i _=>16-(intOf i).toNat)
 case atStart=>exact⟨0,rfl,by omega,IsB.congr HB1.out (fun j _=>by simp[lows]),HL1.out⟩
 case round =>
  obtain⟨k,rfl,hk,h1,hbel⟩:=hrel
  have G1:=hideS h1
  have GB:=hideS hbel
  by_cases hlt:k<16
  ·obtain⟨y0,b0,hy0⟩:=byte_at t (4*k) (by omega)
   obtain⟨y1,b1,hy1⟩:=byte_at t (4*k+1) (by omega)
   obtain⟨y2,b2,hy2⟩:=byte_at t (4*k+2) (by omega)
   obtain⟨y3,b3,hy3⟩:=byte_at t (4*k+3) (by omega)
   have Y0:=hideS hy0
   have Y1:=hideS hy1
   have Y2:=hideS hy2
   have Y3:=hideS hy3
   clear hy0 hy1 hy2 hy3
   have r0:=y0.toNat_lt
   have r1:=y1.toNat_lt
   have r2:=y2.toNat_lt
   have r3:=y3.toNat_lt
   have q0:IntKind.i64.wrap (4*(k:Int))=4*(k:Int):=by simp[IntKind.wrap,IntKind.bits,IntKind.signed];omega
   have q1:IntKind.i64.wrap (4*(k:Int)+1)=4*(k:Int)+1:=by simp[IntKind.wrap,IntKind.bits,IntKind.signed];omega
   have q2:IntKind.i64.wrap (4*(k:Int)+2)=4*(k:Int)+2:=by simp[IntKind.wrap,IntKind.bits,IntKind.signed];omega
   have q3:IntKind.i64.wrap (4*(k:Int)+3)=4*(k:Int)+3:=by simp[IntKind.wrap,IntKind.bits,IntKind.signed];omega
   have p0:(4*(k:Int)).toNat=4*k:=by omega
   have p1:(4*(k:Int)+1).toNat=4*k+1:=by omega
   have p2:(4*(k:Int)+2).toNat=4*k+2:=by omega
   have p3:(4*(k:Int)+3).toNat=4*k+3:=by omega
   have z0:0<=4*(k:Int):=by omega
   have z1:0<=4*(k:Int)+1:=by omega
   have z2:0<=4*(k:Int)+2:=by omega
   have z3:0<=4*(k:Int)+3:=by omega
   have lk:(k:Int)<64:=by omega
   have l0:4*(k:Int)<64:=by omega
   have l1:4*(k:Int)+1<64:=by omega
   have l2:4*(k:Int)+2<64:=by omega
   have l3:4*(k:Int)+3<64:=by omega
   have ck:=h1.cell (j:=k) (by omega)
   have cf:=h1.frozen k
   clear h1 hbel
   go_wp2_with fail
   refine still_tail 32 Tryz.checked.mixed (by kernel_rfl) ?_
   simp only[List.take_succ_cons,List.take_zero,List.drop_succ_cons,List.drop_zero]
   repeat still_step
   refine wpStill_nil ?_
   have HW:=hideS (word_spec (bt t) k _ _ _ _ Y0.out Y1.out Y2.out Y3.out (bt_lt t))
   go_wp2_with fail
   go_roundw
   case rel =>
    have hb3:=GB.out.setCell (p:=⟨w.heap.size,k,none⟩) (Nat.le_refl _) (.int .u32 ((word (bt t) k:Nat):Int))
    rw[HW.out]
    exact⟨k+1,by go_num,by omega,IsB.congr (G1.out.set k _) (fun j _=>lows_end (bt t) k j),⟨hb3.os,hb3.tape,hb3.output,hb3.size,hb3.block⟩⟩
   case measure=>simp[intOf];omega
  ·have H2:Hid (IsB wr w.heap.size 81 .u32 64 (highs (bt t) 16)):=by
    have e:k=16:=by omega
    have h:=G1.out
    rw[e]at h
    exact h.congr (fun j _=>highs_start (bt t) j)
   clear h1 hbel G1
   go_wp2_with fail
   go_loopw [7] (fun i wr=>∃ k:Nat,i=.int .i64 k/\16<=k/\k<=64/\IsB wr w.heap.size 81 .u32 64 (highs (bt t) k)/\Below w.heap.size w wr) (fun i _=>64-(intOf i).toNat)
   case atStart=>exact⟨16,rfl,by omega,by omega,H2.out,GB.out⟩
   case round =>
    obtain⟨k,rfl,hk1,hk2,h1,hbel⟩:=hrel
    have G1:=hideS h1
    have GB2:=hideS hbel
    by_cases hlt:k<64
    ·have e15:((k:Int)-15).toNat=k-15:=by omega
     have e2:((k:Int)-2).toNat=k-2:=by omega
     have e16:((k:Int)-16).toNat=k-16:=by omega
     have e7:((k:Int)-7).toNat=k-7:=by omega
     obtain⟨x15,hx15⟩:∃ x,x=wv (bt t) (k-15):=⟨_,rfl⟩
     obtain⟨x2,hx2⟩:∃ x,x=wv (bt t) (k-2):=⟨_,rfl⟩
     obtain⟨x16,hx16⟩:∃ x,x=wv (bt t) (k-16):=⟨_,rfl⟩
     obtain⟨x7,hx7⟩:∃ x,x=wv (bt t) (k-7):=⟨_,rfl⟩
     have HV:Hid ((x16+sm0 x15+x7+sm1 x2)%4294967296=wv (bt t) k):=by
      unfold Hid
      rw[wv_hi (bt t) k (by omega),hx15,hx2,hx16,hx7]
     have c15:wr.cell? ⟨w.heap.size,k-15,none⟩=some (.int .u32 x15):=by rw[h1.cell (by omega),highs_at (bt t) k _ (by omega),hx15]
     have c2:wr.cell? ⟨w.heap.size,k-2,none⟩=some (.int .u32 x2):=by rw[h1.cell (by omega),highs_at (bt t) k _ (by omega),hx2]
     have c16:wr.cell? ⟨w.heap.size,k-16,none⟩=some (.int .u32 x16):=by rw[h1.cell (by omega),highs_at (bt t) k _ (by omega),hx16]
     have c7:wr.cell? ⟨w.heap.size,k-7,none⟩=some (.int .u32 x7):=by rw[h1.cell (by omega),highs_at (bt t) k _ (by omega),hx7]
     have ck:=h1.cell (j:=k) (by omega)
     have hfz:=h1.frozen k
     clear h1 hbel hx15 hx2 hx16 hx7
     go_wp2_with fail
     have v16:IntKind.i64.wrap ((k:Int)-16)=(k:Int)-16:=by simp[IntKind.wrap,IntKind.bits,IntKind.signed];omega
     have v7:IntKind.i64.wrap ((k:Int)-7)=(k:Int)-7:=by simp[IntKind.wrap,IntKind.bits,IntKind.signed];omega
     have a16:(16:Int)<=(k:Int):=by omega
     have a7:(7:Int)<=(k:Int):=by omega
     have z16:0<=(k:Int)-16:=by omega
     have z7:0<=(k:Int)-7:=by omega
     have y16:(k:Int)-16<64:=by omega
     have y7:(k:Int)-7<64:=by omega
     refine still_tail 32 Tryz.checked.mixed (by kernel_rfl) ?_
     simp only[List.take_succ_cons,List.take_zero,List.drop_succ_cons,List.drop_zero]
     repeat (first|still_call (turnI_spec _ _ _ (by decide) (by decide))|still_step)
     refine wpStill_nil ?_
     go_wp2_with fail
     go_roundw
     case rel =>
      have hb3:=GB2.out.setCell (p:=⟨w.heap.size,k,none⟩) (Nat.le_refl _) (.int .u32 (wv (bt t) k))
      have e:=HV.out
      simp only[sm0,sm1]at e
      rw[e]
      exact⟨k+1,by go_num,by omega,by omega,IsB.congr (G1.out.set k _) (fun j _=>highs_end (bt t) k j _ rfl),⟨hb3.os,hb3.tape,hb3.output,hb3.size,hb3.block⟩⟩
     case measure=>simp[intOf];omega
    ·have HWV:Hid (IsB wr w.heap.size 81 .u32 64 (wv (bt t))):=by
      have e:k=64:=by omega
      have h:=G1.out
      rw[e]at h
      exact h.congr (fun j hj=>highs_at (bt t) 64 j hj)
     have hcs:∀ j,j<8->wr.cell? ⟨gs,j,none⟩=some (.int .i64 (s j)):=fun j hj=>(hbel.cell (p:=⟨gs,j,none⟩) hgs).trans (HS.out j hj)
     have g0:=hcs 0 (by decide)
     have g1:=hcs 1 (by decide)
     have g2:=hcs 2 (by decide)
     have g3:=hcs 3 (by decide)
     have g4:=hcs 4 (by decide)
     have g5:=hcs 5 (by decide)
     have g6:=hcs 6 (by decide)
     have g7:=hcs 7 (by decide)
     have HCS:=hideS hcs
     have m0:IntKind.u32.wrap (s 0)=s 0:=wrapS HRR.out 0
     have m1:IntKind.u32.wrap (s 1)=s 1:=wrapS HRR.out 1
     have m2:IntKind.u32.wrap (s 2)=s 2:=wrapS HRR.out 2
     have m3:IntKind.u32.wrap (s 3)=s 3:=wrapS HRR.out 3
     have m4:IntKind.u32.wrap (s 4)=s 4:=wrapS HRR.out 4
     have m5:IntKind.u32.wrap (s 5)=s 5:=wrapS HRR.out 5
     have m6:IntKind.u32.wrap (s 6)=s 6:=wrapS HRR.out 6
     have m7:IntKind.u32.wrap (s 7)=s 7:=wrapS HRR.out 7
     clear h1 hbel G1 hcs
     go_wp2_with fail
     refine still_lit Tryz.checked.mixed (by kernel_rfl) ?_
     repeat still_step
     refine wpStill_nil ?_
     go_wp2_with fail
     refine still_lit Tryz.checked.mixed (by kernel_rfl) ?_
     repeat still_step
     refine wpStill_nil ?_
     go_wp2_with fail
     refine(keys_any _).mono ?_
     rintro e w4 ⟨rfl,hw4⟩
     have HK4:Hid (IsB w4 wr.heap.size 81 .u32 64 keyF):=by
      unfold Hid
      rw[hw4]
      exact IsB.new wr.drew.drew _ _ _ _
     have HW4:Hid (IsB w4 w.heap.size 81 .u32 64 (wv (bt t))):=by
      unfold Hid
      rw[hw4]
      exact IsB.alloc (w:=wr.drew.drew) HWV.out _
     have HB4:Hid (Below w.heap.size w w4):=by
      unfold Hid
      rw[hw4]
      exact(GB2.out.drew.drew).alloc GB2.out.size _
     clear hw4 g0 g1 g2 g3 g4 g5 g6 g7 m0 m1 m2 m3 m4 m5 m6 m7
     have HGK:=hideS (show w.heap.size<=wr.heap.size from GB2.out.size)
     go_wp2_with fail
     generalize wr.heap.size=GK at HK4 HGK ⊢
     go_loopw [10,11,12,13,14,15,16,17,19] (fun va vb vc vd ve vf vg vh i wr=>∃ (k:Nat) (xa xb xc xd xe xf xg xh:Int),i=.int .i64 k/\k<=64/\va=.int .u32 xa/\vb=.int .u32 xb/\vc=.int .u32 xc/\vd=.int .u32 xd/\ve=.int .u32 xe/\vf=.int .u32 xf/\vg=.int .u32 xg/\vh=.int .u32 xh/\(⟨xa,xb,xc,xd,xe,xf,xg,xh⟩:St)=run (bt t) s k/\∃ n,wr=w4.drewN n) (fun _ _ _ _ _ _ _ _ i _=>64-(intOf i).toNat)
     case atStart=>exact⟨0,_,_,_,_,_,_,_,_,rfl,by omega,rfl,rfl,rfl,rfl,rfl,rfl,rfl,rfl,rfl,0,rfl⟩
     case round =>
      obtain⟨k,xa,xb,xc,xd,xe,xf,xg,xh,rfl,hk,rfl,rfl,rfl,rfl,rfl,rfl,rfl,rfl,hst,nd,rfl⟩:=hrel
      have HST:=hideS hst
      clear hst
      by_cases hlt:k<64
      ·obtain⟨wk,hwk⟩:∃ x,x=wv (bt t) k:=⟨_,rfl⟩
       obtain⟨kk,hkk⟩:∃ x,x=keyF k:=⟨_,rfl⟩
       have c1:w4.cell? ⟨GK,k,none⟩=some (.int .u32 kk):=by rw[HK4.out.cell hlt,hkk]
       have c2:w4.cell? ⟨w.heap.size,k,none⟩=some (.int .u32 wk):=by rw[HW4.out.cell hlt,hwk]
       have lk:(k:Int)<64:=by omega
       have HX:Hid (stepS ⟨xa,xb,xc,xd,xe,xf,xg,xh⟩ kk wk=run (bt t) s (k+1)):=by
        unfold Hid
        rw[HST.out,hwk,hkk]
        rfl
       clear hwk hkk
       go_wp2_with (go_at_call 72;refine(turnI_spec _ _ _ (by decide) (by decide)).mono ?_;rintro e w' ⟨rfl,hw⟩;subst w')
       refine still_lit Tryz.checked.mixed (by kernel_rfl) ?_
       repeat (first|still_call (turnI_spec _ _ _ (by decide) (by decide))|still_step)
       refine wpStill_nil ?_
       go_wp2_with (go_at_call 72;refine(turnI_spec _ _ _ (by decide) (by decide)).mono ?_;rintro e w' ⟨rfl,hw⟩;subst w')
       go_roundw
       case rel=>exact⟨k+1,_,_,_,_,_,_,_,_,by go_num,by omega,rfl,rfl,rfl,rfl,rfl,rfl,rfl,rfl,(step_walk2 xa xb xc xd xe xf xg xh kk wk).trans HX.out,nd+1,rfl⟩
       case measure=>simp[intOf];omega
      ·obtain⟨X,hX⟩:∃ X:St,X=⟨xa,xb,xc,xd,xe,xf,xg,xh⟩:=⟨_,rfl⟩
       have HE:Hid (X=run (bt t) s 64):=by
        unfold Hid
        rw[hX,HST.out]
        congr 1
        omega
       have HX:=hideS hX
       clear hX
       obtain⟨i1,hi1,hy0,hy1,hy2⟩:=info_parts Tryz.infoS2
       go_wp2_with fail
       have HV5:Hid (IsB ((w4.drewN nd).alloc (.cells #[.int .u32 xa,.int .u32 xb,.int .u32 xc,.int .u32 xd,.int .u32 xe,.int .u32 xf,.int .u32 xg,.int .u32 xh] 81)) w4.heap.size 81 .u32 8 X.at):=by
        unfold Hid
        rw[HX.out]
        exact IsB.of_list (w4.drewN nd) 81 .u32 8 _ _ (by rfl)
       have HB5:Hid (Below w.heap.size w ((w4.drewN nd).alloc (.cells #[.int .u32 xa,.int .u32 xb,.int .u32 xc,.int .u32 xd,.int .u32 xe,.int .u32 xf,.int .u32 xg,.int .u32 xh] 81))) :=
        Below.alloc (w:=w4.drewN nd) ⟨HB4.out.os,HB4.out.tape,HB4.out.output,HB4.out.size,HB4.out.block⟩ HB4.out.size _
       have HZ5:Hid (((w4.drewN nd).alloc (.cells #[.int .u32 xa,.int .u32 xb,.int .u32 xc,.int .u32 xd,.int .u32 xe,.int .u32 xf,.int .u32 xg,.int .u32 xh] 81)).heap.size=w4.heap.size+1):=by
        unfold Hid
        simp
       generalize ((w4.drewN nd).alloc (.cells #[.int .u32 xa,.int .u32 xb,.int .u32 xc,.int .u32 xd,.int .u32 xe,.int .u32 xf,.int .u32 xg,.int .u32 xh] 81))=w5 at HV5 HB5 HZ5 ⊢
       have HG5:=hideS HB4.out.size
       generalize w4.heap.size=G5 at HV5 HZ5 HG5 ⊢
       go_loopw [23,24] (fun v i wr=>∃ j:Nat,i=.int .i64 j/\j<=8/\wr.ownsRow (G5+1) 2 1 v j (rowF .i64 j (blk (bt t) s)).toList/\Below (G5+1) w5 wr) (fun _ i _=>8-(intOf i).toNat)
       case atStart =>
        have e:=own_empty w5 (G5+1) 2 (by rw[HZ5.out];exact Nat.le_refl _)
        rw[HZ5.out]at e
        exact⟨0,rfl,by omega,e,(Below.refl _ _).alloc (by rw[HZ5.out];exact Nat.le_refl _) _⟩
       case round =>
        obtain⟨j,rfl,hj,hown,hbel⟩:=hrel
        have HO:=hideS hown
        have HL:=hideS hbel
        have HBW:=hideS (HB5.out.trans (hbel.mono (show w.heap.size<=G5+1 from Nat.le_succ_of_le HG5.out)))
        by_cases hlt8:j<8
        ·obtain⟨sj,hsj⟩:∃ x,x=s j:=⟨_,rfl⟩
         obtain⟨xj,hxj⟩:∃ x,x=X.at j:=⟨_,rfl⟩
         obtain⟨bj,hbj⟩:∃ x,x=blk (bt t) s j:=⟨_,rfl⟩
         have cs:wr.cell? ⟨gs,j,none⟩=some (.int .i64 sj):=by rw[HBW.out.cell (p:=⟨gs,j,none⟩) hgs,HS.out j hlt8,hsj]
         have cv:wr.cell? ⟨G5,j,none⟩=some (.int .u32 xj):=by rw[hbel.cell (p:=⟨G5,j,none⟩) (by simp),HV5.out.cell hlt8,hxj]
         have u1:IntKind.u32.wrap sj=sj:=by rw[hsj];exact wrapS HRR.out j
         have u2:IntKind.u32.wrap (sj+xj)=bj:=by rw[IntKind.wrap_u32',hsj,hxj,hbj,HE.out];rfl
         have u3:IntKind.i64.wrap bj=bj:=by
          have:=blk_range (bt t) s j
          rw[<-hbj]at this
          simp[IntKind.wrap,IntKind.bits,IntKind.signed]
          omega
         have HBJ:=hideS hbj
         have l8:(j:Int)<8:=by omega
         have hownD:wr.drew.ownsRow (G5+1) 2 1 _ j (rowF .i64 j (blk (bt t) s)).toList:=hown
         have HOD:=hideS hownD
         have hsz5:G5+1<=wr.heap.size:=by have:=hbel.size;have:=HZ5.out;omega
         clear hown hbel hsj hxj hbj hownD
         go_wp2_with fail
         go_region_law (refine step_append_own rfl (.tmp 220) (.tmp 232) 44 rfl (G5+1) 2 i1 (.int .i64 0) 1 8 Tryz.underlying44 hi1 hy0 hy1 hy2 rfl (by decide) u23 _ _ rfl (HOD.out.alloc _) ⟨wr.heap.size,0,none⟩ 1 1 [.int .i64 bj] rfl rfl (one_new wr.drew _ _) (one_cell _ _) (by unfold maxLen;omega) (by omega) (by simp;omega) ?_;intro v' w6 ho6 hg6)
         all_goals (
          have hb6:Below (G5+1) w5 w6:=app_low HL.out hsz5 HO.out hg6
          have HR6:Hid (w6.ownsRow (G5+1) 2 1 v' (j+1) (rowF .i64 (j+1) (blk (bt t) s)).toList):=by
           unfold Hid
           rw[<-rowF_snoc,<-HBJ.out]
           exact ho6
          clear ho6 hg6
          go_wp2_with fail
          go_roundw
          case rel=>exact⟨j+1,by go_num,by omega,HR6.out,hb6⟩
          case measure=>simp[intOf];omega)
        ·have hown8:wr.ownsRow (G5+1) 2 1 u23 8 (rowF .i64 8 (blk (bt t) s)).toList:=by
          have e:j=8:=by omega
          rw[e]at hown
          exact hown
         obtain⟨g,c',hv,hg1,hg2,hcl⟩:=own_cells (n:=8) (by decide) hown8
         subst hv
         have HCL:=hideS hcl
         have HGG:=hideS (show w.heap.size<=g by have:=HG5.out;omega)
         have HG2:=hideS hg2
         clear hown hbel hown8 hcl hg1 hg2
         go_wp2_with fail
         go_ret
         exact⟨g,c',rfl,HGG.out,HG2.out,HCL.out,HBW.out⟩
end Go.Proofs.YtjfdllgodijibaaGreatDoor.Sh


/- A row of bytes that the call made, in whatever block it lies by now, told by a function from places to numbers; and append of one byte onto it. -/
namespace Go.Proofs.YtjfdllgodijibaaGreatDoor.Sh
open Go.RowKit
def OwnB (w:World) (base:Nat) (v:Value) (n:Nat) (f:Nat->Nat):Prop :=
 ∃ g cap,v=.slice (some ⟨g,0,none⟩) n cap/\base<=g/\g<w.heap.size/\n<=cap/\cap<=maxLen/\(∀ j,j<n->w.cell? ⟨g,j,none⟩=some (.int .u8 (f j:Nat))) /\
  ∀ j,n<=j->j<cap->(w.cell? ⟨g,j,none⟩).isSome=true/\w.frozen? ⟨g,j,none⟩=false
theorem OwnB.congr {w:World} {base:Nat} {v:Value} {n:Nat} {f f':Nat->Nat} (h:OwnB w base v n f) (e:∀ j,j<n->f j=f' j):OwnB w base v n f':=by
 obtain⟨g,cap,h1,h2,h3,h4,h5,h6,h7⟩:=h
 exact⟨g,cap,h1,h2,h3,h4,h5,fun j hj=>by rw[h6 j hj,e j hj],h7⟩
theorem OwnB.alloc {w:World} {base:Nat} {v:Value} {n:Nat} {f:Nat->Nat} (h:OwnB w base v n f) (o:Obj):OwnB (w.alloc o) base v n f:=by
 obtain⟨g,cap,h1,h2,h3,h4,h5,h6,h7⟩:=h
 refine⟨g,cap,h1,h2,by simp;omega,h4,h5,fun j hj=>?_,fun j hj1 hj2=>?_⟩
 ·rw[World.cell?_alloc_past o g j h3];exact h6 j hj
 ·rw[World.cell?_alloc_past o g j h3,World.frozen?_alloc_past o g j h3];exact h7 j hj1 hj2
theorem OwnB.below {w w':World} {base B:Nat} {v:Value} {n:Nat} {f:Nat->Nat} (h:OwnB w base v n f) (b:Below B w w') (hB:w.heap.size<=B):OwnB w' base v n f:=by
 obtain⟨g,cap,h1,h2,h3,h4,h5,h6,h7⟩:=h
 refine⟨g,cap,h1,h2,Nat.lt_of_lt_of_le h3 b.size,h4,h5,fun j hj=>?_,fun j hj1 hj2=>?_⟩
 ·rw[b.cell (p:=⟨g,j,none⟩) (show g<B by omega)];exact h6 j hj
 ·rw[b.cell (p:=⟨g,j,none⟩) (show g<B by omega),b.frozen (p:=⟨g,j,none⟩) (show g<B by omega)];exact h7 j hj1 hj2
theorem OwnB.slice {w:World} {base:Nat} {v:Value} {n:Nat} {f:Nat->Nat} (h:OwnB w base v n f):∃ g cap,v=.slice (some ⟨g,0,none⟩) n cap/\n<=cap:=by
 obtain⟨g,cap,h1,_,_,h4,_⟩:=h
 exact⟨g,cap,h1,h4⟩
theorem own_of_string (w:World) (base:Nat) (s:ByteArray) (e:TypeId) (hs:s.size<=maxLen) (hb:base<=w.heap.size) :
  OwnB (w.drew.alloc (.cells (bytesRow s (grownCap w s.size 0 e)) e ((bytesRow s (grownCap w s.size 0 e)).size,(bytesRow s (grownCap w s.size 0 e)).size+1))) base
   (.slice (some ⟨w.heap.size,0,none⟩) s.size (grownCap w s.size 0 e)) s.size (bt s):=by
 have hge:=grownCap_ge w s.size 0 e
 have hcm:=grownCap_le_maxLen w s.size 0 e hs
 generalize grownCap w s.size 0 e=cap at hge hcm
 have hsz:(bytesRow s cap).size=cap:=by
  have:s.data.size=s.size:=rfl
  simp[bytesRow]
  omega
 have hc:∀ j,(w.drew.alloc (.cells (bytesRow s cap) e ((bytesRow s cap).size,(bytesRow s cap).size+1))).cell? ⟨w.heap.size,j,none⟩=(bytesRow s cap)[j]?:=fun j =>
  cell_of_row _ w.heap.size j _ e _ (heap_alloc_last w.drew _)
 refine⟨w.heap.size,cap,rfl,hb,by simp,hge,hcm,fun j hj=>?_,fun j hj1 hj2=>?_⟩
 ·rw[hc,bytesRow_at s cap j (show j<s.data.size from hj)]
  have:=bt_get s j hj
  simp only[<-this]
  rfl
 ·rw[hc]
  refine⟨by rw[Array.getElem?_eq_getElem (by omega)];rfl,?_⟩
  unfold World.frozen?
  rw[show (w.drew.alloc (.cells (bytesRow s cap) e ((bytesRow s cap).size,(bytesRow s cap).size+1))).heap[(⟨w.heap.size,j,none⟩:Addr).block]? = some (.cells (bytesRow s cap) e ((bytesRow s cap).size,(bytesRow s cap).size+1)) from heap_alloc_last w.drew _]
  simp[hsz]
  omega
theorem run_append_b {P:Program} (w:World) (base:Nat) (t ty e:TypeId) (i:TypeInfo) (ht:P.underlying t=some (.slice e)) (hi:P.info? e=some i) (hz:i.zero=some (.int .u8 0))
  (hsize:i.size=1) (hby:i.bytes=1) (v:Value) (n:Nat) (f:Nat->Nat) (hown:OwnB w base v n f) (ad:Addr) (c x:Nat) (hx:w.cell? (ad.add 0)=some (.int .u8 (x:Nat))) (hn:n+1<=140737488355328) (hbase:base<=w.heap.size) :
  ∃ v' w',(Builtin.append_ #[t,t] ty #[v,.slice (some ad) 1 c]).run P w=.ok v' w'/\OwnB w' base v' (n+1) (fun j=>if j=n then x else f j)/\w.grownBy w' v.ownBlock:=by
 obtain⟨g,cap,rfl,hg1,hg2,hnc,hcm,hcl,hsp⟩:=hown
 have hnews:∀ (j:Nat) (u:Value),[Value.int .u8 (x:Nat)][j]? = some u->w.cell? (ad.add j)=some u:=by
  intro j u hj
  match j,hj with
  |0,hj=>simp at hj;subst hj;exact hx
 have hone:∀ u∈[Value.int .u8 (x:Nat)],u.oneCell'=true:=by
  intro u hu
  simp at hu
  subst hu
  rfl
 by_cases hroom:n+1<=cap
 ·obtain⟨sp1,sp2⟩:=hsp n (Nat.le_refl _) hroom
  have hr:=run_append_room_cells (P:=P) w t ty e i ht hi g 0 n cap ad 1 c [.int .u8 (x:Nat)] (by simp[hsize]) hnews hone hroom
   (fun j hj=>by simp at hj;subst hj;simpa [hsize] using sp1) (fun j hj=>by simp at hj;subst hj;simpa [hsize] using sp2)
  refine⟨_,_,hr,?_,⟨rfl,rfl,rfl,?_,?_⟩⟩
  ·obtain⟨y,hy⟩:=Option.isSome_iff_exists.1 sp1
   simp only[hsize,Nat.mul_one,Nat.zero_add,World.setCells]
   refine⟨g,cap,rfl,hg1,by simpa using hg2,hroom,hcm,fun j hj=>?_,fun j hj1 hj2=>?_⟩
   ·by_cases e':j=n
    ·subst e'
     rw[World.cell?_setCell_same w _ _ hy]
     simp
    ·rw[World.cell?_setCell_other w _ _ _ (by simp<;>omega),hcl j (by omega)]
     simp[e']
   ·rw[World.cell?_setCell_other w _ _ _ (by simp<;>omega),World.frozen?_setCell]
    exact hsp j (by omega) hj2
  ·simp[hsize,World.setCells]
  ·intro k _ hk
   simp only[hsize,World.setCells]
   exact heap_setCell_other w _ k _ (by intro e';exact hk (by simp[Value.ownBlock,e']))
 ·have hcap:cap=n:=by omega
  have hr:=run_append_grow (P:=P) w t ty e i (.int .u8 0) ht hi hz ⟨g,0,none⟩ n cap ((List.range n).map fun j=>Value.int .u8 (f j:Nat)) (by simp[hsize])
   (fun j u hj=>by
    have hadd:(⟨g,0,none⟩:Addr).add j=⟨g,j,none⟩:=by unfold Addr.add;split<;>simp_all
    rw[hadd]
    by_cases hjn:j<n
    ·simp[hjn]at hj
     rw[hcl j hjn,hj]
    ·simp[hjn]at hj)
   ad 1 c [.int .u8 (x:Nat)] (by simp[hsize]) hnews (by omega) (by omega) (by rw[hby];exact growslice_fits (by omega) (by omega))
  have hge:=grownCap_ge w (n+1) cap e
  have hcm2:=grownCap_le_maxLen w (n+1) cap e (by unfold maxLen;omega)
  refine⟨_,_,hr,?_,⟨rfl,rfl,rfl,by simp,fun k hk _=>Below.heap_alloc w.drew _ k hk⟩⟩
  generalize grownCap w (n+1) cap e=cap' at hge hcm2
  have hcc:∀ (cs:Array Value) (j:Nat),(w.drew.alloc (.cells cs e)).cell? ⟨w.heap.size,j,none⟩=cs[j]?:=fun cs j=>World.cell?_alloc_new w.drew cs e j
  have hff:∀ (cs:Array Value) (j:Nat),(w.drew.alloc (.cells cs e)).frozen? ⟨w.heap.size,j,none⟩=false:=fun cs j=>World.frozen?_alloc_new w.drew cs e j
  refine⟨w.heap.size,cap',rfl,hbase,by simp,hge,hcm2,fun j hj=>?_,fun j hj1 hj2=>⟨?_,hff _ j⟩⟩
  ·rw[hcc]
   by_cases e':j=n
   ·subst e'
    simp[Array.getElem?_append]
   ·have hjn:j<n:=by omega
    simp[Array.getElem?_append,hjn,hj,e']
  ·rw[hcc,Array.getElem?_eq_getElem]
   ·rfl
   ·simp[size_zeroCells,Value.cells]
    omega
theorem wpList_append_b {P:Program} {w:World} {ops:Array Oper} {rest:List Oper} {o:Oper} {a:Act} {Q:Exit->Act->World->Prop} (hgd:o.guard=none) (s y:Operand) (t:TypeId)
  (ho:o.op=.call { callee:=.builtin .append,args:=#[s,y],argTypes:=#[t,t] })
  (base:Nat) (e:TypeId) (i:TypeInfo) (ht:P.underlying t=some (.slice e)) (hi:P.info? e=some i) (hz:i.zero=some (.int .u8 0)) (hsize:i.size=1) (hby:i.bytes=1)
  (v:Value) (n:Nat) (f:Nat->Nat) (hs:a.eval s=v) (hown:OwnB w base v n f) (ad:Addr) (c x:Nat) (hy:a.eval y=.slice (some ad) 1 c) (hx:w.cell? (ad.add 0)=some (.int .u8 (x:Nat)))
  (hn:n+1<=140737488355328) (hbase:base<=w.heap.size)
  (h:∀ v' w',OwnB w' base v' (n+1) (fun j=>if j=n then x else f j)->w.grownBy w' v.ownBlock->wpList P ops Q rest (a.put o.dst v') w'):wpList P ops Q (o :: rest) a w:=by
 refine wpList_plain hgd fun K hK=>?_
 obtain⟨v',w',hr,h2,h3⟩:=run_append_b (P:=P) w base t o.type e i ht hi hz hsize hby v n f hown ad c x hx hn hbase
 unfold Oper.wp execOp
 simp only[ho,resolve,invoke,builtin,Sem.run_bind,Sem.run_pure,Result.andThen_ok,List.map_toArray,List.map_cons,List.map_nil,hs,hy,hr]
 exact hK _ _ (h v' w' h2 h3)
end Go.Proofs.YtjfdllgodijibaaGreatDoor.Sh


/- Plain mathematics for spec.l02All: what is filled up byte by byte, and that a block looks at its 64 bytes alone. -/
namespace Go.Proofs.YtjfdllgodijibaaGreatDoor.Sh
theorem pad_first (t:ByteArray) (j:Nat) (h:j<t.size+1):(if j=t.size then 128 else bt t j)=pad t j:=by
 by_cases e:j=t.size
 ·subst e;simp[pad,padK]
 ·have:j<t.size:=by omega
  simp[pad,padK,e,this]
theorem pad_zero (t:ByteArray) (n:Nat) (h1:t.size<n) (h2:n+8<chunks t.size*64):pad t n=0:=by
 have a:¬n<t.size:=by omega
 have b:¬n=t.size:=by omega
 have c:¬chunks t.size*64<=n+8:=by omega
 simp[pad,padK,a,b,c]
theorem pad_len (t:ByteArray) (m:Nat) (hm:m<8):pad t (chunks t.size*64-8+m)=t.size*8/2 ^ (56-8*m)%256:=by
 have hr:=chunks_room t.size
 have a:¬chunks t.size*64-8+m<t.size:=by omega
 have b:¬chunks t.size*64-8+m=t.size:=by omega
 have c:chunks t.size*64<=chunks t.size*64-8+m+8:=by omega
 have d:chunks t.size*64-1-(chunks t.size*64-8+m)=7-m:=by omega
 have e:8*(7-m)=56-8*m:=by omega
 simp only[pad,padK,if_neg a,if_neg b,if_pos c,d,e]
theorem pad_app (t:ByteArray) (n x:Nat) (hx:x=pad t n) (j:Nat):(if j=n then x else pad t j)=pad t j:=by
 by_cases e:j=n
 ·subst e;simp[hx]
 ·simp[e]
theorem part_congr (B B':Nat->Nat) (h:∀ j,j<64->B j=B' j) (i:Nat) (hi:i<16):∀ j,j<=4->part B i j=part B' i j
 |0,_=>rfl
 |j+1,hj=>by simp only[part];rw[part_congr B B' h i hi j (by omega),h _ (by omega)]
theorem wv_congr (B B':Nat->Nat) (h:∀ j,j<64->B j=B' j) (i:Nat):wv B i=wv B' i:=by
 induction i using Nat.strongRecOn with
 |_ i ih =>
  by_cases hi:i<16
  ·rw[wv_lo B i hi,wv_lo B' i hi]
   simp only[word]
   rw[part_congr B B' h i hi 4 (Nat.le_refl _)]
  ·rw[wv_hi B i hi,wv_hi B' i hi,ih (i-16) (by omega),ih (i-15) (by omega),ih (i-7) (by omega),ih (i-2) (by omega)]
theorem run_congr (B B':Nat->Nat) (s:Nat->Int) (h:∀ j,j<64->B j=B' j):∀ k,run B s k=run B' s k
 |0=>rfl
 |k+1=>by simp only[run];rw[run_congr B B' s h k,wv_congr B B' h k]
theorem blk_congr (B B':Nat->Nat) (s:Nat->Int) (h:∀ j,j<64->B j=B' j):blk B s=blk B' s:=by
 funext j
 simp only[blk]
 rw[run_congr B B' s h 64]
theorem blk_str (t:ByteArray) (k:Nat) (s:Nat->Int):blk (bt (strF 64 (blkB t k))) s=blk (blkB t k) s :=
 blk_congr _ _ s (fun j hj=>bt_strF 64 _ j hj (blkB_lt t k j))
theorem firstF_range (j:Nat):0<=firstF j/\firstF j<4294967296:=by
 by_cases h:j<8
 ·have:j=0∨j=1∨j=2∨j=3∨j=4∨j=5∨j=6∨j=7:=by omega
  rcases this with rfl|rfl|rfl|rfl|rfl|rfl|rfl|rfl<;>decide
 ·simp[firstF,firstL,List.getD,List.getElem?_eq_none (show [1779033703,3144134277,1013904242,2773480762,1359893119,2600822924,528734635,(1541459225:Int)].length<=j by simp;omega)]
theorem shaS_range (t:ByteArray) (k j:Nat):0<=shaS t k j/\shaS t k j<4294967296:=by
 cases k with
 |zero=>exact firstF_range j
 |succ k=>simp only[shaS,blk];omega
end Go.Proofs.YtjfdllgodijibaaGreatDoor.Sh


/- A piece of a row of bytes as a text; a row of bytes that the call owns as a text; the digest's bytes, four by four. -/
namespace Go.Proofs.YtjfdllgodijibaaGreatDoor.Sh
open Go.RowKit
theorem OwnB.piece {P:Program} {w:World} {base g cap L:Nat} {f:Nat->Nat} (h:OwnB w base (.slice (some ⟨g,0,none⟩) L cap) L f) (off m c:Nat) (hm:off+m<=L) (hf:∀ j,f j<256) {src dst e:TypeId}
  (hs:P.underlying src=some (.slice e)) (he:P.underlying e=some (.int .u8)) (hd:P.underlying dst=some .string) :
  (convert src dst (.slice (some ⟨g,off,none⟩) m c)).run P w=.ok (.string (strF m (fun j=>f (off+j)))) w:=by
 obtain⟨g',cap',e1,_,_,_,_,hcl,_⟩:=h
 simp at e1
 obtain⟨rfl,rfl⟩:=e1
 have hl:((List.range m).map fun j=>UInt8.ofNat (f (off+j))).length=m:=by simp
 have:=run_convert_bytes_back (P:=P) w src dst e ⟨g,off,none⟩ c ((List.range m).map fun j=>UInt8.ofNat (f (off+j))) hs he hd (by
  intro j hj
  rw[hl]at hj
  have hadd:(⟨g,off,none⟩:Addr).add j=⟨g,off+j,none⟩:=by unfold Addr.add;split<;>simp_all
  rw[hadd,hcl (off+j) (by omega)]
  have h3:=hf (off+j)
  simp
  omega)
 rw[hl]at this
 exact this
theorem own_str {P:Program} {w:World} {base e:Nat} {v:Value} {n:Nat} {f:Nat->Nat} (h:w.ownsRow base e 1 v n (rowF .u8 n (fun j=>(f j:Nat))).toList) (hf:∀ j,f j<256) {src dst:TypeId}
  (hs:P.underlying src=some (.slice e)) (he:P.underlying e=some (.int .u8)) (hd:P.underlying dst=some .string) :
  (convert src dst v).run P w=.ok (.string (strF n f)) w:=by
 have hl:((List.range n).map fun j=>UInt8.ofNat (f j)).length=n:=by simp
 have hm:((List.range n).map fun j=>UInt8.ofNat (f j)).map Nu.bv=(rowF .u8 n (fun j=>(f j:Nat))).toList:=by
  simp only[rowF,List.map_map]
  apply List.map_congr_left
  intro j _
  have:=hf j
  simp[Nu.bv]
  omega
 have:=Nu.own_string (P:=P) (src:=src) (dst:=dst) ((List.range n).map fun j=>UInt8.ofNat (f j)) (by rw[hl,hm];exact h) hs he hd
 exact this
theorem outF_at (s:Nat->Int) (j r:Nat) (hr:r<4):((outF s (4*j+r):Nat):Int)=s j/2 ^ (24-8*r)%256:=by
 rw[<-outF_cast]
 have h1:(4*j+r)/4=j:=by omega
 have h2:(4*j+r)%4=r:=by omega
 rw[h1,h2]
theorem out_four (s:Nat->Int) (j:Nat) (x0 x1 x2 x3:Int) (h0:x0=s j/16777216%256) (h1:x1=s j/65536%256) (h2:x2=s j/256%256) (h3:x3=s j%256) :
  (rowF .u8 (4*j) (fun q=>(outF s q:Nat))).toList++[.int .u8 x0,.int .u8 x1,.int .u8 x2,.int .u8 x3]=(rowF .u8 (4*(j+1)) (fun q=>(outF s q:Nat))).toList:=by
 have e0:x0=((outF s (4*j):Nat):Int):=by rw[h0];exact(outF_at s j 0 (by decide)).symm
 have e1:x1=((outF s (4*j+1):Nat):Int):=by rw[h1];exact(outF_at s j 1 (by decide)).symm
 have e2:x2=((outF s (4*j+2):Nat):Int):=by rw[h2];exact(outF_at s j 2 (by decide)).symm
 have e3:x3=((outF s (4*j+3):Nat):Int):=by
  rw[h3,outF_at s j 3 (by decide)]
  simp
 rw[e0,e1,e2,e3,show 4*(j+1)=4*j+1+1+1+1 by omega,<-rowF_snoc,<-rowF_snoc,<-rowF_snoc,<-rowF_snoc]
 simp
theorem four_new (W:World) (a b c d:Value) (t:TypeId):∀ (j:Nat) (u:Value),[a,b,c,d][j]? = some u->(W.alloc (.cells #[a,b,c,d] t)).cell? ((⟨W.heap.size,0,none⟩:Addr).add j)=some u:=by
 intro j u hj
 match j,hj with
 |0,hj=>simp at hj;subst hj;simp[Addr.add]
 |1,hj=>simp at hj;subst hj;simp[Addr.add]
 |2,hj=>simp at hj;subst hj;simp[Addr.add]
 |3,hj=>simp at hj;subst hj;simp[Addr.add]
end Go.Proofs.YtjfdllgodijibaaGreatDoor.Sh


namespace Go.Proofs.YtjfdllgodijibaaGreatDoor.Sh
open Go.RowKit
theorem hideA {p:Prop} (h:p):Hid p:=h
theorem app_own {B:Nat} {w wr w1:World} {v:Value} {n:Nat} {f:Nat->Nat} {o:Obj} (hbel:Below B w wr) (hB:B<=wr.heap.size) (hown:OwnB wr B v n f) (hgrow:(wr.alloc o).grownBy w1 v.ownBlock):Below B w w1:=by
 obtain⟨g,cap,rfl,hg,_⟩:=hown
 refine(hbel.alloc hB o).grown hgrow (by simp;omega) ?_
 intro k hk
 simp[Value.ownBlock]at hk
 omega
theorem four_cell (a b c d:Int):∀ u∈[Value.int .u8 a,Value.int .u8 b,Value.int .u8 c,Value.int .u8 d],u.oneCell'=true:=by
 intro u hu
 simp at hu
 rcases hu with rfl|rfl|rfl|rfl<;>rfl
theorem cell_one (W:World) (x:Value) (t:TypeId):(W.alloc (.cells #[x] t)).cell? ((⟨W.heap.size,0,none⟩:Addr).add 0)=some x:=one_new W x t 0 x rfl
theorem all_of (hblk:∀ (s:Nat->Int) (gs c:Nat) (t:ByteArray) (w:World),t.size=64->gs<w.heap.size->(∀ j,j<8->w.cell? ⟨gs,j,none⟩=some (.int .i64 (s j)))->(∀ j,0<=s j/\s j<4294967296) ->
   Calls Tryz.prog 58 #[.slice (some ⟨gs,0,none⟩) 8 c,.string t] w fun e w'=>∃ g c',e=.returned (.slice (some ⟨g,0,none⟩) 8 c')/\w.heap.size<=g/\g<w'.heap.size/\(∀ j,j<8->w'.cell? ⟨g,j,none⟩=some (.int .i64 (blk (bt t) s j)))/\Below w.heap.size w w')
  (t:ByteArray) (w:World) (ht:t.size<=1048576) :
  Calls Tryz.prog 40 #[.string t] w fun e w'=>e=.returned (.string (sha t))/\Below w.heap.size w w':=by
 have HBK:=hideA hblk
 clear hblk
 obtain⟨i0,hi,hz0,hz1,hz2⟩:=info_parts Nu.Tryz.infoJ5
 obtain⟨ch,hch⟩:∃ c,c=chunks t.size:=⟨_,rfl⟩
 have hr:=chunks_room t.size
 have hti:=chunks_tight t.size
 rw[<-hch]at hr hti
 have HCH:=hideA hch
 clear hch
 obtain⟨V,w1,hcv,hO,hB⟩:∃ V w1,(convert 9 22 (.string t)).run Tryz.prog w=.ok V w1/\OwnB w1 w.heap.size V t.size (bt t)/\Below w.heap.size w w1 :=
  ⟨_,_,run_bytes_of_string (P:=Tryz.prog) w 9 22 5 t Tryz.underlying9 Tryz.underlying22 Tryz.underlying5,own_of_string w w.heap.size t 5 (by unfold maxLen;omega) (Nat.le_refl _),(Below.refl _ _).drew.alloc (Nat.le_refl _) _⟩
 have HO:=hideA hO
 have HB:=hideA hB
 clear hO hB
 go_enter Tryz.func40,Tryz.ntmps40
 go_wp2_with (at_builtin;refine wpList_append_b rfl _ _ 22 rfl w.heap.size 5 i0 Tryz.underlying22 hi hz0 hz1 hz2 V t.size (bt t) rfl (HO.out.alloc _) ⟨w1.heap.size,0,none⟩ 1 128 rfl (cell_one w1 _ _) (by omega) (by have:=HB.out.size;simp;omega) ?_;intro v2 w2 hO2 hg2)
 have HO2:=hideA (hO2.congr (fun j hj=>pad_first t j hj))
 have HB2:=hideA (app_own HB.out HB.out.size HO.out hg2)
 clear hO2 hg2 HO HB
 go_loopw [3] (fun v wr=>∃ n:Nat,OwnB wr w.heap.size v n (pad t)/\t.size+1<=n/\n+8<=ch*64/\Below w.heap.size w wr) (fun v _=>match v with|.slice _ n _=>ch*64-n|_=>0)
 case atStart=>exact⟨t.size+1,HO2.out,by omega,by omega,HB2.out⟩
 case round =>
  obtain⟨n,hown,hn1,hn2,hbel⟩:=hrel
  have HO3:=hideA hown
  have HB3:=hideA hbel
  obtain⟨g,cap,hv,hcap⟩:=hown.slice
  subst hv
  clear hown hbel
  by_cases hmod:n%64=56
  ·have HN:=hideA (show n=ch*64-8 by omega)
   have em:((n:Int)%64==56)=true:=by simp;omega
   have em2:((n:Int)%64 != 56)=false:=by simp;omega
   go_wp2_with fail
   go_loopw [3,5] (fun v i wr=>∃ m:Nat,i=.int .i64 (56-8*(m:Int))/\m<=8/\OwnB wr w.heap.size v (n+m) (pad t)/\Below w.heap.size w wr) (fun _ i _=>(intOf i+8).toNat)
   case atStart=>exact⟨0,rfl,by omega,HO3.out,HB3.out⟩
   case round =>
    obtain⟨m,rfl,hm,hown,hbel⟩:=hrel
    have HO5:=hideA hown
    have HB5:=hideA hbel
    obtain⟨g5,cap5,hv,hcap5⟩:=hown.slice
    subst hv
    clear hown hbel
    by_cases hm8:m<8
    ·have q1:IntKind.u64.wrap (56-8*(m:Int))=56-8*(m:Int):=by simp[IntKind.wrap,IntKind.bits,IntKind.signed];omega
     have q2:(56-8*(m:Int)).toNat=56-8*m:=by omega
     have q3:0<=56-8*(m:Int):=by omega
     obtain⟨x,hx⟩:∃ x,x=t.size*8/2 ^ (56-8*m)%256:=⟨_,rfl⟩
     have HV:Hid (8*(t.size:Int)/2 ^ (56-8*m)%256=(x:Int)):=by
      unfold Hid
      rw[hx,Nat.mul_comm t.size 8]
      simp
     have HP:Hid (x=pad t (n+m)):=by
      unfold Hid
      rw[hx,HN.out,HCH.out,pad_len t m hm8]
     clear hx
     go_wp2_with (at_builtin;refine wpList_append_b rfl _ _ 22 rfl w.heap.size 5 i0 Tryz.underlying22 hi hz0 hz1 hz2 (.slice (some ⟨g5,0,none⟩) (n+m) cap5) (n+m) (pad t) rfl (HO5.out.alloc _) ⟨wr.heap.size,0,none⟩ 1 x rfl (by rw[cell_one];exact congrArg some (congrArg (Value.int .u8) HV.out)) (by omega) (by have:=HB5.out.size;simp;omega) ?_;intro v6 w6 hO6 hg6;have HO6:=hideA (hO6.congr (fun j _=>pad_app t (n+m) x HP.out j));have HB6:=hideA (app_own HB5.out HB5.out.size HO5.out hg6);clear hO6 hg6)
     go_roundw
     case rel=>exact⟨m+1,by go_num,by omega,HO6.out,HB6.out⟩
     case measure=>simp[intOf];omega
    ·have HNM:Hid (n+m=ch*64):=by
      have:=HN.out
      unfold Hid
      omega
     have q3:¬0<=56-8*(m:Int):=by omega
     go_wp2_with fail
     refine(start_any wr).mono ?_
     rintro e w7 ⟨rfl,hw7⟩
     have HS7:Hid (∀ j,j<8->w7.cell? ⟨wr.heap.size,j,none⟩=some (.int .i64 (shaS t 0 j))):=by
      intro j hj
      rw[hw7]
      exact(IsB.new wr 2 .i64 8 firstF).cell hj
     have HO7:Hid (OwnB w7 w.heap.size (.slice (some ⟨g5,0,none⟩) (n+m) cap5) (n+m) (pad t)):=by
      unfold Hid
      rw[hw7]
      exact HO5.out.alloc _
     have HB7:Hid (Below w.heap.size w w7):=by
      unfold Hid
      rw[hw7]
      exact HB5.out.alloc HB5.out.size _
     have HZ7:Hid (wr.heap.size<w7.heap.size):=by
      unfold Hid
      rw[hw7]
      simp
     generalize n+m=L at HO7 HNM hcap5 ⊢
     generalize wr.heap.size=G7 at HS7 HZ7 ⊢
     clear hw7 HO5 HB5
     go_wp2_with fail
     go_loopw [6,7] (fun st i wr=>∃ k gs c:Nat,st=.slice (some ⟨gs,0,none⟩) 8 c/\i=.int .i64 (64*(k:Int))/\k<=ch/\gs<wr.heap.size/\(∀ j,j<8->wr.cell? ⟨gs,j,none⟩=some (.int .i64 (shaS t k j)))/\OwnB wr w.heap.size (.slice (some ⟨g5,0,none⟩) L cap5) L (pad t)/\Below w.heap.size w wr) (fun _ i _=>ch*64-(intOf i).toNat)
     case atStart=>exact⟨0,G7,8,rfl,rfl,Nat.zero_le _,HZ7.out,HS7.out,HO7.out,HB7.out⟩
     case round =>
      obtain⟨k,gs,c,rfl,rfl,hk,hgs,hcs,hown,hbel⟩:=hrel
      have HC8:=hideA hcs
      have HO8:=hideA hown
      have HB8:=hideA hbel
      have HG8:=hideA hgs
      clear hcs hown hbel hgs
      by_cases hkc:k<ch
      ·have e1:64*(k:Int)<(L:Int):=by have:=HNM.out;omega
       have e2:(64*(k:Int)).toNat=64*k:=by omega
       have e3:(64*(k:Int)+64).toNat=64*k+64:=by omega
       have e4:64*k+64-64*k=64:=by omega
       have e5:IntKind.i64.wrap (64*(k:Int)+64)=64*(k:Int)+64:=by simp[IntKind.wrap,IntKind.bits,IntKind.signed];omega
       have e6:64*(k:Int)+64<=(cap5:Int):=by have:=HNM.out;omega
       have e7:0<=64*(k:Int)+64:=by omega
       have e8:0<=64*(k:Int):=by omega
       have e9:64*(k:Int)<=64*(k:Int)+64:=by omega
       have e10:¬cap5=64*k:=by have:=HNM.out;omega
       have hcv8:=HO8.out.piece (P:=Tryz.prog) (src:=22) (dst:=9) (64*k) 64 (cap5-64*k) (by have:=HNM.out;omega) (pad_lt t) Tryz.underlying22 Tryz.underlying5 Tryz.underlying9
       go_wp2_with fail
       refine(HBK.out (shaS t k) gs c (strF 64 (blkB t k)) wr (strF_size 64 _) HG8.out HC8.out (shaS_range t k)).mono ?_
       rintro e w9 ⟨g9,c9,rfl,hg9a,hg9b,hcl9,hb9⟩
       rw[blk_str]at hcl9
       have HC9:=hideA hcl9
       have HO9:=hideA (HO8.out.below hb9 (Nat.le_refl _))
       have HB9:=hideA (HB8.out.trans (hb9.mono HB8.out.size))
       have HG9:=hideA hg9b
       clear hcl9 hb9 hg9a hg9b
       go_wp2_with fail
       go_roundw
       case rel=>exact⟨k+1,g9,c9,rfl,by go_num,by omega,HG9.out,HC9.out,HO9.out,HB9.out⟩
       case measure=>simp[intOf];omega
      ·have e1:¬64*(k:Int)<(L:Int):=by have:=HNM.out;omega
       have HSK:Hid (shaS t k=shaS t (chunks t.size)):=by
        unfold Hid
        rw[<-HCH.out]
        congr 1
        have:=HNM.out
        omega
       go_wp2_with fail
       obtain⟨w8,hw8⟩:∃ x,x=wr:=⟨_,rfl⟩
       have HW8:=hideA hw8
       clear hw8
       have HE8:=hideA (own_empty wr wr.heap.size 5 (Nat.le_refl _))
       have HL8:=hideA ((Below.refl wr.heap.size wr).alloc (Nat.le_refl _) (.cells #[] 5))
       go_loopw [8,9] (fun v i wo=>∃ j:Nat,i=.int .i64 j/\j<=8/\wo.ownsRow w8.heap.size 5 1 v (4*j) (rowF .u8 (4*j) (fun q=>(outF (shaS t k) q:Nat))).toList/\Below w8.heap.size w8 wo) (fun _ i _=>8-(intOf i).toNat)
       case atStart =>
        refine⟨0,rfl,by omega,?_,?_⟩
        ·rw[HW8.out];exact HE8.out
        ·rw[HW8.out];exact HL8.out
       case round =>
        rw[<-HW8.out]at HC8 HO8 HB8 HG8
        obtain⟨j,rfl,hj,hown,hbel⟩:=hrel
        have HOj:=hideA hown
        have HBj:=hideA hbel
        by_cases hj8:j<8
        ·obtain⟨x,hx⟩:∃ x,x=shaS t k j:=⟨_,rfl⟩
         have cs:wr.cell? ⟨gs,j,none⟩=some (.int .i64 x):=by rw[hbel.cell (p:=⟨gs,j,none⟩) HG8.out,HC8.out j hj8,hx]
         have lj:(j:Int)<8:=by omega
         have HX:=hideA hx
         have hsz9:w8.heap.size<=wr.heap.size:=hbel.size
         clear hx hbel hown
         go_wp2_with (at_builtin;refine wpList_append_own _ rfl _ _ 22 rfl w8.heap.size 5 i0 (.int .u8 0) 1 1 Tryz.underlying22 hi hz0 hz1 hz2 rfl (by decide) _ _ _ rfl (HOj.out.alloc _) ⟨wr.heap.size,0,none⟩ 4 4 [.int .u8 (x/16777216%256),.int .u8 (x/65536%256),.int .u8 (x/256%256),.int .u8 (x%256)] rfl rfl (four_new wr _ _ _ _ _) (four_cell _ _ _ _) (by unfold maxLen;omega) (by omega) (by simp;omega) ?_;intro v6 w6 hO6 hg6 _;have HB6:=hideA (Nu.app_below HBj.out (Nat.le_refl _) HOj.out hg6);have HO6:=hideA hO6;clear hO6 hg6)
         go_roundw
         case rel =>
          refine⟨j+1,by go_num,by omega,?_,HB6.out⟩
          have e:=HO6.out
          rw[out_four (shaS t k) j _ _ _ _ (by rw[HX.out]) (by rw[HX.out]) (by rw[HX.out]) (by rw[HX.out])]at e
          rw[show 4*(j+1)=4*j+4 by omega]at e ⊢
          exact e
         case measure=>simp[intOf];omega
        ·have hown8:wr.ownsRow w8.heap.size 5 1 u8 32 (rowF .u8 32 (fun q=>(outF (shaS t k) q:Nat))).toList:=by
          have e:j=8:=by omega
          rw[e]at hown
          exact hown
         have hcv9:=own_str (P:=Tryz.prog) (src:=22) (dst:=9) hown8 (outF_lt _) Tryz.underlying22 Tryz.underlying5 Tryz.underlying9
         have HFB:=hideA (HB8.out.trans (hbel.mono HB8.out.size))
         clear hown hown8 hbel
         go_wp2_with fail
         go_ret
         refine⟨Nu.ret_strJ ?_,HFB.out⟩
         rw[HSK.out]
         rfl
  ·have em:((n:Int)%64==56)=false:=by simp;omega
   have HZ:Hid (0=pad t n):=by
    unfold Hid
    rw[pad_zero t n (by omega) (by rw[<-HCH.out];omega)]
   go_wp2_with (at_builtin;refine wpList_append_b rfl _ _ 22 rfl w.heap.size 5 i0 Tryz.underlying22 hi hz0 hz1 hz2 (.slice (some ⟨g,0,none⟩) n cap) n (pad t) rfl (HO3.out.alloc _) ⟨wr.heap.size,0,none⟩ 1 0 rfl (cell_one wr _ _) (by omega) (by have:=HB3.out.size;simp;omega) ?_;intro v4 w4 hO4 hg4;have HO4:=hideA (hO4.congr (fun j _=>pad_app t n 0 HZ.out j));have HB4:=hideA (app_own HB3.out HB3.out.size HO3.out hg4);clear hO4 hg4)
   obtain⟨g',cap',hv4,hcap4⟩:=HO4.out.slice
   subst hv4
   go_roundw
   case rel=>exact⟨n+1,HO4.out,by omega,by omega,HB4.out⟩
   case measure=>simp;omega
end Go.Proofs.YtjfdllgodijibaaGreatDoor.Sh


/- What both Digest answer, and the law on it. -/
namespace Go.Proofs.YtjfdllgodijibaaGreatDoor.Sh
open Go.RowKit
theorem all_any (t:ByteArray) (w:World) (ht:t.size<=1048576) :
  Calls Tryz.prog 40 #[.string t] w fun e w'=>e=.returned (.string (sha t))/\Below w.heap.size w w' :=
 all_of (fun s gs c t w h1 h2 h3 h4=>block_any s gs c t w h1 h2 h3 h4) t w ht
def digestV (t:ByteArray):ByteArray:=if t.size<=8000 then sha t else ⟨#[]⟩
theorem digest_impl (t:ByteArray) (w:World) (ht:t.size<=maxLen) (hV:Vars w) :
  Calls Tryz.prog 8 #[.string t] w fun e w'=>e=.returned (.string (digestV t))/\Below w.heap.size w w':=by
 unfold maxLen at ht
 have HV:=hideS hV
 clear hV
 by_cases h:8000<t.size
 ·have HP:=hideS (show digestV t=⟨#[]⟩ by unfold digestV;rw[if_neg (by omega)])
  go_enter Tryz.func8,Tryz.ntmps8
  go_wp2_with fail
  go_ret
  exact⟨Nu.ret_strJ HP.out.symm,Below.refl _ _⟩
 ·have HP:=hideS (show digestV t=sha t by unfold digestV;rw[if_pos (by omega)])
  go_enter Tryz.func8,Tryz.ntmps8
  go_wp2_with fail
  refine(digestOf_any t w (by omega) HV.out).mono ?_
  rintro e w1 ⟨rfl,hb1⟩
  go_wp2_with fail
  go_ret
  exact⟨Nu.ret_strJ HP.out.symm,hb1⟩
end Go.Proofs.YtjfdllgodijibaaGreatDoor.Sh


namespace Go.Proofs.YtjfdllgodijibaaGreatDoor.Nu
open Go.RowKit
theorem join_some (a b:ByteArray) (w:World) (h:a.size+b.size<=1099511627776) (hb:¬b=ByteArray.empty) :
  Calls Tryz.prog 43 #[.string a,.string b] w fun e w'=>e=.returned (.string (a++b))/\Below w.heap.size w w':=by
 obtain⟨i0,hi,hz0,hz1,hz2⟩:=info_parts Tryz.infoJ5
 go_enter Tryz.func43,Tryz.ntmps43
 go_wp2_with (at_make;refine wpList_make_full _ rfl (.tmp 10) (.tmp 10) 22 rfl w.heap.size 5 i0 (.int .u8 0) 1 Tryz.underlying22 hi hz0 hz1 .i64 .i64 _ _ (a.size+b.size) rfl rfl (by simp) (by simp) (by rw[hz2];omega) (by unfold maxLen;omega) (Nat.le_refl _) ?_;intro w1 hown1 hgrow1;obtain⟨cur,hblk,hlen⟩:=made_block hown1;have hbel1:=(Below.refl w.heap.size w).grown hgrow1 (Nat.le_refl _) (by simp);obtain⟨w2,w3,c1,c2,c3,hb3⟩:=join_facts (P:=Tryz.prog) (ty:=3) (sT:=9) (a:=a) (b:=b) (dp:=some ⟨w.heap.size,a.size,none⟩) (dLen:=b.size) (dCap:=b.size) Tryz.underlying22 Tryz.underlying5 Tryz.underlying9 Tryz.sizeJ5 hblk hlen rfl hbel1 (fun _=>rfl) (Nat.le_refl _);clear hown1 hgrow1 hblk hlen hbel1)
 go_ret
 exact⟨rfl,by assumption⟩
theorem join_none (a:ByteArray) (w:World) (h:a.size<=1099511627776) :
  Calls Tryz.prog 43 #[.string a,.string ByteArray.empty] w fun e w'=>e=.returned (.string (a++ByteArray.empty))/\Below w.heap.size w w':=by
 obtain⟨i0,hi,hz0,hz1,hz2⟩:=info_parts Tryz.infoJ5
 go_enter Tryz.func43,Tryz.ntmps43
 go_wp2_with (at_make;refine wpList_make_full _ rfl (.tmp 10) (.tmp 10) 22 rfl w.heap.size 5 i0 (.int .u8 0) 1 Tryz.underlying22 hi hz0 hz1 .i64 .i64 _ _ a.size rfl rfl (by simp) (by simp) (by rw[hz2];omega) (by unfold maxLen;omega) (Nat.le_refl _) ?_;intro w1 hown1 hgrow1;obtain⟨cur,hblk,hlen⟩:=made_block hown1;have hbel1:=(Below.refl w.heap.size w).grown hgrow1 (Nat.le_refl _) (by simp);obtain⟨w2,w3,c1,c2,c3,hb3⟩:=join_facts (P:=Tryz.prog) (ty:=3) (sT:=9) (a:=a) (b:=ByteArray.empty) (dp:=some ⟨w.heap.size,0,none⟩) (dLen:=0) (dCap:=0) Tryz.underlying22 Tryz.underlying5 Tryz.underlying9 Tryz.sizeJ5 hblk hlen (by simp) hbel1 (by simp) (by simp);clear hown1 hgrow1 hblk hlen hbel1)
 go_ret
 exact⟨ret_strJ (by simp),by assumption⟩
theorem join_any (a b:ByteArray) (w:World) (h:a.size+b.size<=1099511627776) :
  Calls Tryz.prog 43 #[.string a,.string b] w fun e w'=>e=.returned (.string (a++b))/\Below w.heap.size w w':=by
 by_cases hb:b=ByteArray.empty
 ·subst hb
  exact join_none a w (by omega)
 ·exact join_some a b w h hb
end Go.Proofs.YtjfdllgodijibaaGreatDoor.Nu


/- What both LeafHash and both NodeHash answer. -/
namespace Go.Proofs.YtjfdllgodijibaaGreatDoor.Sh
open Go.RowKit
theorem below3 {w w1 w2 w3:World} (h1:Below w.heap.size w w1) (h2:Below w1.heap.size w1 w2) (h3:Below w2.heap.size w2 w3):Below w.heap.size w w3 :=
 have a:=h1.trans (h2.mono h1.size)
 a.trans (h3.mono a.size)
def leafV (t:ByteArray):ByteArray:=sha (⟨#[0]⟩++t)
def nodeV (a b:ByteArray):ByteArray:=sha (⟨#[1]⟩++a++b)
theorem leafV_size (t:ByteArray):(leafV t).size=32:=sha_size _
theorem nodeV_size (a b:ByteArray):(nodeV a b).size=32:=sha_size _
theorem mark0_size (t:ByteArray):((⟨#[0]⟩:ByteArray)++t).size=1+t.size:=by
 rw[ByteArray.size_append]
 rfl
theorem mark1_size (t:ByteArray):((⟨#[1]⟩:ByteArray)++t).size=1+t.size:=by
 rw[ByteArray.size_append]
 rfl
theorem l03Leaf_any (t:ByteArray) (w:World) (ht:t.size<=8000) :
  Calls Tryz.prog 78 #[.string t] w fun e w'=>e=.returned (.string (leafV t))/\Below w.heap.size w w':=by
 go_enter Tryz.func78,Tryz.ntmps78
 go_wp2_with fail
 refine(all_any _ w (by rw[mark0_size];omega)).mono ?_
 rintro e w1 ⟨rfl,hb1⟩
 go_wp2_with fail
 go_ret
 exact⟨rfl,hb1⟩
theorem l03Node_any (a b:ByteArray) (w:World) (ha:a.size<=8000) (hb:b.size<=8000) :
  Calls Tryz.prog 79 #[.string a,.string b] w fun e w'=>e=.returned (.string (nodeV a b))/\Below w.heap.size w w':=by
 go_enter Tryz.func79,Tryz.ntmps79
 go_wp2_with fail
 refine(all_any _ w (by rw[ByteArray.size_append,mark1_size];omega)).mono ?_
 rintro e w1 ⟨rfl,hb1⟩
 go_wp2_with fail
 go_ret
 exact⟨rfl,hb1⟩
def leafR (t:ByteArray):ByteArray:=if 100<t.size then ⟨#[]⟩ else leafV t
theorem leafR_no (t:ByteArray) (h:100<t.size):leafR t=⟨#[]⟩:=if_pos h
theorem leafR_yes (t:ByteArray) (h:¬100<t.size):leafR t=leafV t:=if_neg h
def nodeR (a b:ByteArray):ByteArray:=if a.size=32/\b.size=32 then nodeV a b else ⟨#[]⟩
theorem nodeR_no (a b:ByteArray) (h:¬(a.size=32/\b.size=32)):nodeR a b=⟨#[]⟩:=if_neg h
theorem nodeR_yes (a b:ByteArray) (h:a.size=32) (h':b.size=32):nodeR a b=nodeV a b:=if_pos ⟨h,h'⟩
theorem leaf_impl (t:ByteArray) (w:World) (ht:t.size<=maxLen) (hV:Vars w) :
  Calls Tryz.prog 27 #[.string t] w fun e w'=>e=.returned (.string (leafR t))/\Below w.heap.size w w':=by
 have HT:=hideS ht
 unfold maxLen at ht
 have HV:=hideS hV
 have h2:=hV.two
 clear hV
 by_cases h:100<t.size
 ·have HP:=hideS (leafR_no t h)
  go_enter Tryz.func27,Tryz.ntmps27
  go_wp2_with fail
  go_ret
  exact⟨Nu.ret_strJ HP.out.symm,Below.refl _ _⟩
 ·have HP:=hideS (leafR_yes t h)
  have HD:=hideS (show digestV (⟨#[0]⟩++t)=leafV t by unfold digestV leafV;rw[if_pos (by rw[mark0_size];omega)])
  go_enter Tryz.func27,Tryz.ntmps27
  go_wp2_with fail
  refine(Nu.join_any ⟨#[0]⟩ t w (by rw[show (⟨#[0]⟩:ByteArray).size=1 from rfl];omega)).mono ?_
  rintro e w1 ⟨rfl,hb1⟩
  go_wp2_with fail
  refine(digest_impl _ _ (by rw[mark0_size];unfold maxLen;omega) (HV.out.below hb1 h2)).mono ?_
  rintro e w2 ⟨rfl,hb2⟩
  have HB:=hideS (hb1.trans (hb2.mono hb1.size))
  clear hb1 hb2
  go_wp2_with fail
  go_ret
  exact⟨Nu.ret_strJ (HD.out.trans HP.out.symm),HB.out⟩
theorem node_impl (a b:ByteArray) (w:World) (hV:Vars w) :
  Calls Tryz.prog 69 #[.string a,.string b] w fun e w'=>e=.returned (.string (nodeR a b))/\Below w.heap.size w w':=by
 have HV:=hideS hV
 have h2:=hV.two
 clear hV
 by_cases h:a.size=32
 ·by_cases h':b.size=32
  ·have HP:=hideS (nodeR_yes a b h h')
   have HD:=hideS (show digestV (⟨#[1]⟩++(a++b))=nodeV a b by unfold digestV nodeV;rw[if_pos (by rw[mark1_size,ByteArray.size_append];omega),ByteArray.append_assoc])
   go_enter Tryz.func69,Tryz.ntmps69
   go_wp2_with fail
   refine(Nu.join_any a b w (by omega)).mono ?_
   rintro e w1 ⟨rfl,hb1⟩
   go_wp2_with fail
   refine(Nu.join_any ⟨#[1]⟩ (a++b) _ (by rw[show (⟨#[1]⟩:ByteArray).size=1 from rfl,ByteArray.size_append];omega)).mono ?_
   rintro e w2 ⟨rfl,hb2⟩
   go_wp2_with fail
   refine(digest_impl _ _ (by rw[mark1_size,ByteArray.size_append];unfold maxLen;omega) ((HV.out.below hb1 h2).below hb2 (by have:=hb1.size;omega))).mono ?_
   rintro e w3 ⟨rfl,hb3⟩
   have HB:=hideS (below3 hb1 hb2 hb3)
   clear hb1 hb2 hb3
   go_wp2_with fail
   go_ret
   exact⟨Nu.ret_strJ (HD.out.trans HP.out.symm),HB.out⟩
  ·have HP:=hideS (nodeR_no a b (fun x=>h' x.2))
   go_enter Tryz.func69,Tryz.ntmps69
   go_wp2_with fail
   go_ret
   exact⟨Nu.ret_strJ HP.out.symm,Below.refl _ _⟩
 ·have HP:=hideS (nodeR_no a b (fun x=>h x.1))
  go_enter Tryz.func69,Tryz.ntmps69
  go_wp2_with fail
  go_ret
  exact⟨Nu.ret_strJ HP.out.symm,Below.refl _ _⟩
end Go.Proofs.YtjfdllgodijibaaGreatDoor.Sh

