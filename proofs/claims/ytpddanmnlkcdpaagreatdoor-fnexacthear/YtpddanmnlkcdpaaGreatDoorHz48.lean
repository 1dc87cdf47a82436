/- Texts put together: Held, StrIn, HrMarkS, HrPiece, HrHave, HrHear, HrImpl. -/
import Derived.Test.YtpddanmnlkcdpaaGreatDoorHz43
import Derived.BigRegion
import Derived.Test.YtpddanmnlkcdpaaGreatDoorHz13
import Derived.Test.YtpddanmnlkcdpaaGreatDoorHz49
import Derived.Test.YtpddanmnlkcdpaaGreatDoorHz44
import Derived.Test.YtpddanmnlkcdpaaGreatDoorHz42
import Derived.Deep.RegionLaw
import Derived.Laws.EntriesVeiled
import Derived.Test.YtpddanmnlkcdpaaGreatDoorHz35
set_option maxRecDepth 100000
set_option maxHeartbeats 8000000
/- The laws' marks found again; an empty row too. -/
namespace Go.Proofs.YtpddanmnlkcdpaaGreatDoor.St
open Go.RowKit
end Go.Proofs.YtpddanmnlkcdpaaGreatDoor.St


/- Rows of texts between two marks of memory: what the laws' helpers do with them. -/
namespace Go.Proofs.YtpddanmnlkcdpaaGreatDoor.St
open Go.RowKit
def OwnIn (w:World) (lo hi:Nat) (v:Value) (l:List ByteArray):Prop :=
 (v=.slice none 0 0/\l=[])∨∃ g cap,v=.slice (some ⟨g,0,none⟩) l.length cap/\lo<=g/\g<hi/\IsO w g 9 l
theorem OwnIn.below {w w':World} {lo hi B:Nat} {v:Value} {l:List ByteArray} (h:OwnIn w lo hi v l) (b:Below B w w') (hB:hi<=B):OwnIn w' lo hi v l:=by
 rcases h with h|⟨g,cap,hv,hg,hh,ho⟩
 ·exact .inl h
 ·exact .inr ⟨g,cap,hv,hg,hh,ho.below b (by omega)⟩
theorem OwnIn.strs {w:World} {lo hi:Nat} {v:Value} {l:List ByteArray} (h:OwnIn w lo hi v l):∃ a cap,v=.slice a l.length cap/\Strs w hi a l:=by
 rcases h with⟨rfl,rfl⟩|⟨g,cap,rfl,_,hh,ho⟩
 ·exact⟨none,0,rfl,.inl rfl⟩
 ·exact⟨_,cap,rfl,ho.strs hh⟩
theorem eq_in {w:World} {lo hi lo' hi':Nat} {u v:Value} {l:List ByteArray} (hu:OwnIn w lo hi u l) (hv:OwnIn w lo' hi' v l) (hn:l.length<=1048576) :
  Calls Tryz.prog 51 #[u,v] w fun e w'=>e=.returned (.bool true)/\Below w.heap.size w w':=by
 obtain⟨a,cap,rfl,ha⟩:=hu.strs
 obtain⟨b,cap',rfl,hb⟩:=hv.strs
 exact eq_any a b cap cap' l w (max hi hi') (ha.mono (Nat.le_max_left _ _)) (hb.mono (Nat.le_max_right _ _)) hn
def Marked (w:World) (lo hi:Nat) (v:Value) (n:Nat):Prop:=OwnIn w lo hi v (marks 1 n)
end Go.Proofs.YtpddanmnlkcdpaaGreatDoor.St


namespace Go.Proofs.YtpddanmnlkcdpaaGreatDoor.St
open Go.RowKit
theorem mark_from (g t c q:Nat) (l:List ByteArray) (w:World) (h:IsO w g t l) (hn:l.length<=1048576) (h0:0<q) (hq:q<=549755813888) :
  Calls Tryz.prog 52 #[.slice (some ⟨g,0,none⟩) l.length c,.int .i64 q] w fun e w'=>e=.returned (.int .i64 ((q+l.length:Nat):Int))/\IsO w' g t (marks q l.length)/\Aft g w w':=by
 have HS:=hideT h
 have hgl:=h.lt
 clear h
 obtain⟨n,hln⟩:∃ n,n=l.length:=⟨_,rfl⟩
 have HLN:=hideT hln
 rw[<-hln]at hn ⊢
 clear hln
 generalize hE:q+n=E
 have HE:=hideT hE
 clear hE
 go_enter Tryz.func52,Tryz.ntmps52
 go_wp2_with fail
 go_loopw [5,1] (fun i kv wr=>∃ k kq:Nat,i=.int .i64 k/\kv=.int .i64 (kq:Int)/\k<=n/\kq=q+k/\IsO wr g t (mmid l q k)/\Aft g w wr) (fun i _ _=>n-(intOf i).toNat)
 case atStart=>exact⟨0,q,rfl,rfl,by omega,rfl,by rw[mmid_zero];exact HS.out,Aft.refl _ _⟩
 case round =>
  obtain⟨k,kq,rfl,rfl,hk,hkq,h1,ha⟩:=hrel
  have G1:=hideT h1
  have GA:=hideT ha
  have HKQ:=hideT hkq
  have hkb:kq<=1099511627776:=by omega
  have hk0:0<kq:=by omega
  clear hkq
  by_cases hlt:k<n
  ·have hkl:k<l.length:=by rw[<-HLN.out];exact hlt
   have HM:=hideT (mmid_next l q k hkl)
   rw[<-HKQ.out]at HM
   have HL:=hideT (mmid_length l q k (by omega))
   have HT:=hideT (markT_any kq wr hk0 hkb)
   clear h1 ha
   go_wp2_with fail
   refine HT.out.mono ?_
   rintro e w1 ⟨rfl,hb1⟩
   have I1:=hideT (G1.out.below hb1 G1.out.lt)
   have A1:=hideT (GA.out.more hb1)
   have cf:=I1.out.frozen k
   obtain⟨v0,ce⟩:∃ v,w1.cell? ⟨g,k,none⟩=some (.string v):=⟨_,I1.out.cell (j:=k) (by rw[HL.out];exact hkl)⟩
   clear hb1
   go_wp2_with fail
   go_roundw
   case rel=>exact⟨k+1,kq+1,by go_num,by go_num,by omega,by have:=HKQ.out;omega,by rw[<-HM.out];exact I1.out.set k _,A1.out.set k _⟩
   case measure=>simp[intOf];omega
  ·have HEE:Hid (mmid l q k=marks q n):=by
    unfold Hid
    rw[show k=l.length by have:=HLN.out;omega,HLN.out]
    exact mmid_all l q
   obtain rfl:k=n:=by omega
   obtain rfl:kq=E:=by have:=HKQ.out;have:=HE.out;omega
   have hltD:decide ((k:Int)<(k:Int))=false:=by simp
   clear h1 ha
   go_wp2_with fail
   go_ret
   exact⟨rfl,by rw[<-HEE.out];exact G1.out,GA.out⟩
theorem held_from (g t c n q:Nat) (w:World) (h:IsO w g t (marks q n)) (hn:n<=1048576) (h0:0<q) (hq:q<=549755813888) :
  Calls Tryz.prog 84 #[.slice (some ⟨g,0,none⟩) n c,.int .i64 q] w fun e w'=>e=.returned (.int .i64 ((q+n:Nat):Int))/\Below w.heap.size w w':=by
 have HS:=hideT h
 have hgl:=h.lt
 clear h
 generalize hE:q+n=E
 have HE:=hideT hE
 clear hE
 go_enter Tryz.func84,Tryz.ntmps84
 go_wp2_with fail
 go_loopw [5,1] (fun i kv wr=>∃ k kq:Nat,i=.int .i64 k/\kv=.int .i64 (kq:Int)/\k<=n/\kq=q+k/\Below w.heap.size w wr) (fun i _ _=>n-(intOf i).toNat)
 case atStart=>exact⟨0,q,rfl,rfl,by omega,rfl,Below.refl _ _⟩
 case round =>
  obtain⟨k,kq,rfl,rfl,hk,hkq,hb⟩:=hrel
  have GB:=hideT hb
  have HKQ:=hideT hkq
  have hkb:kq<=1099511627776:=by omega
  have hk0:0<kq:=by omega
  clear hkq
  by_cases hlt:k<n
  ·have hkl:k<(marks q n).length:=by rw[marks_length];exact hlt
   have ce:=(HS.out.below hb hgl).cell hkl
   rw[marks_get,<-HKQ.out]at ce
   have HT:Hid (∀ W:World,Calls Tryz.prog 81 #[.int .i64 (kq:Int)] W fun e w'=>e=.returned (.string (markT kq))/\Below W.heap.size W w'):=fun W=>markT_any kq W hk0 hkb
   have HCB:Hid (∀ W:World,Below w.heap.size w W->W.cell? ⟨g,k,none⟩=some (.string (markT kq))):=fun W hW=>by
    have:=(HS.out.below hW hgl).cell hkl
    rw[marks_get,<-HKQ.out]at this
    exact this
   have hsz:=hb.size
   clear hb
   generalize markT kq=mk at ce HT HCB
   go_wp2_with fail
   go_region_with (go_at_call 81;(with_reducible refine(HT.out _).mono ?_);rintro e w1 ⟨rfl,hb1⟩;have hb2:Below w.heap.size w w1:=Below.trans GB.out ⟨hb1.os,hb1.tape,hb1.output,hb1.size,fun j hj=>hb1.block j (Nat.lt_of_lt_of_le hj hsz)⟩;have ce2:=HCB.out w1 hb2;have HB2:=hideT hb2;clear hb1 hb2)
   all_goals (try go_wp2_with fail)
   all_goals
    go_roundw
    case rel=>exact⟨k+1,kq+1,by go_num,by go_num,by omega,by have:=HKQ.out;omega,HB2.out⟩
    case measure=>simp[intOf];omega
  ·obtain rfl:k=n:=by omega
   obtain rfl:kq=E:=by have:=HKQ.out;have:=HE.out;omega
   have hltD:decide ((k:Int)<(k:Int))=false:=by simp
   clear hb
   go_wp2_with fail
   go_ret
   exact⟨rfl,GB.out⟩
end Go.Proofs.YtpddanmnlkcdpaaGreatDoor.St


namespace Go.Proofs.YtpddanmnlkcdpaaGreatDoor.Tk
open Go.RowKit
open Kp
open Pe
open Pl
open Hr
open In (Ints OwnI)
open Ls (lowL blk_alloc lV HH hh_keep)
open St (Strs)
theorem HrEnd.from {w W W0 w':World} {gw:Nat} {z b:Int} {r:ByteArray} {h:HO} (hk:KeepH W0 W) (he:HrEnd w W gw z b r h w'):HrEnd w W0 gw z b r h w':=by
 obtain⟨u,e,ao,no,co,as',ns,cs,mo,ms,h1,h2,h3,h4,h5,h6⟩:=he
 exact⟨u,e,ao,no,co,as',ns,cs,mo,ms,h1,h2,h3,h4,h5,hk.trans h6.1,h6.2⟩
theorem hearPiece_any (fit fb:Rec->Bool) (w W:World) (gw:Nat) (u:Value) (e z b:Int) (r s:ByteArray) (y:Int) (go n co j:Nat) (mo:List MO) (mr:List MR) (hw:WS w W gw u e z b r s y (.slice (some ⟨go,0,none⟩) n co) (.slice none 0 0) mo [] mr) (hj:j<mo.length) (hrs:recs mr=(allR fit s).1) (hm:mr.length<=1048576) (hn:n<=1048576) (hs0:0<=mo[j].1.strikes) (hs1:mo[j].1.strikes<=3) (i:Int) (t:ByteArray) (p:List ByteArray) (ap:Option Addr) (cp:Nat) (hcp:p.length<=cp) (hp:Strs w w.heap.size ap p) (hi:0<=i/\i<=1048576)
  (hk:keepB fit z b r s y=true) (hsz:s.size<=1048576) (hh:HH w) (hf:FitC fit z b r w) (hff:FitF fit) (ha:FitA fit)
  (hft:∀ V,Below w.heap.size w V->Calls Tryz.prog 138 #[lV z b r,.int .i64 i,.string t,.slice ap p.length cp] V fun q v'=>q=.returned (.bool (fb (i,t,p)))/\Below V.heap.size V v') (hsm:fb (i,t,p)=true->t.size<=8000/\p.length<=400) :
  Calls Tryz.prog 123 #[.pointer (some ⟨gw,0,none⟩),.pointer (some ⟨go,j*5,none⟩),sayV 3 i t (.slice ap p.length cp)] W fun q w'=>q=.returned (.tuple #[])/\HrEnd w W gw z b r (pieceH fit fb s y (Pe.oths mo) j mo[j].1 (i,t,p)) w':=by
 have hmx:=mixedK
 have B1:=(Below.refl W.heap.size W).alloc (Nat.le_refl _) (sayO 3 i t (.slice ap p.length cp))
 have K1:=hideK (KeepH.below B1)
 have XB:=hideK (heap_alloc_new W (sayO 3 i t (.slice ap p.length cp)))
 have HST:=hideK (settle3_any w _ gw u e z b r s y go n co j (.slice none 0 0) mo [] mr (hw.call B1) hj i t ap p.length cp hi)
 have HLW:=hideK hw.low
 have HPH:Hid (pieceH fit fb s y (Pe.oths mo) j mo[j].1 (i,t,p)=if fb (i,t,p)=false then ⟨s,y,(Pe.oths mo).set j (strikeO (dropO mo[j].1 i)),[]⟩ else if ¬mo[j].1.asked=i+1 then ⟨s,y,Pe.oths mo,[]⟩ else takeH fit s y ((Pe.oths mo).set j (dropO mo[j].1 i)) (i,t,p)):=rfl
 have HSAME:=hideK (oths_same hj)
 have HDN:=hideK (fun (h:¬mo[j].1.asked=i+1)=>drop_not h)
 have HDF:=hideK (drop_has mo[j].1 i)
 have HAD:Hid (decide (mo[j].1.asked=i+1)=true->mo[j].1.asked=i+1):=fun h=>of_decide_eq_true h
 have HAN:Hid (decide (mo[j].1.asked=i+1)=false->¬mo[j].1.asked=i+1):=fun h=>of_decide_eq_false h
 have HFT:=hideK hft
 have HTK:=hideK (fun (V:World) (m2:List MO) (hV:WS w V gw u e z b r s y (.slice (some ⟨go,0,none⟩) n co) (.slice none 0 0) m2 [] mr) (hB:HH V) (hC:FitC fit z b r V) (hS:Strs V V.heap.size ap p) (hx:fb (i,t,p)=true)=>take_any fit w V gw u e z b r s y go n co m2 mr hV hn 3 i t p ap cp hcp hS hk hsz (hsm hx).1 (hsm hx).2 hB hC hff ha)
 have HCX:Hid (∀ V,Below w.heap.size w V->HH V/\FitC fit z b r V/\Strs V V.heap.size ap p):=fun V hV=>⟨hh_keep hh hV,hf.later hV,(hp.below hV).mono hV.size⟩
 have BB:=hideK B1
 clear hw B1 hft hh hf hff ha hp hk
 generalize hA:decide (mo[j].1.asked=i+1)=A at HST HAD HAN
 clear hA
 unfold sayV at HST HTK ⊢
 unfold sayO at XB K1 HST BB
 unfold lV at HFT
 go_enter Tryz.func123,Tryz.ntmps123
 go_upto_region 1 with fail
 generalize W.alloc (.cells #[.int .i64 3,.int .i64 i,.string t,.slice ap p.length cp] 51)=W1 at HST K1 XB BB ⊢
 generalize W.heap.size=gm at XB ⊢
 obtain⟨x0,x1,x2,x3⟩:=cells4 XB.out
 go_wp2_with fail
 refine HST.out.mono ?_
 rintro q w2 ⟨rfl,m2,hw2,ho2,hk2⟩
 have W2S:=hideK hw2
 have O2:=hideK ho2
 have K2:=hideK (K1.out.trans hk2)
 have X2:=hideK (hk2.say (k:=3) (i:=i) (t:=t) (v:=.slice ap p.length cp) XB.out)
 obtain⟨hj2,ex2⟩:=oths_at ho2 hj
 have E2:=hideK ex2
 clear hw2 ho2 hk2 ex2 HST K1 XB BB x0 x1 x2 x3
 unfold sayO at X2
 obtain⟨x0,x1,x2,x3⟩:=cells4 X2.out
 have gx1:=fun d os=>cell_regrown x1 d os
 have gx2:=fun d os=>cell_regrown x2 d os
 have gx3:=fun d os=>cell_regrown x3 d os
 have GB:=W2S.out.gwb
 unfold wpB at GB
 obtain⟨r0,r1,r2,r3,r4,r5,r6,_,_⟩:=cellsP9 GB
 have gr2:=fun d os=>cell_regrown r2 d os
 have gr3:=fun d os=>cell_regrown r3 d os
 have gr4:=fun d os=>cell_regrown r4 d os
 have HFT2:Hid (∀ V,Below w2.heap.size w2 V->Calls Tryz.prog 138 #[.agg #[.int .i64 z,.int .i64 b,.string r],.int .i64 i,.string t,.slice ap p.length cp] V fun q v'=>q=.returned (.bool (fb (i,t,p)))/\Below V.heap.size V v'):=fun V hV=>HFT.out V (lowL W2S.out.low hV)
 clear HFT GB
 go_upto_region 2 with fail
 cases hfb:fb (i,t,p) with
 |false =>
  rw[hfb]at HFT2
  rw[hfb,if_pos rfl]at HPH
  refine wp_region_quiet_below (by assumption) (by kernel_rfl) ?_
  repeat (go_big_quiet_step ((go_at_call 138;exact Calls.regrown_of (HFT2.out _ (below_regrown _ _ _)))))
  refine wpQuiet_nil ?_
  intro _ hw'
  obtain⟨⟨dq,osq⟩,hw''⟩:=hw'
  subst hw''
  have W3S:=hideK (W2S.out.call (below_regrown w2 dq osq))
  have K3:=hideK (K2.out.trans (KeepH.below (below_regrown w2 dq osq)))
  generalize Go.Sort.grow (redrawn w2 dq) osq=w3 at W3S K3 ⊢
  have HSK:=hideK (strike_any w w3 gw u e z b r s y go n co j (.slice none 0 0) m2 [] mr W3S.out hj2 (by rw[E2.out,HDF.out.2.2];exact hs0) (by rw[E2.out,HDF.out.2.2];exact hs1))
  have HEND:Hid (∀ w4,(∃ mo',WS w w4 gw u e z b r s y (.slice (some ⟨go,0,none⟩) n co) (.slice none 0 0) mo' [] mr/\Pe.oths mo'=(Pe.oths m2).set j (strikeO m2[j].1)/\KeepH w3 w4)->HrEnd w W gw z b r (pieceH fit fb s y (Pe.oths mo) j mo[j].1 (i,t,p)) w4):=fun w4 ⟨mo',h1,h2,h3⟩=>by
   have h4:=h1.hrEnd (K3.out.trans h3)
   rw[h2,O2.out,E2.out,List.set_set]at h4
   rw[HPH.out]
   exact h4
  clear gx1 gx2 gx3 gr2 gr3 gr4 x0 x1 x2 x3 r0 r1 r2 r3 r4 r5 r6 W2S K2 X2 O2 E2 W3S K3 HFT2 HPH HSAME HDN HDF HAD HAN HTK HCX HLW
  go_wp2_with fail
  refine HSK.out.mono ?_
  rintro q' w4 ⟨rfl,h4⟩
  have HE:=hideK (HEND.out w4 h4)
  clear h4 HEND HSK
  go_wp2_with fail
  exact bodyPost_ret (results_none rfl _ _ _) rfl ⟨rfl,HE.out⟩
 |true =>
  rw[hfb]at HFT2
  rw[hfb,if_neg (by decide)]at HPH
  refine wp_region_quiet_below (by assumption) (by kernel_rfl) ?_
  repeat (go_big_quiet_step ((go_at_call 138;exact Calls.regrown_of (HFT2.out _ (below_regrown _ _ _)))))
  refine wpQuiet_nil ?_
  intro _ hw'
  obtain⟨⟨dq,osq⟩,hw''⟩:=hw'
  subst hw''
  have W3S:=hideK (W2S.out.call (below_regrown w2 dq osq))
  have K3:=hideK (K2.out.trans (KeepH.below (below_regrown w2 dq osq)))
  have X3:=hideK (((below_regrown w2 dq osq).block gm (lt_rowK X2.out)).trans X2.out)
  generalize Go.Sort.grow (redrawn w2 dq) osq=w3 at W3S K3 X3 ⊢
  clear gx1 gx2 gx3 gr2 gr3 gr4 x0 x1 x2 x3 r0 r1 r2 r3 r4 r5 r6 W2S K2 X2 HFT2
  obtain⟨x0,x1,x2,x3⟩:=cells4 X3.out
  have gx1:=fun d os=>cell_regrown x1 d os
  go_upto_region 4 with fail
  cases A with
  |false =>
   have HE:Hid (∀ d os,HrEnd w W gw z b r (pieceH fit fb s y (Pe.oths mo) j mo[j].1 (i,t,p)) (Go.Sort.grow (redrawn w3 d) os)):=fun d os=>by
    have h4:=(W3S.out.call (below_regrown w3 d os)).hrEnd (K3.out.trans (KeepH.below (below_regrown w3 d os)))
    rw[O2.out,HDN.out (HAN.out rfl),HSAME.out]at h4
    rw[HPH.out,if_pos (HAN.out rfl)]
    exact h4
   clear W3S K3 X3 O2 E2 HPH HSAME HDN HDF HAD HAN HTK HCX HLW
   refine wp_region_quiet_below (by assumption) (by kernel_rfl) ?_
   repeat (go_big_quiet_step (fail))
   refine wpQuiet_nil ?_
   intro _ hw'
   obtain⟨⟨dq,osq⟩,hw''⟩:=hw'
   subst hw''
   have HE2:=hideK (HE.out dq osq)
   generalize Go.Sort.grow (redrawn w3 dq) osq=w4 at HE2 ⊢
   clear HE gx1 x0 x1 x2 x3
   go_wp2_with fail
   refine bodyPost_end (v:=.tuple #[]) (by simp[results,Tryz.results123,go_sem]) rfl ⟨rfl,?_⟩
   exact HE2.out
  |true =>
   have GB:=W3S.out.gwb
   unfold wpB at GB
   have HHS:=hideK (fun V (hV:Below w3.heap.size w3 V)=>has_any gw w.heap.size mr.length i u mr V (cell_of_row V gw 0 _ _ _ ((hV.block gw (lt_rowK GB)).trans GB)) (Nat.lt_of_lt_of_le (lt_rowK GB) hV.size) (W3S.out.rrow.below hV) W3S.out.rsl rfl hm)
   rw[hrs]at HHS
   rw[if_neg (fun h=>h (HAD.out rfl))]at HPH
   clear GB
   cases hhas:hasR (allR fit s).1 i with
   |true =>
    rw[hhas]at HHS
    have HE:Hid (∀ d os,HrEnd w W gw z b r (pieceH fit fb s y (Pe.oths mo) j mo[j].1 (i,t,p)) (Go.Sort.grow (redrawn w3 d) os)):=fun d os=>by
     have h4:=(W3S.out.call (below_regrown w3 d os)).hrEnd (K3.out.trans (KeepH.below (below_regrown w3 d os)))
     rw[O2.out]at h4
     rw[HPH.out]
     unfold takeH
     rw[if_pos (by unfold fullB;rw[hhas];simp)]
     exact h4
    clear W3S K3 X3 O2 E2 HPH HSAME HDN HDF HAD HAN HTK HCX HLW
    refine wp_region_quiet_below (by assumption) (by kernel_rfl) ?_
    repeat (go_big_quiet_step ((go_at_call 98;exact Calls.regrown_of (HHS.out _ (below_regrown _ _ _)))))
    refine wpQuiet_nil ?_
    intro _ hw'
    obtain⟨⟨dq,osq⟩,hw''⟩:=hw'
    subst hw''
    have HE2:=hideK (HE.out dq osq)
    generalize Go.Sort.grow (redrawn w3 dq) osq=w4 at HE2 ⊢
    clear HE gx1 x0 x1 x2 x3 HHS
    go_wp2_with fail
    refine bodyPost_end (v:=.tuple #[]) (by simp[results,Tryz.results123,go_sem]) rfl ⟨rfl,?_⟩
    exact HE2.out
   |false =>
    rw[hhas]at HHS
    refine wp_region_quiet_below (by assumption) (by kernel_rfl) ?_
    repeat (go_big_quiet_step ((go_at_call 98;exact Calls.regrown_of (HHS.out _ (below_regrown _ _ _)))))
    refine wpQuiet_nil ?_
    intro _ hw'
    obtain⟨⟨dq,osq⟩,hw''⟩:=hw'
    subst hw''
    have W4S:=hideK (W3S.out.call (below_regrown w3 dq osq))
    have K4:=hideK (K3.out.trans (KeepH.below (below_regrown w3 dq osq)))
    have X4:=hideK (((below_regrown w3 dq osq).block gm (lt_rowK X3.out)).trans X3.out)
    generalize Go.Sort.grow (redrawn w3 dq) osq=w4 at W4S K4 X4 ⊢
    clear gx1 x0 x1 x2 x3 W3S K3 X3 HHS
    obtain⟨x0,x1,x2,x3⟩:=cells4 X4.out
    have HTK2:=hideK (HTK.out w4 m2 W4S.out (HCX.out w4 W4S.out.low).1 (HCX.out w4 W4S.out.low).2.1 (HCX.out w4 W4S.out.low).2.2 hfb)
    have HEND:Hid (∀ w5,HrEnd w w4 gw z b r (takeH fit s y (Pe.oths m2) (i,t,p)) w5->HrEnd w W gw z b r (pieceH fit fb s y (Pe.oths mo) j mo[j].1 (i,t,p)) w5):=fun w5 h=>by
     rw[HPH.out,<-O2.out]
     exact HrEnd.from K4.out h
    clear W4S K4 X4 O2 E2 HPH HSAME HDN HDF HAD HAN HTK HCX HLW
    go_wp2_with fail
    refine HTK2.out.mono ?_
    rintro q5 w5 ⟨rfl,h5⟩
    have HE5:=hideK (HEND.out w5 h5)
    clear h5 HEND HTK2
    go_wp2_with fail
    refine bodyPost_end (v:=.tuple #[]) (by simp[results,Tryz.results123,go_sem]) rfl ⟨rfl,?_⟩
    exact HE5.out
end Go.Proofs.YtpddanmnlkcdpaaGreatDoor.Tk


namespace Go.Proofs.YtpddanmnlkcdpaaGreatDoor.Tk
open Go.RowKit
open Kp
open Pe
open Pl
open Hr
open In (Ints OwnI)
open Ls (lowL blk_alloc)
theorem hearNo_any (w W:World) (gw:Nat) (u:Value) (e z b:Int) (r s:ByteArray) (y:Int) (go n co j:Nat) (vs:Value) (mo:List MO) (ms:List ML) (mr:List MR) (hw:WS w W gw u e z b r s y (.slice (some ⟨go,0,none⟩) n co) vs mo ms mr) (hj:j<mo.length) (i:Int) (t:ByteArray) (ap:Option Addr) (np cp:Nat) (hi:0<=i/\i<=1048576) {c:Int} (hri:RisesTo mo[j].1.has c mo[j].1.has.length) (hsm:mo[j].1.has.length<=1048576) :
  Calls Tryz.prog 124 #[.pointer (some ⟨gw,0,none⟩),.pointer (some ⟨go,j*5,none⟩),sayV 4 i t (.slice ap np cp)] W fun q w'=>q=.returned (.tuple #[])/\SetPost w W gw u e z b r s y (.slice (some ⟨go,0,none⟩) n co) vs mo ms mr j (noO mo[j].1 i) w':=by
 have B1:=(Below.refl W.heap.size W).alloc (Nat.le_refl _) (sayO 4 i t (.slice ap np cp))
 have K1:=hideK (KeepH.below B1)
 have HST:=hideK (settle4_any w _ gw u e z b r s y go n co j vs mo ms mr (hw.call B1) hj i t ap np cp hi hri hsm)
 have XB:=hideK (heap_alloc_new W (sayO 4 i t (.slice ap np cp)))
 have HPO:Hid (∀ W1 w' x,KeepH W W1->SetPost w W1 gw u e z b r s y (.slice (some ⟨go,0,none⟩) n co) vs mo ms mr j x w'->SetPost w W gw u e z b r s y (.slice (some ⟨go,0,none⟩) n co) vs mo ms mr j x w'):=fun W1 w' x hk h=>by
  obtain⟨m',h1,h2,h3⟩:=h
  exact⟨m',h1,h2,hk.trans h3⟩
 clear B1 hw hri hsm
 generalize noO mo[j].1 i=NO at HST ⊢
 generalize decide (mo[j].1.asked=i+1)=A at HST
 unfold sayV at HST ⊢
 unfold sayO at K1 HST XB
 go_enter Tryz.func124,Tryz.ntmps124
 go_upto_region 1 with fail
 generalize W.alloc (.cells #[.int .i64 4,.int .i64 i,.string t,.slice ap np cp] 51)=W1 at K1 HST XB ⊢
 generalize W.heap.size=gm at XB ⊢
 obtain⟨x0,x1,x2,x3⟩:=cells4 XB.out
 go_wp2_with fail
 refine HST.out.mono ?_
 rintro q w2 ⟨rfl,hp⟩
 have HF:=hideK (HPO.out _ _ _ K1.out hp)
 clear hp HST
 go_wp2_with fail
 refine bodyPost_end (v:=.tuple #[]) (by simp[results,Tryz.results124,go_sem]) rfl ⟨rfl,?_⟩
 exact HF.out
theorem hearHave_any (w W:World) (gw:Nat) (u:Value) (e z b:Int) (r s:ByteArray) (y:Int) (go n co j:Nat) (vs:Value) (mo:List MO) (ms:List ML) (mr:List MR) (hw:WS w W gw u e z b r s y (.slice (some ⟨go,0,none⟩) n co) vs mo ms mr) (hj:j<mo.length) (k i:Int) (t:ByteArray) (ap:Option Addr) (np cp:Nat) {c:Int} (hri:RisesTo mo[j].1.has c mo[j].1.has.length) (hsm:mo[j].1.has.length<=1048575) :
  Calls Tryz.prog 121 #[.pointer (some ⟨gw,0,none⟩),.pointer (some ⟨go,j*5,none⟩),sayV k i t (.slice ap np cp)] W fun q w'=>q=.returned (.tuple #[])/\SetPost w W gw u e z b r s y (.slice (some ⟨go,0,none⟩) n co) vs mo ms mr j (haveO mo[j].1 i) w':=by
 have hmx:=mixedK
 have W1S:=hideK (hw.call ((Below.refl _ _).alloc (Nat.le_refl _) (sayO k i t (.slice ap np cp))))
 have K1:=hideK (KeepH.below ((Below.refl W.heap.size W).alloc (Nat.le_refl _) (sayO k i t (.slice ap np cp))))
 have XB:=hideK (heap_alloc_new W (sayO k i t (.slice ap np cp)))
 have HSAME:=hideK (oths_same hj)
 have HRI:=hideK (ints_lt hri)
 have hsm2:mo[j].1.has.length<=1048576:=by omega
 clear hw hri
 unfold sayV
 unfold sayO at XB W1S K1
 go_enter Tryz.func121,Tryz.ntmps121
 go_upto_region 1 with fail
 generalize W.alloc (.cells #[.int .i64 k,.int .i64 i,.string t,.slice ap np cp] 51)=W1 at W1S K1 XB ⊢
 generalize W.heap.size=gm at XB ⊢
 obtain⟨⟨c0,c1,c2,c3,c4⟩,ff,ax,cx,hxv,_,hix⟩:=W1S.out.five hj
 rw[hxv]at c1
 obtain⟨x0,x1,x2,x3⟩:=cells4 XB.out
 have g1:=fun d os=>cell_regrown c1 d os
 have gx1:=fun d os=>cell_regrown x1 d os
 have HV2:=hideK hxv
 have HSR:=hideK (fun W (h:Ints W W.heap.size ax mo[j].1.has)=>search_any ax mo[j].1.has.length cx mo[j].1.has i W h rfl hsm2 HRI.out)
 have HSR2:Hid (∀ W,Below W1.heap.size W1 W->Calls Tryz.prog 155 #[.slice ax mo[j].1.has.length cx,.int .i64 i] W fun e w'=>e=.returned (.tuple #[.int .i64 ((posI mo[j].1.has i:Nat):Int),.bool (decide (i∈mo[j].1.has))])/\Below W.heap.size W w'):=fun W hW=>(HSR.out W ((hix.below hW).mono hW.size)).mono fun e w' h=>⟨h.1,by rw[h.2];exact Below.refl _ _⟩
 have HPL:=hideK (posI_le mo[j].1.has i)
 have HWI:Hid (withI mo[j].1.has i=if i∈mo[j].1.has then mo[j].1.has else mo[j].1.has.take (posI mo[j].1.has i)++[i]++mo[j].1.has.drop (posI mo[j].1.has i)):=rfl
 have HHO:Hid (haveO mo[j].1 i=⟨mo[j].1.name,withI mo[j].1.has i,mo[j].1.asked,mo[j].1.age,mo[j].1.strikes⟩):=rfl
 clear hix hxv HSR
 have hpr:posI mo[j].1.has i<=1048576:=Nat.le_trans (posI_le _ _) hsm2
 generalize posI mo[j].1.has i=P at HSR2 HPL HWI hpr
 generalize hln:mo[j].1.has.length=hl at g1 HSR2 HPL c1 HV2 hsm hsm2
 have HLN:=hideK hln
 clear hln
 refine wp_region_quiet_below (by assumption) (by kernel_rfl) ?_
 repeat (go_big_quiet_step ((go_at_call 155;exact Calls.regrown_of (HSR2.out _ (below_regrown _ _ _)))))
 refine wpQuiet_nil ?_
 intro _ hw'
 obtain⟨⟨dq,osq⟩,hw''⟩:=hw'
 subst hw''
 have W3S:=hideK (W1S.out.call (below_regrown W1 dq osq))
 have K3:=hideK (K1.out.trans (KeepH.below (below_regrown W1 dq osq)))
 have X3:=hideK ((below_regrown W1 dq osq).block gm (lt_rowK XB.out))
 rw[XB.out]at X3
 generalize Go.Sort.grow (redrawn W1 dq) osq=W3 at W3S K3 X3 ⊢
 clear g1 gx1 c0 c1 c2 c3 c4 ff x0 x1 x2 x3 W1S K1 XB HSR2
 cases hm:decide (i∈mo[j].1.has) with
 |true =>
  have hm1:=of_decide_eq_true hm
  rw[if_pos hm1]at HWI
  have HF:Hid (SetPost w W gw u e z b r s y (.slice (some ⟨go,0,none⟩) n co) vs mo ms mr j (haveO mo[j].1 i) W3):=⟨_,W3S.out,by rw[HHO.out,HWI.out,HSAME.out],K3.out⟩
  clear hm hm1 HWI HHO W3S K3 HSAME
  go_wp2_with fail
  refine bodyPost_end (v:=.tuple #[]) (by simp[results,Tryz.results121,go_sem]) rfl ⟨rfl,?_⟩
  exact HF.out
 |false =>
  have hm1:=of_decide_eq_false hm
  rw[if_neg hm1]at HWI
  clear hm hm1
  obtain⟨⟨c0,c1,c2,c3,c4⟩,ff,_⟩:=W3S.out.five hj
  rw[HV2.out]at c1
  obtain⟨x0,x1,x2,x3⟩:=cells4 X3.out
  have HZ:=hideK W3S.out.low.size
  have B4:=hideK (((Below.refl W3.heap.size W3).alloc (Nat.le_refl _) (.cells #[.int .i64 i] 2)).drew)
  have W4S:=hideK (W3S.out.call B4.out)
  have HOW:=hideK (W4S.out.has mo[j] (List.getElem_mem hj))
  have HNE:Hid (mo[j].2.ownBlock≠some W3.heap.size):=fun e'=>by
   have:=(World.ownsRow.lt (W3S.out.has mo[j] (List.getElem_mem hj)) _ e').2
   omega
  have HIN:=hideK (Pm.insI_any w.heap.size hl P W3.heap.size mo[j].2 (mo[j].1.has.map (Value.int .i64)) [.int .i64 i] ((W3.alloc (.cells #[.int .i64 i] 2)).drew) (by have:=HOW.out;unfold OwnI at this;rwa[HLN.out]at this) HPL.out hsm2 (by have:=HZ.out;simp;omega) (heap_alloc_new W3 _) rfl HNE.out (ints_oneP _) (by intro u hu;rw[List.mem_singleton.1 hu];rfl))
  have HEND:Hid (∀ w5 v5,w5.ownsRow w.heap.size 2 1 v5 (hl+1) ((mo[j].1.has.map (Value.int .i64)).take P++[.int .i64 i]++(mo[j].1.has.map (Value.int .i64)).drop P)->((W3.alloc (.cells #[.int .i64 i] 2)).drew).grownBy w5 mo[j].2.ownBlock->(v5.ownBlock=mo[j].2.ownBlock∨∀ k,v5.ownBlock=some k->((W3.alloc (.cells #[.int .i64 i] 2)).drew).heap.size<=k) ->
    (w5.cell? ⟨go,j*5+1,none⟩=some mo[j].2/\w5.frozen? ⟨go,j*5+1,none⟩=false)/\(∃ a q c,v5=.slice a q c)/\SetPost w W gw u e z b r s y (.slice (some ⟨go,0,none⟩) n co) vs mo ms mr j (haveO mo[j].1 i) (w5.setCell ⟨go,j*5+1,none⟩ v5)):=fun w5 v5 h1 h2 h3=>by
   have hI:OwnI w5 w.heap.size v5 (withI mo[j].1.has i):=by
    have hlen:(withI mo[j].1.has i).length=hl+1:=by
     have:=h1.1
     rw[HWI.out,<-List.length_map (f:=Value.int .i64),List.map_append,List.map_append,List.map_take,List.map_drop]
     simpa using this
    unfold OwnI
    rw[hlen,HWI.out,List.map_append,List.map_append,List.map_take,List.map_drop]
    exact h1
   obtain⟨p1,p2⟩:=W3S.out.putH hj (W1:=(W3.alloc (.cells #[.int .i64 i] 2)).drew) (W2:=w5) _ v5 B4.out h2 hI h3
   refine⟨W4S.out.cell1 hj h2,?_,_,p1,by rw[oths_set,HHO.out],K3.out.trans p2⟩
   obtain⟨a,c,h,_⟩:=hI.ints
   exact⟨_,_,_,h⟩
  rw[HV2.out]at HIN HEND
  have GOL:go<W3.heap.size:=by obtain⟨cur,hb⟩:=own_blk W3S.out.row;exact lt_rowK hb
  have q1:(W3.alloc (.cells #[.int .i64 i] 2)).cell? ⟨go,j*5+1,none⟩=some (.slice ax hl cx):=(((Below.refl W3.heap.size W3).alloc (Nat.le_refl _) _).cell (p:=⟨go,j*5+1,none⟩) GOL).trans c1
  have q2:(W3.alloc (.cells #[.int .i64 i] 2)).cell? ⟨gm,1,none⟩=some (.int .i64 i):=(((Below.refl W3.heap.size W3).alloc (Nat.le_refl _) _).cell (p:=⟨gm,1,none⟩) (lt_rowK X3.out)).trans x1
  clear W3S W4S K3 HOW HNE HWI HHO HSAME HRI c0 c2 c3 c4
  go_upto_region 3 with fail
  go_region_law (go_simp;go_at_call 156;(with_reducible refine HIN.out.mono ?_);rintro q5 w5 ⟨v5,rfl,ho5,hg5,hf5⟩;obtain⟨⟨k5,f5⟩,⟨a5,n5,cc5,hv5⟩,hp5⟩:=HEND.out w5 v5 ho5 hg5 hf5;subst hv5;have P5:=hideK hp5;clear ho5 hg5 hf5 hp5)
  all_goals (try go_wp2_with fail)
  all_goals (
   refine bodyPost_end (v:=.tuple #[]) (by simp[results,Tryz.results121,go_sem]) rfl ⟨rfl,?_⟩
   exact P5.out)
end Go.Proofs.YtpddanmnlkcdpaaGreatDoor.Tk


namespace Go.Proofs.YtpddanmnlkcdpaaGreatDoor.Tk
open Go.RowKit
open Kp
open Pe
open Pl
open Hr
open In (Ints OwnI)
open Ls (lowL blk_alloc lV HH hh_keep countN)
open St (Strs)
theorem countH_any (g:Nat) (u:Value) (e z b:Int) (r s:ByteArray) (y:Int) (vo vs:Value) (w:World) (hg:w.heap[g]? = some (wpB u e z b r s y vo vs)) :
  Calls Tryz.prog 91 #[.pointer (some ⟨g,0,none⟩)] w fun q w'=>q=.returned (.int .i64 (countN z b r:Nat))/\Below w.heap.size w w':=by
 have HC:=hideK (fun W=>Ls.count_impl z b r W)
 unfold wpB at hg
 have c2:w.cell? ⟨g,2,none⟩=some (.int .i64 z):=cell_of_row w g 2 _ _ _ hg
 have c3:w.cell? ⟨g,3,none⟩=some (.int .i64 b):=cell_of_row w g 3 _ _ _ hg
 have c4:w.cell? ⟨g,4,none⟩=some (.string r):=cell_of_row w g 4 _ _ _ hg
 clear hg
 unfold Ls.lV at HC
 go_enter Tryz.func91,Tryz.ntmps91
 go_wp2_with fail
 refine(HC.out _).mono ?_
 rintro q w1 ⟨rfl,hb⟩
 have HB:=hideK hb
 clear hb HC
 go_wp2_with fail
 go_ret
 exact⟨rfl,HB.out⟩
def deedC:Array Value:=#[.int .i64 1,.func (.func 121) #[] #[],.int .i64 2,.func (.func 122) #[] #[],.int .i64 3,.func (.func 123) #[] #[],.int .i64 4,.func (.func 124) #[] #[]]
theorem deeds_any (w:World):Calls Tryz.prog 92 #[] w fun e w'=>e=.returned (.slice (some ⟨w.heap.size,0,none⟩) 4 4)/\w'=w.alloc (.cells deedC 147):=by
 go_enter Tryz.func92,Tryz.ntmps92
 go_wp2_with fail
 go_ret
 exact⟨rfl,rfl⟩
theorem KeepH.deeds {W W':World} {g:Nat} (h:KeepH W W') (hg:W.heap[g]? = some (.cells deedC 147 (0,0))):W'.heap[g]? = some (.cells deedC 147 (0,0)):=h.2 g _ hg (fun cs T e=>by
 cases e
 exact⟨by decide,by decide,by decide,by decide⟩)
theorem cell_deed {W:World} {g k:Nat} {v:Value} (h:W.heap[g]? = some (.cells deedC 147 (0,0))) (hk:deedC[k]? = some v):W.cell? ⟨g,k,none⟩=some v:=by
 have:=cell_of_row W g k _ _ _ h
 rw[this]
 exact hk
theorem HrEnd.keep {w W0 W:World} {gw:Nat} {z b:Int} {r:ByteArray} {h:HO} (he:HrEnd w W0 gw z b r h W):KeepH W0 W:=by
 obtain⟨_,_,_,_,_,_,_,_,_,_,_,_,_,_,_,h6,_⟩:=he
 exact h6
theorem HrEnd.call {w W0 W V:World} {gw:Nat} {z b:Int} {r:ByteArray} {h:HO} (he:HrEnd w W0 gw z b r h W) (hb:Below W.heap.size W V):HrEnd w W0 gw z b r h V:=by
 obtain⟨u,e,ao,no,co,as',ns,cs,mo,ms,h1,h2,h3,h4,h5,h6,h7⟩:=he
 exact⟨u,e,ao,no,co,as',ns,cs,mo,ms,(hb.block gw (lt_rowK h1)).trans h1,h2,h3,h4.call hb,lowL h5 hb,h6.trans (KeepH.below hb),h7⟩
def HearI (w W3:World) (gw:Nat) (z b:Int) (r:ByteArray) (D:HO) (k:Int) (jn:Nat) (V:World):Prop :=
 (¬(1<=k/\k<=(jn:Int))/\Below W3.heap.size W3 V)∨((1<=k/\k<=(jn:Int))/\HrEnd w W3 gw z b r D V)
theorem HearI.keep {w W3 V:World} {gw:Nat} {z b:Int} {r:ByteArray} {D:HO} {k:Int} {jn:Nat} (h:HearI w W3 gw z b r D k jn V):KeepH W3 V:=h.elim (fun h=>KeepH.below h.2) (fun h=>h.2.keep)
theorem HearI.call {w W3 V V':World} {gw:Nat} {z b:Int} {r:ByteArray} {D:HO} {k:Int} {jn:Nat} (h:HearI w W3 gw z b r D k jn V) (hb:Below V.heap.size V V'):HearI w W3 gw z b r D k jn V':=h.elim (fun h=>.inl ⟨h.1,lowL h.2 hb⟩) (fun h=>.inr ⟨h.1,h.2.call hb⟩)
theorem HearI.next {w W3 V:World} {gw:Nat} {z b:Int} {r:ByteArray} {D:HO} {k:Int} {jn:Nat} (h:HearI w W3 gw z b r D k jn V) (hk:¬k=(jn:Int)+1):HearI w W3 gw z b r D k (jn+1) V:=h.elim (fun h=>.inl ⟨by omega,h.2⟩) (fun h=>.inr ⟨by omega,h.2⟩)
theorem hear_any (fit fb:Rec->Bool) (w W:World) (gw:Nat) (u:Value) (e z b:Int) (r s:ByteArray) (y:Int) (go n co j:Nat) (mo:List MO) (mr:List MR) (hw:WS w W gw u e z b r s y (.slice (some ⟨go,0,none⟩) n co) (.slice none 0 0) mo [] mr) (hps:PathsO w.heap.size W mr) (hj:j<mo.length) (hrs:recs mr=(allR fit s).1) (hm:mr.length<=1048576) (hn:n<=1048576) (hor:OthR (countN z b r:Nat) mo[j].1) (hsmall:mo[j].1.has.length<=1048575) (k i:Int) (t:ByteArray) (p:List ByteArray) (ap:Option Addr) (cp:Nat) (hcp:p.length<=cp) (hp:Strs w w.heap.size ap p) (hcn:countN z b r<=1048576)
  (hk:keepB fit z b r s y=true) (hsz:s.size<=1048576) (hh:HH w) (hf:FitC fit z b r w) (hff:FitF fit) (ha:FitA fit)
  (hft:∀ V,Below w.heap.size w V->Calls Tryz.prog 138 #[lV z b r,.int .i64 i,.string t,.slice ap p.length cp] V fun q v'=>q=.returned (.bool (fb (i,t,p)))/\Below V.heap.size V v') (hsm:fb (i,t,p)=true->t.size<=8000/\p.length<=400) :
  Calls Tryz.prog 50 #[.pointer (some ⟨gw,0,none⟩),.pointer (some ⟨go,j*5,none⟩),sayV k i t (.slice ap p.length cp)] W fun q w'=>q=.returned (.tuple #[])/\HrEnd w W gw z b r (hearH fit fb (countN z b r) s y (Pe.oths mo) j mo[j].1 k (i,t,p)) w':=by
 have hmx:=mixedK
 have B1:=(Below.refl W.heap.size W).alloc (Nat.le_refl _) (sayO k i t (.slice ap p.length cp))
 have W1S:=hideK (hw.call B1)
 have K1:=hideK (KeepH.below B1)
 have P1:=hideK (hps.keeps (KeepsS.below B1))
 have XB:=hideK (heap_alloc_new W (sayO k i t (.slice ap p.length cp)))
 have HHE:Hid (hearH fit fb (countN z b r) s y (Pe.oths mo) j mo[j].1 k (i,t,p)=if mo[j].1.strikes=3∨¬(0<=i/\i<((countN z b r:Nat):Int)) then ⟨s,y,Pe.oths mo,[]⟩ else deedH fit fb s y (Pe.oths mo) j mo[j].1 k (i,t,p)):=rfl
 have HD0:Hid (¬(1<=k/\k<=4)->deedH fit fb s y (Pe.oths mo) j mo[j].1 k (i,t,p)=⟨s,y,Pe.oths mo,[]⟩):=fun h=>by
  unfold deedH
  rw[if_neg (by omega),if_neg (by omega),if_neg (by omega),if_neg (by omega)]
 have HD1:Hid (k=1->0<=i/\i<((countN z b r:Nat):Int)->∀ V,WS w V gw u e z b r s y (.slice (some ⟨go,0,none⟩) n co) (.slice none 0 0) mo [] mr->PathsO w.heap.size V mr->Calls Tryz.prog 121 #[.pointer (some ⟨gw,0,none⟩),.pointer (some ⟨go,j*5,none⟩),sayV k i t (.slice ap p.length cp)] V fun q w'=>q=.returned (.tuple #[])/\HrEnd w V gw z b r (deedH fit fb s y (Pe.oths mo) j mo[j].1 k (i,t,p)) w'):=fun hk1 hi V hV _=>by
  refine(hearHave_any w V gw u e z b r s y go n co j (.slice none 0 0) mo [] mr hV hj k i t ap p.length cp hor.rs hsmall).mono ?_
  rintro q w' ⟨rfl,h⟩
  refine⟨rfl,?_⟩
  unfold deedH
  rw[if_pos hk1]
  exact h.hrEnd
 have HD2:Hid (k=2->0<=i/\i<((countN z b r:Nat):Int)->∀ V,WS w V gw u e z b r s y (.slice (some ⟨go,0,none⟩) n co) (.slice none 0 0) mo [] mr->PathsO w.heap.size V mr->Calls Tryz.prog 122 #[.pointer (some ⟨gw,0,none⟩),.pointer (some ⟨go,j*5,none⟩),sayV k i t (.slice ap p.length cp)] V fun q w'=>q=.returned (.tuple #[])/\HrEnd w V gw z b r (deedH fit fb s y (Pe.oths mo) j mo[j].1 k (i,t,p)) w'):=fun hk2 hi V hV hP=>by
  refine(hearAsk_any w V gw u e z b r s y go n co j mo mr hV hP hj hm k i t ap p.length cp).mono ?_
  rintro q w' ⟨rfl,h⟩
  refine⟨rfl,?_⟩
  unfold deedH
  rw[if_neg (by omega),if_pos hk2]
  rw[hrs]at h
  exact h
 have HD3:Hid (k=3->0<=i/\i<((countN z b r:Nat):Int)->∀ V,WS w V gw u e z b r s y (.slice (some ⟨go,0,none⟩) n co) (.slice none 0 0) mo [] mr->PathsO w.heap.size V mr->Calls Tryz.prog 123 #[.pointer (some ⟨gw,0,none⟩),.pointer (some ⟨go,j*5,none⟩),sayV k i t (.slice ap p.length cp)] V fun q w'=>q=.returned (.tuple #[])/\HrEnd w V gw z b r (deedH fit fb s y (Pe.oths mo) j mo[j].1 k (i,t,p)) w'):=fun hk3 hi V hV _=>by
  subst hk3
  refine(hearPiece_any fit fb w V gw u e z b r s y go n co j mo mr hV hj hrs hm hn hor.s0 hor.s1 i t p ap cp hcp hp (by omega) hk hsz hh hf hff ha hft hsm).mono ?_
  rintro q w' ⟨rfl,h⟩
  refine⟨rfl,?_⟩
  unfold deedH
  rw[if_neg (by omega),if_neg (by omega),if_pos rfl]
  exact h
 have HD4:Hid (k=4->0<=i/\i<((countN z b r:Nat):Int)->∀ V,WS w V gw u e z b r s y (.slice (some ⟨go,0,none⟩) n co) (.slice none 0 0) mo [] mr->PathsO w.heap.size V mr->Calls Tryz.prog 124 #[.pointer (some ⟨gw,0,none⟩),.pointer (some ⟨go,j*5,none⟩),sayV k i t (.slice ap p.length cp)] V fun q w'=>q=.returned (.tuple #[])/\HrEnd w V gw z b r (deedH fit fb s y (Pe.oths mo) j mo[j].1 k (i,t,p)) w'):=fun hk4 hi V hV _=>by
  subst hk4
  refine(hearNo_any w V gw u e z b r s y go n co j (.slice none 0 0) mo [] mr hV hj i t ap p.length cp (by omega) hor.rs (by omega)).mono ?_
  rintro q w' ⟨rfl,h⟩
  refine⟨rfl,?_⟩
  unfold deedH
  rw[if_neg (by omega),if_neg (by omega),if_neg (by omega),if_pos rfl]
  exact h.hrEnd
 have HCN:=hideK (fun V (hV:Below W.heap.size W V)=>countH_any gw u e z b r s y (.slice (some ⟨go,0,none⟩) n co) (.slice none 0 0) V (hw.call hV).gwb)
 have BB:=hideK B1
 clear hw hps B1 hh hf hff ha hp hk hft hsm hor
 generalize countN z b r=cn at *
 unfold sayV at HD1 HD2 HD3 HD4 ⊢
 unfold sayO at XB W1S K1 P1 BB
 go_enter Tryz.func50,Tryz.ntmps50
 go_upto_region 1 with fail
 generalize W.alloc (.cells #[.int .i64 k,.int .i64 i,.string t,.slice ap p.length cp] 51)=W1 at W1S K1 XB P1 BB ⊢
 generalize W.heap.size=gm at XB ⊢
 obtain⟨x0,x1,x2,x3⟩:=cells4 XB.out
 have gx1:=fun d os=>cell_regrown x1 d os
 obtain⟨⟨c0,c1,c2,c3,c4⟩,_,ax,cx,hxv,_⟩:=W1S.out.five hj
 rw[hxv]at c1
 have g0:=fun d os=>cell_regrown c0 d os
 have g1:=fun d os=>cell_regrown c1 d os
 have g2:=fun d os=>cell_regrown c2 d os
 have g3:=fun d os=>cell_regrown c3 d os
 have g4:=fun d os=>cell_regrown c4 d os
 have HBA:=hideK (fun V=>banned_any mo[j].1.name ax mo[j].1.has.length cx mo[j].1.asked mo[j].1.age mo[j].1.strikes V)
 have HCN1:=hideK (fun V (hV:Below W1.heap.size W1 V)=>HCN.out V (lowL BB.out hV))
 have HQ:Hid (∀ d os,WS w (Go.Sort.grow (redrawn W1 d) os) gw u e z b r s y (.slice (some ⟨go,0,none⟩) n co) (.slice none 0 0) mo [] mr/\KeepH W (Go.Sort.grow (redrawn W1 d) os)/\PathsO w.heap.size (Go.Sort.grow (redrawn W1 d) os) mr/\(Go.Sort.grow (redrawn W1 d) os).heap[gm]? = some (.cells #[.int .i64 k,.int .i64 i,.string t,.slice ap p.length cp] 51 (0,0))):=fun d os =>
  ⟨W1S.out.call (below_regrown W1 d os),K1.out.trans (KeepH.below (below_regrown W1 d os)),P1.out.keeps (KeepsS.below (below_regrown W1 d os)),((below_regrown W1 d os).block gm (lt_rowK XB.out)).trans XB.out⟩
 have HSTR:Hid (∀ V,WS w V gw u e z b r s y (.slice (some ⟨go,0,none⟩) n co) (.slice none 0 0) mo [] mr->KeepH W V->mo[j].1.strikes=3∨¬(0<=i/\i<(cn:Int))->HrEnd w W gw z b r (hearH fit fb cn s y (Pe.oths mo) j mo[j].1 k (i,t,p)) V):=fun V h1 h2 h3=>by
  rw[HHE.out,if_pos h3]
  exact h1.hrEnd h2
 clear W1S K1 P1 XB BB HCN hxv x0 x1 x2 x3 c0 c1 c2 c3 c4
 generalize mo[j].1.name=nm at g0 HBA
 generalize mo[j].1.has.length=hl at g1 HBA
 generalize mo[j].1.asked=qa at g2 HBA
 generalize mo[j].1.age=ga at g3 HBA
 generalize hst:mo[j].1.strikes=st at g4 HBA HSTR HHE
 clear hst
 by_cases h3:st=3
 ·have hb3:(st==3)=true:=beq_iff_eq.2 h3
  rw[hb3]at HBA
  have H3:=hideK h3
  clear h3 hb3
  refine wp_region_quiet_below (by assumption) (by kernel_rfl) ?_
  repeat (go_big_quiet_step ((first|(go_at_call 90;exact Calls.regrown_of (HBA.out _))|(go_at_call 91;exact Calls.regrown_of (HCN1.out _ (below_regrown _ _ _))))))
  refine wpQuiet_nil ?_
  intro _ hw'
  obtain⟨⟨dq,osq⟩,hw''⟩:=hw'
  subst hw''
  have HE:=hideK (HSTR.out _ (HQ.out dq osq).1 (HQ.out dq osq).2.1 (.inl H3.out))
  generalize Go.Sort.grow (redrawn W1 dq) osq=V8 at HE ⊢
  clear gx1 g0 g1 g2 g3 g4 HSTR HQ HBA HCN1 HD0 HD1 HD2 HD3 HD4 HHE
  go_wp2_with fail
  exact bodyPost_ret (results_none rfl _ _ _) rfl ⟨rfl,HE.out⟩
 have hb3:(st==3)=false:=by simp[h3]
 rw[hb3]at HBA
 by_cases hi0:i<0
 ·have hi0b:decide (i<(0:Int))=true:=by simp;exact hi0
  refine wp_region_quiet_below (by assumption) (by kernel_rfl) ?_
  repeat (go_big_quiet_step ((first|(go_at_call 90;exact Calls.regrown_of (HBA.out _))|(go_at_call 91;exact Calls.regrown_of (HCN1.out _ (below_regrown _ _ _))))))
  refine wpQuiet_nil ?_
  intro _ hw'
  obtain⟨⟨dq,osq⟩,hw''⟩:=hw'
  subst hw''
  have HE:=hideK (HSTR.out _ (HQ.out dq osq).1 (HQ.out dq osq).2.1 (.inr (by omega)))
  generalize Go.Sort.grow (redrawn W1 dq) osq=V8 at HE ⊢
  clear gx1 g0 g1 g2 g3 g4 HSTR HQ HBA HCN1 HD0 HD1 HD2 HD3 HD4 HHE
  go_wp2_with fail
  exact bodyPost_ret (results_none rfl _ _ _) rfl ⟨rfl,HE.out⟩
 have hi0b:decide (i<(0:Int))=false:=by simp;omega
 by_cases hi1:(cn:Int)<=i
 ·have hi1b:decide ((cn:Int)<=i)=true:=by simp;exact hi1
  refine wp_region_quiet_below (by assumption) (by kernel_rfl) ?_
  repeat (go_big_quiet_step ((first|(go_at_call 90;exact Calls.regrown_of (HBA.out _))|(go_at_call 91;exact Calls.regrown_of (HCN1.out _ (below_regrown _ _ _))))))
  refine wpQuiet_nil ?_
  intro _ hw'
  obtain⟨⟨dq,osq⟩,hw''⟩:=hw'
  subst hw''
  have HE:=hideK (HSTR.out _ (HQ.out dq osq).1 (HQ.out dq osq).2.1 (.inr (by omega)))
  generalize Go.Sort.grow (redrawn W1 dq) osq=V8 at HE ⊢
  clear gx1 g0 g1 g2 g3 g4 HSTR HQ HBA HCN1 HD0 HD1 HD2 HD3 HD4 HHE
  go_wp2_with fail
  exact bodyPost_ret (results_none rfl _ _ _) rfl ⟨rfl,HE.out⟩
 have hi1b:decide ((cn:Int)<=i)=false:=by simp;omega
 refine wp_region_quiet_below (by assumption) (by kernel_rfl) ?_
 repeat (go_big_quiet_step ((first|(go_at_call 90;exact Calls.regrown_of (HBA.out _))|(go_at_call 91;exact Calls.regrown_of (HCN1.out _ (below_regrown _ _ _))))))
 refine wpQuiet_nil ?_
 intro _ hw'
 obtain⟨⟨dq,osq⟩,hw''⟩:=hw'
 subst hw''
 have Q2:=hideK (HQ.out dq osq)
 generalize Go.Sort.grow (redrawn W1 dq) osq=W2 at Q2 ⊢
 have hiR:0<=i/\i<(cn:Int):=by omega
 rw[if_neg (by rintro (h|h)<;>omega)]at HHE
 clear gx1 g0 g1 g2 g3 g4 HSTR HQ HBA HCN1 hb3 hi0b hi1b
 have HDS:=hideK (fun V=>deeds_any V)
 go_wp2_with fail
 refine(HDS.out W2).mono ?_
 rintro q w3 ⟨rfl,hw3⟩
 have B3:Hid (Below W2.heap.size W2 w3):=by rw[hw3];exact(Below.refl _ _).alloc (Nat.le_refl _) _
 have X3:Hid (w3.heap[W2.heap.size]? = some (.cells deedC 147 (0,0))):=by rw[hw3];exact heap_alloc_new W2 _
 generalize hgd:W2.heap.size=gd at X3 ⊢
 clear hgd hw3 HDS
 have W3S:=hideK (Q2.out.1.call B3.out)
 have P3:=hideK (Q2.out.2.2.1.keeps (KeepsS.below B3.out))
 have M3:=hideK ((B3.out.block gm (lt_rowK Q2.out.2.2.2)).trans Q2.out.2.2.2)
 have K3:=hideK (Q2.out.2.1.trans (KeepH.below B3.out))
 have HE1:=hideK (fun (h:k=1) V (hV:Below w3.heap.size w3 V)=>HD1.out h hiR V (W3S.out.call hV) (P3.out.keeps (KeepsS.below hV)))
 have HE2:=hideK (fun (h:k=2) V (hV:Below w3.heap.size w3 V)=>HD2.out h hiR V (W3S.out.call hV) (P3.out.keeps (KeepsS.below hV)))
 have HE3:=hideK (fun (h:k=3) V (hV:Below w3.heap.size w3 V)=>HD3.out h hiR V (W3S.out.call hV) (P3.out.keeps (KeepsS.below hV)))
 have HE4:=hideK (fun (h:k=4) V (hV:Below w3.heap.size w3 V)=>HD4.out h hiR V (W3S.out.call hV) (P3.out.keeps (KeepsS.below hV)))
 have HEND:Hid (∀ V,HearI w w3 gw z b r (deedH fit fb s y (Pe.oths mo) j mo[j].1 k (i,t,p)) k 4 V->HrEnd w W gw z b r (hearH fit fb cn s y (Pe.oths mo) j mo[j].1 k (i,t,p)) V):=fun V h=>by
  rw[HHE.out]
  rcases h with⟨h1,h2⟩|⟨_,h2⟩
  ·rw[HD0.out h1]
   exact(W3S.out.call h2).hrEnd (K3.out.trans (KeepH.below h2))
  ·exact HrEnd.from K3.out h2
 clear Q2 B3 HD0 HD1 HD2 HD3 HD4 HHE W3S P3 K3
 generalize deedH fit fb s y (Pe.oths mo) j mo[j].1 k (i,t,p)=DH at HE1 HE2 HE3 HE4 HEND
 go_wp2_with fail
 go_loopw [26,7] (fun jv _ wr=>∃ jn:Nat,jv=.int .i64 jn/\jn<=4/\HearI w w3 gw z b r DH k jn wr) (fun jv _ _=>4-(intOf jv).toNat)
 case atStart=>exact⟨0,rfl,by omega,.inl ⟨by omega,Below.refl _ _⟩⟩
 case round =>
  obtain⟨jn,rfl,hjn,hi⟩:=hrel
  have HI:=hideK hi
  have XD:=hideK (hi.keep.deeds X3.out)
  have XM:=hideK (hi.keep.say (k:=k) (i:=i) (t:=t) (v:=.slice ap p.length cp) M3.out)
  unfold sayO at XM
  clear hi
  by_cases hlt:jn<4
  ·have hlt':(jn:Int)<4:=by omega
   obtain rfl|rfl|rfl|rfl:jn=0∨jn=1∨jn=2∨jn=3:=by omega
   ·have dk:wr.cell? ⟨gd,0,none⟩=some (.int .i64 1):=cell_deed XD.out rfl
    have df:wr.cell? ⟨gd,1,none⟩=some (.func (.func 121) #[] #[]):=cell_deed XD.out rfl
    have V1B:=hideK ((Below.refl wr.heap.size wr).alloc (Nat.le_refl _) (.cells #[.int .i64 1,.func (.func 121) #[] #[]] 147))
    have V1X:=hideK (heap_alloc_new wr (.cells #[.int .i64 1,.func (.func 121) #[] #[]] 147))
    have V1I:=hideK (HI.out.call V1B.out)
    have V1M:=hideK ((V1B.out.block gm (lt_rowK XM.out)).trans XM.out)
    clear HI XD XM
    go_upto_region 5 with fail
    generalize wr.alloc (.cells #[.int .i64 1,.func (.func 121) #[] #[]] 147)=V1 at V1B V1X V1I V1M ⊢
    clear dk df V1B
    have dk:V1.cell? ⟨wr.heap.size,0,none⟩=some (.int .i64 1):=cell_of_row V1 _ 0 _ _ _ V1X.out
    have df:V1.cell? ⟨wr.heap.size,1,none⟩=some (.func (.func 121) #[] #[]):=cell_of_row V1 _ 1 _ _ _ V1X.out
    obtain⟨x0,x1,x2,x3⟩:=cells4 V1M.out
    by_cases hk:k=1
    ·have hkb:((1:Int)==k)=true:=by simp[hk]
     have HV:Hid (Below w3.heap.size w3 V1):=by
      rcases V1I.out with h|h
      ·exact h.2
      ·exact absurd h.1 (by omega)
     have HEV:=hideK (HE1.out hk V1 HV.out)
     have HNX:Hid (∀ V2,HrEnd w V1 gw z b r DH V2->HearI w w3 gw z b r DH k 1 V2):=fun V2 h=>.inr ⟨by omega,HrEnd.from (KeepH.below HV.out) h⟩
     clear V1I V1X V1M HV hk
     go_wp2_with fail
     refine HEV.out.mono ?_
     rintro q8 v8 ⟨rfl,h8⟩
     have N8:=hideK (HNX.out v8 h8)
     clear h8 HNX HEV
     go_wp2_with fail
     go_roundw
     case rel=>exact⟨1,by rfl,by omega,N8.out⟩
     case measure=>simp[intOf]
    ·have hkb:((1:Int)==k)=false:=by simp;exact fun h=>hk h.symm
     have N8:Hid (HearI w w3 gw z b r DH k 1 V1):=V1I.out.next (by omega)
     clear V1I V1X V1M hk
     go_wp2_with fail
     go_roundw
     case rel=>exact⟨1,by rfl,by omega,N8.out⟩
     case measure=>simp[intOf]
   ·have dk:wr.cell? ⟨gd,2,none⟩=some (.int .i64 2):=cell_deed XD.out rfl
    have df:wr.cell? ⟨gd,3,none⟩=some (.func (.func 122) #[] #[]):=cell_deed XD.out rfl
    have V1B:=hideK ((Below.refl wr.heap.size wr).alloc (Nat.le_refl _) (.cells #[.int .i64 2,.func (.func 122) #[] #[]] 147))
    have V1X:=hideK (heap_alloc_new wr (.cells #[.int .i64 2,.func (.func 122) #[] #[]] 147))
    have V1I:=hideK (HI.out.call V1B.out)
    have V1M:=hideK ((V1B.out.block gm (lt_rowK XM.out)).trans XM.out)
    clear HI XD XM
    go_upto_region 5 with fail
    generalize wr.alloc (.cells #[.int .i64 2,.func (.func 122) #[] #[]] 147)=V1 at V1B V1X V1I V1M ⊢
    clear dk df V1B
    have dk:V1.cell? ⟨wr.heap.size,0,none⟩=some (.int .i64 2):=cell_of_row V1 _ 0 _ _ _ V1X.out
    have df:V1.cell? ⟨wr.heap.size,1,none⟩=some (.func (.func 122) #[] #[]):=cell_of_row V1 _ 1 _ _ _ V1X.out
    obtain⟨x0,x1,x2,x3⟩:=cells4 V1M.out
    by_cases hk:k=2
    ·have hkb:((2:Int)==k)=true:=by simp[hk]
     have HV:Hid (Below w3.heap.size w3 V1):=by
      rcases V1I.out with h|h
      ·exact h.2
      ·exact absurd h.1 (by omega)
     have HEV:=hideK (HE2.out hk V1 HV.out)
     have HNX:Hid (∀ V2,HrEnd w V1 gw z b r DH V2->HearI w w3 gw z b r DH k 2 V2):=fun V2 h=>.inr ⟨by omega,HrEnd.from (KeepH.below HV.out) h⟩
     clear V1I V1X V1M HV hk
     go_wp2_with fail
     refine HEV.out.mono ?_
     rintro q8 v8 ⟨rfl,h8⟩
     have N8:=hideK (HNX.out v8 h8)
     clear h8 HNX HEV
     go_wp2_with fail
     go_roundw
     case rel=>exact⟨2,by rfl,by omega,N8.out⟩
     case measure=>simp[intOf]
    ·have hkb:((2:Int)==k)=false:=by simp;exact fun h=>hk h.symm
     have N8:Hid (HearI w w3 gw z b r DH k 2 V1):=V1I.out.next (by omega)
     clear V1I V1X V1M hk
     go_wp2_with fail
     go_roundw
     case rel=>exact⟨2,by rfl,by omega,N8.out⟩
     case measure=>simp[intOf]
   ·have dk:wr.cell? ⟨gd,4,none⟩=some (.int .i64 3):=cell_deed XD.out rfl
    have df:wr.cell? ⟨gd,5,none⟩=some (.func (.func 123) #[] #[]):=cell_deed XD.out rfl
    have V1B:=hideK ((Below.refl wr.heap.size wr).alloc (Nat.le_refl _) (.cells #[.int .i64 3,.func (.func 123) #[] #[]] 147))
    have V1X:=hideK (heap_alloc_new wr (.cells #[.int .i64 3,.func (.func 123) #[] #[]] 147))
    have V1I:=hideK (HI.out.call V1B.out)
    have V1M:=hideK ((V1B.out.block gm (lt_rowK XM.out)).trans XM.out)
    clear HI XD XM
    go_upto_region 5 with fail
    generalize wr.alloc (.cells #[.int .i64 3,.func (.func 123) #[] #[]] 147)=V1 at V1B V1X V1I V1M ⊢
    clear dk df V1B
    have dk:V1.cell? ⟨wr.heap.size,0,none⟩=some (.int .i64 3):=cell_of_row V1 _ 0 _ _ _ V1X.out
    have df:V1.cell? ⟨wr.heap.size,1,none⟩=some (.func (.func 123) #[] #[]):=cell_of_row V1 _ 1 _ _ _ V1X.out
    obtain⟨x0,x1,x2,x3⟩:=cells4 V1M.out
    by_cases hk:k=3
    ·have hkb:((3:Int)==k)=true:=by simp[hk]
     have HV:Hid (Below w3.heap.size w3 V1):=by
      rcases V1I.out with h|h
      ·exact h.2
      ·exact absurd h.1 (by omega)
     have HEV:=hideK (HE3.out hk V1 HV.out)
     have HNX:Hid (∀ V2,HrEnd w V1 gw z b r DH V2->HearI w w3 gw z b r DH k 3 V2):=fun V2 h=>.inr ⟨by omega,HrEnd.from (KeepH.below HV.out) h⟩
     clear V1I V1X V1M HV hk
     go_wp2_with fail
     refine HEV.out.mono ?_
     rintro q8 v8 ⟨rfl,h8⟩
     have N8:=hideK (HNX.out v8 h8)
     clear h8 HNX HEV
     go_wp2_with fail
     go_roundw
     case rel=>exact⟨3,by rfl,by omega,N8.out⟩
     case measure=>simp[intOf]
    ·have hkb:((3:Int)==k)=false:=by simp;exact fun h=>hk h.symm
     have N8:Hid (HearI w w3 gw z b r DH k 3 V1):=V1I.out.next (by omega)
     clear V1I V1X V1M hk
     go_wp2_with fail
     go_roundw
     case rel=>exact⟨3,by rfl,by omega,N8.out⟩
     case measure=>simp[intOf]
   ·have dk:wr.cell? ⟨gd,6,none⟩=some (.int .i64 4):=cell_deed XD.out rfl
    have df:wr.cell? ⟨gd,7,none⟩=some (.func (.func 124) #[] #[]):=cell_deed XD.out rfl
    have V1B:=hideK ((Below.refl wr.heap.size wr).alloc (Nat.le_refl _) (.cells #[.int .i64 4,.func (.func 124) #[] #[]] 147))
    have V1X:=hideK (heap_alloc_new wr (.cells #[.int .i64 4,.func (.func 124) #[] #[]] 147))
    have V1I:=hideK (HI.out.call V1B.out)
    have V1M:=hideK ((V1B.out.block gm (lt_rowK XM.out)).trans XM.out)
    clear HI XD XM
    go_upto_region 5 with fail
    generalize wr.alloc (.cells #[.int .i64 4,.func (.func 124) #[] #[]] 147)=V1 at V1B V1X V1I V1M ⊢
    clear dk df V1B
    have dk:V1.cell? ⟨wr.heap.size,0,none⟩=some (.int .i64 4):=cell_of_row V1 _ 0 _ _ _ V1X.out
    have df:V1.cell? ⟨wr.heap.size,1,none⟩=some (.func (.func 124) #[] #[]):=cell_of_row V1 _ 1 _ _ _ V1X.out
    obtain⟨x0,x1,x2,x3⟩:=cells4 V1M.out
    by_cases hk:k=4
    ·have hkb:((4:Int)==k)=true:=by simp[hk]
     have HV:Hid (Below w3.heap.size w3 V1):=by
      rcases V1I.out with h|h
      ·exact h.2
      ·exact absurd h.1 (by omega)
     have HEV:=hideK (HE4.out hk V1 HV.out)
     have HNX:Hid (∀ V2,HrEnd w V1 gw z b r DH V2->HearI w w3 gw z b r DH k 4 V2):=fun V2 h=>.inr ⟨by omega,HrEnd.from (KeepH.below HV.out) h⟩
     clear V1I V1X V1M HV hk
     go_wp2_with fail
     refine HEV.out.mono ?_
     rintro q8 v8 ⟨rfl,h8⟩
     have N8:=hideK (HNX.out v8 h8)
     clear h8 HNX HEV
     go_wp2_with fail
     go_roundw
     case rel=>exact⟨4,by rfl,by omega,N8.out⟩
     case measure=>simp[intOf]
    ·have hkb:((4:Int)==k)=false:=by simp;exact fun h=>hk h.symm
     have N8:Hid (HearI w w3 gw z b r DH k 4 V1):=V1I.out.next (by omega)
     clear V1I V1X V1M hk
     go_wp2_with fail
     go_roundw
     case rel=>exact⟨4,by rfl,by omega,N8.out⟩
     case measure=>simp[intOf]
  ·obtain rfl:jn=4:=by omega
   have HE:=hideK (HEND.out _ HI.out)
   clear HI HEND XD XM HE1 HE2 HE3 HE4
   go_wp2_with fail
   refine bodyPost_end (v:=.tuple #[]) (by simp[results,Tryz.results50,go_sem]) rfl ⟨rfl,?_⟩
   exact HE.out
end Go.Proofs.YtpddanmnlkcdpaaGreatDoor.Tk


namespace Go.Proofs.YtpddanmnlkcdpaaGreatDoor.Tk
open Go.RowKit
open Kp
open Pe
open Pl
open Pm
open Hr
open In (Ints OwnI)
open Ls (lowL blk_alloc lV HH hh_keep countN countN_le)
open St (Strs)
theorem has_pos {m:List MO} {nm:ByteArray} (hr:Ris m) (h:hasN (Pe.oths m) nm=true):∃ hp:posN (Pe.oths m) nm<m.length,m[posN (Pe.oths m) nm].1.name=nm:=by
 have h0:=h
 unfold hasN at h
 rw[List.any_eq_true]at h
 obtain⟨o,ho,he⟩:=h
 obtain⟨x,hx,rfl⟩:=List.mem_map.1 ho
 obtain⟨t,ht,rfl⟩:=List.getElem_of_mem hx
 have he':m[t].1.name=nm:=by simpa using he
 have hz:=atZ_here hr ht he'
 unfold atZ at hz
 rw[if_pos h0]at hz
 have:posN (Pe.oths m) nm=t:=by omega
 subst this
 exact⟨ht,he'⟩
theorem oths_getD (m:List MO) (j:Nat) (h:j<m.length):(Pe.oths m).getD j zO=m[j].1:=by
 unfold Pe.oths
 rw[List.getD_eq_getElem?_getD,List.getElem?_map,List.getElem?_eq_getElem h]
 rfl
theorem hear_impl (fit fb:Rec->Bool) (z b:Int) (r s:ByteArray) (y:Int) (a:Option Addr) (n cap:Nat) (m:List MO) (nm:ByteArray) (k i:Int) (t:ByteArray) (p:List ByteArray) (ap:Option Addr) (cp:Nat) (w:World) (hs:s.size<=1048576) (hh:HH w) (hf:FitC fit z b r w) (hff:FitF fit) (ha:FitA fit)
  (hft:∀ V,Below w.heap.size w V->Calls Tryz.prog 138 #[lV z b r,.int .i64 i,.string t,.slice ap p.length cp] V fun q v'=>q=.returned (.bool (fb (i,t,p)))/\Below V.heap.size V v') (hfs:fb (i,t,p)=true->t.size<=8000/\p.length<=400)
  (h:Oths w w.heap.size a m) (hm:m.length=n) (hn:n<=1048576) (hsm:Small m) (hcp:p.length<=cp) (hp:Strs w w.heap.size ap p) :
  Calls Tryz.prog 18 #[peerV z b r s y (.slice a n cap),.string nm,sayV k i t (.slice ap p.length cp)] w fun e w'=>OwnPF w' w.heap.size e (hearP fit fb z b r s y (oths m) nm k (i,t,p))/\Below w.heap.size w w':=by
 have C0:=hideK ((((Cx.nil w).new (peerO z b r s y (.slice a n cap))).new (sayO k i t (.slice ap p.length cp))).new (poO 0 0 ⟨#[]⟩ ⟨#[]⟩ 0 (.slice none 0 0) (.slice none 0 0) 0))
 simp only[World.size_alloc]at C0
 have HO:=hideK (fun W (hW:Below w.heap.size w W)=>openPeer_impl fit z b r s y a n cap m W hs (hh_keep hh hW) (hf.later hW) ((h.below hW).mono hW.size) hm hn hsm)
 have HP:Hid (∀ q,hearP fit fb z b r s y (oths m) nm k (i,t,p)=q->∀ W e,OwnPF W w.heap.size e q->OwnPF W w.heap.size e (hearP fit fb z b r s y (oths m) nm k (i,t,p))):=fun q hq W e h=>by rw[hq];exact h
 have HB2:Hid (8000<nm.size->hearP fit fb z b r s y (oths m) nm k (i,t,p)=ill 2):=fun h1=>by unfold hearP;rw[if_pos h1]
 have HB1:Hid (¬8000<nm.size->peerB fit z b r s y (oths m)=false->hearP fit fb z b r s y (oths m) nm k (i,t,p)=ill 1):=fun h1 h2=>by unfold hearP;rw[if_neg h1,if_pos h2]
 have HB6:Hid (¬8000<nm.size->peerB fit z b r s y (oths m)=true->hasN (oths m) nm=false->hearP fit fb z b r s y (oths m) nm k (i,t,p)=ill 6):=fun h1 h2 h3=>by unfold hearP;rw[if_neg h1,if_neg (by rw[h2];decide),if_pos h3]
 have HB0:Hid (¬8000<nm.size->peerB fit z b r s y (oths m)=true->hasN (oths m) nm=true->∀ o,(oths m).getD (posN (oths m) nm) zO=o->hearP fit fb z b r s y (oths m) nm k (i,t,p)=⟨z,b,r,(hearH fit fb (countN z b r) s y (oths m) (posN (oths m) nm) o k (i,t,p)).s,(hearH fit fb (countN z b r) s y (oths m) (posN (oths m) nm) o k (i,t,p)).y,(hearH fit fb (countN z b r) s y (oths m) (posN (oths m) nm) o k (i,t,p)).os,(hearH fit fb (countN z b r) s y (oths m) (posN (oths m) nm) o k (i,t,p)).ss,0⟩):=fun h1 h2 h3 o ho=>by unfold hearP;rw[if_neg h1,if_neg (by rw[h2];decide),if_neg (by rw[h3];decide),ho]
 have HRL:Hid ((allR fit s).1.length<=1048576):=rec_len fit s hs
 have HMN:=hideK hm
 have HSM:=hideK hsm
 have HHE:=hideK (fun (W:World) (gw:Nat) (u:Value) (e:Int) (go co:Nat) (mo:List MO) (mr:List MR) (j:Nat) (hw:WS w W gw u e z b r s y (.slice (some ⟨go,0,none⟩) n co) (.slice none 0 0) mo [] mr) (hps:PathsO w.heap.size W mr) (hj:j<mo.length) (hrs:recs mr=(allR fit s).1) (hm':mr.length<=1048576) (hor:OthR (countN z b r:Nat) mo[j].1) (hsmall:mo[j].1.has.length<=1048575) (hk:keepB fit z b r s y=true)=>hear_any fit fb w W gw u e z b r s y go n co j mo mr hw hps hj hrs hm' hn hor hsmall k i t p ap cp hcp hp (by have:=countN_le z b r;omega) hk hs hh hf hff ha hft hfs)
 clear hh hf h hsm hm hff ha hft hfs hp
 unfold peerV at HO ⊢
 unfold sayV at HHE ⊢
 unfold peerO poO sayO at C0
 by_cases hbig:8000<nm.size
 ·have hbI:(8000:Int)<(nm.size:Int):=by omega
  have hbD:decide ((8000:Int)<(nm.size:Int))=true:=by simp;omega
  have HR:=hideK (HP.out _ (HB2.out hbig))
  clear HP HB2 HO HB1 HB6 HB0 HRL HMN HHE
  go_enter Tryz.func18,Tryz.ntmps18
  go_upto_region 1 with fail
  generalize hgk:w.heap.size=gk at C0 ⊢
  have HGK:=hideK hgk
  clear hgk
  generalize ((w.alloc _).alloc _).alloc _=W0 at C0 ⊢
  obtain⟨q0,q1,q2,q3,q4,q5,q6,q7⟩:=cellsP8 (C0.out.get 0 rfl)
  have ff:=fun o=>frozen_of_row W0 (gk+1+1) o _ _ (C0.out.get 0 rfl)
  have s8:=cellsP8 (setP8 (C0.out.get 0 rfl) (.int .i64 0) (.int .i64 0) (.string ⟨#[]⟩) (.string ⟨#[]⟩) (.int .i64 0) (.slice none 0 0) (.slice none 0 0) (.int .i64 2))
  have E8:=hideK (setP8_low C0.out.low (g:=gk+1+1) (by have:=HGK.out;omega) (.int .i64 0) (.int .i64 0) (.string ⟨#[]⟩) (.string ⟨#[]⟩) (.int .i64 0) (.slice none 0 0) (.slice none 0 0) (.int .i64 2))
  go_wp2_with fail
  exact bodyPost_ret (v:=.agg #[.int .i64 0,.int .i64 0,.string ⟨#[]⟩,.string ⟨#[]⟩,.int .i64 0,.slice none 0 0,.slice none 0 0,.int .i64 2]) (by simp[results,Tryz.results18,go_sem,s8.1,s8.2.1,s8.2.2.1,s8.2.2.2.1,s8.2.2.2.2.1,s8.2.2.2.2.2.1,s8.2.2.2.2.2.2.1,s8.2.2.2.2.2.2.2]) rfl ⟨HR.out _ _ (own_illF _ _ 2),E8.out⟩
 ·have hbI:¬(8000:Int)<(nm.size:Int):=by omega
  have hbD:decide ((8000:Int)<(nm.size:Int))=false:=by simp;omega
  go_enter Tryz.func18,Tryz.ntmps18
  go_wp2_with fail
  generalize hgk:w.heap.size=gk at C0 ⊢
  have HGK:=hideK hgk
  clear hgk
  generalize ((w.alloc _).alloc _).alloc _=W0 at C0 ⊢
  refine(HO.out _ C0.out.low).mono ?_
  rintro e w1 ⟨⟨hP,v,vo,mr,mo,rfl,hop⟩|⟨hP,rfl⟩,hb⟩
  ·obtain⟨a0,cap0,hv⟩:=hop.row.one
   subst hv
   obtain⟨ao,co,hvo,_,_⟩:=hop.orow.one
   have HMO:Hid (mo.length=n):=by unfold Hid;rw[<-oths_length,hop.os,oths_length,HMN.out]
   rw[HMO.out]at hvo
   subst hvo
   have C1:=hideK ((C0.out.call hb).new (wpB (.slice a0 mr.length cap0) ((allR fit s).2:Nat) z b r s y (.slice ao n co) (.slice none 0 0)))
   have OP:=hideK (((hop.lower C0.out.low.size).call ((Below.refl _ _).alloc (Nat.le_refl _) (wpB (.slice a0 mr.length cap0) ((allR fit s).2:Nat) z b r s y (.slice ao n co) (.slice none 0 0)))))
   have hz0:=C0.out.low.size
   have hz1:=hb.size
   clear hb hop C0 HO
   unfold wpB at C1 OP
   go_upto_region 4 with fail
   have hzA:w1.heap.size<(w1.alloc (.cells #[.slice a0 mr.length cap0,.int .i64 ((allR fit s).2:Nat),.int .i64 z,.int .i64 b,.string r,.string s,.int .i64 y,.slice ao n co,.slice none 0 0] 78)).heap.size:=by rw[World.size_alloc];omega
   generalize w1.alloc _=W1 at C1 OP hzA ⊢
   generalize hgw:w1.heap.size=gw at C1 hzA ⊢
   have HGW:Hid (w.heap.size<=gw):=by unfold Hid;omega
   clear hgw hzA hz0 hz1
   have hkB:keepB fit z b r s y=true:=by unfold peerB at hP;simp only[Bool.and_eq_true]at hP;exact hP.1
   obtain⟨hl4,hothr⟩:=peer_oths hP
   have hri:Ris mo:=ris_of (c:=(countN z b r:Nat)) (by rw[OP.out.os];unfold peerB at hP;simp only[Bool.and_eq_true]at hP;exact hP.2)
   have h4:n<=4:=by rw[oths_length,HMN.out]at hl4;exact hl4
   have HPL1:=hideK (place_any gw _ _ _ _ _ _ _ _ ao n co mo nm W1 (C1.out.get 0 rfl) (MadeO.oths (n:=n) (m:=mo) ⟨rfl,OP.out.orow,OP.out.has,OP.out.ap⟩).1 HMO.out hn hri)
   rw[OP.out.os]at HPL1
   have HHP:=hideK (fun hq=>has_pos (nm:=nm) hri hq)
   rw[OP.out.os]at HHP
   have HOR:=hideK hothr
   have HKB:=hideK hkB
   have HPP:=hideK hP
   clear hri hl4 hothr hkB hP
   go_wp2_with fail
   refine HPL1.out.mono ?_
   rintro e w3 ⟨rfl,hb⟩
   have C3:=hideK (C1.out.call hb)
   have OP3:=hideK (OP.out.call hb)
   clear hb C1 OP HPL1
   cases hhas:hasN (oths m) nm with
   |false =>
    have HR:=hideK (HP.out _ (HB6.out hbig HPP.out hhas))
    clear HP HB2 HB1 HB6 HB0 HRL HMN HMO OP3 HPP HHP HOR HKB HHE hhas
    obtain⟨q0,q1,q2,q3,q4,q5,q6,q7⟩:=cellsP8 (C3.out.get 1 rfl)
    have ff:=fun o=>frozen_of_row w3 (gk+1+1) o _ _ (C3.out.get 1 rfl)
    have s8:=cellsP8 (setP8 (C3.out.get 1 rfl) (.int .i64 0) (.int .i64 0) (.string ⟨#[]⟩) (.string ⟨#[]⟩) (.int .i64 0) (.slice none 0 0) (.slice none 0 0) (.int .i64 6))
    have E8:=hideK (setP8_low C3.out.low (g:=gk+1+1) (by have:=HGK.out;omega) (.int .i64 0) (.int .i64 0) (.string ⟨#[]⟩) (.string ⟨#[]⟩) (.int .i64 0) (.slice none 0 0) (.slice none 0 0) (.int .i64 6))
    go_wp2_with fail
    exact bodyPost_ret (v:=.agg #[.int .i64 0,.int .i64 0,.string ⟨#[]⟩,.string ⟨#[]⟩,.int .i64 0,.slice none 0 0,.slice none 0 0,.int .i64 6]) (by simp[results,Tryz.results18,go_sem,s8.1,s8.2.1,s8.2.2.1,s8.2.2.2.1,s8.2.2.2.2.1,s8.2.2.2.2.2.1,s8.2.2.2.2.2.2.1,s8.2.2.2.2.2.2.2]) rfl ⟨HR.out _ _ (own_illF _ _ 6),E8.out⟩
   |true =>
    obtain⟨hpn,hnq⟩:=HHP.out hhas
    have HR:=hideK (HP.out _ (HB0.out hbig HPP.out hhas mo[posN (oths m) nm].1 ((congrArg (fun l=>l.getD (posN (oths m) nm) zO) OP3.out.os.symm).trans (oths_getD mo _ hpn))))
    obtain⟨go,cp2,hv2,_,hgz,_,_⟩:=OP3.out.orow.cells (by omega)
    obtain⟨rfl,rfl⟩:ao=some ⟨go,0,none⟩/\co=cp2:=by simp at hv2;exact⟨hv2.1,hv2.2.2⟩
    have HWS:Hid (WS w w3 gw (.slice a0 mr.length cap0) ((allR fit s).2:Nat) z b r s y (.slice (some ⟨go,0,none⟩) n co) (.slice none 0 0) mo [] mr):=⟨C3.out.low,HGW.out,by unfold wpB;exact C3.out.get 0 rfl,OP3.out.orow,OP3.out.has,OP3.out.ap,OwnL.nil _ _,fun _ hx=>absurd hx List.not_mem_nil,OP3.out.row,OP3.out.ps.slices⟩
    have hom:mo[posN (oths m) nm].1∈oths m:=(congrArg (fun l=>mo[posN (oths m) nm].1∈l) OP3.out.os).mp (List.mem_map_of_mem (List.getElem_mem hpn))
    have hoR:=HOR.out _ hom
    have hfew:=othR_few hoR
    have hc64:=countN_le z b r
    have HCL:=hideK (HHE.out w3.drew gw (.slice a0 mr.length cap0) ((allR fit s).2:Nat) go co mo mr (posN (oths m) nm) (HWS.out.call ((Below.refl _ w3).drew)) (OP3.out.ps.keeps (KeepsS.below ((Below.refl _ w3).drew))) hpn OP3.out.rs (by rw[<-recs_length,OP3.out.rs];exact HRL.out) hoR (by omega) HKB.out)
    rw[OP3.out.os]at HCL
    have hpi:posN (oths m) nm<n:=by rw[<-HMO.out];exact hpn
    clear HP HB2 HB1 HB6 HB0 HHE HRL HOR HKB HHP HPP hom hoR hfew hc64 HMN HSM hv2
    generalize hearH fit fb (countN z b r) s y (oths m) (posN (oths m) nm) mo[posN (oths m) nm].1 k (i,t,p)=D at HR HCL
    generalize posN (oths m) nm=P at HCL hpi hpn hnq ⊢
    have hpI:(P:Int)<(n:Int):=by omega
    have c7:=cell_of_row w3 gw 7 _ _ _ (C3.out.get 0 rfl)
    obtain⟨x0,x1,x2,x3⟩:=cells4 (C3.out.get 2 rfl)
    have G8:=hideK (C3.out.get 1 rfl)
    clear C3 OP3 HMO hpn hnq HWS
    go_upto_region 9 with fail
    go_cut [9] from 31 to 36 (fun s9 wx=>s9=.int .i64 (P:Int)/\HrEnd w w3.drew gw z b r D wx)
    case first =>
     clear HR G8
     go_region_law (go_simp;go_at_call 50;(with_reducible refine HCL.out.mono ?_);rintro q5 w5 ⟨rfl,h5⟩;have HE5:=hideK h5;clear h5)
     all_goals (try go_wp2_with fail)
     all_goals (go_meet;exact⟨rfl,HE5.out⟩)
    case rest =>
     obtain⟨rfl,he⟩:=hcut
     obtain⟨u5,e5,ao5,no5,co5,as5,ns5,cs5,mo5,ms5,hg5,ho5,hs5,hpo5,hlow5,hk5,hfw5⟩:=he
     have FW5:=hideK hfw5
     have GA2:Hid (wc.heap[gk+1+1]? = some (poO 0 0 ⟨#[]⟩ ⟨#[]⟩ 0 (.slice none 0 0) (.slice none 0 0) 0)):=hk5.2 _ _ (by unfold poO;exact G8.out) (fun cs T e=>by unfold poO at e;cases e;exact⟨by decide,by decide,by decide,by decide⟩)
     have HOT:=hideK (out_any gw u5 e5 z b r D.s D.y ao5 as5 no5 co5 ns5 cs5 wc hg5)
     have PO5:=hideK hpo5
     have LW5:=hideK hlow5
     have OS5:=hideK ho5
     have SS5:=hideK hs5
     unfold poV at HOT
     clear hg5 ho5 hs5 hpo5 hlow5 hk5 hfw5 HCL G8 c7 x0 x1 x2 x3
     generalize D.s=Ds at HOT HR
     generalize D.y=Dy at HOT HR
     go_wp2_with fail
     refine HOT.out.mono ?_
     rintro e w9 ⟨rfl,hb⟩
     have PI:=hideK (PO5.out.call hb)
     have GA:Hid (w9.heap[gk+1+1]? = some (poO 0 0 ⟨#[]⟩ ⟨#[]⟩ 0 (.slice none 0 0) (.slice none 0 0) 0)):=(hb.block (gk+1+1) (lt_rowK GA2.out)).trans GA2.out
     have LW:=hideK (lowL LW5.out hb)
     unfold poO at GA
     clear hb HOT PO5 LW5 GA2
     obtain⟨q0,q1,q2,q3,q4,q5,q6,q7⟩:=cellsP8 GA.out
     have ff:=fun o=>frozen_of_row w9 (gk+1+1) o _ _ GA.out
     have s8:=cellsP8 (setP8 GA.out (.int .i64 z) (.int .i64 b) (.string r) (.string Ds) (.int .i64 Dy) (.slice ao5 no5 co5) (.slice as5 ns5 cs5) (.int .i64 0))
     have E8:=hideK (setP8_low LW.out (g:=gk+1+1) (by have:=HGK.out;omega) (.int .i64 z) (.int .i64 b) (.string r) (.string Ds) (.int .i64 Dy) (.slice ao5 no5 co5) (.slice as5 ns5 cs5) (.int .i64 0))
     have P8:=hideK (poIn_others PI.out GA.out (fun k o hk hne=>setP8_keep (g:=gk+1+1) hk hne (.int .i64 z) (.int .i64 b) (.string r) (.string Ds) (.int .i64 Dy) (.slice ao5 no5 co5) (.slice as5 ns5 cs5) (.int .i64 0)))
     go_wp2_with fail
     exact bodyPost_ret (v:=.agg #[.int .i64 z,.int .i64 b,.string r,.string Ds,.int .i64 Dy,.slice ao5 no5 co5,.slice as5 ns5 cs5,.int .i64 0]) (by simp[results,Tryz.results18,go_sem,s8.1,s8.2.1,s8.2.2.1,s8.2.2.2.1,s8.2.2.2.2.1,s8.2.2.2.2.2.1,s8.2.2.2.2.2.2.1,s8.2.2.2.2.2.2.2]) rfl ⟨HR.out _ _ ⟨_,_,mo5,ms5,rfl,OS5.out,SS5.out,P8.out,FW5.out⟩,E8.out⟩
  ·have HR:=hideK (HP.out _ (HB1.out hbig hP))
   have C1:=hideK ((C0.out.call hb).new (.cells #[.slice none 0 0,.int .i64 0,.int .i64 0,.int .i64 0,.string ⟨#[]⟩,.string ⟨#[]⟩,.int .i64 0,.slice none 0 0,.slice none 0 0] 78))
   clear hb C0 HO HP HB1 HB2 HB6 HB0 HRL HMN HSM HHE hP
   go_upto_region 4 with fail
   generalize w1.alloc _=W1 at C1 ⊢
   generalize w1.heap.size=gw at C1 ⊢
   obtain⟨q0,q1,q2,q3,q4,q5,q6,q7⟩:=cellsP8 (C1.out.get 1 rfl)
   have ff:=fun o=>frozen_of_row W1 (gk+1+1) o _ _ (C1.out.get 1 rfl)
   have s8:=cellsP8 (setP8 (C1.out.get 1 rfl) (.int .i64 0) (.int .i64 0) (.string ⟨#[]⟩) (.string ⟨#[]⟩) (.int .i64 0) (.slice none 0 0) (.slice none 0 0) (.int .i64 1))
   have E8:=hideK (setP8_low C1.out.low (g:=gk+1+1) (by have:=HGK.out;omega) (.int .i64 0) (.int .i64 0) (.string ⟨#[]⟩) (.string ⟨#[]⟩) (.int .i64 0) (.slice none 0 0) (.slice none 0 0) (.int .i64 1))
   go_wp2_with fail
   exact bodyPost_ret (v:=.agg #[.int .i64 0,.int .i64 0,.string ⟨#[]⟩,.string ⟨#[]⟩,.int .i64 0,.slice none 0 0,.slice none 0 0,.int .i64 1]) (by simp[results,Tryz.results18,go_sem,s8.1,s8.2.1,s8.2.2.1,s8.2.2.2.1,s8.2.2.2.2.1,s8.2.2.2.2.2.1,s8.2.2.2.2.2.2.1,s8.2.2.2.2.2.2.2]) rfl ⟨HR.out _ _ (own_illF _ _ 1),E8.out⟩
end Go.Proofs.YtpddanmnlkcdpaaGreatDoor.Tk

