/- Texts put together: KpLaid, PoHeld, PoOut, PoEq, KpFits, KpFit, PeLaw, PoLaw, PeIn, HrMarkL, HrMark1, HrHeld1, HrPO1, HrAns, HrFit, HrFine, StrSzL, HrSay, HrSay2, HrSay3, HrIn. -/
import Derived.Test.YtpddanmnlkcdpaaGreatDoorHz40
import Derived.Test.YtpddanmnlkcdpaaGreatDoorHz27
import Derived.ChangeSame
import Derived.OpenVars
import Derived.LaidMore
import Derived.Lib.SmallJoins
import Derived.Test.YtpddanmnlkcdpaaGreatDoorHz35
import Derived.Test.YtpddanmnlkcdpaaGreatDoorHz18
import Derived.Test.YtpddanmnlkcdpaaGreatDoorHz41
import Derived.Test.YtpddanmnlkcdpaaGreatDoorHz39
import Derived.Test.YtpddanmnlkcdpaaGreatDoorHz43
import Derived.Test.YtpddanmnlkcdpaaGreatDoorHz47
import Derived.Deep.Slices
import Derived.ChangeSlices
import Derived.Test.YtpddanmnlkcdpaaGreatDoorHz48
import Derived.Test.YtpddanmnlkcdpaaGreatDoorHz34
import Derived.Test.YtpddanmnlkcdpaaGreatDoorHz44
import Derived.Test.YtpddanmnlkcdpaaGreatDoorHz45
import Derived.Test.YtpddanmnlkcdpaaGreatDoorHz49
import Derived.SliceStrings
set_option maxRecDepth 100000
set_option maxHeartbeats 8000000
/- What a row's list of three variables gives a walk. -/
namespace Go.Proofs.YtpddanmnlkcdpaaGreatDoor.Kp
open Go.RowKit Go.ChangeShapes Go.WideShapes Go.ChangeAt Go.Deep
open Ls (HH)
open Sh (Vars)
theorem etK:Tryz.prog.globalNamed "errors.errorType"=some 1:=by kernel_rfl
theorem rtK:(Tryz.prog.cutTypes.find? (·.1 == "internal/reflectlite.rtype")).map (·.2)=some 280:=by kernel_rfl
theorem oneRowK:((List.range 331).filter fun t=>Tryz.prog.rowNamed t [101,114,114,111,114])=[213]:=by kernel_rfl
theorem typesSizeK:Tryz.prog.types.size=331:=by kernel_rfl
theorem both_of_laid {W:World} (h:laidMetH Tryz.prog [("errors.errorType",Rows.laid_errors_errorType),("loop.example/g00550/impl.firstState",Rows.laid_loop_example_g00550_impl_firstState),("loop.example/g00550/impl.roundNumbers",Rows.laid_loop_example_g00550_impl_roundNumbers)] W):HH W/\Vars W:=by
 have h':laidMet Tryz.prog [("loop.example/g00550/impl.firstState",Rows.laid_loop_example_g00550_impl_firstState),("loop.example/g00550/impl.roundNumbers",Rows.laid_loop_example_g00550_impl_roundNumbers)] W/\handlesMet Tryz.prog [("errors.errorType",Rows.laid_errors_errorType)] W:=h
 refine⟨?_,Sh.vars_of_laid (by rw[MakeChecks.laidMetH_plain _ _ _ (by kernel_rfl)];exact h'.1)⟩
 obtain⟨name,u,ty,e1,e2,e3,e4,e5⟩:=h'.2 _ (List.mem_singleton.2 rfl)
 have en:name=[101,114,114,111,114]:=(Option.some.inj e1).symm
 subst en
 obtain rfl:=Option.some.inj (rtK.symm.trans e2)
 have hm:ty∈(List.range 331).filter fun t=>Tryz.prog.rowNamed t [101,114,114,111,114]:=List.mem_filter.2 ⟨List.mem_range.2 (by rw[<-typesSizeK];exact e3),e4⟩
 rw[oneRowK]at hm
 obtain rfl:=List.mem_singleton.1 hm
 have hh:typeHandle Tryz.prog 213=.pointer (some ⟨4,213,none⟩):=by kernel_rfl
 rw[hh]at e5
 show W.cell? ⟨1,0,none⟩=some Gn.handle
 unfold Gn.handle
 simpa using World.var?_cell etK e5 0
end Go.Proofs.YtpddanmnlkcdpaaGreatDoor.Kp


namespace Go.Proofs.YtpddanmnlkcdpaaGreatDoor.Pl
open Go.RowKit
open Kp
open Pe
open In (Ints OwnI)
open Ls (lowL)
open St (markT markT_any)
theorem heldI_from (a:Option Addr) (n c k:Nat) (w:World) (h:Ints w w.heap.size a (In.marks k n)) (hn:n<=1048576) (hk:k<=1099511627776) :
  Calls Tryz.prog 118 #[.slice a n c,.int .i64 k] w fun e w'=>e=.returned (.int .i64 ((k+n:Nat):Int))/\Below w.heap.size w w':=by
 have HS:=hideK h
 clear h
 generalize hE:k+n=E
 have HE:=hideK hE
 clear hE
 go_enter Tryz.func118,Tryz.ntmps118
 go_wp2_with fail
 go_loopw [5,1] (fun i kv wr=>∃ j kj:Nat,i=.int .i64 j/\kv=.int .i64 (kj:Int)/\j<=n/\kj=k+j/\wr=w) (fun i _ _=>n-(intOf i).toNat)
 case atStart=>exact⟨0,k,rfl,rfl,by omega,rfl,rfl⟩
 case round =>
  obtain⟨j,kj,rfl,rfl,hj,hkj,hw⟩:=hrel
  subst hw
  have HKJ:=hideK hkj
  have hkb:kj<=2199023255552:=by omega
  clear hkj
  by_cases hlt:j<n
  ·have hlt':(j:Int)<(n:Int):=by omega
   have hkl:j<(In.marks k n).length:=by rw[In.marks_length];exact hlt
   obtain⟨b,off,ha,hb,hcc⟩:∃ b off,a=some ⟨b,off,none⟩/\b<wr.heap.size/\∀ t (ht:t<(In.marks k n).length),wr.cell? ⟨b,off+t,none⟩=some (.int .i64 (In.marks k n)[t]):=by
    rcases HS.out with h|h
    ·rw[h]at hkl;simp at hkl
    ·exact h
   subst ha
   have ce:=hcc j hkl
   rw[In.marks_get,<-HKJ.out]at ce
   have hne:((kj:Int) != (kj:Int))=false:=by simp
   clear hcc
   go_wp2_with fail
   go_roundw
   case rel=>exact⟨j+1,kj+1,by go_num,by go_num,by omega,by have:=HKJ.out;omega,trivial⟩
   case measure=>simp[intOf];omega
  ·obtain rfl:j=n:=by omega
   obtain rfl:kj=E:=by have:=HKJ.out;have:=HE.out;omega
   have hltD:decide ((j:Int)<(j:Int))=false:=by simp
   go_wp2_with fail
   go_ret
   exact⟨rfl,Below.refl _ _⟩
theorem mkL_get:∀ (l:List Oth) (k j:Nat) (h:j<l.length),(mkL k l)[j]'(by rw[mkL_length];exact h)=mkO (mkE k (l.take j)) l[j]
 |o :: l,k,0,_=>rfl
 |o :: l,k,j+1,h=>by
  have:=mkL_get l (mkN k o) j (Nat.lt_of_succ_lt_succ h)
  simp only[mkL,List.getElem_cons_succ,List.take_succ_cons,mkE]
  exact this
theorem mkE_step (l:List Oth) (k j:Nat) (h:j<l.length):mkE k (l.take (j+1))=mkN (mkE k (l.take j)) l[j]:=by
 rw[List.take_succ_eq_append_getElem h,mkE_append]
 rfl
theorem mkE_part (l:List Oth) (k j:Nat):mkE k (l.take j)<=mkE k l:=by
 have h:mkE k l=mkE (mkE k (l.take j)) (l.drop j):=by rw[<-mkE_append,List.take_append_drop]
 rw[h]
 exact mkE_le _ _
theorem heldOs_any (k lo:Nat) (v:Value) (l:List Oth) (m:List MO) (w:World) (h:OwnO w lo v m) (hh:Hass w lo m) (hq:oths m=mkL k l) (hn:l.length<=1048576) (hsm:∀ o∈l,o.has.length<=1048576) (h0:0<k) (hk:mkE k l<=1099511627776) :
  Calls Tryz.prog 83 #[v,.int .i64 k] w fun e w'=>e=.returned (.int .i64 (mkE k l:Nat))/\Below w.heap.size w w':=by
 have hml:m.length=l.length:=by rw[<-oths_length,hq,mkL_length]
 obtain⟨a,cap,hv,_,_⟩:=h.one
 subst hv
 have HR:=hideK h
 have HH:=hideK hh
 have HSM:=hideK hsm
 have HKE:=hideK hk
 generalize hnn:m.length=n at hml HR ⊢
 rw[<-hml]at hn
 have HN:=hideK hnn
 have HL:=hideK hml
 have HAT:Hid (∀ j (h1:j<m.length) (h2:j<l.length),m[j].1=mkO (mkE k (l.take j)) l[j]):=fun j h1 h2=>by rw[<-oths_get m j h1];simp only[hq];exact mkL_get l k j h2
 have HEE:Hid (mkE k (l.take n)=mkE k l):=by unfold Hid;rw[List.take_of_length_le (by rw[hml];exact Nat.le_refl _)]
 have hmx:=mixedK
 clear h hh hsm hk hnn hml hq
 go_enter Tryz.func83,Tryz.ntmps83
 go_wp2_with fail
 go_loopw [5,1] (fun i kv wr=>∃ j kj:Nat,i=.int .i64 j/\kv=.int .i64 (kj:Int)/\j<=n/\kj=mkE k (l.take j)/\Below w.heap.size w wr) (fun i _ _=>n-(intOf i).toNat)
 case atStart=>exact⟨0,k,rfl,rfl,Nat.zero_le _,rfl,Below.refl _ _⟩
 case round =>
  obtain⟨j,kj,rfl,rfl,hj,hkj,hbel⟩:=hrel
  have GB:=hideK hbel
  have HKJ:=hideK hkj
  have hkb:kj<=1099511627776:=by rw[hkj];exact Nat.le_trans (mkE_part l k j) HKE.out
  have hk0:0<kj:=by rw[hkj];exact Nat.lt_of_lt_of_le h0 (mkE_le _ _)
  clear hbel hkj
  by_cases hlt:j<n
  ·have hlt':(j:Int)<(n:Int):=by omega
   have hjm:j<m.length:=by rw[HN.out];exact hlt
   have hjl:j<l.length:=by rw[<-HL.out];exact hlt
   have hr:=HR.out.below (w':=wr) (by exact GB.out)
   obtain⟨g,cp,hv,hlo,hgz,_,hcc⟩:=hr.cells (by omega)
   obtain⟨rfl,rfl⟩:a=some ⟨g,0,none⟩/\cap=cp:=by simp at hv;exact⟨hv.1,hv.2.2⟩
   obtain⟨d0,d1,d2,d3,d4⟩:=hcc j hjm
   have hx:=HH.out.below (W':=wr) (by exact GB.out) m[j] (List.getElem_mem hjm)
   rw[HAT.out j hjm hjl,<-HKJ.out]at d0 d2 d3 d4 hx
   have HNX:=hideK (mkE_step l k j hjl)
   rw[<-HKJ.out]at HNX
   have hz4:mkE k (l.take (j+1))<=1099511627776:=Nat.le_trans (mkE_part l k (j+1)) HKE.out
   rw[HNX.out]at hz4
   have hkx:=HSM.out l[j] (List.getElem_mem hjl)
   unfold mkN at HNX hz4
   unfold mkO at d0 d2 d3 d4 hx
   dsimp only at d0 d2 d3 d4 hx
   obtain⟨av,cv,hxv,_,hiv⟩:=hx.ints
   rw[In.marks_length]at hxv
   rw[hxv]at d1
   have HHI:=hideK (fun W (hW:Below wr.heap.size wr W)=>heldI_from av l[j].has.length cv (kj+1) W ((hiv.below hW).mono hW.size) hkx (by omega))
   generalize l[j].has.length=ll at d1 d2 d3 d4 HNX hz4 HHI hkx
   have HMT:=hideK (fun W=>markT_any kj W hk0 hkb)
   rw[show ((kj+1:Nat):Int)=(kj:Int)+1 by omega]at HHI
   rw[show ((kj+2+ll:Nat):Int)=((kj+1+ll:Nat):Int)+1 by omega]at d3
   rw[show ((kj+3+ll:Nat):Int)=((kj+1+ll:Nat):Int)+1+1 by omega]at d4
   have HS3:Hid (((kj+1+ll:Nat):Int)+1+1+1=((kj+4+ll:Nat):Int)):=by unfold Hid;omega
   have hb9:((kj+1+ll:Nat):Int)<=1099511627776:=by omega
   have hb8:0<=((kj+1+ll:Nat):Int):=by omega
   generalize ((kj+1+ll:Nat):Int)=K1 at d2 d3 d4 HS3 hb8 hb9 HHI
   generalize markT kj=t at d0 HMT
   have ht:(t.toList==t.toList)=true:=by simp
   have hK1:(K1 != K1)=false:=by simp
   have hK2:(K1+1 != K1+1)=false:=by simp
   have hK3:(K1+1+1 != K1+1+1)=false:=by simp
   have hK0:¬K1<0:=by omega
   have r0:=fun d os=>cell_regrown d0 d os
   clear hv hcc hr hx hxv hiv
   go_wp2_with fail
   refine wp_region_quiet_below (by assumption) (by kernel_rfl) ?_
   repeat (go_big_quiet_step ((go_at_call 81;exact Calls.regrown_of (HMT.out _))))
   refine wpQuiet_nil ?_
   intro _ hw'
   obtain⟨⟨dq,osq⟩,hw''⟩:=hw'
   subst hw''
   have BR:=below_regrown wr dq osq
   have K8:=hideK (lowL GB.out BR)
   have e1:=(BR.cell (p:=⟨g,j*5+1,none⟩) hgz).trans d1
   have e2:=(BR.cell (p:=⟨g,j*5+2,none⟩) hgz).trans d2
   have e3:=(BR.cell (p:=⟨g,j*5+3,none⟩) hgz).trans d3
   have e4:=(BR.cell (p:=⟨g,j*5+4,none⟩) hgz).trans d4
   have hg8:=Nat.lt_of_lt_of_le hgz BR.size
   have HH8:=hideK (HHI.out _ BR)
   clear d0 d1 d2 d3 d4 r0 BR HHI HMT
   generalize Go.Sort.grow (redrawn wr dq) osq=w8 at K8 e1 e2 e3 e4 hg8 HH8 ⊢
   go_wp2_with fail
   refine HH8.out.mono ?_
   rintro e w9 ⟨rfl,hb⟩
   have K9:=hideK (lowL K8.out hb)
   have f2:=(hb.cell (p:=⟨g,j*5+2,none⟩) hg8).trans e2
   have f3:=(hb.cell (p:=⟨g,j*5+3,none⟩) hg8).trans e3
   have f4:=(hb.cell (p:=⟨g,j*5+4,none⟩) hg8).trans e4
   clear e1 e2 e3 e4 hb HH8
   go_wp2_with fail
   go_roundw
   case rel=>exact⟨j+1,kj+4+ll,by go_num,by rw[<-HS3.out],by omega,HNX.out.symm,K9.out⟩
   case measure=>simp[intOf];omega
  ·obtain rfl:j=n:=by omega
   have HE2:Hid (kj=mkE k l):=by unfold Hid;rw[HKJ.out,HEE.out]
   have hltD:decide ((j:Int)<(j:Int))=false:=by simp
   go_wp2_with fail
   go_ret
   exact⟨by rw[<-HE2.out];rfl,GB.out⟩
end Go.Proofs.YtpddanmnlkcdpaaGreatDoor.Pl


namespace Go.Proofs.YtpddanmnlkcdpaaGreatDoor.Pl
open Go.RowKit
open Kp
open Pe
open In (Ints OwnI)
open Ls (lowL)
open St (markT markT_any)
theorem heldS_nil (a:Option Addr) (c k:Nat) (w:World) :
  Calls Tryz.prog 84 #[.slice a 0 c,.int .i64 k] w fun e w'=>e=.returned (.int .i64 (k:Int))/\w'=w:=by
 go_enter Tryz.func84,Tryz.ntmps84
 go_wp2_with fail
 go_loopw [5,1] (fun i kv wr=>i=.int .i64 0/\kv=.int .i64 (k:Int)/\wr=w) (fun _ _ _=>0)
 case atStart=>exact⟨rfl,rfl,rfl⟩
 case round =>
  obtain⟨rfl,rfl,hw⟩:=hrel
  subst hw
  go_wp2_with fail
  go_ret
  exact⟨rfl,rfl⟩
theorem heldSs_any (k lo n:Nat) (v:Value) (w:World) (h:OwnL w lo v (mkSs k n)) (hn:n<=1048576) (h0:0<k) (hk:k+4*n<=1099511627776) :
  Calls Tryz.prog 46 #[v,.int .i64 k] w fun e w'=>e=.returned (.int .i64 ((k+4*n:Nat):Int))/\Below w.heap.size w w':=by
 obtain⟨a,cap,hv,_,_⟩:=h.one
 rw[mkSs_length]at hv
 subst hv
 have HR:=hideK h
 generalize hE:k+4*n=E at hk ⊢
 have HE:=hideK hE
 have hmx:=mixedK
 clear h hE
 go_enter Tryz.func46,Tryz.ntmps46
 go_wp2_with fail
 go_loopw [5,1] (fun i kv wr=>∃ j kj:Nat,i=.int .i64 j/\kv=.int .i64 (kj:Int)/\j<=n/\kj=k+4*j/\Below w.heap.size w wr) (fun i _ _=>n-(intOf i).toNat)
 case atStart=>exact⟨0,k,rfl,rfl,Nat.zero_le _,rfl,Below.refl _ _⟩
 case round =>
  obtain⟨j,kj,rfl,rfl,hj,hkj,hbel⟩:=hrel
  have GB:=hideK hbel
  have HKJ:=hideK hkj
  have hkb:kj<=E:=by have:=HE.out;omega
  have hk0:0<kj:=by omega
  clear hbel hkj
  by_cases hlt:j<n
  ·have hlt':(j:Int)<(n:Int):=by omega
   have hk4:kj+4<=1099511627776:=by have:=HKJ.out;have:=HE.out;omega
   have hjm:j<(mkSs k n).length:=by rw[mkSs_length];exact hlt
   have hr:=HR.out.below (w':=wr) (by exact GB.out)
   obtain⟨g,cp,hv,hlo,hgz,_,hcc⟩:=hr.cells (by omega)
   obtain⟨rfl,rfl⟩:a=some ⟨g,0,none⟩/\cap=cp:=by simp at hv;exact⟨hv.1,hv.2.2⟩
   have hF:=hcc j hjm
   rw[mkSs_get,<-HKJ.out]at hF
   obtain⟨d0,d1,d2,d3,d4⟩:=hF
   unfold mkS at d0 d1 d2 d3 d4
   dsimp only at d0 d1 d2 d3 d4
   have HMT:=hideK (fun W=>markT_any kj W hk0 (by omega))
   have HMT3:=hideK (fun W=>markT_any (kj+3) W (by omega) (by omega))
   have HMN:=hideK (fun W=>heldS_nil none 0 (kj+4) W)
   rw[show ((kj+1:Nat):Int)=(kj:Int)+1 by omega]at d1
   rw[show ((kj+2:Nat):Int)=(kj:Int)+1+1 by omega]at d2
   rw[show ((kj+3:Nat):Int)=(kj:Int)+1+1+1 by omega]at HMT3
   rw[show ((kj+4:Nat):Int)=(kj:Int)+1+1+1+1 by omega]at HMN
   have HK4:Hid ((kj:Int)+1+1+1+1=((kj+4:Nat):Int)):=by unfold Hid;omega
   have hb9:(kj:Int)<=1099511627776:=by omega
   have hb8:0<=(kj:Int):=by omega
   generalize ((kj:Nat):Int)=K at d1 d2 HMT3 HMN HMT HK4 hb8 hb9 ⊢
   generalize markT kj=t0 at d0 HMT
   generalize markT (kj+3)=t3 at d3 HMT3
   have ht:(t0.toList==t0.toList)=true:=by simp
   have ht3:(t3.toList==t3.toList)=true:=by simp
   have hK1:(K+1 != K+1)=false:=by simp
   have hK2:(K+1+1 != K+1+1)=false:=by simp
   have hK4:¬K+1+1+1+1<0:=by omega
   have r0:=fun d os=>cell_regrown d0 d os
   clear hv hcc hr
   go_wp2_with fail
   refine wp_region_quiet_below (by assumption) (by kernel_rfl) ?_
   repeat (go_big_quiet_step ((go_at_call 81;exact Calls.regrown_of (HMT.out _))))
   refine wpQuiet_nil ?_
   intro _ hw'
   obtain⟨⟨dq,osq⟩,hw''⟩:=hw'
   subst hw''
   have BR:=below_regrown wr dq osq
   have K8:=hideK (lowL GB.out BR)
   have e1:=(BR.cell (p:=⟨g,j*5+1,none⟩) hgz).trans d1
   have e2:=(BR.cell (p:=⟨g,j*5+2,none⟩) hgz).trans d2
   have e3:=(BR.cell (p:=⟨g,j*5+3,none⟩) hgz).trans d3
   have e4:=(BR.cell (p:=⟨g,j*5+4,none⟩) hgz).trans d4
   have hg8:=Nat.lt_of_lt_of_le hgz BR.size
   clear d0 d1 d2 d3 d4 r0 BR HMT
   generalize Go.Sort.grow (redrawn wr dq) osq=w8 at K8 e1 e2 e3 e4 hg8 ⊢
   have r3:=fun d os=>cell_regrown e3 d os
   go_wp2_with fail
   refine wp_region_quiet_below (by assumption) (by kernel_rfl) ?_
   repeat (go_big_quiet_step ((go_at_call 81;exact Calls.regrown_of (HMT3.out _))))
   refine wpQuiet_nil ?_
   intro _ hw'
   obtain⟨⟨dq3,osq3⟩,hw''⟩:=hw'
   subst hw''
   have BR:=below_regrown w8 dq3 osq3
   have K9:=hideK (lowL K8.out BR)
   have f4:=(BR.cell (p:=⟨g,j*5+4,none⟩) hg8).trans e4
   clear e1 e2 e3 e4 r3 BR HMT3
   generalize Go.Sort.grow (redrawn w8 dq3) osq3=w9 at K9 f4 ⊢
   go_wp2_with fail
   refine(HMN.out _).mono ?_
   rintro e w10 ⟨rfl,hw⟩
   subst w10
   go_wp2_with fail
   go_roundw
   case rel=>exact⟨j+1,kj+4,by go_num,by rw[<-HK4.out],by omega,by have:=HKJ.out;omega,K9.out⟩
   case measure=>simp[intOf];omega
  ·obtain rfl:j=n:=by omega
   obtain rfl:kj=E:=by have:=HKJ.out;have:=HE.out;omega
   have hltD:decide ((j:Int)<(j:Int))=false:=by simp
   go_wp2_with fail
   go_ret
   exact⟨rfl,GB.out⟩
theorem heldP_any (z b:Int) (r s:ByteArray) (y:Int) (k lo:Nat) (v:Value) (l:List Oth) (m:List MO) (w:World) (h:OwnO w lo v m) (hh:Hass w lo m) (hq:oths m=mkL k l) (hn:l.length<=1048576) (hsm:∀ o∈l,o.has.length<=1048576) (h0:0<k) (hk:mkE k l<=1099511627776) :
  Calls Tryz.prog 45 #[peerV z b r s y v,.int .i64 k] w fun e w'=>e=.returned (.int .i64 (mkE k l:Nat))/\Below w.heap.size w w':=by
 have C0:=hideK ((Cx.nil w).new (peerO z b r s y v))
 have HM:=hideK (fun W (hW:Below w.heap.size w W)=>heldOs_any k lo v l m W (h.below hW) (hh.below hW) hq hn hsm h0 hk)
 obtain⟨a,cap,hv,_,_⟩:=h.one
 subst hv
 clear h hh hsm hk
 generalize mkE k l=E at HM ⊢
 have hE:¬(E:Int)<0:=by omega
 have hE2:decide ((E:Int)<0)=false:=by simp
 unfold peerV
 unfold peerO at C0
 go_enter Tryz.func45,Tryz.ntmps45
 go_upto_region 1 with fail
 generalize w.alloc _=W0 at C0 ⊢
 obtain⟨p0,p1,p2,p3,p4,p5⟩:=cellsP6 (C0.out.get 0 rfl)
 go_wp2_with fail
 refine(HM.out _ C0.out.low).mono ?_
 rintro e w1 ⟨rfl,hb⟩
 have C1:=hideK (C0.out.call hb)
 clear hb
 go_wp2_with fail
 go_ret
 exact⟨rfl,C1.out.low⟩
structure Mkd (W:World) (lo hi:Nat) (vo vs:Value) (l:List Oth) (n:Nat) (m:List MO):Prop where
 rm:RowM W lo hi vo m
 os:oths m=mkL 1 l
 rl:RowL W lo hi vs (mkSs (mkE 1 l) n)
theorem Mkd.call {W W':World} {lo hi:Nat} {vo vs:Value} {l:List Oth} {n:Nat} {m:List MO} (h:Mkd W lo hi vo vs l n m) (hb:Below W.heap.size W W'):Mkd W' lo hi vo vs l n m:=⟨h.rm.call hb,h.os,h.rl.call hb⟩
theorem RowL.keepO {W W':World} {lo hi:Nat} {v:Value} {m:List ML} (h:RowL W lo hi v m) (hk:KeepO W W'):RowL W' lo hi v m:=by
 refine⟨?_,h.inb,h.nop⟩
 obtain⟨hl,h⟩:=h.row
 refine⟨hl,?_⟩
 rcases h with h|⟨g,cap,cur,hv,hg,hb,rest⟩
 ·exact .inl h
 ·exact .inr ⟨g,cap,cur,hv,hg,hk g _ _ hb (by decide) (by decide),rest⟩
theorem Chg.more {lo hi:Nat} {w w1 w2:World} (h:Chg lo hi w w1) (h2:Chg lo hi w1 w2):Chg lo hi w w2 :=
 ⟨h2.os.trans h.os,h2.tape.trans h.tape,h2.output.trans h.output,Nat.le_trans h.size h2.size,fun k hk ho=>(h2.block k (Nat.lt_of_lt_of_le hk h.size) ho).trans (h.block k hk ho)⟩
def KeepL (w w':World):Prop:=∀ (k:Nat) (cs:Array Value) (T:TypeId),w.heap[k]? = some (.cells cs T (0,0))->T≠114->w'.heap[k]? = some (.cells cs T (0,0))
theorem RowM.keepL {W W':World} {lo hi:Nat} {v:Value} {m:List MO} (h:RowM W lo hi v m) (hk:KeepL W W'):RowM W' lo hi v m:=by
 refine⟨?_,fun x hx=>?_,h.ap,h.inb⟩
 ·obtain⟨hl,h⟩:=h.row
  refine⟨hl,?_⟩
  rcases h with h|⟨g,cap,cur,hv,hg,hb,rest⟩
  ·exact .inl h
  ·exact .inr ⟨g,cap,cur,hv,hg,hk g _ _ hb (by decide),rest⟩
 ·obtain⟨hl,h⟩:=h.has x hx
  refine⟨hl,?_⟩
  rcases h with h|⟨g,cap,cur,hv,hg,hb,rest⟩
  ·exact .inl h
  ·exact .inr ⟨g,cap,cur,hv,hg,hk g _ _ hb (by decide),rest⟩
theorem OwnL.blkOf {W:World} {base g:Nat} {v:Value} {m:List ML} (h:OwnL W base v m) (hg:v.ownBlock=some g):∃ cur,W.heap[g]? = some (.cells cur 114 (0,0)):=by
 obtain⟨_,h⟩:=h
 rcases h with⟨rfl,_⟩|⟨g',cap',cur,rfl,_,hb,_⟩
 ·simp[Value.ownBlock]at hg
 ·simp[Value.ownBlock]at hg
  subst hg
  exact⟨cur,hb⟩
theorem keepL_of {W W':World} {lo g:Nat} {v:Value} {m:List ML} (h:OwnL W lo v m) (hg:v.ownBlock=some g) (hc:Chg g (g+1) W W'):KeepL W W':=fun k cs T hk hT=>by
 obtain⟨cur,hb⟩:=h.blkOf hg
 have hne:=ty_ne hk hb hT
 exact(hc.block k (lt_rowK hk) (by omega)).trans hk
theorem markPO_any (z b:Int) (r s:ByteArray) (y:Int) (c:Int) (lo hi:Nat) (vo vs:Value) (mo:List MO) (ms:List ML) (w:World) (h:RowM w lo hi vo mo) (g:RowL w lo hi vs ms) (hn:mo.length<=1048576) (hsm:∀ x∈mo,x.1.has.length<=1048576) (gn:ms.length<=1048576) (hk:mkE 1 (oths mo)+4*ms.length<=1099511627776) :
  Calls Tryz.prog 13 #[poV z b r s y vo vs c,.int .i64 1] w fun e w'=>e=.returned (.int .i64 ((mkE 1 (oths mo)+4*ms.length:Nat):Int))/\(∃ m',Mkd w' lo hi vo vs (oths mo) ms.length m')/\Chg lo hi w w':=by
 have C0:=hideK ((Cx.nil w).new (poO z b r s y vo vs c))
 have B0:Hid (Below w.heap.size w (w.alloc (poO z b r s y vo vs c))):=(Below.refl _ _).alloc (Nat.le_refl _) _
 have HM:=hideK (fun W (hW:Below w.heap.size w W)=>markP_any z b r s y 1 lo hi vo mo W (h.call hW) hn hsm (by decide) (by omega))
 have HRL:=hideK (fun W (hW:Below w.heap.size w W)=>g.call hW)
 have HL:Hid (∀ W,RowL W lo hi vs ms->Calls Tryz.prog 44 #[vs,.int .i64 (mkE 1 (oths mo):Nat)] W fun e w'=>e=.returned (.int .i64 ((mkE 1 (oths mo)+4*ms.length:Nat):Int))/\RowL w' lo hi vs (mkSs (mkE 1 (oths mo)) ms.length)/\Chg lo hi W w'/\KeepL W w'):=fun W hW=>by
  have h1:0<mkE 1 (oths mo):=mkE_le _ _
  cases hv:vs.ownBlock with
  |none =>
   have hm0:vs=.slice none 0 0/\ms=[]:=by
    obtain⟨_,hq⟩:=hW.row
    rcases hq with⟨h,h0⟩|⟨g,cap,cur,rfl,_⟩
    ·exact⟨h,List.eq_nil_of_length_eq_zero h0⟩
    ·simp[Value.ownBlock]at hv
   obtain⟨rfl,rfl⟩:=hm0
   have hq:=markSs_any (mkE 1 (oths mo)) 0 0 (.slice none 0 0) [] W ⟨OwnL.nil _ _,fun g hg=>by simp[Value.ownBlock]at hg,fun _ hx=>absurd hx List.not_mem_nil⟩ (by decide) h1 (by simp at hk ⊢;omega)
   refine hq.mono ?_
   rintro e w' ⟨he,hr,hc⟩
   exact⟨he,⟨OwnL.nil _ _,fun g hg=>by simp[Value.ownBlock]at hg,mkSs_noPath _ _⟩,⟨hc.os,hc.tape,hc.output,hc.size,fun k hk _=>hc.block k hk (by omega)⟩,fun k cs T hk _=>(hc.block k (lt_rowK hk) (by omega)).trans hk⟩
  |some q =>
   have hin:=hW.inb q hv
   have hq:=markSs_any (mkE 1 (oths mo)) q (q+1) vs ms W ⟨?_,fun g hg=>by rw[hv]at hg;cases hg;omega,hW.nop⟩ gn h1 hk
   refine hq.mono ?_
   rintro e w' ⟨he,hr,hc⟩
   refine⟨he,⟨hr.row.mono hin.1,fun g hg=>by rw[hv]at hg;cases hg;exact hin,hr.nop⟩,⟨hc.os,hc.tape,hc.output,hc.size,fun k hk ho=>hc.block k hk (by omega)⟩,keepL_of hW.row hv hc⟩
   obtain⟨hl,hq⟩:=hW.row
   refine⟨hl,?_⟩
   rcases hq with h|⟨g,cap,cur,hvv,hg,rest⟩
   ·exact .inl h
   ·refine .inr ⟨g,cap,cur,hvv,?_,rest⟩
    rw[hvv]at hv
    simp[Value.ownBlock]at hv
    omega
 obtain⟨a,cap,hv,_,_⟩:=h.row.one
 subst hv
 obtain⟨a',cap',hv',_,_⟩:=g.row.one
 subst hv'
 clear h g hsm hk
 generalize mkE 1 (oths mo)+4*ms.length=E2 at HL ⊢
 unfold poV
 unfold poO at C0 B0
 unfold peerV at HM
 go_enter Tryz.func13,Tryz.ntmps13
 go_upto_region 1 with fail
 generalize hW0:w.alloc _=W0 at C0 B0 ⊢
 obtain⟨p0,p1,p2,p3,p4,p5,p6,p7⟩:=cellsP8 (C0.out.get 0 rfl)
 have HW0:Hid (W0.heap[w.heap.size]? = some (.cells #[.int .i64 z,.int .i64 b,.string r,.string s,.int .i64 y,.slice a mo.length cap,.slice a' ms.length cap',.int .i64 c] 38 (0,0))):=C0.out.get 0 rfl
 clear hW0
 go_wp2_with fail
 refine(HM.out _ B0.out).mono ?_
 rintro e w1 ⟨rfl,⟨m',hos,hsnd,hrow⟩,hc,hko⟩
 have R1:=hideK hrow
 have OS1:=hideK hos
 have C1:=hideK (Chg.after B0.out hc)
 have L1:=hideK ((HRL.out _ B0.out).keepO hko)
 have K1:=hko _ _ _ HW0.out (by decide) (by decide)
 clear hos hsnd hrow hc hko p0 p1 p2 p3 p4 p5 p6 p7
 obtain⟨p0,p1,p2,p3,p4,p5,p6,p7⟩:=cellsP8 K1
 have HL1:=hideK (HL.out w1 L1.out)
 clear K1 HL HM HRL
 go_wp2_with fail
 refine HL1.out.mono ?_
 rintro e w2 ⟨rfl,hr2,hc2,hk2⟩
 have R2:=hideK (RowM.keepL R1.out hk2)
 have L2:=hideK hr2
 have C2:=hideK (Pl.Chg.more C1.out hc2)
 clear hr2 hc2 hk2 HL1
 go_wp2_with fail
 go_ret
 exact⟨rfl,⟨m',R2.out,OS1.out,L2.out⟩,C2.out⟩
theorem heldPO_any (z b:Int) (r s:ByteArray) (y:Int) (c:Int) (lo hi:Nat) (vo vs:Value) (l:List Oth) (n:Nat) (m:List MO) (w:World) (h:Mkd w lo hi vo vs l n m) (hn:l.length<=1048576) (hsm:∀ o∈l,o.has.length<=1048576) (gn:n<=1048576) (hk:mkE 1 l+4*n<=1099511627776) :
  Calls Tryz.prog 14 #[poV z b r s y vo vs c,.int .i64 1] w fun e w'=>e=.returned (.int .i64 ((mkE 1 l+4*n:Nat):Int))/\Below w.heap.size w w':=by
 have C0:=hideK ((Cx.nil w).new (poO z b r s y vo vs c))
 have HM:=hideK (fun W (hW:Below w.heap.size w W)=>heldP_any z b r s y 1 lo vo l m W (h.rm.row.below hW) (h.rm.has.below hW) h.os hn hsm (by decide) (by omega))
 have HL:=hideK (fun W (hW:Below w.heap.size w W)=>heldSs_any (mkE 1 l) lo n vs W (h.rl.row.below hW) gn (mkE_le _ _) hk)
 obtain⟨a,cap,hv,_,_⟩:=h.rm.row.one
 subst hv
 obtain⟨a',cap',hv',_,_⟩:=h.rl.row.one
 rw[mkSs_length]at hv'
 subst hv'
 clear h hsm hk
 generalize mkE 1 l+4*n=E2 at HL ⊢
 generalize mkE 1 l=E at HM HL
 have hE:¬(E:Int)<0:=by omega
 have hE2:decide ((E:Int)<0)=false:=by simp
 have hE3:¬(E2:Int)<0:=by omega
 have hE4:decide ((E2:Int)<0)=false:=by simp
 unfold poV
 unfold poO at C0
 unfold peerV at HM
 go_enter Tryz.func14,Tryz.ntmps14
 go_upto_region 1 with fail
 generalize w.alloc _=W0 at C0 ⊢
 obtain⟨p0,p1,p2,p3,p4,p5,p6,p7⟩:=cellsP8 (C0.out.get 0 rfl)
 go_wp2_with fail
 refine(HM.out _ C0.out.low).mono ?_
 rintro e w1 ⟨rfl,hb⟩
 have C1:=hideK (C0.out.call hb)
 clear hb p0 p1 p2 p3 p4 p5 p6 p7
 obtain⟨p0,p1,p2,p3,p4,p5,p6,p7⟩:=cellsP8 (C1.out.get 0 rfl)
 go_wp2_with fail
 refine(HL.out _ C1.out.low).mono ?_
 rintro e w2 ⟨rfl,hb⟩
 have C2:=hideK (C1.out.call hb)
 clear hb
 go_wp2_with fail
 go_ret
 exact⟨rfl,C2.out.low⟩
end Go.Proofs.YtpddanmnlkcdpaaGreatDoor.Pl


namespace Go.Proofs.YtpddanmnlkcdpaaGreatDoor.Pl
open Go.RowKit
open Kp
open Pe
open St (Strs OwnS)
open Ls (lowL)
theorem cellsQ4 {W:World} {g:Nat} {x0 x1 x2 x3:Value} {T:TypeId} (h:W.heap[g]? = some (.cells #[x0,x1,x2,x3] T (0,0))):W.cell? ⟨g,0,none⟩=some x0/\W.cell? ⟨g,1,none⟩=some x1/\W.cell? ⟨g,2,none⟩=some x2/\W.cell? ⟨g,3,none⟩=some x3 :=
 ⟨cell_of_row W g 0 _ _ _ h,cell_of_row W g 1 _ _ _ h,cell_of_row W g 2 _ _ _ h,cell_of_row W g 3 _ _ _ h⟩
def SmallL (m:List ML):Prop:=∀ x∈m,x.1.path.length<=1048576
theorem eqSay_any (k i:Int) (p:ByteArray) (a a':Option Addr) (n cap cap':Nat) (l:List ByteArray) (w:World) (h:Strs w w.heap.size a l) (h':Strs w w.heap.size a' l) (hln:l.length=n) (hn:n<=1048576) :
  Calls Tryz.prog 19 #[.agg #[.int .i64 k,.int .i64 i,.string p,.slice a n cap],.agg #[.int .i64 k,.int .i64 i,.string p,.slice a' n cap']] w fun e w'=>e=.returned (.bool true)/\Below w.heap.size w w':=by
 have C0:=hideK (((Cx.nil w).new (.cells #[.int .i64 k,.int .i64 i,.string p,.slice a n cap] 51)).new (.cells #[.int .i64 k,.int .i64 i,.string p,.slice a' n cap'] 51))
 simp only[World.size_alloc]at C0
 have HE:=hideK (fun W (hW:Below w.heap.size w W)=>St.eq_any a a' cap cap' l W W.heap.size ((h.below hW).mono hW.size) ((h'.below hW).mono hW.size) (by rw[hln];exact hn))
 rw[hln]at HE
 clear h h' hln
 have h1:(p.toList==p.toList)=true:=by simp
 have h2:(k != k)=false:=by simp
 have h3:(i != i)=false:=by simp
 go_enter Tryz.func19,Tryz.ntmps19
 go_upto_region 1 with fail
 generalize (w.alloc _).alloc _=W0 at C0 ⊢
 obtain⟨p0,p1,p2,p3⟩:=cellsQ4 (C0.out.get 0 rfl)
 obtain⟨q0,q1,q2,q3⟩:=cellsQ4 (C0.out.get 1 rfl)
 go_wp2_with fail
 refine(HE.out _ C0.out.low).mono ?_
 rintro e w1 ⟨rfl,hb⟩
 have C1:=hideK (C0.out.call hb)
 clear hb C0 p0 p1 p2 p3 q0 q1 q2 q3
 go_wp2_with fail
 go_ret
 exact⟨rfl,C1.out.low⟩
theorem eqSent_any (t:ByteArray) (k i:Int) (p:ByteArray) (a a':Option Addr) (n cap cap':Nat) (l:List ByteArray) (w:World) (h:Strs w w.heap.size a l) (h':Strs w w.heap.size a' l) (hln:l.length=n) (hn:n<=1048576) :
  Calls Tryz.prog 78 #[.agg #[.string t,.int .i64 k,.int .i64 i,.string p,.slice a n cap],.agg #[.string t,.int .i64 k,.int .i64 i,.string p,.slice a' n cap']] w fun e w'=>e=.returned (.bool true)/\Below w.heap.size w w':=by
 have C0:=hideK (((Cx.nil w).new (.cells #[.string t,.int .i64 k,.int .i64 i,.string p,.slice a n cap] 114)).new (.cells #[.string t,.int .i64 k,.int .i64 i,.string p,.slice a' n cap'] 114))
 simp only[World.size_alloc]at C0
 have HE:=hideK (fun W (hW:Below w.heap.size w W)=>eqSay_any k i p a a' n cap cap' l W ((h.below hW).mono hW.size) ((h'.below hW).mono hW.size) hln hn)
 clear h h' hln
 have h1:(t.toList==t.toList)=true:=by simp
 go_enter Tryz.func78,Tryz.ntmps78
 go_upto_region 1 with fail
 generalize (w.alloc _).alloc _=W0 at C0 ⊢
 obtain⟨p0,p1,p2,p3,p4⟩:=cells5 (C0.out.get 0 rfl)
 obtain⟨q0,q1,q2,q3,q4⟩:=cells5 (C0.out.get 1 rfl)
 go_wp2_with fail
 refine(HE.out _ C0.out.low).mono ?_
 rintro e w1 ⟨rfl,hb⟩
 have C1:=hideK (C0.out.call hb)
 clear hb C0 p0 p1 p2 p3 p4 q0 q1 q2 q3 q4
 go_wp2_with fail
 go_ret
 exact⟨rfl,C1.out.low⟩
theorem eqSs_any (a a':Option Addr) (n cap cap':Nat) (m m':List ML) (w:World) (h:Snts w w.heap.size a m) (h':Snts w w.heap.size a' m') (he:snts m=snts m') (hm:m.length=n) (hn:n<=1048576) (hsm:SmallL m) :
  Calls Tryz.prog 40 #[.slice a n cap,.slice a' n cap'] w fun e w'=>e=.returned (.bool true)/\Below w.heap.size w w':=by
 have hm':m'.length=n:=by rw[<-hm,<-snts_length m,<-snts_length m',he]
 have HS:=hideK h
 have HS':=hideK h'
 have HM:=hideK hm
 have HM':=hideK hm'
 have HSM:=hideK hsm
 have HEQ:Hid (∀ j (h1:j<m.length) (h2:j<m'.length),m'[j].1=m[j].1):=fun j h1 h2=>by rw[<-snts_get m' j h2,<-snts_get m j h1];simp only[he]
 have hmx:=mixedK
 have hnn:((n:Int) != (n:Int))=false:=by simp
 clear h h' he hm hm' hsm
 go_enter Tryz.func40,Tryz.ntmps40
 go_wp2_with fail
 go_loopw [5] (fun jv wr=>∃ j:Nat,jv=.int .i64 j/\j<=n/\Below w.heap.size w wr) (fun jv _=>n-(intOf jv).toNat)
 case atStart=>exact⟨0,rfl,Nat.zero_le _,Below.refl _ _⟩
 case round =>
  obtain⟨j,rfl,hj,hbel⟩:=hrel
  have GB:=hideK hbel
  clear hbel
  by_cases hlt:j<n
  ·have hlt':(j:Int)<(n:Int):=by omega
   have hjl:j<m.length:=by rw[HM.out];exact hlt
   have hjl':j<m'.length:=by rw[HM'.out];exact hlt
   obtain⟨b,off,rfl,hb,hc⟩:=HS.out.some (by omega)
   obtain⟨b',off',rfl,hb',hc'⟩:=HS'.out.some (by omega)
   obtain⟨d0,d1,d2,d3,d4⟩:=(hc j hjl).below GB.out hb
   obtain⟨e0,e1,e2,e3,e4⟩:=(hc' j hjl').below GB.out hb'
   obtain⟨ax,cx,hxv,_,hix⟩:=HS.out.2 m[j] (List.getElem_mem hjl)
   obtain⟨ax',cx',hxv',_,hix'⟩:=HS'.out.2 m'[j] (List.getElem_mem hjl')
   have hkx:=HSM.out m[j] (List.getElem_mem hjl)
   rw[HEQ.out j hjl hjl']at e0 e1 e2 e3 hxv' hix'
   rw[hxv]at d4
   rw[hxv']at e4
   have HEO:=hideK (fun W (hW:Below w.heap.size w W)=>eqSent_any m[j].1.who m[j].1.kind m[j].1.index m[j].1.piece ax ax' _ cx cx' m[j].1.path W ((hix.below hW).mono hW.size) ((hix'.below hW).mono hW.size) rfl hkx)
   clear hix hix' hxv hxv' hc hc' hkx
   generalize m[j].1.who=nm at d0 e0 HEO
   generalize m[j].1.path.length=k at d4 e4 HEO
   generalize m[j].1.kind=q at d1 e1 HEO
   generalize m[j].1.index=g at d2 e2 HEO
   generalize m[j].1.piece=t at d3 e3 HEO
   have r0:=fun d os=>cell_regrown d0 d os
   have r1:=fun d os=>cell_regrown d1 d os
   have r2:=fun d os=>cell_regrown d2 d os
   have r3:=fun d os=>cell_regrown d3 d os
   have r4:=fun d os=>cell_regrown d4 d os
   have s0:=fun d os=>cell_regrown e0 d os
   have s1:=fun d os=>cell_regrown e1 d os
   have s2:=fun d os=>cell_regrown e2 d os
   have s3:=fun d os=>cell_regrown e3 d os
   have s4:=fun d os=>cell_regrown e4 d os
   go_wp2_with fail
   refine wp_region_quiet_below (by assumption) (by kernel_rfl) ?_
   repeat (go_big_quiet_step ((go_at_call 78;exact Calls.regrown_of (HEO.out _ (lowL GB.out (below_regrown _ _ _))))))
   refine wpQuiet_nil ?_
   intro _ hw'
   obtain⟨⟨dq,osq⟩,hw''⟩:=hw'
   subst hw''
   have K1:=hideK (lowL GB.out (below_regrown wr dq osq))
   generalize Go.Sort.grow (redrawn wr dq) osq=w8 at K1 ⊢
   clear r0 r1 r2 r3 r4 s0 s1 s2 s3 s4 d0 d1 d2 d3 d4 e0 e1 e2 e3 e4
   go_wp2_with fail
   go_roundw
   case rel=>exact⟨j+1,by go_num,by omega,K1.out⟩
   case measure=>simp[intOf];omega
  ·have hltD:decide ((j:Int)<(n:Int))=false:=by simp;omega
   have hlt2:¬((j:Int)<(n:Int)):=by omega
   go_wp2_with fail
   go_ret
   exact⟨rfl,GB.out⟩
theorem eqPO_any (z b:Int) (r s:ByteArray) (y:Int) (ao ao' as' as2:Option Addr) (no ns co co' cs cs':Nat) (c:Int) (mo mo':List MO) (ms ms':List ML) (w:World) (h:Oths w w.heap.size ao mo) (h':Oths w w.heap.size ao' mo') (he:oths mo=oths mo') (hm:mo.length=no) (hn:no<=1048576) (hsm:Small mo)
  (g:Snts w w.heap.size as' ms) (g':Snts w w.heap.size as2 ms') (ge:snts ms=snts ms') (gm:ms.length=ns) (gn:ns<=1048576) (gsm:SmallL ms) :
  Calls Tryz.prog 10 #[poV z b r s y (.slice ao no co) (.slice as' ns cs) c,poV z b r s y (.slice ao' no co') (.slice as2 ns cs') c] w fun e w'=>e=.returned (.bool true)/\Below w.heap.size w w':=by
 have HO:=hideK (fun W (hW:Below w.heap.size w W)=>eqP_any z b r s y ao ao' no co co' mo mo' W ((h.below hW).mono hW.size) ((h'.below hW).mono hW.size) he hm hn hsm)
 have HL:=hideK (fun W (hW:Below w.heap.size w W)=>eqSs_any as' as2 ns cs cs' ms ms' W ((g.below hW).mono hW.size) ((g'.below hW).mono hW.size) ge gm gn gsm)
 have C0:=hideK (((Cx.nil w).new (poO z b r s y (.slice ao no co) (.slice as' ns cs) c)).new (poO z b r s y (.slice ao' no co') (.slice as2 ns cs') c))
 simp only[World.size_alloc]at C0
 clear h h' hsm g g' gsm
 have h2:(c != c)=false:=by simp
 unfold poV
 unfold peerV at HO
 unfold poO at C0
 go_enter Tryz.func10,Tryz.ntmps10
 go_upto_region 1 with fail
 generalize (w.alloc _).alloc _=W0 at C0 ⊢
 obtain⟨l0,l1,l2,l3,l4,l5,l6,l7⟩:=cellsP8 (C0.out.get 0 rfl)
 obtain⟨k0,k1,k2,k3,k4,k5,k6,k7⟩:=cellsP8 (C0.out.get 1 rfl)
 go_wp2_with fail
 refine(HO.out _ C0.out.low).mono ?_
 rintro e w1 ⟨rfl,hb⟩
 have C1:=hideK (C0.out.call hb)
 clear hb C0 l0 l1 l2 l3 l4 l5 l6 l7 k0 k1 k2 k3 k4 k5 k6 k7
 obtain⟨l0,l1,l2,l3,l4,l5,l6,l7⟩:=cellsP8 (C1.out.get 0 rfl)
 obtain⟨k0,k1,k2,k3,k4,k5,k6,k7⟩:=cellsP8 (C1.out.get 1 rfl)
 go_wp2_with fail
 refine(HL.out _ C1.out.low).mono ?_
 rintro e w2 ⟨rfl,hb⟩
 have C2:=hideK (C1.out.call hb)
 clear hb C1 l0 l1 l2 l3 l4 l5 l6 l7 k0 k1 k2 k3 k4 k5 k6 k7
 obtain⟨l0,l1,l2,l3,l4,l5,l6,l7⟩:=cellsP8 (C2.out.get 0 rfl)
 obtain⟨k0,k1,k2,k3,k4,k5,k6,k7⟩:=cellsP8 (C2.out.get 1 rfl)
 go_wp2_with fail
 go_ret
 exact⟨rfl,C2.out.low⟩
end Go.Proofs.YtpddanmnlkcdpaaGreatDoor.Pl


namespace Go.Proofs.YtpddanmnlkcdpaaGreatDoor.Kp
open Go.RowKit
open Ls (cells3 fitsB fits_impl lV vars_keepF)
open Sh (Vars)
open St (Strs)
def fitR (z b:Int) (r:ByteArray) (x:Rec):Bool:=decide (x.2.2.length<=20) && fitsB z b r x.1 x.2.1 x.2.2
theorem fit_long {z b:Int} {r:ByteArray} {x:Rec} (h:¬x.2.2.length<=20):fitR z b r x=false:=by
 unfold fitR
 rw[decide_eq_false h,Bool.false_and]
theorem fit_short {z b:Int} {r:ByteArray} {x:Rec} (h:x.2.2.length<=20):fitR z b r x=fitsB z b r x.1 x.2.1 x.2.2:=by
 unfold fitR
 rw[decide_eq_true h,Bool.true_and]
theorem fits_rec (z b:Int) (r:ByteArray) (x:MR) (w:World) (ht:x.1.2.1.size<=maxLen) (hp:x.1.2.2.length<=1048576) (hs:∃ a cap,x.2=.slice a x.1.2.2.length cap/\x.1.2.2.length<=cap/\Strs w w.heap.size a x.1.2.2) (hV:Vars w) :
  Calls Tryz.prog 107 #[.agg #[.int .i64 x.1.1,.string x.1.2.1,x.2],lV z b r] w fun e w'=>e=.returned (.bool (fitR z b r x.1))/\Below w.heap.size w w':=by
 obtain⟨⟨i,t,p⟩,v⟩:=x
 obtain⟨a,cap,hv,hc,hst⟩:=hs
 dsimp only at ht hp hv hc hst ⊢
 subst hv
 obtain⟨n,hn⟩:∃ n,n=p.length:=⟨_,rfl⟩
 have C0:=hideK (((Cx.nil w).new (.cells #[.int .i64 i,.string t,.slice a p.length cap] 129)).new (.cells #[.int .i64 z,.int .i64 b,.string r] 30))
 have HF:=hideK (fun (W:World) (hW:Below w.heap.size w W)=>fits_impl z b r i t p a cap n W ht hn (by omega) (by omega) ((hst.below hW).mono hW.size) (vars_keepF hV hW))
 have HL:=hideK (fun h=>fit_long (z:=z) (b:=b) (r:=r) (x:=(i,t,p)) h)
 have HS:=hideK (fun h=>fit_short (z:=z) (b:=b) (r:=r) (x:=(i,t,p)) h)
 dsimp only at HL HS
 rw[<-hn]at C0 HL HS ⊢
 clear hst hV hn hc
 unfold lV at HF ⊢
 by_cases h20:n<=20
 ·have h20':(n:Int)<=20:=by omega
  have HQ:=hideK (HS.out h20)
  rw[HQ.out]
  generalize fitsB z b r i t p=Q at HF ⊢
  clear HQ HL HS
  go_enter Tryz.func107,Tryz.ntmps107
  go_wp2_with fail
  refine(HF.out _ C0.out.low).mono ?_
  rintro e w1 ⟨rfl,hb⟩
  have B1:=hideK (C0.out.call hb).low
  clear hb C0
  go_wp2_with fail
  go_ret
  exact⟨rfl,B1.out⟩
 ·have HQ:=hideK (HL.out h20)
  rw[HQ.out]
  have h20':decide ((n:Int)<=20)=false:=by simp;omega
  clear HF HQ HL HS
  go_enter Tryz.func107,Tryz.ntmps107
  go_wp2_with fail
  go_ret
  exact⟨rfl,C0.out.low⟩
end Go.Proofs.YtpddanmnlkcdpaaGreatDoor.Kp


/- What fits: the contracts of both sides at every record. -/
namespace Go.Proofs.YtpddanmnlkcdpaaGreatDoor.Kp
open Go.RowKit
open Ls (rightB rightB_yes lV vars_keepF l07Fits_spec fitsB fits_piece countN_le)
open Tr (inclB wide_yes)
open Sh (Vars)
theorem fitC_of (z b:Int) (r:ByteArray) (w:World) (hV:Vars w):FitC (fitR z b r) z b r w:=fun W x hW h1 h2 h3 =>
 fits_rec z b r x W (by unfold maxLen;omega) (by omega) h3 (vars_keepF hV hW)
theorem fitS_of (z b:Int) (r:ByteArray) (w:World) (hr:rightB z b r=true):FitS (fitR z b r) z b r w:=fun W x hW h1 h2 h3=>by
 have h4:=rightB_yes hr
 obtain⟨p,rfl⟩:=Int.eq_ofNat_of_zero_le h4.1
 obtain⟨k,rfl⟩:=Int.eq_ofNat_of_zero_le (show 0<=b by omega)
 obtain⟨a,cap,hv,hc,hst⟩:=h3
 rw[hv,fit_short h2]
 exact l07Fits_spec p k r x.1.1 x.1.2.1 x.1.2.2 a cap x.1.2.2.length W hr h1 rfl (by omega) hst
theorem fit_facts {z b:Int} {r:ByteArray} {x:Rec} (h:fitR z b r x=true):0<=x.1/\x.1<64/\x.2.1.size<=100/\x.2.2.length<=20/\∀ q∈x.2.2,q.size=32:=by
 have h20:x.2.2.length<=20:=by
  by_cases h2:x.2.2.length<=20
  ·exact h2
  ·rw[fit_long h2]at h;cases h
 have ht:x.2.1.size<=100:=by
  by_cases h2:x.2.1.size<=100
  ·exact h2
  ·rw[fit_short h20,fits_piece (by omega)]at h;cases h
 rw[fit_short h20]at h
 have hc:=countN_le z b r
 unfold fitsB inclB at h
 simp only[Bool.and_eq_true,decide_eq_true_eq]at h
 exact⟨h.1.1.2,by omega,ht,h20,fun q hq=>by
  obtain⟨j,hj,rfl⟩:=List.getElem_of_mem hq
  exact(wide_yes x.2.2).1 h.1.1.1.2.2 j hj⟩
end Go.Proofs.YtpddanmnlkcdpaaGreatDoor.Kp


/- What the laws over a Peer have in common. -/
namespace Go.Proofs.YtpddanmnlkcdpaaGreatDoor.Pe
open Go.RowKit
open Kp
open Ls (HH hh_keep lV rightB vars_keepF lowL)
open Sh (Vars)
theorem small_lens {m:List MO} {K:Nat} (h:K+tot (oths m)<=1048576) (hl:Lens m):Small m:=fun x hx=>by
 have h1:=cost_le hx
 have h2:=hl x hx
 unfold cost at h1
 exact⟨by omega,h2.2⟩
end Go.Proofs.YtpddanmnlkcdpaaGreatDoor.Pe


/- What the laws over a peer's calls have in common: answers in memory. -/
namespace Go.Proofs.YtpddanmnlkcdpaaGreatDoor.Pl
open Go.RowKit
open Kp
open Pe
open In (Ints OwnI)
open Ls (lowL)
open St (OwnS)
structure PoW (W:World) (lo hi:Nat) (vo vs:Value) (mo:List MO) (ms:List ML):Prop where
 inn:PoIn W lo vo vs mo ms
 ib:InB lo hi vo mo
 il:∀ g,vs.ownBlock=some g->lo<=g/\g<hi
 ip:∀ x∈ms,∀ g,x.2.ownBlock=some g->lo<=g/\g<hi
theorem PoIn.wide {W:World} {lo:Nat} {vo vs:Value} {mo:List MO} {ms:List ML} (h:PoIn W lo vo vs mo ms):PoW W lo W.heap.size vo vs mo ms :=
 ⟨h,⟨fun _ hg=>World.ownsRow.lt h.orow _ hg,fun x hx _ hg=>World.ownsRow.lt (h.has x hx) _ hg⟩,fun _ hg=>World.ownsRow.lt h.srow _ hg,fun x hx _ hg=>World.ownsRow.lt (h.pth x hx) _ hg⟩
theorem own_chg {W W':World} {base n k lo hi lo' hi':Nat} {e:TypeId} {v:Value} {xs:List Value} (h:W.ownsRow base e k v n xs) (hv:∀ g,v.ownBlock=some g->lo<=g/\g<hi) (hc:Chg lo' hi' W W') (ho:hi<=lo'∨hi'<=lo):W'.ownsRow base e k v n xs:=by
 obtain⟨hl,h⟩:=h
 refine⟨hl,?_⟩
 rcases h with h|⟨g,cap,cur,hvv,hg,hb,rest⟩
 ·exact .inl h
 ·have:=hv g (by rw[hvv];rfl)
  exact .inr ⟨g,cap,cur,hvv,hg,(hc.block g (lt_rowK hb) (by omega)).trans hb,rest⟩
theorem PoW.chg {W W':World} {lo hi lo' hi':Nat} {vo vs:Value} {mo:List MO} {ms:List ML} (h:PoW W lo hi vo vs mo ms) (hc:Chg lo' hi' W W') (ho:hi<=lo'∨hi'<=lo):PoW W' lo hi vo vs mo ms :=
 ⟨⟨own_chg h.inn.orow h.ib.1 hc ho,fun x hx=>own_chg (h.inn.has x hx) (h.ib.2 x hx) hc ho,h.inn.ap,own_chg h.inn.srow h.il hc ho,fun x hx=>own_chg (h.inn.pth x hx) (h.ip x hx) hc ho,h.inn.apl⟩,h.ib,h.il,h.ip⟩
theorem PoW.call {W W':World} {lo hi:Nat} {vo vs:Value} {mo:List MO} {ms:List ML} (h:PoW W lo hi vo vs mo ms) (hb:Below W.heap.size W W'):PoW W' lo hi vo vs mo ms:=⟨h.inn.call hb,h.ib,h.il,h.ip⟩
structure Fine (p:PO):Prop where
 many:p.os.length<=1024
 has:∀ o∈p.os,o.has.length<=1048576/\o.name.size<=maxLen
 sent:p.ss.length<=1048576
 path:∀ x∈p.ss,x.path.length<=1048576
def Ans (W:World) (lo hi:Nat) (vo vs:Value) (p:PO):Prop:=∃ mo ms,oths mo=p.os/\snts ms=p.ss/\PoW W lo hi vo vs mo ms
def AnsN (W:World) (lo hi:Nat) (vo vs:Value) (p:PO):Prop:=∃ mo ms,oths mo=p.os/\snts ms=p.ss/\PoW W lo hi vo vs mo ms/\NoPath ms
def AnsM (W:World) (lo hi:Nat) (vo vs:Value) (p:PO):Prop:=∃ m',Mkd W lo hi vo vs p.os p.ss.length m'
theorem Ans.shape {W:World} {lo hi:Nat} {vo vs:Value} {p:PO} (h:Ans W lo hi vo vs p):∃ ao co as' cs,vo=.slice ao p.os.length co/\vs=.slice as' p.ss.length cs:=by
 obtain⟨mo,ms,h1,h2,h3⟩:=h
 obtain⟨ao,co,e1,_,_⟩:=h3.inn.orow.one
 obtain⟨as',cs,e2,_,_⟩:=h3.inn.srow.one
 exact⟨ao,co,as',cs,by rw[e1,<-h1,oths_length],by rw[e2,<-h2,snts_length]⟩
theorem Ans.call {W W':World} {lo hi:Nat} {vo vs:Value} {p:PO} (h:Ans W lo hi vo vs p) (hb:Below W.heap.size W W'):Ans W' lo hi vo vs p:=by
 obtain⟨mo,ms,h1,h2,h3⟩:=h
 exact⟨mo,ms,h1,h2,h3.call hb⟩
theorem Ans.chg {W W':World} {lo hi lo' hi':Nat} {vo vs:Value} {p:PO} (h:Ans W lo hi vo vs p) (hc:Chg lo' hi' W W') (ho:hi<=lo'∨hi'<=lo):Ans W' lo hi vo vs p:=by
 obtain⟨mo,ms,h1,h2,h3⟩:=h
 exact⟨mo,ms,h1,h2,h3.chg hc ho⟩
theorem eqA {W:World} {lo hi lo' hi':Nat} {vo vs vo' vs':Value} {p:PO} (h:Ans W lo hi vo vs p) (h':Ans W lo' hi' vo' vs' p) (hf:Fine p) :
  Calls Tryz.prog 10 #[poV p.z p.b p.r p.s p.y vo vs p.c,poV p.z p.b p.r p.s p.y vo' vs' p.c] W fun e w'=>e=.returned (.bool true)/\Below W.heap.size W w':=by
 obtain⟨mo,ms,h1,h2,h3⟩:=h
 obtain⟨mo',ms',h1',h2',h3'⟩:=h'
 obtain⟨ao,co,e1,_,_⟩:=h3.inn.orow.one
 obtain⟨as',cs,e2,_,_⟩:=h3.inn.srow.one
 obtain⟨ao',co',e3,_,_⟩:=h3'.inn.orow.one
 obtain⟨as2,cs',e4,_,_⟩:=h3'.inn.srow.one
 have l1:mo'.length=mo.length:=by rw[<-oths_length mo',h1',<-h1,oths_length]
 have l2:ms'.length=ms.length:=by rw[<-snts_length ms',h2',<-h2,snts_length]
 rw[l1]at e3
 rw[l2]at e4
 subst e1 e2 e3 e4
 have k1:mo.length=p.os.length:=by rw[<-h1,oths_length]
 have k2:ms.length=p.ss.length:=by rw[<-h2,snts_length]
 have f1:=hf.many
 have f2:=hf.sent
 obtain⟨⟨a1,_⟩,a2,_⟩:=h3.inn.oths
 obtain⟨⟨b1,_⟩,b2,_⟩:=h3'.inn.oths
 exact eqPO_any p.z p.b p.r p.s p.y ao ao' as' as2 mo.length ms.length co co' cs cs' p.c mo mo' ms ms' W a1 b1 (h1.trans h1'.symm) rfl (by omega) (fun x hx=>hf.has x.1 (by rw[<-h1];exact List.mem_map_of_mem hx)) a2 b2 (h2.trans h2'.symm) rfl (by omega) (fun x hx=>hf.path x.1 (by rw[<-h2];exact List.mem_map_of_mem hx))
theorem mkE_far:∀ (l:List Oth) (k:Nat),(∀ o∈l,o.has.length<=1048576)->mkE k l<=k+1048580*l.length
 |[],k,_=>by unfold mkE;omega
 |o :: l,k,h=>by
  have h1:=mkE_far l (mkN k o) (fun x hx=>h x (List.mem_cons_of_mem _ hx))
  have h2:=h o (List.mem_cons_self ..)
  rw[mkE,List.length_cons]
  unfold mkN at h1 ⊢
  omega
def ansK (p:PO):Nat:=mkE 1 p.os+4*p.ss.length
theorem fine_far {p:PO} (hf:Fine p):ansK p<=1099511627776:=by
 have h1:=mkE_far p.os 1 (fun o ho=>(hf.has o ho).1)
 have h2:=hf.many
 have h3:=hf.sent
 unfold ansK
 omega
theorem markA {W:World} {lo hi:Nat} {vo vs:Value} {p:PO} (h:AnsN W lo hi vo vs p) (hf:Fine p) :
  Calls Tryz.prog 13 #[poV p.z p.b p.r p.s p.y vo vs p.c,.int .i64 1] W fun e w'=>e=.returned (.int .i64 (ansK p:Nat))/\AnsM w' lo hi vo vs p/\Chg lo hi W w':=by
 obtain⟨mo,ms,h1,h2,h3,h4⟩:=h
 have k1:mo.length=p.os.length:=by rw[<-h1,oths_length]
 have k2:ms.length=p.ss.length:=by rw[<-h2,snts_length]
 have f1:=hf.many
 have f2:=hf.sent
 have f3:=fine_far hf
 unfold ansK at f3
 have:=markPO_any p.z p.b p.r p.s p.y p.c lo hi vo vs mo ms W ⟨h3.inn.orow,h3.inn.has,h3.inn.ap,h3.ib⟩ ⟨h3.inn.srow,h3.il,h4⟩ (by omega) (fun x hx=>(hf.has x.1 (by rw[<-h1];exact List.mem_map_of_mem hx)).1) (by omega) (by rw[h1,k2];exact f3)
 rw[h1,k2]at this
 exact this
theorem heldA {W:World} {lo hi:Nat} {vo vs:Value} {p:PO} (h:AnsM W lo hi vo vs p) (hf:Fine p) :
  Calls Tryz.prog 14 #[poV p.z p.b p.r p.s p.y vo vs p.c,.int .i64 1] W fun e w'=>e=.returned (.int .i64 (ansK p:Nat))/\Below W.heap.size W w':=by
 obtain⟨m',h⟩:=h
 have f1:=hf.many
 exact heldPO_any p.z p.b p.r p.s p.y p.c lo hi vo vs p.os p.ss.length m' W h (by omega) (fun o ho=>(hf.has o ho).1) hf.sent (fine_far hf)
theorem cx_chgL {w W W':World} {l:List (Nat × Obj)} {lo hi:Nat} (h:Cx w W l) (hc:Chg lo hi W W') (hg:w.heap.size<=lo) (hne:∀ x∈l,x.1<lo∨hi<=x.1):Cx w W' l :=
 ⟨Chg.below h.low hc hg h.low.size,fun x hx=>(hc.block x.1 (lt_rowK (h.blk x hx)) (hne x hx)).trans (h.blk x hx)⟩
end Go.Proofs.YtpddanmnlkcdpaaGreatDoor.Pl


namespace Go.Proofs.YtpddanmnlkcdpaaGreatDoor.Pe
open Go.RowKit Go.ChangeShapes Go.WideShapes Go.ChangeAt Go.Deep
open Kp
open In (Ints)
theorem array6 {α:Type} {cs:Array α} (h:cs.size=6):∃ c0 c1 c2 c3 c4 c5,cs=#[c0,c1,c2,c3,c4,c5]:=by
 obtain⟨l⟩:=cs
 match l,h with
 |[c0,c1,c2,c3,c4,c5],_=>exact⟨c0,c1,c2,c3,c4,c5,rfl⟩
theorem list5 {α:Type} {cs:List α} (h:cs.length=5):∃ c0 c1 c2 c3 c4,cs=[c0,c1,c2,c3,c4]:=by
 match cs,h with
 |[c0,c1,c2,c3,c4],_=>exact⟨c0,c1,c2,c3,c4,rfl⟩
theorem cellsPeer:Tryz.prog.cellsOf 28=6:=by kernel_rfl
theorem cellsOther:Tryz.prog.cellsOf 106=5:=by kernel_rfl
theorem cellsIs:Tryz.prog.cellsOf 84=1:=by kernel_rfl
theorem cellsOs:Tryz.prog.cellsOf 26=1:=by kernel_rfl
theorem choose_list {α:Type} {P:Nat->α->Prop}:∀ n,(∀ i,i<n->∃ x,P i x)->∃ m:List α,m.length=n/\∀ i (h:i<m.length),P i m[i]
 |0,_=>⟨[],rfl,fun i h=>absurd h (Nat.not_lt_zero _)⟩
 |n+1,h=>by
  obtain⟨m,hl,hm⟩:=choose_list n (fun i hi=>h i (by omega))
  obtain⟨x,hx⟩:=h n (by omega)
  refine⟨m++[x],by rw[List.length_append,hl];rfl,fun i hi=>?_⟩
  by_cases hin:i<m.length
  ·rw[List.getElem_append_left hin]
   exact hm i hin
  ·rw[List.length_append]at hi
   simp at hi
   obtain rfl:i=m.length:=by omega
   rw[List.getElem_append_right (Nat.le_refl _)]
   simp
   rw[hl]
   exact hx
section
variable {H : Type} {enc : TypeId × Value → H} {W : World} {base : Nat} {sp : Nat → Bool} {held : Bool}
theorem trod_struct5 {t:TypeId} {f0 f1 f2 f3 f4:Field} {fuel:Nat} {cs:List Value} {x:DataW H × List MemPlace} (ht:Tryz.prog.underlying t=some (.struct #[f0,f1,f2,f3,f4])) (h:DataW.trod enc Tryz.prog W base sp held fuel t cs=some x) :
  ∃ y0 y1 y2 y3 y4 n,cs.length=Tryz.prog.cellsOf t/\DataW.trod enc Tryz.prog W base sp held n f0.type ((cs.drop f0.offset).take (Tryz.prog.cellsOf f0.type))=some y0 /\
   DataW.trod enc Tryz.prog W base sp held n f1.type ((cs.drop f1.offset).take (Tryz.prog.cellsOf f1.type))=some y1/\DataW.trod enc Tryz.prog W base sp held n f2.type ((cs.drop f2.offset).take (Tryz.prog.cellsOf f2.type))=some y2 /\
   DataW.trod enc Tryz.prog W base sp held n f3.type ((cs.drop f3.offset).take (Tryz.prog.cellsOf f3.type))=some y3/\DataW.trod enc Tryz.prog W base sp held n f4.type ((cs.drop f4.offset).take (Tryz.prog.cellsOf f4.type))=some y4:=by
 obtain⟨xs,n,_,rfl,hl,hlen,hf⟩:=DataW.trod_struct ht h
 match xs,hlen with
 |[y0,y1,y2,y3,y4],_=>exact⟨y0,y1,y2,y3,y4,n,hl,by simpa using hf 0 f0 rfl,by simpa using hf 1 f1 rfl,by simpa using hf 2 f2 rfl,by simpa using hf 3 f3 rfl,by simpa using hf 4 f4 rfl⟩
theorem open_has {fuel:Nat} {c:Value} {x:DataW H × List MemPlace} (h:DataW.trod enc Tryz.prog W base sp held fuel 84 [c]=some x):∃ (a:Option Addr) (cap:Nat) (l:List Int),c=.slice a l.length cap/\l.length<=cap/\(a=none->cap=0)/\Ints W W.heap.size a l/\l.length<=maxLen:=by
 rcases open_ints Tryz.underlying84 Tryz.underlying2 (by kernel_rfl) h with⟨hcs,_⟩|⟨x,l,c',zs,hcs,_,hl,hm,hz,_,hcell,hwz⟩
 ·simp at hcs
  exact⟨none,0,[],by rw[hcs];rfl,Nat.le_refl _,fun _=>rfl,.inl rfl,by decide⟩
 ·simp at hcs
  have hzl:l<=zs.length:=by rw[hz];split<;>omega
  refine⟨some x,c',zs.take l,(by rw[hcs,List.length_take,Nat.min_eq_left hzl]),(by rw[List.length_take];omega),(fun h=>(by cases h)),?_,(by rw[List.length_take];omega)⟩
  rcases Nat.eq_zero_or_pos l with h0|h0
  ·subst h0
   exact .inl (List.take_zero ..)
  ·obtain⟨b,off,spot⟩:=x
   have hc0:=hcell 0 (by omega)
   have hspot:spot=none:=by simpa [Addr.add] using World.cell?_spot hc0
   subst hspot
   have e:∀ i,(⟨b,off,none⟩:Addr).add i=⟨b,off+i,none⟩:=fun i=>by unfold Addr.add;split<;>simp_all
   have hlt:=World.block_lt_of_cell? W _ hc0
   rw[e 0]at hlt
   refine .inr ⟨b,off,rfl,hlt,fun j hj=>?_⟩
   rw[List.length_take]at hj
   have hj':j<zs.length:=by omega
   rw[<-e j,hcell j hj',List.getElem_take,List.getD_eq_getElem?_getD,List.getElem?_eq_getElem hj']
   rfl
theorem open_other {fuel:Nat} {cs:List Value} {x:DataW H × List MemPlace} (h:DataW.trod enc Tryz.prog W base sp held fuel 106 cs=some x):∃ y:MO,cs=five y/\HasAt W W.heap.size y/\y.1.has.length<=maxLen/\y.1.name.size<=maxLen:=by
 obtain⟨y0,y1,y2,y3,y4,n,hl,h0,h1,h2,h3,h4⟩:=trod_struct5 Tryz.underlying106 h
 obtain⟨c0,c1,c2,c3,c4,rfl⟩:=list5 (hl.trans cellsOther)
 simp only[cellsStr,cellsI64,cellsIs,List.drop_succ_cons,List.drop_zero,List.take_succ_cons,List.take_zero]at h0 h1 h2 h3 h4
 obtain⟨nm,hnm,_,wn⟩:=DataW.trod_string Tryz.underlying9 h0
 obtain⟨a,cap,l,hc1,hlc,hno,hi,hlm⟩:=open_has h1
 obtain⟨q,hq,_,wq⟩:=DataW.trod_int Tryz.underlying2 h2
 obtain⟨g,hg,_,wg⟩:=DataW.trod_int Tryz.underlying2 h3
 obtain⟨t,ht,_,wt⟩:=DataW.trod_int Tryz.underlying2 h4
 simp at hnm hq hg ht
 subst hnm hc1 hq hg ht
 exact⟨(⟨nm,l,q,g,t⟩,.slice a l.length cap),rfl,⟨a,cap,rfl,hlc,hno,hi⟩,hlm,wn⟩
theorem open_oths {fuel:Nat} {c:Value} {x:DataW H × List MemPlace} (h:DataW.trod enc Tryz.prog W base sp held fuel 26 [c]=some x):∃ (a:Option Addr) (n cap:Nat) (m:List MO),c=.slice a n cap/\m.length=n/\n<=maxLen/\Oths W W.heap.size a m/\Lens m:=by
 rcases open_slice Tryz.underlying26 h with⟨hcs,_⟩|⟨a,len,cap,k,n,D,Pl,hcs,_,hl,hm,hk,_,hel⟩
 ·simp at hcs
  exact⟨none,0,0,[],hcs,rfl,by decide,oths_nil _ _ _,fun x hx=>absurd hx List.not_mem_nil⟩
 ·simp at hcs
  have hlk:len<=k:=by rw[hk];split<;>omega
  obtain⟨b0,off0,spot⟩:=a
  have hspot:0<len->spot=none:=fun h0=>by
   obtain⟨cs',hc,ht⟩:=hel 0 (by omega)
   obtain⟨y,hy,_⟩:=open_other ht
   rw[cellsOther,hy]at hc
   have q0:W.cell? (((⟨b0,off0,spot⟩:Addr).add (0*5)).add 0)=some (.string y.1.name):=(World.cells?_some hc).2.2 0 (by decide)
   simpa [Addr.add] using World.cell?_spot q0
  obtain⟨m,hml,hmp⟩:=choose_list (P:=fun i (y:MO)=>(∃ b off,(⟨b0,off0,spot⟩:Addr)=⟨b,off,none⟩/\b<W.heap.size/\FiveAt W b (off+i*5) y)/\HasAt W W.heap.size y/\y.1.has.length<=maxLen/\y.1.name.size<=maxLen) len (fun i hi=>by
   obtain⟨cs',hc,ht⟩:=hel i (by omega)
   obtain⟨y,hy,h1,h2,h3⟩:=open_other ht
   refine⟨y,?_,h1,h2,h3⟩
   rw[cellsOther,hy]at hc
   have hcc:=(World.cells?_some hc).2.2
   have q0:=hcc 0 (by decide)
   have q1:=hcc 1 (by decide)
   have q2:=hcc 2 (by decide)
   have q3:=hcc 3 (by decide)
   have q4:=hcc 4 (by decide)
   obtain rfl:=hspot (by omega)
   have e:∀ i j,((⟨b0,off0,none⟩:Addr).add i).add j=⟨b0,off0+i+j,none⟩:=fun i j=>by rw[Addr.add_lit,Addr.add_lit]
   rw[e]at q0 q1 q2 q3 q4
   simp[five]at q0 q1 q2 q3 q4
   exact⟨b0,off0,rfl,World.block_lt_of_cell? W _ q0,q0,q1,q2,q3,q4⟩)
  refine⟨some ⟨b0,off0,spot⟩,len,cap,m,hcs,hml,by omega,⟨?_,fun y hy=>?_⟩,fun y hy=>?_⟩
  ·rcases Nat.eq_zero_or_pos len with h0|h0
   ·exact .inl (List.eq_nil_of_length_eq_zero (by omega))
   ·obtain⟨⟨b,off,he0,hb,_⟩,_⟩:=hmp 0 (by omega)
    simp at he0
    obtain⟨rfl,rfl,rfl⟩:=he0
    refine .inr ⟨b0,off0,rfl,hb,fun j hj=>?_⟩
    obtain⟨⟨b',off',he,_,hf⟩,_⟩:=hmp j hj
    simp at he
    obtain⟨rfl,rfl⟩:=he
    exact hf
  ·obtain⟨j,hj,rfl⟩:=List.getElem_of_mem hy
   exact(hmp j hj).2.1
  ·obtain⟨j,hj,rfl⟩:=List.getElem_of_mem hy
   exact(hmp j hj).2.2
theorem open_peer {rc:Reach} {b0:Nat} {v:Value} {d:DataW H} {p:List MemPlace}
  (hv:Value.okWide Tryz.prog W rc b0 28 v) (h:DataW.Trod enc Tryz.prog W base sp held 28 v d p) :
  ∃ (z b:Int) (r s:ByteArray) (y:Int) (a:Option Addr) (n cap:Nat) (m:List MO),v=lpV z b r s y (.slice a n cap)/\r.size<=maxLen/\s.size<=maxLen/\m.length=n/\n<=maxLen/\Oths W W.heap.size a m/\Lens m:=by
 obtain⟨cs,rfl,hsz⟩:=okWide_struct Tryz.underlying28 hv
 obtain⟨c0,c1,c2,c3,c4,c5,rfl⟩:=array6 (hsz.trans cellsPeer)
 obtain⟨fuel,hf⟩:=h
 obtain⟨y0,y1,n,_,_,hk,ho⟩:=trod_struct2 Tryz.underlying28 hf
 simp only[cellsKeep,cellsOs,Value.cells,List.drop_succ_cons,List.drop_zero,List.take_succ_cons,List.take_zero]at hk ho
 obtain⟨y2,y3,y4,n',_,_,h0,h1,h2⟩:=trod_struct3 Tryz.underlying25 hk
 simp only[cellsList,cellsStr,cellsI64,List.drop_succ_cons,List.drop_zero,List.take_succ_cons,List.take_zero]at h0 h1 h2
 obtain⟨x0,x1,x2,m',_,_,k0,k1,k2⟩:=trod_struct3 Tryz.underlying23 h0
 simp only[cellsStr,cellsI64,List.drop_succ_cons,List.drop_zero,List.take_succ_cons,List.take_zero]at k0 k1 k2
 obtain⟨z,hz,_,wz⟩:=DataW.trod_int Tryz.underlying2 k0
 obtain⟨b,hb,_,wb⟩:=DataW.trod_int Tryz.underlying2 k1
 obtain⟨r,hr,_,wr⟩:=DataW.trod_string Tryz.underlying9 k2
 obtain⟨s,hs,_,ws⟩:=DataW.trod_string Tryz.underlying9 h1
 obtain⟨y,hy,_,wy⟩:=DataW.trod_int Tryz.underlying2 h2
 obtain⟨a,k,cap,m,hc5,hm,hkm,hos,hl⟩:=open_oths ho
 simp at hz hb hr hs hy
 subst hz hb hr hs hy hc5
 exact⟨z,b,r,s,y,a,k,cap,m,rfl,wr,ws,hm,hkm,hos,hl⟩
end
end Go.Proofs.YtpddanmnlkcdpaaGreatDoor.Pe


/- The laws' marks in one letter with its path. -/
namespace Go.Proofs.YtpddanmnlkcdpaaGreatDoor.Pl
open Go.RowKit
open Kp
open Pe
open Ls (lowL)
open St (markT markT_any OwnIn IsO mark_from marks marks_length Aft)
structure Row1 (W:World) (lo hi:Nat) (v:Value) (x:Snt) (pv:Value):Prop where
 row:OwnL W lo v [(x,pv)]
 inb:∀ g,v.ownBlock=some g->lo<=g/\g<hi
 pth:OwnIn W lo hi pv x.path
def KeepLS (W W':World):Prop:=∀ (k:Nat) (cs:Array Value) (T:TypeId),W.heap[k]? = some (.cells cs T (0,0))->T≠114->T≠9->W'.heap[k]? = some (.cells cs T (0,0))
theorem KeepLS.trans {W W' W'':World} (h:KeepLS W W') (h':KeepLS W' W''):KeepLS W W'':=fun k cs T hk h1 h2=>h' k cs T (h k cs T hk h1 h2) h1 h2
theorem KeepLS.below {W W':World} (h:Below W.heap.size W W'):KeepLS W W':=fun k _ _ hk _ _=>(h.block k (lt_rowK hk)).trans hk
theorem KeepLS.set {W:World} {g:Nat} {cs:Array Value} {T:TypeId} (hg:W.heap[g]? = some (.cells cs T (0,0))) (hT:T=114∨T=9) (i:Nat) (v:Value):KeepLS W (W.setCell ⟨g,i,none⟩ v):=fun k cs' T' hk h1 h2=>by
 rw[heap_setCell_other W _ k v (by
  rintro rfl
  rw[hg]at hk
  cases hk
  rcases hT with h|h
  ·exact h1 h
  ·exact h2 h)]
 exact hk
theorem ownIn_keeps {W W':World} {lo hi:Nat} {v:Value} {l:List ByteArray} (h:OwnIn W lo hi v l) (k:KeepsS W W'):OwnIn W' lo hi v l:=by
 rcases h with h|⟨g,cap,hv,h1,h2,cur,hg,hj⟩
 ·exact .inl h
 ·exact .inr ⟨g,cap,hv,h1,h2,cur,k g cur hg,hj⟩
def mkP (k n:Nat):Snt:=⟨markT k,((k+1:Nat):Int),((k+2:Nat):Int),markT (k+3),marks (k+4) n⟩
theorem Row1.call {W W':World} {lo hi:Nat} {v:Value} {x:Snt} {pv:Value} (h:Row1 W lo hi v x pv) (hb:Below W.heap.size W W'):Row1 W' lo hi v x pv:=⟨h.row.below hb,h.inb,ownIn_keeps h.pth (KeepsS.below hb)⟩
theorem Row1.blk {W:World} {lo hi:Nat} {v:Value} {x:Snt} {pv:Value} (h:Row1 W lo hi v x pv):∃ g cap cur,v=.slice (some ⟨g,0,none⟩) 1 cap/\W.heap[g]? = some (.cells cur 114 (0,0))/\lo<=g/\g<hi:=by
 obtain⟨_,h2⟩:=h.row
 rcases h2 with⟨_,h0⟩|⟨g,cap,cur,hv,hlo,hb,_⟩
 ·cases h0
 ·have:=h.inb g (by rw[hv];rfl)
  exact⟨g,cap,cur,hv,hb,hlo,this.2⟩
theorem keepsS_sent {W:World} {g:Nat} {cs:Array Value} (hg:W.heap[g]? = some (.cells cs 114 (0,0))) (i:Nat) (v:Value):KeepsS W (W.setCell ⟨g,i,none⟩ v):=KeepsS.set hg (by decide) i v
theorem Row1.set {W:World} {lo hi g cap i:Nat} {x y:Snt} {pv u:Value} (h:Row1 W lo hi (.slice (some ⟨g,0,none⟩) 1 cap) x pv) (he:(cellsL [(x,pv)]).set i u=cellsL [(y,pv)]) (hp:y.path=x.path):Row1 (W.setCell ⟨g,i,none⟩ u) lo hi (.slice (some ⟨g,0,none⟩) 1 cap) y pv/\KeepLS W (W.setCell ⟨g,i,none⟩ u):=by
 obtain⟨g',cap',cur,hv,hb,_,_⟩:=h.blk
 obtain⟨rfl,rfl⟩:g=g'/\cap=cap':=by simp at hv;exact hv
 have R0:W.ownsRow lo 114 5 (.slice (some ⟨g,0,none⟩) 1 cap) 1 (cellsL [(x,pv)]):=h.row
 have R1:=own_set (p:=i) R0 u
 rw[he]at R1
 exact⟨⟨R1,h.inb,by rw[hp];exact ownIn_keeps h.pth (keepsS_sent hb i u)⟩,KeepLS.set hb (.inl rfl) i u⟩
theorem Row1.cells {W:World} {lo hi g cap:Nat} {x:Snt} {pv:Value} (h:Row1 W lo hi (.slice (some ⟨g,0,none⟩) 1 cap) x pv):(W.cell? ⟨g,0,none⟩=some (.string x.who))/\(W.cell? ⟨g,1,none⟩=some (.int .i64 x.kind))/\(W.cell? ⟨g,2,none⟩=some (.int .i64 x.index))/\(W.cell? ⟨g,3,none⟩=some (.string x.piece))/\(W.cell? ⟨g,4,none⟩=some pv)/\∀ t,W.frozen? ⟨g,t,none⟩=false:=by
 obtain⟨g',cap',cur,hv,hb,_,_⟩:=h.blk
 obtain⟨rfl,rfl⟩:g=g'/\cap=cap':=by simp at hv;exact hv
 have R0:W.ownsRow lo 114 5 (.slice (some ⟨g,0,none⟩) 1 cap) 1 (cellsL [(x,pv)]):=h.row
 exact⟨(own_cell (p:=0) R0 rfl).1,(own_cell (p:=1) R0 rfl).1,(own_cell (p:=2) R0 rfl).1,(own_cell (p:=3) R0 rfl).1,(own_cell (p:=4) R0 rfl).1,fun t=>frozen_of_row W g t _ _ hb⟩
end Go.Proofs.YtpddanmnlkcdpaaGreatDoor.Pl


namespace Go.Proofs.YtpddanmnlkcdpaaGreatDoor.Pl
open Go.RowKit
open Kp
open Pe
open Ls (lowL)
open St (markT markT_any OwnIn IsO mark_from marks marks_length Aft)
theorem markP_from {W:World} {lo hi g cap:Nat} {x:Snt} {pv:Value} (h:Row1 W lo hi (.slice (some ⟨g,0,none⟩) 1 cap) x pv) (q:Nat) (hn:x.path.length<=1048576) (h0:0<q) (hq:q<=549755813888) :
  Calls Tryz.prog 52 #[pv,.int .i64 q] W fun e w'=>e=.returned (.int .i64 ((q+x.path.length:Nat):Int))/\Row1 w' lo hi (.slice (some ⟨g,0,none⟩) 1 cap) ⟨x.who,x.kind,x.index,x.piece,marks q x.path.length⟩ pv/\Chg lo hi W w'/\KeepLS W w':=by
 obtain⟨wh,kd,ix,pc,p⟩:=x
 dsimp only at hn ⊢
 rcases h.pth with⟨rfl,hp⟩|⟨g2,c2,rfl,h1,h2,ho⟩
 ·dsimp only at hp
  subst hp
  refine(markS_nil none 0 q W).mono ?_
  rintro e w' ⟨rfl,rfl⟩
  exact⟨rfl,h,Chg.refl _ _ _,KeepLS.below (Below.refl _ _)⟩
 ·dsimp only at ho ⊢
  refine(mark_from g2 9 c2 q p W ho hn h0 hq).mono ?_
  rintro e w' ⟨rfl,hi',ha⟩
  obtain⟨ha1,ha2,ha3,ha4,ha5⟩:=ha
  have hb2:=ho
  obtain⟨cs2,hcs2,_⟩:=hb2
  have hk:∀ k o,W.heap[k]? = some o->k≠g2->w'.heap[k]? = some o:=fun k o hko hne=>(ha5 k (lt_rowK hko) hne).trans hko
  refine⟨rfl,⟨own_others (show OwnL W lo _ _ from h.row) hcs2 (by decide) hk,h.inb,.inr ⟨g2,c2,by rw[marks_length],h1,h2,hi'⟩⟩,⟨ha1,ha2,ha3,ha4,fun k hk' hne=>ha5 k hk' (by omega)⟩,fun k cs T hkb _ hT=>hk k _ hkb (by
   rintro rfl
   rw[hcs2]at hkb
   cases hkb
   exact hT rfl)⟩
theorem mark1_any (k lo hi:Nat) (v:Value) (x:Snt) (pv:Value) (w:World) (h:Row1 w lo hi v x pv) (hn:x.path.length<=1048576) (h0:0<k) (hk:k<=274877906944) :
  Calls Tryz.prog 44 #[v,.int .i64 k] w fun e w'=>e=.returned (.int .i64 ((k+4+x.path.length:Nat):Int))/\Row1 w' lo hi v (mkP k x.path.length) pv/\Chg lo hi w w'/\KeepLS w w':=by
 obtain⟨g,cap,cur,hv,hb,hlo,hghi⟩:=h.blk
 subst hv
 have HR:=hideK h
 have HMT:=hideK (fun W=>markT_any k W h0 (by omega))
 have HMT3:=hideK (fun W=>markT_any (k+3) W (by omega) (by omega))
 have HMP:=hideK (fun W (y:Snt) (hy:Row1 W lo hi (.slice (some ⟨g,0,none⟩) 1 cap) y pv) (hl:y.path.length<=1048576)=>markP_from hy (k+4) hl (by omega) (by omega))
 have hb9:(k:Int)<=274877906944:=by omega
 have hb8:0<=(k:Int):=by omega
 have HKE:Hid (mkP k x.path.length=⟨markT k,((k+1:Nat):Int),((k+2:Nat):Int),markT (k+3),marks (k+4) x.path.length⟩):=rfl
 rw[show ((k+1:Nat):Int)=(k:Int)+1 by omega,show ((k+2:Nat):Int)=(k:Int)+1+1 by omega]at HKE
 rw[show ((k+3:Nat):Int)=(k:Int)+1+1+1 by omega]at HMT3
 rw[show ((k+4:Nat):Int)=(k:Int)+1+1+1+1 by omega]at HMP
 generalize ((k:Nat):Int)=K at *
 generalize markT k=t0 at HMT HKE
 generalize markT (k+3)=t3 at HMT3 HKE
 clear h hb h0 hk
 go_enter Tryz.func44,Tryz.ntmps44
 go_wp2_with fail
 go_loopw [5,1] (fun i kv wr=>(i=.int .i64 0/\kv=.int .i64 K/\wr=w)∨(i=.int .i64 1/\kv=.int .i64 ((k+4+x.path.length:Nat):Int)/\Row1 wr lo hi (.slice (some ⟨g,0,none⟩) 1 cap) (mkP k x.path.length) pv/\Chg lo hi w wr/\KeepLS w wr)) (fun i _ _=>1-(intOf i).toNat)
 case atStart=>exact .inl ⟨rfl,rfl,rfl⟩
 case round =>
  rcases hrel with⟨rfl,rfl,hw⟩|⟨rfl,rfl,hr,hc,hkk⟩
  ·subst hw
   go_wp2_with fail
   refine(HMT.out _).mono ?_
   rintro e w1 ⟨rfl,hb1⟩
   have R1:=hideK (HR.out.call hb1)
   have C1:=hideK ((Chg.refl lo hi wr).call hb1)
   have K1:=hideK (KeepLS.below hb1)
   obtain⟨y0,y1,y2,y3,y4,ff⟩:=R1.out.cells
   have s1:=R1.out.set (i:=0) (y:=⟨t0,x.kind,x.index,x.piece,x.path⟩) (u:=.string t0) rfl rfl
   have s2:=s1.1.set (i:=1) (y:=⟨t0,K+1,x.index,x.piece,x.path⟩) (u:=.int .i64 (K+1)) rfl rfl
   have s3:=s2.1.set (i:=2) (y:=⟨t0,K+1,K+1+1,x.piece,x.path⟩) (u:=.int .i64 (K+1+1)) rfl rfl
   have R4:=hideK s3.1
   have K4:=hideK (((K1.out.trans s1.2).trans s2.2).trans s3.2)
   have C4:=hideK (((C1.out.set (i:=0) hlo hghi (.string t0)).set (i:=1) hlo hghi (.int .i64 (K+1))).set (i:=2) hlo hghi (.int .i64 (K+1+1)))
   clear hb1 HMT s1 s2 s3 K1 C1
   go_upto_region 10 with fail
   generalize ((w1.setCell ⟨g,0,none⟩ (.string t0)).setCell ⟨g,1,none⟩ (.int .i64 (K+1))).setCell ⟨g,2,none⟩ (.int .i64 (K+1+1))=W4 at C4 R4 K4 ⊢
   clear y0 y1 y2 y3 y4 ff R1
   go_wp2_with fail
   refine(HMT3.out _).mono ?_
   rintro e w5 ⟨rfl,hb5⟩
   have R5:=hideK (R4.out.call hb5)
   obtain⟨y0,y1,y2,y3,y4,ff⟩:=R5.out.cells
   have s6:=R5.out.set (i:=3) (y:=⟨t0,K+1,K+1+1,t3,x.path⟩) (u:=.string t3) rfl rfl
   have R6:=hideK s6.1
   have K6:=hideK ((K4.out.trans (KeepLS.below hb5)).trans s6.2)
   have C6:=hideK ((C4.out.call hb5).set (i:=3) hlo hghi (.string t3))
   clear hb5 HMT3 R4 C4 K4 s6
   go_upto_region 12 with fail
   generalize w5.setCell ⟨g,3,none⟩ (.string t3)=W6 at R6 C6 K6 ⊢
   clear y0 y1 y2 y3 y4 ff R5
   obtain⟨_,_,_,_,y4,_⟩:=R6.out.cells
   have HM6:=hideK (HMP.out W6 _ R6.out hn)
   dsimp only at HM6
   go_wp2_with fail
   refine(HM6.out).mono ?_
   rintro e w7 ⟨rfl,hr7,hc7,hk7⟩
   have R7:=hideK hr7
   have C7:=hideK (Pl.Chg.more C6.out hc7)
   have K7:=hideK (K6.out.trans hk7)
   clear hr7 hc7 hk7 HM6 y4
   go_wp2_with fail
   go_roundw
   case rel=>exact .inr ⟨by go_num,rfl,by rw[HKE.out];exact R7.out,C7.out,K7.out⟩
   case measure=>simp[intOf]
  ·have R:=hideK hr
   have C:=hideK hc
   have KK:=hideK hkk
   clear hr hc hkk
   go_wp2_with fail
   go_ret
   exact⟨rfl,R.out,C.out,KK.out⟩
end Go.Proofs.YtpddanmnlkcdpaaGreatDoor.Pl


namespace Go.Proofs.YtpddanmnlkcdpaaGreatDoor.Pl
open Go.RowKit
open Kp
open Pe
open Ls (lowL)
open St (markT markT_any OwnIn IsO held_from marks marks_length)
theorem heldP_from {W:World} {lo hi q n:Nat} {pv:Value} (h:OwnIn W lo hi pv (marks q n)) (hn:n<=1048576) (h0:0<q) (hq:q<=549755813888) :
  Calls Tryz.prog 84 #[pv,.int .i64 q] W fun e w'=>e=.returned (.int .i64 ((q+n:Nat):Int))/\Below W.heap.size W w':=by
 rcases h with⟨rfl,hp⟩|⟨g2,c2,rfl,h1,h2,ho⟩
 ·have:n=0:=by rw[<-marks_length q n,hp];rfl
  subst this
  refine(heldS_nil none 0 q W).mono ?_
  rintro e w' ⟨rfl,rfl⟩
  exact⟨rfl,Below.refl _ _⟩
 ·rw[marks_length]
  exact held_from g2 9 c2 n q W ho hn h0 hq
theorem held1_any (k lo hi n:Nat) (v pv:Value) (w:World) (h:Row1 w lo hi v (mkP k n) pv) (hn:n<=1048576) (h0:0<k) (hk:k<=274877906944) :
  Calls Tryz.prog 46 #[v,.int .i64 k] w fun e w'=>e=.returned (.int .i64 ((k+4+n:Nat):Int))/\Below w.heap.size w w':=by
 obtain⟨g,cap,cur,hv,hb,hlo,hghi⟩:=h.blk
 subst hv
 have hgz:=lt_rowK hb
 have hmx:=mixedK
 obtain⟨d0,d1,d2,d3,d4,_⟩:=h.cells
 have HPT:=hideK (fun W (hW:Below w.heap.size w W)=>heldP_from (show OwnIn W lo hi pv (marks (k+4) n) from (h.call hW).pth) hn (by omega) (by omega))
 have HMT:=hideK (fun W=>markT_any k W h0 (by omega))
 have HMT3:=hideK (fun W=>markT_any (k+3) W (by omega) (by omega))
 have hpvs:∃ a m c,pv=.slice a m c:=by
  rcases h.pth with⟨rfl,_⟩|⟨g2,c2,rfl,_⟩
  ·exact⟨_,_,_,rfl⟩
  ·exact⟨_,_,_,rfl⟩
 obtain⟨pa,pm,pc,rfl⟩:=hpvs
 unfold mkP at d0 d1 d2 d3
 dsimp only at d0 d1 d2 d3
 have hb9:(k:Int)<=274877906944:=by omega
 have hb8:0<=(k:Int):=by omega
 have hEp:¬((k+4+n:Nat):Int)<0:=by omega
 rw[show ((k+1:Nat):Int)=(k:Int)+1 by omega]at d1
 rw[show ((k+2:Nat):Int)=(k:Int)+1+1 by omega]at d2
 rw[show ((k+3:Nat):Int)=(k:Int)+1+1+1 by omega]at HMT3
 rw[show ((k+4:Nat):Int)=(k:Int)+1+1+1+1 by omega]at HPT
 generalize ((k+4+n:Nat):Int)=E at *
 generalize ((k:Nat):Int)=K at *
 generalize markT k=t0 at d0 HMT
 generalize markT (k+3)=t3 at d3 HMT3
 have ht:(t0.toList==t0.toList)=true:=by simp
 have ht3:(t3.toList==t3.toList)=true:=by simp
 have hK1:(K+1 != K+1)=false:=by simp
 have hK2:(K+1+1 != K+1+1)=false:=by simp
 clear h hb h0 hk
 go_enter Tryz.func46,Tryz.ntmps46
 go_wp2_with fail
 go_loopw [5,1] (fun i kv wr=>(i=.int .i64 0/\kv=.int .i64 K/\wr=w)∨(i=.int .i64 1/\kv=.int .i64 E/\Below w.heap.size w wr)) (fun i _ _=>1-(intOf i).toNat)
 case atStart=>exact .inl ⟨rfl,rfl,rfl⟩
 case round =>
  rcases hrel with⟨rfl,rfl,hw⟩|⟨rfl,rfl,hbel⟩
  ·subst hw
   have r0:=fun d os=>cell_regrown d0 d os
   go_wp2_with fail
   refine wp_region_quiet_below (by assumption) (by kernel_rfl) ?_
   repeat (go_big_quiet_step ((go_at_call 81;exact Calls.regrown_of (HMT.out _))))
   refine wpQuiet_nil ?_
   intro _ hw'
   obtain⟨⟨dq,osq⟩,hw''⟩:=hw'
   subst hw''
   have BR:=below_regrown wr dq osq
   have K8:=hideK BR
   have e1:=(BR.cell (p:=⟨g,1,none⟩) hgz).trans d1
   have e2:=(BR.cell (p:=⟨g,2,none⟩) hgz).trans d2
   have e3:=(BR.cell (p:=⟨g,3,none⟩) hgz).trans d3
   have e4:=(BR.cell (p:=⟨g,4,none⟩) hgz).trans d4
   have hg8:=Nat.lt_of_lt_of_le hgz BR.size
   clear d0 d1 d2 d3 d4 r0 BR HMT
   generalize Go.Sort.grow (redrawn wr dq) osq=w8 at K8 e1 e2 e3 e4 hg8 ⊢
   have r3:=fun d os=>cell_regrown e3 d os
   go_wp2_with fail
   refine wp_region_quiet_below (by assumption) (by kernel_rfl) ?_
   repeat (go_big_quiet_step ((go_at_call 81;exact Calls.regrown_of (HMT3.out _))))
   refine wpQuiet_nil ?_
   intro _ hw'
   obtain⟨⟨dq3,osq3⟩,hw''⟩:=hw'
   subst hw''
   have BR:=below_regrown w8 dq3 osq3
   have K9:=hideK (lowL K8.out BR)
   have f4:=(BR.cell (p:=⟨g,4,none⟩) hg8).trans e4
   clear e1 e2 e3 e4 r3 BR HMT3
   generalize Go.Sort.grow (redrawn w8 dq3) osq3=w9 at K9 f4 ⊢
   have HP9:=hideK (HPT.out w9 K9.out)
   clear HPT
   go_wp2_with fail
   refine(HP9.out).mono ?_
   rintro e w10 ⟨rfl,hbp⟩
   have K10:=hideK (lowL K9.out hbp)
   clear hbp K9 HP9 f4
   go_wp2_with fail
   go_roundw
   case rel=>exact .inr ⟨by go_num,rfl,K10.out⟩
   case measure=>simp[intOf]
  ·have KB:=hideK hbel
   clear hbel
   go_wp2_with fail
   go_ret
   exact⟨rfl,KB.out⟩
end Go.Proofs.YtpddanmnlkcdpaaGreatDoor.Pl


namespace Go.Proofs.YtpddanmnlkcdpaaGreatDoor.Pl
open Go.RowKit
open Kp
open Pe
open Ls (lowL)
open St (markT OwnIn IsO marks marks_length)
theorem RowM.keepLS {W W':World} {lo hi:Nat} {v:Value} {m:List MO} (h:RowM W lo hi v m) (hk:KeepLS W W'):RowM W' lo hi v m:=by
 refine⟨?_,fun x hx=>?_,h.ap,h.inb⟩
 ·obtain⟨hl,h⟩:=h.row
  refine⟨hl,?_⟩
  rcases h with h|⟨g,cap,cur,hv,hg,hb,rest⟩
  ·exact .inl h
  ·exact .inr ⟨g,cap,cur,hv,hg,hk g _ _ hb (by decide) (by decide),rest⟩
 ·obtain⟨hl,h⟩:=h.has x hx
  refine⟨hl,?_⟩
  rcases h with h|⟨g,cap,cur,hv,hg,hb,rest⟩
  ·exact .inl h
  ·exact .inr ⟨g,cap,cur,hv,hg,hk g _ _ hb (by decide) (by decide),rest⟩
theorem Row1.keepO {W W':World} {lo hi:Nat} {v:Value} {x:Snt} {pv:Value} (h:Row1 W lo hi v x pv) (hk:KeepO W W'):Row1 W' lo hi v x pv:=by
 refine⟨?_,h.inb,ownIn_keeps h.pth (fun g cur hg=>hk g cur _ hg (by decide) (by decide))⟩
 obtain⟨hl,h⟩:=h.row
 refine⟨hl,?_⟩
 rcases h with h|⟨g,cap,cur,hv,hg,hb,rest⟩
 ·exact .inl h
 ·exact .inr ⟨g,cap,cur,hv,hg,hk g _ _ hb (by decide) (by decide),rest⟩
theorem markPO1 (z b:Int) (r s:ByteArray) (y:Int) (c:Int) (lo hi:Nat) (vo vs:Value) (mo:List MO) (x:Snt) (pv:Value) (w:World) (h:RowM w lo hi vo mo) (g:Row1 w lo hi vs x pv) (hn:mo.length<=1048576) (hsm:∀ x∈mo,x.1.has.length<=1048576) (gn:x.path.length<=1048576) (hk:mkE 1 (oths mo)<=274877906944) :
  Calls Tryz.prog 13 #[poV z b r s y vo vs c,.int .i64 1] w fun e w'=>e=.returned (.int .i64 ((mkE 1 (oths mo)+4+x.path.length:Nat):Int))/\(∃ m',RowM w' lo hi vo m'/\oths m'=mkL 1 (oths mo)/\Row1 w' lo hi vs (mkP (mkE 1 (oths mo)) x.path.length) pv)/\Chg lo hi w w':=by
 have C0:=hideK ((Cx.nil w).new (poO z b r s y vo vs c))
 have B0:Hid (Below w.heap.size w (w.alloc (poO z b r s y vo vs c))):=(Below.refl _ _).alloc (Nat.le_refl _) _
 have HM:=hideK (fun W (hW:Below w.heap.size w W)=>markP_any z b r s y 1 lo hi vo mo W (h.call hW) hn hsm (by decide) (by omega))
 have HRL:=hideK (fun W (hW:Below w.heap.size w W)=>g.call hW)
 have HL:=hideK (fun W (hW:Row1 W lo hi vs x pv)=>mark1_any (mkE 1 (oths mo)) lo hi vs x pv W hW gn (mkE_le _ _) hk)
 obtain⟨a,cap,hv,_,_⟩:=h.row.one
 subst hv
 obtain⟨g',cap',_,hv',_,_,_⟩:=g.blk
 subst hv'
 clear h g hsm hk
 generalize mkE 1 (oths mo)+4+x.path.length=E2 at HL ⊢
 unfold poV
 unfold poO at C0 B0
 unfold peerV at HM
 go_enter Tryz.func13,Tryz.ntmps13
 go_upto_region 1 with fail
 generalize hW0:w.alloc _=W0 at C0 B0 ⊢
 obtain⟨p0,p1,p2,p3,p4,p5,p6,p7⟩:=cellsP8 (C0.out.get 0 rfl)
 have HW0:Hid (W0.heap[w.heap.size]? = some (.cells #[.int .i64 z,.int .i64 b,.string r,.string s,.int .i64 y,.slice a mo.length cap,.slice (some ⟨g',0,none⟩) 1 cap',.int .i64 c] 38 (0,0))):=C0.out.get 0 rfl
 clear hW0
 go_wp2_with fail
 refine(HM.out _ B0.out).mono ?_
 rintro e w1 ⟨rfl,⟨m',hos,hsnd,hrow⟩,hc,hko⟩
 have R1:=hideK hrow
 have OS1:=hideK hos
 have C1:=hideK (Chg.after B0.out hc)
 have L1:=hideK ((HRL.out _ B0.out).keepO hko)
 have K1:=hko _ _ _ HW0.out (by decide) (by decide)
 clear hos hsnd hrow hc hko p0 p1 p2 p3 p4 p5 p6 p7
 obtain⟨p0,p1,p2,p3,p4,p5,p6,p7⟩:=cellsP8 K1
 have HL1:=hideK (HL.out w1 L1.out)
 clear K1 HL HM HRL
 go_wp2_with fail
 refine HL1.out.mono ?_
 rintro e w2 ⟨rfl,hr2,hc2,hk2⟩
 have R2:=hideK (RowM.keepLS R1.out hk2)
 have L2:=hideK hr2
 have C2:=hideK (Pl.Chg.more C1.out hc2)
 clear hr2 hc2 hk2 HL1
 go_wp2_with fail
 go_ret
 exact⟨rfl,⟨m',R2.out,OS1.out,L2.out⟩,C2.out⟩
theorem heldPO1 (z b:Int) (r s:ByteArray) (y:Int) (c:Int) (lo hi:Nat) (vo vs:Value) (l:List Oth) (n:Nat) (m:List MO) (pv:Value) (w:World) (h:RowM w lo hi vo m) (ho:oths m=mkL 1 l) (g:Row1 w lo hi vs (mkP (mkE 1 l) n) pv) (hn:l.length<=1048576) (hsm:∀ o∈l,o.has.length<=1048576) (gn:n<=1048576) (hk:mkE 1 l<=274877906944) :
  Calls Tryz.prog 14 #[poV z b r s y vo vs c,.int .i64 1] w fun e w'=>e=.returned (.int .i64 ((mkE 1 l+4+n:Nat):Int))/\Below w.heap.size w w':=by
 have C0:=hideK ((Cx.nil w).new (poO z b r s y vo vs c))
 have HM:=hideK (fun W (hW:Below w.heap.size w W)=>heldP_any z b r s y 1 lo vo l m W (h.row.below hW) (h.has.below hW) ho hn hsm (by decide) (by omega))
 have HL:=hideK (fun W (hW:Below w.heap.size w W)=>held1_any (mkE 1 l) lo hi n vs pv W (g.call hW) gn (mkE_le _ _) hk)
 obtain⟨a,cap,hv,_,_⟩:=h.row.one
 subst hv
 obtain⟨g',cap',_,hv',_,_,_⟩:=g.blk
 subst hv'
 clear h g hsm hk
 generalize mkE 1 l+4+n=E2 at HL ⊢
 generalize mkE 1 l=E at HM HL
 have hE:¬(E:Int)<0:=by omega
 have hE2:decide ((E:Int)<0)=false:=by simp
 have hE3:¬(E2:Int)<0:=by omega
 have hE4:decide ((E2:Int)<0)=false:=by simp
 unfold poV
 unfold poO at C0
 unfold peerV at HM
 go_enter Tryz.func14,Tryz.ntmps14
 go_upto_region 1 with fail
 generalize w.alloc _=W0 at C0 ⊢
 obtain⟨p0,p1,p2,p3,p4,p5,p6,p7⟩:=cellsP8 (C0.out.get 0 rfl)
 go_wp2_with fail
 refine(HM.out _ C0.out.low).mono ?_
 rintro e w1 ⟨rfl,hb⟩
 have C1:=hideK (C0.out.call hb)
 clear hb p0 p1 p2 p3 p4 p5 p6 p7
 obtain⟨p0,p1,p2,p3,p4,p5,p6,p7⟩:=cellsP8 (C1.out.get 0 rfl)
 go_wp2_with fail
 refine(HL.out _ C1.out.low).mono ?_
 rintro e w2 ⟨rfl,hb⟩
 have C2:=hideK (C1.out.call hb)
 clear hb
 go_wp2_with fail
 go_ret
 exact⟨rfl,C2.out.low⟩
end Go.Proofs.YtpddanmnlkcdpaaGreatDoor.Pl


/- Answers whose letters have no paths, or that are one letter with its path. -/
namespace Go.Proofs.YtpddanmnlkcdpaaGreatDoor.Pl
open Go.RowKit
open Kp
open Pe
open Ls (lowL)
open St (OwnIn OwnS.split)
open Tk (FewL OwnPF)
def AnsQ (W:World) (lo hi:Nat) (vo vs:Value) (p:PO):Prop:=∃ mo ms,oths mo=p.os/\snts ms=p.ss/\PoW W lo hi vo vs mo ms/\FewL ms
def AnsQM (W:World) (lo hi:Nat) (vo vs:Value) (p:PO):Prop:=((∀ x∈p.ss,x.path=[])/\∃ m',Mkd W lo hi vo vs p.os p.ss.length m')∨∃ x m' pv,p.ss=[x]/\RowM W lo hi vo m'/\oths m'=mkL 1 p.os/\Row1 W lo hi vs (mkP (mkE 1 p.os) x.path.length) pv
def lenP (l:List Snt):Nat:=(l.map fun x=>x.path.length).sum
theorem lenP_nil {l:List Snt} (h:∀ x∈l,x.path=[]):lenP l=0:=by
 unfold lenP
 induction l with
 |nil=>rfl
 |cons x l ih =>
  rw[List.map_cons,List.sum_cons,h x List.mem_cons_self,ih fun y hy=>h y (List.mem_cons_of_mem _ hy)]
  rfl
theorem lenP_one (x:Snt):lenP [x]=x.path.length:=by unfold lenP;simp
def ansQ (p:PO):Nat:=mkE 1 p.os+4*p.ss.length+lenP p.ss
theorem AnsQ.ans {W:World} {lo hi:Nat} {vo vs:Value} {p:PO} (h:AnsQ W lo hi vo vs p):Ans W lo hi vo vs p:=by
 obtain⟨mo,ms,h1,h2,h3,_⟩:=h
 exact⟨mo,ms,h1,h2,h3⟩
theorem AnsQ.call {W W':World} {lo hi:Nat} {vo vs:Value} {p:PO} (h:AnsQ W lo hi vo vs p) (hb:Below W.heap.size W W'):AnsQ W' lo hi vo vs p:=by
 obtain⟨mo,ms,h1,h2,h3,h4⟩:=h
 exact⟨mo,ms,h1,h2,h3.call hb,h4⟩
theorem AnsQ.chg {W W':World} {lo hi lo' hi':Nat} {vo vs:Value} {p:PO} (h:AnsQ W lo hi vo vs p) (hc:Chg lo' hi' W W') (ho:hi<=lo'∨hi'<=lo):AnsQ W' lo hi vo vs p:=by
 obtain⟨mo,ms,h1,h2,h3,h4⟩:=h
 exact⟨mo,ms,h1,h2,h3.chg hc ho,h4⟩
theorem AnsQM.call {W W':World} {lo hi:Nat} {vo vs:Value} {p:PO} (h:AnsQM W lo hi vo vs p) (hb:Below W.heap.size W W'):AnsQM W' lo hi vo vs p:=by
 rcases h with⟨h0,m',h⟩|⟨x,m',pv,h1,h2,h3,h4⟩
 ·exact .inl ⟨h0,m',h.call hb⟩
 ·exact .inr ⟨x,m',pv,h1,h2.call hb,h3,h4.call hb⟩
theorem own_ansQ {W:World} {base:Nat} {e:Ending} {p:PO} (h:OwnPF W base e p):∃ vo vs,e=.returned (poV p.z p.b p.r p.s p.y vo vs p.c)/\AnsQ W base W.heap.size vo vs p:=by
 obtain⟨vo,vs,mo,ms,he,h1,h2,h3,h4⟩:=h
 exact⟨vo,vs,he,mo,ms,h1,h2,h3.wide,h4⟩
theorem mkE_near {p:PO} (hf:Fine p):mkE 1 p.os<=274877906944:=by
 have h1:=mkE_far p.os 1 (fun o ho=>(hf.has o ho).1)
 have h2:=hf.many
 omega
theorem markQ {W:World} {lo hi:Nat} {vo vs:Value} {p:PO} (h:AnsQ W lo hi vo vs p) (hf:Fine p) :
  Calls Tryz.prog 13 #[poV p.z p.b p.r p.s p.y vo vs p.c,.int .i64 1] W fun e w'=>e=.returned (.int .i64 (ansQ p:Nat))/\AnsQM w' lo hi vo vs p/\Chg lo hi W w':=by
 obtain⟨mo,ms,h1,h2,h3,h4⟩:=h
 rcases h4 with h4|h4
 ·have hnp:∀ x∈p.ss,x.path=[]:=fun x hx=>by
   rw[<-h2]at hx
   obtain⟨q,hq,rfl⟩:=List.mem_map.1 hx
   exact(h4 q hq).2
  have e1:ansQ p=ansK p:=by unfold ansQ ansK;rw[lenP_nil hnp];rfl
  rw[e1]
  refine(markA ⟨mo,ms,h1,h2,h3,h4⟩ hf).mono ?_
  rintro e w' ⟨he,hm,hc⟩
  exact⟨he,.inl ⟨hnp,hm⟩,hc⟩
 ·obtain⟨⟨x,pv⟩,rfl⟩:=List.length_eq_one_iff.1 h4
  have hss:p.ss=[x]:=by rw[<-h2];rfl
  have k1:mo.length=p.os.length:=by rw[<-h1,oths_length]
  have f1:=hf.many
  have hpx:=hf.path x (by rw[hss];exact List.mem_singleton.2 rfl)
  have hr:Row1 W lo hi vs x pv:=⟨h3.inn.srow,h3.il,by
   have hp:=h3.inn.pth (x,pv) (List.mem_singleton.2 rfl)
   rcases St.OwnS.split hp with hq|⟨g,cap,hv,hg,_,ho⟩
   ·exact .inl hq
   ·exact .inr ⟨g,cap,hv,hg,(h3.ip (x,pv) (List.mem_singleton.2 rfl) g (by rw[hv];rfl)).2,ho⟩⟩
  have:=markPO1 p.z p.b p.r p.s p.y p.c lo hi vo vs mo x pv W ⟨h3.inn.orow,h3.inn.has,h3.inn.ap,h3.ib⟩ hr (by omega) (fun q hq=>(hf.has q.1 (by rw[<-h1];exact List.mem_map_of_mem hq)).1) hpx (by rw[h1];exact mkE_near hf)
  have e1:ansQ p=mkE 1 (oths mo)+4+x.path.length:=by unfold ansQ;rw[hss,lenP_one,h1];rfl
  rw[e1]
  refine this.mono ?_
  rintro e w' ⟨he,⟨m',h5,h6,h7⟩,hc⟩
  rw[h1]at h6 h7
  exact⟨he,.inr ⟨x,m',pv,hss,h5,h6,h7⟩,hc⟩
theorem heldQ {W:World} {lo hi:Nat} {vo vs:Value} {p:PO} (h:AnsQM W lo hi vo vs p) (hf:Fine p) :
  Calls Tryz.prog 14 #[poV p.z p.b p.r p.s p.y vo vs p.c,.int .i64 1] W fun e w'=>e=.returned (.int .i64 (ansQ p:Nat))/\Below W.heap.size W w':=by
 have f1:=hf.many
 rcases h with⟨hnp,m',h⟩|⟨x,m',pv,hss,h5,h6,h7⟩
 ·have e1:ansQ p=ansK p:=by unfold ansQ ansK;rw[lenP_nil hnp];rfl
  rw[e1]
  exact heldA ⟨m',h⟩ hf
 ·have hpx:=hf.path x (by rw[hss];exact List.mem_singleton.2 rfl)
  have e1:ansQ p=mkE 1 p.os+4+x.path.length:=by unfold ansQ;rw[hss,lenP_one];rfl
  rw[e1]
  exact heldPO1 p.z p.b p.r p.s p.y p.c lo hi vo vs p.os x.path.length m' pv W h5 h6 h7 (by omega) (fun o ho=>(hf.has o ho).1) hpx (mkE_near hf)
end Go.Proofs.YtpddanmnlkcdpaaGreatDoor.Pl


/- What fits is short; the contracts of Fits at a whole word. -/
namespace Go.Proofs.YtpddanmnlkcdpaaGreatDoor.Hr
open Go.RowKit
open Kp
open Nu (putS putT zz numB)
open Pk (cat)
open Ls (fitsB rightB rightB_yes fits_piece fits_path fits_impl l07Fits_spec lV vars_keepF lowL)
open Sh (Vars)
open St (Strs)
theorem recS_fit {z b:Int} {r:ByteArray} {x:Rec} (h:fitR z b r x=true):RecS x:=by
 obtain⟨h1,h2,h3,h4,h5⟩:=fit_facts h
 exact⟨by omega,by omega,by omega,h4,fun q hq=>by rw[h5 q hq];decide⟩
theorem putT_few (t:ByteArray) (m:Nat) (h:t.size<=m):(putT t).size<=m+10:=by
 unfold putT
 split
 ·rw[ByteArray.size_append]
  have:=Nu.putS_size (t.size:Int)
  omega
 ·exact Nat.zero_le _
theorem cat_few (l:List ByteArray) (h:∀ q∈l,q.size=32):(cat (l.map putT)).length<=42*l.length:=by
 induction l with
 |nil=>simp[cat]
 |cons a l ih =>
  have h1:=ih fun q hq=>h q (List.mem_cons_of_mem _ hq)
  have h2:=putT_few a 32 (by rw[h a List.mem_cons_self];exact Nat.le_refl _)
  have h3:(putT a).size=(putT a).data.toList.length:=by rw[Array.length_toList];rfl
  rw[List.map_cons,cat_cons,List.length_append,List.length_cons]
  omega
theorem inner_fit {z b:Int} {r:ByteArray} {x:Rec} (h:fitR z b r x=true):(innerT x).size<=7996:=by
 obtain⟨h1,h2,h3,h4,h5⟩:=fit_facts h
 rw[Nm2.size_of,innerT_list]
 have e1:=(Nu.numB_length (zz x.1)).1
 have e2:=putT_few x.2.1 100 h3
 have e2':(putT x.2.1).size=(putT x.2.1).data.toList.length:=by rw[Array.length_toList];rfl
 have e3:=(Nu.numB_length (zz (x.2.2.length:Nat))).1
 have e4:=cat_few x.2.2 h5
 simp only[List.length_append,List.length_nil]
 omega
theorem fitA_of (z b:Int) (r:ByteArray):Tk.FitA (fitR z b r):=fun _ h=>⟨recS_fit h,inner_fit h⟩
theorem fitF_fit (z b:Int) (r:ByteArray):FitF (fitR z b r):=fun x hx=>by
 obtain⟨h1,h2,h3,h4,h5⟩:=fit_facts hx
 exact⟨by omega,by omega,by omega,h4,fun q hq=>by rw[h5 q hq];decide⟩
def fitW (z b:Int) (r:ByteArray) (x:Rec):Bool:=fitsB z b r x.1 x.2.1 x.2.2
theorem fitW_small {z b:Int} {r:ByteArray} {x:Rec} (h:fitW z b r x=true):x.2.1.size<=8000/\x.2.2.length<=400:=by
 unfold fitW at h
 refine⟨Nat.le_of_not_lt fun h1=>?_,Nat.le_of_not_lt fun h1=>?_⟩
 ·rw[fits_piece (by omega)]at h
  cases h
 ·rw[fits_path (by omega)]at h
  cases h
theorem fitW_impl (z b:Int) (r:ByteArray) (i:Int) (t:ByteArray) (p:List ByteArray) (a:Option Addr) (cap:Nat) (w:World) (ht:t.size<=maxLen) (hp:p.length<=1048576) (hcap:p.length<=cap) (hs:Strs w w.heap.size a p) (hV:Vars w) :
  ∀ V,Below w.heap.size w V->Calls Tryz.prog 138 #[lV z b r,.int .i64 i,.string t,.slice a p.length cap] V fun q v'=>q=.returned (.bool (fitW z b r (i,t,p)))/\Below V.heap.size V v':=fun V hb =>
 fits_impl z b r i t p a cap p.length V ht rfl hp hcap ((hs.below hb).mono hb.size) (vars_keepF hV hb)
theorem fitW_spec (z b:Int) (r:ByteArray) (i:Int) (t:ByteArray) (p:List ByteArray) (a:Option Addr) (cap:Nat) (w:World) (hr:rightB z b r=true) (hp:p.length<=1048576) (hs:Strs w w.heap.size a p) :
  ∀ V,Below w.heap.size w V->Calls Tryz.prog 104 #[lV z b r,.int .i64 i,.string t,.slice a p.length cap] V fun q v'=>q=.returned (.bool (fitW z b r (i,t,p)))/\Below V.heap.size V v':=fun V hb=>by
 have h4:=rightB_yes hr
 obtain⟨q,rfl⟩:=Int.eq_ofNat_of_zero_le h4.1
 obtain⟨k,rfl⟩:=Int.eq_ofNat_of_zero_le (show 0<=b by omega)
 by_cases ht:t.size<=8000
 ·exact l07Fits_spec q k r i t p a cap p.length V hr ht rfl hp ((hs.below hb).mono hb.size)
 ·exact fitsBig_spec q k r i t p _ V hr (by omega) ⟨_,_,_,rfl⟩
end Go.Proofs.YtpddanmnlkcdpaaGreatDoor.Hr


/- What Hear hands back is small; its letters. -/
namespace Go.Proofs.YtpddanmnlkcdpaaGreatDoor.Hr
open Go.RowKit
open Kp
open Pe
open Pl
open Pm
open Tk (tellL OthR peer_oths)
open Ls (countN countN_le)
def FewP (ss:List Snt):Prop:=(∀ x∈ss,x.path=[])∨ss.length=1
structure FineH (h:HO) (l:List Oth) (c:Nat):Prop where
 many:h.os.length=l.length
 has:∀ o∈h.os,o.has.length<=c+1/\o.name.size<=maxLen
 sent:h.ss.length<=l.length+1
 path:∀ x∈h.ss,x.path.length<=1048576
 few:FewP h.ss
theorem strike_has (o:Oth):(strikeO o).has.length<=o.has.length/\(strikeO o).name=o.name:=by
 unfold strikeO
 split
 ·exact⟨Nat.zero_le _,rfl⟩
 ·exact⟨Nat.le_refl _,rfl⟩
theorem tellL_len (l:List Oth) (i:Int):(tellL l i).length<=l.length:=by
 unfold tellL
 rw[List.length_map]
 exact List.length_filter_le _ _
theorem tellL_path (l:List Oth) (i:Int):∀ x∈tellL l i,x.path=[]:=fun x hx=>by
 unfold tellL at hx
 obtain⟨o,_,rfl⟩:=List.mem_map.1 hx
 rfl
theorem fine_same {s:ByteArray} {y:Int} {l:List Oth} {c:Nat} (hl:∀ o∈l,o.has.length<=c/\o.name.size<=maxLen):FineH ⟨s,y,l,[]⟩ l c:=⟨rfl,fun o ho=>⟨by have:=(hl o ho).1;omega,(hl o ho).2⟩,Nat.zero_le _,fun _ hx=>absurd hx List.not_mem_nil,.inl fun _ hx=>absurd hx List.not_mem_nil⟩
theorem fine_set {s:ByteArray} {y:Int} {l:List Oth} {c j:Nat} {o x:Oth} {ss:List Snt} (hl:∀ o∈l,o.has.length<=c/\o.name.size<=maxLen) (ho:o.has.length<=c/\o.name.size<=maxLen) (h1:x.has.length<=c+1) (h2:x.name=o.name) (hs:ss.length<=l.length) (hp:∀ q∈ss,q.path=[]):FineH ⟨s,y,l.set j x,ss⟩ l c :=
 ⟨List.length_set,fun q hq=>by
  rcases List.mem_or_eq_of_mem_set hq with hq|rfl
  ·exact⟨by have:=(hl q hq).1;omega,(hl q hq).2⟩
  ·exact⟨h1,by rw[h2];exact ho.2⟩,Nat.le_succ_of_le hs,fun q hq=>by rw[hp q hq];exact Nat.zero_le _,.inl hp⟩
theorem fineH (z b:Int) (r:ByteArray) (fb:Rec->Bool) (cn:Nat) (s:ByteArray) (y:Int) (l:List Oth) (c j:Nat) (o:Oth) (k:Int) (x:Rec) (hl:∀ o∈l,o.has.length<=c/\o.name.size<=maxLen) (ho:o.has.length<=c/\o.name.size<=maxLen):FineH (hearH (fitR z b r) fb cn s y l j o k x) l c:=by
 have hoh:=ho.1
 have hd:=drop_has o x.1
 unfold hearH
 split
 ·exact fine_same hl
 ·unfold deedH
  split
  ·exact fine_set hl ho (by show (withI o.has x.1).length<=c+1;have:=with_len o.has x.1;omega) rfl (Nat.zero_le _) (fun _ hq=>absurd hq List.not_mem_nil)
  ·split
   ·refine⟨rfl,fun q hq=>⟨by have:=(hl q hq).1;omega,(hl q hq).2⟩,Nat.succ_le_succ (Nat.zero_le _),fun q hq=>?_,.inr rfl⟩
    rw[List.mem_singleton.1 hq]
    cases hf:findR (allR (fitR z b r) s).1 x.1 with
    |none=>exact Nat.zero_le _
    |some q =>
     have hm:q∈(allR (fitR z b r) s).1:=by unfold findR at hf;exact List.mem_of_find?_eq_some hf
     have:=(fitF_fit z b r q (allR_fit _ _ _ hm)).2.2.2.1
     show q.2.2.length<=1048576
     omega
   ·split
    ·unfold pieceH
     split
     ·have hs:=strike_has (dropO o x.1)
      exact fine_set hl ho (by have h1:=hs.1;rw[hd.1]at h1;omega) (by rw[hs.2,hd.2.1]) (Nat.zero_le _) (fun _ hq=>absurd hq List.not_mem_nil)
     ·split
      ·exact fine_same hl
      ·split
       ·exact fine_set hl ho (by rw[hd.1];omega) hd.2.1 (Nat.zero_le _) (fun _ hq=>absurd hq List.not_mem_nil)
       ·exact fine_set hl ho (by rw[hd.1];omega) hd.2.1 (by have:=tellL_len (l.set j (dropO o x.1)) x.1;rwa[List.length_set]at this) (tellL_path _ _)
    ·split
     ·have hd2:=drop_has ⟨o.name,lessI o.has x.1,o.asked,o.age,o.strikes⟩ x.1
      exact fine_set hl ho (by unfold noO;rw[hd2.1];have:=less_len o.has x.1;show (lessI o.has x.1).length<=c+1;omega) hd2.2.1 (Nat.zero_le _) (fun _ hq=>absurd hq List.not_mem_nil)
     ·exact fine_same hl
theorem fineHP (z b:Int) (r:ByteArray) (fb:Rec->Bool) (s:ByteArray) (y:Int) (m:List MO) (nm:ByteArray) (k:Int) (x:Rec) (hsm:Small m):Fine (hearP (fitR z b r) fb z b r s y (oths m) nm k x)/\FewP (hearP (fitR z b r) fb z b r s y (oths m) nm k x).ss:=by
 have hill:∀ c,Fine (ill c)/\FewP (ill c).ss:=fun c=>⟨⟨by show 0<=1024;omega,fun o ho=>absurd ho List.not_mem_nil,by show 0<=1048576;omega,fun o ho=>absurd ho List.not_mem_nil⟩,.inl fun o ho=>absurd ho List.not_mem_nil⟩
 unfold hearP
 split
 ·exact hill 2
 ·split
  ·exact hill 1
  ·rename_i hP
   split
   ·exact hill 6
   ·rename_i hN
    have hP':peerB (fitR z b r) z b r s y (oths m)=true:=by simpa using hP
    obtain⟨h4,hor⟩:=peer_oths hP'
    have hc:=countN_le z b r
    have hl:∀ o∈oths m,o.has.length<=64/\o.name.size<=maxLen:=fun o ho=>by
     have:=othR_few (hor o ho)
     obtain⟨q,hq,rfl⟩:=List.mem_map.1 ho
     exact⟨by omega,(hsm q hq).2⟩
    have hg:∀ j,((oths m).getD j zO).has.length<=64/\((oths m).getD j zO).name.size<=maxLen:=fun j=>by
     rw[List.getD_eq_getElem?_getD]
     cases he:(oths m)[j]? with
     |none=>exact⟨Nat.zero_le _,Nat.zero_le _⟩
     |some o=>exact hl o (List.mem_of_getElem? he)
    have hf:=fineH z b r fb (countN z b r) s y (oths m) 64 (posN (oths m) nm) ((oths m).getD (posN (oths m) nm) zO) k x hl (hg _)
    refine⟨⟨?_,fun o ho=>?_,?_,hf.path⟩,hf.few⟩
    ·have:=hf.many
     show List.length _<=1024
     rw[this]
     omega
    ·have:=hf.has o ho
     exact⟨by omega,this.2⟩
    ·have:=hf.sent
     refine Nat.le_trans this ?_
     omega
end Go.Proofs.YtpddanmnlkcdpaaGreatDoor.Hr


namespace Go.Proofs.YtpddanmnlkcdpaaGreatDoor.St
open Go.RowKit
/-- what is left of a budget: below 0,or each text and their number are within it -/
theorem szL_any (L:Nat) (hL:L<=1048576) (a:Option Addr) (cap:Nat) (l:List ByteArray) (w:World) (h:Strs w w.heap.size a l) (hn:l.length<=maxLen) (hs:∀ s∈l,s.size<=maxLen) :
  Calls Tryz.prog 47 #[.slice a l.length cap,.int .i64 (L:Nat)] w fun e w'=>∃ r:Int,e=.returned (.int .i64 r)/\(0<=r->l.length<=1048576/\∀ s∈l,s.size<=1048576)/\w'=w:=by
 have HS:=hideT h
 have HZ:=hideT hs
 clear h hs
 unfold maxLen at hn
 obtain⟨n,hln⟩:∃ n,n=l.length:=⟨_,rfl⟩
 have HLN:=hideT hln
 rw[<-hln]at hn ⊢
 clear hln
 by_cases hbig:L<n
 ·have g1:(L:Int)-n<0:=by omega
  go_enter Tryz.func47,Tryz.ntmps47
  go_wp2_with fail
  go_ret
  exact⟨-1,rfl,fun h=>by omega,rfl⟩
 ·have g1:¬(L:Int)-n<0:=by omega
  go_enter Tryz.func47,Tryz.ntmps47
  go_wp2_with fail
  go_loopw [5,1] (fun i v wr=>∃ (k:Nat) (r:Int),i=.int .i64 k/\v=.int .i64 r/\k<=n/\0<=r/\r<=1048576/\(∀ j (hj:j<l.length),j<k->l[j].size<=1048576)/\wr=w) (fun i _ _=>n-(intOf i).toNat)
  case atStart=>exact⟨0,_,rfl,rfl,by omega,by omega,by omega,fun j hj h0=>by omega,rfl⟩
  case round =>
   obtain⟨k,r,rfl,rfl,hk,r0,r1,hall,hw⟩:=hrel
   subst hw
   have HA:=hideT hall
   clear hall
   by_cases hlt:k<n
   ·have hkl:k<l.length:=by rw[<-HLN.out];exact hlt
    obtain⟨b,off,rfl,hb,hc⟩:=HS.out.some (by omega)
    have ci:=hc k hkl
    have hsz:=HZ.out l[k] (List.getElem_mem hkl)
    obtain⟨s,hs⟩:∃ s,s=l[k]:=⟨_,rfl⟩
    have HSE:=hideT hs
    rw[<-hs]at ci hsz
    unfold maxLen at hsz
    clear hc hs
    by_cases hneg:r-s.size<0
    ·go_wp2_with fail
     go_ret
     exact⟨-1,rfl,fun h=>by omega,rfl⟩
    ·go_wp2_with fail
     go_roundw
     case rel =>
      refine⟨k+1,_,by go_num,rfl,by omega,by omega,by omega,fun j hj h0=>?_,trivial⟩
      by_cases e:j=k
      ·subst e
       rw[<-HSE.out]
       omega
      ·exact HA.out j hj (by omega)
     case measure=>simp[intOf];omega
   ·go_wp2_with fail
    go_ret
    refine⟨r,rfl,fun _=>⟨by have:=HLN.out;omega,fun s hs=>?_⟩,rfl⟩
    obtain⟨j,hj,rfl⟩:=List.getElem_of_mem hs
    exact HA.out j hj (by have:=HLN.out;omega)
end Go.Proofs.YtpddanmnlkcdpaaGreatDoor.St


namespace Go.Proofs.YtpddanmnlkcdpaaGreatDoor.Hr
open Go.RowKit
open Kp
open Pe
open Pl
open Tk (sayV sayO cells4)
open Ls (lowL)
open St (Strs IsS OwnIn toStr_any eq_in marks Aft)
def lsO (k i:Int) (t:ByteArray) (v:Value):Obj:=.cells #[.int .i64 k,.int .i64 i,.string t,v] 48
theorem szSay_any (k i:Int) (t:ByteArray) (p:List ByteArray) (a:Option Addr) (cap L:Nat) (w:World) (h:Strs w w.heap.size a p) (ht:t.size<=maxLen) (hn:p.length<=maxLen) (hs:∀ s∈p,s.size<=maxLen) (hL:L<=1048576) :
  Calls Tryz.prog 15 #[sayV k i t (.slice a p.length cap),.int .i64 (L:Int)] w fun e w'=>∃ r:Int,e=.returned (.int .i64 r)/\(0<=r->t.size<=1048576/\p.length<=1048576/\∀ s∈p,s.size<=1048576)/\Below w.heap.size w w':=by
 have B0:Hid (Below w.heap.size w (w.alloc (lsO k i t (.slice a p.length cap)))):=(Below.refl _ _).alloc (Nat.le_refl _) _
 have X0:=hideK (heap_alloc_new w (lsO k i t (.slice a p.length cap)))
 by_cases hlt:L<t.size
 ·have hb1:(L:Int)-(t.size:Int)<0:=by omega
  have hw1:IntKind.i64.wrap ((L:Int)-(t.size:Int))=(L:Int)-(t.size:Int):=by rw[IntKind.wrap_i64];unfold maxLen at ht;omega
  have hd1:decide ((L:Int)-(t.size:Int)<0)=true:=by simp;omega
  unfold sayV
  unfold lsO at B0 X0
  go_enter Tryz.func15,Tryz.ntmps15
  go_upto_region 1 with fail
  generalize w.alloc _=W0 at B0 X0 ⊢
  obtain⟨x0,x1,x2,x3⟩:=cells4 X0.out
  go_wp2_with fail
  go_ret
  exact⟨-1,rfl,fun h=>absurd h (by decide),B0.out⟩
 ·have hw1:IntKind.i64.wrap ((L:Int)-(t.size:Int))=(L:Int)-(t.size:Int):=by rw[IntKind.wrap_i64];omega
  obtain⟨L2,hL2⟩:∃ L2:Nat,(L:Int)-(t.size:Int)=(L2:Int):=⟨L-t.size,by omega⟩
  have hL2b:L2<=1048576:=by omega
  have hw2:IntKind.i64.wrap ((L:Int)-(t.size:Int))=(L2:Int):=by rw[hw1,hL2]
  have hb1:¬(L2:Int)<0:=by omega
  have hd1:decide ((L2:Int)<0)=false:=by simp
  have HSZ:=hideK (fun W (hW:Below w.heap.size w W)=>St.szL_any L2 hL2b a cap p W ((h.below hW).mono hW.size) hn hs)
  have HT:Hid (t.size<=1048576):=by unfold Hid;omega
  clear h hs hw1 hL2
  unfold sayV
  unfold lsO at B0 X0
  go_enter Tryz.func15,Tryz.ntmps15
  go_upto_region 1 with fail
  generalize w.alloc _=W0 at B0 X0 ⊢
  obtain⟨x0,x1,x2,x3⟩:=cells4 X0.out
  go_wp2_with fail
  refine(HSZ.out _ B0.out).mono ?_
  rintro e w1 ⟨rr,rfl,hr,hw⟩
  subst hw
  by_cases hr0:rr<0
  ·have hdr:decide (rr<0)=true:=by simp;exact hr0
   clear hr
   go_wp2_with fail
   go_ret
   exact⟨-1,rfl,fun h=>absurd h (by decide),B0.out⟩
  ·have hdr:decide (rr<0)=false:=by simp;omega
   have HRR:=hideK hr
   clear hr
   go_wp2_with fail
   go_ret
   exact⟨rr,rfl,fun h=>⟨HT.out,HRR.out h⟩,B0.out⟩
end Go.Proofs.YtpddanmnlkcdpaaGreatDoor.Hr


namespace Go.Proofs.YtpddanmnlkcdpaaGreatDoor.Hr
open Go.RowKit
open Kp
open Pe
open Pl
open Tk (sayV sayO cells4)
open Ls (lowL)
open St (Strs IsS OwnIn toStr_any eq_in marks Aft)
theorem eqSay_any (k i:Int) (t:ByteArray) (p:List ByteArray) (u v:Value) (lo hi lo' hi':Nat) (w:World) (hu:OwnIn w lo hi u p) (hv:OwnIn w lo' hi' v p) (hn:p.length<=1048576) :
  Calls Tryz.prog 19 #[sayV k i t u,sayV k i t v] w fun e w'=>e=.returned (.bool true)/\Below w.heap.size w w':=by
 have C0:=hideK (((Cx.nil w).new (sayO k i t u)).new (sayO k i t v))
 simp only[World.size_alloc]at C0
 have HQ:=hideK (fun W (hW:Below w.heap.size w W)=>eq_in (ownIn_keeps hu (KeepsS.below hW)) (ownIn_keeps hv (KeepsS.below hW)) hn)
 have hus:∃ a n c,u=.slice a n c:=by
  rcases hu with⟨rfl,_⟩|⟨g2,c2,rfl,_⟩<;>exact⟨_,_,_,rfl⟩
 have hvs:∃ a n c,v=.slice a n c:=by
  rcases hv with⟨rfl,_⟩|⟨g2,c2,rfl,_⟩<;>exact⟨_,_,_,rfl⟩
 obtain⟨a1,n1,c1,rfl⟩:=hus
 obtain⟨a2,n2,c2,rfl⟩:=hvs
 have ht:(t.toList==t.toList)=true:=by simp
 have hk:(k != k)=false:=by simp
 have hi2:(i != i)=false:=by simp
 clear hu hv
 unfold sayV
 unfold sayO at C0
 go_enter Tryz.func19,Tryz.ntmps19
 go_upto_region 1 with fail
 generalize (w.alloc _).alloc _=W0 at C0 ⊢
 obtain⟨x0,x1,x2,x3⟩:=cells4 (C0.out.get 1 rfl)
 obtain⟨y0,y1,y2,y3⟩:=cells4 (C0.out.get 0 rfl)
 go_wp2_with fail
 refine(HQ.out _ C0.out.low).mono ?_
 rintro e w1 ⟨rfl,hb⟩
 have C1:=hideK (C0.out.call hb)
 clear hb C0
 go_wp2_with fail
 go_ret
 exact⟨rfl,C1.out.low⟩
theorem markSay_any (k i:Int) (t:ByteArray) (v:Value) (K:Int) (Q:World->Prop) (R:Int) (w:World) (hvs:∃ a n c,v=.slice a n c)
  (h:∀ W,Below w.heap.size w W->Calls Tryz.prog 52 #[v,.int .i64 K] W fun e w'=>e=.returned (.int .i64 R)/\Q w') :
  Calls Tryz.prog 20 #[sayV k i t v,.int .i64 K] w fun e w'=>e=.returned (.int .i64 R)/\Q w':=by
 obtain⟨a1,n1,c1,rfl⟩:=hvs
 have HM:=hideK h
 have B0:Hid (Below w.heap.size w (w.alloc (sayO k i t (.slice a1 n1 c1)))):=(Below.refl _ _).alloc (Nat.le_refl _) _
 have X0:=hideK (heap_alloc_new w (sayO k i t (.slice a1 n1 c1)))
 clear h
 unfold sayV
 unfold sayO at B0 X0
 go_enter Tryz.func20,Tryz.ntmps20
 go_upto_region 1 with fail
 generalize w.alloc _=W0 at B0 X0 ⊢
 obtain⟨x0,x1,x2,x3⟩:=cells4 X0.out
 go_wp2_with fail
 refine(HM.out _ B0.out).mono ?_
 rintro e w1 ⟨rfl,hq⟩
 have HQ:=hideK hq
 clear hq HM
 go_wp2_with fail
 go_ret
 exact⟨rfl,HQ.out⟩
end Go.Proofs.YtpddanmnlkcdpaaGreatDoor.Hr


namespace Go.Proofs.YtpddanmnlkcdpaaGreatDoor.Hr
open Go.RowKit
open Kp
open Pe
open Pl
open Tk (sayV sayO cells4)
open Ls (lowL)
open St (Strs IsS OwnIn toStr_any marks)
def zSay:Obj:=.cells #[.int .i64 0,.int .i64 0,.string ⟨#[]⟩,.slice none 0 0] 51
theorem say_sets {W:World} {g:Nat} {x0 x1 x2 x3:Value} (h:W.heap[g]? = some (.cells #[x0,x1,x2,x3] 51 (0,0))) (u0 u1 u2 u3:Value):KeepsS W ((((W.setCell ⟨g,0,none⟩ u0).setCell ⟨g,1,none⟩ u1).setCell ⟨g,2,none⟩ u2).setCell ⟨g,3,none⟩ u3) :=
 KeepsS.others h (by decide) (fun k o hk hne=>by rw[heap_setCell_other _ _ k _ (by exact hne),heap_setCell_other _ _ k _ (by exact hne),heap_setCell_other _ _ k _ (by exact hne),heap_setCell_other _ _ k _ (by exact hne)];exact hk)
theorem say_set4 {W:World} {g:Nat} {x0 x1 x2 x3:Value} {T:TypeId} (h:W.heap[g]? = some (.cells #[x0,x1,x2,x3] T (0,0))) (u0 u1 u2 u3:Value):((((W.setCell ⟨g,0,none⟩ u0).setCell ⟨g,1,none⟩ u1).setCell ⟨g,2,none⟩ u2).setCell ⟨g,3,none⟩ u3).heap[g]? = some (.cells #[u0,u1,u2,u3] T (0,0)):=by
 have h0:(W.setCell ⟨g,0,none⟩ u0).heap[g]? = some (.cells #[u0,x1,x2,x3] T (0,0)):=by rw[heap_setCell_same _ g 0 _ _ _ h];rfl
 have h1:((W.setCell ⟨g,0,none⟩ u0).setCell ⟨g,1,none⟩ u1).heap[g]? = some (.cells #[u0,u1,x2,x3] T (0,0)):=by rw[heap_setCell_same _ g 1 _ _ _ h0];rfl
 have h2:(((W.setCell ⟨g,0,none⟩ u0).setCell ⟨g,1,none⟩ u1).setCell ⟨g,2,none⟩ u2).heap[g]? = some (.cells #[u0,u1,u2,x3] T (0,0)):=by rw[heap_setCell_same _ g 2 _ _ _ h1];rfl
 rw[heap_setCell_same _ g 3 _ _ _ h2]
 rfl
theorem toSay_any (k i:Int) (t:ByteArray) (p:List ByteArray) (a:Option Addr) (cap:Nat) (w:World) (h:Strs w w.heap.size a p) (hn:p.length<=1048576) :
  Calls Tryz.prog 17 #[sayV k i t (.slice a p.length cap)] w fun e w'=>∃ g,e=.returned (sayV k i t (.slice (some ⟨g,0,none⟩) p.length p.length))/\OwnIn w' w.heap.size w'.heap.size (.slice (some ⟨g,0,none⟩) p.length p.length) p/\Below w.heap.size w w':=by
 have C0:=hideK ((((Cx.nil w).new (lsO k i t (.slice a p.length cap))).new zSay).new zSay)
 simp only[World.size_alloc]at C0
 have HT:=hideK (fun W (hW:Below w.heap.size w W)=>toStr_any a cap p W ((h.below hW).mono hW.size) hn)
 clear h
 unfold sayV
 unfold lsO zSay at C0
 go_enter Tryz.func17,Tryz.ntmps17
 go_upto_region 2 with fail
 generalize hgk:w.heap.size=gk at C0 ⊢
 have HGK:=hideK hgk
 clear hgk
 generalize ((w.alloc _).alloc _).alloc _=W0 at C0 ⊢
 obtain⟨x0,x1,x2,x3⟩:=cells4 (C0.out.get 2 rfl)
 obtain⟨y0,y1,y2,y3⟩:=cells4 (C0.out.get 0 rfl)
 have ff:=fun o=>frozen_of_row W0 (gk+1+1) o _ _ (C0.out.get 0 rfl)
 have hg2:w.heap.size<=gk+1+1:=by have:=HGK.out;omega
 have hg1:w.heap.size<=gk+1:=by have:=HGK.out;omega
 have hne:gk+1≠gk+1+1:=by omega
 have B3:Hid (Below w.heap.size w (((W0.setCell ⟨gk+1+1,0,none⟩ (.int .i64 k)).setCell ⟨gk+1+1,1,none⟩ (.int .i64 i)).setCell ⟨gk+1+1,2,none⟩ (.string t))):=((C0.out.low.setCell (p:=⟨gk+1+1,0,none⟩) hg2 _).setCell (p:=⟨gk+1+1,1,none⟩) hg2 _).setCell (p:=⟨gk+1+1,2,none⟩) hg2 _
 have Y3:Hid ((((W0.setCell ⟨gk+1+1,0,none⟩ (.int .i64 k)).setCell ⟨gk+1+1,1,none⟩ (.int .i64 i)).setCell ⟨gk+1+1,2,none⟩ (.string t)).heap[gk+1+1]? = some (.cells #[.int .i64 k,.int .i64 i,.string t,.slice none 0 0] 51 (0,0))):=by
  have h0:(W0.setCell ⟨gk+1+1,0,none⟩ (.int .i64 k)).heap[gk+1+1]? = some (.cells #[.int .i64 k,.int .i64 0,.string ⟨#[]⟩,.slice none 0 0] 51 (0,0)):=by rw[heap_setCell_same _ _ 0 _ _ _ (C0.out.get 0 rfl)];rfl
  have h1:((W0.setCell ⟨gk+1+1,0,none⟩ (.int .i64 k)).setCell ⟨gk+1+1,1,none⟩ (.int .i64 i)).heap[gk+1+1]? = some (.cells #[.int .i64 k,.int .i64 i,.string ⟨#[]⟩,.slice none 0 0] 51 (0,0)):=by rw[heap_setCell_same _ _ 1 _ _ _ h0];rfl
  unfold Hid
  rw[heap_setCell_same _ _ 2 _ _ _ h1]
  rfl
 have R3:Hid ((((W0.setCell ⟨gk+1+1,0,none⟩ (.int .i64 k)).setCell ⟨gk+1+1,1,none⟩ (.int .i64 i)).setCell ⟨gk+1+1,2,none⟩ (.string t)).heap[gk+1]? = some (.cells #[.int .i64 0,.int .i64 0,.string ⟨#[]⟩,.slice none 0 0] 51 (0,0))):=by
  unfold Hid
  rw[heap_setCell_other _ _ (gk+1) _ (by exact hne),heap_setCell_other _ _ (gk+1) _ (by exact hne),heap_setCell_other _ _ (gk+1) _ (by exact hne)]
  exact C0.out.get 1 rfl
 go_wp2_with fail
 generalize ((W0.setCell ⟨gk+1+1,0,none⟩ (.int .i64 k)).setCell ⟨gk+1+1,1,none⟩ (.int .i64 i)).setCell ⟨gk+1+1,2,none⟩ (.string t)=W3 at B3 Y3 R3 ⊢
 refine(HT.out _ B3.out).mono ?_
 rintro e w1 ⟨rfl,his,hb⟩
 have B4:=hideK (lowL B3.out hb)
 have Y4:=hideK ((hb.block _ (lt_rowK Y3.out)).trans Y3.out)
 have R4:=hideK ((hb.block _ (lt_rowK R3.out)).trans R3.out)
 have P4:Hid (OwnIn w1 w.heap.size w1.heap.size (.slice (some ⟨W3.heap.size,0,none⟩) p.length p.length) p):=.inr ⟨W3.heap.size,p.length,rfl,B3.out.size,his.own.lt,his.own⟩
 clear C0 B3 Y3 R3 his hb HT x0 x1 x2 x3 y0 y1 y2 y3 ff
 obtain⟨y0,y1,y2,y3⟩:=cells4 Y4.out
 have ff:=fun o=>frozen_of_row w1 (gk+1+1) o _ _ Y4.out
 obtain⟨z0,z1,z2,z3⟩:=cells4 R4.out
 have fg:=fun o=>frozen_of_row w1 (gk+1) o _ _ R4.out
 have R5:(w1.setCell ⟨gk+1+1,3,none⟩ (.slice (some ⟨W3.heap.size,0,none⟩) p.length p.length)).heap[gk+1]? = _:=(heap_setCell_other w1 ⟨gk+1+1,3,none⟩ (gk+1) _ (by exact hne)).trans R4.out
 have s8:=cells4 (say_set4 R5 (.int .i64 k) (.int .i64 i) (.string t) (.slice (some ⟨W3.heap.size,0,none⟩) p.length p.length))
 have P5:=hideK ((ownIn_keeps P4.out (KeepsS.set Y4.out (by decide) 3 (.slice (some ⟨W3.heap.size,0,none⟩) p.length p.length))))
 have P6:=hideK (ownIn_keeps P5.out (say_sets R5 (.int .i64 k) (.int .i64 i) (.string t) (.slice (some ⟨W3.heap.size,0,none⟩) p.length p.length)))
 have B5:=hideK (((((B4.out.setCell (p:=⟨gk+1+1,3,none⟩) hg2 (.slice (some ⟨W3.heap.size,0,none⟩) p.length p.length)).setCell (p:=⟨gk+1,0,none⟩) hg1 (.int .i64 k)).setCell (p:=⟨gk+1,1,none⟩) hg1 (.int .i64 i)).setCell (p:=⟨gk+1,2,none⟩) hg1 (.string t)).setCell (p:=⟨gk+1,3,none⟩) hg1 (.slice (some ⟨W3.heap.size,0,none⟩) p.length p.length))
 clear R5 P4 P5 B4
 go_wp2_with fail
 exact bodyPost_ret (v:=.agg #[.int .i64 k,.int .i64 i,.string t,.slice (some ⟨W3.heap.size,0,none⟩) p.length p.length]) (by simp[results,Tryz.results17,go_sem,s8.1,s8.2.1,s8.2.2.1,s8.2.2.2]) rfl ⟨W3.heap.size,rfl,by simp only[World.size_setCell];exact P6.out,B5.out⟩
end Go.Proofs.YtpddanmnlkcdpaaGreatDoor.Hr


namespace Go.Proofs.YtpddanmnlkcdpaaGreatDoor.Hr
open Go.RowKit Go.ChangeShapes Go.WideShapes Go.ChangeAt Go.Deep
open Kp
open St (Strs strs_of IsStrs)
open Tk (sayV)
theorem array4 {α:Type} {cs:Array α} (h:cs.size=4):∃ c0 c1 c2 c3,cs=#[c0,c1,c2,c3]:=by
 obtain⟨l⟩:=cs
 match l,h with
 |[c0,c1,c2,c3],_=>exact⟨c0,c1,c2,c3,rfl⟩
theorem cellsSay:Tryz.prog.cellsOf 48=4:=by kernel_rfl
theorem cellsSs:Tryz.prog.cellsOf 46=1:=by kernel_rfl
theorem trod_struct4 {H:Type} {enc:TypeId × Value->H} {W:World} {base:Nat} {sp:Nat->Bool} {held:Bool} {t:TypeId} {f0 f1 f2 f3:Field} {fuel:Nat} {cs:List Value} {x:DataW H × List MemPlace} (ht:Tryz.prog.underlying t=some (.struct #[f0,f1,f2,f3])) (h:DataW.trod enc Tryz.prog W base sp held fuel t cs=some x) :
  ∃ y0 y1 y2 y3 n,cs.length=Tryz.prog.cellsOf t/\DataW.trod enc Tryz.prog W base sp held n f0.type ((cs.drop f0.offset).take (Tryz.prog.cellsOf f0.type))=some y0 /\
   DataW.trod enc Tryz.prog W base sp held n f1.type ((cs.drop f1.offset).take (Tryz.prog.cellsOf f1.type))=some y1/\DataW.trod enc Tryz.prog W base sp held n f2.type ((cs.drop f2.offset).take (Tryz.prog.cellsOf f2.type))=some y2 /\
   DataW.trod enc Tryz.prog W base sp held n f3.type ((cs.drop f3.offset).take (Tryz.prog.cellsOf f3.type))=some y3:=by
 obtain⟨xs,n,_,rfl,hl,hlen,hf⟩:=DataW.trod_struct ht h
 match xs,hlen with
 |[y0,y1,y2,y3],_=>exact⟨y0,y1,y2,y3,n,hl,by simpa using hf 0 f0 rfl,by simpa using hf 1 f1 rfl,by simpa using hf 2 f2 rfl,by simpa using hf 3 f3 rfl⟩
theorem open_say {H:Type} {enc:TypeId × Value->H} {W:World} {base:Nat} {held:Bool} {rc:Reach} {b0:Nat} {v:Value} {d:DataW H} {p:List MemPlace}
  (hv:Value.okWide Tryz.prog W rc b0 48 v) (h:DataW.Trod enc Tryz.prog W base (fun _=>true) held 48 v d p) :
  ∃ (k i:Int) (t:ByteArray) (l:List ByteArray) (a:Option Addr) (cap:Nat),v=sayV k i t (.slice a l.length cap)/\t.size<=maxLen/\l.length<=maxLen/\(∀ q∈l,q.size<=maxLen)/\Strs W W.heap.size a l:=by
 obtain⟨cs,rfl,hsz⟩:=okWide_struct Tryz.underlying48 hv
 obtain⟨c0,c1,c2,c3,rfl⟩:=array4 (hsz.trans cellsSay)
 obtain⟨fuel,hf⟩:=h
 obtain⟨y0,y1,y2,y3,n,_,k0,k1,k2,k3⟩:=trod_struct4 Tryz.underlying48 hf
 simp only[cellsStr,cellsI64,cellsSs,Value.cells,List.drop_succ_cons,List.drop_zero,List.take_succ_cons,List.take_zero]at k0 k1 k2 k3
 obtain⟨k,hk,_,_⟩:=DataW.trod_int Tryz.underlying2 k0
 obtain⟨i,hi,_,_⟩:=DataW.trod_int Tryz.underlying2 k1
 obtain⟨t,ht,_,wt⟩:=DataW.trod_string Tryz.underlying9 k2
 obtain⟨a,len,cap,zs,hc,hz⟩:∃ (a:Option Addr) (len cap:Nat) (zs:List ByteArray),c3=.slice a len cap/\IsStrs W a len cap zs:=by
  rcases open_strings Tryz.underlying46 Tryz.underlying9 (by kernel_rfl) k3 with⟨hcs,_⟩|⟨x,l,c,ss,hcs,_,hl,hm,hz,_,hcell,hsz⟩
  ·exact⟨none,0,0,[],by simpa using hcs,.inl ⟨rfl,rfl,rfl,rfl⟩⟩
  ·exact⟨some x,l,c,ss,by simpa using hcs,.inr ⟨_,rfl,hl,hm,by simpa using hz,hcell,hsz⟩⟩
 obtain⟨l,hl,hs,hlm,_,hq⟩:=strs_of hz
 simp at hk hi ht
 subst hk hi ht hc hl
 exact⟨k,i,t,l,a,cap,rfl,wt,hlm,hq,hs⟩
end Go.Proofs.YtpddanmnlkcdpaaGreatDoor.Hr

