/- Texts put together: PeSz. -/
import Derived.Test.YtikiihjabbmkcaaGreatDoorBz30
import Derived.Test.YtikiihjabbmkcaaGreatDoorBz21
set_option maxRecDepth 100000
set_option maxHeartbeats 8000000
namespace Go.Proofs.YtikiihjabbmkcaaGreatDoor.Pe
open Go.RowKit
open Kp
open Ls (lowL)
def szV (L:Int) (k:Nat):Int:=if L-k<0 then -1 else L-k
theorem szV_yes {L:Int} {k:Nat} (h:(k:Int)<=L):szV L k=L-k:=by unfold szV;rw[if_neg (by omega)]
theorem szV_no {L:Int} {k:Nat} (h:¬(k:Int)<=L):szV L k = -1:=by unfold szV;rw[if_pos (by omega)]
def cost (o:Oth):Nat:=o.name.size+o.has.length
def tot (l:List Oth):Nat:=(l.map cost).sum
theorem tot_take {m:List MO} {j:Nat} (h:j<m.length):tot (oths (m.take (j+1)))=tot (oths (m.take j))+cost m[j].1:=by
 unfold tot oths
 rw[List.take_succ_eq_append_getElem h,List.map_append,List.map_append,List.sum_append]
 simp
theorem tot_le {m:List MO} (j:Nat):tot (oths (m.take j))<=tot (oths m):=by
 have h:oths m=oths (m.take j)++oths (m.drop j):=by
  unfold oths
  rw[<-List.map_append,List.take_append_drop]
 rw[h]
 unfold tot
 rw[List.map_append,List.sum_append]
 omega
theorem cost_le {m:List MO} {x:MO} (hx:x∈m):cost x.1<=tot (oths m):=by
 obtain⟨j,hj,rfl⟩:=List.getElem_of_mem hx
 have h1:=tot_take hj
 have h2:=tot_le (m:=m) (j+1)
 omega
def Lens (m:List MO):Prop:=∀ x∈m,x.1.has.length<=maxLen/\x.1.name.size<=maxLen
theorem szI_any (a:Option Addr) (n cap:Nat) (L:Int) (w:World) (hL0:0<=L) (hL1:L<=1048576) (hn:n<=maxLen) :
  Calls Tryz.prog 133 #[.slice a n cap,.int .i64 L] w fun e w'=>e=.returned (.int .i64 (szV L n))/\w'=w:=by
 unfold maxLen at hn
 have hw:IntKind.i64.wrap (L-(n:Int))=L-(n:Int):=by rw[IntKind.wrap_i64];omega
 by_cases h:(n:Int)<=L
 ·have HE:=hideK (szV_yes h)
  have h1:¬(L-(n:Int))<0:=by omega
  go_enter Tryz.func133,Tryz.ntmps133
  go_wp2_with fail
  go_ret
  exact⟨by rw[HE.out];rfl,rfl⟩
 ·have HE:=hideK (szV_no h)
  have h1:(L-(n:Int))<0:=by omega
  go_enter Tryz.func133,Tryz.ntmps133
  go_wp2_with fail
  go_ret
  exact⟨by rw[HE.out];rfl,rfl⟩
theorem szO_any (nm:ByteArray) (a:Option Addr) (n cap:Nat) (q g t L:Int) (w:World) (hL0:0<=L) (hL1:L<=1048576) (hn:n<=maxLen) (hnm:nm.size<=maxLen) :
  Calls Tryz.prog 91 #[.agg #[.string nm,.slice a n cap,.int .i64 q,.int .i64 g,.int .i64 t],.int .i64 L] w fun e w'=>e=.returned (.int .i64 (szV L (nm.size+n)))/\Below w.heap.size w w':=by
 have C0:=hideK ((Cx.nil w).new (.cells #[.string nm,.slice a n cap,.int .i64 q,.int .i64 g,.int .i64 t] 139))
 have hw:IntKind.i64.wrap (L-(nm.size:Int))=L-(nm.size:Int):=by unfold maxLen at hnm;rw[IntKind.wrap_i64];omega
 by_cases h:(nm.size:Int)<=L
 ·have h1:¬(L-(nm.size:Int))<0:=by omega
  have HI:=hideK (fun W=>szI_any a n cap (L-(nm.size:Int)) W (by omega) (by omega) hn)
  have HV:Hid (szV (L-(nm.size:Int)) n=szV L (nm.size+n)):=by
   unfold Hid szV
   rw[show L-(nm.size:Int)-(n:Int)=L-((nm.size+n:Nat):Int) by omega]
  rw[HV.out]at HI
  clear HV
  generalize hx:szV L (nm.size+n)=X at HI ⊢
  have HX:Hid (X<0->X = -1):=fun h=>by rw[<-hx]at h ⊢;unfold szV at h ⊢;split at h<;>simp_all
  clear hx
  go_enter Tryz.func91,Tryz.ntmps91
  go_wp2_with fail
  refine(HI.out _).mono ?_
  rintro e w1 ⟨rfl,hw1⟩
  subst hw1
  by_cases h2:X<0
  ·have HE:=hideK (HX.out h2)
   go_wp2_with fail
   go_ret
   exact⟨by rw[HE.out];rfl,C0.out.low⟩
  ·go_wp2_with fail
   go_ret
   exact⟨rfl,C0.out.low⟩
 ·have h1:(L-(nm.size:Int))<0:=by omega
  have HE:=hideK (szV_no (L:=L) (k:=nm.size+n) (by omega))
  go_enter Tryz.func91,Tryz.ntmps91
  go_wp2_with fail
  go_ret
  exact⟨by rw[HE.out];rfl,C0.out.low⟩
theorem szOs_any (a:Option Addr) (n cap:Nat) (m:List MO) (L:Int) (w:World) (h:Oths w w.heap.size a m) (hm:m.length=n) (hL0:0<=L) (hL1:L<=1048576) (hn:n<=maxLen) (hl:Lens m) :
  Calls Tryz.prog 48 #[.slice a n cap,.int .i64 L] w fun e w'=>e=.returned (.int .i64 (szV L (n+tot (oths m))))/\Below w.heap.size w w':=by
 have hw:IntKind.i64.wrap (L-(n:Int))=L-(n:Int):=by unfold maxLen at hn;rw[IntKind.wrap_i64];omega
 have HS:=hideK h
 have HM:=hideK hm
 have HL:=hideK hl
 clear h hm hl
 by_cases h0:(n:Int)<=L
 ·have h1:¬(L-(n:Int))<0:=by omega
  have HEND:Hid (((n+tot (oths m):Nat):Int)<=L->szV L (n+tot (oths m))=L-(n+tot (oths m):Nat)):=fun h=>szV_yes h
  have HBAD:Hid (¬((n+tot (oths m):Nat):Int)<=L->szV L (n+tot (oths m)) = -1):=fun h=>szV_no h
  have HTL:=hideK (fun j=>tot_le (m:=m) j)
  have HTT:Hid (oths (m.take n)=oths m):=by unfold Hid;rw[List.take_of_length_le (by rw[HM.out];exact Nat.le_refl _)]
  generalize szV L (n+tot (oths m))=X at HEND HBAD ⊢
  go_enter Tryz.func48,Tryz.ntmps48
  go_wp2_with fail
  go_loopw [1,5] (fun lv jv wr=>∃ j T:Nat,jv=.int .i64 j/\lv=.int .i64 (L-(n:Int)-(T:Int))/\j<=n/\T=tot (oths (m.take j))/\(n:Int)+T<=L/\Below w.heap.size w wr) (fun _ jv _=>n-(intOf jv).toNat)
  case atStart=>exact⟨0,0,rfl,by go_num,Nat.zero_le _,rfl,by omega,Below.refl _ _⟩
  case round =>
   obtain⟨j,T,rfl,rfl,hj,hT,hle,hbel⟩:=hrel
   have HTE:=hideK hT
   have GB:=hideK hbel
   clear hT hbel
   by_cases hlt:j<n
   ·have hlt':(j:Int)<(n:Int):=by omega
    have hjl:j<m.length:=by rw[HM.out];exact hlt
    obtain⟨b,off,rfl,hb,hc⟩:=HS.out.some (by omega)
    obtain⟨d0,d1,d2,d3,d4⟩:=(hc j hjl).below GB.out hb
    obtain⟨ax,cx,hxv,_,_,_⟩:=HS.out.2 m[j] (List.getElem_mem hjl)
    obtain⟨hk1,hk2⟩:=HL.out m[j] (List.getElem_mem hjl)
    have HT2:=hideK (tot_take hjl)
    have HC:Hid (cost m[j].1=m[j].1.name.size+m[j].1.has.length):=rfl
    rw[hxv]at d1
    generalize cost m[j].1=K at HT2 HC
    generalize m[j].1.name=nm at d0 HC hk2
    generalize m[j].1.has.length=k at d1 HC hk1
    generalize m[j].1.asked=q at d2
    generalize m[j].1.age=g at d3
    generalize m[j].1.strikes=t at d4
    clear hc hxv
    have HO:=hideK (fun W=>szO_any nm ax k cx q g t (L-(n:Int)-(T:Int)) W (by omega) (by omega) hk1 hk2)
    rw[<-HC.out]at HO
    have HV:Hid (szV (L-(n:Int)-(T:Int)) K=szV L (n+(T+K))):=by
     unfold Hid szV
     rw[show L-(n:Int)-(T:Int)-(K:Int)=L-((n+(T+K):Nat):Int) by omega]
    rw[HV.out]at HO
    by_cases h2:((n+(T+K):Nat):Int)<=L
    ·rw[szV_yes h2,show L-((n+(T+K):Nat):Int)=L-(n:Int)-((T+K:Nat):Int) by omega]at HO
     have h3:¬(L-(n:Int)-((T+K:Nat):Int))<0:=by omega
     have HTK:Hid (T+K=tot (oths (m.take (j+1)))):=by unfold Hid;rw[HT2.out,<-HTE.out]
     have h4:(n:Int)+((T+K:Nat):Int)<=L:=by omega
     generalize T+K=T2 at HO h3 HTK h4
     clear h2 HV HT2 HC
     go_wp2_with fail
     refine(HO.out _).mono ?_
     rintro e w1 ⟨rfl,hb1⟩
     have G1:=hideK (lowL GB.out hb1)
     clear hb1
     go_wp2_with fail
     go_roundw
     case rel=>exact⟨j+1,T2,by go_num,rfl,by omega,HTK.out,h4,G1.out⟩
     case measure=>simp[intOf];omega
    ·rw[szV_no h2]at HO
     have h5:=HTL.out (j+1)
     rw[HT2.out,<-HTE.out]at h5
     have HE:=hideK (HBAD.out (by omega))
     clear h5
     clear HV HT2 HC
     go_wp2_with fail
     refine(HO.out _).mono ?_
     rintro e w1 ⟨rfl,hb1⟩
     have G1:=hideK (lowL GB.out hb1)
     clear hb1
     go_wp2_with fail
     go_ret
     exact⟨by rw[HE.out];rfl,G1.out⟩
   ·obtain rfl:j=n:=by omega
    have HTN:Hid (T=tot (oths m)):=by unfold Hid;rw[HTE.out,HTT.out]
    have HE:=hideK (HEND.out (by rw[<-HTN.out];omega))
    have HF:Hid (L-(j:Int)-(T:Int)=X):=by unfold Hid;rw[HE.out,<-HTN.out];omega
    go_wp2_with fail
    go_ret
    exact⟨by rw[<-HF.out];rfl,GB.out⟩
 ·have h1:(L-(n:Int))<0:=by omega
  have HE:=hideK (szV_no (L:=L) (k:=n+tot (oths m)) (by omega))
  go_enter Tryz.func48,Tryz.ntmps48
  go_wp2_with fail
  go_ret
  exact⟨by rw[HE.out];rfl,Below.refl _ _⟩
def lpO (z b:Int) (r s:ByteArray) (y:Int) (v:Value):Obj:=.cells #[.int .i64 z,.int .i64 b,.string r,.string s,.int .i64 y,v] 38
def lpV (z b:Int) (r s:ByteArray) (y:Int) (v:Value):Value:=.agg #[.int .i64 z,.int .i64 b,.string r,.string s,.int .i64 y,v]
theorem szP_any (z b:Int) (r s:ByteArray) (y:Int) (a:Option Addr) (n cap:Nat) (m:List MO) (w:World) (h:Oths w w.heap.size a m) (hm:m.length=n) (hr:r.size<=maxLen) (hs:s.size<=maxLen) (hn:n<=maxLen) (hl:Lens m) :
  Calls Tryz.prog 16 #[lpV z b r s y (.slice a n cap),.int .i64 1048576] w fun e w'=>e=.returned (.int .i64 (szV 1048576 (r.size+s.size+(n+tot (oths m)))))/\Below w.heap.size w w':=by
 have C0:=hideK ((Cx.nil w).new (lpO z b r s y (.slice a n cap)))
 unfold lpV
 unfold lpO at C0
 by_cases h0:r.size+s.size<=1048576
 ·have HK:=hideK (fun W=>szK_yes z b r s y W h0)
  have h1:¬(1048576-(r.size:Int)-(s.size:Int))<0:=by omega
  have h2:decide ((1048576-(r.size:Int)-(s.size:Int))<0)=false:=by simp;omega
  have HO:=hideK (fun W (hW:Below w.heap.size w W)=>szOs_any a n cap m (1048576-(r.size:Int)-(s.size:Int)) W ((h.below hW).mono hW.size) hm (by omega) (by omega) hn hl)
  have HV:Hid (szV (1048576-(r.size:Int)-(s.size:Int)) (n+tot (oths m))=szV 1048576 (r.size+s.size+(n+tot (oths m)))):=by
   unfold Hid szV
   rw[show 1048576-(r.size:Int)-(s.size:Int)-((n+tot (oths m):Nat):Int)=1048576-((r.size+s.size+(n+tot (oths m)):Nat):Int) by omega]
  rw[HV.out]at HO
  clear HV h
  generalize hx:szV 1048576 (r.size+s.size+(n+tot (oths m)))=X at HO ⊢
  have HX:Hid (X<0->X = -1):=fun h=>by rw[<-hx]at h ⊢;unfold szV at h ⊢;split at h<;>simp_all
  clear hx
  unfold kV at HK
  go_enter Tryz.func16,Tryz.ntmps16
  go_wp2_with fail
  generalize w.alloc _=W0 at C0 ⊢
  refine(HK.out _).mono ?_
  rintro e w1 ⟨rfl,hb⟩
  have C1:=hideK (C0.out.call hb)
  clear hb C0
  have k5:=cell_of_row w1 w.heap.size 5 _ _ _ (C1.out.get 0 rfl)
  simp at k5
  go_wp2_with fail
  refine(HO.out _ C1.out.low).mono ?_
  rintro e w2 ⟨rfl,hb⟩
  have C2:=hideK (C1.out.call hb)
  clear hb C1
  by_cases h3:X<0
  ·have HE:=hideK (HX.out h3)
   go_wp2_with fail
   go_ret
   exact⟨by rw[HE.out];rfl,C2.out.low⟩
  ·go_wp2_with fail
   go_ret
   exact⟨rfl,C2.out.low⟩
 ·have HK:=hideK (fun W=>szK_no z b r s y W (by unfold maxLen at hr;omega) (by unfold maxLen at hs;omega) h0)
  have HE:=hideK (szV_no (L:=1048576) (k:=r.size+s.size+(n+tot (oths m))) (by omega))
  unfold kV at HK
  go_enter Tryz.func16,Tryz.ntmps16
  go_wp2_with fail
  generalize w.alloc _=W0 at C0 ⊢
  refine(HK.out _).mono ?_
  rintro e w1 ⟨rfl,hb⟩
  have C1:=hideK (C0.out.call hb)
  clear hb C0
  go_wp2_with fail
  go_ret
  exact⟨by rw[HE.out];rfl,C1.out.low⟩
end Go.Proofs.YtikiihjabbmkcaaGreatDoor.Pe

