/- Texts put together: PeRight, CrcPlain, CrcWalks, SealWalks, UnsealWalks. -/
import Derived.Test.YtikiihjabbmkcaaGreatDoorBz30
import Derived.Lib.QuietBelow
import Derived.BigQuiet
import Derived.Laws.BitsAllLaws
import Derived.Test.YtikiihjabbmkcaaGreatDoorChecked
import Derived.WalkKit
import Derived.WalkSpells
import Derived.WalkLawsBesides
import Derived.Test.YtikiihjabbmkcaaGreatDoorBz26
import Derived.Test.YtikiihjabbmkcaaGreatDoorBz12
import Derived.Deep.RegionWith
set_option maxRecDepth 100000
set_option maxHeartbeats 8000000
namespace Go.Proofs.YtikiihjabbmkcaaGreatDoor.Pe
open Go.RowKit
open Kp
open In (Ints)
open Go.Proofs.YtikiihjabbmkcaaGreatDoor.Nm (nameB impl_any)
def ask2 (q g c:Int):Bool:=decide (0<=q/\q<=c/\0<=g/\g<=3/\(0<q∨g=0))
theorem ret_boolP {a b:Bool} (h:a=b):Ending.returned (.bool a)=.returned (.bool b):=by rw[h]
theorem banned_any (nm:ByteArray) (a:Option Addr) (n cap:Nat) (q g t:Int) (w:World) :
  Calls Tryz.prog 78 #[.agg #[.string nm,.slice a n cap,.int .i64 q,.int .i64 g,.int .i64 t]] w fun e w'=>e=.returned (.bool (t==3))/\Below w.heap.size w w':=by
 have C0:=hideK ((Cx.nil w).new (.cells #[.string nm,.slice a n cap,.int .i64 q,.int .i64 g,.int .i64 t] 89))
 go_enter Tryz.func78,Tryz.ntmps78
 go_wp2_with fail
 go_ret
 exact⟨rfl,C0.out.low⟩
theorem rises_impl (a:Option Addr) (n cap:Nat) (l:List Int) (c:Int) (w:World) (h:Ints w w.heap.size a l) (hln:l.length=n) (hn:n<=1048576) :
  Calls Tryz.prog 172 #[.slice a n cap,.int .i64 c] w fun e w'=>e=.returned (.bool (risesB l c))/\w'=w:=by
 have HS:=hideK h
 have HLN:=hideK hln
 clear h hln
 have HNO:Hid (∀ j (hj:j<l.length),¬(aheadZ l j<l[j]/\l[j]<c)->risesB l c=false):=fun j hj h=>risesB_no (rises_bad hj h)
 have HYE:Hid (RisesTo l c l.length->risesB l c=true):=fun h=>risesB_yes h
 generalize risesB l c=R at HNO HYE ⊢
 go_enter Tryz.func172,Tryz.ntmps172
 go_wp2_with fail
 go_loopw [5,10] (fun av jv wr=>∃ j:Nat,jv=.int .i64 j/\av=.int .i64 (aheadZ l j)/\j<=n/\RisesTo l c j/\wr=w) (fun _ jv _=>n-(intOf jv).toNat)
 case atStart=>exact⟨0,rfl,rfl,Nat.zero_le _,rises_zero _ _,rfl⟩
 case round =>
  obtain⟨j,rfl,rfl,hj,hr,hw⟩:=hrel
  subst hw
  have HR:=hideK hr
  clear hr
  by_cases hlt:j<n
  ·have hlt':(j:Int)<(n:Int):=by omega
   have hjl:j<l.length:=by rw[HLN.out];exact hlt
   obtain⟨b,off,rfl,hb,hc⟩:=HS.out.some (by omega)
   have ci:=hc j hjl
   have HNX:=hideK (aheadZ_next l j hjl)
   have HB:=hideK (HNO.out j hjl)
   have HST:Hid (aheadZ l j<l[j]->l[j]<c->RisesTo l c (j+1)):=fun h1 h2=>rises_step hjl HR.out h1 h2
   generalize l[j]=x at ci HNX HB HST
   generalize aheadZ l j=av at HB HST ⊢
   clear hc hjl
   by_cases h1:x<=av
   ·have HF:=hideK (HB.out (by omega))
    go_wp2_with fail
    go_ret
    exact⟨ret_boolP HF.out.symm,rfl⟩
   ·by_cases h2:c<=x
    ·have HF:=hideK (HB.out (by omega))
     go_wp2_with fail
     go_ret
     exact⟨ret_boolP HF.out.symm,rfl⟩
    ·have HG:=hideK (HST.out (by omega) (by omega))
     go_wp2_with fail
     go_roundw
     case rel=>exact⟨j+1,by go_num,by rw[HNX.out],by omega,HG.out,by trivial⟩
     case measure=>simp[intOf];omega
  ·have HG:=hideK (HYE.out (by have:=HR.out;rwa[show l.length=j by have:=HLN.out;omega]))
   go_wp2_with fail
   go_ret
   exact⟨ret_boolP HG.out.symm,rfl⟩
theorem asked_any (nm:ByteArray) (a:Option Addr) (n cap:Nat) (q g t c:Int) (w:World) :
  Calls Tryz.prog 173 #[.agg #[.string nm,.slice a n cap,.int .i64 q,.int .i64 g,.int .i64 t],.int .i64 c] w fun e w'=>e=.returned (.bool (ask2 q g c))/\Below w.heap.size w w':=by
 have C0:=hideK ((Cx.nil w).new (.cells #[.string nm,.slice a n cap,.int .i64 q,.int .i64 g,.int .i64 t] 89))
 by_cases h0:q<0
 ·have HE:Hid (ask2 q g c=false):=by unfold Hid ask2;exact decide_eq_false (by omega)
  go_enter Tryz.func173,Tryz.ntmps173
  go_wp2_with fail
  go_ret
  exact⟨ret_boolP HE.out.symm,C0.out.low⟩
 ·skip
  by_cases h1:c<q
  ·have HE:Hid (ask2 q g c=false):=by unfold Hid ask2;exact decide_eq_false (by omega)
   go_enter Tryz.func173,Tryz.ntmps173
   go_wp2_with fail
   go_ret
   exact⟨ret_boolP HE.out.symm,C0.out.low⟩
  ·skip
   by_cases h2:g<0
   ·have HE:Hid (ask2 q g c=false):=by unfold Hid ask2;exact decide_eq_false (by omega)
    go_enter Tryz.func173,Tryz.ntmps173
    go_wp2_with fail
    go_ret
    exact⟨ret_boolP HE.out.symm,C0.out.low⟩
   ·skip
    by_cases h3:3<g
    ·have HE:Hid (ask2 q g c=false):=by unfold Hid ask2;exact decide_eq_false (by omega)
     go_enter Tryz.func173,Tryz.ntmps173
     go_wp2_with fail
     go_ret
     exact⟨ret_boolP HE.out.symm,C0.out.low⟩
    ·skip
     by_cases h4:0<q
     ·have HE:Hid (ask2 q g c=true):=by unfold Hid ask2;exact decide_eq_true (by omega)
      go_enter Tryz.func173,Tryz.ntmps173
      go_wp2_with fail
      go_ret
      exact⟨ret_boolP HE.out.symm,C0.out.low⟩
     ·by_cases h5:g=0
      ·subst h5
       have HE:Hid (ask2 q 0 c=true):=by unfold Hid ask2;exact decide_eq_true (by omega)
       go_enter Tryz.func173,Tryz.ntmps173
       go_wp2_with fail
       go_ret
       exact⟨ret_boolP HE.out.symm,C0.out.low⟩
      ·have HE:Hid (ask2 q g c=false):=by unfold Hid ask2;exact decide_eq_false (by omega)
       have h5':(g==0)=false:=beq_eq_false_iff_ne.2 h5
       go_enter Tryz.func173,Tryz.ntmps173
       go_wp2_with fail
       go_ret
       exact⟨ret_boolP HE.out.symm,C0.out.low⟩
theorem oth_eq (x:Oth) (c:Int):othB x c=(nameB x.name && risesB x.has c && ask2 x.asked x.age c && decide (0<=x.strikes/\x.strikes<=3) && (!(x.strikes==3) || (decide (x.has.length=0) && decide (x.asked=0)))):=rfl
theorem other_run (nm:ByteArray) (a:Option Addr) (n cap:Nat) (l:List Int) (q g t c:Int) (w:World) (h:Ints w w.heap.size a l) (hln:l.length=n) (hn:n<=1048576) (hnm:nm.size<=maxLen) (N R K Q:Bool)
  (hN:nameB nm=N) (hR:risesB l c=R) (hK:ask2 q g c=K) (hQ:(N && R && K && decide (0<=t/\t<=3) && (!(t==3) || (decide (l.length=0) && decide (q=0))))=Q) :
  Calls Tryz.prog 135 #[.agg #[.string nm,.slice a n cap,.int .i64 q,.int .i64 g,.int .i64 t],.int .i64 c] w fun e w'=>e=.returned (.bool Q)/\Below w.heap.size w w':=by
 have C0:=hideK ((Cx.nil w).new (.cells #[.string nm,.slice a n cap,.int .i64 q,.int .i64 g,.int .i64 t] 89))
 have HNM:=hideK (fun W=>impl_any nm W hnm)
 have HRI:=hideK (fun W (hW:Below w.heap.size w W)=>rises_impl a n cap l c W ((h.below hW).mono hW.size) hln hn)
 have HAS:=hideK (fun W=>asked_any nm a n cap q g t c W)
 have HBA:=hideK (fun W=>banned_any nm a n cap q g t W)
 rw[hN]at HNM
 rw[hR]at HRI
 rw[hK]at HAS
 rw[hln]at hQ
 clear h hnm hN hR hK
 cases N with
 |false =>
  have HQ:Hid (Q=false):=by unfold Hid;rw[<-hQ];rfl
  clear hQ
  go_enter Tryz.func135,Tryz.ntmps135
  go_wp2_with fail
  refine(HNM.out _).mono ?_
  rintro e w1 ⟨rfl,hw⟩
  subst hw
  go_wp2_with fail
  go_ret
  exact⟨ret_boolP HQ.out.symm,C0.out.low⟩
 |true =>
 cases R with
 |false =>
  have HQ:Hid (Q=false):=by unfold Hid;rw[<-hQ];rfl
  clear hQ
  go_enter Tryz.func135,Tryz.ntmps135
  go_wp2_with fail
  refine(HNM.out _).mono ?_
  rintro e w1 ⟨rfl,hw⟩
  subst hw
  go_wp2_with fail
  refine(HRI.out _ C0.out.low).mono ?_
  rintro e w1 ⟨rfl,hw⟩
  subst hw
  go_wp2_with fail
  go_ret
  exact⟨ret_boolP HQ.out.symm,C0.out.low⟩
 |true =>
 cases K with
 |false =>
  have HQ:Hid (Q=false):=by unfold Hid;rw[<-hQ];rfl
  clear hQ
  go_enter Tryz.func135,Tryz.ntmps135
  go_wp2_with fail
  refine(HNM.out _).mono ?_
  rintro e w1 ⟨rfl,hw⟩
  subst hw
  go_wp2_with fail
  refine(HRI.out _ C0.out.low).mono ?_
  rintro e w1 ⟨rfl,hw⟩
  subst hw
  go_wp2_with fail
  refine(HAS.out _).mono ?_
  rintro e w2 ⟨rfl,hb⟩
  have C1:=hideK (C0.out.call hb)
  clear hb
  go_wp2_with fail
  go_ret
  exact⟨ret_boolP HQ.out.symm,C1.out.low⟩
 |true =>
  have hQ2:(decide (0<=t/\t<=3) && (!(t==3) || (decide (n=0) && decide (q=0))))=Q:=by rw[<-hQ];rfl
  clear hQ
  have HQQ:=hideK hQ2
  clear hQ2
  go_enter Tryz.func135,Tryz.ntmps135
  go_wp2_with fail
  refine(HNM.out _).mono ?_
  rintro e w1 ⟨rfl,hw⟩
  subst hw
  go_wp2_with fail
  refine(HRI.out _ C0.out.low).mono ?_
  rintro e w1 ⟨rfl,hw⟩
  subst hw
  go_wp2_with fail
  refine(HAS.out _).mono ?_
  rintro e w2 ⟨rfl,hb⟩
  have C1:=hideK (C0.out.call hb)
  clear hb C0
  obtain⟨k0,k1,k2,k3,k4⟩:=cells5 (C1.out.get 0 rfl)
  by_cases h1:t<0
  ·have HQ:Hid (Q=false):=by unfold Hid;rw[<-HQQ.out,decide_eq_false (by omega)];rfl
   go_wp2_with fail
   go_ret
   exact⟨ret_boolP HQ.out.symm,C1.out.low⟩
  ·by_cases h2:3<t
   ·have HQ:Hid (Q=false):=by unfold Hid;rw[<-HQQ.out,decide_eq_false (by omega)];rfl
    go_wp2_with fail
    go_ret
    exact⟨ret_boolP HQ.out.symm,C1.out.low⟩
   ·go_wp2_with fail
    refine(HBA.out _).mono ?_
    rintro e w3 ⟨rfl,hb⟩
    have C2:=hideK (C1.out.call hb)
    clear hb C1 k0 k1 k2 k3 k4
    obtain⟨k0,k1,k2,k3,k4⟩:=cells5 (C2.out.get 0 rfl)
    by_cases h3:t=3
    ·have h3':(t==3)=true:=beq_iff_eq.2 h3
     by_cases h4:n=0
     ·have h4':((n:Int)==0)=true:=beq_iff_eq.2 (by omega)
      have HQ:Hid (Q=(q==0)):=by
       unfold Hid
       rw[<-HQQ.out,h3',decide_eq_true (by omega),decide_eq_true h4]
       by_cases hq:q=0
       ·simp[hq]
       ·simp[hq]
      rw[h3']
      clear h3' h3
      go_wp2_with fail
      go_ret
      exact⟨ret_boolP HQ.out.symm,C2.out.low⟩
     ·have h4':((n:Int)==0)=false:=beq_eq_false_iff_ne.2 (by omega)
      have HQ:Hid (Q=false):=by unfold Hid;rw[<-HQQ.out,h3',decide_eq_false h4];simp
      rw[h3']
      clear h3' h3
      go_wp2_with fail
      go_ret
      exact⟨ret_boolP HQ.out.symm,C2.out.low⟩
    ·have h3':(t==3)=false:=beq_eq_false_iff_ne.2 h3
     have HQ:Hid (Q=true):=by unfold Hid;rw[<-HQQ.out,h3',decide_eq_true (by omega)];rfl
     rw[h3']
     clear h3'
     go_wp2_with fail
     go_ret
     exact⟨ret_boolP HQ.out.symm,C2.out.low⟩
theorem other_any (x:MO) (c:Int) (w:World) (h:HasAt w w.heap.size x) (hn:x.1.has.length<=1048576) (hnm:x.1.name.size<=maxLen) :
  Calls Tryz.prog 135 #[othV x,.int .i64 c] w fun e w'=>e=.returned (.bool (othB x.1 c))/\Below w.heap.size w w':=by
 obtain⟨a,cap,hv,_,_,hi⟩:=h
 unfold othV
 rw[hv]
 exact other_run x.1.name a _ cap x.1.has _ _ _ c w hi rfl hn hnm _ _ _ _ rfl rfl rfl (oth_eq x.1 c).symm
end Go.Proofs.YtikiihjabbmkcaaGreatDoor.Pe


/- Plain mathematics of the CRC: one bit's step of the register, one byte's, a text's; and how the model's operations on 32 bits say the same. -/
namespace Go.Proofs.YtikiihjabbmkcaaGreatDoor.Cr
def step (x:Nat):Nat:=if x%2=1 then (x/2) ^^^ 3988292384 else x/2
def stepN:Nat->Nat->Nat
 |0,x=>x
 |k+1,x=>step (stepN k x)
def crc8 (r c:Nat):Nat:=stepN 8 (r ^^^ c)
def crcL (r:Nat) (l:List UInt8):Nat:=l.foldl (fun r b=>crc8 r b.toNat) r
def fin (r:Nat):Nat:=r ^^^ 4294967295
theorem xor_lt {a b:Nat} (ha:a<4294967296) (hb:b<4294967296):a ^^^ b<4294967296 :=
 Nat.xor_lt_two_pow (n:=32) ha hb
theorem step_lt {x:Nat} (h:x<4294967296):step x<4294967296:=by
 unfold step
 split
 ·exact xor_lt (by omega) (by decide)
 ·omega
theorem stepN_lt {x:Nat} (h:x<4294967296) (k:Nat):stepN k x<4294967296:=by
 induction k with
 |zero=>exact h
 |succ k ih=>exact step_lt ih
theorem crc8_lt {r c:Nat} (h:r<4294967296) (hc:c<256):crc8 r c<4294967296 :=
 stepN_lt (xor_lt h (by omega)) 8
theorem crcL_lt (l:List UInt8):∀ r,r<4294967296->crcL r l<4294967296:=by
 induction l with
 |nil=>intro r h;exact h
 |cons b l ih=>intro r h;exact ih _ (crc8_lt h b.toNat_lt)
theorem crcL_snoc (r:Nat) (l:List UInt8) (b:UInt8):crcL r (l++[b])=crc8 (crcL r l) b.toNat:=by
 simp[crcL,List.foldl_append]
theorem take_snoc (s:ByteArray) (k:Nat) (h:k<s.size):s.data.toList.take (k+1)=s.data.toList.take k++[s[k]]:=by
 rw[List.take_succ_eq_append_getElem (by simpa using h)];rfl
theorem crcL_take (r:Nat) (s:ByteArray) (k:Nat) (h:k<s.size):crcL r (s.data.toList.take (k+1))=crc8 (crcL r (s.data.toList.take k)) (s[k]).toNat:=by
 rw[take_snoc s k h,crcL_snoc]
theorem fin_lt {r:Nat} (h:r<4294967296):fin r<4294967296:=xor_lt h (by decide)
def implS (x c k:Nat):Nat:=if (x ^^^ c/2 ^ k)%2=1 then (x/2) ^^^ 3988292384 else x/2
theorem inv_step (x c k:Nat):implS x c k ^^^ (c/2 ^ (k+1))=step (x ^^^ c/2 ^ k):=by
 have e:c/2 ^ (k+1)=(c/2 ^ k)/2:=by rw[Nat.pow_succ,Nat.div_div_eq_div_mul]
 unfold implS step
 rw[e,Nat.xor_div_two]
 split
 ·rw[Nat.xor_assoc,Nat.xor_assoc,Nat.xor_comm 3988292384]
 ·rfl
theorem implS_lt {x:Nat} (c k:Nat) (h:x<4294967296):implS x c k<4294967296:=by
 unfold implS
 split
 ·exact xor_lt (by omega) (by decide)
 ·omega
/-! the walk's own spellings -/
theorem nat_pow_cast (c k:Nat):((c:Int)/2 ^ k)=((c/2 ^ k:Nat):Int):=by
 rw[Int.natCast_ediv,Int.natCast_pow];rfl
theorem turned_eq (x c k:Nat) (hx:x<4294967296) (hc:c<256) :
  bits BinOp.and IntKind.u32 (bits BinOp.xor IntKind.u32 (x:Int) ((c:Int)/2 ^ k%4294967296)) 1=(((x ^^^ c/2 ^ k)%2:Nat):Int):=by
 have h1:c/2 ^ k<4294967296:=Nat.lt_of_le_of_lt (Nat.div_le_self _ _) (by omega)
 have e:((c:Int)/2 ^ k%4294967296)=((c/2 ^ k:Nat):Int):=by
  rw[nat_pow_cast]
  generalize c/2 ^ k=q at h1 ⊢
  omega
 rw[e,u32_xor_nat _ _ hx h1]
 have:=u32_and_nat (x ^^^ c/2 ^ k) 1 (xor_lt hx h1) (by decide)
 rw[nat_mask1]at this
 exact this
theorem half_xor (x:Nat) (hx:x<4294967296):bits BinOp.xor IntKind.u32 ((x:Int)/2) 3988292384=(((x/2) ^^^ 3988292384:Nat):Int):=by
 have e:((x:Int)/2)=((x/2:Nat):Int):=by omega
 rw[e]
 exact u32_xor_nat (x/2) 3988292384 (by omega) (by decide)
theorem low_eq (x:Nat) (hx:x<4294967296):bits BinOp.and IntKind.u32 (x:Int) 1=((x%2:Nat):Int):=by
 have:=u32_and_nat x 1 hx (by decide)
 rw[nat_mask1]at this
 exact this
theorem not_eq (x:Nat) (hx:x<4294967296):bits BinOp.xor IntKind.u32 (x:Int) 4294967295=((fin x:Nat):Int) :=
 u32_xor_nat x 4294967295 hx (by decide)
theorem not_eq' (x:Nat) (hx:x<4294967296):bits BinOp.xor IntKind.u32 IntKind.u32.max (x:Int)=((fin x:Nat):Int):=by
 rw[fin,Nat.xor_comm,show IntKind.u32.max=((4294967295:Nat):Int) from rfl]
 exact u32_xor_nat 4294967295 x (by decide) hx
end Go.Proofs.YtikiihjabbmkcaaGreatDoor.Cr


namespace Go.Proofs.YtikiihjabbmkcaaGreatDoor.Cr
open Go.RowKit
theorem ret_int {k:IntKind} {a b:Int} (h:a=b):Ending.returned (.int k a)=.returned (.int k b):=by rw[h]
theorem byte_any (r c:Nat) (w:World) (hr:r<4294967296) (hc:c<256) :
  Calls Tryz.prog 246 #[.int .u32 r,.int .u8 c] w fun e w'=>e=.returned (.int .u32 (crc8 r c:Nat))/\w'=w:=by
 go_enter Tryz.func246,Tryz.ntmps246
 go_wp2
 go_loop [0,5,6,7] (fun a _ _ i=>∃ k x:Nat,k<=8/\i=.int .i64 k/\x<4294967296/\a=.int .u32 x/\x ^^^ c/2 ^ k=stepN k (r ^^^ c)) (fun _ _ _ i=>8-(intOf i).toNat)
 case atStart=>exact⟨0,r,by omega,rfl,hr,rfl,by simp[stepN]⟩
 case round =>
  obtain⟨k,x,hk,rfl,hx,rfl,hinv⟩:=hrel
  have HI:Hid (x ^^^ c/2 ^ k=stepN k (r ^^^ c)):=hinv
  clear hinv
  by_cases hlt:k<8
  ·have ht:=turned_eq x c k hx hc
   by_cases hb:(x ^^^ c/2 ^ k)%2=1
   ·have hB:(bits BinOp.and IntKind.u32 (bits BinOp.xor IntKind.u32 (x:Int) ((c:Int)/2 ^ k%4294967296)) 1==1)=true:=by rw[ht,hb];rfl
    have HS:Hid (implS x c k=(x/2) ^^^ 3988292384):=by unfold Hid implS;rw[if_pos hb]
    clear ht hb
    go_wp2
    go_round
    case rel=>exact⟨k+1,implS x c k,by omega,by go_num,implS_lt c k hx,by rw[HS.out,half_xor x hx],by rw[inv_step,HI.out];rfl⟩
    case measure=>simp[intOf];omega
   ·have hB:(bits BinOp.and IntKind.u32 (bits BinOp.xor IntKind.u32 (x:Int) ((c:Int)/2 ^ k%4294967296)) 1==1)=false:=by rw[ht];simp;omega
    have HS:Hid (implS x c k=x/2):=by unfold Hid implS;rw[if_neg hb]
    clear ht hb
    go_wp2
    go_round
    case rel=>exact⟨k+1,implS x c k,by omega,by go_num,implS_lt c k hx,by rw[HS.out];go_num,by rw[inv_step,HI.out];rfl⟩
    case measure=>simp[intOf];omega
  ·have HX:Hid (x=crc8 r c):=by
    have h:=HI.out
    have e8:k=8:=by omega
    rw[e8,Nat.div_eq_of_lt (by omega),Nat.xor_zero]at h
    exact h
   go_wp2
   go_ret
   exact⟨ret_int (by rw[HX.out]),rfl⟩
theorem more_any (n:Nat) (s:ByteArray) (w:World) (hs:s.size<=8000) (hn:n<4294967296) :
  Calls Tryz.prog 235 #[.int .i64 n,.string s] w fun e w'=>e=.returned (.int .i64 (fin (crcL (fin n) s.data.toList):Nat))/\w'=w:=by
 have hn1:¬(4294967295:Int)<n:=by omega
 have HN:Hid (bits BinOp.xor IntKind.u32 IntKind.u32.max (n:Int)=((fin n:Nat):Int)):=not_eq' n hn
 have HF:Hid (fin n<4294967296):=fin_lt hn
 go_enter Tryz.func235,Tryz.ntmps235
 go_wp2
 go_loop [5,6,23] (fun a _ i=>∃ k x:Nat,k<=s.size/\i=.int .i64 k/\x<4294967296/\a=.int .u32 x/\x=crcL (fin n) (s.data.toList.take k)) (fun _ _ i=>s.size-(intOf i).toNat)
 case atStart=>exact⟨0,fin n,Nat.zero_le _,rfl,HF.out,by rw[HN.out],rfl⟩
 case round =>
  obtain⟨k,x,hk,rfl,hx,rfl,hinv⟩:=hrel
  have HI:Hid (x=crcL (fin n) (s.data.toList.take k)):=hinv
  clear hinv
  by_cases hlt:k<s.size
  ·have hb:s[k].toNat<256:=s[k].toNat_lt
   have HT:Hid (crc8 x s[k].toNat=crcL (fin n) (s.data.toList.take (k+1))):=by
    unfold Hid
    rw[crcL_take _ _ _ hlt,<-HI.out]
   have HL:Hid (crc8 x s[k].toNat<4294967296):=crc8_lt hx hb
   go_wp2_with (go_at_call 246;refine(byte_any _ _ _ hx hb).mono ?_;rintro e w' ⟨rfl,rfl⟩)
   go_round
   case rel=>exact⟨k+1,crc8 x s[k].toNat,by omega,by go_num,HL.out,rfl,HT.out⟩
   case measure=>simp[intOf];omega
  ·have HX:Hid (x=crcL (fin n) s.data.toList):=by
    have h:=HI.out
    rw[List.take_of_length_le (by simp;omega)]at h
    exact h
   have HE:Hid (bits BinOp.xor IntKind.u32 IntKind.u32.max (x:Int)=((fin x:Nat):Int)):=not_eq' x hx
   have HG:Hid (fin x<4294967296):=fin_lt hx
   go_wp2
   go_ret
   have e1:=HE.out
   have e2:=HX.out
   have e3:=HG.out
   rw[e2]at e3
   exact⟨ret_int (by rw[e1,e2];simp[wrap64];omega),rfl⟩
theorem crc_spec (n:Nat) (s:ByteArray) (w:World) (hs:s.size<=8000) (hn:n<4294967296) :
  Calls Tryz.prog 149 #[.int .i64 n,.string s] w fun e w'=>e=.returned (.int .i64 (fin (crcL (fin n) s.data.toList):Nat))/\w'=w:=by
 have HN:Hid (bits BinOp.xor IntKind.u32 (n:Int) 4294967295=((fin n:Nat):Int)):=not_eq n hn
 have HF:Hid (fin n<4294967296):=fin_lt hn
 go_enter Tryz.func149,Tryz.ntmps149
 go_wp2
 go_loop [5,6,7] (fun a i _=>∃ k x:Nat,k<=s.size/\i=.int .i64 k/\x<4294967296/\a=.int .u32 x/\x=crcL (fin n) (s.data.toList.take k)) (fun _ i _=>s.size-(intOf i).toNat)
 case atStart=>exact⟨0,fin n,Nat.zero_le _,rfl,HF.out,by rw[HN.out],rfl⟩
 case round =>
  obtain⟨k,x,hk,rfl,hx,rfl,hinv⟩:=hrel
  have HI:Hid (x=crcL (fin n) (s.data.toList.take k)):=hinv
  clear hinv
  by_cases hlt:k<s.size
  ·have hb:s[k].toNat<256:=s[k].toNat_lt
   have HT:Hid (crc8 x s[k].toNat=crcL (fin n) (s.data.toList.take (k+1))):=by
    unfold Hid
    rw[crcL_take _ _ _ hlt,<-HI.out]
   have HL:Hid (crc8 x s[k].toNat<4294967296):=crc8_lt hx hb
   have HXL:Hid (x ^^^ s[k].toNat<4294967296):=xor_lt hx (by omega)
   have HXE:Hid (bits BinOp.xor IntKind.u32 (x:Int) (s[k].toNat:Int)=((x ^^^ s[k].toNat:Nat):Int)):=u32_xor_nat _ _ hx (by omega)
   go_wp2
   go_loop [5,7] (fun a i=>∃ j y:Nat,j<=8/\i=.int .i64 j/\y<4294967296/\a=.int .u32 y/\y=stepN j (x ^^^ s[k].toNat)) (fun _ i=>8-(intOf i).toNat)
   case atStart=>exact⟨0,x ^^^ s[k].toNat,Nat.zero_le _,rfl,HXL.out,by rw[HXE.out],rfl⟩
   case round =>
    obtain⟨j,y,hj,rfl,hy,rfl,hinv⟩:=hrel
    have HJ:Hid (y=stepN j (x ^^^ s[k].toNat)):=hinv
    clear hinv
    by_cases hjl:j<8
    ·have ht:=low_eq y hy
     by_cases hb:y%2=1
     ·have hB:(bits BinOp.and IntKind.u32 (y:Int) 1==1)=true:=by rw[ht,hb];rfl
      have HS:Hid (step y=(y/2) ^^^ 3988292384):=by unfold Hid step;rw[if_pos hb]
      clear ht hb
      go_wp2
      go_round
      case rel=>exact⟨j+1,step y,by omega,by go_num,step_lt hy,by rw[HS.out,half_xor y hy],by rw[HJ.out];rfl⟩
      case measure=>simp[intOf];omega
     ·have hB:(bits BinOp.and IntKind.u32 (y:Int) 1==1)=false:=by rw[ht];simp;omega
      have HS:Hid (step y=y/2):=by unfold Hid step;rw[if_neg hb]
      clear ht hb
      go_wp2
      go_round
      case rel=>exact⟨j+1,step y,by omega,by go_num,step_lt hy,by rw[HS.out];go_num,by rw[HJ.out];rfl⟩
      case measure=>simp[intOf];omega
    ·have HY:Hid (y=crcL (fin n) (s.data.toList.take (k+1))):=by
      have h:=HJ.out
      have e8:j=8:=by omega
      rw[e8]at h
      exact h.trans HT.out
     go_wp2
     go_round
     case rel=>exact⟨k+1,y,by omega,by go_num,hy,rfl,HY.out⟩
     case measure=>simp[intOf];omega
  ·have HX:Hid (x=crcL (fin n) s.data.toList):=by
    have h:=HI.out
    rw[List.take_of_length_le (by simp;omega)]at h
    exact h
   have HE:Hid (bits BinOp.xor IntKind.u32 (x:Int) 4294967295=((fin x:Nat):Int)):=not_eq x hx
   have HG:Hid (fin x<4294967296):=fin_lt hx
   go_wp2
   go_ret
   have e1:=HE.out
   have e2:=HX.out
   have e3:=HG.out
   rw[e2]at e3
   exact⟨ret_int (by rw[e1,e2];simp[wrap64];omega),rfl⟩
def moreV (c:Int) (s:ByteArray):Int:=if s.size<=8000/\0<=c/\c<=4294967295 then (fin (crcL (fin c.toNat) s.data.toList):Nat) else 0
theorem moreV_yes (n:Nat) (s:ByteArray) (hs:s.size<=8000) (hn:n<4294967296):moreV n s=(fin (crcL (fin n) s.data.toList):Nat):=by
 unfold moreV
 rw[if_pos ⟨hs,by omega,by omega⟩,Int.toNat_natCast]
theorem moreV_no (c:Int) (s:ByteArray) (h:¬(s.size<=8000/\0<=c/\c<=4294967295)):moreV c s=0:=by
 unfold moreV
 rw[if_neg h]
theorem more_impl (c:Int) (s:ByteArray) (w:World) (hs:s.size<=maxLen) :
  Calls Tryz.prog 235 #[.int .i64 c,.string s] w fun e w'=>e=.returned (.int .i64 (moreV c s))/\w'=w:=by
 unfold maxLen at hs
 by_cases h1:8000<s.size
 ·go_enter Tryz.func235,Tryz.ntmps235
  go_wp2
  go_ret
  exact⟨ret_int (moreV_no c s (by omega)).symm,rfl⟩
 ·by_cases h2:c<0
  ·go_enter Tryz.func235,Tryz.ntmps235
   go_wp2
   go_ret
   exact⟨ret_int (moreV_no c s (by omega)).symm,rfl⟩
  ·by_cases h3:4294967295<c
   ·go_enter Tryz.func235,Tryz.ntmps235
    go_wp2
    go_ret
    exact⟨ret_int (moreV_no c s (by omega)).symm,rfl⟩
   ·obtain⟨n,rfl⟩:=Int.eq_ofNat_of_zero_le (show 0<=c from by omega)
    rw[moreV_yes n s (by omega) (by omega)]
    exact more_any n s w (by omega) (by omega)
theorem crc_impl0 (s:ByteArray) (w:World) (hs:s.size<=maxLen) :
  Calls Tryz.prog 219 #[.string s] w fun e w'=>e=.returned (.int .i64 (moreV 0 s))/\w'=w:=by
 go_enter Tryz.func219,Tryz.ntmps219
 go_wp2_with fail
 refine(more_impl 0 s _ hs).mono ?_
 rintro e w' ⟨rfl,rfl⟩
 go_wp2
 go_ret
 exact⟨rfl,rfl⟩
end Go.Proofs.YtikiihjabbmkcaaGreatDoor.Cr


namespace Go.Proofs.YtikiihjabbmkcaaGreatDoor.Se
open Go.RowKit
open Nu (bv arr_string ret_strJ hideJ)
def crcOf (s:ByteArray):Nat:=Cr.fin (Cr.crcL (Cr.fin 0) s.data.toList)
def fourL (n:Nat):List UInt8:=[UInt8.ofNat (n%256),UInt8.ofNat (n/256%256),UInt8.ofNat (n/65536%256),UInt8.ofNat (n/16777216)]
def fourS (n:Nat):ByteArray:=⟨(fourL n).toArray⟩
def sealV (t:ByteArray):ByteArray:=if t.size<=7996 then t++fourS (crcOf t) else ⟨#[]⟩
theorem crcOf_lt (s:ByteArray):crcOf s<4294967296:=Cr.fin_lt (Cr.crcL_lt _ _ (Cr.fin_lt (by decide)))
theorem fourS_size (n:Nat):(fourS n).size=4:=rfl
theorem moreV_crc (s:ByteArray) (h:s.size<=8000):Cr.moreV 0 s=(crcOf s:Nat):=Cr.moreV_yes 0 s h (by decide)
theorem bv_of (q:Nat) (x:Int) (hq:(q:Int)=x) (h:q<256):bv (UInt8.ofNat q)=.int .u8 x:=by
 unfold bv
 rw[UInt8.toNat_ofNat',Nat.mod_eq_of_lt (by omega),hq]
theorem four_cells (n:Nat) (h:n<4294967296) :
  (#[.int .u8 ((n:Int)%256),.int .u8 ((n:Int)/256%256),.int .u8 ((n:Int)/65536%256),.int .u8 ((n:Int)/16777216)]:Array Value).toList=(fourL n).map bv:=by
 simp only[fourL,List.map_cons,List.map_nil]
 rw[bv_of (n%256) ((n:Int)%256) (by omega) (by omega),bv_of (n/256%256) ((n:Int)/256%256) (by omega) (by omega),
  bv_of (n/65536%256) ((n:Int)/65536%256) (by omega) (by omega),bv_of (n/16777216) ((n:Int)/16777216) (by omega) (by omega)]
theorem four_conv {P:Program} {src dst e:TypeId} (t:TypeId) (u:World) (n:Nat) (h:n<4294967296) (hs:P.underlying src=some (.slice e)) (he:P.underlying e=some (.int .u8)) (hd:P.underlying dst=some .string) :
  (convert src dst (.slice (some ⟨u.heap.size,0,none⟩) 4 4)).run P (u.alloc (.cells #[.int .u8 ((n:Int)%256),.int .u8 ((n:Int)/256%256),.int .u8 ((n:Int)/65536%256),.int .u8 ((n:Int)/16777216)] t)) =
   .ok (.string (fourS n)) (u.alloc (.cells #[.int .u8 ((n:Int)%256),.int .u8 ((n:Int)/256%256),.int .u8 ((n:Int)/65536%256),.int .u8 ((n:Int)/16777216)] t)) :=
 arr_string (P:=P) (fourL n) 4 (heap_alloc_new u _) (by rw[four_cells n h];rfl) hs he hd
theorem four_any (n:Nat) (w:World) (hn:n<4294967296) :
  Calls Tryz.prog 148 #[.int .i64 n] w fun e w'=>e=.returned (.string (fourS n))/\Below w.heap.size w w':=by
 have hcv:=four_conv (P:=Tryz.prog) 5 w n hn Tryz.underlying168 Tryz.underlying5 Tryz.underlying9
 go_enter Tryz.func148,Tryz.ntmps148
 go_wp2
 go_ret
 exact⟨rfl,(Below.refl _ _).alloc (Nat.le_refl _) _⟩
theorem sum_any (s:ByteArray) (w:World) (hs:s.size<=8000) :
  Calls Tryz.prog 190 #[.string s] w fun e w'=>e=.returned (.string (fourS (crcOf s)))/\Below w.heap.size w w':=by
 have HV:=hideJ (moreV_crc s hs)
 have hn:=crcOf_lt s
 generalize crcOf s=n at HV hn ⊢
 have hcv:=four_conv (P:=Tryz.prog) 266 w n hn Tryz.underlying168 Tryz.underlying5 Tryz.underlying9
 go_enter Tryz.func190,Tryz.ntmps190
 go_wp2_with fail
 refine(Cr.crc_impl0 s _ (by unfold maxLen;omega)).mono ?_
 rw[HV.out]
 rintro e w' ⟨rfl,hw⟩
 subst w'
 go_wp2
 refine wp_loop_rounds 5 ?_
 rw[rounds_succ];go_wp2
 rw[rounds_succ];go_wp2
 rw[rounds_succ];go_wp2
 rw[rounds_succ];go_wp2
 rw[rounds_succ];go_wp2
 go_ret
 exact⟨rfl,(Below.refl _ _).alloc (Nat.le_refl _) _⟩
theorem seal_impl (t:ByteArray) (w:World) (ht:t.size<=maxLen) :
  Calls Tryz.prog 156 #[.string t] w fun e w'=>e=.returned (.string (sealV t))/\Below w.heap.size w w':=by
 unfold maxLen at ht
 by_cases h:7996<t.size
 ·have HP:=hideJ (show sealV t=⟨#[]⟩ by unfold sealV;rw[if_neg (by omega)])
  go_enter Tryz.func156,Tryz.ntmps156
  go_wp2
  go_ret
  exact⟨ret_strJ HP.out.symm,Below.refl _ _⟩
 ·have HP:=hideJ (show sealV t=t++fourS (crcOf t) by unfold sealV;rw[if_pos (by omega)])
  have HF:=hideJ (fourS_size (crcOf t))
  go_enter Tryz.func156,Tryz.ntmps156
  go_wp2_with fail
  refine(sum_any t _ (by omega)).mono ?_
  rintro e w1 ⟨rfl,hb1⟩
  go_wp2_with fail
  refine(Nu.join_any _ _ _ (by rw[HF.out];omega)).mono ?_
  rintro e w2 ⟨rfl,hb2⟩
  go_wp2
  go_ret
  exact⟨ret_strJ HP.out.symm,hb1.trans (hb2.mono hb1.size)⟩
end Go.Proofs.YtikiihjabbmkcaaGreatDoor.Se


namespace Go.Proofs.YtikiihjabbmkcaaGreatDoor.Se
open Go.RowKit
open Nu (bv arr_string ret_strJ hideJ)
def outV (t:ByteArray) (at_ code:Int):Value:=.agg #[.string t,.int .i64 at_,.int .i64 code]
def unsealV (s:ByteArray):Value :=
 if 8000<s.size then outV ⟨#[]⟩ 0 2 else if s.size<4 then outV ⟨#[]⟩ 0 4
 else if sealV (s.extract 0 (s.size-4))=s then outV (s.extract 0 (s.size-4)) 0 0 else outV ⟨#[]⟩ 0 5
theorem bcell {W w1:World} (hb:Below W.heap.size W w1):(∀ b o,b<W.heap.size->w1.cell? ⟨b,o,none⟩=W.cell? ⟨b,o,none⟩)/\(∀ b o,b<W.heap.size->w1.frozen? ⟨b,o,none⟩=W.frozen? ⟨b,o,none⟩) :=
 ⟨fun b o h=>hb.cell (p:=⟨b,o,none⟩) h,fun b o h=>hb.frozen (p:=⟨b,o,none⟩) h⟩
theorem below3 {w wa wb:World} {o:Obj} (h1:Below (w.alloc o).heap.size (w.alloc o) wa) (h2:Below (w.alloc o).heap.size wa wb):Below w.heap.size w wb :=
 ((Below.refl w.heap.size w).alloc (Nat.le_refl _) o).trans ((h1.trans h2).mono (by simp))
theorem below2d {w wa:World} {o:Obj} (h1:Below (w.alloc o).drew.heap.size (w.alloc o).drew wa):Below w.heap.size w wa :=
 ((Below.refl w.heap.size w).alloc (Nat.le_refl _) o).drew.trans (h1.mono (by simp))
theorem list_eq_iff (a b:ByteArray):(a.toList==b.toList)=decide (a=b):=by
 by_cases h:a=b
 ·rw[h];simp
 ·rw[decide_eq_false h,beq_eq_false_iff_ne]
  intro e
  apply h
  rw[ByteArray.toList_eq,ByteArray.toList_eq]at e
  have e2:a.data=b.data:=by rw[<-Array.toArray_toList (xs:=a.data),e,Array.toArray_toList]
  cases a;cases b;simpa using e2
theorem unsealV_yes (s t:ByteArray) (h1:¬8000<s.size) (h2:¬s.size<4) (ht:t=s.extract 0 (s.size-4)) (h:sealV t=s):unsealV s=outV t 0 0:=by
 unfold unsealV
 rw[if_neg h1,if_neg h2,<-ht,if_pos h]
theorem unsealV_no (s t:ByteArray) (h1:¬8000<s.size) (h2:¬s.size<4) (ht:t=s.extract 0 (s.size-4)) (h:¬sealV t=s):unsealV s=outV ⟨#[]⟩ 0 5:=by
 unfold unsealV
 rw[if_neg h1,if_neg h2,<-ht,if_neg h]
theorem unseal_impl (s:ByteArray) (w:World) (hs:s.size<=maxLen) :
  Calls Tryz.prog 126 #[.string s] w fun e w'=>e=.returned (unsealV s)/\Below w.heap.size w w':=by
 unfold maxLen at hs
 by_cases h1:8000<s.size
 ·have HV:=hideJ (show unsealV s=outV ⟨#[]⟩ 0 2 by unfold unsealV;rw[if_pos h1])
  go_enter Tryz.func126,Tryz.ntmps126
  go_wp2
  refine bodyPost_ret (v:=outV ⟨#[]⟩ 0 2) (by simp[results,outV,Tryz.results126,go_sem]) rfl ⟨by rw[HV.out],?_⟩
  exact(Below.refl _ _).alloc (Nat.le_refl _) _
 ·by_cases h2:s.size<4
  ·have HV:=hideJ (show unsealV s=outV ⟨#[]⟩ 0 4 by unfold unsealV;rw[if_neg h1,if_pos h2])
   go_enter Tryz.func126,Tryz.ntmps126
   go_wp2
   refine bodyPost_ret (v:=outV ⟨#[]⟩ 0 4) (by simp[results,outV,Tryz.results126,go_sem]) rfl ⟨by rw[HV.out],?_⟩
   exact(Below.refl _ _).alloc (Nat.le_refl _) _
  ·obtain⟨t,ht⟩:∃ t,t=s.extract 0 (s.size-4):=⟨_,rfl⟩
   have hts:t.size<=7996:=by rw[ht];simp;omega
   have HT:=hideJ ht
   by_cases hq:sealV t=s
   ·have HV:=hideJ (unsealV_yes s t h1 h2 ht hq)
    have hB:((sealV t).toList==s.toList)=true:=by rw[list_eq_iff];exact decide_eq_true hq
    clear ht hq
    go_enter Tryz.func126,Tryz.ntmps126
    go_wp2_with fail
    rw[show ((s.size:Int)-4)=((s.size-4:Nat):Int) from by omega]
    refine(Nu.cut_any s 0 (s.size-4) _ (by omega) (by omega) (by omega)).mono ?_
    rw[<-HT.out]
    rintro e wa ⟨rfl,hb1⟩
    obtain⟨hc1,hf1⟩:=bcell hb1
    have hz1:w.heap.size+1<=wa.heap.size:=by have:=hb1.size;simpa using this
    go_wp2_with fail
    refine(seal_impl t _ (by unfold maxLen;omega)).mono ?_
    rintro e wb ⟨rfl,hb2⟩
    obtain⟨hc2,hf2⟩:=bcell hb2
    have hz2:wa.heap.size<=wb.heap.size:=hb2.size
    have hlt:w.heap.size<wa.heap.size:=by omega
    go_wp2
    refine bodyPost_ret (v:=outV t 0 0) (by simp[results,outV,Tryz.results126,go_sem,hc2,hc1,hlt]) rfl ⟨by rw[HV.out],?_⟩
    exact((below3 hb1 (hb2.mono (by simpa using hz1))).setCell (Nat.le_refl _) _ |>.setCell (Nat.le_refl _) _).setCell (Nat.le_refl _) _
   ·have HV:=hideJ (unsealV_no s t h1 h2 ht hq)
    have hB:((sealV t).toList==s.toList)=false:=by rw[list_eq_iff];exact decide_eq_false hq
    clear ht hq
    go_enter Tryz.func126,Tryz.ntmps126
    go_wp2_with fail
    rw[show ((s.size:Int)-4)=((s.size-4:Nat):Int) from by omega]
    refine(Nu.cut_any s 0 (s.size-4) _ (by omega) (by omega) (by omega)).mono ?_
    rw[<-HT.out]
    rintro e wa ⟨rfl,hb1⟩
    obtain⟨hc1,hf1⟩:=bcell hb1
    have hz1:w.heap.size+1<=wa.heap.size:=by have:=hb1.size;simpa using this
    go_wp2_with fail
    refine(seal_impl t _ (by unfold maxLen;omega)).mono ?_
    rintro e wb ⟨rfl,hb2⟩
    obtain⟨hc2,hf2⟩:=bcell hb2
    have hz2:wa.heap.size<=wb.heap.size:=hb2.size
    have hlt:w.heap.size<wa.heap.size:=by omega
    go_wp2
    refine bodyPost_ret (v:=outV ⟨#[]⟩ 0 5) (by simp[results,outV,Tryz.results126,go_sem,hc2,hc1,hlt]) rfl ⟨by rw[HV.out],?_⟩
    exact((below3 hb1 (hb2.mono (by simpa using hz1))).setCell (Nat.le_refl _) _ |>.setCell (Nat.le_refl _) _).setCell (Nat.le_refl _) _
end Go.Proofs.YtikiihjabbmkcaaGreatDoor.Se

