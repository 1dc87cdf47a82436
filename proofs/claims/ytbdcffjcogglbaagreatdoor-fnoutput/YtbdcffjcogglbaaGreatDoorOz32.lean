import Derived.Test.YtbdcffjcogglbaaGreatDoorOz22
import Derived.Test.YtbdcffjcogglbaaGreatDoorOz25
import Derived.Test.YtbdcffjcogglbaaGreatDoorOz30
import Derived.Test.YtbdcffjcogglbaaGreatDoorOz28
import Derived.Test.YtbdcffjcogglbaaGreatDoorOz31
import Derived.Test.YtbdcffjcogglbaaGreatDoorOz26
import Derived.Test.YtbdcffjcogglbaaGreatDoorOz34
set_option maxRecDepth 100000
set_option maxHeartbeats 8000000
namespace Go.Proofs.YtbdcffjcogglbaaGreatDoor
open Go.Proofs.Tryz
namespace So
open Go.RowKit Go.Sort Go.Proofs
theorem merge_I (T:ByteArray) (cc:Nat) (blk cap:Nat) (hcb0:cc≠blk):∀ (N a m b:Nat) (d:Array Nat) (w:World),b-a<=N->HoldsK encI 1 w blk 0 d->blk<w.heap.size->a<m->m<b->b<=d.size->d.size<=1048576->Cap w cc T->(∀ i,dF d i<T.size)->Ris (clI T) a m (dF d)->Ris (clI T) m b (dF d)->Sep a m b (dF d) ->
  Calls prog 216 #[.slice (some ⟨blk,0,none⟩) d.size cap,.int .i64 a,.int .i64 m,.int .i64 b,.func (.func 210) #[] #[.pointer (some ⟨cc,0,none⟩)]] w fun e w' =>
   e=.returned (.tuple #[])/\∃ n d' os,w'=sortWorldK encI 1 w blk 0 n d' os/\d'.size=d.size/\PermF a b (dF d) (dF d')/\Ris (clI T) a b (dF d'):=by
 intro N
 induction N with
 |zero=>intro a m b d w hN _ _ ham hmb;omega
 |succ N ih =>
  intro a m b d w hN hH hblk ham hmb hb hsz hcap hbd hr1 hr2 hsep;by_cases hA:m=a+1
  ·subst hA
   exact mergeA_I T cc blk cap a b d w hH hblk hmb hb hsz hcap hcb0 hbd hr2 hsep
  ·by_cases hB:b=m+1
   ·subst hB
    exact mergeB_I T cc blk cap a m d w hH hblk (by omega) hb hsz hcap hcb0 hbd hr1 hsep
   ·exact mergeC_I T cc blk cap a m b d w hH hblk (by omega) (by omega) hb hsz hcap hcb0 hbd hr1 hr2 hsep (fun a' m' b' d' W h1=>ih a' m' b' d' W (by omega))
end So
namespace So
open Go.RowKit Go.Sort Go.Proofs
theorem stable_I (T:ByteArray) (cc:Nat) (blk cap:Nat) (d:Array Nat) (w:World) (hH:HoldsK encI 1 w blk 0 d) (hblk:blk<w.heap.size) (hsz:d.size<=1048576) (hcap:Cap w cc T) (hcb0:cc≠blk) (hbd:∀ i,dF d i<T.size) (hid:∀ i,i<d.size->dF d i=i) :
  Calls prog 213 #[.slice (some ⟨blk,0,none⟩) d.size cap,.int .i64 d.size,.func (.func 210) #[] #[.pointer (some ⟨cc,0,none⟩)]] w fun e w' =>
   e=.returned (.tuple #[])/\∃ n d' os,w'=sortWorldK encI 1 w blk 0 n d' os/\d'.size=d.size/\PermF 0 d.size (dF d) (dF d')/\Ris (clI T) 0 d.size (dF d'):=by
 have HST:=hideO (world_self hH);have HH:=hideO hH;have HCP:Hid (∀ (m:Nat) (dk:Array Nat) (os:Array Obj),Cap (sortWorldK encI 1 w blk 0 m dk os) cc T):=fun m dk os=>hcap.block (world_block m dk os hcap.lt hcb0);have HBD:=hideO hbd;have HCB:=hideO hcb0;clear hcap hcb0 hbd;clear hH;obtain⟨z,hz⟩:∃ z,z=d.size:=⟨_,rfl⟩;have HZ:=hideO hz;rw[<-hz]at hsz hid ⊢;clear hz;obtain⟨f0,hf⟩:∃ f0,f0=dF d:=⟨_,rfl⟩;have HFD:=hideO hf
 have HBF:Hid (∀ i,f0 i<T.size):=by
  unfold Hid;rw[hf];exact HBD.o
 rw[<-hf]at hid ⊢;have HID:=hideO hid;clear hf hid
 have HIN:=hideO (fun (n:Nat) (dk:Array Nat) (os:Array Obj) (hs:dk.size=z) (hbk:∀ i,dF dk i<T.size) (a b:Nat) (h1:a<=b) (h2:b<=z) (hr:∀ i j,a<=i->i<j->j<b->dF dk i<dF dk j) =>
  insertion_I T cc blk cap a b dk (sortWorldK encI 1 w blk 0 n dk os) (world_holds HH.o hblk n dk os (hs.trans HZ.o)) (Nat.lt_of_lt_of_le hblk (world_size n dk os)) h1 (by rw[hs];exact h2) (by rw[hs];exact hsz) (HCP.o n dk os) HCB.o hbk hr)
 have HMG:=hideO (fun (n:Nat) (dk:Array Nat) (os:Array Obj) (hs:dk.size=z) (hbk:∀ i,dF dk i<T.size) (a m b:Nat) (h1:a<m) (h2:m<b) (h3:b<=z) (c1:Ch (clI T) a m (dF dk)) (c2:Ch (clI T) m b (dF dk)) =>
  merge_I T cc blk cap HCB.o (b-a) a m b dk (sortWorldK encI 1 w blk 0 n dk os) nl (world_holds HH.o hblk n dk os (hs.trans HZ.o)) (Nat.lt_of_lt_of_le hblk (world_size n dk os)) h1 h2 (by rw[hs];exact h3) (by rw[hs];exact hsz) (HCP.o n dk os) hbk c1.1 c2.1 (c1.sep c2))
 have HWW:=hideO (fun (n n':Nat) (dk d':Array Nat) (os os':Array Obj) (hs:d'.size=dk.size)=>world_world (enc:=encI) (k:=1) (w:=w) (blk:=blk) (off:=0) n n' dk d' os os' hblk hs);go_enter func213,ntmps213
 go_wp2_with fail
 go_loopw [7,8] (fun u v wr=>∃ (k n:Nat) (dk:Array Nat) (os:Array Obj),u=.int .i64 (20*k:Nat)/\v=.int .i64 (20*k+20:Nat)/\20*k<=z/\dk.size=z/\Chs (clI T) 20 z 0 (20*k) (dF dk)/\(∀ i,20*k<=i->i<z->dF dk i=i)/\PermF 0 z f0 (dF dk)/\wr=sortWorldK encI 1 w blk 0 n dk os) (fun u _ _=>z-(intOf u).toNat)
 case atStart=>exact⟨0,0,d,#[],rfl,rfl,by omega,HZ.o.symm,Chs.none,fun i _ h=>by rw[<-HFD.o];exact HID.o i h,by rw[<-HFD.o];exact PermF.refl _ _ _,HST.o⟩
 case round =>
  obtain⟨k,n,dk,os,rfl,rfl,hkz,hsk,hch,hidk,hpm,hwr⟩:=hrel;have HSK:=hideO hsk;have HCH:=hideO hch;have HIK:=hideO hidk;have HPM:=hideO hpm;have HW:=hideO hwr;obtain⟨a,ha⟩:∃ a,a=20*k:=⟨_,rfl⟩;obtain⟨b,hb⟩:∃ b,b=20*k+20:=⟨_,rfl⟩;have HAB:Hid (a=20*k/\b=20*k+20):=⟨ha,hb⟩
  have hab:a<b:=by omega
  rw[<-ha]at hkz;rw[<-hb,<-ha];clear hsk hch hidk hpm ha hb;by_cases hlt:b<=z
  ·have HC:=hideO (HIN.o n dk os HSK.o (HPM.o.bd HBF.o) a b (by omega) hlt (fun i j h1 h2 h3=>by have:=HAB.o;rw[HIK.o i (by omega) (by omega),HIK.o j (by omega) (by omega)];exact h2))
   rw[<-hwr,HSK.o]at HC
   have hlt':(b:Int)<=(z:Int):=by omega
   clear hwr
   go_wp2_with fail
   refine HC.o.mono ?_;rintro er w1 ⟨rfl,n1,d1,os1,hw1,hs1,hp1,hr1⟩
   have HW1:Hid (w1=sortWorldK encI 1 w blk 0 (n+n1) d1 (os++os1)):=by
    unfold Hid;rw[hw1,HW.o];exact HWW.o n n1 dk d1 os os1 (hs1.trans HSK.o.symm)
   have HS1:=hideO hs1;have HP1:=hideO hp1;have HR1:=hideO hr1;obtain⟨b4,hb4⟩:∃ b4,b4=b+20:=⟨_,rfl⟩
   have e3:(b:Int)+20=(b4:Int):=by omega
   have HB4:=hideO hb4;clear hb4;clear hw1 hs1 hp1 hr1 HC
   go_wp2_with fail
   go_roundw
   case rel =>
    have hr:=HAB.o;refine⟨k+1,n+n1,d1,os++os1,by rw[hr.2];rfl,by rw[HB4.o,hr.2];rfl,by omega,HS1.o,?_,fun i h1 h2=>?_,HPM.o.trans (HP1.o.mono (Nat.zero_le _) (by omega) (by omega)),HW1.o⟩
    ·have hc:Ch (clI T) (20*k) (20*k+20) (dF d1):=by
      rw[<-hr.2,<-hr.1];exact Ch.start (fun i h1 h2=>HIK.o i (by omega) (by omega)) HP1.o HR1.o
     have:=HCH.o.more (g:=dF d1) (by omega) (fun i hi=>HP1.o.2 i (Or.inl (by omega))) hc
     rw[Nat.mul_succ];exact this
    ·rw[HP1.o.2 i (Or.inr (by omega))]
     exact HIK.o i (by omega) h2
   case measure=>have:=HAB.o;simp[intOf];omega
  ·have hlt':¬(b:Int)<=(z:Int):=by omega
   have HC:=hideO (HIN.o n dk os HSK.o (HPM.o.bd HBF.o) a z (by omega) nl (fun i j h1 h2 h3=>by have:=HAB.o;rw[HIK.o i (by omega) (by omega),HIK.o j (by omega) (by omega)];exact h2));rw[<-hwr,HSK.o]at HC;clear hwr
   go_wp2_with fail
   refine HC.o.mono ?_;rintro er w1 ⟨rfl,n1,d1,os1,hw1,hs1,hp1,hr1⟩
   have HW1:Hid (w1=sortWorldK encI 1 w blk 0 (n+n1) d1 (os++os1)):=by
    unfold Hid;rw[hw1,HW.o];exact HWW.o n n1 dk d1 os os1 (hs1.trans HSK.o.symm)
   have HCA:Hid (Chs (clI T) 20 z 0 z (dF d1)):=by
    have hr:=HAB.o;refine HCH.o.last (by omega) (fun i hi=>hp1.2 i (Or.inl (by omega))) ?_;rw[<-hr.1];exact Ch.start (fun i h1 h2=>HIK.o i (by omega) h2) hp1 hr1
   have HPA:=hideO (HPM.o.trans (hp1.mono (Nat.zero_le _) hkz nl));have HS1:=hideO hs1;clear hw1 hs1 hp1 hr1 HC
   go_wp2_with fail
   go_loopw [6] (fun u wr=>∃ (bs n:Nat) (dk:Array Nat) (os:Array Obj),u=.int .i64 bs/\0<bs/\bs<=2*z+20/\dk.size=z/\Chs (clI T) bs z 0 z (dF dk)/\PermF 0 z f0 (dF dk)/\wr=sortWorldK encI 1 w blk 0 n dk os) (fun u _=>z-(intOf u).toNat)
   case atStart=>exact⟨20,n+n1,d1,os++os1,rfl,by omega,by omega,HS1.o,HCA.o,HPA.o,HW1.o⟩
   case round =>
    obtain⟨bs,n2,d2,os2,rfl,hbs0,hbsz,hs2,hch2,hpm2,hwr2⟩:=hrel;have HS2:=hideO hs2;have HC2:=hideO hch2;have HP2:=hideO hpm2;have HW2:=hideO hwr2;clear hs2 hch2 hpm2 hwr2;by_cases hlz:bs<z
    ·have hlz':(bs:Int)<(z:Int):=by omega
     obtain⟨b2,hb2⟩:∃ b2,b2=2*bs:=⟨_,rfl⟩;have eb2:2*(bs:Int)=(b2:Int):=(by omega);have eb2':(bs:Int)*2=(b2:Int):=(by omega);have HB2:=hideO hb2;clear hb2;(go_wp2_with fail)
     go_loopw [7,8] (fun u v wr=>∃ (k n:Nat) (dk:Array Nat) (os:Array Obj),u=.int .i64 (b2*k:Nat)/\v=.int .i64 (b2*k+b2:Nat)/\b2*k<=z/\dk.size=z/\Chs (clI T) b2 z 0 (b2*k) (dF dk)/\Chs (clI T) bs z (b2*k) z (dF dk)/\PermF 0 z f0 (dF dk)/\wr=sortWorldK encI 1 w blk 0 n dk os) (fun u _ _=>z-(intOf u).toNat)
     case atStart=>exact⟨0,n2,d2,os2,by simp,by simp,by omega,HS2.o,by rw[Nat.mul_zero];exact Chs.none,by rw[Nat.mul_zero];exact HC2.o,HP2.o,HW2.o⟩
     case round =>
      obtain⟨k,n3,d3,os3,rfl,rfl,hkz3,hs3,hch3,hcr3,hpm3,hwr3⟩:=hrel;have HS3:=hideO hs3;have HC3:=hideO hch3;have HD3:=hideO hcr3;have HP3:=hideO hpm3;have HW3:=hideO hwr3;obtain⟨a3,ha3⟩:∃ a3,a3=b2*k:=⟨_,rfl⟩;obtain⟨e3,he3⟩:∃ e3,e3=b2*k+b2:=⟨_,rfl⟩;obtain⟨m3,hm3⟩:∃ m3,m3=b2*k+bs:=⟨_,rfl⟩
      have HAE:Hid (a3=b2*k/\e3=a3+b2/\m3=a3+bs/\b2=2*bs/\a3=bs*(2*k)):=by
       refine⟨ha3,by omega,by omega,HB2.o,?_⟩;rw[ha3,HB2.o,Nat.mul_comm 2 bs,Nat.mul_assoc]
      have em3:(a3:Int)+(bs:Int)=(m3:Int):=by omega
      rw[<-ha3]at hkz3 HC3 HD3;rw[<-he3,<-ha3];have hal:=HAE.o;have hm3z:m3<=z+bs:=(by omega);have he3z:e3<=z+b2:=(by omega);have hb2z:b2<=2*z:=(by omega);clear hs3 hch3 hcr3 hpm3 ha3 he3 hm3;by_cases hle:e3<=z
      ·have hle':(e3:Int)<=(z:Int):=by omega
       have c1:Ch (clI T) a3 m3 (dF d3):=by
        have:=HD3.o.at0 hal.2.2.2.2 (by omega)
        rwa[Nat.min_eq_left (by omega),<-hal.2.2.1]at this
       have c2:Ch (clI T) m3 e3 (dF d3):=by
        have:=HD3.o.at1 hal.2.2.2.2 (by omega)
        rwa[Nat.min_eq_left (by omega),<-hal.2.2.1,show m3+bs=e3 by omega]at this
       have HC:=hideO (HMG.o n3 d3 os3 HS3.o (HP3.o.bd HBF.o) a3 m3 e3 (by omega) (by omega) hle c1 c2);rw[<-hwr3,HS3.o]at HC;have HCC:Hid (Ch (clI T) a3 m3 (dF d3)/\Ch (clI T) m3 e3 (dF d3)):=⟨c1,c2⟩;obtain⟨e4,he4⟩:∃ e4,e4=e3+b2:=⟨_,rfl⟩;have ee4:(e3:Int)+(b2:Int)=(e4:Int):=(by omega);have HE4:=hideO he4;clear hwr3 c1 c2 hal he4;(go_wp2_with fail);refine HC.o.mono ?_;rintro er w4 ⟨rfl,n4,d4,os4,hw4,hs4,hp4,hr4⟩
       have HW4:Hid (w4=sortWorldK encI 1 w blk 0 (n3+n4) d4 (os3++os4)):=by
        unfold Hid;rw[hw4,HW3.o];exact HWW.o n3 n4 d3 d4 os3 os4 (hs4.trans HS3.o.symm)
       have HS4:=hideO hs4;have HP4:=hideO hp4;have HR4:=hideO hr4;clear hw4 hs4 hp4 hr4 HC;(go_wp2_with fail)
       go_roundw
       case rel =>
        have hal:=HAE.o;have hk1:b2*(k+1)=e3:=(by rw[Nat.mul_succ];omega);refine⟨k+1,n3+n4,d4,os3++os4,by rw[hk1],by rw[hk1,<-HE4.o],by omega,HS4.o,?_,?_,HP3.o.trans (HP4.o.mono (Nat.zero_le _) (by omega) hle),HW4.o⟩
        ·rw[hk1]
         have:=HC3.o
         rw[hal.1]at this
         have q:=this.more (g:=dF d4) (by omega) (fun i hi=>HP4.o.2 i (Or.inl (by omega))) (by
          rw[<-hal.1,<-hal.2.1]
          exact HCC.o.1.merge HCC.o.2 (by omega) (by omega) HP4.o HR4.o)
         rw[<-hal.1,<-hal.2.1]at q;exact q
        ·rw[hk1]
         exact HD3.o.rest (by omega) (fun i h1 h2=>HP4.o.2 i (Or.inr h1))
       case measure=>have:=HAE.o;simp[intOf];omega
      ·have hle':¬(e3:Int)<=(z:Int):=by omega
       by_cases hmz:m3<z
       ·have hmz':(m3:Int)<(z:Int):=by omega
        have c1:Ch (clI T) a3 m3 (dF d3):=by
         have:=HD3.o.at0 hal.2.2.2.2 (by omega)
         rwa[Nat.min_eq_left (by omega),<-hal.2.2.1]at this
        have c2:Ch (clI T) m3 z (dF d3):=by
         have:=HD3.o.at1 hal.2.2.2.2 (by omega)
         rwa[Nat.min_eq_right (by omega),<-hal.2.2.1]at this
        have HC:=hideO (HMG.o n3 d3 os3 HS3.o (HP3.o.bd HBF.o) a3 m3 z (by omega) hmz nl c1 c2);rw[<-hwr3,HS3.o]at HC;have HCC:Hid (Ch (clI T) a3 m3 (dF d3)/\Ch (clI T) m3 z (dF d3)):=⟨c1,c2⟩;clear hwr3 c1 c2 hal;(go_wp2_with fail);refine HC.o.mono ?_;rintro er w4 ⟨rfl,n4,d4,os4,hw4,hs4,hp4,hr4⟩
        have HW4:Hid (w4=sortWorldK encI 1 w blk 0 (n3+n4) d4 (os3++os4)):=by
         unfold Hid;rw[hw4,HW3.o];exact HWW.o n3 n4 d3 d4 os3 os4 (hs4.trans HS3.o.symm)
        have HS4:=hideO hs4;have HP4:=hideO hp4;have HR4:=hideO hr4;clear hw4 hs4 hp4 hr4 HC;(go_wp2_with fail)
        go_roundw
        case rel =>
         have hal:=HAE.o;refine⟨b2,n3+n4,d4,os3++os4,rfl,by omega,by omega,HS4.o,?_,HP3.o.trans (HP4.o.mono (Nat.zero_le _) (by omega) nl),HW4.o⟩
         have:=HC3.o
         rw[hal.1]at this;refine this.last (by omega) (fun i hi=>HP4.o.2 i (Or.inl (by omega))) ?_;rw[<-hal.1];exact HCC.o.1.merge HCC.o.2 (by omega) (by omega) HP4.o HR4.o
        case measure=>have:=HAE.o;simp[intOf];omega
       ·have hmz':¬(m3:Int)<(z:Int):=by omega
        clear hwr3 hal;(go_wp2_with fail)
        go_roundw
        case rel =>
         have hal:=HAE.o;refine⟨b2,n3,d3,os3,rfl,by omega,by omega,HS3.o,?_,HP3.o,HW3.o⟩
         rcases Nat.eq_or_lt_of_le hkz3 with q|q
         ·rw[<-q]
          rw[q]
          have:=HC3.o
          rw[q]at this;exact this
         ·have:=HC3.o
          rw[hal.1]at this;refine this.last (by omega) (fun i hi=>rfl) ?_;rw[<-hal.1];have c1:=HD3.o.at0 hal.2.2.2.2 q
          rwa[Nat.min_eq_right (by omega)]at c1
        case measure=>have:=HAE.o;simp[intOf];omega
    ·have hlz':¬(bs:Int)<(z:Int):=by omega
     have HF:=hideO (HC2.o.whole (by omega));(go_wp2_with fail);refine bodyPost_end (v:=.tuple #[]) (by simp[results,results213,go_sem]) rfl ⟨rfl,n2,d2,⟨os2,HW2.o⟩,HS2.o,HP2.o,HF.o⟩
end So
namespace So
open Go.RowKit Go.Sort Go.Proofs
theorem merge_T (T:Nat->ByteArray) (blk cap:Nat):∀ (N a m b:Nat) (d:Array Nat) (w:World),b-a<=N->HoldsK (encT T) 2 w blk 0 d->blk<w.heap.size->a<m->m<b->b<=d.size->d.size<=1048576->Ris (clT T) a m (dF d)->Ris (clT T) m b (dF d)->Sep a m b (dF d) ->
  Calls prog 205 #[.slice (some ⟨blk,0,none⟩) d.size cap,.int .i64 a,.int .i64 m,.int .i64 b,.func (.func 159) #[] #[]] w fun e w' =>
   e=.returned (.tuple #[])/\∃ n d' os,w'=sortWorldK (encT T) 2 w blk 0 n d' os/\d'.size=d.size/\PermF a b (dF d) (dF d')/\Ris (clT T) a b (dF d'):=by
 intro N
 induction N with
 |zero=>intro a m b d w hN _ _ ham hmb;omega
 |succ N ih =>
  intro a m b d w hN hH hblk ham hmb hb hsz hr1 hr2 hsep;by_cases hA:m=a+1
  ·subst hA
   exact mergeA_T T blk cap a b d w hH hblk hmb hb hsz hr2 hsep
  ·by_cases hB:b=m+1
   ·subst hB
    exact mergeB_T T blk cap a m d w hH hblk (by omega) hb hsz hr1 hsep
   ·exact mergeC_T T blk cap a m b d w hH hblk (by omega) (by omega) hb hsz hr1 hr2 hsep (fun a' m' b' d' W h1=>ih a' m' b' d' W (by omega))
end So
namespace So
open Go.RowKit Go.Sort Go.Proofs
theorem stable_T (T:Nat->ByteArray) (blk cap:Nat) (d:Array Nat) (w:World) (hH:HoldsK (encT T) 2 w blk 0 d) (hblk:blk<w.heap.size) (hsz:d.size<=1048576) (hid:∀ i,i<d.size->dF d i=i) :
  Calls prog 188 #[.slice (some ⟨blk,0,none⟩) d.size cap,.int .i64 d.size,.func (.func 159) #[] #[]] w fun e w' =>
   e=.returned (.tuple #[])/\∃ n d' os,w'=sortWorldK (encT T) 2 w blk 0 n d' os/\d'.size=d.size/\PermF 0 d.size (dF d) (dF d')/\Ris (clT T) 0 d.size (dF d'):=by
 have HST:=hideO (world_self hH);have HH:=hideO hH;clear hH;obtain⟨z,hz⟩:∃ z,z=d.size:=⟨_,rfl⟩;have HZ:=hideO hz;rw[<-hz]at hsz hid ⊢;clear hz;obtain⟨f0,hf⟩:∃ f0,f0=dF d:=⟨_,rfl⟩;have HFD:=hideO hf;rw[<-hf]at hid ⊢;have HID:=hideO hid;clear hf hid
 have HIN:=hideO (fun (n:Nat) (dk:Array Nat) (os:Array Obj) (hs:dk.size=z) (a b:Nat) (h1:a<=b) (h2:b<=z) (hr:∀ i j,a<=i->i<j->j<b->dF dk i<dF dk j) =>
  insertion_T T blk cap a b dk (sortWorldK (encT T) 2 w blk 0 n dk os) (world_holds HH.o hblk n dk os (hs.trans HZ.o)) (Nat.lt_of_lt_of_le hblk (world_size n dk os)) h1 (by rw[hs];exact h2) (by rw[hs];exact hsz) hr)
 have HMG:=hideO (fun (n:Nat) (dk:Array Nat) (os:Array Obj) (hs:dk.size=z) (a m b:Nat) (h1:a<m) (h2:m<b) (h3:b<=z) (c1:Ch (clT T) a m (dF dk)) (c2:Ch (clT T) m b (dF dk)) =>
  merge_T T blk cap (b-a) a m b dk (sortWorldK (encT T) 2 w blk 0 n dk os) nl (world_holds HH.o hblk n dk os (hs.trans HZ.o)) (Nat.lt_of_lt_of_le hblk (world_size n dk os)) h1 h2 (by rw[hs];exact h3) (by rw[hs];exact hsz) c1.1 c2.1 (c1.sep c2))
 have HWW:=hideO (fun (n n':Nat) (dk d':Array Nat) (os os':Array Obj) (hs:d'.size=dk.size)=>world_world (enc:=encT T) (k:=2) (w:=w) (blk:=blk) (off:=0) n n' dk d' os os' hblk hs);go_enter func188,ntmps188
 go_wp2_with fail
 go_loopw [7,8] (fun u v wr=>∃ (k n:Nat) (dk:Array Nat) (os:Array Obj),u=.int .i64 (20*k:Nat)/\v=.int .i64 (20*k+20:Nat)/\20*k<=z/\dk.size=z/\Chs (clT T) 20 z 0 (20*k) (dF dk)/\(∀ i,20*k<=i->i<z->dF dk i=i)/\PermF 0 z f0 (dF dk)/\wr=sortWorldK (encT T) 2 w blk 0 n dk os) (fun u _ _=>z-(intOf u).toNat)
 case atStart=>exact⟨0,0,d,#[],rfl,rfl,by omega,HZ.o.symm,Chs.none,fun i _ h=>by rw[<-HFD.o];exact HID.o i h,by rw[<-HFD.o];exact PermF.refl _ _ _,HST.o⟩
 case round =>
  obtain⟨k,n,dk,os,rfl,rfl,hkz,hsk,hch,hidk,hpm,hwr⟩:=hrel;have HSK:=hideO hsk;have HCH:=hideO hch;have HIK:=hideO hidk;have HPM:=hideO hpm;have HW:=hideO hwr;obtain⟨a,ha⟩:∃ a,a=20*k:=⟨_,rfl⟩;obtain⟨b,hb⟩:∃ b,b=20*k+20:=⟨_,rfl⟩;have HAB:Hid (a=20*k/\b=20*k+20):=⟨ha,hb⟩
  have hab:a<b:=by omega
  rw[<-ha]at hkz;rw[<-hb,<-ha];clear hsk hch hidk hpm ha hb;by_cases hlt:b<=z
  ·have HC:=hideO (HIN.o n dk os HSK.o a b (by omega) hlt (fun i j h1 h2 h3=>by have:=HAB.o;rw[HIK.o i (by omega) (by omega),HIK.o j (by omega) (by omega)];exact h2))
   rw[<-hwr,HSK.o]at HC
   have hlt':(b:Int)<=(z:Int):=by omega
   clear hwr
   go_wp2_with fail
   refine HC.o.mono ?_;rintro er w1 ⟨rfl,n1,d1,os1,hw1,hs1,hp1,hr1⟩
   have HW1:Hid (w1=sortWorldK (encT T) 2 w blk 0 (n+n1) d1 (os++os1)):=by
    unfold Hid;rw[hw1,HW.o];exact HWW.o n n1 dk d1 os os1 (hs1.trans HSK.o.symm)
   have HS1:=hideO hs1;have HP1:=hideO hp1;have HR1:=hideO hr1;obtain⟨b4,hb4⟩:∃ b4,b4=b+20:=⟨_,rfl⟩
   have e3:(b:Int)+20=(b4:Int):=by omega
   have HB4:=hideO hb4;clear hb4;clear hw1 hs1 hp1 hr1 HC
   go_wp2_with fail
   go_roundw
   case rel =>
    have hr:=HAB.o;refine⟨k+1,n+n1,d1,os++os1,by rw[hr.2];rfl,by rw[HB4.o,hr.2];rfl,by omega,HS1.o,?_,fun i h1 h2=>?_,HPM.o.trans (HP1.o.mono (Nat.zero_le _) (by omega) (by omega)),HW1.o⟩
    ·have hc:Ch (clT T) (20*k) (20*k+20) (dF d1):=by
      rw[<-hr.2,<-hr.1];exact Ch.start (fun i h1 h2=>HIK.o i (by omega) (by omega)) HP1.o HR1.o
     have:=HCH.o.more (g:=dF d1) (by omega) (fun i hi=>HP1.o.2 i (Or.inl (by omega))) hc
     rw[Nat.mul_succ];exact this
    ·rw[HP1.o.2 i (Or.inr (by omega))]
     exact HIK.o i (by omega) h2
   case measure=>have:=HAB.o;simp[intOf];omega
  ·have hlt':¬(b:Int)<=(z:Int):=by omega
   have HC:=hideO (HIN.o n dk os HSK.o a z (by omega) nl (fun i j h1 h2 h3=>by have:=HAB.o;rw[HIK.o i (by omega) (by omega),HIK.o j (by omega) (by omega)];exact h2));rw[<-hwr,HSK.o]at HC;clear hwr
   go_wp2_with fail
   refine HC.o.mono ?_;rintro er w1 ⟨rfl,n1,d1,os1,hw1,hs1,hp1,hr1⟩
   have HW1:Hid (w1=sortWorldK (encT T) 2 w blk 0 (n+n1) d1 (os++os1)):=by
    unfold Hid;rw[hw1,HW.o];exact HWW.o n n1 dk d1 os os1 (hs1.trans HSK.o.symm)
   have HCA:Hid (Chs (clT T) 20 z 0 z (dF d1)):=by
    have hr:=HAB.o;refine HCH.o.last (by omega) (fun i hi=>hp1.2 i (Or.inl (by omega))) ?_;rw[<-hr.1];exact Ch.start (fun i h1 h2=>HIK.o i (by omega) h2) hp1 hr1
   have HPA:=hideO (HPM.o.trans (hp1.mono (Nat.zero_le _) hkz nl));have HS1:=hideO hs1;clear hw1 hs1 hp1 hr1 HC
   go_wp2_with fail
   go_loopw [6] (fun u wr=>∃ (bs n:Nat) (dk:Array Nat) (os:Array Obj),u=.int .i64 bs/\0<bs/\bs<=2*z+20/\dk.size=z/\Chs (clT T) bs z 0 z (dF dk)/\PermF 0 z f0 (dF dk)/\wr=sortWorldK (encT T) 2 w blk 0 n dk os) (fun u _=>z-(intOf u).toNat)
   case atStart=>exact⟨20,n+n1,d1,os++os1,rfl,by omega,by omega,HS1.o,HCA.o,HPA.o,HW1.o⟩
   case round =>
    obtain⟨bs,n2,d2,os2,rfl,hbs0,hbsz,hs2,hch2,hpm2,hwr2⟩:=hrel;have HS2:=hideO hs2;have HC2:=hideO hch2;have HP2:=hideO hpm2;have HW2:=hideO hwr2;clear hs2 hch2 hpm2 hwr2;by_cases hlz:bs<z
    ·have hlz':(bs:Int)<(z:Int):=by omega
     obtain⟨b2,hb2⟩:∃ b2,b2=2*bs:=⟨_,rfl⟩;have eb2:2*(bs:Int)=(b2:Int):=(by omega);have eb2':(bs:Int)*2=(b2:Int):=(by omega);have HB2:=hideO hb2;clear hb2;(go_wp2_with fail)
     go_loopw [7,8] (fun u v wr=>∃ (k n:Nat) (dk:Array Nat) (os:Array Obj),u=.int .i64 (b2*k:Nat)/\v=.int .i64 (b2*k+b2:Nat)/\b2*k<=z/\dk.size=z/\Chs (clT T) b2 z 0 (b2*k) (dF dk)/\Chs (clT T) bs z (b2*k) z (dF dk)/\PermF 0 z f0 (dF dk)/\wr=sortWorldK (encT T) 2 w blk 0 n dk os) (fun u _ _=>z-(intOf u).toNat)
     case atStart=>exact⟨0,n2,d2,os2,by simp,by simp,by omega,HS2.o,by rw[Nat.mul_zero];exact Chs.none,by rw[Nat.mul_zero];exact HC2.o,HP2.o,HW2.o⟩
     case round =>
      obtain⟨k,n3,d3,os3,rfl,rfl,hkz3,hs3,hch3,hcr3,hpm3,hwr3⟩:=hrel;have HS3:=hideO hs3;have HC3:=hideO hch3;have HD3:=hideO hcr3;have HP3:=hideO hpm3;have HW3:=hideO hwr3;obtain⟨a3,ha3⟩:∃ a3,a3=b2*k:=⟨_,rfl⟩;obtain⟨e3,he3⟩:∃ e3,e3=b2*k+b2:=⟨_,rfl⟩;obtain⟨m3,hm3⟩:∃ m3,m3=b2*k+bs:=⟨_,rfl⟩
      have HAE:Hid (a3=b2*k/\e3=a3+b2/\m3=a3+bs/\b2=2*bs/\a3=bs*(2*k)):=by
       refine⟨ha3,by omega,by omega,HB2.o,?_⟩;rw[ha3,HB2.o,Nat.mul_comm 2 bs,Nat.mul_assoc]
      have em3:(a3:Int)+(bs:Int)=(m3:Int):=by omega
      rw[<-ha3]at hkz3 HC3 HD3;rw[<-he3,<-ha3];have hal:=HAE.o;have hm3z:m3<=z+bs:=(by omega);have he3z:e3<=z+b2:=(by omega);have hb2z:b2<=2*z:=(by omega);clear hs3 hch3 hcr3 hpm3 ha3 he3 hm3;by_cases hle:e3<=z
      ·have hle':(e3:Int)<=(z:Int):=by omega
       have c1:Ch (clT T) a3 m3 (dF d3):=by
        have:=HD3.o.at0 hal.2.2.2.2 (by omega)
        rwa[Nat.min_eq_left (by omega),<-hal.2.2.1]at this
       have c2:Ch (clT T) m3 e3 (dF d3):=by
        have:=HD3.o.at1 hal.2.2.2.2 (by omega)
        rwa[Nat.min_eq_left (by omega),<-hal.2.2.1,show m3+bs=e3 by omega]at this
       have HC:=hideO (HMG.o n3 d3 os3 HS3.o a3 m3 e3 (by omega) (by omega) hle c1 c2);rw[<-hwr3,HS3.o]at HC;have HCC:Hid (Ch (clT T) a3 m3 (dF d3)/\Ch (clT T) m3 e3 (dF d3)):=⟨c1,c2⟩;obtain⟨e4,he4⟩:∃ e4,e4=e3+b2:=⟨_,rfl⟩;have ee4:(e3:Int)+(b2:Int)=(e4:Int):=(by omega);have HE4:=hideO he4;clear hwr3 c1 c2 hal he4;(go_wp2_with fail);refine HC.o.mono ?_;rintro er w4 ⟨rfl,n4,d4,os4,hw4,hs4,hp4,hr4⟩
       have HW4:Hid (w4=sortWorldK (encT T) 2 w blk 0 (n3+n4) d4 (os3++os4)):=by
        unfold Hid;rw[hw4,HW3.o];exact HWW.o n3 n4 d3 d4 os3 os4 (hs4.trans HS3.o.symm)
       have HS4:=hideO hs4;have HP4:=hideO hp4;have HR4:=hideO hr4;clear hw4 hs4 hp4 hr4 HC;(go_wp2_with fail)
       go_roundw
       case rel =>
        have hal:=HAE.o;have hk1:b2*(k+1)=e3:=(by rw[Nat.mul_succ];omega);refine⟨k+1,n3+n4,d4,os3++os4,by rw[hk1],by rw[hk1,<-HE4.o],by omega,HS4.o,?_,?_,HP3.o.trans (HP4.o.mono (Nat.zero_le _) (by omega) hle),HW4.o⟩
        ·rw[hk1]
         have:=HC3.o
         rw[hal.1]at this
         have q:=this.more (g:=dF d4) (by omega) (fun i hi=>HP4.o.2 i (Or.inl (by omega))) (by
          rw[<-hal.1,<-hal.2.1]
          exact HCC.o.1.merge HCC.o.2 (by omega) (by omega) HP4.o HR4.o)
         rw[<-hal.1,<-hal.2.1]at q;exact q
        ·rw[hk1]
         exact HD3.o.rest (by omega) (fun i h1 h2=>HP4.o.2 i (Or.inr h1))
       case measure=>have:=HAE.o;simp[intOf];omega
      ·have hle':¬(e3:Int)<=(z:Int):=by omega
       by_cases hmz:m3<z
       ·have hmz':(m3:Int)<(z:Int):=by omega
        have c1:Ch (clT T) a3 m3 (dF d3):=by
         have:=HD3.o.at0 hal.2.2.2.2 (by omega)
         rwa[Nat.min_eq_left (by omega),<-hal.2.2.1]at this
        have c2:Ch (clT T) m3 z (dF d3):=by
         have:=HD3.o.at1 hal.2.2.2.2 (by omega)
         rwa[Nat.min_eq_right (by omega),<-hal.2.2.1]at this
        have HC:=hideO (HMG.o n3 d3 os3 HS3.o a3 m3 z (by omega) hmz nl c1 c2);rw[<-hwr3,HS3.o]at HC;have HCC:Hid (Ch (clT T) a3 m3 (dF d3)/\Ch (clT T) m3 z (dF d3)):=⟨c1,c2⟩;clear hwr3 c1 c2 hal;(go_wp2_with fail);refine HC.o.mono ?_;rintro er w4 ⟨rfl,n4,d4,os4,hw4,hs4,hp4,hr4⟩
        have HW4:Hid (w4=sortWorldK (encT T) 2 w blk 0 (n3+n4) d4 (os3++os4)):=by
         unfold Hid;rw[hw4,HW3.o];exact HWW.o n3 n4 d3 d4 os3 os4 (hs4.trans HS3.o.symm)
        have HS4:=hideO hs4;have HP4:=hideO hp4;have HR4:=hideO hr4;clear hw4 hs4 hp4 hr4 HC;(go_wp2_with fail)
        go_roundw
        case rel =>
         have hal:=HAE.o;refine⟨b2,n3+n4,d4,os3++os4,rfl,by omega,by omega,HS4.o,?_,HP3.o.trans (HP4.o.mono (Nat.zero_le _) (by omega) nl),HW4.o⟩
         have:=HC3.o
         rw[hal.1]at this;refine this.last (by omega) (fun i hi=>HP4.o.2 i (Or.inl (by omega))) ?_;rw[<-hal.1];exact HCC.o.1.merge HCC.o.2 (by omega) (by omega) HP4.o HR4.o
        case measure=>have:=HAE.o;simp[intOf];omega
       ·have hmz':¬(m3:Int)<(z:Int):=by omega
        clear hwr3 hal;(go_wp2_with fail)
        go_roundw
        case rel =>
         have hal:=HAE.o;refine⟨b2,n3,d3,os3,rfl,by omega,by omega,HS3.o,?_,HP3.o,HW3.o⟩
         rcases Nat.eq_or_lt_of_le hkz3 with q|q
         ·rw[<-q]
          rw[q]
          have:=HC3.o
          rw[q]at this;exact this
         ·have:=HC3.o
          rw[hal.1]at this;refine this.last (by omega) (fun i hi=>rfl) ?_;rw[<-hal.1];have c1:=HD3.o.at0 hal.2.2.2.2 q
          rwa[Nat.min_eq_right (by omega)]at c1
        case measure=>have:=HAE.o;simp[intOf];omega
    ·have hlz':¬(bs:Int)<(z:Int):=by omega
     have HF:=hideO (HC2.o.whole (by omega));(go_wp2_with fail);refine bodyPost_end (v:=.tuple #[]) (by simp[results,results188,go_sem]) rfl ⟨rfl,n2,d2,⟨os2,HW2.o⟩,HS2.o,HP2.o,HF.o⟩
end So
namespace So
open Go.RowKit Go.Sort Go.Proofs Go.Shelf
attribute [local go_sem] Oper.semAt_some
theorem Tryz.infoU153:(prog.info? 153).map (fun i=>(i.zero,i.size,i.bytes))=some (some (.agg #[.int .i64 0,.string ⟨#[]⟩]),2,24):=by kernel_rfl
theorem sortStable_T (T:Nat->ByteArray) (blk cap:Nat) (d:Array Nat) (w:World) (hH:HoldsK (encT T) 2 w blk 0 d) (hblk:blk<w.heap.size) (hsz:d.size<=1048576) (hid:∀ i,i<d.size->dF d i=i) :
  Calls prog 158 #[.slice (some ⟨blk,0,none⟩) d.size cap,.func (.func 159) #[] #[]] w fun e w' =>
   e=.returned (.tuple #[])/\∃ n d' os,w'=sortWorldK (encT T) 2 w blk 0 n d' os/\d'.size=d.size/\PermF 0 d.size (dF d) (dF d')/\Ris (clT T) 0 d.size (dF d'):=by
 have HS:=hideO (stable_T T blk cap d w hH hblk hsz hid);clear hH hid;generalize d.size=z at HS hsz ⊢;go_enter func158,ntmps158
 go_wp2_with fail
 refine HS.o.mono ?_;rintro e w' ⟨rfl,n,d',os,hw,hs,hp,hr⟩;have HX:Hid (∃ n d' os,w'=sortWorldK (encT T) 2 w blk 0 n d' os/\d'.size=z/\PermF 0 z (dF d) (dF d')/\Ris (clT T) 0 z (dF d')):=⟨n,d',os,hw,hs,hp,hr⟩;clear hw hs hp hr
 go_wp2_with fail
 refine bodyPost_end (v:=.tuple #[]) (by simp[results,results158,go_sem]) rfl ⟨rfl,HX.o⟩
theorem world_type {enc:Nat->List Value} {k:Nat} {w:World} {blk off:Nat} {cur:Array Value} {t:TypeId} {fr:Nat × Nat} (h:w.heap[blk]? = some (.cells cur t fr)) (m:Nat) (d':Array Nat) (os:Array Obj):∃ cur',(sortWorldK enc k w blk off m d' os).heap[blk]? = some (.cells cur' t fr):=by
 have hlt:=(Array.getElem?_eq_some_iff.1 h).1;unfold sortWorldK;rw[heap_grow_old _ _ (by rw[size_putRowK];exact hlt)];unfold putRowK putRow mapBlock;simp only[Array.getElem?_modify,if_true];have h2:(Go.Sort.ahead w m).heap[blk]? = some (.cells cur t fr):=h;rw[h2];exact⟨_,rfl⟩
def flatT (T:Nat->ByteArray) (l:List Nat):List Value:=l.flatMap (encT T)
theorem flatT_snoc (T:Nat->ByteArray) (l:List Nat) (x:Nat):flatT T (l++[x])=flatT T l++[.int .i64 (x:Nat),.string (T x)]:=by simp[flatT,encT]
theorem flatT_get (T:Nat->ByteArray) (l:List Nat) (i c:Nat) (hi:i<l.length) (hc:c<2):(flatT T l)[i*2+c]? = some (encT T l[i])[c]!:=by
 induction l generalizing i with
 |nil=>simp at hi
 |cons x l ih =>
  cases i with
  |zero =>
   have:c=0∨c=1:=by omega
   rcases this with rfl|rfl<;>simp[flatT,encT]
  |succ i =>
   have:=ih i (by simpa using hi)
   rw[show flatT T (x :: l)=encT T x++flatT T l from rfl,List.getElem?_append_right (by rw[encT_len];omega),encT_len,show (i+1)*2+c-2=i*2+c by omega,this];rfl
theorem two_newT (W:World) (x y:Value) (t:TypeId):∀ (j:Nat) (u:Value),[x,y][j]? = some u->(W.alloc (.cells #[x,y] t)).cell? ((⟨W.heap.size,0,none⟩:Addr).add j)=some u:=by
 intro j u hj
 match j,hj with
 |0,hj=>simp at hj;subst hj;simp[Addr.add]
 |1,hj=>simp at hj;subst hj;simp[Addr.add]
theorem holds_of_own {T:Nat->ByteArray} {w:World} {base g n cap:Nat} {l:List Nat} {e:TypeId} (h:w.ownsRow base e 2 (.slice (some ⟨g,0,none⟩) n cap) l.length (flatT T l)):HoldsK (encT T) 2 w g 0 l.toArray:=by
 obtain⟨_,h⟩:=h
 rcases h with⟨h,_⟩|⟨g',cap',cur,hv,_,hb,_,_,_,htk⟩
 ·cases h
 ·have hg:g=g':=by simp at hv;exact hv.1
  subst hg;intro j hj;rw[size_flatK]at hj
  have hj':j<l.length*2:=by simpa using hj
  rw[get_flatK _ _ _ _ hj,Nat.zero_add]
  have hi:j/2<l.length:=by omega
  refine⟨?_,frozen_of_row w g j _ e hb⟩;rw[cell_of_row w g j _ e (0,0) hb,<-Array.getElem?_toList]
  have h1:cur.toList[j]? = (cur.toList.take (l.length*2))[j]?:=by rw[List.getElem?_take_of_lt hj']
  rw[h1,htk];have h2:=flatT_get T l (j/2) (j%2) hi (by omega);rw[show j/2*2+j%2=j by omega]at h2;rw[h2]
  have h3:l.toArray[j/2]! = l[j/2]:=by simp[hi]
  rw[h3];rfl
theorem sorted_T (t:ByteArray) (ht:t.size<=1048576) (w:World) :
  Calls prog 123 #[.string t] w fun e w'=>∃ g cap d,e=.returned (.slice (some ⟨g,0,none⟩) t.size cap)/\w.heap.size<=g/\g<w'.heap.size/\HoldsK (encT (turnV t)) 2 w' g 0 d/\d.size=t.size/\(seg (dF d) 0 t.size).Perm (List.range t.size)/\Ris (clT (turnV t)) 0 t.size (dF d)/\(∃ cur,w'.heap[g]? = some (.cells cur 153 (0,0)))/\Below w.heap.size w w':=by
 obtain⟨i0,hi,hz0,hz1,hz2⟩:=info_parts Tryz.infoU153;refine(callsIn_wide (n:=3)).1 ?_;refine callsIn_of_wp_marks func123 rfl trivial ?_ rfl;simp only[ntmps123,List.size_toArray,List.length_cons,List.length_nil,Nat.reduceAdd,Nat.reduceSub,Array.replicate_succ,Array.replicate_zero,List.push_toArray,List.append_toArray,List.nil_append,List.cons_append]
 gi_wp2_with (first|(gi_at_make;refine wpListIn_make_own _ rfl _ _ 150 rfl w.heap.size 153 i0 _ 2 underlying150 hi hz0 hz1 .i64 .i64 _ t.size rfl rfl (by simp) (by rw[hz2];omega) (by unfold maxLen;omega) nl ?_;intro w1 hown1 hgrow1)|(gi_at_call 157;refine(turnsOf_in Fence.wide _ trivial rfl _ _).mono ?_;rintro e w' ⟨rfl,rfl⟩))
 refine⟨trivial,(turnsOf_in Fence.wide 2 trivial rfl _ _).mono ?_⟩;rintro e w' ⟨rfl,rfl⟩;have z1:=hgrow1.size;have hb1:Below w.heap.size w w1:=(Below.refl _ _).grown hgrow1 nl (by simp);have zg:w.heap.size<w1.heap.size:=(hown1.lt w.heap.size rfl).2;obtain⟨B0,hB0⟩:∃ B0,B0=w1.heap.size:=⟨_,rfl⟩;have bV:=Boxed.new w1 150 (.slice (some ⟨w.heap.size,0,none⟩) 0 t.size);have bS:=Boxed.new (w1.alloc (.cells #[.slice (some ⟨w.heap.size,0,none⟩) 0 t.size] 150)) 9 (.string t);have bV2:=bV.alloc (.cells #[.string t] 9);have hr2:=(hown1.alloc (.cells #[.slice (some ⟨w.heap.size,0,none⟩) 0 t.size] 150)).alloc (.cells #[.string t] 9);have hb2:Below w.heap.size w ((w1.alloc (.cells #[.slice (some ⟨w.heap.size,0,none⟩) 0 t.size] 150)).alloc (.cells #[.string t] 9)):=(hb1.alloc (by omega) _).alloc (by simp;omega) _;rw[World.size_alloc]at bS;rw[<-hB0]at bV2 bS;rw[<-hB0]at zg
 have hsz:((w1.alloc (.cells #[.slice (some ⟨w.heap.size,0,none⟩) 0 t.size] 150)).alloc (.cells #[.string t] 9)).heap.size=B0+2:=by simp[hB0]
 gi_wp2
 rw[<-hB0];generalize (w1.alloc (.cells #[.slice (some ⟨w.heap.size,0,none⟩) 0 t.size] 150)).alloc (.cells #[.string t] 9)=W0 at bV2 bS hr2 hb2 hsz ⊢;clear bV hown1 hgrow1 hb1 hB0 z1
 refine wpIn_rangeFunc_ownH rfl (by decide) (gf:=187) (lb:=#[.pointer (some ⟨B0+1,0,none⟩)]) rfl trivial (enters_of func187 (by kernel_rfl) rfl)
  (turns_stops 2 (B0+1) t ht W0 (by omega) bS.cell) (fun h1 h2=>h1.trans h2)
  (fun W l o o' hl h1 h2 h3=>(belowK_b (w:=W0) (n₀:=B0+2) (by omega) W l o o' hl h1 h2 h3).cell (p:=⟨B0+1,0,none⟩) (by simp)) (Below.refl _ _) (fun _=>rfl)
  (fun pre W=>((∃ v,Boxed W B0 150 v/\W.ownsRow w.heap.size 153 2 v pre.length (flatT (turnV t) pre)/\v≠.slice none 0 0)/\Boxed W (B0+1) 9 (.string t))/\Below w.heap.size w W)
  (fun _ _ _=>False)
  (OwnFrom.and (OwnFrom.and (Own.from (holdsRow_own w.heap.size B0 150 153 2 (fun pre=>pre.length) (fun pre=>flatT (turnV t) pre) (fun _ v=>v≠.slice none 0 0)) _) (Own.from (boxed_own _ _ _) _)) (ownFrom_below nl (by omega)))
  (fun _ _ _ _ _ hs _ _=>hs)
  ⟨⟨⟨_,bV2,hr2,by simp⟩,bS⟩,hb2⟩
  (fun x a' W=>∃ Bx,B0+1<Bx/\W.heap[Bx]? = some (.cells #[.int .i64 (x:Nat),.string (turnV t x)] 153 (0,0))/\a'={ tmps:=#[.string t,undef,.slice none 0 0,.pointer (some ⟨B0,0,none⟩),.pointer (some ⟨Bx,0,none⟩),.string t,.int .i64 t.size,.slice (some ⟨w.heap.size,0,none⟩) 0 t.size,.string t,.func (.func 187) #[] #[.pointer (some ⟨B0+1,0,none⟩)],.agg #[.int .i64 (x:Nat),.string (turnV t x)],undef,undef,undef,undef,undef,undef,undef],defers:=[] })
  (fun x a' _ X Y row hs hg hr=>by
   obtain⟨Bx,h1,h2,h3⟩:=hs;refine⟨Bx,h1,(hg.block Bx (Array.getElem?_eq_some_iff.1 h2).1 (fun e=>?_)).trans h2,h3⟩;obtain⟨o,ho,hc⟩:=(hr Bx e.symm).2;rw[h2]at ho
   cases ho
   cases hc)
  ?assign ?body ?done ?stop
 case assign =>
  rintro l pre x W K ⟨⟨⟨v,hv,hrow,hn⟩,hs⟩,hB⟩ hK
  gi_wp2
  exact hK _ _ ((KeepsOthers.alloc _ _).from _) ((hs.alloc _).cell.trans hs.cell.symm) ⟨⟨⟨v,hv.alloc _,hrow.alloc _,hn⟩,hs.alloc _⟩,hB.alloc hB.size _⟩ ⟨W.heap.size,hs.lt,World.alloc_heap_new W _,rfl⟩
 case body =>
  rintro l pre x a' W hl ⟨r,hr⟩ ⟨⟨⟨v,hv,hrow,hn⟩,hs⟩,hB⟩ ⟨Bx,hBx,hX,rfl⟩ hlt;have hc:=hv.cell
  have x0:W.cell? ⟨Bx,0,none⟩=some (.int .i64 (x:Nat)):=by rw[cell_of_row W Bx 0 _ _ (0,0) hX];rfl
  have x1:W.cell? ⟨Bx,1,none⟩=some (.string (turnV t x)):=by rw[cell_of_row W Bx 1 _ _ (0,0) hX];rfl
  have hzw:=hB.size
  gi_wp2_with (gi_at_builtin;refine wpListIn_append_own _ rfl _ _ 150 rfl w.heap.size 153 i0 _ 2 24 underlying150 hi hz0 hz1 hz2 rfl (by decide) _ _ _ rfl (hrow.alloc _) ⟨W.heap.size,0,none⟩ 1 1 [.int .i64 (x:Nat),.string (turnV t x)] rfl rfl (two_newT _ _ _ _) (by intro u hu;simp at hu;rcases hu with rfl|rfl<;>rfl) (by unfold maxLen;omega) (by omega) (by simp;omega) ?_;intro v' w1 hown' hgrow _;obtain⟨g',cap',rfl⟩:=ownsRow_succ hown';obtain⟨hv1,hv2,hr2,hk2,hb2⟩:=hv.appended (by decide) hrow hB.size (by omega) hown' hgrow;have hc1:=hv1.cell;have hf1:=hv1.frozen;have hs1:=(hs.alloc _).kept hgrow (hs.not_row (by decide) hrow))
  have hs2:=(hs1.kept (grownBy_setCell' w1 B0 _) (by simp):Boxed (w1.setCell ⟨B0,0,none⟩ (.slice (some ⟨g',0,none⟩) (pre.length+1) cap')) (B0+1) 9 (.string t));exact⟨hk2.from _,hs2.cell.trans hs.cell.symm,⟨⟨_,hv2,by rw[flatT_snoc,List.length_append];exact hr2,by simp⟩,hs2⟩,hB.trans hb2⟩
 case done =>
  rintro D ys W hD rfl ⟨⟨⟨v,hv,hrow,hn⟩,hs⟩,hB⟩ hK;have hrow':=hrow;obtain⟨_,hrr⟩:=hrow'
  rcases hrr with⟨rfl,_⟩|⟨g,cap,cur,rfl,hg,hgb,_⟩
  ·exact absurd rfl hn
  ·have hgl:g<W.heap.size:=(Array.getElem?_eq_some_iff.1 hgb).1
   have hH:=holds_of_own hrow
   have hds:(List.range t.size).toArray.size=t.size:=by simp
   have hid:∀ i,i<(List.range t.size).toArray.size->dF (List.range t.size).toArray i=i:=fun i hi=>by
    have:i<t.size:=by simpa using hi
    simp[dF,this]
   have HS:=hideO (sortStable_T (turnV t) g cap (List.range t.size).toArray W hH hgl (by rw[hds];exact ht) hid);rw[hds]at HS
   have hg0:g≠B0:=fun e=>by
    have h1:W.heap[B0]? = _:=hv;rw[<-e,hgb]at h1;simp at h1
   have hgD:g≠D:=fun e=>by
    rw[<-e,hgb]at hK
    cases hK
   have hc:=hv.cell;rw[List.length_range]at hc hv;have HV:=hideO hv;have HB:=hideO hB;have HK:=hideO hK;have HHd:=hideO hH;have hB0W:=hv.lt;have hDW:D<W.heap.size:=(Array.getElem?_eq_some_iff.1 hK).1
   have HPI:Hid (seg (dF (List.range t.size).toArray) 0 t.size=List.range t.size):=by
    unfold Hid;rw[seg_congr (f:=dF (List.range t.size).toArray) (g:=fun i=>i) fun i _ h=>hid i (by rw[hds];exact h)];unfold seg;rw[Nat.sub_zero,List.map_id',List.range_eq_range']
   have HTY:=hideO hgb;clear hrow hn hs hv hB hK hH hid hgb
   gi_wp2
   refine⟨trivial,(callsIn_wide.2 HS.o).mono ?_⟩;rintro e w' ⟨rfl,n,d',os,hw',hs',hp',hr'⟩
   have hbV:w'.heap[B0]? = W.heap[B0]?:=by rw[hw'];exact world_block n d' os hB0W (fun h=>hg0 h.symm)
   have hc2:w'.cell? ⟨B0,0,none⟩=some (.slice (some ⟨g,0,none⟩) t.size cap):=by
    have:Boxed w' B0 150 (.slice (some ⟨g,0,none⟩) t.size cap):=hbV.trans HV.o
    exact this.cell
   have hK2:w'.heap[D]? = some (.deferred (some [])):=by rw[hw',world_block n d' os hDW (fun h=>hgD h.symm)];exact HK.o
   have HH2:Hid (HoldsK (encT (turnV t)) 2 w' g 0 d'):=by
    unfold Hid;rw[hw'];exact world_holds HHd.o hgl n d' os (by rw[hs',hds])
   have HB2:Hid (Below w.heap.size w w'):=by
    unfold Hid;rw[hw'];exact HB.o.trans (world_below n d' os hg (by omega))
   have hgw:g<w'.heap.size:=by rw[hw'];exact Nat.lt_of_lt_of_le hgl (world_size n d' os)
   have HP2:Hid ((seg (dF d') 0 t.size).Perm (List.range t.size)):=by
    have:=hp'.1
    rw[HPI.o]at this;exact this
   have HTY2:Hid (∃ cur',w'.heap[g]? = some (.cells cur' 153 (0,0))):=by
    unfold Hid;rw[hw'];exact world_type HTY.o n d' os
   have HR2:=hideO hr';have HS2:=hideO hs';clear hw' hs' hp' hr' hbV
   gi_wp2
   refine⟨by simp,.inl ⟨_,_,rfl,run_takeDeferred hK2,?_⟩⟩;refine⟨_,results_tmp rfl _ _ _,g,cap,d',rfl,hg,?_,?_,HS2.o,HP2.o,HR2.o,?_,?_⟩
   ·simpa [World.putObj] using hgw
   ·exact holds_block HH2.o (World.putObj_heap_other hgD)
   ·rw[World.putObj_heap_other hgD]
    exact HTY2.o
   ·exact HB2.o.trans (belowK_b (w:=w) nl w' D _ _ (by omega) hK2 rfl rfl)
 case stop =>
  rintro D c pre W _ _ h _;exact h.elim
end So
namespace So
open Go.RowKit Go.Sort Go.Proofs
open In (OwnI one_newI one_cellI)
open In.Tryz (infoI2)
end So
namespace So
open Go.RowKit Go.Sort Go.Proofs
open Sh (bt bt_get bt_lt IsB)
theorem sortStable_I (T:ByteArray) (cc blk cap:Nat) (d:Array Nat) (w:World) (hH:HoldsK encI 1 w blk 0 d) (hblk:blk<w.heap.size) (hsz:d.size<=1048576) (hcap:Cap w cc T) (hcb0:cc≠blk) (hbd:∀ i,dF d i<T.size) (hid:∀ i,i<d.size->dF d i=i) :
  Calls prog 209 #[.slice (some ⟨blk,0,none⟩) d.size cap,.func (.func 210) #[] #[.pointer (some ⟨cc,0,none⟩)]] w fun e w' =>
   e=.returned (.tuple #[])/\∃ n d' os,w'=sortWorldK encI 1 w blk 0 n d' os/\d'.size=d.size/\PermF 0 d.size (dF d) (dF d')/\Ris (clI T) 0 d.size (dF d'):=by
 have HS:=hideO (stable_I T cc blk cap d w hH hblk hsz hcap hcb0 hbd hid);clear hH hid hcap hbd;generalize d.size=z at HS hsz ⊢;go_enter func209,ntmps209
 go_wp2_with fail
 refine HS.o.mono ?_;rintro e w' ⟨rfl,n,d',os,hw,hs,hp,hr⟩;have HX:Hid (∃ n d' os,w'=sortWorldK encI 1 w blk 0 n d' os/\d'.size=z/\PermF 0 z (dF d) (dF d')/\Ris (clI T) 0 z (dF d')):=⟨n,d',os,hw,hs,hp,hr⟩;clear hw hs hp hr
 go_wp2_with fail
 refine bodyPost_end (v:=.tuple #[]) (by simp[results,results209,go_sem]) rfl ⟨rfl,HX.o⟩
theorem holds_isB {w:World} {g n:Nat} {f:Nat->Nat} {e:TypeId} (h:IsB w g e .i64 n (fun j=>((f j:Nat):Int))):HoldsK encI 1 w g 0 ((List.range n).map f).toArray:=by
 intro j hj;rw[size_flatK]at hj
 have hj':j<n:=by simpa using hj
 rw[get_flatK _ _ _ _ hj,Nat.zero_add];refine⟨?_,h.frozen j⟩;rw[h.cell hj'];simp[encI,hj',Nat.mod_one]
def iotaF (k:Nat):Nat->Nat:=fun j=>if j<k then j else 0
theorem iotaF_next (k j:Nat):Sh.upd (fun j=>((iotaF k j:Nat):Int)) k (k:Nat) j=((iotaF (k+1) j:Nat):Int):=by
 unfold Sh.upd iotaF;by_cases e:j=k
 ·subst e
  rw[if_pos rfl,if_pos (by omega)]
 ·rw[if_neg e]
  by_cases h:j<k
  ·have h':j<k+1:=by omega
   simp only[h,h',if_true]
  ·have h':¬j<k+1:=by omega
   simp only[h,h',if_false]
theorem Tryz.infoI3:(prog.info? 3).map (fun i=>(i.zero,i.size,i.bytes))=some (some (.int .i64 0),1,8):=by kernel_rfl
theorem insertion_0 (blk cap:Nat) (cv:Value) (w:World) :
  Calls prog 215 #[.slice (some ⟨blk,0,none⟩) 0 cap,.int .i64 0,.int .i64 0,cv] w fun e w'=>e=.returned (.tuple #[])/\w'=w:=by
 go_enter func215,ntmps215
 go_wp2_with fail
 go_loopw [8] (fun i wr=>i=.int .i64 1/\wr=w) (fun _ _=>0)
 case atStart=>exact⟨rfl,rfl⟩
 case round =>
  obtain⟨rfl,rfl⟩:=hrel
  go_wp2_with fail
  refine bodyPost_end (v:=.tuple #[]) (by simp[results,results215,go_sem]) rfl ⟨rfl,rfl⟩
theorem stable_0 (blk cap:Nat) (cv:Value) (w:World) :
  Calls prog 213 #[.slice (some ⟨blk,0,none⟩) 0 cap,.int .i64 0,cv] w fun e w'=>e=.returned (.tuple #[])/\w'=w:=by
 have HI:=hideO (insertion_0 blk cap cv w);go_enter func213,ntmps213
 go_wp2_with fail
 go_loopw [7,8] (fun u v wr=>u=.int .i64 0/\v=.int .i64 20/\wr=w) (fun _ _ _=>0)
 case atStart=>exact⟨rfl,rfl,rfl⟩
 case round =>
  obtain⟨rfl,rfl,rfl⟩:=hrel
  go_wp2_with fail
  refine HI.o.mono ?_;rintro e w' ⟨rfl,hw⟩;subst w'
  go_wp2_with fail
  go_loopw [6] (fun u wr2=>u=.int .i64 20/\wr2=wr) (fun _ _=>0)
  case atStart=>exact⟨rfl,rfl⟩
  case round =>
   obtain⟨rfl,hw⟩:=hrel;subst hw
   go_wp2_with fail
   refine bodyPost_end (v:=.tuple #[]) (by simp[results,results213,go_sem]) rfl ⟨rfl,rfl⟩
theorem sortStable_0 (blk cap:Nat) (cv:Value) (w:World) :
  Calls prog 209 #[.slice (some ⟨blk,0,none⟩) 0 cap,cv] w fun e w'=>e=.returned (.tuple #[])/\w'=w:=by
 have HS:=hideO (stable_0 blk cap cv w);go_enter func209,ntmps209
 go_wp2_with fail
 refine HS.o.mono ?_;rintro e w' ⟨rfl,hw⟩;subst w'
 go_wp2_with fail
 refine bodyPost_end (v:=.tuple #[]) (by simp[results,results209,go_sem]) rfl ⟨rfl,rfl⟩
theorem sort_all (t:ByteArray) (cc blk:Nat) (w:World) (hn:t.size<=1048576) (hB:IsB w blk 3 .i64 t.size (fun j=>((iotaF t.size j:Nat):Int))) (hcap:Cap w cc t) (hcb:cc<blk) :
  Calls prog 209 #[.slice (some ⟨blk,0,none⟩) t.size t.size,.func (.func 210) #[] #[.pointer (some ⟨cc,0,none⟩)]] w fun e w' =>
   e=.returned (.tuple #[])/\blk<w'.heap.size/\(∀ j,j<t.size->w'.cell? ⟨blk,j,none⟩=some (.int .i64 (plF t j:Nat)))/\Below blk w w':=by
 by_cases h0:t.size=0
 ·rw[h0]
  refine(sortStable_0 blk 0 _ w).mono ?_;rintro e w' ⟨rfl,rfl⟩;exact⟨rfl,hB.lt,fun j hj=>absurd hj (Nat.not_lt_zero _),Below.refl _ _⟩
 ·have hH:=holds_isB hB
  have hds:((List.range t.size).map (iotaF t.size)).toArray.size=t.size:=by simp
  have hdf:∀ i,i<t.size->dF ((List.range t.size).map (iotaF t.size)).toArray i=i:=fun i hi=>by
   simp[dF,hi,iotaF]
  have hbd:∀ i,dF ((List.range t.size).map (iotaF t.size)).toArray i<t.size:=fun i=>by
   by_cases hi:i<t.size
   ·rw[hdf i hi];exact hi
   ·rw[dF_out _ _ (by rw[hds];omega)];omega
  have:=sortStable_I t cc blk t.size _ w hH hB.lt (by rw[hds];exact hn) hcap (by omega) hbd (fun i hi=>hdf i (by rw[hds]at hi;exact hi))
  rw[hds]at this;refine this.mono ?_;rintro e w' ⟨rfl,n,d',os,rfl,hs,hp,hr⟩;refine⟨rfl,Nat.lt_of_lt_of_le hB.lt (world_size n d' os),fun j hj=>?_,world_below n d' os nl (Nat.le_of_lt hB.lt)⟩;have hH':=world_holds hH hB.lt n d' os (hs.trans hds.symm);have hc:=(cells_I hH' (i:=j) (by rw[hs];exact hj)).1;rw[hc]
  have hseg:(seg (dF d') 0 t.size).Perm (List.range t.size):=by
   have h1:=hp.1
   have e:seg (dF ((List.range t.size).map (iotaF t.size)).toArray) 0 t.size=List.range t.size:=by
    unfold seg;rw[Nat.sub_zero]
    apply List.ext_getElem
    ·simp
    ·intro i h1 h2
     have h3:i<t.size:=by simpa using h2
     simp only[List.getElem_map,List.getElem_range];rw[show (List.range' 0 t.size)[i]'(by simpa using h3)=i by simp];exact hdf i h3
   rw[e]at h1;exact h1
  have:=plF_seg hseg hr j hj
  rw[<-this];rfl
theorem places_impl (t:ByteArray) (w:World) (hn:t.size<=1048576) :
  Calls prog 207 #[.string t] w fun e w'=>∃ g,e=.returned (.slice (some ⟨g,0,none⟩) t.size t.size)/\w.heap.size<=g/\g<w'.heap.size/\(∀ j,j<t.size->w'.cell? ⟨g,j,none⟩=some (.int .i64 (plF t j:Nat)))/\Below w.heap.size w w':=by
 obtain⟨i0,hi0,hz0,hz1,hz2⟩:=info_parts Tryz.infoI3;obtain⟨w0,hw0⟩:∃ w0,w0=w.alloc (.cells #[.string t] 9):=⟨_,rfl⟩
 have z0:w0.heap.size=w.heap.size+1:=by rw[hw0];simp
 have HC0:Hid (Cap w0 w.heap.size t):=by unfold Hid Cap;rw[hw0,cell_of_row _ w.heap.size 0 _ _ (0,0) (heap_alloc_last w _)];rfl
 have HB0:Hid (Below w.heap.size w w0):=by unfold Hid;rw[hw0];exact(Below.refl _ _).alloc nl _
 go_enter func207,ntmps207
 go_wp2_with (at_make;rw[<-hw0];refine wpList_make_full _ rfl (.tmp 6) (.tmp 6) 202 rfl w0.heap.size 3 i0 (.int .i64 0) 1 underlying202 hi0 hz0 hz1 .i64 .i64 _ _ t.size rfl rfl (by simp) (by simp) (by rw[hz2];omega) (by unfold maxLen;omega) nl ?_;intro w1 hown1 hgrow1;have HT1:=hideO (Sh.made_rowK hown1);have hb1:=(Below.refl w0.heap.size w0).grown hgrow1 nl (by simp);have HC1:Hid (Cap w1 w.heap.size t):=HC0.o.block (hb1.block w.heap.size (by omega));have HB1:=hideO (HB0.o.trans (hb1.mono (by omega)));have zz1:=HT1.o.lt;clear hown1 hgrow1 hb1)
 go_loopw [10] (fun i wr=>∃ k:Nat,i=.int .i64 k/\k<=t.size/\IsB wr (w.heap.size+1) 3 .i64 t.size (fun j=>((iotaF k j:Nat):Int))/\Cap wr w.heap.size t/\Below w.heap.size w wr) (fun i _=>t.size-(intOf i).toNat)
 case atStart=>exact⟨0,rfl,Nat.zero_le _,by rw[<-z0];exact HT1.o.congr (fun j _=>by simp[iotaF]),HC1.o,HB1.o⟩
 case round =>
  obtain⟨k,rfl,hk,hrow,hcap,hbel⟩:=hrel;have T1:=hideO hrow;have C1:=hideO hcap;have GB:=hideO hbel;clear hbel hcap;by_cases hlt:k<t.size
  ·have c2:=hrow.cell (j:=k) hlt
   have f2:=hrow.frozen k
   have hkz:(k:Int)<(t.size:Int):=by omega
   have TS:=hideO ((hrow.set k (k:Nat)).congr (fun j _=>iotaF_next k j));have CS:Hid (Cap (wr.setCell ⟨w.heap.size+1,k,none⟩ (.int .i64 (k:Nat))) w.heap.size t):=C1.o.block (heap_setCell_other _ _ _ _ (by simp));have BS:=hideO (GB.o.setCell (p:=⟨w.heap.size+1,k,none⟩) (by simp) (.int .i64 (k:Nat)));clear hrow
   go_wp2_with fail
   go_roundw
   case rel=>exact⟨k+1,by go_num,by omega,TS.o,CS.o,BS.o⟩
   case measure=>simp[intOf];omega
  ·obtain rfl:k=t.size:=by omega
   have HS:=hideO (sort_all t w.heap.size (w.heap.size+1) wr hn T1.o C1.o (by omega));clear hrow
   go_wp2_with fail
   refine HS.o.mono ?_;rintro e w2 ⟨rfl,hz,hc,hb⟩;have HC:=hideO hc;have HB2:=hideO (GB.o.trans (hb.mono (by omega)));clear hc hb
   go_wp2_with fail
   go_ret;exact⟨_,rfl,by omega,hz,HC.o,HB2.o⟩
end So
namespace So
open Go.RowKit Go.Sort Go.Proofs
open Sh (bt bt_get bt_lt strF IsB made_row)
def sOut (t:ByteArray) (a c:Nat):Value:=.agg #[.string t,.int .i64 a,.int .i64 c]
def IsR (w:World) (g:Nat):Prop:=w.heap[g]? = some (.cells #[.string ⟨#[]⟩,.int .i64 0,.int .i64 0] 108 (0,0))
theorem IsR.cells {w:World} {g:Nat} (h:IsR w g):w.cell? ⟨g,0,none⟩=some (.string ⟨#[]⟩)/\w.cell? ⟨g,1,none⟩=some (.int .i64 0)/\w.cell? ⟨g,2,none⟩=some (.int .i64 0)/\(∀ j,w.frozen? ⟨g,j,none⟩=false):=by
 refine⟨?_,?_,?_,fun j=>frozen_of_row w g j _ _ h⟩
 ·rw[cell_of_row w g 0 _ _ (0,0) h];rfl
 ·rw[cell_of_row w g 1 _ _ (0,0) h];rfl
 ·rw[cell_of_row w g 2 _ _ (0,0) h];rfl
theorem atK_next (f:Nat->Nat) (k:Nat):(f k=0->atK f (k+1)=k)/\(f k≠0->atK f (k+1)=atK f k):=by
 constructor
 ·intro h;rw[atK,if_pos h]
 ·intro h;rw[atK,if_neg h]
theorem bwt_impl (t:ByteArray) (w:World) (hn:t.size<=1048576) :
  Calls prog 86 #[.string t] w fun e w'=>e=.returned (sOut (bwtT t) (bwtA t) (bwtC t))/\Below w.heap.size w w':=by
 obtain⟨i0,hi0,hz0,hz1,hz2⟩:=info_parts Nu.Tryz.infoJ5;by_cases hbig:8000<t.size
 ·have HV:Hid (sOut (bwtT t) (bwtA t) (bwtC t)=sOut ⟨#[]⟩ 0 2):=by
   unfold Hid;rw[(bwt_no (by omega)).1,(bwt_no (by omega)).2,bwtC,if_pos hbig]
  go_enter func86,ntmps86
  go_wp2_with fail
  refine bodyPost_ret (v:=sOut ⟨#[]⟩ 0 2) (by simp[results,sOut,results86,go_sem]) rfl ⟨by rw[HV.o],?_⟩;exact(Below.refl _ _).alloc nl _
 ·have hbig':¬(8000:Int)<(t.size:Int):=by omega
  by_cases hlong:48<t.size
  ·have HV:Hid (sOut (bwtT t) (bwtA t) (bwtC t)=sOut ⟨#[]⟩ 0 1):=by
    unfold Hid;rw[(bwt_no (by omega)).1,(bwt_no (by omega)).2,bwtC,if_neg hbig,if_pos hlong]
   go_enter func86,ntmps86
   go_wp2_with fail
   refine bodyPost_ret (v:=sOut ⟨#[]⟩ 0 1) (by simp[results,sOut,results86,go_sem]) rfl ⟨by rw[HV.o],?_⟩;exact(Below.refl _ _).alloc nl _
  ·have hlong':¬(48:Int)<(t.size:Int):=by omega
   obtain⟨w0,hw0⟩:∃ w0,w0=w.alloc (.cells #[.string ⟨#[]⟩,.int .i64 0,.int .i64 0] 108):=⟨_,rfl⟩
   have z0:w0.heap.size=w.heap.size+1:=by rw[hw0];simp
   have HR0:Hid (IsR w0 w.heap.size):=by unfold Hid;rw[hw0];exact heap_alloc_last w _
   have HB0:Hid (Below w.heap.size w w0):=by unfold Hid;rw[hw0];exact(Below.refl _ _).alloc nl _
   go_enter func86,ntmps86
   go_wp2_with (at_make;rw[<-hw0];refine wpList_make_full _ rfl (.tmp 16) (.tmp 16) 22 rfl w0.heap.size 5 i0 (.int .u8 0) 1 underlying22 hi0 hz0 hz1 .i64 .i64 _ _ t.size rfl rfl (by simp) (by simp) (by rw[hz2];omega) (by unfold maxLen;omega) nl ?_;intro w1 hown1 hgrow1;have HT1:=hideO (made_row hown1);have hb1:=(Below.refl w0.heap.size w0).grown hgrow1 nl (by simp);have HR1:Hid (IsR w1 w.heap.size):=(hb1.block w.heap.size (by omega)).trans HR0.o;have HB1:=hideO (HB0.o.trans (hb1.mono (by omega)));have zz1:=HT1.o.lt;clear hown1 hgrow1 hb1)
   refine(sorted_T t hn w1).mono ?_;rintro e w2 ⟨g,cap,d,rfl,hg1,hg2,hH,hds,hp,hr,⟨cur,hty⟩,hb2⟩;have HH:=hideO hH;have HDS:=hideO hds;have HB2:=hideO (HB1.o.trans (hb2.mono HB1.o.size));have HR2:Hid (IsR w2 w.heap.size):=(hb2.block w.heap.size (by omega)).trans HR1.o;have HT2:=hideO (HT1.o.below hb2 zz1);have z2:=hb2.size
   have HXT:Hid (∀ k,k<t.size->d[k]! < t.size):=fun k hk=>by
    have:dF d k∈seg (dF d) 0 t.size:=by
     rw[seg,List.mem_map];exact⟨k,by simp;omega,by simp⟩
    have:=hp.mem_iff.1 this
    have h2:=List.mem_range.1 this;exact h2
   have HE:=hideO (bwt_yes (by omega) (ordF_seg (ord_seg hp hr)));clear hH hds hp hr hb2 hty
   go_wp2_with fail
   go_loopw [21,4] (fun i a wr=>∃ k:Nat,i=.int .i64 k/\k<=t.size/\a=.int .i64 (atK (dF d) k:Nat)/\IsB wr (w.heap.size+1) 5 .u8 t.size (fun j=>((fillL t (dF d) k j:Nat):Int))/\IsR wr w.heap.size/\wr.heap[g]? = w2.heap[g]?/\Below w.heap.size w wr) (fun i _ _=>t.size-(intOf i).toNat)
   case atStart=>exact⟨0,rfl,Nat.zero_le _,rfl,by rw[<-z0];exact HT2.o.congr (fun j _=>by simp[fillL]),HR2.o,rfl,HB2.o⟩
   case round =>
    obtain⟨k,rfl,hk,rfl,htxt,hres,hbg,hbel⟩:=hrel;have T1:=hideO htxt;have R1:=hideO hres;have GB:=hideO hbel;have HBG:=hideO hbg;have hsz:=htxt.lt;clear hbel;by_cases hlt:k<t.size
    ·obtain⟨x0c,_,x1c,_⟩:=cells_T (holds_block HH.o hbg) (i:=k) (by rw[HDS.o];exact hlt)
     have hkz:(k:Int)<(t.size:Int):=by omega
     have hxt:=HXT.o k hlt;have HN:=hideO (fillL_next t (dF d) k);have HA:=hideO (atK_next (dF d) k);have HX:Hid (dF d k=d[k]!):=rfl;obtain⟨x,hx⟩:∃ x,x=d[k]!:=⟨_,rfl⟩;rw[<-hx]at x0c x1c hxt HX;rw[HX.o]at HN HA;obtain⟨p,hp⟩:∃ p,t.size=p+1:=⟨t.size-1,by omega⟩;have e1:(t.size:Int)-1=(p:Int):=(by omega);have hwp:IntKind.i64.wrap (p:Int)=(p:Int):=(by rw[IntKind.wrap_i64];omega);have htz:=turnV_size t x (by omega);have hlast:=turnV_last t x hxt;rw[show t.size-1=p by omega]at hlast;have hpx:p<(turnV t x).size:=(by omega);obtain⟨y,hy,hyt⟩:∃ y:UInt8,(turnV t x)[p]=y/\y.toNat=lastB t x:=⟨_,rfl,(bt_get _ _ hpx).trans hlast⟩;rw[<-hyt]at HN;generalize turnV t x=tx at x1c hpx hy htz;have hpx':(p:Int)<(tx.size:Int):=(by omega);have c2:=htxt.cell (j:=k) hlt;have f2:=htxt.frozen k
     have hgl:g<wr.heap.size:=by
      have:=GB.o.size
      have h2:w2.heap[g]?≠none:=by rw[Array.getElem?_eq_getElem hg2];simp
      rw[<-hbg]at h2;exact Nat.lt_of_not_le fun h=>h2 (Array.getElem?_eq_none h)
     have HTN:=hideO fun W (h:IsB W (w.heap.size+1) 5 .u8 t.size (fun j=>((fillL t (dF d) k j:Nat):Int)))=>(h.set k (y.toNat:Nat)).congr (fun j _=>HN.o j);obtain⟨m,hm⟩:∃ m,m=atK (dF d) k:=⟨_,rfl⟩;rw[<-hm]at HA ⊢;clear hx htxt hres hbg hlast hyt hm;have TS:=HTN.o wr T1.o
     have RS:IsR (wr.setCell ⟨w.heap.size+1,k,none⟩ (.int .u8 (y.toNat:Nat))) w.heap.size:=by
      unfold IsR;rw[heap_setCell_other _ _ _ _ (by simp)];exact R1.o
     have GS:(wr.setCell ⟨w.heap.size+1,k,none⟩ (.int .u8 (y.toNat:Nat))).heap[g]? = w2.heap[g]?:=by
      rw[heap_setCell_other _ _ _ _ (by simp;omega)];exact HBG.o
     have BS:=GB.o.setCell (p:=⟨w.heap.size+1,k,none⟩) (by simp) (.int .u8 (y.toNat:Nat));have LS:g<(wr.setCell ⟨w.heap.size+1,k,none⟩ (.int .u8 (y.toNat:Nat))).heap.size:=(by simpa using hgl)
     have HS:Hid (∀ o:Obj,IsB ((wr.setCell ⟨w.heap.size+1,k,none⟩ (.int .u8 (y.toNat:Nat))).alloc o) (w.heap.size+1) 5 .u8 t.size (fun j=>((fillL t (dF d) (k+1) j:Nat):Int))/\IsR ((wr.setCell ⟨w.heap.size+1,k,none⟩ (.int .u8 (y.toNat:Nat))).alloc o) w.heap.size/\((wr.setCell ⟨w.heap.size+1,k,none⟩ (.int .u8 (y.toNat:Nat))).alloc o).heap[g]? = w2.heap[g]?/\Below w.heap.size w ((wr.setCell ⟨w.heap.size+1,k,none⟩ (.int .u8 (y.toNat:Nat))).alloc o)):=by
      intro o;generalize wr.setCell ⟨w.heap.size+1,k,none⟩ (.int .u8 (y.toNat:Nat))=W at TS RS GS BS LS ⊢;have ba:Below W.heap.size W (W.alloc o):=(Below.refl _ _).alloc nl _;have h1:=TS.lt;exact⟨TS.below ba h1,(ba.block _ (by omega)).trans RS,(ba.block _ LS).trans GS,BS.trans (ba.mono BS.size)⟩
     clear TS RS GS BS LS;by_cases hx0:x=0
     ·subst hx0
      have HM:=hideO (HA.o.1 rfl);(go_wp2_with fail)
      go_roundw
      case rel=>exact⟨k+1,by go_num,by omega,by rw[HM.o],HS.o _⟩
      case measure=>simp[intOf];omega
     ·have HM:=hideO (HA.o.2 hx0)
      have hxz:((x:Int)==0)=false:=by simpa using hx0
      (go_wp2_with fail)
      go_roundw
      case rel=>exact⟨k+1,by go_num,by omega,by rw[HM.o],HS.o _⟩
      case measure=>simp[intOf];omega
    ·obtain rfl:k=t.size:=by omega
     have hcv:=htxt.str (P:=prog) (src:=22) (dst:=9) t.size t.size nl (fun j _=>fillL_lt _ _ _ j) underlying22 underlying5 underlying9;rw[fillL_all]at hcv;obtain⟨c0,c1,c2,f0⟩:=hres.cells
     have HV:Hid (sOut (bwtT t) (bwtA t) (bwtC t)=sOut (strF t.size (fun j=>lastB t (dF d j))) (atK (dF d) t.size) 0):=by
      unfold Hid;rw[HE.o.1,HE.o.2.1,HE.o.2.2]
     obtain⟨q,hq⟩:∃ q,q=strF t.size (fun j=>lastB t (dF d j)):=⟨_,rfl⟩;obtain⟨m,hm⟩:∃ m,m=atK (dF d) t.size:=⟨_,rfl⟩;rw[<-hq]at hcv HV;rw[<-hm]at HV ⊢;clear htxt hres hbg hq hm;(go_wp2_with fail);refine bodyPost_ret (v:=sOut q m 0) (by simp[results,sOut,results86,go_sem,c0,c1,c2]) rfl ⟨by rw[HV.o],?_⟩;exact((GB.o.setCell nl _).setCell nl _).setCell nl _
end So
namespace So
open Go.RowKit Go.Sort Go.Proofs
open Sh (bt bt_get bt_lt strF IsB made_row)
theorem turnBack_impl (t:ByteArray) (a:Nat) (w:World) (hn:t.size<=1048576) (ha:a<t.size∨t.size=0) :
  Calls prog 203 #[.string t,.int .i64 a] w fun e w'=>e=.returned (.string (backT t a))/\Below w.heap.size w w':=by
 obtain⟨i0,hi0,hz0,hz1,hz2⟩:=info_parts Nu.Tryz.infoJ5;have HPL:=hideO (places_impl t w hn);go_enter func203,ntmps203
 go_wp2_with fail
 refine HPL.o.mono ?_;rintro e w1 ⟨g,rfl,hg1,hg2,hc,hb1⟩;have HC:=hideO hc;have HB1:=hideO hb1;have z1:=hb1.size;clear hc hb1
 go_wp2_with (at_make;refine wpList_make_full _ rfl (.tmp 12) (.tmp 12) 22 rfl w1.heap.size 5 i0 (.int .u8 0) 1 underlying22 hi0 hz0 hz1 .i64 .i64 _ _ t.size rfl rfl (by simp) (by simp) (by rw[hz2];omega) (by unfold maxLen;omega) nl ?_;intro w2 hown2 hgrow2;have HT2:=hideO (made_row hown2);have HB2:=hideO ((Below.refl w1.heap.size w1).grown hgrow2 nl (by simp));clear hown2 hgrow2)
 go_loopw [17,7] (fun i m wr=>∃ k:Nat,i=.int .i64 k/\k<=t.size/\m=.int .i64 (itR t a k:Nat)/\IsB wr w1.heap.size 5 .u8 t.size (fun j=>((fillK t a k j:Nat):Int))/\Below w1.heap.size w1 wr) (fun i _ _=>t.size-(intOf i).toNat)
 case atStart=>exact⟨0,rfl,Nat.zero_le _,rfl,HT2.o.congr (fun j _=>by simp[fillK]),HB2.o⟩
 case round =>
  obtain⟨k,rfl,hk,rfl,hrow,hbel⟩:=hrel;have T1:=hideO hrow;have GB:=hideO hbel;have hsz:=hrow.lt;clear hbel;by_cases hlt:k<t.size
  ·have hat:a<t.size:=by omega
   have hr1:=itR_lt t a k hat;have hr2:=itR_lt t a (k+1) hat;have e0:itR t a (k+1)=plF t (itR t a k):=rfl
   have c1:wr.cell? ⟨g,itR t a k,none⟩=some (.int .i64 (itR t a (k+1):Nat)):=by
    rw[GB.o.cell (p:=⟨g,itR t a k,none⟩) hg2,e0];exact HC.o _ hr1
   have HN:=hideO (fillK_next t a k);obtain⟨p,hp⟩:∃ p,p=itR t a k:=⟨_,rfl⟩;obtain⟨q,hq⟩:∃ q,q=itR t a (k+1):=⟨_,rfl⟩;have HQ:=hideO hq;rw[<-hp,<-hq]at c1;rw[<-hq]at hr2 HN;rw[<-hp]at hr1 ⊢
   have hpz:(p:Int)<(t.size:Int):=by omega
   have hqz:(q:Int)<(t.size:Int):=by omega
   have hkz:(k:Int)<(t.size:Int):=by omega
   obtain⟨y,hy,hyt⟩:∃ y:UInt8,t[q]=y/\y.toNat=bt t q:=⟨_,rfl,bt_get _ _ hr2⟩;rw[<-hyt]at HN;have c2:=hrow.cell (j:=k) hlt;have f2:=hrow.frozen k;have TS:=hideO ((hrow.set k (y.toNat:Nat)).congr (fun j _=>HN.o j));have BS:=hideO (GB.o.setCell (p:=⟨w1.heap.size,k,none⟩) nl (.int .u8 (y.toNat:Nat)));clear hrow hp hq hyt e0 ha
   go_wp2_with fail
   go_roundw
   case rel=>exact⟨k+1,by go_num,by omega,by rw[<-HQ.o],TS.o,BS.o⟩
   case measure=>simp[intOf];omega
  ·obtain rfl:k=t.size:=by omega
   have hcv:=hrow.str (P:=prog) (src:=22) (dst:=9) t.size t.size nl (fun j _=>fillK_lt _ _ _ j) underlying22 underlying5 underlying9;rw[fillK_all]at hcv;have BZ:=hideO (HB1.o.trans (GB.o.mono z1));generalize itR t a t.size=m;clear hrow ha
   go_wp2_with fail
   go_ret;exact⟨rfl,BZ.o⟩
theorem isPlace_impl (t:ByteArray) (a:Int) (w:World) :
  Calls prog 202 #[.string t,.int .i64 a] w fun e w'=>e=.returned (.bool (!decide (a<0∨((t.size:Int)<=a/\0<a))))/\w'=w:=by
 by_cases h0:a=0
 ·subst h0
  rw[decide_eq_false (by omega)];go_enter func202,ntmps202
  go_wp2_with fail
  go_ret;exact⟨rfl,rfl⟩
 ·have hz:(a==0)=false:=beq_eq_false_iff_ne.2 h0
  by_cases h1:0<a
  ·have hd:decide (0<a)=true:=decide_eq_true h1
   by_cases h2:a<(t.size:Int)
   ·have hd2:decide (a<(t.size:Int))=true:=decide_eq_true h2
    rw[decide_eq_false (by omega)];clear h0;go_enter func202,ntmps202;(go_wp2_with fail);go_ret;exact⟨rfl,rfl⟩
   ·have hd2:decide (a<(t.size:Int))=false:=decide_eq_false h2
    rw[decide_eq_true (by omega)];clear h0;go_enter func202,ntmps202;(go_wp2_with fail);go_ret;exact⟨rfl,rfl⟩
  ·have hd:decide (0<a)=false:=decide_eq_false h1
   rw[decide_eq_true (by omega)];clear h0;go_enter func202,ntmps202
   go_wp2_with fail
   go_ret;exact⟨rfl,rfl⟩
end So
namespace So
open Go.RowKit Go.Sort Go.Proofs
def IsX (w:World) (g:Nat):Prop:=w.heap[g]? = some (.cells #[.string ⟨#[]⟩,.int .i64 0,.int .i64 0] 91 (0,0))
theorem IsX.cells {w:World} {g:Nat} (h:IsX w g):w.cell? ⟨g,0,none⟩=some (.string ⟨#[]⟩)/\w.cell? ⟨g,1,none⟩=some (.int .i64 0)/\w.cell? ⟨g,2,none⟩=some (.int .i64 0)/\(∀ j,w.frozen? ⟨g,j,none⟩=false):=by
 refine⟨?_,?_,?_,fun j=>frozen_of_row w g j _ _ h⟩
 ·rw[cell_of_row w g 0 _ _ (0,0) h];rfl
 ·rw[cell_of_row w g 1 _ _ (0,0) h];rfl
 ·rw[cell_of_row w g 2 _ _ (0,0) h];rfl
theorem bwtC_no {t:ByteArray} (h:t.size<=48):bwtC t=0:=by
 unfold bwtC;rw[if_neg (by omega),if_neg (by omega)]
theorem unbwt_impl (t:ByteArray) (a:Int) (w:World) (hn:t.size<=1048576) :
  Calls prog 185 #[.string t,.int .i64 a] w fun e w'=>e=.returned (unR t a)/\Below w.heap.size w w':=by
 by_cases hbig:8000<t.size
 ·have HV:=hideO (unR_big (a:=a) hbig)
  go_enter func185,ntmps185
  go_wp2_with fail
  refine bodyPost_ret (v:=tOut ⟨#[]⟩ 0 2) (by simp[results,tOut,results185,go_sem]) rfl ⟨by rw[HV.o],?_⟩;exact(Below.refl _ _).alloc nl _
 ·have hbig':¬(8000:Int)<(t.size:Int):=by omega
  by_cases hlong:48<t.size
  ·have HV:=hideO (unR_form (a:=a) hbig (Or.inl hlong))
   have hd:decide ((48:Int)<(t.size:Int))=true:=decide_eq_true (by omega);go_enter func185,ntmps185
   go_wp2_with fail
   refine bodyPost_ret (v:=tOut ⟨#[]⟩ 0 1) (by simp[results,tOut,results185,go_sem]) rfl ⟨by rw[HV.o],?_⟩;exact(Below.refl _ _).alloc nl _
  ·have hlong':¬(48:Int)<(t.size:Int):=by omega
   have hd:decide ((48:Int)<(t.size:Int))=false:=decide_eq_false (by omega);obtain⟨w0,hw0⟩:∃ w0,w0=w.alloc (.cells #[.string ⟨#[]⟩,.int .i64 0,.int .i64 0] 91):=⟨_,rfl⟩
   have z0:w0.heap.size=w.heap.size+1:=by rw[hw0];simp
   have HR0:Hid (IsX w0 w.heap.size):=by unfold Hid;rw[hw0];exact heap_alloc_last w _
   have HB0:Hid (Below w.heap.size w w0):=by unfold Hid;rw[hw0];exact(Below.refl _ _).alloc nl _
   have HIP:=hideO (isPlace_impl t a w0);by_cases hbad:a<0∨((t.size:Int)<=a/\0<a)
   ·have HV:=hideO (unR_form hbig (Or.inr hbad))
    rw[decide_eq_true hbad]at HIP;go_enter func185,ntmps185;(go_wp2_with fail);rw[<-hw0];refine HIP.o.mono ?_;rintro e w' ⟨rfl,hw⟩;subst w';subst hw0;(go_wp2_with fail);refine bodyPost_ret (v:=tOut ⟨#[]⟩ 0 1) (by simp[results,tOut,results185,go_sem]) rfl ⟨by rw[HV.o],?_⟩;exact(Below.refl _ _).alloc nl _
   ·rw[decide_eq_false hbad]at HIP
    obtain⟨m,rfl⟩:∃ m:Nat,a=m:=⟨a.toNat,by omega⟩;have HTB:=hideO (turnBack_impl t m w0 hn (by omega));have hbz:=backT_size t m;have HBW:=hideO (fun W=>bwt_impl (backT t m) W (by omega));rw[bwtC_no (show (backT t m).size<=48 by omega)]at HBW;have HY:=hideO (fun h=>unR_yes (t:=t) (a:=m) (by omega) (by omega) h);have HNO:=hideO (fun h=>unR_no (t:=t) (a:=m) (by omega) (by omega) h);obtain⟨b,hb⟩:∃ b,b=backT t m:=⟨_,rfl⟩;obtain⟨bt',hbt⟩:∃ bt',bt'=bwtT b:=⟨_,rfl⟩;obtain⟨ba,hba⟩:∃ ba,ba=bwtA b:=⟨_,rfl⟩;rw[<-hb]at HTB HBW HY HNO;rw[<-hbt,<-hba]at HBW HY HNO;unfold sOut at HBW;clear hb hbt hba hbz hbad;by_cases hq:bt'=t/\ba=m
    ·obtain⟨rfl,rfl⟩:=hq
     have HV:=hideO (HY.o ⟨rfl,rfl⟩);clear HY HNO;go_enter func185,ntmps185;(go_wp2_with fail);rw[<-hw0];refine HIP.o.mono ?_;rintro e w' ⟨rfl,hw⟩;subst w';(go_wp2_with fail);rw[<-hw0];refine HTB.o.mono ?_;rintro e w1 ⟨rfl,hb1⟩;have HR1:Hid (IsX w1 w.heap.size):=(hb1.block w.heap.size (by omega)).trans HR0.o;have HB1:=hideO (HB0.o.trans (hb1.mono (by omega)));have z1:=hb1.size;clear hb1;(go_wp2_with fail);refine(HBW.o w1).mono ?_;rintro e w2 ⟨rfl,hb2⟩;have hr2:IsX w2 w.heap.size:=(hb2.block w.heap.size (by omega)).trans HR1.o;have GB:=hideO (HB1.o.trans (hb2.mono (by omega)));have z2:=hb2.size;obtain⟨c0,c1,c2,f0⟩:=hr2.cells;clear hr2 hb2;(go_wp2_with fail);refine bodyPost_ret (v:=tOut b 0 0) (by simp[results,tOut,results185,go_sem,c0,c1,c2]) rfl ⟨by rw[HV.o],?_⟩;exact((GB.o.setCell nl _).setCell nl _).setCell nl _
    ·have HV:=hideO (HNO.o hq)
     by_cases hqt:bt'=t
     ·subst hqt
      have hqm:((ba:Int)==(m:Int))=false:=beq_eq_false_iff_ne.2 (fun e=>hq ⟨rfl,by omega⟩);clear hq;clear HY HNO;go_enter func185,ntmps185;(go_wp2_with fail);rw[<-hw0];refine HIP.o.mono ?_;rintro e w' ⟨rfl,hw⟩;subst w';(go_wp2_with fail);rw[<-hw0];refine HTB.o.mono ?_;rintro e w1 ⟨rfl,hb1⟩;have HR1:Hid (IsX w1 w.heap.size):=(hb1.block w.heap.size (by omega)).trans HR0.o;have HB1:=hideO (HB0.o.trans (hb1.mono (by omega)));have z1:=hb1.size;clear hb1;(go_wp2_with fail);refine(HBW.o w1).mono ?_;rintro e w2 ⟨rfl,hb2⟩;have hr2:IsX w2 w.heap.size:=(hb2.block w.heap.size (by omega)).trans HR1.o;have GB:=hideO (HB1.o.trans (hb2.mono (by omega)));have z2:=hb2.size;obtain⟨c0,c1,c2,f0⟩:=hr2.cells;clear hr2 hb2;(go_wp2_with fail);refine bodyPost_ret (v:=tOut ⟨#[]⟩ 0 3) (by simp[results,tOut,results185,go_sem,c0,c1,c2]) rfl ⟨by rw[HV.o],?_⟩;exact((GB.o.setCell nl _).setCell nl _).setCell nl _
     ·have hqe:(bt'.toList==t.toList)=false:=by rw[list_eq_iff];exact decide_eq_false hqt
      clear hq hqt;clear HY HNO;go_enter func185,ntmps185;(go_wp2_with fail);rw[<-hw0];refine HIP.o.mono ?_;rintro e w' ⟨rfl,hw⟩;subst w';(go_wp2_with fail);rw[<-hw0];refine HTB.o.mono ?_;rintro e w1 ⟨rfl,hb1⟩;have HR1:Hid (IsX w1 w.heap.size):=(hb1.block w.heap.size (by omega)).trans HR0.o;have HB1:=hideO (HB0.o.trans (hb1.mono (by omega)));have z1:=hb1.size;clear hb1;(go_wp2_with fail);refine(HBW.o w1).mono ?_;rintro e w2 ⟨rfl,hb2⟩;have hr2:IsX w2 w.heap.size:=(hb2.block w.heap.size (by omega)).trans HR1.o;have GB:=hideO (HB1.o.trans (hb2.mono (by omega)));have z2:=hb2.size;obtain⟨c0,c1,c2,f0⟩:=hr2.cells;clear hr2 hb2;(go_wp2_with fail);refine bodyPost_ret (v:=tOut ⟨#[]⟩ 0 3) (by simp[results,tOut,results185,go_sem,c0,c1,c2]) rfl ⟨by rw[HV.o],?_⟩;exact((GB.o.setCell nl _).setCell nl _).setCell nl _
end So
end Go.Proofs.YtbdcffjcogglbaaGreatDoor
