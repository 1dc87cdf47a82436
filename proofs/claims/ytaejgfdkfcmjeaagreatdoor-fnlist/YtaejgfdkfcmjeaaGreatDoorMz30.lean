import Derived.Test.YtaejgfdkfcmjeaaGreatDoorMz37
import Derived.Test.YtaejgfdkfcmjeaaGreatDoorMz29
import Derived.Test.YtaejgfdkfcmjeaaGreatDoorMz25
set_option maxRecDepth 100000
set_option maxHeartbeats 8000000
namespace Go.Proofs.YtaejgfdkfcmjeaaGreatDoor
open Go.Proofs.Tryz
namespace So
open Go.RowKit Go.Sort Go.Proofs
theorem merge_T (T:Nat->ByteArray) (blk cap:Nat):∀ (N a m b:Nat) (d:Array Nat) (w:World),b-a<=N->HoldsK (encT T) 2 w blk 0 d->blk<w.heap.size->a<m->m<b->b<=d.size->d.size<=1048576->Ris (clT T) a m (dF d)->Ris (clT T) m b (dF d)->Sep a m b (dF d) ->
  Calls prog 231 #[.slice (some ⟨blk,0,none⟩) d.size cap,.int .i64 a,.int .i64 m,.int .i64 b,.func (.func 194) #[] #[]] w fun e w' =>
   e=.returned (.tuple #[])/\∃ n d' os,w'=sortWorldK (encT T) 2 w blk 0 n d' os/\d'.size=d.size/\PermF a b (dF d) (dF d')/\Ris (clT T) a b (dF d'):=by
 intro N
 induction N with
 |zero=>intro a m b d w hN _ _ ham hmb;omega
 |succ N ih =>
  intro a m b d w hN hH hblk ham hmb hb hsz hr1 hr2 hsep;by_cases hA:m=a+1
  ·subst hA
   exact mergeA_T T blk cap a b d w hH hblk hmb hb hsz hr2 hsep
  ·by_cases hB:b=m+1
   ·subst hB
    exact mergeB_T T blk cap a m d w hH hblk (by omega) hb hsz hr1 hsep
   ·exact mergeC_T T blk cap a m b d w hH hblk (by omega) (by omega) hb hsz hr1 hr2 hsep (fun a' m' b' d' W h1=>ih a' m' b' d' W (by omega))
end So
namespace So
open Go.RowKit Go.Sort Go.Proofs
theorem stable_T (T:Nat->ByteArray) (blk cap:Nat) (d:Array Nat) (w:World) (hH:HoldsK (encT T) 2 w blk 0 d) (hblk:blk<w.heap.size) (hsz:d.size<=1048576) (hid:∀ i,i<d.size->dF d i=i) :
  Calls prog 220 #[.slice (some ⟨blk,0,none⟩) d.size cap,.int .i64 d.size,.func (.func 194) #[] #[]] w fun e w' =>
   e=.returned (.tuple #[])/\∃ n d' os,w'=sortWorldK (encT T) 2 w blk 0 n d' os/\d'.size=d.size/\PermF 0 d.size (dF d) (dF d')/\Ris (clT T) 0 d.size (dF d'):=by
 have HST:=hideO (world_self hH);have HH:=hideO hH;clear hH;obtain⟨z,hz⟩:∃ z,z=d.size:=⟨_,rfl⟩;have HZ:=hideO hz;rw[<-hz]at hsz hid ⊢;clear hz;obtain⟨f0,hf⟩:∃ f0,f0=dF d:=⟨_,rfl⟩;have HFD:=hideO hf;rw[<-hf]at hid ⊢;have HID:=hideO hid;clear hf hid
 have HIN:=hideO (fun (n:Nat) (dk:Array Nat) (os:Array Obj) (hs:dk.size=z) (a b:Nat) (h1:a<=b) (h2:b<=z) (hr:∀ i j,a<=i->i<j->j<b->dF dk i<dF dk j) =>
  insertion_T T blk cap a b dk (sortWorldK (encT T) 2 w blk 0 n dk os) (world_holds HH.o hblk n dk os (hs.trans HZ.o)) (Nat.lt_of_lt_of_le hblk (world_size n dk os)) h1 (by rw[hs];exact h2) (by rw[hs];exact hsz) hr)
 have HMG:=hideO (fun (n:Nat) (dk:Array Nat) (os:Array Obj) (hs:dk.size=z) (a m b:Nat) (h1:a<m) (h2:m<b) (h3:b<=z) (c1:Ch (clT T) a m (dF dk)) (c2:Ch (clT T) m b (dF dk)) =>
  merge_T T blk cap (b-a) a m b dk (sortWorldK (encT T) 2 w blk 0 n dk os) nl (world_holds HH.o hblk n dk os (hs.trans HZ.o)) (Nat.lt_of_lt_of_le hblk (world_size n dk os)) h1 h2 (by rw[hs];exact h3) (by rw[hs];exact hsz) c1.1 c2.1 (c1.sep c2))
 have HWW:=hideO (fun (n n':Nat) (dk d':Array Nat) (os os':Array Obj) (hs:d'.size=dk.size)=>world_world (enc:=encT T) (k:=2) (w:=w) (blk:=blk) (off:=0) n n' dk d' os os' hblk hs);go_enter func220,ntmps220
 go_wp2_with fail
 go_loopw [7,8] (fun u v wr=>∃ (k n:Nat) (dk:Array Nat) (os:Array Obj),u=.int .i64 (20*k:Nat)/\v=.int .i64 (20*k+20:Nat)/\20*k<=z/\dk.size=z/\Chs (clT T) 20 z 0 (20*k) (dF dk)/\(∀ i,20*k<=i->i<z->dF dk i=i)/\PermF 0 z f0 (dF dk)/\wr=sortWorldK (encT T) 2 w blk 0 n dk os) (fun u _ _=>z-(intOf u).toNat)
 case atStart=>exact⟨0,0,d,#[],rfl,rfl,by omega,HZ.o.symm,Chs.none,fun i _ h=>by rw[<-HFD.o];exact HID.o i h,by rw[<-HFD.o];exact PermF.refl _ _ _,HST.o⟩
 case round =>
  obtain⟨k,n,dk,os,rfl,rfl,hkz,hsk,hch,hidk,hpm,hwr⟩:=hrel;have HSK:=hideO hsk;have HCH:=hideO hch;have HIK:=hideO hidk;have HPM:=hideO hpm;have HW:=hideO hwr;obtain⟨a,ha⟩:∃ a,a=20*k:=⟨_,rfl⟩;obtain⟨b,hb⟩:∃ b,b=20*k+20:=⟨_,rfl⟩;have HAB:Hid (a=20*k/\b=20*k+20):=⟨ha,hb⟩
  have hab:a<b:=by omega
  rw[<-ha]at hkz;rw[<-hb,<-ha];clear hsk hch hidk hpm ha hb;by_cases hlt:b<=z
  ·have HC:=hideO (HIN.o n dk os HSK.o a b (by omega) hlt (fun i j h1 h2 h3=>by have:=HAB.o;rw[HIK.o i (by omega) (by omega),HIK.o j (by omega) (by omega)];exact h2))
   rw[<-hwr,HSK.o]at HC
   have hlt':(b:Int)<=(z:Int):=by omega
   clear hwr
   go_wp2_with fail
   refine HC.o.mono ?_;rintro er w1 ⟨rfl,n1,d1,os1,hw1,hs1,hp1,hr1⟩
   have HW1:Hid (w1=sortWorldK (encT T) 2 w blk 0 (n+n1) d1 (os++os1)):=by
    unfold Hid;rw[hw1,HW.o];exact HWW.o n n1 dk d1 os os1 (hs1.trans HSK.o.symm)
   have HS1:=hideO hs1;have HP1:=hideO hp1;have HR1:=hideO hr1;obtain⟨b4,hb4⟩:∃ b4,b4=b+20:=⟨_,rfl⟩
   have e3:(b:Int)+20=(b4:Int):=by omega
   have HB4:=hideO hb4;clear hb4;clear hw1 hs1 hp1 hr1 HC
   go_wp2_with fail
   go_roundw
   case rel =>
    have hr:=HAB.o;refine⟨k+1,n+n1,d1,os++os1,by rw[hr.2];rfl,by rw[HB4.o,hr.2];rfl,by omega,HS1.o,?_,fun i h1 h2=>?_,HPM.o.trans (HP1.o.mono (Nat.zero_le _) (by omega) (by omega)),HW1.o⟩
    ·have hc:Ch (clT T) (20*k) (20*k+20) (dF d1):=by
      rw[<-hr.2,<-hr.1];exact Ch.start (fun i h1 h2=>HIK.o i (by omega) (by omega)) HP1.o HR1.o
     have:=HCH.o.more (g:=dF d1) (by omega) (fun i hi=>HP1.o.2 i (Or.inl (by omega))) hc
     rw[Nat.mul_succ];exact this
    ·rw[HP1.o.2 i (Or.inr (by omega))]
     exact HIK.o i (by omega) h2
   case measure=>have:=HAB.o;simp[intOf];omega
  ·have hlt':¬(b:Int)<=(z:Int):=by omega
   have HC:=hideO (HIN.o n dk os HSK.o a z (by omega) nl (fun i j h1 h2 h3=>by have:=HAB.o;rw[HIK.o i (by omega) (by omega),HIK.o j (by omega) (by omega)];exact h2));rw[<-hwr,HSK.o]at HC;clear hwr
   go_wp2_with fail
   refine HC.o.mono ?_;rintro er w1 ⟨rfl,n1,d1,os1,hw1,hs1,hp1,hr1⟩
   have HW1:Hid (w1=sortWorldK (encT T) 2 w blk 0 (n+n1) d1 (os++os1)):=by
    unfold Hid;rw[hw1,HW.o];exact HWW.o n n1 dk d1 os os1 (hs1.trans HSK.o.symm)
   have HCA:Hid (Chs (clT T) 20 z 0 z (dF d1)):=by
    have hr:=HAB.o;refine HCH.o.last (by omega) (fun i hi=>hp1.2 i (Or.inl (by omega))) ?_;rw[<-hr.1];exact Ch.start (fun i h1 h2=>HIK.o i (by omega) h2) hp1 hr1
   have HPA:=hideO (HPM.o.trans (hp1.mono (Nat.zero_le _) hkz nl));have HS1:=hideO hs1;clear hw1 hs1 hp1 hr1 HC
   go_wp2_with fail
   go_loopw [6] (fun u wr=>∃ (bs n:Nat) (dk:Array Nat) (os:Array Obj),u=.int .i64 bs/\0<bs/\bs<=2*z+20/\dk.size=z/\Chs (clT T) bs z 0 z (dF dk)/\PermF 0 z f0 (dF dk)/\wr=sortWorldK (encT T) 2 w blk 0 n dk os) (fun u _=>z-(intOf u).toNat)
   case atStart=>exact⟨20,n+n1,d1,os++os1,rfl,by omega,by omega,HS1.o,HCA.o,HPA.o,HW1.o⟩
   case round =>
    obtain⟨bs,n2,d2,os2,rfl,hbs0,hbsz,hs2,hch2,hpm2,hwr2⟩:=hrel;have HS2:=hideO hs2;have HC2:=hideO hch2;have HP2:=hideO hpm2;have HW2:=hideO hwr2;clear hs2 hch2 hpm2 hwr2;by_cases hlz:bs<z
    ·have hlz':(bs:Int)<(z:Int):=by omega
     obtain⟨b2,hb2⟩:∃ b2,b2=2*bs:=⟨_,rfl⟩;have eb2:2*(bs:Int)=(b2:Int):=(by omega);have eb2':(bs:Int)*2=(b2:Int):=(by omega);have HB2:=hideO hb2;clear hb2;(go_wp2_with fail)
     go_loopw [7,8] (fun u v wr=>∃ (k n:Nat) (dk:Array Nat) (os:Array Obj),u=.int .i64 (b2*k:Nat)/\v=.int .i64 (b2*k+b2:Nat)/\b2*k<=z/\dk.size=z/\Chs (clT T) b2 z 0 (b2*k) (dF dk)/\Chs (clT T) bs z (b2*k) z (dF dk)/\PermF 0 z f0 (dF dk)/\wr=sortWorldK (encT T) 2 w blk 0 n dk os) (fun u _ _=>z-(intOf u).toNat)
     case atStart=>exact⟨0,n2,d2,os2,by simp,by simp,by omega,HS2.o,by rw[Nat.mul_zero];exact Chs.none,by rw[Nat.mul_zero];exact HC2.o,HP2.o,HW2.o⟩
     case round =>
      obtain⟨k,n3,d3,os3,rfl,rfl,hkz3,hs3,hch3,hcr3,hpm3,hwr3⟩:=hrel;have HS3:=hideO hs3;have HC3:=hideO hch3;have HD3:=hideO hcr3;have HP3:=hideO hpm3;have HW3:=hideO hwr3;obtain⟨a3,ha3⟩:∃ a3,a3=b2*k:=⟨_,rfl⟩;obtain⟨e3,he3⟩:∃ e3,e3=b2*k+b2:=⟨_,rfl⟩;obtain⟨m3,hm3⟩:∃ m3,m3=b2*k+bs:=⟨_,rfl⟩
      have HAE:Hid (a3=b2*k/\e3=a3+b2/\m3=a3+bs/\b2=2*bs/\a3=bs*(2*k)):=by
       refine⟨ha3,by omega,by omega,HB2.o,?_⟩;rw[ha3,HB2.o,Nat.mul_comm 2 bs,Nat.mul_assoc]
      have em3:(a3:Int)+(bs:Int)=(m3:Int):=by omega
      rw[<-ha3]at hkz3 HC3 HD3;rw[<-he3,<-ha3];have hal:=HAE.o;have hm3z:m3<=z+bs:=(by omega);have he3z:e3<=z+b2:=(by omega);have hb2z:b2<=2*z:=(by omega);clear hs3 hch3 hcr3 hpm3 ha3 he3 hm3;by_cases hle:e3<=z
      ·have hle':(e3:Int)<=(z:Int):=by omega
       have c1:Ch (clT T) a3 m3 (dF d3):=by
        have:=HD3.o.at0 hal.2.2.2.2 (by omega)
        rwa[Nat.min_eq_left (by omega),<-hal.2.2.1]at this
       have c2:Ch (clT T) m3 e3 (dF d3):=by
        have:=HD3.o.at1 hal.2.2.2.2 (by omega)
        rwa[Nat.min_eq_left (by omega),<-hal.2.2.1,show m3+bs=e3 by omega]at this
       have HC:=hideO (HMG.o n3 d3 os3 HS3.o a3 m3 e3 (by omega) (by omega) hle c1 c2);rw[<-hwr3,HS3.o]at HC;have HCC:Hid (Ch (clT T) a3 m3 (dF d3)/\Ch (clT T) m3 e3 (dF d3)):=⟨c1,c2⟩;obtain⟨e4,he4⟩:∃ e4,e4=e3+b2:=⟨_,rfl⟩;have ee4:(e3:Int)+(b2:Int)=(e4:Int):=(by omega);have HE4:=hideO he4;clear hwr3 c1 c2 hal he4;(go_wp2_with fail);refine HC.o.mono ?_;rintro er w4 ⟨rfl,n4,d4,os4,hw4,hs4,hp4,hr4⟩
       have HW4:Hid (w4=sortWorldK (encT T) 2 w blk 0 (n3+n4) d4 (os3++os4)):=by
        unfold Hid;rw[hw4,HW3.o];exact HWW.o n3 n4 d3 d4 os3 os4 (hs4.trans HS3.o.symm)
       have HS4:=hideO hs4;have HP4:=hideO hp4;have HR4:=hideO hr4;clear hw4 hs4 hp4 hr4 HC;(go_wp2_with fail)
       go_roundw
       case rel =>
        have hal:=HAE.o;have hk1:b2*(k+1)=e3:=(by rw[Nat.mul_succ];omega);refine⟨k+1,n3+n4,d4,os3++os4,by rw[hk1],by rw[hk1,<-HE4.o],by omega,HS4.o,?_,?_,HP3.o.trans (HP4.o.mono (Nat.zero_le _) (by omega) hle),HW4.o⟩
        ·rw[hk1]
         have:=HC3.o
         rw[hal.1]at this
         have q:=this.more (g:=dF d4) (by omega) (fun i hi=>HP4.o.2 i (Or.inl (by omega))) (by
          rw[<-hal.1,<-hal.2.1]
          exact HCC.o.1.merge HCC.o.2 (by omega) (by omega) HP4.o HR4.o)
         rw[<-hal.1,<-hal.2.1]at q;exact q
        ·rw[hk1]
         exact HD3.o.rest (by omega) (fun i h1 h2=>HP4.o.2 i (Or.inr h1))
       case measure=>have:=HAE.o;simp[intOf];omega
      ·have hle':¬(e3:Int)<=(z:Int):=by omega
       by_cases hmz:m3<z
       ·have hmz':(m3:Int)<(z:Int):=by omega
        have c1:Ch (clT T) a3 m3 (dF d3):=by
         have:=HD3.o.at0 hal.2.2.2.2 (by omega)
         rwa[Nat.min_eq_left (by omega),<-hal.2.2.1]at this
        have c2:Ch (clT T) m3 z (dF d3):=by
         have:=HD3.o.at1 hal.2.2.2.2 (by omega)
         rwa[Nat.min_eq_right (by omega),<-hal.2.2.1]at this
        have HC:=hideO (HMG.o n3 d3 os3 HS3.o a3 m3 z (by omega) hmz nl c1 c2);rw[<-hwr3,HS3.o]at HC;have HCC:Hid (Ch (clT T) a3 m3 (dF d3)/\Ch (clT T) m3 z (dF d3)):=⟨c1,c2⟩;clear hwr3 c1 c2 hal;(go_wp2_with fail);refine HC.o.mono ?_;rintro er w4 ⟨rfl,n4,d4,os4,hw4,hs4,hp4,hr4⟩
        have HW4:Hid (w4=sortWorldK (encT T) 2 w blk 0 (n3+n4) d4 (os3++os4)):=by
         unfold Hid;rw[hw4,HW3.o];exact HWW.o n3 n4 d3 d4 os3 os4 (hs4.trans HS3.o.symm)
        have HS4:=hideO hs4;have HP4:=hideO hp4;have HR4:=hideO hr4;clear hw4 hs4 hp4 hr4 HC;(go_wp2_with fail)
        go_roundw
        case rel =>
         have hal:=HAE.o;refine⟨b2,n3+n4,d4,os3++os4,rfl,by omega,by omega,HS4.o,?_,HP3.o.trans (HP4.o.mono (Nat.zero_le _) (by omega) nl),HW4.o⟩
         have:=HC3.o
         rw[hal.1]at this;refine this.last (by omega) (fun i hi=>HP4.o.2 i (Or.inl (by omega))) ?_;rw[<-hal.1];exact HCC.o.1.merge HCC.o.2 (by omega) (by omega) HP4.o HR4.o
        case measure=>have:=HAE.o;simp[intOf];omega
       ·have hmz':¬(m3:Int)<(z:Int):=by omega
        clear hwr3 hal;(go_wp2_with fail)
        go_roundw
        case rel =>
         have hal:=HAE.o;refine⟨b2,n3,d3,os3,rfl,by omega,by omega,HS3.o,?_,HP3.o,HW3.o⟩
         rcases Nat.eq_or_lt_of_le hkz3 with q|q
         ·rw[<-q]
          rw[q]
          have:=HC3.o
          rw[q]at this;exact this
         ·have:=HC3.o
          rw[hal.1]at this;refine this.last (by omega) (fun i hi=>rfl) ?_;rw[<-hal.1];have c1:=HD3.o.at0 hal.2.2.2.2 q
          rwa[Nat.min_eq_right (by omega)]at c1
        case measure=>have:=HAE.o;simp[intOf];omega
    ·have hlz':¬(bs:Int)<(z:Int):=by omega
     have HF:=hideO (HC2.o.whole (by omega));(go_wp2_with fail);refine bodyPost_end (v:=.tuple #[]) (by simp[results,results220,go_sem]) rfl ⟨rfl,n2,d2,⟨os2,HW2.o⟩,HS2.o,HP2.o,HF.o⟩
end So
namespace So
open Go.RowKit Go.Sort Go.Proofs Go.Shelf
attribute [local go_sem] Oper.semAt_some
theorem Tryz.infoU172:(prog.info? 172).map (fun i=>(i.zero,i.size,i.bytes))=some (some (.agg #[.int .i64 0,.string ⟨#[]⟩]),2,24):=by kernel_rfl
theorem sortStable_T (T:Nat->ByteArray) (blk cap:Nat) (d:Array Nat) (w:World) (hH:HoldsK (encT T) 2 w blk 0 d) (hblk:blk<w.heap.size) (hsz:d.size<=1048576) (hid:∀ i,i<d.size->dF d i=i) :
  Calls prog 193 #[.slice (some ⟨blk,0,none⟩) d.size cap,.func (.func 194) #[] #[]] w fun e w' =>
   e=.returned (.tuple #[])/\∃ n d' os,w'=sortWorldK (encT T) 2 w blk 0 n d' os/\d'.size=d.size/\PermF 0 d.size (dF d) (dF d')/\Ris (clT T) 0 d.size (dF d'):=by
 have HS:=hideO (stable_T T blk cap d w hH hblk hsz hid);clear hH hid;generalize d.size=z at HS hsz ⊢;go_enter func193,ntmps193
 go_wp2_with fail
 refine HS.o.mono ?_;rintro e w' ⟨rfl,n,d',os,hw,hs,hp,hr⟩;have HX:Hid (∃ n d' os,w'=sortWorldK (encT T) 2 w blk 0 n d' os/\d'.size=z/\PermF 0 z (dF d) (dF d')/\Ris (clT T) 0 z (dF d')):=⟨n,d',os,hw,hs,hp,hr⟩;clear hw hs hp hr
 go_wp2_with fail
 refine bodyPost_end (v:=.tuple #[]) (by simp[results,results193,go_sem]) rfl ⟨rfl,HX.o⟩
theorem world_type {enc:Nat->List Value} {k:Nat} {w:World} {blk off:Nat} {cur:Array Value} {t:TypeId} {fr:Nat × Nat} (h:w.heap[blk]? = some (.cells cur t fr)) (m:Nat) (d':Array Nat) (os:Array Obj):∃ cur',(sortWorldK enc k w blk off m d' os).heap[blk]? = some (.cells cur' t fr):=by
 have hlt:=(Array.getElem?_eq_some_iff.1 h).1;unfold sortWorldK;rw[heap_grow_old _ _ (by rw[size_putRowK];exact hlt)];unfold putRowK putRow mapBlock;simp only[Array.getElem?_modify,if_true];have h2:(Go.Sort.ahead w m).heap[blk]? = some (.cells cur t fr):=h;rw[h2];exact⟨_,rfl⟩
def flatT (T:Nat->ByteArray) (l:List Nat):List Value:=l.flatMap (encT T)
theorem flatT_snoc (T:Nat->ByteArray) (l:List Nat) (x:Nat):flatT T (l++[x])=flatT T l++[.int .i64 (x:Nat),.string (T x)]:=by simp[flatT,encT]
theorem flatT_get (T:Nat->ByteArray) (l:List Nat) (i c:Nat) (hi:i<l.length) (hc:c<2):(flatT T l)[i*2+c]? = some (encT T l[i])[c]!:=by
 induction l generalizing i with
 |nil=>simp at hi
 |cons x l ih =>
  cases i with
  |zero =>
   have:c=0∨c=1:=by omega
   rcases this with rfl|rfl<;>simp[flatT,encT]
  |succ i =>
   have:=ih i (by simpa using hi)
   rw[show flatT T (x :: l)=encT T x++flatT T l from rfl,List.getElem?_append_right (by rw[encT_len];omega),encT_len,show (i+1)*2+c-2=i*2+c by omega,this];rfl
theorem two_newT (W:World) (x y:Value) (t:TypeId):∀ (j:Nat) (u:Value),[x,y][j]? = some u->(W.alloc (.cells #[x,y] t)).cell? ((⟨W.heap.size,0,none⟩:Addr).add j)=some u:=by
 intro j u hj
 match j,hj with
 |0,hj=>simp at hj;subst hj;simp[Addr.add]
 |1,hj=>simp at hj;subst hj;simp[Addr.add]
theorem holds_of_own {T:Nat->ByteArray} {w:World} {base g n cap:Nat} {l:List Nat} {e:TypeId} (h:w.ownsRow base e 2 (.slice (some ⟨g,0,none⟩) n cap) l.length (flatT T l)):HoldsK (encT T) 2 w g 0 l.toArray:=by
 obtain⟨_,h⟩:=h
 rcases h with⟨h,_⟩|⟨g',cap',cur,hv,_,hb,_,_,_,htk⟩
 ·cases h
 ·have hg:g=g':=by simp at hv;exact hv.1
  subst hg;intro j hj;rw[size_flatK]at hj
  have hj':j<l.length*2:=by simpa using hj
  rw[get_flatK _ _ _ _ hj,Nat.zero_add]
  have hi:j/2<l.length:=by omega
  refine⟨?_,frozen_of_row w g j _ e hb⟩;rw[cell_of_row w g j _ e (0,0) hb,<-Array.getElem?_toList]
  have h1:cur.toList[j]? = (cur.toList.take (l.length*2))[j]?:=by rw[List.getElem?_take_of_lt hj']
  rw[h1,htk];have h2:=flatT_get T l (j/2) (j%2) hi (by omega);rw[show j/2*2+j%2=j by omega]at h2;rw[h2]
  have h3:l.toArray[j/2]! = l[j/2]:=by simp[hi]
  rw[h3];rfl
theorem sorted_T (t:ByteArray) (ht:t.size<=1048576) (w:World) :
  Calls prog 156 #[.string t] w fun e w'=>∃ g cap d,e=.returned (.slice (some ⟨g,0,none⟩) t.size cap)/\w.heap.size<=g/\g<w'.heap.size/\HoldsK (encT (turnV t)) 2 w' g 0 d/\d.size=t.size/\(seg (dF d) 0 t.size).Perm (List.range t.size)/\Ris (clT (turnV t)) 0 t.size (dF d)/\(∃ cur,w'.heap[g]? = some (.cells cur 172 (0,0)))/\Below w.heap.size w w':=by
 obtain⟨i0,hi,hz0,hz1,hz2⟩:=info_parts Tryz.infoU172;refine(callsIn_wide (n:=3)).1 ?_;refine callsIn_of_wp_marks func156 rfl trivial ?_ rfl;simp only[ntmps156,List.size_toArray,List.length_cons,List.length_nil,Nat.reduceAdd,Nat.reduceSub,Array.replicate_succ,Array.replicate_zero,List.push_toArray,List.append_toArray,List.nil_append,List.cons_append]
 gi_wp2_with (first|(gi_at_make;refine wpListIn_make_own _ rfl _ _ 169 rfl w.heap.size 172 i0 _ 2 underlying169 hi hz0 hz1 .i64 .i64 _ t.size rfl rfl (by simp) (by rw[hz2];omega) (by unfold maxLen;omega) nl ?_;intro w1 hown1 hgrow1)|(gi_at_call 192;refine(turnsOf_in Fence.wide _ trivial rfl _ _).mono ?_;rintro e w' ⟨rfl,rfl⟩))
 refine⟨trivial,(turnsOf_in Fence.wide 2 trivial rfl _ _).mono ?_⟩;rintro e w' ⟨rfl,rfl⟩;have z1:=hgrow1.size;have hb1:Below w.heap.size w w1:=(Below.refl _ _).grown hgrow1 nl (by simp);have zg:w.heap.size<w1.heap.size:=(hown1.lt w.heap.size rfl).2;obtain⟨B0,hB0⟩:∃ B0,B0=w1.heap.size:=⟨_,rfl⟩;have bV:=Boxed.new w1 169 (.slice (some ⟨w.heap.size,0,none⟩) 0 t.size);have bS:=Boxed.new (w1.alloc (.cells #[.slice (some ⟨w.heap.size,0,none⟩) 0 t.size] 169)) 9 (.string t);have bV2:=bV.alloc (.cells #[.string t] 9);have hr2:=(hown1.alloc (.cells #[.slice (some ⟨w.heap.size,0,none⟩) 0 t.size] 169)).alloc (.cells #[.string t] 9);have hb2:Below w.heap.size w ((w1.alloc (.cells #[.slice (some ⟨w.heap.size,0,none⟩) 0 t.size] 169)).alloc (.cells #[.string t] 9)):=(hb1.alloc (by omega) _).alloc (by simp;omega) _;rw[World.size_alloc]at bS;rw[<-hB0]at bV2 bS;rw[<-hB0]at zg
 have hsz:((w1.alloc (.cells #[.slice (some ⟨w.heap.size,0,none⟩) 0 t.size] 169)).alloc (.cells #[.string t] 9)).heap.size=B0+2:=by simp[hB0]
 gi_wp2
 rw[<-hB0];generalize (w1.alloc (.cells #[.slice (some ⟨w.heap.size,0,none⟩) 0 t.size] 169)).alloc (.cells #[.string t] 9)=W0 at bV2 bS hr2 hb2 hsz ⊢;clear bV hown1 hgrow1 hb1 hB0 z1
 refine wpIn_rangeFunc_ownH rfl (by decide) (gf:=219) (lb:=#[.pointer (some ⟨B0+1,0,none⟩)]) rfl trivial (enters_of func219 (by kernel_rfl) rfl)
  (turns_stops 2 (B0+1) t ht W0 (by omega) bS.cell) (fun h1 h2=>h1.trans h2)
  (fun W l o o' hl h1 h2 h3=>(belowK_b (w:=W0) (n₀:=B0+2) (by omega) W l o o' hl h1 h2 h3).cell (p:=⟨B0+1,0,none⟩) (by simp)) (Below.refl _ _) (fun _=>rfl)
  (fun pre W=>((∃ v,Boxed W B0 169 v/\W.ownsRow w.heap.size 172 2 v pre.length (flatT (turnV t) pre)/\v≠.slice none 0 0)/\Boxed W (B0+1) 9 (.string t))/\Below w.heap.size w W)
  (fun _ _ _=>False)
  (OwnFrom.and (OwnFrom.and (Own.from (holdsRow_own w.heap.size B0 169 172 2 (fun pre=>pre.length) (fun pre=>flatT (turnV t) pre) (fun _ v=>v≠.slice none 0 0)) _) (Own.from (boxed_own _ _ _) _)) (ownFrom_below nl (by omega)))
  (fun _ _ _ _ _ hs _ _=>hs)
  ⟨⟨⟨_,bV2,hr2,by simp⟩,bS⟩,hb2⟩
  (fun x a' W=>∃ Bx,B0+1<Bx/\W.heap[Bx]? = some (.cells #[.int .i64 (x:Nat),.string (turnV t x)] 172 (0,0))/\a'={ tmps:=#[.string t,undef,.slice none 0 0,.pointer (some ⟨B0,0,none⟩),.pointer (some ⟨Bx,0,none⟩),.string t,.int .i64 t.size,.slice (some ⟨w.heap.size,0,none⟩) 0 t.size,.string t,.func (.func 219) #[] #[.pointer (some ⟨B0+1,0,none⟩)],.agg #[.int .i64 (x:Nat),.string (turnV t x)],undef,undef,undef,undef,undef,undef,undef],defers:=[] })
  (fun x a' _ X Y row hs hg hr=>by
   obtain⟨Bx,h1,h2,h3⟩:=hs;refine⟨Bx,h1,(hg.block Bx (Array.getElem?_eq_some_iff.1 h2).1 (fun e=>?_)).trans h2,h3⟩;obtain⟨o,ho,hc⟩:=(hr Bx e.symm).2;rw[h2]at ho
   cases ho
   cases hc)
  ?assign ?body ?done ?stop
 case assign =>
  rintro l pre x W K ⟨⟨⟨v,hv,hrow,hn⟩,hs⟩,hB⟩ hK
  gi_wp2
  exact hK _ _ ((KeepsOthers.alloc _ _).from _) ((hs.alloc _).cell.trans hs.cell.symm) ⟨⟨⟨v,hv.alloc _,hrow.alloc _,hn⟩,hs.alloc _⟩,hB.alloc hB.size _⟩ ⟨W.heap.size,hs.lt,World.alloc_heap_new W _,rfl⟩
 case body =>
  rintro l pre x a' W hl ⟨r,hr⟩ ⟨⟨⟨v,hv,hrow,hn⟩,hs⟩,hB⟩ ⟨Bx,hBx,hX,rfl⟩ hlt;have hc:=hv.cell
  have x0:W.cell? ⟨Bx,0,none⟩=some (.int .i64 (x:Nat)):=by rw[cell_of_row W Bx 0 _ _ (0,0) hX];rfl
  have x1:W.cell? ⟨Bx,1,none⟩=some (.string (turnV t x)):=by rw[cell_of_row W Bx 1 _ _ (0,0) hX];rfl
  have hzw:=hB.size
  gi_wp2_with (gi_at_builtin;refine wpListIn_append_own _ rfl _ _ 169 rfl w.heap.size 172 i0 _ 2 24 underlying169 hi hz0 hz1 hz2 rfl (by decide) _ _ _ rfl (hrow.alloc _) ⟨W.heap.size,0,none⟩ 1 1 [.int .i64 (x:Nat),.string (turnV t x)] rfl rfl (two_newT _ _ _ _) (by intro u hu;simp at hu;rcases hu with rfl|rfl<;>rfl) (by unfold maxLen;omega) (by omega) (by simp;omega) ?_;intro v' w1 hown' hgrow _;obtain⟨g',cap',rfl⟩:=ownsRow_succ hown';obtain⟨hv1,hv2,hr2,hk2,hb2⟩:=hv.appended (by decide) hrow hB.size (by omega) hown' hgrow;have hc1:=hv1.cell;have hf1:=hv1.frozen;have hs1:=(hs.alloc _).kept hgrow (hs.not_row (by decide) hrow))
  have hs2:=(hs1.kept (grownBy_setCell' w1 B0 _) (by simp):Boxed (w1.setCell ⟨B0,0,none⟩ (.slice (some ⟨g',0,none⟩) (pre.length+1) cap')) (B0+1) 9 (.string t));exact⟨hk2.from _,hs2.cell.trans hs.cell.symm,⟨⟨_,hv2,by rw[flatT_snoc,List.length_append];exact hr2,by simp⟩,hs2⟩,hB.trans hb2⟩
 case done =>
  rintro D ys W hD rfl ⟨⟨⟨v,hv,hrow,hn⟩,hs⟩,hB⟩ hK;have hrow':=hrow;obtain⟨_,hrr⟩:=hrow'
  rcases hrr with⟨rfl,_⟩|⟨g,cap,cur,rfl,hg,hgb,_⟩
  ·exact absurd rfl hn
  ·have hgl:g<W.heap.size:=(Array.getElem?_eq_some_iff.1 hgb).1
   have hH:=holds_of_own hrow
   have hds:(List.range t.size).toArray.size=t.size:=by simp
   have hid:∀ i,i<(List.range t.size).toArray.size->dF (List.range t.size).toArray i=i:=fun i hi=>by
    have:i<t.size:=by simpa using hi
    simp[dF,this]
   have HS:=hideO (sortStable_T (turnV t) g cap (List.range t.size).toArray W hH hgl (by rw[hds];exact ht) hid);rw[hds]at HS
   have hg0:g≠B0:=fun e=>by
    have h1:W.heap[B0]? = _:=hv;rw[<-e,hgb]at h1;simp at h1
   have hgD:g≠D:=fun e=>by
    rw[<-e,hgb]at hK
    cases hK
   have hc:=hv.cell;rw[List.length_range]at hc hv;have HV:=hideO hv;have HB:=hideO hB;have HK:=hideO hK;have HHd:=hideO hH;have hB0W:=hv.lt;have hDW:D<W.heap.size:=(Array.getElem?_eq_some_iff.1 hK).1
   have HPI:Hid (seg (dF (List.range t.size).toArray) 0 t.size=List.range t.size):=by
    unfold Hid;rw[seg_congr (f:=dF (List.range t.size).toArray) (g:=fun i=>i) fun i _ h=>hid i (by rw[hds];exact h)];unfold seg;rw[Nat.sub_zero,List.map_id',List.range_eq_range']
   have HTY:=hideO hgb;clear hrow hn hs hv hB hK hH hid hgb
   gi_wp2
   refine⟨trivial,(callsIn_wide.2 HS.o).mono ?_⟩;rintro e w' ⟨rfl,n,d',os,hw',hs',hp',hr'⟩
   have hbV:w'.heap[B0]? = W.heap[B0]?:=by rw[hw'];exact world_block n d' os hB0W (fun h=>hg0 h.symm)
   have hc2:w'.cell? ⟨B0,0,none⟩=some (.slice (some ⟨g,0,none⟩) t.size cap):=by
    have:Boxed w' B0 169 (.slice (some ⟨g,0,none⟩) t.size cap):=hbV.trans HV.o
    exact this.cell
   have hK2:w'.heap[D]? = some (.deferred (some [])):=by rw[hw',world_block n d' os hDW (fun h=>hgD h.symm)];exact HK.o
   have HH2:Hid (HoldsK (encT (turnV t)) 2 w' g 0 d'):=by
    unfold Hid;rw[hw'];exact world_holds HHd.o hgl n d' os (by rw[hs',hds])
   have HB2:Hid (Below w.heap.size w w'):=by
    unfold Hid;rw[hw'];exact HB.o.trans (world_below n d' os hg (by omega))
   have hgw:g<w'.heap.size:=by rw[hw'];exact Nat.lt_of_lt_of_le hgl (world_size n d' os)
   have HP2:Hid ((seg (dF d') 0 t.size).Perm (List.range t.size)):=by
    have:=hp'.1
    rw[HPI.o]at this;exact this
   have HTY2:Hid (∃ cur',w'.heap[g]? = some (.cells cur' 172 (0,0))):=by
    unfold Hid;rw[hw'];exact world_type HTY.o n d' os
   have HR2:=hideO hr';have HS2:=hideO hs';clear hw' hs' hp' hr' hbV
   gi_wp2
   refine⟨by simp,.inl ⟨_,_,rfl,run_takeDeferred hK2,?_⟩⟩;refine⟨_,results_tmp rfl _ _ _,g,cap,d',rfl,hg,?_,?_,HS2.o,HP2.o,HR2.o,?_,?_⟩
   ·simpa [World.putObj] using hgw
   ·exact holds_block HH2.o (World.putObj_heap_other hgD)
   ·rw[World.putObj_heap_other hgD]
    exact HTY2.o
   ·exact HB2.o.trans (belowK_b (w:=w) nl w' D _ _ (by omega) hK2 rfl rfl)
 case stop =>
  rintro D c pre W _ _ h _;exact h.elim
end So
namespace So
open Go.RowKit Go.Sort Go.Proofs
open In (OwnI one_newI one_cellI)
open In.Tryz (infoI2)
end So
end Go.Proofs.YtaejgfdkfcmjeaaGreatDoor
