import Derived.Test.YtbdcffjcogglbaaGreatDoorOz24
import Derived.Test.YtbdcffjcogglbaaGreatDoorOz36
set_option maxRecDepth 100000
set_option maxHeartbeats 8000000
namespace Go.Proofs.YtbdcffjcogglbaaGreatDoor
open Go.RowKit
open Go.Proofs.Tryz
namespace Kp
open Gn (rd rt handle_below)
open St (OwnS)
open Ls (HH hh_keep num_all text_all cells3 set3_all set_j3)
theorem KeepsS.set3 {W:World} {g:Nat} {x y z:Value} {T:TypeId} (hg:W.heap[g]? = some (.cells #[x,y,z] T (0,0))) (hT:T≠9) (a b c:Value):KeepsS W (((W.setCell ⟨g,0,none⟩ a).setCell ⟨g,1,none⟩ b).setCell ⟨g,2,none⟩ c) :=
 ((KeepsS.set hg hT 0 a).trans (KeepsS.set (set_j3 hg a).1 hT 1 b)).trans (KeepsS.set (set_j3 (set_j3 hg a).1 b).2.1 hT 2 c)
theorem inner_no {s:ByteArray} (h:¬innerOk s):innerR s=none:=if_neg h
theorem inner_path {s:ByteArray} (h:innerOk s) (hp:pathR s (rd s (rt s (rd s 0).2.1).2.1).1.toNat (rd s (rt s (rd s 0).2.1).2.1).2.1 []=none):innerR s=none:=by
 unfold innerR;rw[if_pos h,hp]
theorem inner_yes {s:ByteArray} {q:List ByteArray × Nat} (h:innerOk s) (hp:pathR s (rd s (rt s (rd s 0).2.1).2.1).1.toNat (rd s (rt s (rd s 0).2.1).2.1).2.1 []=some q):innerR s=if q.2=s.size then some ((rd s 0).1,(rt s (rd s 0).2.1).1,q.1) else none:=by
 unfold innerR;rw[if_pos h,hp]
theorem readInner_any (s:ByteArray) (w:World) (hs:s.size<=1048576) (hh:HH w) :
  Calls prog 73 #[.string s] w fun r w' =>
   ((∃ x v,innerR s=some x/\r=.returned (.tuple #[.agg #[.int .i64 x.1,.string x.2.1,v],.bool true])/\PathIn w' v x.2.2) ∨
   (innerR s=none/\r=.returned (.tuple #[.agg #[.int .i64 0,.string ⟨#[]⟩,.slice none 0 0],.bool false])))/\Below w.heap.size w w':=by
 have HHW:Hid (∀ W,Below w.heap.size w W->HH W):=fun W h=>hh_keep hh h
 have hs2:s.size<=maxLen:=by unfold maxLen;omega
 have H1:=hideK (fun W h=>Gn.get_impl s 0 W hs2 h);have H2:=hideK (fun W h=>Gn.text_impl s (rd s 0).2.1 W hs2 h);have H3:=hideK (fun W h=>Gn.get_impl s (rt s (rd s 0).2.1).2.1 W hs2 h);have HP:=hideK (fun n W hn=>readPath_any s (rd s (rt s (rd s 0).2.1).2.1).2.1 n W hs2 hn);rw[num_all]at H1 H3;rw[text_all]at H2;have HNO:=hideK (inner_no (s:=s));have HPA:=hideK (inner_path (s:=s));have HYE:=hideK (fun q=>inner_yes (s:=s) (q:=q))
 change Hid (∀ W,HH W->_) at H1 H2 H3
 unfold innerOk at HNO HPA HYE;generalize innerR s=R at HNO HPA HYE ⊢;generalize rd s (rt s (rd s 0).2.1).2.1=x3 at H3 HP HNO HPA HYE;generalize rt s (rd s 0).2.1=x2 at H2 H3 HNO HPA HYE;generalize rd s 0=x1 at H1 H2 HNO HPA HYE;obtain⟨i,p1,c1⟩:=x1;obtain⟨t,p2,c2⟩:=x2;obtain⟨n,p3,c3⟩:=x3;dsimp only at H1 H2 H3 HP HNO HPA HYE;clear hh;go_enter func73,ntmps73
 go_wp2_with fail
 have C0:=hideK ((Cx.nil w).new (.cells #[.int .i64 0,.string ⟨#[]⟩,.slice none 0 0] 58));generalize w.alloc (.cells #[.int .i64 0,.string ⟨#[]⟩,.slice none 0 0] 58)=W0 at C0 ⊢;refine(H1.o _ (HHW.o _ C0.o.low)).mono ?_;rintro e v1 ⟨rfl,hb⟩;have C1:=hideK ((C0.o.call hb).new (.cells #[.int .i64 i,.int .i64 p1,.int .i64 c1] 123));clear hb C0
 go_wp2_with fail
 generalize v1.alloc (.cells #[.int .i64 i,.int .i64 p1,.int .i64 c1] 123)=W1 at C1 ⊢;refine(H2.o _ (HHW.o _ C1.o.low)).mono ?_;rintro e v2 ⟨rfl,hb⟩;have C2:=hideK ((C1.o.call hb).new (.cells #[.string t,.int .i64 p2,.int .i64 c2] 91));clear hb C1
 go_wp2_with fail
 generalize v2.alloc (.cells #[.string t,.int .i64 p2,.int .i64 c2] 91)=W2 at C2 ⊢;refine(H3.o _ (HHW.o _ C2.o.low)).mono ?_;rintro e v3 ⟨rfl,hb⟩;have C3:=hideK ((C2.o.call hb).new (.cells #[.int .i64 n,.int .i64 p3,.int .i64 c3] 123));clear hb C2
 go_upto_region 4 with fail
 generalize v3.alloc (.cells #[.int .i64 n,.int .i64 p3,.int .i64 c3] 123)=W3 at C3 ⊢;obtain⟨a0,a1,a2⟩:=cells3 (C3.o.get 2 rfl);obtain⟨b0,b1,b2⟩:=cells3 (C3.o.get 1 rfl);obtain⟨d0,d1,d2⟩:=cells3 (C3.o.get 0 rfl);obtain⟨q0,q1,q2⟩:=cells3 (C3.o.get 3 rfl);have ff:=fun o=>frozen_of_row W3 w.heap.size o _ _ (C3.o.get 3 rfl);have s3:=set3_all (C3.o.get 3 rfl) (.int .i64 0) (.string ⟨#[]⟩) (.slice none 0 0);have E3:=hideK (set3_low C3.o.low nl (.int .i64 0) (.string ⟨#[]⟩) (.slice none 0 0));generalize v1.heap.size=g1 at C3 a0 a1 a2 ⊢;generalize v2.heap.size=g2 at C3 b0 b1 b2 ⊢;generalize v3.heap.size=g3 at C3 d0 d1 d2 ⊢;by_cases h1:c1=0
 ·have h1':(c1 != 0)=false:=by simp;exact h1
  by_cases h2:c2=0
  ·have h2':(c2 != 0)=false:=by simp;exact h2
   by_cases h3:c3=0
   ·have h3':(c3 != 0)=false:=by simp;exact h3
    have K:=hideK (And.intro h1 (And.intro h2 h3));clear h1 h2 h3;by_cases h4:n<0
    ·have HX:=hideK (HNO.o (fun h=>by omega))
     (go_wp2_with fail);refine bodyPost_ret (v:=.tuple #[.agg #[.int .i64 0,.string ⟨#[]⟩,.slice none 0 0],.bool false]) (by simp[results,results73,go_sem,s3.1,s3.2.1,s3.2.2]) rfl ⟨.inr ⟨HX.o,rfl⟩,E3.o⟩
    ·by_cases h5:(20:Int)<n
     ·have HX:=hideK (HNO.o (fun h=>by omega))
      (go_wp2_with fail);refine bodyPost_ret (v:=.tuple #[.agg #[.int .i64 0,.string ⟨#[]⟩,.slice none 0 0],.bool false]) (by simp[results,results73,go_sem,s3.1,s3.2.1,s3.2.2]) rfl ⟨.inr ⟨HX.o,rfl⟩,E3.o⟩
     ·have HOK:=hideK (And.intro K.o.1 (And.intro K.o.2.1 (And.intro K.o.2.2 (And.intro (show 0<=n by omega) (show n<=20 by omega)))))
      obtain⟨k,rfl⟩:=Int.eq_ofNat_of_zero_le (show 0<=n by omega);have HPK:=hideK (fun W=>HP.o k W (by omega));have HPA1:=hideK (HPA.o HOK.o);have HYE1:=hideK (fun q=>HYE.o q HOK.o);simp only[Int.toNat_natCast]at HPA1 HYE1;generalize pathR s k p3 []=Q at HPK HPA1 HYE1;clear HNO HPA HYE HP HOK K E3 s3 h4;(go_wp2_with fail);refine(HPK.o _).mono ?_;rintro e v4 ⟨⟨q,v,hq,rfl,ho⟩|⟨hq,c,rfl⟩,hb⟩
      ·obtain⟨ap,cp,rfl,_,_⟩:=ho.strs
       have O:=hideK ho;have C4:=hideK (C3.o.call hb);have HY:=hideK (HYE1.o q hq);obtain⟨a0,a1,a2⟩:=cells3 (C4.o.get 2 rfl);obtain⟨b0,b1,b2⟩:=cells3 (C4.o.get 1 rfl);obtain⟨q0,q1,q2⟩:=cells3 (C4.o.get 3 rfl);have ff:=fun o=>frozen_of_row v4 w.heap.size o _ _ (C4.o.get 3 rfl);clear ho hb C3 HYE1 HPA1 hq;by_cases he:q.2=s.size
       ·have he':((q.2:Int) != (s.size:Int))=false:=by simp;omega
        rw[if_pos he]at HY;have s3:=set3_all (C4.o.get 3 rfl) (.int .i64 i) (.string t) (.slice ap q.1.length cp);have E3:=hideK (set3_low C4.o.low nl (.int .i64 i) (.string t) (.slice ap q.1.length cp));have O3:Hid (PathIn (((v4.setCell ⟨w.heap.size,0,none⟩ (.int .i64 i)).setCell ⟨w.heap.size,1,none⟩ (.string t)).setCell ⟨w.heap.size,2,none⟩ (.slice ap q.1.length cp)) (.slice ap q.1.length cp) q.1):=(pathIn_own O.o).keeps (KeepsS.set3 (C4.o.get 3 rfl) (by decide) _ _ _);(go_wp2_with fail);refine bodyPost_ret (v:=.tuple #[.agg #[.int .i64 i,.string t,.slice ap q.1.length cp],.bool true]) (by simp[results,results73,go_sem,s3.1,s3.2.1,s3.2.2]) rfl ⟨.inl ⟨(i,t,q.1),_,HY.o,rfl,O3.o⟩,E3.o⟩
       ·have he':((q.2:Int) != (s.size:Int))=true:=by simp;omega
        rw[if_neg he]at HY;have s3:=set3_all (C4.o.get 3 rfl) (.int .i64 0) (.string ⟨#[]⟩) (.slice none 0 0);have E3:=hideK (set3_low C4.o.low nl (.int .i64 0) (.string ⟨#[]⟩) (.slice none 0 0));(go_wp2_with fail);refine bodyPost_ret (v:=.tuple #[.agg #[.int .i64 0,.string ⟨#[]⟩,.slice none 0 0],.bool false]) (by simp[results,results73,go_sem,s3.1,s3.2.1,s3.2.2]) rfl ⟨.inr ⟨HY.o,rfl⟩,E3.o⟩
      ·have C4:=hideK (C3.o.call hb)
       have HX:=hideK (HPA1.o hq);obtain⟨q0,q1,q2⟩:=cells3 (C4.o.get 3 rfl);have ff:=fun o=>frozen_of_row v4 w.heap.size o _ _ (C4.o.get 3 rfl);have s3:=set3_all (C4.o.get 3 rfl) (.int .i64 0) (.string ⟨#[]⟩) (.slice none 0 0);have E3:=hideK (set3_low C4.o.low nl (.int .i64 0) (.string ⟨#[]⟩) (.slice none 0 0));clear hb C3 HYE1 HPA1 hq;(go_wp2_with fail);refine bodyPost_ret (v:=.tuple #[.agg #[.int .i64 0,.string ⟨#[]⟩,.slice none 0 0],.bool false]) (by simp[results,results73,go_sem,s3.1,s3.2.1,s3.2.2]) rfl ⟨.inr ⟨HX.o,rfl⟩,E3.o⟩
   ·have h3':(c3 != 0)=true:=by simp;exact h3
    have HX:=hideK (HNO.o (fun h=>h3 h.2.2.1));(go_wp2_with fail);refine bodyPost_ret (v:=.tuple #[.agg #[.int .i64 0,.string ⟨#[]⟩,.slice none 0 0],.bool false]) (by simp[results,results73,go_sem,s3.1,s3.2.1,s3.2.2]) rfl ⟨.inr ⟨HX.o,rfl⟩,E3.o⟩
  ·have h2':(c2 != 0)=true:=by simp;exact h2
   have HX:=hideK (HNO.o (fun h=>h2 h.2.1))
   go_wp2_with fail
   refine bodyPost_ret (v:=.tuple #[.agg #[.int .i64 0,.string ⟨#[]⟩,.slice none 0 0],.bool false]) (by simp[results,results73,go_sem,s3.1,s3.2.1,s3.2.2]) rfl ⟨.inr ⟨HX.o,rfl⟩,E3.o⟩
 ·have h1':(c1 != 0)=true:=by simp;exact h1
  have HX:=hideK (HNO.o (fun h=>h1 h.1))
  go_wp2_with fail
  refine bodyPost_ret (v:=.tuple #[.agg #[.int .i64 0,.string ⟨#[]⟩,.slice none 0 0],.bool false]) (by simp[results,results73,go_sem,s3.1,s3.2.1,s3.2.2]) rfl ⟨.inr ⟨HX.o,rfl⟩,E3.o⟩
end Kp
namespace Kp
open Gn (rd rt)
open Ls (HH hh_keep num_all text_all cells3 set3_all set_j3)
theorem rec_no {s:ByteArray} {e:Nat} (h:¬((rt s e).2.2=0/\usC (rt s e).1=0)):recR s e=none:=if_neg h
theorem rec_yes {s:ByteArray} {e:Nat} (h:(rt s e).2.2=0/\usC (rt s e).1=0):recR s e=(innerR (usT (rt s e).1)).map (fun r=>(r,(rt s e).2.1)):=if_pos h
theorem usT_size (s:ByteArray) (h:s.size<=8000):(usT s).size<=8000:=by
 unfold usT
 split
 ·exact Nat.zero_le _
 ·split
  ·exact Nat.zero_le _
  ·split
   ·rw[ByteArray.size_extract];omega
   ·exact Nat.zero_le _
theorem rt_size8 (s:ByteArray) (a:Int):(rt s a).1.size<=8000:=by
 by_cases h:(rt s a).2.2=0
 ·exact(rt_more s a h).2.2.2
 ·rw[(Gn.rt_codes s a h).1]
  exact Nat.zero_le _
theorem pathIn_drew {W:World} {v:Value} {p:List ByteArray} (h:PathIn W v p):PathIn W.drew v p:=h.keeps (fun _ _ e=>e)
def RecOut (R:Option (Rec × Nat)) (r:Ending) (w':World):Prop :=
 (∃ x v,R=some x/\r=.returned (.tuple #[.agg #[.int .i64 x.1.1,.string x.1.2.1,v],.int .i64 x.2,.bool true])/\PathIn w' v x.1.2.2) ∨
 (R=none/\∃ n:Int,r=.returned (.tuple #[.agg #[.int .i64 0,.string ⟨#[]⟩,.slice none 0 0],.int .i64 n,.bool false]))
theorem readRecord_any (s:ByteArray) (e:Nat) (w:World) (hs:s.size<=1048576) (hh:HH w) :
  Calls prog 45 #[.string s,.int .i64 e] w fun r w' =>
   RecOut (recR s e) r w'/\Below w.heap.size w w':=by
 have HHW:Hid (∀ W,Below w.heap.size w W->HH W):=fun W h=>hh_keep hh h
 have hs2:s.size<=maxLen:=by unfold maxLen;omega
 have H1:=hideK (fun W h=>Gn.text_impl s e W hs2 h);have H2:=hideK (fun W=>Se.unseal_impl (rt s e).1 W (by have:=rt_size8 s e;unfold maxLen;omega));have H3:=hideK (fun W h=>readInner_any (usT (rt s e).1) W (by have:=usT_size _ (rt_size8 s e);omega) h);rw[text_all]at H1;simp only[unseal_all]at H2;have HNO:=hideK (rec_no (s:=s) (e:=e));have HYE:=hideK (rec_yes (s:=s) (e:=e))
 change Hid (∀ W,HH W->_) at H1 H3
 generalize recR s e=R at HNO HYE ⊢;generalize rt s e=x1 at H1 H2 H3 HNO HYE;obtain⟨t,p1,c1⟩:=x1;dsimp only at H1 H2 H3 HNO HYE;generalize usC t=c2 at H2 HNO HYE;generalize usT t=u at H2 H3 HYE;generalize innerR u=I at H3 HYE;clear hh;go_enter func45,ntmps45
 go_wp2_with fail
 have C0:=hideK ((Cx.nil w).new (.cells #[.int .i64 0,.string ⟨#[]⟩,.slice none 0 0] 58));generalize w.alloc (.cells #[.int .i64 0,.string ⟨#[]⟩,.slice none 0 0] 58)=W0 at C0 ⊢;refine(H1.o _ (HHW.o _ C0.o.low)).mono ?_;rintro e v1 ⟨rfl,hb⟩;have C1:=hideK ((C0.o.call hb).new (.cells #[.string t,.int .i64 p1,.int .i64 c1] 91));clear hb C0
 go_wp2_with fail
 generalize v1.alloc (.cells #[.string t,.int .i64 p1,.int .i64 c1] 91)=W1 at C1 ⊢;refine(H2.o _).mono ?_;rintro e v2 ⟨rfl,hb⟩;have C2:=hideK ((C1.o.call hb).new (.cells #[.string u,.int .i64 0,.int .i64 c2] 91));clear hb C1
 go_upto_region 3 with fail
 generalize v2.alloc (.cells #[.string u,.int .i64 0,.int .i64 c2] 91)=W2 at C2 ⊢;obtain⟨a0,a1,a2⟩:=cells3 (C2.o.get 1 rfl);obtain⟨b0,b1,b2⟩:=cells3 (C2.o.get 0 rfl);obtain⟨q0,q1,q2⟩:=cells3 (C2.o.get 2 rfl);have ff:=fun o=>frozen_of_row W2 w.heap.size o _ _ (C2.o.get 2 rfl);have s3:=set3_all (C2.o.get 2 rfl) (.int .i64 0) (.string ⟨#[]⟩) (.slice none 0 0);have E3:=hideK (set3_low C2.o.low nl (.int .i64 0) (.string ⟨#[]⟩) (.slice none 0 0));generalize v1.heap.size=g1 at C2 a0 a1 a2 ⊢;generalize v2.heap.size=g2 at C2 b0 b1 b2 ⊢;by_cases h1:c1=0
 ·have h1':(c1 != 0)=false:=by simp;exact h1
  by_cases h2:c2=0
  ·have h2':(c2 != 0)=false:=by simp;exact h2
   have HY:=hideK (HYE.o ⟨h1,h2⟩);clear h1 h2 HNO HYE E3 s3
   go_wp2_with fail
   refine(H3.o _ (HHW.o _ C2.o.low)).mono ?_;rintro e v3 ⟨⟨x,v,hx,rfl,ho⟩|⟨hx,rfl⟩,hb⟩
   ·obtain⟨ap,cp,rfl,_,_⟩:=ho.strs
    have C3:=hideK ((C2.o.call hb).new (.cells #[.int .i64 x.1,.string x.2.1,.slice ap x.2.2.length cp] 58));have O3:=hideK (ho.keeps (KeepsS.below ((Below.refl _ v3).alloc nl (.cells #[.int .i64 x.1,.string x.2.1,.slice ap x.2.2.length cp] 58))));rw[hx]at HY;clear hb C2 ho hx;obtain⟨i,t2,p⟩:=x;dsimp only at C3 O3 HY ⊢
    go_upto_region 6 with fail
    generalize v3.alloc (.cells #[.int .i64 i,.string t2,.slice ap p.length cp] 58)=W3 at C3 O3 ⊢;obtain⟨d0,d1,d2⟩:=cells3 (C3.o.get 0 rfl);obtain⟨a0,a1,a2⟩:=cells3 (C3.o.get 2 rfl);obtain⟨q0,q1,q2⟩:=cells3 (C3.o.get 3 rfl);have ff:=fun o=>frozen_of_row W3 w.heap.size o _ _ (C3.o.get 3 rfl);have n1:=ty_ne (C3.o.get 3 rfl) (C3.o.get 2 rfl) (by decide);have n2:¬g1=w.heap.size:=fun h=>n1 h.symm;have s3:=set3_all (C3.o.get 3 rfl) (.int .i64 i) (.string t2) (.slice ap p.length cp);have E3:=hideK (set3_low C3.o.low nl (.int .i64 i) (.string t2) (.slice ap p.length cp)).drew;have O4:Hid (PathIn (((W3.setCell ⟨w.heap.size,0,none⟩ (.int .i64 i)).setCell ⟨w.heap.size,1,none⟩ (.string t2)).setCell ⟨w.heap.size,2,none⟩ (.slice ap p.length cp)).drew (.slice ap p.length cp) p):=pathIn_drew (PathIn.keeps O3.o (KeepsS.set3 (C3.o.get 3 rfl) (by decide) _ _ _))
    go_region
    all_goals (
     (go_wp2_with fail)
     exact bodyPost_ret (v:=.tuple #[.agg #[.int .i64 i,.string t2,.slice ap p.length cp],.int .i64 p1,.bool true]) (by simp[results,results45,go_sem,s3.1,s3.2.1,s3.2.2]) rfl ⟨.inl ⟨((i,t2,p),p1),_,HY.o,rfl,O4.o⟩,E3.o⟩)
   ·have C3:=hideK ((C2.o.call hb).new (.cells #[.int .i64 0,.string ⟨#[]⟩,.slice none 0 0] 58))
    rw[hx]at HY;clear hb C2 hx
    go_upto_region 6 with fail
    generalize v3.alloc (.cells #[.int .i64 0,.string ⟨#[]⟩,.slice none 0 0] 58)=W3 at C3 ⊢;obtain⟨d0,d1,d2⟩:=cells3 (C3.o.get 0 rfl);obtain⟨a0,a1,a2⟩:=cells3 (C3.o.get 2 rfl);obtain⟨q0,q1,q2⟩:=cells3 (C3.o.get 3 rfl);have ff:=fun o=>frozen_of_row W3 w.heap.size o _ _ (C3.o.get 3 rfl);have n1:=ty_ne (C3.o.get 3 rfl) (C3.o.get 2 rfl) (by decide);have n2:¬g1=w.heap.size:=fun h=>n1 h.symm;have s3:=set3_all (C3.o.get 3 rfl) (.int .i64 0) (.string ⟨#[]⟩) (.slice none 0 0);have E3:=hideK (set3_low C3.o.low nl (.int .i64 0) (.string ⟨#[]⟩) (.slice none 0 0)).drew
    go_region
    all_goals (
     (go_wp2_with fail)
     exact bodyPost_ret (v:=.tuple #[.agg #[.int .i64 0,.string ⟨#[]⟩,.slice none 0 0],.int .i64 p1,.bool false]) (by simp[results,results45,go_sem,s3.1,s3.2.1,s3.2.2]) rfl ⟨.inr ⟨HY.o,p1,rfl⟩,E3.o⟩)
  ·have h2':(c2 != 0)=true:=by simp;exact h2
   have HX:=hideK (HNO.o (fun h=>h2 h.2))
   go_wp2_with fail
   exact bodyPost_ret (v:=.tuple #[.agg #[.int .i64 0,.string ⟨#[]⟩,.slice none 0 0],.int .i64 0,.bool false]) (by simp[results,results45,go_sem,s3.1,s3.2.1,s3.2.2]) rfl ⟨.inr ⟨HX.o,0,rfl⟩,E3.o⟩
 ·have h1':(c1 != 0)=true:=by simp;exact h1
  have HX:=hideK (HNO.o (fun h=>h1 h.1))
  go_wp2_with fail
  exact bodyPost_ret (v:=.tuple #[.agg #[.int .i64 0,.string ⟨#[]⟩,.slice none 0 0],.int .i64 0,.bool false]) (by simp[results,results45,go_sem,s3.1,s3.2.1,s3.2.2]) rfl ⟨.inr ⟨HX.o,0,rfl⟩,E3.o⟩
end Kp
namespace Dr
open In (OwnI one_newI one_cellI)
open In.Tryz (infoI2)
structure Dn (w:World) (B:Nat) (a:Option Addr) (len cap:Nat) (W:World) (v:Value) (l:List Int) (n:Nat):Prop where
 own:OwnI W w.heap.size v l
 le:l.length<=n
 src:Src W B a len cap
 aft:Aft B w W
 hB:B<w.heap.size
end Dr
namespace Dr
open In (OwnI IsO Ints one_newI one_cellI)
open In.Tryz (infoI2)
open Hf (lensR)
def RowI (w:World) (B:Nat) (x:Option Addr) (l:List Int):Prop:=l=[]∨∃ b off,x=some ⟨b,off,none⟩/\b<w.heap.size/\b≠B/\∀ j (h:j<l.length),w.cell? ⟨b,off+j,none⟩=some (.int .i64 l[j])
end Dr
namespace Dr
open In (OwnI Ints)
open Ap (Own0 wpList_append_own0)
open Fr (Own0B own0_string one_newB one_cellB own0B_snoc)
open Nu (bv)
structure Db (w:World) (B:Nat) (a:Option Addr) (len cap:Nat) (W:World) (v:Value) (l:List UInt8) (n:Nat):Prop where
 own:Own0B W w.heap.size v l
 le:l.length<=n
 src:Src W B a len cap
 aft:Aft B w W
 hB:B<w.heap.size
end Dr
namespace Dr
open In (OwnI Ints)
open Bi (putR)
end Dr
namespace Dr
def v4 (a b c d:Int) (j:Nat):Int:=if j=0 then a else if j=1 then b else if j=2 then c else d
theorem pick4 (a b c d:Int) (j:Nat) (h:j < [Value.int .i64 a,.int .i64 b,.int .i64 c,.int .i64 d].length):[Value.int .i64 a,.int .i64 b,.int .i64 c,.int .i64 d][j]=.int .i64 (v4 a b c d j):=by
 obtain rfl|rfl|rfl|rfl:j=0∨j=1∨j=2∨j=3:=by simp at h;omega
 all_goals rfl
theorem src_alloc {W:World} {B:Nat} {a:Option Addr} {len cap:Nat} (h:Src W B a len cap) (o:Obj):Src (W.alloc o) B a len cap:=h.below ((Below.refl _ _).alloc nl o)
theorem only_cell {B:Nat} {W W':World} (h:Only B W W') (g j:Nat) (hg:g≠B):W'.cell? ⟨g,j,none⟩=W.cell? ⟨g,j,none⟩:=World.cell?_of_block (w:=W) (a:=⟨g,j,none⟩) (h.2.2.2.2 g hg)
end Dr
namespace Dr
open Sh (made_row strF strF_size)
theorem aft_alloc6 {B:Nat} {w W:World} (h:Aft B w W) (o:Obj):Aft B w (W.alloc o):=h.trans (aft_below ((Below.refl _ _).alloc nl o))
theorem aft_drew6 {B:Nat} {w W:World} (h:Aft B w W):Aft B w W.drew:=h.trans (aft_below (Below.refl _ _).drew)
theorem v4_le (j:Nat):0<=v4 0 1 48 49 j/\v4 0 1 48 49 j<=49:=by
 unfold v4
 split<;>(try split)<;>(try split)<;>omega
theorem file6_any (B:Nat) (a:Option Addr) (len cap:Nat) (w:World) (hl:len<=1048576) (hs:Src w B a len cap) :
  Calls prog 15 #[.pointer (some ⟨B,0,none⟩)] w fun e w'=>∃ (t:ByteArray) (z:Int),t.size<=1002/\0<=z/\z<=49/\e=.returned (.tuple #[.string t,.int .i64 z])/\Src w' B a len cap/\Aft B w w':=by
 obtain⟨i0,hi0,hz0,hz1,hz2⟩:=info_parts Tryz.infoD5;have HS:=hideD hs;clear hs;go_enter func15,ntmps15
 go_wp2_with fail
 refine(n_any B a len cap 6 _ hl (by omega) HS.o).mono ?_;rintro e w1 ⟨r,rfl,p0,p1,hs1,ho1⟩;obtain⟨k0,rfl⟩:=Int.eq_ofNat_of_zero_le p0
 have hk0:k0<=5:=by omega
 have HS1:=hideD hs1;have HA1:=hideD ho1.aft;clear hs1 ho1 p0 p1 HS
 go_wp2_with fail
 go_loopw [5,4] (fun kv tv wr=>∃ (k:Nat) (t:ByteArray),kv=.int .i64 k/\tv=.string t/\k<=5/\t.size+32*k<=160/\Src wr B a len cap/\Aft B w wr) (fun kv _ _=>(intOf kv).toNat)
 case atStart=>exact⟨k0,⟨#[]⟩,rfl,rfl,hk0,by show 0+32*k0<=160;omega,HS1.o,HA1.o⟩
 case round =>
  obtain⟨k,t,rfl,rfl,hk,ht,hs2,ha2⟩:=hrel;have HS2:=hideD hs2;have HA2:=hideD ha2;clear hs2 ha2 HS1 HA1;by_cases h0:0<k
  ·have h0i:0<(k:Int):=by omega
   go_wp2_with fail
   refine(text5_any B a len cap _ hl HS2.o).mono ?_;rintro e w3 ⟨s,hs,rfl,hs3,ha3⟩;have HS3:=hideD hs3;have HA3:=hideD (HA2.o.trans ha3)
   have n1:¬9223372036854775807<t.size+s.size:=by omega
   have hts:(t++s).size=t.size+s.size:=ByteArray.size_append;have HTS:=hideD hts;clear hs3 ha3 hts
   go_wp2_with fail
   go_roundw
   case rel=>exact⟨k-1,t++s,by go_num,rfl,by omega,by rw[HTS.o];omega,HS3.o,HA3.o⟩
   case measure=>simp[intOf];omega
  ·obtain rfl:k=0:=by omega
   have ht2:t.size<=1002:=by omega
   clear ht
   go_wp2_with fail
   refine(one_any B a len cap 20 _ hl (by omega) HS2.o).mono ?_;rintro e w3 ⟨r3,rfl,hs3,ho3⟩;have HS3:=hideD hs3;have HA3:=hideD (HA2.o.trans ho3.aft);clear hs3 ho3 HS2 HA2
   cases r3 with
   |true =>
    (go_wp2_with fail);refine(n_any B a len cap 3 _ hl (by omega) HS3.o).mono ?_;rintro e w4 ⟨r2,rfl,p0,p1,hs4,ho4⟩;obtain⟨m,rfl⟩:=Int.eq_ofNat_of_zero_le p0;obtain⟨n,hn⟩:∃ n:Nat,n=999+m:=⟨_,rfl⟩;have en:999+(m:Int)=(n:Int):=(by omega);have hn50:n<=1002:=(by omega);have HS4:=hideD hs4;have HA4:=hideD (HA3.o.trans ho4.aft);clear hs4 ho4 p0 p1 hn HS3 HA3
    go_wp2_with (at_make;refine wpList_make_full _ rfl (.tmp 20) (.tmp 20) 22 rfl w4.heap.size 5 i0 (.int .u8 0) 1 underlying22 hi0 hz0 hz1 .i64 .i64 _ _ n rfl rfl (by simp) (by simp) (by rw[hz2];omega) (by unfold maxLen;omega) nl ?_;intro w5 hown3 hgrow3;have hT3:=made_row hown3;have hb3:=(Below.refl w4.heap.size w4).grown hgrow3 nl (by simp);have hcv:=hT3.str (f:=fun _=>0) (P:=prog) (src:=22) (dst:=9) n n nl (fun j _=>by decide) underlying22 underlying5 underlying9;have HS5:=hideD (HS4.o.below hb3);have HA5:=hideD (HA4.o.trans (aft_below hb3));clear hown3 hgrow3 hT3 hb3)
    refine(one_any B a len cap 12 _ hl (by omega) HS5.o).mono ?_;rintro e w6 ⟨r6,rfl,hs6,ho6⟩;have HS6:=hideD hs6;have HA6:=hideD (HA5.o.trans ho6.aft);have hBl:=hs6.lt;have hBn:¬w6.heap.size=B:=(by omega);have hBm:¬B=w6.heap.size:=(by omega);clear hs6 ho6
    cases r6 with
    |true =>
     (go_wp2_with fail)
     go_region_with (first|(go_at_call 34;(with_reducible refine(n_any B a len cap 4 _ hl (by omega) ?_).mono ?_);(· repeat (first|exact HS6.o|refine src_alloc ?_ _|refine src_drew ?_));rintro e w7 ⟨r7,rfl,q0,q1,hs7,ho7⟩;obtain⟨j7,rfl⟩:=Int.eq_ofNat_of_zero_le q0;have hj7:j7<4:=(by omega);have hi7:(j7:Int)<4:=(by omega);have C7:=hideD hs7;have k7:=only_cell ho7;have z7:=ho7.2.2.2.1;have L7:=hideD ((show Aft B w _ from (by repeat (first|exact HA6.o|refine aft_alloc6 ?_ _|refine aft_drew6 ?_))).trans ho7.aft);clear hs7 ho7))
     all_goals (try go_wp2_with fail)
     all_goals (try simp only[pick4])
     all_goals go_ret2
     all_goals (have hv:=v4_le j7;exact⟨_,_,(by rw[strF_size];exact hn50),hv.1,hv.2,rfl,by repeat (first|exact C7.o|refine src_alloc ?_ _|refine src_drew ?_),by repeat (first|exact L7.o|refine aft_alloc6 ?_ _|refine aft_drew6 ?_)⟩)
    |false =>
     (go_wp2_with fail);refine(n_any B a len cap 24 _ hl (by omega) HS6.o).mono ?_;rintro e w7 ⟨r7,rfl,q0,q1,hs7,ho7⟩;have HS7:=hideD hs7;have HA7:=hideD (HA6.o.trans ho7.aft);have hwr:IntKind.i64.wrap (8+r7)=8+r7:=(by rw[IntKind.wrap_i64];omega);clear hs7 ho7;(go_wp2_with fail);go_ret2;exact⟨_,8+r7,(by rw[strF_size];exact hn50),by omega,by omega,rfl,HS7.o,HA7.o⟩
   |false =>
    (go_wp2_with fail);refine(one_any B a len cap 12 _ hl (by omega) HS3.o).mono ?_;rintro e w6 ⟨r6,rfl,hs6,ho6⟩;have HS6:=hideD hs6;have HA6:=hideD (HA3.o.trans ho6.aft);have hBl:=hs6.lt;have hBn:¬w6.heap.size=B:=(by omega);have hBm:¬B=w6.heap.size:=(by omega);clear hs6 ho6
    cases r6 with
    |true =>
     (go_wp2_with fail)
     go_region_with (first|(go_at_call 34;(with_reducible refine(n_any B a len cap 4 _ hl (by omega) ?_).mono ?_);(· repeat (first|exact HS6.o|refine src_alloc ?_ _|refine src_drew ?_));rintro e w7 ⟨r7,rfl,q0,q1,hs7,ho7⟩;obtain⟨j7,rfl⟩:=Int.eq_ofNat_of_zero_le q0;have hj7:j7<4:=(by omega);have hi7:(j7:Int)<4:=(by omega);have C7:=hideD hs7;have k7:=only_cell ho7;have z7:=ho7.2.2.2.1;have L7:=hideD ((show Aft B w _ from (by repeat (first|exact HA6.o|refine aft_alloc6 ?_ _|refine aft_drew6 ?_))).trans ho7.aft);clear hs7 ho7))
     all_goals (try go_wp2_with fail)
     all_goals (try simp only[pick4])
     all_goals go_ret2
     all_goals (have hv:=v4_le j7;exact⟨t,_,ht2,hv.1,hv.2,rfl,by repeat (first|exact C7.o|refine src_alloc ?_ _|refine src_drew ?_),by repeat (first|exact L7.o|refine aft_alloc6 ?_ _|refine aft_drew6 ?_)⟩)
    |false =>
     (go_wp2_with fail);refine(n_any B a len cap 24 _ hl (by omega) HS6.o).mono ?_;rintro e w7 ⟨r7,rfl,q0,q1,hs7,ho7⟩;have HS7:=hideD hs7;have HA7:=hideD (HA6.o.trans ho7.aft);have hwr:IntKind.i64.wrap (8+r7)=8+r7:=(by rw[IntKind.wrap_i64];omega);clear hs7 ho7;(go_wp2_with fail);go_ret2;exact⟨t,8+r7,ht2,by omega,by omega,rfl,HS7.o,HA7.o⟩
end Dr
end Go.Proofs.YtbdcffjcogglbaaGreatDoor
