/- Texts put together: KqRead. -/
import Derived.Test.YtpddanmnlkcdpaaGreatDoorHz27
import Derived.Test.YtpddanmnlkcdpaaGreatDoorHz37
set_option maxRecDepth 100000
set_option maxHeartbeats 8000000
namespace Go.Proofs.YtpddanmnlkcdpaaGreatDoor.Kp
open Go.RowKit
open Gn (rd rt)
open Bi (is_yes is_no)
open St (OwnS one_newS one_cellS)
open Ls (num_all text_all cells3 set3_all set_j3 blk_alloc)
theorem own_notS {W:World} {base g:Nat} {v:Value} {p:List ByteArray} {cs:Array Value} {T:TypeId} (h:OwnS W base v p) (hg:W.heap[g]? = some (.cells cs T (0,0))) (hT:T≠9):v.ownBlock≠some g:=fun e=>by
 obtain⟨_,h⟩:=h
 rcases h with⟨h,_⟩|⟨k,cap,cur,hv,_,hb,_⟩
 ·subst h
  simp[Value.ownBlock]at e
 ·subst hv
  simp[Value.ownBlock]at e
  subst e
  rw[hg]at hb
  simp at hb
  exact hT hb.2
theorem OwnS.setO {W:World} {base g:Nat} {v:Value} {p:List ByteArray} {cs:Array Value} {T:TypeId} (h:OwnS W base v p) (hg:W.heap[g]? = some (.cells cs T (0,0))) (hT:T≠9) (i:Nat) (u:Value):OwnS (W.setCell ⟨g,i,none⟩ u) base v p:=by
 obtain⟨hl,h⟩:=h
 refine⟨hl,?_⟩
 rcases h with h|⟨k,cap,cur,hv,hk,hb,rest⟩
 ·exact .inl h
 ·refine .inr ⟨k,cap,cur,hv,hk,?_,rest⟩
  rw[heap_setCell_other W _ k u (by exact ty_ne hb hg (fun e=>hT e.symm))]
  exact hb
def RecOutS (R:Option (Rec × Nat)) (r:Ending) (w':World):Prop :=
 (∃ x v,R=some x/\r=.returned (.tuple #[.agg #[.int .i64 x.1.1,.string x.1.2.1,v],.int .i64 x.2,.bool true])/\PathIn w' v x.1.2.2) ∨
 (R=none/\∃ (i:Int) (t:ByteArray) (a:Option Addr) (n c:Nat) (k:Int),r=.returned (.tuple #[.agg #[.int .i64 i,.string t,.slice a n c],.int .i64 k,.bool false]))
theorem rec_in {s:ByteArray} {e:Nat} (h:(rt s e).2.2=0/\usC (rt s e).1=0) (hi:innerR (usT (rt s e).1)=none):recR s e=none:=by
 rw[rec_yes h,hi]
 rfl
theorem rec_ok {s:ByteArray} {e:Nat} {x:Rec} (h:(rt s e).2.2=0/\usC (rt s e).1=0) (hi:innerR (usT (rt s e).1)=some x):recR s e=some (x,(rt s e).2.1):=by
 rw[rec_yes h,hi]
 rfl
theorem l08Read_any (s:ByteArray) (e:Nat) (w:World) (hs:s.size<=1048576) :
  Calls Tryz.prog 103 #[.string s,.int .i64 e] w fun r w'=>RecOutS (recR s e) r w'/\Below w.heap.size w w':=by
 obtain⟨i0,hif,hz0,hz1,hz2⟩:=info_parts St.Tryz.infoS9
 have hs2:s.size<=maxLen:=by unfold maxLen;omega
 have h8u:=usT_size _ (rt_size8 s e)
 have h8:=rt_size8 s e
 have H1:=hideK (fun W=>Gn.text_spec s e W hs2)
 have H2:=hideK (fun W=>Se.unseal_spec (rt s e).1 W (by unfold maxLen;omega))
 rw[text_all]at H1
 simp only[unseal_all]at H2
 have HNO:=hideK (rec_no (s:=s) (e:=e))
 have HIN:=hideK (rec_in (s:=s) (e:=e))
 have HOK:=hideK (fun x=>rec_ok (s:=s) (e:=e) (x:=x))
 generalize recR s e=R at HNO HIN HOK ⊢
 generalize rt s e=x1 at H1 H2 HNO HIN HOK h8u h8
 obtain⟨t,p1,c1⟩:=x1
 dsimp only at H1 H2 HNO HIN HOK h8u h8
 generalize usC t=c2 at H2 HNO HIN HOK
 generalize usT t=u at H2 HIN HOK h8u
 have hu2:u.size<=maxLen:=by unfold maxLen;omega
 have H3:=hideK (fun W=>Gn.get_spec u 0 W hu2)
 have H4:=hideK (fun W=>Gn.text_spec u (rd u 0).2.1 W hu2)
 have H5:=hideK (fun W=>Gn.get_spec u (rt u (rd u 0).2.1).2.1 W hu2)
 have H6:=hideK (fun (k:Nat) W=>Gn.text_spec u k W hu2)
 rw[num_all]at H3 H5
 rw[text_all]at H4
 simp only[text_all]at H6
 have INO:=hideK (inner_no (s:=u))
 have IPA:=hideK (inner_path (s:=u))
 have IYE:=hideK (fun q=>inner_yes (s:=u) (q:=q))
 unfold innerOk at INO IPA IYE
 generalize innerR u=I at HIN HOK INO IPA IYE
 have PY:=hideK (fun n k l h=>pathR_yes (s:=u) (n:=n) (e:=k) (l:=l) h)
 have PN:=hideK (fun n k l h=>pathR_no (s:=u) (n:=n) (e:=k) (l:=l) h)
 generalize rd u (rt u (rd u 0).2.1).2.1=y3 at H5 INO IPA IYE
 generalize rt u (rd u 0).2.1=y2 at H4 H5 INO IPA IYE
 generalize rd u 0=y1 at H3 H4 INO IPA IYE
 obtain⟨i,q1,d1⟩:=y1
 obtain⟨t2,q2,d2⟩:=y2
 obtain⟨n,q3,d3⟩:=y3
 dsimp only at H3 H4 H5 INO IPA IYE
 go_enter Tryz.func103,Tryz.ntmps103
 go_wp2_with fail
 have C0:=hideK ((Cx.nil w).new (.cells #[.int .i64 0,.string ⟨#[]⟩,.slice none 0 0] 139))
 generalize w.alloc (.cells #[.int .i64 0,.string ⟨#[]⟩,.slice none 0 0] 139)=W0 at C0 ⊢
 refine(H1.out _).mono ?_
 rintro e1 v1 ⟨rfl,hb⟩
 have C1:=hideK ((C0.out.call hb).new (.cells #[.string t,.int .i64 p1,.int .i64 c1] 179))
 clear hb C0
 go_wp2_with fail
 generalize v1.alloc (.cells #[.string t,.int .i64 p1,.int .i64 c1] 179)=W1 at C1 ⊢
 refine(H2.out _).mono ?_
 rintro e1 v2 ⟨rfl,hb⟩
 have C2:=hideK (((C1.out.call hb).new (.cells #[.string u,.int .i64 0,.int .i64 c2] 179)).new (.cells #[.int .i64 0,.string ⟨#[]⟩,.slice none 0 0] 139))
 simp only[World.size_alloc]at C2
 have hgx:w.heap.size<v2.heap.size+1:=by
  have h1:=lt_rowK (C1.out.get 1 rfl)
  have h2:=hb.size
  omega
 clear hb C1
 go_upto_region 4 with fail
 generalize (v2.alloc (.cells #[.string u,.int .i64 0,.int .i64 c2] 179)).alloc (.cells #[.int .i64 0,.string ⟨#[]⟩,.slice none 0 0] 139)=W2 at C2 ⊢
 generalize v1.heap.size=g7 at C2 ⊢
 generalize v2.heap.size=g8 at C2 hgx ⊢
 have HGX:=hideK hgx
 clear hgx
 obtain⟨a0,a1,a2⟩:=cells3 (C2.out.get 2 rfl)
 obtain⟨b0,b1,b2⟩:=cells3 (C2.out.get 1 rfl)
 by_cases h1:c1=0
 ·have h1':(c1 != 0)=false:=by simp;exact h1
  by_cases h2:c2=0
  ·have h2':(c2 != 0)=false:=by simp;exact h2
   have HIN1:=hideK (fun h=>HIN.out ⟨h1,h2⟩ h)
   have HOK1:=hideK (fun x h=>HOK.out x ⟨h1,h2⟩ h)
   clear h1 h2 HNO HIN HOK
   go_wp2_with fail
   refine(H3.out _).mono ?_
   rintro e1 v3 ⟨rfl,hb⟩
   have C3:=hideK ((C2.out.call hb).new (.cells #[.int .i64 i,.int .i64 q1,.int .i64 d1] 183))
   clear hb C2 a0 a1 a2 b0 b1 b2
   go_upto_region 7 with fail
   generalize v3.alloc (.cells #[.int .i64 i,.int .i64 q1,.int .i64 d1] 183)=W3 at C3 ⊢
   generalize v3.heap.size=g10 at C3 ⊢
   obtain⟨b0,b1,b2⟩:=cells3 (C3.out.get 2 rfl)
   obtain⟨n0,n1,n2⟩:=cells3 (C3.out.get 0 rfl)
   go_wp2_with fail
   refine(H4.out _).mono ?_
   rintro e1 v4 ⟨rfl,hb⟩
   have C4:=hideK ((C3.out.call hb).new (.cells #[.string t2,.int .i64 q2,.int .i64 d2] 179))
   clear hb C3 b0 b1 b2 n0 n1 n2
   go_upto_region 8 with fail
   generalize v4.alloc (.cells #[.string t2,.int .i64 q2,.int .i64 d2] 179)=W4 at C4 ⊢
   generalize v4.heap.size=g11 at C4 ⊢
   obtain⟨b0,b1,b2⟩:=cells3 (C4.out.get 3 rfl)
   obtain⟨n0,n1,n2⟩:=cells3 (C4.out.get 0 rfl)
   go_wp2_with fail
   refine(H5.out _).mono ?_
   rintro e1 v5 ⟨rfl,hb⟩
   have C5:=hideK ((C4.out.call hb).new (.cells #[.int .i64 n,.int .i64 q3,.int .i64 d3] 183))
   clear hb C4 b0 b1 b2 n0 n1 n2
   go_upto_region 9 with fail
   generalize v5.alloc (.cells #[.int .i64 n,.int .i64 q3,.int .i64 d3] 183)=W5 at C5 ⊢
   generalize v5.heap.size=g12 at C5 ⊢
   obtain⟨n0,n1,n2⟩:=cells3 (C5.out.get 2 rfl)
   obtain⟨p0,p1',p2⟩:=cells3 (C5.out.get 1 rfl)
   obtain⟨m0,m1,m2⟩:=cells3 (C5.out.get 0 rfl)
   by_cases k1:d1=0
   ·have k1':(d1 != 0)=false:=by simp;exact k1
    by_cases k2:d2=0
    ·have k2':(d2 != 0)=false:=by simp;exact k2
     by_cases k3:d3=0
     ·have k3':(d3 != 0)=false:=by simp;exact k3
      by_cases k4:0<=n/\n<=20
      ·have HPA:=hideK (IPA.out ⟨k1,k2,k3,k4.1,k4.2⟩)
       have HYE:=hideK (fun q=>IYE.out q ⟨k1,k2,k3,k4.1,k4.2⟩)
       have HIS:=hideK (fun W=>is_yes n 0 20 W k4.1 k4.2)
       obtain⟨k,rfl⟩:=Int.eq_ofNat_of_zero_le k4.1
       have hk20:k<=20:=by omega
       simp only[Int.toNat_natCast]at HPA HYE
       clear k1 k2 k3 k4 INO IPA IYE
       obtain⟨r0,r1,r2⟩:=cells3 (C5.out.get 3 rfl)
       have fx:=fun o=>frozen_of_row W5 (g8+1) o _ _ (C5.out.get 3 rfl)
       go_wp2_with fail
       refine(HIS.out _).mono ?_
       rintro e1 v6 ⟨rfl,hw⟩
       subst v6
       obtain⟨L,hL⟩:∃ L:List (Nat × Obj),L=[(g12,.cells #[.int .i64 k,.int .i64 q3,.int .i64 d3] 183),(g11,.cells #[.string t2,.int .i64 q2,.int .i64 d2] 179),(g10,.cells #[.int .i64 i,.int .i64 q1,.int .i64 d1] 183),(g8,.cells #[.string u,.int .i64 0,.int .i64 c2] 179),(g7,.cells #[.string t,.int .i64 p1,.int .i64 c1] 179),(w.heap.size,.cells #[.int .i64 0,.string ⟨#[]⟩,.slice none 0 0] 139)]:=⟨_,rfl⟩
       have HLT:Hid (∀ x∈L,∃ cs T,x.2=.cells cs T (0,0)/\T≠9):=by
        intro x hx
        rw[hL]at hx
        simp only[List.mem_cons,List.not_mem_nil,or_false]at hx
        rcases hx with rfl|rfl|rfl|rfl|rfl|rfl<;>exact⟨_,_,rfl,by decide⟩
       have HNE:Hid (∀ x∈L,x.1≠g8+1):=by
        intro x hx
        rw[hL]at hx
        simp only[List.mem_cons,List.not_mem_nil,or_false]at hx
        rcases hx with rfl|rfl|rfl|rfl|rfl|rfl
        ·exact ty_ne (C5.out.get 0 rfl) (C5.out.get 3 rfl) (by decide)
        ·exact ty_ne (C5.out.get 1 rfl) (C5.out.get 3 rfl) (by decide)
        ·exact ty_ne (C5.out.get 2 rfl) (C5.out.get 3 rfl) (by decide)
        ·exact ty_ne (C5.out.get 4 rfl) (C5.out.get 3 rfl) (by decide)
        ·exact ty_ne (C5.out.get 5 rfl) (C5.out.get 3 rfl) (by decide)
        ·have:=HGX.out
         show w.heap.size≠g8+1
         omega
       have C6:Hid (Cx w W5 L):=⟨C5.out.low,fun x hx=>C5.out.blk x (by
        rw[hL]at hx
        simp only[List.mem_cons,List.not_mem_nil,or_false]at hx ⊢
        rcases hx with h|h|h|h|h|h<;>simp[h])⟩
       have C7:Hid (Cx w (((W5.setCell ⟨g8+1,0,none⟩ (.int .i64 i)).setCell ⟨g8+1,1,none⟩ (.string t2)).setCell ⟨g8+1,2,none⟩ (.slice none 0 0)) L):=((C6.out.set (by have:=HGX.out;omega) HNE.out 0 _).set (by have:=HGX.out;omega) HNE.out 1 _).set (by have:=HGX.out;omega) HNE.out 2 _
       have X7:Hid ((((W5.setCell ⟨g8+1,0,none⟩ (.int .i64 i)).setCell ⟨g8+1,1,none⟩ (.string t2)).setCell ⟨g8+1,2,none⟩ (.slice none 0 0)).heap[g8+1]? = some (.cells #[.int .i64 i,.string t2,.slice none 0 0] 139 (0,0))):=(set_j3 (set_j3 (set_j3 (C5.out.get 3 rfl) (.int .i64 i)).1 (.string t2)).2.1 (.slice none 0 0)).2.2
       have n12:¬g12=g8+1:=ty_ne (C5.out.get 0 rfl) (C5.out.get 3 rfl) (by decide)
       have n12':¬g8+1=g12:=fun h=>n12 h.symm
       clear C5 C6
       go_wp2_with fail
       generalize ((W5.setCell ⟨g8+1,0,none⟩ (.int .i64 i)).setCell ⟨g8+1,1,none⟩ (.string t2)).setCell ⟨g8+1,2,none⟩ (.slice none 0 0)=W7 at C7 X7 ⊢
       clear n0 n1 n2 p0 p1' p2 m0 m1 m2 r0 r1 r2 fx HIS
       have G12:Hid (L[0]? = some (g12,.cells #[.int .i64 k,.int .i64 q3,.int .i64 d3] 183)):=by rw[hL];rfl
       have G8:Hid (L[3]? = some (g8,.cells #[.string u,.int .i64 0,.int .i64 c2] 179)):=by rw[hL];rfl
       have G7:Hid (L[4]? = some (g7,.cells #[.string t,.int .i64 p1,.int .i64 c1] 179)):=by rw[hL];rfl
       have G4:Hid (L[5]? = some (w.heap.size,.cells #[.int .i64 0,.string ⟨#[]⟩,.slice none 0 0] 139)):=by rw[hL];rfl
       clear hL
       go_loopw [14,13,15] (fun jv ev _ wr=>∃ (j e1:Nat) (l:List ByteArray) (a:Option Addr) (cap:Nat),jv=.int .i64 j/\ev=.int .i64 e1/\j<=k/\l.length=j/\pathR u k q3 []=pathR u (k-j) e1 l/\OwnS wr w.heap.size (.slice a j cap) l/\wr.heap[g8+1]? = some (.cells #[.int .i64 i,.string t2,.slice a j cap] 139 (0,0))/\Cx w wr L) (fun jv _ _ _=>k-(intOf jv).toNat)
       case atStart=>exact⟨0,q3,[],none,0,rfl,rfl,Nat.zero_le _,rfl,rfl,OwnS.nil _ _,X7.out,C7.out⟩
       case round =>
        obtain⟨j,e1,l,a,cap,rfl,rfl,hj,hl,hp,ho,hx,hcx⟩:=hrel
        have O:=hideK ho
        have X:=hideK hx
        have CX:=hideK hcx
        have HP:=hideK hp
        have HL:=hideK hl
        clear ho hx hcx hp hl C7 X7
        obtain⟨m0,m1,m2⟩:=cells3 (CX.out.get 0 G12.out)
        obtain⟨b0,b1,b2⟩:=cells3 (CX.out.get 3 G8.out)
        by_cases hlt:j<k
        ·have hlt':(j:Int)<(k:Int):=by omega
         have HNJ:Hid (k-j=(k-(j+1))+1):=by unfold Hid;omega
         have HRT:=hideK (fun W=>H6.out e1 W)
         have HY:=hideK (fun h=>PY.out (k-(j+1)) e1 l h)
         have HN:=hideK (fun h=>PN.out (k-(j+1)) e1 l h)
         generalize rt u e1=x at HRT HY HN
         obtain⟨tx,pp,c⟩:=x
         dsimp only at HRT HY HN
         go_wp2_with fail
         refine(HRT.out _).mono ?_
         rintro e2 w3 ⟨rfl,hb⟩
         have O3:=hideK ((O.out.below hb).below ((Below.refl _ w3).alloc (Nat.le_refl _) (.cells #[.string tx,.int .i64 pp,.int .i64 c] 179)))
         have X3:=hideK (blk_alloc (Ls.blkL X.out hb) (.cells #[.string tx,.int .i64 pp,.int .i64 c] 179))
         have C3:=hideK ((CX.out.call hb).new (.cells #[.string tx,.int .i64 pp,.int .i64 c] 179))
         clear hb O X CX m0 m1 m2 b0 b1 b2
         go_upto_region 17 with fail
         generalize w3.alloc (.cells #[.string tx,.int .i64 pp,.int .i64 c] 179)=W3 at O3 X3 C3 ⊢
         generalize w3.heap.size=g15 at C3 ⊢
         obtain⟨y0,y1,y2⟩:=cells3 (C3.out.get 0 rfl)
         obtain⟨r0,r1,r2⟩:=cells3 X3.out
         have C4:Hid (Cx w W3 L):=⟨C3.out.low,fun x hx=>C3.out.blk x (List.mem_cons_of_mem _ hx)⟩
         have hc15:=C3.out.get 0 rfl
         by_cases hc:c=0
         ·have hc':(c != 0)=false:=by simp;exact hc
          have HY1:=hideK (HY.out hc)
          clear HY HN hc
          have NS:Hid (∀ x∈((g15,Obj.cells #[.string tx,.int .i64 pp,.int .i64 c] 179) :: L),(Value.slice a j cap).ownBlock≠some x.1):=fun x hx=>by
           rcases List.mem_cons.1 hx with rfl|hx
           ·exact own_notS O3.out (C3.out.get 0 rfl) (by decide)
           ·obtain⟨cs,T,h1,h2⟩:=HLT.out x hx
            exact own_notS O3.out ((C4.out.blk x hx).trans (by rw[h1])) h2
          have NX:Hid ((Value.slice a j cap).ownBlock≠some (g8+1)):=own_notS O3.out X3.out (by decide)
          have LB:Hid (∀ k,(Value.slice a j cap).ownBlock=some k->w.heap.size<=k):=fun k hk=>(World.ownsRow.lt O3.out k hk).1
          have C5:=hideK (C3.out.call ((Below.refl _ W3).alloc (Nat.le_refl _) (.cells #[.string tx] 9)))
          have X5:=hideK (blk_alloc X3.out (.cells #[.string tx] 9))
          have HLJ:Hid (OwnS W3 w.heap.size (.slice a j cap) l):=O3.out
          unfold OwnS at HLJ
          rw[HL.out]at HLJ
          go_wp2_with (at_builtin;refine wpList_append_own _ rfl (.tmp 87) (.tmp 90) 46 rfl w.heap.size 9 i0 (.string ⟨#[]⟩) 1 16 Tryz.underlying46 hif hz0 hz1 hz2 rfl (by decide) _ _ _ rfl (World.ownsRow.alloc HLJ.out _) ⟨W3.heap.size,0,none⟩ 1 1 [.string tx] rfl rfl (one_newS W3 _ _) (one_cellS _) (by unfold maxLen;omega) (by omega) (by have:=C4.out.low.size;simp;omega) ?_)
          intro v' w4 hown hgrow _
          obtain⟨a',cap',hv'⟩:=own_one hown
          subst hv'
          have C6:=hideK (C5.out.grown hgrow LB.out NS.out)
          have X6:=hideK (grown_blk hgrow X5.out NX.out)
          have O6:Hid (OwnS w4 w.heap.size (.slice a' (j+1) cap') (l++[tx])):=OwnS.snoc (by rw[HL.out];exact hown)
          clear hown hgrow C5 X5 NS NX LB HLJ O3 X3 C3 C4 y0 y1 y2 r0 r1 r2 hc15
          obtain⟨y0,y1,y2⟩:=cells3 (C6.out.get 0 rfl)
          obtain⟨r0,r1,r2⟩:=cells3 X6.out
          have fx:=fun o=>frozen_of_row w4 (g8+1) o _ _ X6.out
          have ne15:¬g15=g8+1:=ty_ne (C6.out.get 0 rfl) X6.out (by decide)
          have ne15':¬g8+1=g15:=fun h=>ne15 h.symm
          have C8:Hid (Cx w (w4.setCell ⟨g8+1,2,none⟩ (.slice a' (j+1) cap')) L):=Cx.set ⟨C6.out.low,fun x hx=>C6.out.blk x (List.mem_cons_of_mem _ hx)⟩ (by have:=HGX.out;omega) HNE.out 2 _
          have X8:=hideK (set_j3 X6.out (.slice a' (j+1) cap')).2.2
          have O8:=hideK (OwnS.setO O6.out X6.out (by decide) 2 (.slice a' (j+1) cap'))
          go_wp2_with fail
          go_roundw
          case rel=>exact⟨j+1,pp,l++[tx],a',cap',by go_num,rfl,by omega,by rw[List.length_append,HL.out];rfl,by rw[HP.out,HNJ.out,HY1.out],O8.out,X8.out,C8.out⟩
          case measure=>simp[intOf];omega
         ·have hc':(c != 0)=true:=by simp;exact hc
          have HX:=hideK (HIN1.out (HPA.out (by rw[HP.out,HNJ.out,HN.out hc])))
          obtain⟨q0,q1',q2'⟩:=cells3 (C4.out.get 5 G4.out)
          have ff:=fun o=>frozen_of_row W3 w.heap.size o _ _ (C4.out.get 5 G4.out)
          have s3:=set3_all (C4.out.get 5 G4.out) (.int .i64 i) (.string t2) (.slice a j cap)
          have E3:=hideK (set3_low C4.out.low (Nat.le_refl _) (.int .i64 i) (.string t2) (.slice a j cap))
          clear HY HN hc
          go_wp2_with fail
          exact bodyPost_ret (v:=.tuple #[.agg #[.int .i64 i,.string t2,.slice a j cap],.int .i64 0,.bool false]) (by simp[results,Tryz.results103,go_sem,s3.1,s3.2.1,s3.2.2]) rfl ⟨.inr ⟨HX.out,i,t2,a,j,cap,0,rfl⟩,E3.out⟩
        ·obtain rfl:j=k:=by omega
         have HPE:Hid (pathR u j q3 []=some (l,e1)):=by unfold Hid;rw[HP.out,Nat.sub_self,pathR]
         have HQ:=hideK (HYE.out (l,e1) HPE.out)
         have hltD:decide ((j:Int)<(j:Int))=false:=by simp
         obtain⟨r0,r1,r2⟩:=cells3 X.out
         obtain⟨t0,t1,t2'⟩:=cells3 (CX.out.get 4 G7.out)
         obtain⟨q0,q1',q2'⟩:=cells3 (CX.out.get 5 G4.out)
         have ff:=fun o=>frozen_of_row wr w.heap.size o _ _ (CX.out.get 5 G4.out)
         have n7:¬g7=w.heap.size:=ty_ne (CX.out.get 4 G7.out) (CX.out.get 5 G4.out) (by decide)
         have n7':¬w.heap.size=g7:=fun h=>n7 h.symm
         have n8:¬g8=w.heap.size:=ty_ne (CX.out.get 3 G8.out) (CX.out.get 5 G4.out) (by decide)
         have n8':¬w.heap.size=g8:=fun h=>n8 h.symm
         have s3:=set3_all (CX.out.get 5 G4.out) (.int .i64 i) (.string t2) (.slice a j cap)
         have E3:=hideK (set3_low CX.out.low (Nat.le_refl _) (.int .i64 i) (.string t2) (.slice a j cap)).drew
         have O4:Hid (PathIn (((wr.setCell ⟨w.heap.size,0,none⟩ (.int .i64 i)).setCell ⟨w.heap.size,1,none⟩ (.string t2)).setCell ⟨w.heap.size,2,none⟩ (.slice a j cap)).drew (.slice a j cap) l):=pathIn_drew (PathIn.keeps (pathIn_own O.out) (KeepsS.set3 (CX.out.get 5 G4.out) (by decide) _ _ _))
         by_cases he:e1=u.size
         ·have he':((e1:Int)==(u.size:Int))=true:=by rw[he];simp
          have HR:=hideK (HOK1.out (i,t2,l) (by rw[HQ.out];exact if_pos he))
          have HE:=hideK he
          clear he
          go_upto_region 21 with fail
          go_region
          all_goals (
           go_wp2_with fail
           exact bodyPost_ret (v:=.tuple #[.agg #[.int .i64 i,.string t2,.slice a j cap],.int .i64 p1,.bool true]) (by simp[results,Tryz.results103,go_sem,s3.1,s3.2.1,s3.2.2]) rfl ⟨.inl ⟨((i,t2,l),p1),_,HR.out,rfl,O4.out⟩,E3.out⟩)
         ·have he':((e1:Int)==(u.size:Int))=false:=beq_eq_false_iff_ne.2 (by omega)
          have he2:¬(e1:Int)=(u.size:Int):=by omega
          have HR:=hideK (HIN1.out (by rw[HQ.out];exact if_neg he))
          go_upto_region 21 with fail
          go_region
          all_goals (
           go_wp2_with fail
           exact bodyPost_ret (v:=.tuple #[.agg #[.int .i64 i,.string t2,.slice a j cap],.int .i64 p1,.bool false]) (by simp[results,Tryz.results103,go_sem,s3.1,s3.2.1,s3.2.2]) rfl ⟨.inr ⟨HR.out,i,t2,a,j,cap,p1,rfl⟩,E3.out⟩)
      ·have HX:=hideK (HIN1.out (INO.out (fun h=>k4 ⟨h.2.2.2.1,h.2.2.2.2⟩)))
       have HIS:=hideK (fun W=>is_no n 0 20 W (by omega))
       obtain⟨q0,q1',q2'⟩:=cells3 (C5.out.get 6 rfl)
       obtain⟨r0,r1,r2⟩:=cells3 (C5.out.get 3 rfl)
       clear k4
       go_wp2_with fail
       refine(HIS.out _).mono ?_
       rintro e1 v6 ⟨rfl,hw⟩
       subst v6
       obtain⟨q0,q1',q2'⟩:=cells3 (C5.out.get 6 rfl)
       obtain⟨r0,r1,r2⟩:=cells3 (C5.out.get 3 rfl)
       have ff:=fun o=>frozen_of_row W5 w.heap.size o _ _ (C5.out.get 6 rfl)
       have s3:=set3_all (C5.out.get 6 rfl) (.int .i64 0) (.string ⟨#[]⟩) (.slice none 0 0)
       have E3:=hideK (set3_low C5.out.low (Nat.le_refl _) (.int .i64 0) (.string ⟨#[]⟩) (.slice none 0 0))
       go_wp2_with fail
       exact bodyPost_ret (v:=.tuple #[.agg #[.int .i64 0,.string ⟨#[]⟩,.slice none 0 0],.int .i64 0,.bool false]) (by simp[results,Tryz.results103,go_sem,s3.1,s3.2.1,s3.2.2]) rfl ⟨.inr ⟨HX.out,0,⟨#[]⟩,none,0,0,0,rfl⟩,E3.out⟩
     ·have k3':(d3 != 0)=true:=by simp;exact k3
      have HX:=hideK (HIN1.out (INO.out (fun h=>k3 h.2.2.1)))
      obtain⟨q0,q1',q2'⟩:=cells3 (C5.out.get 6 rfl)
      obtain⟨r0,r1,r2⟩:=cells3 (C5.out.get 3 rfl)
      have ff:=fun o=>frozen_of_row W5 w.heap.size o _ _ (C5.out.get 6 rfl)
      have s3:=set3_all (C5.out.get 6 rfl) (.int .i64 0) (.string ⟨#[]⟩) (.slice none 0 0)
      have E3:=hideK (set3_low C5.out.low (Nat.le_refl _) (.int .i64 0) (.string ⟨#[]⟩) (.slice none 0 0))
      go_wp2_with fail
      exact bodyPost_ret (v:=.tuple #[.agg #[.int .i64 0,.string ⟨#[]⟩,.slice none 0 0],.int .i64 0,.bool false]) (by simp[results,Tryz.results103,go_sem,s3.1,s3.2.1,s3.2.2]) rfl ⟨.inr ⟨HX.out,0,⟨#[]⟩,none,0,0,0,rfl⟩,E3.out⟩
    ·have k2':(d2 != 0)=true:=by simp;exact k2
     have HX:=hideK (HIN1.out (INO.out (fun h=>k2 h.2.1)))
     obtain⟨q0,q1',q2'⟩:=cells3 (C5.out.get 6 rfl)
     obtain⟨r0,r1,r2⟩:=cells3 (C5.out.get 3 rfl)
     have ff:=fun o=>frozen_of_row W5 w.heap.size o _ _ (C5.out.get 6 rfl)
     have s3:=set3_all (C5.out.get 6 rfl) (.int .i64 0) (.string ⟨#[]⟩) (.slice none 0 0)
     have E3:=hideK (set3_low C5.out.low (Nat.le_refl _) (.int .i64 0) (.string ⟨#[]⟩) (.slice none 0 0))
     go_wp2_with fail
     exact bodyPost_ret (v:=.tuple #[.agg #[.int .i64 0,.string ⟨#[]⟩,.slice none 0 0],.int .i64 0,.bool false]) (by simp[results,Tryz.results103,go_sem,s3.1,s3.2.1,s3.2.2]) rfl ⟨.inr ⟨HX.out,0,⟨#[]⟩,none,0,0,0,rfl⟩,E3.out⟩
   ·have k1':(d1 != 0)=true:=by simp;exact k1
    have HX:=hideK (HIN1.out (INO.out (fun h=>k1 h.1)))
    obtain⟨q0,q1',q2'⟩:=cells3 (C5.out.get 6 rfl)
    obtain⟨r0,r1,r2⟩:=cells3 (C5.out.get 3 rfl)
    have ff:=fun o=>frozen_of_row W5 w.heap.size o _ _ (C5.out.get 6 rfl)
    have s3:=set3_all (C5.out.get 6 rfl) (.int .i64 0) (.string ⟨#[]⟩) (.slice none 0 0)
    have E3:=hideK (set3_low C5.out.low (Nat.le_refl _) (.int .i64 0) (.string ⟨#[]⟩) (.slice none 0 0))
    go_wp2_with fail
    exact bodyPost_ret (v:=.tuple #[.agg #[.int .i64 0,.string ⟨#[]⟩,.slice none 0 0],.int .i64 0,.bool false]) (by simp[results,Tryz.results103,go_sem,s3.1,s3.2.1,s3.2.2]) rfl ⟨.inr ⟨HX.out,0,⟨#[]⟩,none,0,0,0,rfl⟩,E3.out⟩
  ·have h2':(c2 != 0)=true:=by simp;exact h2
   have HX:=hideK (HNO.out (fun h=>h2 h.2))
   obtain⟨q0,q1',q2'⟩:=cells3 (C2.out.get 3 rfl)
   obtain⟨r0,r1,r2⟩:=cells3 (C2.out.get 0 rfl)
   have ff:=fun o=>frozen_of_row W2 w.heap.size o _ _ (C2.out.get 3 rfl)
   have s3:=set3_all (C2.out.get 3 rfl) (.int .i64 0) (.string ⟨#[]⟩) (.slice none 0 0)
   have E3:=hideK (set3_low C2.out.low (Nat.le_refl _) (.int .i64 0) (.string ⟨#[]⟩) (.slice none 0 0))
   go_wp2_with fail
   exact bodyPost_ret (v:=.tuple #[.agg #[.int .i64 0,.string ⟨#[]⟩,.slice none 0 0],.int .i64 0,.bool false]) (by simp[results,Tryz.results103,go_sem,s3.1,s3.2.1,s3.2.2]) rfl ⟨.inr ⟨HX.out,0,⟨#[]⟩,none,0,0,0,rfl⟩,E3.out⟩
 ·have h1':(c1 != 0)=true:=by simp;exact h1
  have HX:=hideK (HNO.out (fun h=>h1 h.1))
  obtain⟨q0,q1',q2'⟩:=cells3 (C2.out.get 3 rfl)
  obtain⟨r0,r1,r2⟩:=cells3 (C2.out.get 0 rfl)
  have ff:=fun o=>frozen_of_row W2 w.heap.size o _ _ (C2.out.get 3 rfl)
  have s3:=set3_all (C2.out.get 3 rfl) (.int .i64 0) (.string ⟨#[]⟩) (.slice none 0 0)
  have E3:=hideK (set3_low C2.out.low (Nat.le_refl _) (.int .i64 0) (.string ⟨#[]⟩) (.slice none 0 0))
  go_wp2_with fail
  exact bodyPost_ret (v:=.tuple #[.agg #[.int .i64 0,.string ⟨#[]⟩,.slice none 0 0],.int .i64 0,.bool false]) (by simp[results,Tryz.results103,go_sem,s3.1,s3.2.1,s3.2.2]) rfl ⟨.inr ⟨HX.out,0,⟨#[]⟩,none,0,0,0,rfl⟩,E3.out⟩
end Go.Proofs.YtpddanmnlkcdpaaGreatDoor.Kp

