/- Texts put together: KqRead, KqAll, KpCut, KpPiece, KqTop. -/
import Derived.Test.YtikiihjabbmkcaaGreatDoorBz33
import Derived.Test.YtikiihjabbmkcaaGreatDoorBz34
import Derived.Test.YtikiihjabbmkcaaGreatDoorBz42
import Derived.Test.YtikiihjabbmkcaaGreatDoorBz40
import Derived.Test.YtikiihjabbmkcaaGreatDoorBz41
set_option maxRecDepth 100000
set_option maxHeartbeats 8000000
namespace Go.Proofs.YtikiihjabbmkcaaGreatDoor.Kp
open Go.RowKit
open Gn (rd rt)
open Bi (is_yes is_no)
open St (OwnS one_newS one_cellS)
open Ls (num_all text_all cells3 set3_all set_j3 blk_alloc)
theorem own_notS {W:World} {base g:Nat} {v:Value} {p:List ByteArray} {cs:Array Value} {T:TypeId} (h:OwnS W base v p) (hg:W.heap[g]? = some (.cells cs T (0,0))) (hT:T≠9):v.ownBlock≠some g:=fun e=>by
 obtain⟨_,h⟩:=h
 rcases h with⟨h,_⟩|⟨k,cap,cur,hv,_,hb,_⟩
 ·subst h
  simp[Value.ownBlock]at e
 ·subst hv
  simp[Value.ownBlock]at e
  subst e
  rw[hg]at hb
  simp at hb
  exact hT hb.2
theorem OwnS.setO {W:World} {base g:Nat} {v:Value} {p:List ByteArray} {cs:Array Value} {T:TypeId} (h:OwnS W base v p) (hg:W.heap[g]? = some (.cells cs T (0,0))) (hT:T≠9) (i:Nat) (u:Value):OwnS (W.setCell ⟨g,i,none⟩ u) base v p:=by
 obtain⟨hl,h⟩:=h
 refine⟨hl,?_⟩
 rcases h with h|⟨k,cap,cur,hv,hk,hb,rest⟩
 ·exact .inl h
 ·refine .inr ⟨k,cap,cur,hv,hk,?_,rest⟩
  rw[heap_setCell_other W _ k u (by exact ty_ne hb hg (fun e=>hT e.symm))]
  exact hb
def RecOutS (R:Option (Rec × Nat)) (r:Ending) (w':World):Prop :=
 (∃ x v,R=some x/\r=.returned (.tuple #[.agg #[.int .i64 x.1.1,.string x.1.2.1,v],.int .i64 x.2,.bool true])/\PathIn w' v x.1.2.2) ∨
 (R=none/\∃ (i:Int) (t:ByteArray) (a:Option Addr) (n c:Nat) (k:Int),r=.returned (.tuple #[.agg #[.int .i64 i,.string t,.slice a n c],.int .i64 k,.bool false]))
theorem rec_in {s:ByteArray} {e:Nat} (h:(rt s e).2.2=0/\usC (rt s e).1=0) (hi:innerR (usT (rt s e).1)=none):recR s e=none:=by
 rw[rec_yes h,hi]
 rfl
theorem rec_ok {s:ByteArray} {e:Nat} {x:Rec} (h:(rt s e).2.2=0/\usC (rt s e).1=0) (hi:innerR (usT (rt s e).1)=some x):recR s e=some (x,(rt s e).2.1):=by
 rw[rec_yes h,hi]
 rfl
theorem l08Read_any (s:ByteArray) (e:Nat) (w:World) (hs:s.size<=1048576) :
  Calls Tryz.prog 81 #[.string s,.int .i64 e] w fun r w'=>RecOutS (recR s e) r w'/\Below w.heap.size w w':=by
 obtain⟨i0,hif,hz0,hz1,hz2⟩:=info_parts St.Tryz.infoS9
 have hs2:s.size<=maxLen:=by unfold maxLen;omega
 have h8u:=usT_size _ (rt_size8 s e)
 have h8:=rt_size8 s e
 have H1:=hideK (fun W=>Gn.text_spec s e W hs2)
 have H2:=hideK (fun W=>Se.unseal_spec (rt s e).1 W (by unfold maxLen;omega))
 rw[text_all]at H1
 simp only[unseal_all]at H2
 have HNO:=hideK (rec_no (s:=s) (e:=e))
 have HIN:=hideK (rec_in (s:=s) (e:=e))
 have HOK:=hideK (fun x=>rec_ok (s:=s) (e:=e) (x:=x))
 generalize recR s e=R at HNO HIN HOK ⊢
 generalize rt s e=x1 at H1 H2 HNO HIN HOK h8u h8
 obtain⟨t,p1,c1⟩:=x1
 dsimp only at H1 H2 HNO HIN HOK h8u h8
 generalize usC t=c2 at H2 HNO HIN HOK
 generalize usT t=u at H2 HIN HOK h8u
 have hu2:u.size<=maxLen:=by unfold maxLen;omega
 have H3:=hideK (fun W=>Gn.get_spec u 0 W hu2)
 have H4:=hideK (fun W=>Gn.text_spec u (rd u 0).2.1 W hu2)
 have H5:=hideK (fun W=>Gn.get_spec u (rt u (rd u 0).2.1).2.1 W hu2)
 have H6:=hideK (fun (k:Nat) W=>Gn.text_spec u k W hu2)
 rw[num_all]at H3 H5
 rw[text_all]at H4
 simp only[text_all]at H6
 have INO:=hideK (inner_no (s:=u))
 have IPA:=hideK (inner_path (s:=u))
 have IYE:=hideK (fun q=>inner_yes (s:=u) (q:=q))
 unfold innerOk at INO IPA IYE
 generalize innerR u=I at HIN HOK INO IPA IYE
 have PY:=hideK (fun n k l h=>pathR_yes (s:=u) (n:=n) (e:=k) (l:=l) h)
 have PN:=hideK (fun n k l h=>pathR_no (s:=u) (n:=n) (e:=k) (l:=l) h)
 generalize rd u (rt u (rd u 0).2.1).2.1=y3 at H5 INO IPA IYE
 generalize rt u (rd u 0).2.1=y2 at H4 H5 INO IPA IYE
 generalize rd u 0=y1 at H3 H4 INO IPA IYE
 obtain⟨i,q1,d1⟩:=y1
 obtain⟨t2,q2,d2⟩:=y2
 obtain⟨n,q3,d3⟩:=y3
 dsimp only at H3 H4 H5 INO IPA IYE
 go_enter Tryz.func81,Tryz.ntmps81
 go_wp2_with fail
 have C0:=hideK ((Cx.nil w).new (.cells #[.int .i64 0,.string ⟨#[]⟩,.slice none 0 0] 124))
 generalize w.alloc (.cells #[.int .i64 0,.string ⟨#[]⟩,.slice none 0 0] 124)=W0 at C0 ⊢
 refine(H1.out _).mono ?_
 rintro e1 v1 ⟨rfl,hb⟩
 have C1:=hideK ((C0.out.call hb).new (.cells #[.string t,.int .i64 p1,.int .i64 c1] 170))
 clear hb C0
 go_wp2_with fail
 generalize v1.alloc (.cells #[.string t,.int .i64 p1,.int .i64 c1] 170)=W1 at C1 ⊢
 refine(H2.out _).mono ?_
 rintro e1 v2 ⟨rfl,hb⟩
 have C2:=hideK (((C1.out.call hb).new (.cells #[.string u,.int .i64 0,.int .i64 c2] 170)).new (.cells #[.int .i64 0,.string ⟨#[]⟩,.slice none 0 0] 124))
 simp only[World.size_alloc]at C2
 have hgx:w.heap.size<v2.heap.size+1:=by
  have h1:=lt_rowK (C1.out.get 1 rfl)
  have h2:=hb.size
  omega
 clear hb C1
 go_upto_region 4 with fail
 generalize (v2.alloc (.cells #[.string u,.int .i64 0,.int .i64 c2] 170)).alloc (.cells #[.int .i64 0,.string ⟨#[]⟩,.slice none 0 0] 124)=W2 at C2 ⊢
 generalize v1.heap.size=g7 at C2 ⊢
 generalize v2.heap.size=g8 at C2 hgx ⊢
 have HGX:=hideK hgx
 clear hgx
 obtain⟨a0,a1,a2⟩:=cells3 (C2.out.get 2 rfl)
 obtain⟨b0,b1,b2⟩:=cells3 (C2.out.get 1 rfl)
 by_cases h1:c1=0
 ·have h1':(c1 != 0)=false:=by simp;exact h1
  by_cases h2:c2=0
  ·have h2':(c2 != 0)=false:=by simp;exact h2
   have HIN1:=hideK (fun h=>HIN.out ⟨h1,h2⟩ h)
   have HOK1:=hideK (fun x h=>HOK.out x ⟨h1,h2⟩ h)
   clear h1 h2 HNO HIN HOK
   go_wp2_with fail
   refine(H3.out _).mono ?_
   rintro e1 v3 ⟨rfl,hb⟩
   have C3:=hideK ((C2.out.call hb).new (.cells #[.int .i64 i,.int .i64 q1,.int .i64 d1] 174))
   clear hb C2 a0 a1 a2 b0 b1 b2
   go_upto_region 7 with fail
   generalize v3.alloc (.cells #[.int .i64 i,.int .i64 q1,.int .i64 d1] 174)=W3 at C3 ⊢
   generalize v3.heap.size=g10 at C3 ⊢
   obtain⟨b0,b1,b2⟩:=cells3 (C3.out.get 2 rfl)
   obtain⟨n0,n1,n2⟩:=cells3 (C3.out.get 0 rfl)
   go_wp2_with fail
   refine(H4.out _).mono ?_
   rintro e1 v4 ⟨rfl,hb⟩
   have C4:=hideK ((C3.out.call hb).new (.cells #[.string t2,.int .i64 q2,.int .i64 d2] 170))
   clear hb C3 b0 b1 b2 n0 n1 n2
   go_upto_region 8 with fail
   generalize v4.alloc (.cells #[.string t2,.int .i64 q2,.int .i64 d2] 170)=W4 at C4 ⊢
   generalize v4.heap.size=g11 at C4 ⊢
   obtain⟨b0,b1,b2⟩:=cells3 (C4.out.get 3 rfl)
   obtain⟨n0,n1,n2⟩:=cells3 (C4.out.get 0 rfl)
   go_wp2_with fail
   refine(H5.out _).mono ?_
   rintro e1 v5 ⟨rfl,hb⟩
   have C5:=hideK ((C4.out.call hb).new (.cells #[.int .i64 n,.int .i64 q3,.int .i64 d3] 174))
   clear hb C4 b0 b1 b2 n0 n1 n2
   go_upto_region 9 with fail
   generalize v5.alloc (.cells #[.int .i64 n,.int .i64 q3,.int .i64 d3] 174)=W5 at C5 ⊢
   generalize v5.heap.size=g12 at C5 ⊢
   obtain⟨n0,n1,n2⟩:=cells3 (C5.out.get 2 rfl)
   obtain⟨p0,p1',p2⟩:=cells3 (C5.out.get 1 rfl)
   obtain⟨m0,m1,m2⟩:=cells3 (C5.out.get 0 rfl)
   by_cases k1:d1=0
   ·have k1':(d1 != 0)=false:=by simp;exact k1
    by_cases k2:d2=0
    ·have k2':(d2 != 0)=false:=by simp;exact k2
     by_cases k3:d3=0
     ·have k3':(d3 != 0)=false:=by simp;exact k3
      by_cases k4:0<=n/\n<=20
      ·have HPA:=hideK (IPA.out ⟨k1,k2,k3,k4.1,k4.2⟩)
       have HYE:=hideK (fun q=>IYE.out q ⟨k1,k2,k3,k4.1,k4.2⟩)
       have HIS:=hideK (fun W=>is_yes n 0 20 W k4.1 k4.2)
       obtain⟨k,rfl⟩:=Int.eq_ofNat_of_zero_le k4.1
       have hk20:k<=20:=by omega
       simp only[Int.toNat_natCast]at HPA HYE
       clear k1 k2 k3 k4 INO IPA IYE
       obtain⟨r0,r1,r2⟩:=cells3 (C5.out.get 3 rfl)
       have fx:=fun o=>frozen_of_row W5 (g8+1) o _ _ (C5.out.get 3 rfl)
       go_wp2_with fail
       refine(HIS.out _).mono ?_
       rintro e1 v6 ⟨rfl,hw⟩
       subst v6
       obtain⟨L,hL⟩:∃ L:List (Nat × Obj),L=[(g12,.cells #[.int .i64 k,.int .i64 q3,.int .i64 d3] 174),(g11,.cells #[.string t2,.int .i64 q2,.int .i64 d2] 170),(g10,.cells #[.int .i64 i,.int .i64 q1,.int .i64 d1] 174),(g8,.cells #[.string u,.int .i64 0,.int .i64 c2] 170),(g7,.cells #[.string t,.int .i64 p1,.int .i64 c1] 170),(w.heap.size,.cells #[.int .i64 0,.string ⟨#[]⟩,.slice none 0 0] 124)]:=⟨_,rfl⟩
       have HLT:Hid (∀ x∈L,∃ cs T,x.2=.cells cs T (0,0)/\T≠9):=by
        intro x hx
        rw[hL]at hx
        simp only[List.mem_cons,List.not_mem_nil,or_false]at hx
        rcases hx with rfl|rfl|rfl|rfl|rfl|rfl<;>exact⟨_,_,rfl,by decide⟩
       have HNE:Hid (∀ x∈L,x.1≠g8+1):=by
        intro x hx
        rw[hL]at hx
        simp only[List.mem_cons,List.not_mem_nil,or_false]at hx
        rcases hx with rfl|rfl|rfl|rfl|rfl|rfl
        ·exact ty_ne (C5.out.get 0 rfl) (C5.out.get 3 rfl) (by decide)
        ·exact ty_ne (C5.out.get 1 rfl) (C5.out.get 3 rfl) (by decide)
        ·exact ty_ne (C5.out.get 2 rfl) (C5.out.get 3 rfl) (by decide)
        ·exact ty_ne (C5.out.get 4 rfl) (C5.out.get 3 rfl) (by decide)
        ·exact ty_ne (C5.out.get 5 rfl) (C5.out.get 3 rfl) (by decide)
        ·have:=HGX.out
         show w.heap.size≠g8+1
         omega
       have C6:Hid (Cx w W5 L):=⟨C5.out.low,fun x hx=>C5.out.blk x (by
        rw[hL]at hx
        simp only[List.mem_cons,List.not_mem_nil,or_false]at hx ⊢
        rcases hx with h|h|h|h|h|h<;>simp[h])⟩
       have C7:Hid (Cx w (((W5.setCell ⟨g8+1,0,none⟩ (.int .i64 i)).setCell ⟨g8+1,1,none⟩ (.string t2)).setCell ⟨g8+1,2,none⟩ (.slice none 0 0)) L):=((C6.out.set (by have:=HGX.out;omega) HNE.out 0 _).set (by have:=HGX.out;omega) HNE.out 1 _).set (by have:=HGX.out;omega) HNE.out 2 _
       have X7:Hid ((((W5.setCell ⟨g8+1,0,none⟩ (.int .i64 i)).setCell ⟨g8+1,1,none⟩ (.string t2)).setCell ⟨g8+1,2,none⟩ (.slice none 0 0)).heap[g8+1]? = some (.cells #[.int .i64 i,.string t2,.slice none 0 0] 124 (0,0))):=(set_j3 (set_j3 (set_j3 (C5.out.get 3 rfl) (.int .i64 i)).1 (.string t2)).2.1 (.slice none 0 0)).2.2
       have n12:¬g12=g8+1:=ty_ne (C5.out.get 0 rfl) (C5.out.get 3 rfl) (by decide)
       have n12':¬g8+1=g12:=fun h=>n12 h.symm
       clear C5 C6
       go_wp2_with fail
       generalize ((W5.setCell ⟨g8+1,0,none⟩ (.int .i64 i)).setCell ⟨g8+1,1,none⟩ (.string t2)).setCell ⟨g8+1,2,none⟩ (.slice none 0 0)=W7 at C7 X7 ⊢
       clear n0 n1 n2 p0 p1' p2 m0 m1 m2 r0 r1 r2 fx HIS
       have G12:Hid (L[0]? = some (g12,.cells #[.int .i64 k,.int .i64 q3,.int .i64 d3] 174)):=by rw[hL];rfl
       have G8:Hid (L[3]? = some (g8,.cells #[.string u,.int .i64 0,.int .i64 c2] 170)):=by rw[hL];rfl
       have G7:Hid (L[4]? = some (g7,.cells #[.string t,.int .i64 p1,.int .i64 c1] 170)):=by rw[hL];rfl
       have G4:Hid (L[5]? = some (w.heap.size,.cells #[.int .i64 0,.string ⟨#[]⟩,.slice none 0 0] 124)):=by rw[hL];rfl
       clear hL
       go_loopw [14,13,15] (fun jv ev _ wr=>∃ (j e1:Nat) (l:List ByteArray) (a:Option Addr) (cap:Nat),jv=.int .i64 j/\ev=.int .i64 e1/\j<=k/\l.length=j/\pathR u k q3 []=pathR u (k-j) e1 l/\OwnS wr w.heap.size (.slice a j cap) l/\wr.heap[g8+1]? = some (.cells #[.int .i64 i,.string t2,.slice a j cap] 124 (0,0))/\Cx w wr L) (fun jv _ _ _=>k-(intOf jv).toNat)
       case atStart=>exact⟨0,q3,[],none,0,rfl,rfl,Nat.zero_le _,rfl,rfl,OwnS.nil _ _,X7.out,C7.out⟩
       case round =>
        obtain⟨j,e1,l,a,cap,rfl,rfl,hj,hl,hp,ho,hx,hcx⟩:=hrel
        have O:=hideK ho
        have X:=hideK hx
        have CX:=hideK hcx
        have HP:=hideK hp
        have HL:=hideK hl
        clear ho hx hcx hp hl C7 X7
        obtain⟨m0,m1,m2⟩:=cells3 (CX.out.get 0 G12.out)
        obtain⟨b0,b1,b2⟩:=cells3 (CX.out.get 3 G8.out)
        by_cases hlt:j<k
        ·have hlt':(j:Int)<(k:Int):=by omega
         have HNJ:Hid (k-j=(k-(j+1))+1):=by unfold Hid;omega
         have HRT:=hideK (fun W=>H6.out e1 W)
         have HY:=hideK (fun h=>PY.out (k-(j+1)) e1 l h)
         have HN:=hideK (fun h=>PN.out (k-(j+1)) e1 l h)
         generalize rt u e1=x at HRT HY HN
         obtain⟨tx,pp,c⟩:=x
         dsimp only at HRT HY HN
         go_wp2_with fail
         refine(HRT.out _).mono ?_
         rintro e2 w3 ⟨rfl,hb⟩
         have O3:=hideK ((O.out.below hb).below ((Below.refl _ w3).alloc (Nat.le_refl _) (.cells #[.string tx,.int .i64 pp,.int .i64 c] 170)))
         have X3:=hideK (blk_alloc (Ls.blkL X.out hb) (.cells #[.string tx,.int .i64 pp,.int .i64 c] 170))
         have C3:=hideK ((CX.out.call hb).new (.cells #[.string tx,.int .i64 pp,.int .i64 c] 170))
         clear hb O X CX m0 m1 m2 b0 b1 b2
         go_upto_region 17 with fail
         generalize w3.alloc (.cells #[.string tx,.int .i64 pp,.int .i64 c] 170)=W3 at O3 X3 C3 ⊢
         generalize w3.heap.size=g15 at C3 ⊢
         obtain⟨y0,y1,y2⟩:=cells3 (C3.out.get 0 rfl)
         obtain⟨r0,r1,r2⟩:=cells3 X3.out
         have C4:Hid (Cx w W3 L):=⟨C3.out.low,fun x hx=>C3.out.blk x (List.mem_cons_of_mem _ hx)⟩
         have hc15:=C3.out.get 0 rfl
         by_cases hc:c=0
         ·have hc':(c != 0)=false:=by simp;exact hc
          have HY1:=hideK (HY.out hc)
          clear HY HN hc
          have NS:Hid (∀ x∈((g15,Obj.cells #[.string tx,.int .i64 pp,.int .i64 c] 170) :: L),(Value.slice a j cap).ownBlock≠some x.1):=fun x hx=>by
           rcases List.mem_cons.1 hx with rfl|hx
           ·exact own_notS O3.out (C3.out.get 0 rfl) (by decide)
           ·obtain⟨cs,T,h1,h2⟩:=HLT.out x hx
            exact own_notS O3.out ((C4.out.blk x hx).trans (by rw[h1])) h2
          have NX:Hid ((Value.slice a j cap).ownBlock≠some (g8+1)):=own_notS O3.out X3.out (by decide)
          have LB:Hid (∀ k,(Value.slice a j cap).ownBlock=some k->w.heap.size<=k):=fun k hk=>(World.ownsRow.lt O3.out k hk).1
          have C5:=hideK (C3.out.call ((Below.refl _ W3).alloc (Nat.le_refl _) (.cells #[.string tx] 9)))
          have X5:=hideK (blk_alloc X3.out (.cells #[.string tx] 9))
          have HLJ:Hid (OwnS W3 w.heap.size (.slice a j cap) l):=O3.out
          unfold OwnS at HLJ
          rw[HL.out]at HLJ
          go_wp2_with (at_builtin;refine wpList_append_own _ rfl (.tmp 87) (.tmp 90) 55 rfl w.heap.size 9 i0 (.string ⟨#[]⟩) 1 16 Tryz.underlying55 hif hz0 hz1 hz2 rfl (by decide) _ _ _ rfl (World.ownsRow.alloc HLJ.out _) ⟨W3.heap.size,0,none⟩ 1 1 [.string tx] rfl rfl (one_newS W3 _ _) (one_cellS _) (by unfold maxLen;omega) (by omega) (by have:=C4.out.low.size;simp;omega) ?_)
          intro v' w4 hown hgrow _
          obtain⟨a',cap',hv'⟩:=own_one hown
          subst hv'
          have C6:=hideK (C5.out.grown hgrow LB.out NS.out)
          have X6:=hideK (grown_blk hgrow X5.out NX.out)
          have O6:Hid (OwnS w4 w.heap.size (.slice a' (j+1) cap') (l++[tx])):=OwnS.snoc (by rw[HL.out];exact hown)
          clear hown hgrow C5 X5 NS NX LB HLJ O3 X3 C3 C4 y0 y1 y2 r0 r1 r2 hc15
          obtain⟨y0,y1,y2⟩:=cells3 (C6.out.get 0 rfl)
          obtain⟨r0,r1,r2⟩:=cells3 X6.out
          have fx:=fun o=>frozen_of_row w4 (g8+1) o _ _ X6.out
          have ne15:¬g15=g8+1:=ty_ne (C6.out.get 0 rfl) X6.out (by decide)
          have ne15':¬g8+1=g15:=fun h=>ne15 h.symm
          have C8:Hid (Cx w (w4.setCell ⟨g8+1,2,none⟩ (.slice a' (j+1) cap')) L):=Cx.set ⟨C6.out.low,fun x hx=>C6.out.blk x (List.mem_cons_of_mem _ hx)⟩ (by have:=HGX.out;omega) HNE.out 2 _
          have X8:=hideK (set_j3 X6.out (.slice a' (j+1) cap')).2.2
          have O8:=hideK (OwnS.setO O6.out X6.out (by decide) 2 (.slice a' (j+1) cap'))
          go_wp2_with fail
          go_roundw
          case rel=>exact⟨j+1,pp,l++[tx],a',cap',by go_num,rfl,by omega,by rw[List.length_append,HL.out];rfl,by rw[HP.out,HNJ.out,HY1.out],O8.out,X8.out,C8.out⟩
          case measure=>simp[intOf];omega
         ·have hc':(c != 0)=true:=by simp;exact hc
          have HX:=hideK (HIN1.out (HPA.out (by rw[HP.out,HNJ.out,HN.out hc])))
          obtain⟨q0,q1',q2'⟩:=cells3 (C4.out.get 5 G4.out)
          have ff:=fun o=>frozen_of_row W3 w.heap.size o _ _ (C4.out.get 5 G4.out)
          have s3:=set3_all (C4.out.get 5 G4.out) (.int .i64 i) (.string t2) (.slice a j cap)
          have E3:=hideK (set3_low C4.out.low (Nat.le_refl _) (.int .i64 i) (.string t2) (.slice a j cap))
          clear HY HN hc
          go_wp2_with fail
          exact bodyPost_ret (v:=.tuple #[.agg #[.int .i64 i,.string t2,.slice a j cap],.int .i64 0,.bool false]) (by simp[results,Tryz.results81,go_sem,s3.1,s3.2.1,s3.2.2]) rfl ⟨.inr ⟨HX.out,i,t2,a,j,cap,0,rfl⟩,E3.out⟩
        ·obtain rfl:j=k:=by omega
         have HPE:Hid (pathR u j q3 []=some (l,e1)):=by unfold Hid;rw[HP.out,Nat.sub_self,pathR]
         have HQ:=hideK (HYE.out (l,e1) HPE.out)
         have hltD:decide ((j:Int)<(j:Int))=false:=by simp
         obtain⟨r0,r1,r2⟩:=cells3 X.out
         obtain⟨t0,t1,t2'⟩:=cells3 (CX.out.get 4 G7.out)
         obtain⟨q0,q1',q2'⟩:=cells3 (CX.out.get 5 G4.out)
         have ff:=fun o=>frozen_of_row wr w.heap.size o _ _ (CX.out.get 5 G4.out)
         have n7:¬g7=w.heap.size:=ty_ne (CX.out.get 4 G7.out) (CX.out.get 5 G4.out) (by decide)
         have n7':¬w.heap.size=g7:=fun h=>n7 h.symm
         have n8:¬g8=w.heap.size:=ty_ne (CX.out.get 3 G8.out) (CX.out.get 5 G4.out) (by decide)
         have n8':¬w.heap.size=g8:=fun h=>n8 h.symm
         have s3:=set3_all (CX.out.get 5 G4.out) (.int .i64 i) (.string t2) (.slice a j cap)
         have E3:=hideK (set3_low CX.out.low (Nat.le_refl _) (.int .i64 i) (.string t2) (.slice a j cap)).drew
         have O4:Hid (PathIn (((wr.setCell ⟨w.heap.size,0,none⟩ (.int .i64 i)).setCell ⟨w.heap.size,1,none⟩ (.string t2)).setCell ⟨w.heap.size,2,none⟩ (.slice a j cap)).drew (.slice a j cap) l):=pathIn_drew (PathIn.keeps (pathIn_own O.out) (KeepsS.set3 (CX.out.get 5 G4.out) (by decide) _ _ _))
         by_cases he:e1=u.size
         ·have he':((e1:Int)==(u.size:Int))=true:=by rw[he];simp
          have HR:=hideK (HOK1.out (i,t2,l) (by rw[HQ.out];exact if_pos he))
          have HE:=hideK he
          clear he
          go_upto_region 21 with fail
          go_region
          all_goals (
           go_wp2_with fail
           exact bodyPost_ret (v:=.tuple #[.agg #[.int .i64 i,.string t2,.slice a j cap],.int .i64 p1,.bool true]) (by simp[results,Tryz.results81,go_sem,s3.1,s3.2.1,s3.2.2]) rfl ⟨.inl ⟨((i,t2,l),p1),_,HR.out,rfl,O4.out⟩,E3.out⟩)
         ·have he':((e1:Int)==(u.size:Int))=false:=beq_eq_false_iff_ne.2 (by omega)
          have he2:¬(e1:Int)=(u.size:Int):=by omega
          have HR:=hideK (HIN1.out (by rw[HQ.out];exact if_neg he))
          go_upto_region 21 with fail
          go_region
          all_goals (
           go_wp2_with fail
           exact bodyPost_ret (v:=.tuple #[.agg #[.int .i64 i,.string t2,.slice a j cap],.int .i64 p1,.bool false]) (by simp[results,Tryz.results81,go_sem,s3.1,s3.2.1,s3.2.2]) rfl ⟨.inr ⟨HR.out,i,t2,a,j,cap,p1,rfl⟩,E3.out⟩)
      ·have HX:=hideK (HIN1.out (INO.out (fun h=>k4 ⟨h.2.2.2.1,h.2.2.2.2⟩)))
       have HIS:=hideK (fun W=>is_no n 0 20 W (by omega))
       obtain⟨q0,q1',q2'⟩:=cells3 (C5.out.get 6 rfl)
       obtain⟨r0,r1,r2⟩:=cells3 (C5.out.get 3 rfl)
       clear k4
       go_wp2_with fail
       refine(HIS.out _).mono ?_
       rintro e1 v6 ⟨rfl,hw⟩
       subst v6
       obtain⟨q0,q1',q2'⟩:=cells3 (C5.out.get 6 rfl)
       obtain⟨r0,r1,r2⟩:=cells3 (C5.out.get 3 rfl)
       have ff:=fun o=>frozen_of_row W5 w.heap.size o _ _ (C5.out.get 6 rfl)
       have s3:=set3_all (C5.out.get 6 rfl) (.int .i64 0) (.string ⟨#[]⟩) (.slice none 0 0)
       have E3:=hideK (set3_low C5.out.low (Nat.le_refl _) (.int .i64 0) (.string ⟨#[]⟩) (.slice none 0 0))
       go_wp2_with fail
       exact bodyPost_ret (v:=.tuple #[.agg #[.int .i64 0,.string ⟨#[]⟩,.slice none 0 0],.int .i64 0,.bool false]) (by simp[results,Tryz.results81,go_sem,s3.1,s3.2.1,s3.2.2]) rfl ⟨.inr ⟨HX.out,0,⟨#[]⟩,none,0,0,0,rfl⟩,E3.out⟩
     ·have k3':(d3 != 0)=true:=by simp;exact k3
      have HX:=hideK (HIN1.out (INO.out (fun h=>k3 h.2.2.1)))
      obtain⟨q0,q1',q2'⟩:=cells3 (C5.out.get 6 rfl)
      obtain⟨r0,r1,r2⟩:=cells3 (C5.out.get 3 rfl)
      have ff:=fun o=>frozen_of_row W5 w.heap.size o _ _ (C5.out.get 6 rfl)
      have s3:=set3_all (C5.out.get 6 rfl) (.int .i64 0) (.string ⟨#[]⟩) (.slice none 0 0)
      have E3:=hideK (set3_low C5.out.low (Nat.le_refl _) (.int .i64 0) (.string ⟨#[]⟩) (.slice none 0 0))
      go_wp2_with fail
      exact bodyPost_ret (v:=.tuple #[.agg #[.int .i64 0,.string ⟨#[]⟩,.slice none 0 0],.int .i64 0,.bool false]) (by simp[results,Tryz.results81,go_sem,s3.1,s3.2.1,s3.2.2]) rfl ⟨.inr ⟨HX.out,0,⟨#[]⟩,none,0,0,0,rfl⟩,E3.out⟩
    ·have k2':(d2 != 0)=true:=by simp;exact k2
     have HX:=hideK (HIN1.out (INO.out (fun h=>k2 h.2.1)))
     obtain⟨q0,q1',q2'⟩:=cells3 (C5.out.get 6 rfl)
     obtain⟨r0,r1,r2⟩:=cells3 (C5.out.get 3 rfl)
     have ff:=fun o=>frozen_of_row W5 w.heap.size o _ _ (C5.out.get 6 rfl)
     have s3:=set3_all (C5.out.get 6 rfl) (.int .i64 0) (.string ⟨#[]⟩) (.slice none 0 0)
     have E3:=hideK (set3_low C5.out.low (Nat.le_refl _) (.int .i64 0) (.string ⟨#[]⟩) (.slice none 0 0))
     go_wp2_with fail
     exact bodyPost_ret (v:=.tuple #[.agg #[.int .i64 0,.string ⟨#[]⟩,.slice none 0 0],.int .i64 0,.bool false]) (by simp[results,Tryz.results81,go_sem,s3.1,s3.2.1,s3.2.2]) rfl ⟨.inr ⟨HX.out,0,⟨#[]⟩,none,0,0,0,rfl⟩,E3.out⟩
   ·have k1':(d1 != 0)=true:=by simp;exact k1
    have HX:=hideK (HIN1.out (INO.out (fun h=>k1 h.1)))
    obtain⟨q0,q1',q2'⟩:=cells3 (C5.out.get 6 rfl)
    obtain⟨r0,r1,r2⟩:=cells3 (C5.out.get 3 rfl)
    have ff:=fun o=>frozen_of_row W5 w.heap.size o _ _ (C5.out.get 6 rfl)
    have s3:=set3_all (C5.out.get 6 rfl) (.int .i64 0) (.string ⟨#[]⟩) (.slice none 0 0)
    have E3:=hideK (set3_low C5.out.low (Nat.le_refl _) (.int .i64 0) (.string ⟨#[]⟩) (.slice none 0 0))
    go_wp2_with fail
    exact bodyPost_ret (v:=.tuple #[.agg #[.int .i64 0,.string ⟨#[]⟩,.slice none 0 0],.int .i64 0,.bool false]) (by simp[results,Tryz.results81,go_sem,s3.1,s3.2.1,s3.2.2]) rfl ⟨.inr ⟨HX.out,0,⟨#[]⟩,none,0,0,0,rfl⟩,E3.out⟩
  ·have h2':(c2 != 0)=true:=by simp;exact h2
   have HX:=hideK (HNO.out (fun h=>h2 h.2))
   obtain⟨q0,q1',q2'⟩:=cells3 (C2.out.get 3 rfl)
   obtain⟨r0,r1,r2⟩:=cells3 (C2.out.get 0 rfl)
   have ff:=fun o=>frozen_of_row W2 w.heap.size o _ _ (C2.out.get 3 rfl)
   have s3:=set3_all (C2.out.get 3 rfl) (.int .i64 0) (.string ⟨#[]⟩) (.slice none 0 0)
   have E3:=hideK (set3_low C2.out.low (Nat.le_refl _) (.int .i64 0) (.string ⟨#[]⟩) (.slice none 0 0))
   go_wp2_with fail
   exact bodyPost_ret (v:=.tuple #[.agg #[.int .i64 0,.string ⟨#[]⟩,.slice none 0 0],.int .i64 0,.bool false]) (by simp[results,Tryz.results81,go_sem,s3.1,s3.2.1,s3.2.2]) rfl ⟨.inr ⟨HX.out,0,⟨#[]⟩,none,0,0,0,rfl⟩,E3.out⟩
 ·have h1':(c1 != 0)=true:=by simp;exact h1
  have HX:=hideK (HNO.out (fun h=>h1 h.1))
  obtain⟨q0,q1',q2'⟩:=cells3 (C2.out.get 3 rfl)
  obtain⟨r0,r1,r2⟩:=cells3 (C2.out.get 0 rfl)
  have ff:=fun o=>frozen_of_row W2 w.heap.size o _ _ (C2.out.get 3 rfl)
  have s3:=set3_all (C2.out.get 3 rfl) (.int .i64 0) (.string ⟨#[]⟩) (.slice none 0 0)
  have E3:=hideK (set3_low C2.out.low (Nat.le_refl _) (.int .i64 0) (.string ⟨#[]⟩) (.slice none 0 0))
  go_wp2_with fail
  exact bodyPost_ret (v:=.tuple #[.agg #[.int .i64 0,.string ⟨#[]⟩,.slice none 0 0],.int .i64 0,.bool false]) (by simp[results,Tryz.results81,go_sem,s3.1,s3.2.1,s3.2.2]) rfl ⟨.inr ⟨HX.out,0,⟨#[]⟩,none,0,0,0,rfl⟩,E3.out⟩
end Go.Proofs.YtikiihjabbmkcaaGreatDoor.Kp


namespace Go.Proofs.YtikiihjabbmkcaaGreatDoor.Kp
open Go.RowKit
open Ls (lV cells3 lowL blkL)
open Ap (Own0 KeepE wpList_append_own0k)
open St (Strs)
def RowQ (W:World) (base:Nat) (v:Value) (m:List MR):Prop:=Own0 W base 124 3 v m.length (cellsR m)
theorem RowQ.one {W:World} {base:Nat} {v:Value} {m:List MR} (h:RowQ W base v m):∃ a cap,v=.slice a m.length cap/\(0<m.length->∃ g,a=some ⟨g,0,none⟩/\g<W.heap.size/\m.length<=cap /\
  ∀ i (hi:i<m.length),W.cell? ⟨g,i*3,none⟩=some (.int .i64 m[i].1.1)/\W.cell? ⟨g,i*3+1,none⟩=some (.string m[i].1.2.1)/\W.cell? ⟨g,i*3+2,none⟩=some m[i].2):=by
 rcases h with⟨b,rfl,hn,_⟩|⟨_,h⟩
 ·exact⟨_,0,by rw[hn],fun h=>absurd h (by omega)⟩
 ·rcases h with⟨rfl,h0⟩|⟨g,cap,cur,hv,hg,hb,hn,_,hs,ht⟩
  ·exact⟨none,0,by rw[h0],fun h=>absurd h (by omega)⟩
  ·refine⟨_,cap,hv,fun _=>⟨g,rfl,lt_rowK hb,hn,fun i hi=>?_⟩⟩
   have hc:=cellsR_at m i hi
   rw[<-ht]at hc
   rw[List.getElem?_take_of_lt (by omega),List.getElem?_take_of_lt (by omega),List.getElem?_take_of_lt (by omega),Array.getElem?_toList,Array.getElem?_toList,Array.getElem?_toList]at hc
   exact⟨(cell_of_row W g _ _ _ _ hb).trans hc.1,(cell_of_row W g _ _ _ _ hb).trans hc.2.1,(cell_of_row W g _ _ _ _ hb).trans hc.2.2⟩
theorem RowQ.below {w w':World} {base:Nat} {v:Value} {m:List MR} (h:RowQ w base v m) (b:Below w.heap.size w w'):RowQ w' base v m:=Own0.below h b
def HasOut (m:List MR) (i:Int) (e:Ending):Prop :=
 (∃ (j:Nat) (hj:j<m.length),m[j].1.1=i/\(∀ k (hk:k<j),¬(m[k]'(Nat.lt_trans hk hj)).1.1=i)/\e=.returned (.int .i64 j))∨((∀ j (hj:j<m.length),¬m[j].1.1=i)/\e=.returned (.int .i64 (-1)))
theorem l08Has_any (base n:Nat) (i:Int) (v:Value) (m:List MR) (w:World) (ho:RowQ w base v m) (hn:m.length=n) (hm:n<=1048576) :
  Calls Tryz.prog 82 #[v,.int .i64 i] w fun r w'=>HasOut m i r/\w'=w:=by
 have HN:=hideK hn
 obtain⟨a,cap,hv,hc⟩:=ho.one
 subst hv
 have HC:=hideK hc
 rw[hn]
 clear ho hc hn
 go_enter Tryz.func82,Tryz.ntmps82
 go_wp2_with fail
 go_loopw [5] (fun jv wr=>∃ (j:Nat),jv=.int .i64 j/\j<=n/\(∀ k (hk:k<m.length),k<j->¬m[k].1.1=i)/\wr=w) (fun jv _=>n-(intOf jv).toNat)
 case atStart=>exact⟨0,rfl,Nat.zero_le _,fun k _ h=>absurd h (Nat.not_lt_zero _),rfl⟩
 case round =>
  obtain⟨j,rfl,hj,hno,hw⟩:=hrel
  subst wr
  have NO:=hideK hno
  clear hno
  by_cases hlt:j<n
  ·have hlt':(j:Int)<(n:Int):=by omega
   have hjm:j<m.length:=by rw[HN.out];exact hlt
   obtain⟨g,rfl,hgl,_,hcl⟩:=HC.out (by rw[HN.out];omega)
   have e0:=(hcl j hjm).1
   have HI:Hid (m[j].1.1=i->HasOut m i (.returned (.int .i64 j))):=fun he=>.inl ⟨j,hjm,he,fun k hk=>NO.out k (Nat.lt_trans hk hjm) hk,rfl⟩
   have HQ:Hid (¬m[j].1.1=i->∀ k (hk:k<m.length),k<j+1->¬m[k].1.1=i):=fun he k hk hk1=>by
    by_cases hkj:k<j
    ·exact NO.out k hk hkj
    ·have:k=j:=by omega
     subst this
     exact he
   generalize m[j].1.1=xi at e0 HI HQ
   clear hcl hjm
   by_cases he:xi=i
   ·subst he
    have HI2:=hideK (HI.out rfl)
    go_wp2_with fail
    go_ret
    exact⟨HI2.out,rfl⟩
   ·have he':(xi==i)=false:=beq_eq_false_iff_ne.2 he
    have HQ2:=hideK (HQ.out he)
    go_wp2_with fail
    go_roundw
    case rel=>exact⟨j+1,by go_num,by omega,HQ2.out,by trivial⟩
    case measure=>simp[intOf];omega
  ·have hltD:decide ((j:Int)<(n:Int))=false:=by simp;omega
   have hlt2:¬((j:Int)<(n:Int)):=by omega
   have NN:Hid (HasOut m i (.returned (.int .i64 (-1)))):=.inr ⟨fun k hk=>NO.out k hk (by have:=HN.out;omega),rfl⟩
   go_wp2_with fail
   go_ret
   exact⟨NN.out,rfl⟩
theorem HasOut.cases {m:List MR} {i:Int} {e:Ending} (h:HasOut m i e):(hasR (recs m) i=true/\∃ j:Nat,e=.returned (.int .i64 j))∨(hasR (recs m) i=false/\e=.returned (.int .i64 (-1))):=by
 rcases h with⟨j,hj,he,_,rfl⟩|⟨hno,rfl⟩
 ·exact .inl ⟨find_some hj he,j,rfl⟩
 ·exact .inr ⟨find_none hno,rfl⟩
def FitS (fit:Rec->Bool) (z b:Int) (r:ByteArray) (w:World):Prop :=
 ∀ (W:World) (x:MR),Below w.heap.size w W->x.1.2.1.size<=8000->x.1.2.2.length<=20->(∃ a cap,x.2=.slice a x.1.2.2.length cap/\x.1.2.2.length<=cap/\Strs W W.heap.size a x.1.2.2)->Calls Tryz.prog 83 #[lV z b r,.int .i64 x.1.1,.string x.1.2.1,x.2] W fun e w'=>e=.returned (.bool (fit x.1))/\Below W.heap.size W w'
theorem FitS.later {fit:Rec->Bool} {z b:Int} {r:ByteArray} {w w':World} (h:FitS fit z b r w) (hb:Below w.heap.size w w'):FitS fit z b r w':=fun W x hW=>h W x (lowL hb hW)
def AllOut (fit:Rec->Bool) (s:ByteArray) (base:Nat) (e:Ending) (w':World):Prop :=
 ∃ v m,e=.returned (.tuple #[v,.int .i64 (allR fit s).2])/\recs m=(allR fit s).1/\RowQ w' base v m/\Paths w' m
structure FarQ (fit:Rec->Bool) (z b:Int) (r s:ByteArray) (gl:Nat) (w wr:World) (v:Value) (m:List MR) (e:Nat):Prop where
 cx:Cx w wr [(gl,.cells #[.int .i64 z,.int .i64 b,.string r] 29)]
 all:goR fit s (s.size-e) (recs m) e=allR fit s
 row:RowQ wr w.heap.size v m
 ps:Paths wr m
 ml:m.length<=e
 el:e<=s.size
theorem FarQ.call {fit:Rec->Bool} {z b:Int} {r s:ByteArray} {gl:Nat} {w wr w':World} {v:Value} {m:List MR} {e:Nat} (h:FarQ fit z b r s gl w wr v m e) (hb:Below wr.heap.size wr w'):FarQ fit z b r s gl w w' v m e :=
 ⟨h.cx.call hb,h.all,h.row.below hb,h.ps.keeps (KeepsS.below hb),h.ml,h.el⟩
theorem FarQ.put {fit:Rec->Bool} {z b:Int} {r s:ByteArray} {gl:Nat} {w wr w':World} {v v':Value} {m:List MR} {e:Nat} {x:Rec × Nat} {xv:Value} (h:FarQ fit z b r s gl w wr v m e) (hx:recR s e=some x) (hf:fit x.1=true) (hh:hasR (recs m) x.1.1=false) (hp:PathIn wr xv x.1.2.2)
  (h2:w'.ownsRow w.heap.size 124 3 v' (m.length+1) (cellsR m++[.int .i64 x.1.1,.string x.1.2.1,xv])) (h3:∀ B,B<=w.heap.size->Below B wr w') (h4:KeepE 124 wr w'):FarQ fit z b r s gl w w' v' (m++[(x.1,xv)]) x.2:=by
 have hfx:=recR_facts hx
 have hk:KeepsS wr w':=fun g cur hg=>h4 g cur _ (by decide) hg
 refine⟨⟨h.cx.low.trans (h3 _ (Nat.le_refl _)),?_⟩,?_,.inr ?_,?_,?_,hfx.2.1⟩
 ·intro q hq
  rw[List.mem_singleton.1 hq]
  exact h4 gl _ _ (by decide) (h.cx.get 0 rfl)
 ·rw[<-h.all,goR_step hx hf hh]
  unfold recs
  rw[List.map_append]
  rfl
 ·rw[List.length_append,cellsR_append]
  exact h2
 ·intro q hq
  rcases List.mem_append.1 hq with hq|hq
  ·exact(h.ps q hq).keeps hk
  ·rw[List.mem_singleton.1 hq]
   exact hp.keeps hk
 ·rw[List.length_append]
  have:=h.ml
  simp
  omega
theorem Tryz.infoRecordS:(Tryz.prog.info? 124).map (fun i=>(i.zero,i.size,i.bytes))=some (some (.agg #[.int .i64 0,.string ⟨#[]⟩,.slice none 0 0]),3,48):=by kernel_rfl
theorem FarQ.done {fit:Rec->Bool} {z b:Int} {r s:ByteArray} {gl:Nat} {w wr:World} {v:Value} {m:List MR} {e:Nat} (h:FarQ fit z b r s gl w wr v m e) (hd:goR fit s (s.size-e) (recs m) e=(recs m,e)):AllOut fit s w.heap.size (.returned (.tuple #[v,.int .i64 e])) wr/\Below w.heap.size w wr:=by
 have hall:allR fit s=(recs m,e):=by rw[<-h.all,hd]
 exact⟨⟨v,m,by rw[hall],by rw[hall],h.row,h.ps⟩,h.cx.low⟩
theorem l08All_any (fit:Rec->Bool) (z b:Int) (r s:ByteArray) (w:World) (hs:s.size<=1048576) (hf:FitS fit z b r w) :
  Calls Tryz.prog 42 #[lV z b r,.string s] w fun e w'=>AllOut fit s w.heap.size e w'/\Below w.heap.size w w':=by
 obtain⟨i0,hif,hz0,hz1,hz2⟩:=info_parts Tryz.infoRecordS
 have HF:=hideK hf
 have C0:=hideK (((Cx.nil w).new (.cells #[.int .i64 z,.int .i64 b,.string r] 29)))
 unfold lV
 clear hf
 go_enter Tryz.func42,Tryz.ntmps42
 go_wp2_with fail
 have F0:Hid (FarQ fit z b r s w.heap.size w ((w.alloc (.cells #[.int .i64 z,.int .i64 b,.string r] 29)).alloc (.cells #[] 124)) (.slice (some ⟨w.heap.size+1,0,none⟩) 0 0) [] 0):=⟨C0.out.call ((Below.refl _ _).alloc (Nat.le_refl _) _),rfl,.inl ⟨_,rfl,rfl,rfl⟩,fun x hx=>absurd hx List.not_mem_nil,Nat.zero_le _,Nat.zero_le _⟩
 clear C0
 go_loopw [6,7,8,9,10] (fun lv ev _ _ _ wr=>∃ v m e,lv=v/\ev=.int .i64 ((e:Nat):Int)/\FarQ fit z b r s w.heap.size w wr v m e) (fun _ ev _ _ _ _=>s.size-(intOf ev).toNat)
 case atStart=>exact⟨_,[],0,rfl,rfl,F0.out⟩
 case round =>
  obtain⟨v,m,e,rfl,rfl,hfar⟩:=hrel
  have F:=hideK hfar
  obtain⟨a0,cap0,hv,_⟩:=hfar.row.one
  subst hv
  clear hfar F0
  by_cases hlt:e<s.size
  ·have hlt':(e:Int)<(s.size:Int):=by omega
   have HRR:=hideK (l08Read_any s e wr hs)
   go_wp2_with fail
   refine HRR.out.mono ?_
   rintro e' w1 ⟨hro,hb⟩
   have F1:=hideK (F.out.call hb)
   clear hb HRR F
   rcases hro with⟨x,xv,hx,rfl,hp⟩|⟨hx,xi,xt,xa,xn,xc,xk,rfl⟩
   ·obtain⟨ap,cp,rfl,_,_⟩:=hp.strs
    have hfx:=recR_facts hx
    have HX:=hideK hx
    have F2:=hideK (F1.out.call ((Below.refl _ w1).alloc (Nat.le_refl _) (.cells #[.int .i64 x.1.1,.string x.1.2.1,.slice ap x.1.2.2.length cp] 124)))
    have P2:=hideK (hp.keeps (KeepsS.below ((Below.refl _ w1).alloc (Nat.le_refl _) (.cells #[.int .i64 x.1.1,.string x.1.2.1,.slice ap x.1.2.2.length cp] 124))))
    have X2:Hid ((w1.alloc (.cells #[.int .i64 x.1.1,.string x.1.2.1,.slice ap x.1.2.2.length cp] 124)).heap[w1.heap.size]? = some (.cells #[.int .i64 x.1.1,.string x.1.2.1,.slice ap x.1.2.2.length cp] 124 (0,0))):=heap_alloc_new w1 _
    clear hp hx F1
    obtain⟨⟨xi,xt,xp⟩,xe⟩:=x
    dsimp only at F2 P2 X2 HX hfx ⊢
    go_upto_region 5 with fail
    generalize w1.alloc (.cells #[.int .i64 xi,.string xt,.slice ap xp.length cp] 124)=W2 at F2 P2 X2 ⊢
    generalize w1.heap.size=gx at X2 ⊢
    obtain⟨x0,x1,x2⟩:=cells3 X2.out
    obtain⟨l0,l1,l2⟩:=cells3 (F2.out.cx.get 0 rfl)
    have HHS:=hideK (l08Has_any w.heap.size m.length xi _ m W2 F2.out.row rfl (by have:=F2.out.ml;have:=F2.out.el;omega))
    have HFX:=hideK (HF.out W2 ((xi,xt,xp),.slice ap xp.length cp) F2.out.cx.low hfx.2.2.2.2 hfx.2.2.2.1 P2.out.strs)
    unfold lV at HFX
    dsimp only at HFX
    go_wp2_with fail
    refine HHS.out.mono ?_
    rintro e3 w3 ⟨hho,hw⟩
    subst w3
    rcases hho.cases with⟨hhas,jh,rfl⟩|⟨hhas,rfl⟩
    ·have HBD:Hid (goR fit s (s.size-e) (recs m) e=(recs m,e)):=goR_bad HX.out (fun h=>by have:=h.2;rw[hhas]at this;cases this)
     have HD:=hideK (F2.out.done HBD.out)
     clear hho hhas HHS HFX
     go_wp2_with fail
     go_ret2
     exact HD.out
    ·cases hfit:fit (xi,xt,xp) with
     |false =>
      rw[hfit]at HFX
      have HBD:Hid (goR fit s (s.size-e) (recs m) e=(recs m,e)):=goR_bad HX.out (fun h=>by have:=h.1;rw[hfit]at this;cases this)
      clear hho hhas HHS hfit
      go_wp2_with fail
      refine HFX.out.mono ?_
      rintro e4 w4 ⟨rfl,hb⟩
      have HD:=hideK ((F2.out.call hb).done HBD.out)
      clear hb
      go_wp2_with fail
      go_ret2
      exact HD.out
     |true =>
      rw[hfit]at HFX
      have HXF:=hideK (And.intro hfit hhas)
      clear hho hhas HHS hfit
      go_wp2_with fail
      refine HFX.out.mono ?_
      rintro e4 w4 ⟨rfl,hb⟩
      have F4:=hideK (F2.out.call hb)
      have P4:=hideK (P2.out.keeps (KeepsS.below hb))
      have X4:=hideK (blkL X2.out hb)
      clear hb F2 P2 X2 HFX x0 x1 x2 l0 l1 l2
      obtain⟨x0,x1,x2⟩:=cells3 X4.out
      have F5:=hideK (F4.out.call ((Below.refl _ w4).alloc (Nat.le_refl _) (.cells #[.int .i64 xi,.string xt,.slice ap xp.length cp] 124)))
      have P5:=hideK (P4.out.keeps (KeepsS.below ((Below.refl _ w4).alloc (Nat.le_refl _) (.cells #[.int .i64 xi,.string xt,.slice ap xp.length cp] 124))))
      have hlow:=F4.out.cx.low.size
      have hml:=F4.out.ml
      have hel:=F4.out.el
      have ROW:Hid (Own0 (w4.alloc (.cells #[.int .i64 xi,.string xt,.slice ap xp.length cp] 124)) w.heap.size 124 3 (.slice a0 m.length cap0) m.length (cellsR m)):=F5.out.row
      have FP:=hideK (fun (wb:World) (va:Value)=>F5.out.put (w':=wb) (v':=va) (x:=((xi,xt,xp),xe)) (xv:=.slice ap xp.length cp) HX.out HXF.out.1 HXF.out.2 P5.out)
      dsimp only at FP
      generalize hmn:m.length=n at ROW FP hml ⊢
      go_wp2_with (at_builtin;refine wpList_append_own0k _ rfl (.tmp 43) (.tmp 45) 72 rfl w.heap.size 124 i0 _ 3 48 Tryz.underlying72 hif hz0 hz1 hz2 rfl (by decide) _ _ _ rfl ROW.out ⟨w4.heap.size,0,none⟩ 1 1 [.int .i64 xi,.string xt,.slice ap xp.length cp] rfl rfl (three_new w4 _ _ _ _) (three_one rfl rfl rfl) (by decide) (by unfold maxLen;omega) (by omega) (by simp;omega) ?_)
      intro v' w5 hown hB hK
      have F6:=hideK (FP.out w5 v' hown hB hK)
      clear hown hB hK FP ROW F5 P5 F4 P4 X4 x0 x1 x2
      go_wp2_with fail
      go_roundw
      case rel=>exact⟨_,_,_,rfl,rfl,F6.out⟩
      case measure=>simp[intOf];omega
   ·have HBD:Hid (goR fit s (s.size-e) (recs m) e=(recs m,e)):=goR_none hx
    have F2:=hideK (F1.out.call ((Below.refl _ w1).alloc (Nat.le_refl _) (.cells #[.int .i64 xi,.string xt,.slice xa xn xc] 124)))
    have HD:=hideK (F2.out.done HBD.out)
    clear hx F1 F2
    go_wp2_with fail
    go_ret2
    exact HD.out
  ·have hltD:decide ((e:Int)<(s.size:Int))=false:=by simp;omega
   have hlt2:¬((e:Int)<(s.size:Int)):=by omega
   have HBD:Hid (goR fit s (s.size-e) (recs m) e=(recs m,e)):=goR_end (by omega)
   have HD:=hideK (F.out.done HBD.out)
   go_wp2_with fail
   go_ret2
   exact HD.out
end Go.Proofs.YtikiihjabbmkcaaGreatDoor.Kp


/- cutKeep, KeepSync, KeepRecover of the program. -/
namespace Go.Proofs.YtikiihjabbmkcaaGreatDoor.Kp
open Go.RowKit
open Ls (HH hh_keep lV lowL blkL)
def syncV (fit:Rec->Bool) (z b:Int) (r s:ByteArray) (y:Int):Value:=if keepB fit z b r s y=true then kV z b r s s.size else kV z b r s y
def recoverV (fit:Rec->Bool) (z b:Int) (r s:ByteArray) (y:Int):Value:=if mayB z b r s=true then kV z b r (s.extract 0 (allR fit s).2) (allR fit s).2 else kV z b r s y
theorem keepB_yes {fit:Rec->Bool} {z b:Int} {r s:ByteArray} {y:Int} (h:keepB fit z b r s y=true):mayB z b r s=true/\(allR fit s).2=s.size/\spanB s y=true:=by
 unfold keepB atB at h
 simp only[Bool.and_eq_true,decide_eq_true_eq]at h
 exact⟨h.1.1,h.1.2,h.2⟩
end Go.Proofs.YtikiihjabbmkcaaGreatDoor.Kp


/- PieceOf of the program. -/
namespace Go.Proofs.YtikiihjabbmkcaaGreatDoor.Kp
open Go.RowKit
open Ls (HH hh_keep lV lowL blkL cells3 set3_all)
def pieceR (out:List Rec) (i:Int):Option ByteArray:=(out.find? fun x=>x.1==i).map (·.2.1)
def pieceV (fit:Rec->Bool) (z b:Int) (r s:ByteArray) (y i:Int):Value :=
 if keepB fit z b r s y=true then
  match pieceR (allR fit s).1 i with
  |some t=>.agg #[.string t,.int .i64 0,.int .i64 0]
  |none=>.agg #[.string ⟨#[]⟩,.int .i64 0,.int .i64 6]
 else .agg #[.string ⟨#[]⟩,.int .i64 0,.int .i64 1]
def tZ:Obj:=.cells #[.string ⟨#[]⟩,.int .i64 0,.int .i64 0] 170
end Go.Proofs.YtikiihjabbmkcaaGreatDoor.Kp


namespace Go.Proofs.YtikiihjabbmkcaaGreatDoor.Kp
open Go.RowKit
open Bi (is_yes is_no)
open Ls (rightB right_spec lV lowL blkL cells3 set3_all)
theorem keepB_no {fit:Rec->Bool} {z b:Int} {r s:ByteArray} {y:Int} (h:¬(rightB z b r=true/\s.size<=8000/\0<=y/\y<=s.size)):keepB fit z b r s y=false:=by
 rw[<-Bool.not_eq_true]
 intro h2
 obtain⟨h3,_,h5⟩:=keepB_yes h2
 unfold mayB at h3
 unfold spanB at h5
 simp only[Bool.and_eq_true,decide_eq_true_eq]at h3 h5
 exact h ⟨h3.1,h3.2,h5.1,h5.2⟩
theorem keepB_at {fit:Rec->Bool} {z b:Int} {r s:ByteArray} {y:Int} (h:rightB z b r=true/\s.size<=8000/\0<=y/\y<=s.size):keepB fit z b r s y=(((allR fit s).2:Int)==(s.size:Int)):=by
 unfold keepB atB mayB spanB
 rw[h.1,decide_eq_true h.2.1,decide_eq_true h.2.2.1,decide_eq_true h.2.2.2]
 by_cases he:(allR fit s).2=s.size
 ·rw[decide_eq_true he,he];simp
 ·rw[decide_eq_false he];simp;omega
theorem keepRight_spec (fit:Rec->Bool) (z b:Int) (r s:ByteArray) (y:Int) (w:World) (hs:s.size<=1048576) (hf:rightB z b r=true->FitS fit z b r w) :
  Calls Tryz.prog 41 #[kV z b r s y] w fun e w'=>e=.returned (.bool (keepB fit z b r s y))/\Below w.heap.size w w':=by
 have C0:=hideK ((Cx.nil w).new (kB z b r s y))
 have HR:=hideK (fun W=>right_spec z b r W)
 unfold kV
 unfold kB at C0
 unfold lV at HR
 cases hr:rightB z b r with
 |false =>
  have HK:=hideK (keepB_no (fit:=fit) (z:=z) (b:=b) (r:=r) (s:=s) (y:=y) (fun h=>by rw[hr]at h;exact Bool.false_ne_true h.1))
  rw[HK.out]
  rw[hr]at HR
  clear hr HK hf
  go_enter Tryz.func41,Tryz.ntmps41
  go_wp2_with fail
  refine(HR.out _).mono ?_
  rintro e w1 ⟨rfl,hb⟩
  have C1:=hideK (C0.out.call hb)
  clear hb C0
  go_wp2_with fail
  go_ret
  exact⟨rfl,C1.out.low⟩
 |true =>
  rw[hr]at HR
  by_cases h8:s.size<=8000
  ·have h8':¬((8000:Int)<s.size):=by omega
   have h8D:decide ((8000:Int)<s.size)=false:=by simp;omega
   by_cases hy:0<=y/\y<=s.size
   ·have HIS:=hideK (fun W=>is_yes y 0 s.size W hy.1 hy.2)
    have HK:=hideK (keepB_at (fit:=fit) ⟨hr,h8,hy.1,hy.2⟩)
    rw[HK.out]
    have HA:=hideK (fun W (h:Below w.heap.size w W)=>l08All_any fit z b r s W hs ((hf hr).later h))
    unfold AllOut lV at HA
    clear hr HK hf hy
    go_enter Tryz.func41,Tryz.ntmps41
    go_wp2_with fail
    refine(HR.out _).mono ?_
    rintro e w1 ⟨rfl,hb⟩
    have C1:=hideK (C0.out.call hb)
    clear hb C0
    obtain⟨l0,l1,l2,l3,l4⟩:=k_cells (C1.out.get 0 rfl)
    go_wp2_with fail
    refine(HIS.out _).mono ?_
    rintro e w2 ⟨rfl,hw⟩
    subst w2
    go_wp2_with fail
    refine(HA.out _ C1.out.low).mono ?_
    rintro e w3 ⟨⟨v,m,rfl,h1,h2,h3⟩,hb⟩
    obtain⟨a0,cap0,hv,_⟩:=h2.one
    subst hv
    have C3:=hideK (C1.out.call hb)
    clear hb h1 h2 h3 C1 l0 l1 l2 l3 l4 HA
    obtain⟨l0,l1,l2,l3,l4⟩:=k_cells (C3.out.get 0 rfl)
    go_wp2_with fail
    go_ret
    exact⟨rfl,C3.out.low⟩
   ·have HIS:=hideK (fun W=>is_no y 0 s.size W (by omega))
    have HK:=hideK (keepB_no (fit:=fit) (z:=z) (b:=b) (r:=r) (s:=s) (y:=y) (fun h=>hy ⟨h.2.2.1,h.2.2.2⟩))
    rw[HK.out]
    clear hr HK hf hy
    go_enter Tryz.func41,Tryz.ntmps41
    go_wp2_with fail
    refine(HR.out _).mono ?_
    rintro e w1 ⟨rfl,hb⟩
    have C1:=hideK (C0.out.call hb)
    clear hb C0
    obtain⟨l0,l1,l2,l3,l4⟩:=k_cells (C1.out.get 0 rfl)
    go_wp2_with fail
    refine(HIS.out _).mono ?_
    rintro e w2 ⟨rfl,hw⟩
    subst w2
    go_wp2_with fail
    go_ret
    exact⟨rfl,C1.out.low⟩
  ·have h8':(8000:Int)<s.size:=by omega
   have HK:=hideK (keepB_no (fit:=fit) (z:=z) (b:=b) (r:=r) (s:=s) (y:=y) (fun h=>h8 h.2.1))
   rw[HK.out]
   clear hr HK hf
   go_enter Tryz.func41,Tryz.ntmps41
   go_wp2_with fail
   refine(HR.out _).mono ?_
   rintro e w1 ⟨rfl,hb⟩
   have C1:=hideK (C0.out.call hb)
   clear hb C0
   obtain⟨l0,l1,l2,l3,l4⟩:=k_cells (C1.out.get 0 rfl)
   go_wp2_with fail
   go_ret
   exact⟨rfl,C1.out.low⟩
end Go.Proofs.YtikiihjabbmkcaaGreatDoor.Kp

