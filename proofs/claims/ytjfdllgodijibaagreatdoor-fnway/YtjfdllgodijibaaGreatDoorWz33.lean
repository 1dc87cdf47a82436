/- Texts put together: StrIn, CodesWalks, CodesTop, PutWalks, PutSpec, DrawCs, DrawCg, DrawBo, DrawBk. -/
import Derived.Test.YtjfdllgodijibaaGreatDoorWz18
import Derived.Test.YtjfdllgodijibaaGreatDoorWz32
import Derived.Test.YtjfdllgodijibaaGreatDoorWz13
import Derived.Deep.CutRange
import Derived.Deep.RegionWith
import Derived.BigRegion
import Derived.Test.YtjfdllgodijibaaGreatDoorWz27
set_option maxRecDepth 100000
set_option maxHeartbeats 8000000
/- Rows of texts between two marks of memory: what the laws' helpers do with them. -/
namespace Go.Proofs.YtjfdllgodijibaaGreatDoor.St
open Go.RowKit
def OwnIn (w:World) (lo hi:Nat) (v:Value) (l:List ByteArray):Prop :=
 (v=.slice none 0 0/\l=[])∨∃ g cap,v=.slice (some ⟨g,0,none⟩) l.length cap/\lo<=g/\g<hi/\IsO w g 9 l
theorem OwnIn.below {w w':World} {lo hi B:Nat} {v:Value} {l:List ByteArray} (h:OwnIn w lo hi v l) (b:Below B w w') (hB:hi<=B):OwnIn w' lo hi v l:=by
 rcases h with h|⟨g,cap,hv,hg,hh,ho⟩
 ·exact .inl h
 ·exact .inr ⟨g,cap,hv,hg,hh,ho.below b (by omega)⟩
theorem OwnIn.aft {w w':World} {lo hi g:Nat} {v:Value} {l:List ByteArray} (h:OwnIn w lo hi v l) (ha:Aft g w w') (hg:g<lo∨hi<=g) (hh:hi<=w.heap.size):OwnIn w' lo hi v l:=by
 rcases h with h|⟨g',cap,hv,hg',hh',ho⟩
 ·exact .inl h
 ·exact .inr ⟨g',cap,hv,hg',hh',ho.of_heap (ha.2.2.2.2 g' (by omega) (by omega))⟩
theorem OwnIn.strs {w:World} {lo hi:Nat} {v:Value} {l:List ByteArray} (h:OwnIn w lo hi v l):∃ a cap,v=.slice a l.length cap/\Strs w hi a l:=by
 rcases h with⟨rfl,rfl⟩|⟨g,cap,rfl,_,hh,ho⟩
 ·exact⟨none,0,rfl,.inl rfl⟩
 ·exact⟨_,cap,rfl,ho.strs hh⟩
def Marked (w:World) (lo hi:Nat) (v:Value) (n:Nat):Prop:=OwnIn w lo hi v (marks 1 n)
end Go.Proofs.YtjfdllgodijibaaGreatDoor.St


namespace Go.Proofs.YtjfdllgodijibaaGreatDoor.Bi
open Go.RowKit
open In (Ints)
open St (IsS made_strs OwnIn IsO)
open St.Tryz (infoS9)
theorem below2 {w w1 w2:World} (h:Below w.heap.size w w1) (h2:Below w1.heap.size w1 w2):Below w.heap.size w w2:=h.trans (h2.mono h.size)
theorem codes_spec (l:List Int) (a:Option Addr) (cap B:Nat) (w:World) (hi:Ints w B a l) (hB:B<=w.heap.size) (hr:right l=true) :
  Calls Tryz.prog 97 #[.slice a l.length cap] w fun e w'=>e=.returned (.slice (some ⟨w.heap.size,0,none⟩) l.length l.length)/\IsS w' w.heap.size 9 (codesV l)/\Below w.heap.size w w':=by
 obtain⟨i0,hi0,hz0,hz1,hz2⟩:=info_parts infoS9
 have HS:=hideB (hi.mono hB)
 have HCS:=hideB (right_yes hr).2
 have hn:=(within_yes (right_yes hr).1).1
 clear hi hr
 obtain⟨n,hln⟩:∃ n,n=l.length:=⟨_,rfl⟩
 have HLN:=hideB hln
 rw[<-hln]at hn ⊢
 clear hln
 go_enter Tryz.func97,Tryz.ntmps97
 go_wp2_with (at_make;refine wpList_make_full _ rfl (.tmp 8) (.tmp 8) 23 rfl w.heap.size 9 i0 (.string ⟨#[]⟩) 1 Tryz.underlying23 hi0 hz0 hz1 .i64 .i64 _ _ n rfl rfl (by simp) (by simp) (by rw[hz2];omega) (by unfold maxLen;omega) (Nat.le_refl _) ?_;intro w1 hown1 hgrow1;have HR:=hideB (made_strs hown1);have HB:=hideB ((Below.refl w.heap.size w).grown hgrow1 (Nat.le_refl _) (by simp));clear hown1 hgrow1)
 go_loopw [5,4] (fun i m wr=>∃ v:Nat,i=.int .i64 ((v:Int)+1)/\m=.int .i64 (outN l v:Nat)/\v<=12/\IsS wr w.heap.size 9 (outO l v)/\Below w.heap.size w wr) (fun i _ _=>13-(intOf i).toNat)
 case atStart=>exact⟨0,rfl,rfl,by omega,by simp only[outO];rw[<-HLN.out];exact HR.out,HB.out⟩
 case round =>
  obtain⟨v,rfl,rfl,hv,h1,hbel⟩:=hrel
  have G1:=hideB h1
  have GB:=hideB hbel
  clear h1 hbel
  have ho:=out_small HCS.out hv
  have HOL:=hideB (outO_length l v)
  by_cases hv12:v<12
  ·have HN0:Hid (innN l (v+1) (2*outN l v) 0=2*outN l v):=innN_zero l (v+1) (2*outN l v)
   have HNA:=hideB (innN_all l v)
   have HNL:=hideB (innN_le l (v+1) (2*outN l v))
   have HNF:=hideB (fun (k:Nat) (hk:k<l.length) (e:l[k]=((v+1:Nat):Int))=>inn_fits HCS.out hv12 hk e)
   have HNY:=hideB (fun (k:Nat) (hk:k<l.length) (e:l[k]=((v+1:Nat):Int))=>innN_yes (n0:=2*outN l v) hk e)
   have HNN:=hideB (fun (k:Nat) (hk:k<l.length) (e:¬l[k]=((v+1:Nat):Int))=>innN_no (n0:=2*outN l v) hk e)
   have HOY:=hideB (fun (k:Nat) (hk:k<l.length) (e:l[k]=((v+1:Nat):Int))=>innO_yes (n0:=2*outN l v) (o:=outO l v) hk e)
   have HON:=hideB (fun (k:Nat) (hk:k<l.length) (e:¬l[k]=((v+1:Nat):Int))=>innO_no (n0:=2*outN l v) (o:=outO l v) hk e)
   have HOO:Hid (innO l (v+1) (2*outN l v) (outO l v) l.length=outO l (v+1)):=rfl
   have HIL:=hideB (innO_length l (v+1) (2*outN l v) (outO l v))
   have hpw:2 ^ (v+1)<=4096:=by
    have:=Nat.pow_le_pow_right (n:=2) (by decide) (show v+1<=12 by omega)
    omega
   have HPW:Hid (∀ x:Nat,x<2 ^ (v+1)->x<4096):=fun x hx=>by omega
   clear hpw
   generalize outN l v=no at ho HN0 HNA HNL HNF HNY HNN HOY HON HOO HIL
   have hv13:(v:Int)+1<=12:=by omega
   go_wp2_with fail
   go_loopw [6,4] (fun i m wr2=>∃ k q:Nat,i=.int .i64 k/\m=.int .i64 q/\q=innN l (v+1) (2*no) k/\k<=n/\IsS wr2 w.heap.size 9 (innO l (v+1) (2*no) (outO l v) k)/\Below w.heap.size w wr2) (fun i _ _=>n-(intOf i).toNat)
   case atStart=>exact⟨0,2*no,rfl,by go_num,HN0.out.symm,by omega,G1.out,GB.out⟩
   case round =>
    obtain⟨k,q,rfl,rfl,hq,hk,h2,hbel2⟩:=hrel
    have G2:=hideB h2
    have GB2:=hideB hbel2
    have HQ:=hideB hq
    clear h2 hbel2 hq
    by_cases hlt:k<n
    ·have hkl:k<l.length:=by rw[<-HLN.out];exact hlt
     obtain⟨b,off,rfl,hb,hc⟩:=(HS.out.below GB2.out).some (by omega)
     have ci:=hc k hkl
     have hqb:q<=2*no+257:=by
      have:=HNL.out k
      rw[<-HQ.out,<-HLN.out]at this
      omega
     obtain⟨x,hx⟩:∃ x,x=l[k]:=⟨_,rfl⟩
     have HX:=hideB hx
     rw[<-hx]at ci
     clear hc hx
     by_cases e:x=(v:Int)+1
     ·have hb1:(x==(v:Int)+1)=true:=beq_iff_eq.2 e
      have HXE:Hid (l[k]=((v+1:Nat):Int)):=by
       unfold Hid
       rw[<-HX.out,e]
       rfl
      have HF:Hid (q<2 ^ (v+1)):=by
       unfold Hid
       rw[HQ.out]
       exact HNF.out k hkl HXE.out
      have hq4:=HPW.out q HF.out
      have HNK:Hid (q+1=innN l (v+1) (2*no) (k+1)):=by
       unfold Hid
       rw[HNY.out k hkl HXE.out,HQ.out]
      have HOK:Hid (innO l (v+1) (2*no) (outO l v) (k+1)=(innO l (v+1) (2*no) (outO l v) k).set k (bitsV q (v+1))):=by
       unfold Hid
       rw[HOY.out k hkl HXE.out,HQ.out]
      have HBI:=hideB (fun W=>bits_spec q (v+1) W (by omega) (by omega) (by omega))
      clear e
      go_wp2_with fail
      refine(HBI.out _).mono ?_
      rintro e w2 ⟨rfl,hb2⟩
      have G3:=hideB (G2.out.below hb2 G2.out.lt)
      have B3:=hideB (below2 GB2.out hb2)
      have cf:=G3.out.frozen k
      obtain⟨v0,ce⟩:∃ v0,w2.cell? ⟨w.heap.size,k,none⟩=some (.string v0):=⟨_,G3.out.cell (j:=k) (by rw[HIL.out,HOL.out];exact hkl)⟩
      clear hb2
      go_wp2_with fail
      go_roundw
      case rel=>exact⟨k+1,q+1,by go_num,by go_num,HNK.out,by omega,by rw[HOK.out];exact G3.out.set k _,B3.out.setCell (Nat.le_refl _) _⟩
      case measure=>simp[intOf];omega
     ·have hb1:(x==(v:Int)+1)=false:=beq_eq_false_iff_ne.2 e
      have HXE:Hid (¬l[k]=((v+1:Nat):Int)):=by
       unfold Hid
       rw[<-HX.out]
       exact e
      have HNK:Hid (q=innN l (v+1) (2*no) (k+1)):=by
       unfold Hid
       rw[HNN.out k hkl HXE.out,HQ.out]
      have HOK:Hid (innO l (v+1) (2*no) (outO l v) (k+1)=innO l (v+1) (2*no) (outO l v) k):=HON.out k hkl HXE.out
      clear e
      go_wp2_with fail
      go_roundw
      case rel=>exact⟨k+1,q,by go_num,rfl,HNK.out,by omega,by rw[HOK.out];exact G2.out,GB2.out⟩
      case measure=>simp[intOf];omega
    ·have hkn:k=l.length:=by have:=HLN.out;omega
     have HQE:Hid (q=outN l (v+1)):=by
      unfold Hid
      rw[HQ.out,hkn]
      exact HNA.out
     have HOE:Hid (innO l (v+1) (2*no) (outO l v) k=outO l (v+1)):=by
      unfold Hid
      rw[hkn]
      exact HOO.out
     have hqb:q<=4096:=by
      rw[HQE.out]
      exact out_small HCS.out (by omega)
     clear hkn
     go_wp2_with fail
     go_roundw
     case rel=>exact⟨v+1,by go_num,by rw[<-HQE.out],by omega,by rw[<-HOE.out];exact G2.out,GB2.out⟩
     case measure=>simp[intOf];omega
  ·obtain rfl:v=12:=by omega
   go_wp2_with fail
   go_ret
   exact⟨rfl,G1.out,GB.out⟩
end Go.Proofs.YtjfdllgodijibaaGreatDoor.Bi


/- What both CodesOf answer. -/
namespace Go.Proofs.YtjfdllgodijibaaGreatDoor.Bi
open Go.RowKit
open In (Ints)
open St (IsS OwnIn IsO)
end Go.Proofs.YtjfdllgodijibaaGreatDoor.Bi


/- The walks of both CodePut. -/
namespace Go.Proofs.YtjfdllgodijibaaGreatDoor.Bi
open Go.RowKit
open In (Ints)
open St (IsS)
open Nu (ret_strJ own_string bv)
theorem getD_get {l:List Int} {i:Nat} (hi:i<l.length):l.getD i 0=l[i]:=by rw[List.getD_eq_getElem?_getD,List.getElem?_eq_getElem hi];rfl
theorem okS_nat {l:List Int} {i:Nat} (h:i<l.length) (h0:0<l.getD i 0):okS l (i:Int):=⟨by omega,by omega,by simpa using h0⟩
end Go.Proofs.YtjfdllgodijibaaGreatDoor.Bi


namespace Go.Proofs.YtjfdllgodijibaaGreatDoor.Bi
open Go.RowKit
open In (Ints)
open St (IsS)
open Nu (ret_strJ own_string bv)
theorem own_lenB {w:World} {B m n:Nat} {e:TypeId} {v:Value} {xs:List Value} (h:w.ownsRow B e 1 v m xs) (hm:m=n):w.ownsRow B e 1 v n xs:=by rw[<-hm];exact h
theorem l04Put_any (l s:List Int) (a a':Option Addr) (cap cap':Nat) (w:World) (hl:Ints w w.heap.size a l) (hs:Ints w w.heap.size a' s) (hm:¬400<s.length) (hw:whole l=true) (hok:∀ x∈s,okS l x) :
  Calls Tryz.prog 86 #[.slice a l.length cap,.slice a' s.length cap'] w fun e w'=>e=.returned (.string ⟨(putL l s).toArray⟩)/\Below w.heap.size w w':=by
 obtain⟨i0,hi0,hz0,hz1,hz2⟩:=info_parts Sb.builderX.infoByte
 have HC:=hideB (codes_spec l a cap w.heap.size w hl (Nat.le_refl _) (whole_right hw))
 have HS:=hideB hs
 have HK:=hideB (whole_ok hw)
 have hn:=whole_len hw
 have HCL:=hideB (codesV_length l)
 have HOK:=hideB (fun (j:Nat) (hj:j<s.length)=>hok _ (List.getElem_mem hj))
 clear hl hs hw hok
 obtain⟨n,hln⟩:∃ n,n=l.length:=⟨_,rfl⟩
 obtain⟨m,hms⟩:∃ m,m=s.length:=⟨_,rfl⟩
 have HLN:=hideB hln
 have HMS:=hideB hms
 rw[<-hln]at hn HC HCL ⊢
 rw[<-hms]at hm ⊢
 clear hln hms
 go_enter Tryz.func86,Tryz.ntmps86
 go_wp2_with fail
 refine HC.out.mono ?_
 rintro e w1 ⟨rfl,hi1,hb1⟩
 have X1:=hideB hi1
 have B1:=hideB hb1
 have z1:w.heap.size<w1.heap.size:=hi1.lt
 clear hi1 hb1
 go_wp2_with fail
 go_loopw [7,6] (fun i v wr=>∃ k:Nat,i=.int .i64 k/\k<=m/\wr.ownsRow w1.heap.size 5 1 v (putL l (s.take k)).length (Lib.byteCells (putL l (s.take k)))/\Below w1.heap.size w1 wr) (fun i _ _=>m-(intOf i).toNat)
 case atStart=>exact⟨0,rfl,Nat.zero_le _,World.ownsRow_made _ _ _ (Nat.le_refl _) (by decide) rfl,(Below.refl _ _).alloc (Nat.le_refl _) _⟩
 case round =>
  obtain⟨k,rfl,hk,hown,hbel⟩:=hrel
  have HO:=hideB hown
  have GB:=hideB hbel
  have hbz:=hbel.size
  clear hown hbel
  by_cases hlt:k<m
  ·have hkl:k<s.length:=by rw[<-HMS.out];exact hlt
   obtain⟨b,off,rfl,hb,hc⟩:=(HS.out.below (B1.out.trans (GB.out.mono (Nat.le_of_lt z1)))).some (by omega)
   have ci:=hc k hkl
   have HM:=hideB (putL_more (l:=l) hkl)
   have ho:=HOK.out k hkl
   obtain⟨x,hx⟩:∃ x,x=s[k]:=⟨_,rfl⟩
   rw[<-hx]at ci HM ho
   clear hc hx
   obtain⟨i,rfl⟩:∃ i:Nat,x=i:=⟨x.toNat,by have:=ho.1;omega⟩
   have hin:i<n:=by have h1:=ho.2.1;have h2:=HLN.out;omega
   have hiv:i<(codesV l).length:=by rw[HCL.out];omega
   have cc:=(X1.out.below GB.out z1).cell hiv
   rw[codes_get l HK.out i hiv]at cc
   have hcl:=codeOf_le l HK.out i
   obtain⟨c,hcc⟩:∃ c,c=codeOf l i:=⟨_,rfl⟩
   have HCC:=hideB hcc
   rw[<-hcc]at cc hcl
   clear hcc ho
   obtain⟨q,hq⟩:∃ q,q=(putL l (s.take k)).length:=⟨_,rfl⟩
   have hqb:q<=4800:=by
    have h1:=putL_le l HK.out (s.take k)
    rw[List.length_take]at h1
    omega
   have HNX:Hid (Lib.byteCells (putL l (s.take k))++Lib.strCells c=Lib.byteCells (putL l (s.take (k+1)))):=by
    unfold Hid
    rw[HM.out,Lib.byteCells_append,Lib.strCells_eq,HCC.out]
    rfl
   have HNL:Hid (q+c.size=(putL l (s.take (k+1))).length):=by
    unfold Hid
    rw[HM.out,List.length_append,hq,HCC.out]
    rfl
   have hown:=HO.out
   rw[<-hq]at hown
   clear hq
   go_wp2_with (at_builtin;refine Lib.wpList_append_own_string _ rfl _ _ 22 9 rfl w1.heap.size 5 i0 Tryz.underlying22 Tryz.underlying9 hi0 hz0 hz1 hz2 _ _ _ rfl hown c rfl ?c3 ?c4 ?c5 ?_)
   case c3=>unfold maxLen;omega
   case c4=>omega
   case c5=>omega
   intro v' w2 hown' hgrow _
   rw[HNX.out]at hown'
   have R2:=hideB (own_lenB hown' HNL.out)
   have B2:=hideB (GB.out.grown hgrow (by omega) (fun k hk=>(hown.lt k hk).1))
   clear hown' hgrow hown
   go_wp2_with fail
   go_roundw
   case rel=>exact⟨k+1,by go_num,by omega,R2.out,B2.out⟩
   case measure=>simp[intOf];omega
  ·have HE:Hid (putL l (s.take k)=putL l s):=by
    unfold Hid
    rw[List.take_of_length_le (by have:=HMS.out;omega)]
   have hcv:=own_string (P:=Tryz.prog) (src:=22) (dst:=9) (putL l (s.take k)) HO.out Tryz.underlying22 Tryz.underlying5 Tryz.underlying9
   rw[HE.out]at hcv
   go_wp2_with fail
   go_ret
   exact⟨rfl,B1.out.trans (GB.out.mono (Nat.le_of_lt z1))⟩
end Go.Proofs.YtjfdllgodijibaaGreatDoor.Bi


/- What is drawn for codes: bits as a text, and the draws of the law on codes. -/
namespace Go.Proofs.YtjfdllgodijibaaGreatDoor.Dr
open Go.RowKit
open In (OwnI Ints)
open Ap (Own0 wpList_append_own0)
open Fr (Own0B own0_string one_newB one_cellB own0B_snoc)
open Nu (bv)
structure Db (w:World) (B:Nat) (a:Option Addr) (len cap:Nat) (W:World) (v:Value) (l:List UInt8) (n:Nat):Prop where
 own:Own0B W w.heap.size v l
 le:l.length<=n
 src:Src W B a len cap
 aft:Aft B w W
 hB:B<w.heap.size
theorem Db.only {w:World} {B:Nat} {a:Option Addr} {len cap:Nat} {W W':World} {v:Value} {l:List UInt8} {n:Nat} (h:Db w B a len cap W v l n) (hs:Src W' B a len cap) (ho:Only B W W'):Db w B a len cap W' v l n :=
 ⟨Own0.keep h.own fun k hk _=>ho.2.2.2.2 k (by have:=h.hB;omega),h.le,hs,h.aft.trans ho.aft,h.hB⟩
theorem Db.new {w:World} {B:Nat} {a:Option Addr} {len cap:Nat} {W:World} (n:Nat) (hs:Src W B a len cap) (ha:Aft B w W) (hB:B<w.heap.size):Db w B a len cap (W.alloc (.cells #[] 5)) (.slice (some ⟨W.heap.size,0,none⟩) 0 0) [] n :=
 ⟨.inl ⟨_,rfl,rfl,rfl⟩,Nat.zero_le _,hs.below ((Below.refl _ _).alloc (Nat.le_refl _) _),ha.trans (aft_below ((Below.refl _ _).alloc (Nat.le_refl _) _)),hB⟩
theorem Db.mono {w:World} {B:Nat} {a:Option Addr} {len cap:Nat} {W:World} {v:Value} {l:List UInt8} {n m:Nat} (h:Db w B a len cap W v l n) (hm:n<=m):Db w B a len cap W v l m:=⟨h.own,Nat.le_trans h.le hm,h.src,h.aft,h.hB⟩
end Go.Proofs.YtjfdllgodijibaaGreatDoor.Dr


/- What is drawn for CodeGet and for BitsOf. -/
namespace Go.Proofs.YtjfdllgodijibaaGreatDoor.Dr
open Go.RowKit
open In (OwnI Ints)
open Bi (putR)
end Go.Proofs.YtjfdllgodijibaaGreatDoor.Dr


/- What is drawn for BitsOf: two numbers. -/
namespace Go.Proofs.YtjfdllgodijibaaGreatDoor.Dr
open Go.RowKit
def v4 (a b c d:Int) (j:Nat):Int:=if j=0 then a else if j=1 then b else if j=2 then c else d
theorem pick4 (a b c d:Int) (j:Nat) (h:j < [Value.int .i64 a,.int .i64 b,.int .i64 c,.int .i64 d].length):[Value.int .i64 a,.int .i64 b,.int .i64 c,.int .i64 d][j]=.int .i64 (v4 a b c d j):=by
 obtain rfl|rfl|rfl|rfl:j=0∨j=1∨j=2∨j=3:=by simp at h;omega
 all_goals rfl
theorem src_alloc {W:World} {B:Nat} {a:Option Addr} {len cap:Nat} (h:Src W B a len cap) (o:Obj):Src (W.alloc o) B a len cap:=h.below ((Below.refl _ _).alloc (Nat.le_refl _) o)
theorem src_drew {W:World} {B:Nat} {a:Option Addr} {len cap:Nat} (h:Src W B a len cap):Src W.drew B a len cap:=h
theorem only_cell {B:Nat} {W W':World} (h:Only B W W') (g j:Nat) (hg:g≠B):W'.cell? ⟨g,j,none⟩=W.cell? ⟨g,j,none⟩:=World.cell?_of_block (w:=W) (a:=⟨g,j,none⟩) (h.2.2.2.2 g hg)
end Go.Proofs.YtjfdllgodijibaaGreatDoor.Dr


namespace Go.Proofs.YtjfdllgodijibaaGreatDoor.Dr
open Go.RowKit
open Sh (made_row strF strF_size)
theorem aft_alloc6 {B:Nat} {w W:World} (h:Aft B w W) (o:Obj):Aft B w (W.alloc o):=h.trans (aft_below ((Below.refl _ _).alloc (Nat.le_refl _) o))
theorem aft_drew6 {B:Nat} {w W:World} (h:Aft B w W):Aft B w W.drew:=h.trans (aft_below (Below.refl _ _).drew)
theorem v4_le (j:Nat):0<=v4 0 1 48 49 j/\v4 0 1 48 49 j<=49:=by
 unfold v4
 split<;>(try split)<;>(try split)<;>omega
theorem file6_any (B:Nat) (a:Option Addr) (len cap:Nat) (w:World) (hl:len<=1048576) (hs:Src w B a len cap) :
  Calls Tryz.prog 29 #[.pointer (some ⟨B,0,none⟩)] w fun e w'=>∃ (t:ByteArray) (z:Int),t.size<=1002/\0<=z/\z<=49/\e=.returned (.tuple #[.string t,.int .i64 z])/\Src w' B a len cap/\Aft B w w':=by
 obtain⟨i0,hi0,hz0,hz1,hz2⟩:=info_parts Tryz.infoD5
 have HS:=hideD hs
 clear hs
 go_enter Tryz.func29,Tryz.ntmps29
 go_wp2_with fail
 refine(n_any B a len cap 6 _ hl (by omega) HS.out).mono ?_
 rintro e w1 ⟨r,rfl,p0,p1,hs1,ho1⟩
 obtain⟨k0,rfl⟩:=Int.eq_ofNat_of_zero_le p0
 have hk0:k0<=5:=by omega
 have HS1:=hideD hs1
 have HA1:=hideD ho1.aft
 clear hs1 ho1 p0 p1 HS
 go_wp2_with fail
 go_loopw [5,4] (fun kv tv wr=>∃ (k:Nat) (t:ByteArray),kv=.int .i64 k/\tv=.string t/\k<=5/\t.size+32*k<=160/\Src wr B a len cap/\Aft B w wr) (fun kv _ _=>(intOf kv).toNat)
 case atStart=>exact⟨k0,⟨#[]⟩,rfl,rfl,hk0,by show 0+32*k0<=160;omega,HS1.out,HA1.out⟩
 case round =>
  obtain⟨k,t,rfl,rfl,hk,ht,hs2,ha2⟩:=hrel
  have HS2:=hideD hs2
  have HA2:=hideD ha2
  clear hs2 ha2 HS1 HA1
  by_cases h0:0<k
  ·have h0i:0<(k:Int):=by omega
   go_wp2_with fail
   refine(text5_any B a len cap _ hl HS2.out).mono ?_
   rintro e w3 ⟨s,hs,rfl,hs3,ha3⟩
   have HS3:=hideD hs3
   have HA3:=hideD (HA2.out.trans ha3)
   have n1:¬9223372036854775807<t.size+s.size:=by omega
   have hts:(t++s).size=t.size+s.size:=ByteArray.size_append
   have HTS:=hideD hts
   clear hs3 ha3 hts
   go_wp2_with fail
   go_roundw
   case rel=>exact⟨k-1,t++s,by go_num,rfl,by omega,by rw[HTS.out];omega,HS3.out,HA3.out⟩
   case measure=>simp[intOf];omega
  ·obtain rfl:k=0:=by omega
   have ht2:t.size<=1002:=by omega
   clear ht
   go_wp2_with fail
   refine(one_any B a len cap 20 _ hl (by omega) HS2.out).mono ?_
   rintro e w3 ⟨r3,rfl,hs3,ho3⟩
   have HS3:=hideD hs3
   have HA3:=hideD (HA2.out.trans ho3.aft)
   clear hs3 ho3 HS2 HA2
   cases r3 with
   |true =>
    go_wp2_with fail
    refine(n_any B a len cap 3 _ hl (by omega) HS3.out).mono ?_
    rintro e w4 ⟨r2,rfl,p0,p1,hs4,ho4⟩
    obtain⟨m,rfl⟩:=Int.eq_ofNat_of_zero_le p0
    obtain⟨n,hn⟩:∃ n:Nat,n=999+m:=⟨_,rfl⟩
    have en:999+(m:Int)=(n:Int):=by omega
    have hn50:n<=1002:=by omega
    have HS4:=hideD hs4
    have HA4:=hideD (HA3.out.trans ho4.aft)
    clear hs4 ho4 p0 p1 hn HS3 HA3
    go_wp2_with (at_make;refine wpList_make_full _ rfl (.tmp 20) (.tmp 20) 22 rfl w4.heap.size 5 i0 (.int .u8 0) 1 Tryz.underlying22 hi0 hz0 hz1 .i64 .i64 _ _ n rfl rfl (by simp) (by simp) (by rw[hz2];omega) (by unfold maxLen;omega) (Nat.le_refl _) ?_;intro w5 hown3 hgrow3;have hT3:=made_row hown3;have hb3:=(Below.refl w4.heap.size w4).grown hgrow3 (Nat.le_refl _) (by simp);have hcv:=hT3.str (f:=fun _=>0) (P:=Tryz.prog) (src:=22) (dst:=9) n n (Nat.le_refl _) (fun j _=>by decide) Tryz.underlying22 Tryz.underlying5 Tryz.underlying9;have HS5:=hideD (HS4.out.below hb3);have HA5:=hideD (HA4.out.trans (aft_below hb3));clear hown3 hgrow3 hT3 hb3)
    refine(one_any B a len cap 12 _ hl (by omega) HS5.out).mono ?_
    rintro e w6 ⟨r6,rfl,hs6,ho6⟩
    have HS6:=hideD hs6
    have HA6:=hideD (HA5.out.trans ho6.aft)
    have hBl:=hs6.lt
    have hBn:¬w6.heap.size=B:=by omega
    have hBm:¬B=w6.heap.size:=by omega
    clear hs6 ho6
    cases r6 with
    |true =>
     go_wp2_with fail
     go_region_with (first|(go_at_call 17;(with_reducible refine(n_any B a len cap 4 _ hl (by omega) ?_).mono ?_);(· repeat (first|exact HS6.out|refine src_alloc ?_ _|refine src_drew ?_));rintro e w7 ⟨r7,rfl,q0,q1,hs7,ho7⟩;obtain⟨j7,rfl⟩:=Int.eq_ofNat_of_zero_le q0;have hj7:j7<4:=(by omega);have hi7:(j7:Int)<4:=(by omega);have C7:=hideD hs7;have k7:=only_cell ho7;have z7:=ho7.2.2.2.1;have L7:=hideD ((show Aft B w _ from (by repeat (first|exact HA6.out|refine aft_alloc6 ?_ _|refine aft_drew6 ?_))).trans ho7.aft);clear hs7 ho7))
     all_goals (try go_wp2_with fail)
     all_goals (try simp only[pick4])
     all_goals go_ret2
     all_goals (have hv:=v4_le j7;exact⟨_,_,(by rw[strF_size];exact hn50),hv.1,hv.2,rfl,by repeat (first|exact C7.out|refine src_alloc ?_ _|refine src_drew ?_),by repeat (first|exact L7.out|refine aft_alloc6 ?_ _|refine aft_drew6 ?_)⟩)
    |false =>
     go_wp2_with fail
     refine(n_any B a len cap 24 _ hl (by omega) HS6.out).mono ?_
     rintro e w7 ⟨r7,rfl,q0,q1,hs7,ho7⟩
     have HS7:=hideD hs7
     have HA7:=hideD (HA6.out.trans ho7.aft)
     have hwr:IntKind.i64.wrap (8+r7)=8+r7:=by rw[IntKind.wrap_i64];omega
     clear hs7 ho7
     go_wp2_with fail
     go_ret2
     exact⟨_,8+r7,(by rw[strF_size];exact hn50),by omega,by omega,rfl,HS7.out,HA7.out⟩
   |false =>
    go_wp2_with fail
    refine(one_any B a len cap 12 _ hl (by omega) HS3.out).mono ?_
    rintro e w6 ⟨r6,rfl,hs6,ho6⟩
    have HS6:=hideD hs6
    have HA6:=hideD (HA3.out.trans ho6.aft)
    have hBl:=hs6.lt
    have hBn:¬w6.heap.size=B:=by omega
    have hBm:¬B=w6.heap.size:=by omega
    clear hs6 ho6
    cases r6 with
    |true =>
     go_wp2_with fail
     go_region_with (first|(go_at_call 17;(with_reducible refine(n_any B a len cap 4 _ hl (by omega) ?_).mono ?_);(· repeat (first|exact HS6.out|refine src_alloc ?_ _|refine src_drew ?_));rintro e w7 ⟨r7,rfl,q0,q1,hs7,ho7⟩;obtain⟨j7,rfl⟩:=Int.eq_ofNat_of_zero_le q0;have hj7:j7<4:=(by omega);have hi7:(j7:Int)<4:=(by omega);have C7:=hideD hs7;have k7:=only_cell ho7;have z7:=ho7.2.2.2.1;have L7:=hideD ((show Aft B w _ from (by repeat (first|exact HA6.out|refine aft_alloc6 ?_ _|refine aft_drew6 ?_))).trans ho7.aft);clear hs7 ho7))
     all_goals (try go_wp2_with fail)
     all_goals (try simp only[pick4])
     all_goals go_ret2
     all_goals (have hv:=v4_le j7;exact⟨t,_,ht2,hv.1,hv.2,rfl,by repeat (first|exact C7.out|refine src_alloc ?_ _|refine src_drew ?_),by repeat (first|exact L7.out|refine aft_alloc6 ?_ _|refine aft_drew6 ?_)⟩)
    |false =>
     go_wp2_with fail
     refine(n_any B a len cap 24 _ hl (by omega) HS6.out).mono ?_
     rintro e w7 ⟨r7,rfl,q0,q1,hs7,ho7⟩
     have HS7:=hideD hs7
     have HA7:=hideD (HA6.out.trans ho7.aft)
     have hwr:IntKind.i64.wrap (8+r7)=8+r7:=by rw[IntKind.wrap_i64];omega
     clear hs7 ho7
     go_wp2_with fail
     go_ret2
     exact⟨t,8+r7,ht2,by omega,by omega,rfl,HS7.out,HA7.out⟩
end Go.Proofs.YtjfdllgodijibaaGreatDoor.Dr

