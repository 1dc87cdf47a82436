import Derived.Test.YtbdcffjcogglbaaGreatDoorOz50
import Derived.Test.YtbdcffjcogglbaaGreatDoorOz45
import Derived.Test.YtbdcffjcogglbaaGreatDoorOz49
import Derived.Test.YtbdcffjcogglbaaGreatDoorOz44
set_option maxRecDepth 100000
set_option maxHeartbeats 8000000
namespace Go.Proofs.YtbdcffjcogglbaaGreatDoor
open Go.RowKit
open Go.Proofs.Tryz
namespace Ls
open Gn (rd rt textV outT)
open Nm2 (num_back putS_list putT_list)
open Nu (putS putT zz numB numB_length)
open Pk (cat packB piecesR)
open Bk (blks blks_length cnt cnt_lt cnt_le fineB blocksR)
open Up (cat_blocks ext_list2)
open Tr (tree treeR treeR_yes tree_size right right_yes path pathR path_one path_left path_right half half_pos half_lt inclB_in incl climb_same incl_path wide wide_yes)
open Sh (leafV leafV_size leafR leafR_yes)
theorem path_few:∀ (m:Nat) (l:List ByteArray) (i:Nat),l.length<=m->1<=l.length->(path l i).length+1<=l.length
 |0,l,i,h,h0=>by omega
 |m+1,l,i,h,h0=>by
  by_cases h1:l.length<=1
  ·rw[path_one l i h1]
   simp;omega
  ·have h2:=half_lt l.length (by omega)
   have h3:=half_pos l.length;by_cases hi:i<half l.length
   ·rw[path_left l i (by omega) hi]
    have:=path_few m (l.take (half l.length)) i (by simp;omega) (by simp;omega)
    simp at this ⊢;omega
   ·rw[path_right l i (by omega) hi]
    have:=path_few m (l.drop (half l.length)) (i-half l.length) (by simp;omega) (by simp;omega)
    simp at this ⊢;omega
theorem path_wide:∀ (m:Nat) (l:List ByteArray) (i:Nat),l.length<=m->∀ x∈path l i,x.size=32
 |0,l,i,h,x,hx=>by
  rw[path_one l i (by omega)]at hx
  cases hx
 |m+1,l,i,h,x,hx=>by
  by_cases h1:l.length<=1
  ·rw[path_one l i h1]at hx
   cases hx
  ·have h2:=half_lt l.length (by omega)
   have h3:=half_pos l.length;by_cases hi:i<half l.length
   ·rw[path_left l i (by omega) hi]at hx
    rcases List.mem_append.1 hx with hx|hx
    ·exact path_wide m (l.take (half l.length)) i (by simp;omega) x hx
    ·rw[List.mem_singleton.1 hx]
     exact tree_size _
   ·rw[path_right l i (by omega) hi]at hx
    rcases List.mem_append.1 hx with hx|hx
    ·exact path_wide m (l.drop (half l.length)) (i-half l.length) (by simp;omega) x hx
    ·rw[List.mem_singleton.1 hx]
     exact tree_size _
theorem path_toldL (l:List ByteArray) (i:Nat) (h:right l=true) (hi:i<l.length):Tr.inclB (leafR l[i]) i l.length (pathR l i) (treeR l)=true:=by
 have hp:pathR l i=path l i:=by
  unfold pathR;rw[if_pos ⟨h,by omega,by omega⟩];rfl
 have hsz:=((right_yes l).1 h).2 i hi;have h64:=((right_yes l).1 h).1;have hlen:=path_few _ l i nl (by omega)
 have hw:(decide ((path l i).length<=63) && wide (path l i))=true:=by
  rw[decide_eq_true (by omega),Bool.true_and];exact(wide_yes _).2 fun j hj=>path_wide _ l i nl _ (List.getElem_mem hj)
 rw[leafR_yes _ (by omega),hp,treeR_yes l h,inclB_in (leafV l[i]) i l.length (path l i) (tree l) (leafV_size _) (tree_size _) hw hi];unfold incl;rw[<-climb_same l.length l.length i (path l i) (leafV l[i]) nl hi,incl_path l.length l i l.length l[i] rfl (List.getElem?_eq_getElem hi) nl];simp
theorem count_pieces {s:ByteArray} {size:Int} (h:fineB s.size size=true):countN s.size size (rootV s size)=(piecesR s size).length:=by
 unfold countN piecesR;rw[right_of_fine,if_pos h,List.length_map];unfold blocksR;rw[if_pos h,blks_length,Int.toNat_natCast]
theorem piece_fits {s:ByteArray} {size:Int} (h:fineB s.size size=true) (i:Nat) (hi:i<(piecesR s size).length):fitsB s.size size (rootV s size) i (piecesR s size)[i] (pathR (piecesR s size) i)=true:=by
 unfold fitsB;rw[count_pieces h];exact path_toldL (piecesR s size) i (pieces_right s size) hi
theorem blks_get (s:ByteArray) (k:Nat):∀ (n j:Nat),j<n->(blks s k n)[j]? = some (s.extract (j*k) (min (j*k+k) s.size))
 |0,j,h=>by omega
 |n+1,j,h=>by
  rw[blks];by_cases hj:j<n
  ·rw[List.getElem?_append_left (by rw[blks_length];exact hj)]
   exact blks_get s k n j hj
  ·obtain rfl:j=n:=by omega
   rw[List.getElem?_append_right (by rw[blks_length];exact nl),blks_length,Nat.sub_self];rfl
theorem block_must {s:ByteArray} {size:Int} (h:fineB s.size size=true) (j:Nat) (t:ByteArray) (hj:(blocksR s size)[j]? = some t):t.size<=48/\(t.size:Int)=mustN s.size size (0+j):=by
 have hf:=of_decide_eq_true h;obtain⟨k,rfl⟩:=Int.eq_ofNat_of_zero_le (show 0<=size by omega);unfold blocksR at hj;rw[if_pos h,Int.toNat_natCast]at hj
 have hlt:j<cnt s.size k:=by
  have:=(List.getElem?_eq_some_iff.1 hj).1
  rw[blks_length]at this;exact this
 rw[blks_get s k _ j hlt]at hj;obtain rfl:=Option.some.inj hj;have hjk:=(cnt_lt (by omega)).1 hlt
 have hsz:(s.extract (j*k) (min (j*k+k) s.size)).size=min (j*k+k) s.size-j*k:=by rw[ByteArray.size_extract];omega
 rw[hsz];unfold mustN;rw[Nat.zero_add]
 have hc:((j:Int)*(k:Int))=((j*k:Nat):Int):=by simp
 rw[hc];generalize j*k=m at *;omega
end Ls
namespace Ls
open Bk (cnt count_any)
open Bi (is_yes is_no)
open Tr (inclB)
open Sh (leafR leafV leafR_yes l03Leaf_any)
open St (Strs)
end Ls
namespace Kp
open Ls (rightB rightB_yes lV vars_keepF fitsB fits_piece countN_le)
open Tr (inclB wide_yes)
open Sh (Vars)
theorem fitC_of (z b:Int) (r:ByteArray) (w:World) (hV:Vars w):FitC (fitR z b r) z b r w:=fun W x hW h1 h2 h3 =>
 fits_rec z b r x W (by unfold maxLen;omega) (by omega) h3 (vars_keepF hV hW)
theorem fit_facts {z b:Int} {r:ByteArray} {x:Rec} (h:fitR z b r x=true):0<=x.1/\x.1<64/\x.2.1.size<=100/\x.2.2.length<=20/\∀ q∈x.2.2,q.size=32:=by
 have h20:x.2.2.length<=20:=by
  by_cases h2:x.2.2.length<=20
  ·exact h2
  ·rw[fit_long h2]at h;cases h
 have ht:x.2.1.size<=100:=by
  by_cases h2:x.2.1.size<=100
  ·exact h2
  ·rw[fit_short h20,fits_piece (by omega)]at h;cases h
 rw[fit_short h20]at h;have hc:=countN_le z b r;unfold fitsB inclB at h;simp only[Bool.and_eq_true,decide_eq_true_eq]at h
 exact⟨h.1.1.2,by omega,ht,h20,fun q hq=>by
  obtain⟨j,hj,rfl⟩:=List.getElem_of_mem hq
  exact(wide_yes x.2.2).1 h.1.1.1.2.2 j hj⟩
end Kp
namespace Kp
open Ls (rightB rightB_yes lV fileV file_impl countN countN_yes fitsB)
open Tr (inclB)
open Up (Glob glob_keep)
theorem fileC_of (z b:Int) (r:ByteArray) (ga:Addr) (w:World) (hG:Glob w (.iface 264 (.pointer (some ga)))):FileC (fileV z b r) z b r w:=fun W l a n cap hn hW hc hs hz =>
 file_impl z b r l a cap n ga W hn (by omega) hs (fun x hx=>Nat.le_trans (hz x hx) (by decide)) (glob_keep hG hW)
theorem fit_out {z b:Int} {r:ByteArray} (x:Rec) (h:fitR z b r x=true):0<=x.1/\x.1<countN z b r/\x.2.1.size<=8000:=by
 have hf:=fit_facts h;refine⟨hf.1,?_,by omega⟩;rw[fit_short hf.2.2.2.1]at h;unfold fitsB inclB at h;simp only[Bool.and_eq_true,decide_eq_true_eq]at h;omega
end Kp
namespace Kp
open Gn (rd rt)
open Nu (putS putT zz numB)
open Pk (cat packB piecesR)
open Bk (blocksR fineB)
open Ls (fitsB rightB countN fileL fileV mustN blkT blkT_yes blkT_no fileL_next fileL_none rootV block_must count_pieces piece_fits path_few cat_le)
open Up (GS ansU_packH cat_blocks)
theorem recS_of {z b:Int} {r:ByteArray} {x:Rec} (h:fitR z b r x=true):RecS x:=by
 obtain⟨h1,h2,h3,h4,h5⟩:=fit_facts h;exact⟨by omega,by omega,by omega,h4,fun q hq=>by rw[h5 q hq];decide⟩
theorem cat_putT (l:List ByteArray) (h:∀ q∈l,q.size=32):(cat (l.map putT)).length<=42*l.length:=by
 induction l with
 |nil=>simp[cat]
 |cons a l ih =>
  have h1:=ih fun q hq=>h q (List.mem_cons_of_mem _ hq);have h2:=Ls.putT_size a (h a List.mem_cons_self)
  have h3:(putT a).size=(putT a).data.toList.length:=by rw[Array.length_toList];rfl
  rw[List.map_cons,cat_cons,List.length_append,List.length_cons];omega
theorem putT_le (t:ByteArray) (m:Nat) (h:t.size<=m):(putT t).size<=m+10:=by
 unfold putT
 split
 ·rw[ByteArray.size_append]
  have:=Nu.putS_size (t.size:Int)
  omega
 ·exact Nat.zero_le _
theorem recT_small {z b:Int} {r:ByteArray} {x:Rec} (h:fitR z b r x=true):(innerT x).size<=130+42*x.2.2.length/\(recT x).size<=144+42*x.2.2.length:=by
 obtain⟨h1,h2,h3,h4,h5⟩:=fit_facts h
 have hi:(innerT x).size<=130+42*x.2.2.length:=by
  rw[Nm2.size_of,innerT_list];have e1:=(Nu.numB_length (zz x.1)).1;have e2:=putT_le x.2.1 100 h3
  have e2':(putT x.2.1).size=(putT x.2.1).data.toList.length:=by rw[Array.length_toList];rfl
  have e3:=(Nu.numB_length (zz (x.2.2.length:Nat))).1;have e4:=cat_putT x.2.2 h5;simp only[List.length_append,List.length_nil];omega
 refine⟨hi,?_⟩;unfold recT
 have e:(Se.sealV (innerT x)).size<=134+42*x.2.2.length:=by
  unfold Se.sealV
  split
  ·rw[ByteArray.size_append,Se.fourS_size]
   omega
  ·exact Nat.zero_le _
 have:=putT_le _ _ e
 omega
def recP (P:List ByteArray) (i:Nat):Rec:=((i:Int),P.getD i ⟨#[]⟩,Tr.pathR P i)
structure Kept (z b:Int) (r:ByteArray) (P:List ByteArray) (s:ByteArray) (rs:List Rec):Prop where
 all:allR (fitR z b r) s=(rs,s.size)
 recs:∀ x∈rs,∃ i,i<P.length/\x=recP P i
 len:s.size<=440*rs.length
theorem kept_new (z b:Int) (r:ByteArray) (P:List ByteArray):Kept z b r P ⟨#[]⟩ []:=⟨rfl,fun _ h=>absurd h List.not_mem_nil,nl⟩
theorem recP_len (P:List ByteArray) (i:Nat) (h:i<P.length) (h8:P.length<=8):(recP P i).2.2.length<=7:=by
 show (Tr.pathR P (i:Int)).length<=7
 unfold Tr.pathR
 split
 ·have:=path_few _ P ((i:Int).toNat) nl (by omega)
  omega
 ·simp
theorem Kept.keep {z b:Int} {r:ByteArray} {P:List ByteArray} {s:ByteArray} {rs:List Rec} (h:Kept z b r P s rs) (hr:rightB z b r=true) (hf:rs.length<=16):keepB (fitR z b r) z b r s 0=true:=by
 have h8:s.size<=8000:=by have:=h.len;omega
 unfold keepB;rw[h.all]
 have hm:mayB z b r s=true:=by unfold mayB;rw[hr,decide_eq_true h8];rfl
 rw[at_yes hm rfl];unfold spanB;simp
theorem Kept.there {z b:Int} {r:ByteArray} {P:List ByteArray} {s:ByteArray} {rs:List Rec} (h:Kept z b r P s rs) (hr:rightB z b r=true) (hf:rs.length<=16) (h8:P.length<=8) {i:Nat} (hi:i<P.length) (hfit:fitR z b r (recP P i)=true) (hh:hasR rs i=true):addV (fitR z b r) z b r s 0 (recP P i)=koV 0 0 ⟨#[]⟩ ⟨#[]⟩ 0 7:=by
 have hk:=h.keep hr hf;have hff:=fit_facts hfit;have hl:=recP_len P i hi h8;unfold addV;rw[if_neg (by omega),if_neg (by rw[hk];decide),if_neg (by rw[hfit];decide),h.all];exact if_pos hh
theorem Kept.new {z b:Int} {r:ByteArray} {P:List ByteArray} {s:ByteArray} {rs:List Rec} (h:Kept z b r P s rs) (hr:rightB z b r=true) (hf:rs.length<=15) (h8:P.length<=8) {i:Nat} (hi:i<P.length) (hfit:fitR z b r (recP P i)=true) (hh:hasR rs i=false) :
  addV (fitR z b r) z b r s 0 (recP P i)=koV z b r (s++recT (recP P i)) 0 0/\Kept z b r P (s++recT (recP P i)) (rs++[recP P i]):=by
 have hk:=h.keep hr (by omega);have hff:=fit_facts hfit;have hl:=recP_len P i hi h8;have hs:=recT_small hfit;have hz:(s++recT (recP P i)).size=s.size+(recT (recP P i)).size:=ByteArray.size_append;have hlen:=h.len
 have h8k:(s++recT (recP P i)).size<=8000:=by omega
 refine⟨?_,?_,?_,?_⟩
 ·unfold addV
  rw[if_neg (by omega),if_neg (by rw[hk];decide),if_neg (by rw[hfit];decide),h.all]
  have e:¬hasR rs (recP P i).1=true:=by
   show ¬hasR rs (i:Int)=true
   rw[hh];decide
  rw[if_neg e,if_neg (by omega)]
 ·have:=allR_add (fit:=fitR z b r) (s:=s) (x:=recP P i) (by rw[h.all]) (recS_of hfit) (by omega) hfit (by rw[h.all];exact hh) h8k
  rw[this,h.all]
 ·intro x hx
  rcases List.mem_append.1 hx with hx|hx
  ·exact h.recs x hx
  ·exact⟨i,hi,List.mem_singleton.1 hx⟩
 ·rw[List.length_append,hz]
  show _<=440*(rs.length+1)
  omega
theorem has_snoc (rs:List Rec) (x:Rec) (i:Int):hasR (rs++[x]) i=(hasR rs i || (x.1==i)):=by
 unfold hasR;rw[List.any_append];simp
def lead (h:Nat->Bool):Nat->Nat->Nat
 |_,0=>0
 |i,k+1=>if h i=true then lead h (i+1) k+1 else 0
noncomputable def mix (h:Nat->Bool):Nat->List ByteArray->List ByteArray
 |_,[]=>[]
 |i,t :: ts=>(if h i=true then packB t else ⟨#[]⟩) :: mix h (i+1) ts
theorem lead_mono {h g:Nat->Bool} (hg:∀ j,h j=true->g j=true):∀ k i,lead h i k<=lead g i k
 |0,i=>nl
 |k+1,i=>by
  have:=lead_mono hg k (i+1)
  unfold lead
  split
  ·rename_i h1
   rw[if_pos (hg i h1)];omega
  ·omega
theorem lead_all {h:Nat->Bool}:∀ k i,(∀ j,i<=j->j<i+k->h j=true)->lead h i k=k
 |0,i,_=>rfl
 |k+1,i,ha=>by
  unfold lead;rw[if_pos (ha i nl (by omega)),lead_all k (i+1) fun j h1 h2=>ha j (by omega) (by omega)]
theorem blkT_empty:blkT ⟨#[]⟩=none:=by
 rcases Up.unseal_case ⟨#[]⟩ with⟨t,_,_,_,h4⟩|⟨c,hc,hu⟩
 ·exact absurd h4 (by decide)
 ·exact blkT_no (Up.ansU_no hc hu) hc
theorem fileL_mix (H:GS) (z b:Int) (h:Nat->Bool):∀ (ts:List ByteArray) (i:Nat),(∀ j t,ts[j]? = some t->t.size<=48/\(t.size:Int)=mustN z b (i+j))->fileL z b i (mix h i ts)=ts.take (lead h i ts.length)
 |[],i,_=>by rw[mix,fileL];rfl
 |t :: ts,i,hm=>by
  have h0:=hm 0 t rfl;rw[Nat.add_zero]at h0;rw[mix,List.length_cons,lead]
  split
  ·rw[fileL_next (blkT_yes (ansU_packH H h0.1)) h0.2,fileL_mix H z b h ts (i+1) fun j u hu=>by
    have:=hm (j+1) u hu
    rw[show i+1+j=i+(j+1) by omega]
    exact this]
   rfl
  ·rw[fileL_none blkT_empty]
   rfl
theorem mix_length (h:Nat->Bool):∀ (ts:List ByteArray) (i:Nat),(mix h i ts).length=ts.length
 |[],i=>rfl
 |t :: ts,i=>by rw[mix,List.length_cons,List.length_cons,mix_length h ts (i+1)]
theorem mix_get (h:Nat->Bool):∀ (ts:List ByteArray) (i j:Nat) (t:ByteArray),ts[j]? = some t->(mix h i ts)[j]? = some (if h (i+j)=true then packB t else ⟨#[]⟩)
 |[],i,j,t,hj=>by simp at hj
 |u :: ts,i,0,t,hj=>by
  obtain rfl:u=t:=by simpa using hj
  rfl
 |u :: ts,i,j+1,t,hj=>by
  rw[mix]
  show (mix h (i+1) ts)[j]? = _
  rw[mix_get h ts (i+1) j t (by simpa using hj),show i+1+j=i+(j+1) by omega]
theorem pieceR_rec {P:List ByteArray}:∀ (rs:List Rec),(∀ x∈rs,∃ i,i<P.length/\x=recP P i)->∀ j:Nat,(pieceR rs (j:Int)).getD ⟨#[]⟩=if hasR rs (j:Int)=true then P.getD j ⟨#[]⟩ else ⟨#[]⟩:=by
 refine rev_ind (P:=fun rs=>(∀ x∈rs,∃ i,i<P.length/\x=recP P i)->∀ j:Nat,(pieceR rs (j:Int)).getD ⟨#[]⟩=if hasR rs (j:Int)=true then P.getD j ⟨#[]⟩ else ⟨#[]⟩) ?_ ?_
 ·intro _ j
  rfl
 ·intro rs x ih hx j
  have ih':=ih fun y hy=>hx y (List.mem_append_left _ hy);obtain⟨i,hi,rfl⟩:=hx x (List.mem_append_right _ (List.mem_singleton.2 rfl));rw[pieceR_snoc,has_snoc];have ihj:=ih' j
  cases hp:pieceR rs (j:Int) with
  |some t =>
   rw[hp]at ihj
   have hh:hasR rs (j:Int)=true:=by
    unfold pieceR at hp;obtain⟨y,hy,_⟩:=Option.map_eq_some_iff.1 hp;unfold hasR;exact List.any_eq_true.2 ⟨y,List.mem_of_find?_eq_some hy,(List.find?_some (p:=fun x:Rec=>x.1==(j:Int)) hy)⟩
   rw[hh]at ihj ⊢
   simpa using ihj
  |none =>
   have hh:hasR rs (j:Int)=false:=by
    unfold pieceR at hp;have hf:=Option.map_eq_none_iff.1 hp;unfold hasR;rw[List.any_eq_false];exact List.find?_eq_none.1 hf
   rw[hh,Bool.false_or]
   show ((none:Option ByteArray).or (if ((i:Nat):Int)=(j:Int) then some (P.getD i ⟨#[]⟩) else none)).getD ⟨#[]⟩=if (((i:Nat):Int)==(j:Int))=true then P.getD j ⟨#[]⟩ else ⟨#[]⟩
   by_cases hij:i=j
   ·subst hij
    simp
   ·have:¬((i:Nat):Int)=(j:Int):=by omega
    simp[this]
theorem out_lead (H:GS) {f s:ByteArray} {k:Int} {rs:List Rec} (hf:fineB f.size k=true) (h:Kept f.size k (rootV f k) (piecesR f k) s rs) :
  fileV f.size k (rootV f k) (outI (countN f.size k (rootV f k)) rs)=⟨(cat ((blocksR f k).take (lead (fun j=>hasR rs (j:Int)) 0 (blocksR f k).length))).toArray⟩:=by
 have h64:=Pk.piecesR_length f k
 have hlen:(piecesR f k).length=(blocksR f k).length:=by unfold piecesR;rw[List.length_map]
 have hfits:∀ x∈rs,0<=x.1/\x.1<((piecesR f k).length:Nat):=fun x hx=>by
  obtain⟨i,hi,rfl⟩:=h.recs x hx
  show 0<=((i:Nat):Int)/\((i:Nat):Int)<_
  omega
 have hone:rs.Pairwise (fun a b=>a.1≠b.1):=by
  have:=allR_once (fitR f.size k (rootV f k)) s
  rw[h.all]at this;exact this
 rw[count_pieces hf,out_same _ rs hone hfits]
 have e:outS (piecesR f k).length rs=mix (fun j=>hasR rs (j:Int)) 0 (blocksR f k):=by
  apply List.ext_getElem?
  intro j;by_cases hj:j<(blocksR f k).length
  ·rw[mix_get _ _ 0 j (blocksR f k)[j] (List.getElem?_eq_getElem hj),Nat.zero_add]
   rw[List.getElem?_eq_getElem (by unfold outS;rw[List.length_map,List.length_range,hlen];exact hj),outS_at,pieceR_rec rs h.recs j]
   congr 1
   split
   ·unfold piecesR
    rw[List.getD_eq_getElem?_getD,List.getElem?_map,List.getElem?_eq_getElem hj];rfl
   ·rfl
  ·rw[List.getElem?_eq_none (by unfold outS;rw[List.length_map,List.length_range,hlen];omega),List.getElem?_eq_none (by rw[mix_length];omega)]
 unfold fileV;rw[count_pieces hf,e,if_neg (by rw[mix_length];omega),List.take_of_length_le (by rw[mix_length];omega),fileL_mix H];intro j t hj;exact block_must hf j t hj
theorem cat_take_le (l:List ByteArray) {m n:Nat} (h:m<=n):(cat (l.take m)).length<=(cat (l.take n)).length:=by
 have e:l.take n=l.take m++(l.take n).drop m:=by
  have:=List.take_append_drop m (l.take n)
  rw[List.take_take,Nat.min_eq_left h]at this;exact this.symm
 rw[e];unfold cat;rw[List.flatMap_append,List.length_append];omega
def outB (f:ByteArray) (k:Int) (rs:List Rec):ByteArray:=⟨(cat ((blocksR f k).take (lead (fun j=>hasR rs (j:Int)) 0 (blocksR f k).length))).toArray⟩
theorem outB_size (f:ByteArray) (k:Int) (rs:List Rec):(outB f k rs).size=(cat ((blocksR f k).take (lead (fun j=>hasR rs (j:Int)) 0 (blocksR f k).length))).length:=by
 show (cat _).toArray.size=_
 simp
theorem outB_pre {f:ByteArray} {k:Int} (h:fineB f.size k=true) (rs:List Rec):(outB f k rs).size<=f.size/\f.extract 0 (outB f k rs).size=outB f k rs:=by
 have hc:f.data.toList=cat ((blocksR f k).take (lead (fun j=>hasR rs (j:Int)) 0 (blocksR f k).length))++cat ((blocksR f k).drop (lead (fun j=>hasR rs (j:Int)) 0 (blocksR f k).length)):=by
  rw[<-cat_blocks f k h];unfold cat;rw[<-List.flatMap_append,List.take_append_drop]
 have hs:f.size=f.data.toList.length:=by rw[Array.length_toList];rfl
 rw[outB_size];refine⟨?_,?_⟩
 ·rw[hs]
  have:=congrArg List.length hc
  rw[List.length_append]at this;omega
 ·refine Ls.bytes_extL ?_
  rw[Up.ext_list2,hc];unfold outB;simp
theorem outB_mono {f:ByteArray} {k:Int} {rs rt:List Rec} (h:∀ j:Nat,hasR rs (j:Int)=true->hasR rt (j:Int)=true):(outB f k rs).size<=(outB f k rt).size:=by
 rw[outB_size,outB_size];exact cat_take_le _ (lead_mono h _ _)
theorem outB_all {f:ByteArray} {k:Int} (hf:fineB f.size k=true) {rs:List Rec} (h:∀ j:Nat,j<(piecesR f k).length->hasR rs (j:Int)=true):outB f k rs=f:=by
 have hlen:(piecesR f k).length=(blocksR f k).length:=by unfold piecesR;rw[List.length_map]
 unfold outB;rw[lead_all _ _ fun j _ hj=>h j (by omega),List.take_length,cat_blocks f k hf]
theorem outB_nil (f:ByteArray) (k:Int):outB f k []=⟨#[]⟩:=by
 unfold outB
 have e:lead (fun j=>hasR [] (j:Int)) 0 (blocksR f k).length=0:=by
  cases (blocksR f k).length with
  |zero=>rfl
  |succ n=>rfl
 rw[e];rfl
end Kp
namespace fnOutput
open Kp
open Tr (pathOf_spec)
open Sh (Vars)
open Ls (HH rightB fitsB rootV fileV countN pack_size right_of_fine piece_fits)
open Up (Glob)
open Bk (fineB)
open Pk (piecesR)
open St (Strs OwnS)
structure Mad (f:ByteArray) (k:Int) (P:List ByteArray) (z b:Int) (r:ByteArray):Prop where
 fine:fineB f.size k=true
 ez:z=f.size
 eb:b=k
 er:r=rootV f k
 ep:P=piecesR f k
 rt:rightB z b r=true
 eight:P.length<=8
 sz:∀ x∈P,x.size<=53
 fit:∀ i,i<P.length->fitR z b r (recP P i)=true
theorem recP_piece (P:List ByteArray) (i:Nat) (h:i<P.length):(recP P i).2.1=P[i]:=by
 show P.getD i ⟨#[]⟩=P[i]
 rw[List.getD_eq_getElem?_getD,List.getElem?_eq_getElem h];rfl
theorem mad_of {f:ByteArray} {k:Int} (h:fineB f.size k=true) (h8:(piecesR f k).length<=8):Mad f k (piecesR f k) f.size k (rootV f k) where
 fine:=h
 ez:=rfl
 eb:=rfl
 er:=rfl
 ep:=rfl
 rt:=(right_of_fine f k).trans h
 eight:=h8
 sz:=fun s hs=>by
  unfold piecesR at hs;obtain⟨x,_,rfl⟩:=List.mem_map.1 hs;exact pack_size x
 fit:=fun i hi=>by
  have hl:=recP_len _ i hi h8;rw[fit_short (by omega)];have hp:=recP_piece _ i hi
  show fitsB f.size k (rootV f k) (i:Int) (recP (piecesR f k) i).2.1 (Tr.pathR (piecesR f k) i)=true
  rw[hp];exact piece_fits h i hi
theorem add_at {f:ByteArray} {k:Int} {P:List ByteArray} {z b:Int} {r:ByteArray} (M:Mad f k P z b r) {i:Nat} (hi:i<P.length) {s:ByteArray} {rs:List Rec} (hK:Kept z b r P s rs) (hf:rs.length<=16) {W:World} {v:Value} {b':Nat} (ho:OwnS W b' v (Tr.pathR P (i:Nat))) (hh:HH W) (hV:Vars W) :
  Calls prog 11 #[.agg #[.int .i64 z,.int .i64 b,.string r,.string s,.int .i64 0],.int .i64 (i:Nat),.string P[i],v] W fun e w'=>e=.returned (addV (fitR z b r) z b r s 0 (recP P i))/\Below W.heap.size W w':=by
 have hl:=recP_len P i hi M.eight;have hp:=recP_piece P i hi;have hs:=M.sz P[i] (List.getElem_mem hi);have hsl:=hK.len;obtain⟨a,c,hv,hc,hst⟩:=ho.strs
 have h:=keepAdd_impl (fitR z b r) z b r s 0 (recP P i,v) W (by omega) (by show (recP P i).2.1.size<=_;rw[hp];omega) (by show (recP P i).2.2.length<=_;omega) ⟨a,c,hv,hc,hst⟩ hh (fitC_of z b r W hV) (fun x hx=>by
  obtain⟨h1,h2,h3,h4,h5⟩:=fit_facts hx
  exact⟨by omega,by omega,by omega,h4,fun q hq=>by rw[h5 q hq];decide⟩)
 dsimp only at h;rw[hp]at h;exact h
theorem out_at (ga:Addr) {f:ByteArray} {k:Int} {P:List ByteArray} {z b:Int} {r:ByteArray} (M:Mad f k P z b r) {s:ByteArray} {rs:List Rec} (hK:Kept z b r P s rs) (hf:rs.length<=16) {W:World} (hh:HH W) (hV:Vars W) (hG:Glob W (.iface 264 (.pointer (some ga)))) :
  Calls prog 13 #[.agg #[.int .i64 z,.int .i64 b,.string r,.string s,.int .i64 0]] W fun e w'=>e=.returned (.string (outB f k rs))/\Below W.heap.size W w':=by
 have hsl:=hK.len;have h:=output_impl (fitR z b r) (fileV z b r) z b r s 0 W (by omega) hh (fitC_of z b r W hV) (fileC_of z b r ga W hG) (fun x hx=>fit_out x hx);unfold outT at h;rw[if_pos (hK.keep M.rt hf),hK.all]at h;obtain⟨m1,rfl,rfl,rfl,rfl,_⟩:=M;rw[out_lead (Up.gS_of hG) m1 hK]at h;exact h
theorem path_own {W:World} {b n:Nat} {a:Option Addr} {c:Nat} {P:List ByteArray} {i:Nat} (ho:OwnS W b (.slice a n c) P) (hn:n=P.length) (hl:n<=8) :
  Calls prog 12 #[.slice a n c,.int .i64 (i:Nat)] W fun e w'=>∃ v,e=.returned v/\OwnS w' W.heap.size v (Tr.pathR P (i:Nat))/\Below W.heap.size W w':=by
 obtain⟨a',c',hv,hc,hst⟩:=ho.strs;simp at hv;obtain⟨rfl,hnn,rfl⟩:=hv;exact pathOf_spec P n i a c W.heap.size W hn.symm (by omega) (by omega) hst nl
theorem own_pos {W:World} {b n:Nat} {a:Option Addr} {c:Nat} {P:List ByteArray} (ho:OwnS W b (.slice a n c) P) (h0:0<P.length):∃ g,a=some ⟨g,0,none⟩/\g<W.heap.size/\∀ j (h:j<P.length),W.cell? ⟨g,j,none⟩=some (.string P[j]):=by
 rcases ho.split with⟨hv,hq⟩|⟨g,c',hv,hg,hc,hi⟩
 ·rw[hq]at h0
  simp at h0
 ·simp at hv
  exact⟨g,hv.1,hi.lt,fun j h=>hi.cell h⟩
theorem own_set1 {W:World} {base g:Nat} {v:Value} {l:List ByteArray} {cs:Array Value} {T:TypeId} (h:OwnS W base v l) (hg:W.heap[g]? = some (.cells cs T (0,0))) (hT:T≠9) (i:Nat) (x:Value):OwnS (W.setCell ⟨g,i,none⟩ x) base v l:=by
 obtain⟨hl,h⟩:=h;refine⟨hl,?_⟩
 rcases h with h|⟨k,cap,cur,hv,hk,hb,rest⟩
 ·exact .inl h
 ·have hne:k≠g:=by
   rintro rfl;rw[hg]at hb;simp at hb;exact hT hb.2
  refine .inr ⟨k,cap,cur,hv,hk,?_,rest⟩;rw[heap_setCell_other _ _ k _ (by exact hne)];exact hb
theorem own_set5 {W:World} {base g:Nat} {v:Value} {l:List ByteArray} {z b:Int} {r s:ByteArray} {y:Int} (h:OwnS W base v l) (hg:W.heap[g]? = some (kB z b r s y)) (a0 a1 a2 a3 a4:Value) :
  OwnS (((((W.setCell ⟨g,0,none⟩ a0).setCell ⟨g,1,none⟩ a1).setCell ⟨g,2,none⟩ a2).setCell ⟨g,3,none⟩ a3).setCell ⟨g,4,none⟩ a4) base v l:=by
 have g0:=heap_setCell_same W g 0 _ _ a0 hg;have g1:=heap_setCell_same _ g 1 _ _ a1 g0;have g2:=heap_setCell_same _ g 2 _ _ a2 g1;have g3:=heap_setCell_same _ g 3 _ _ a3 g2;exact own_set1 (own_set1 (own_set1 (own_set1 (own_set1 h hg (by decide) 0 a0) g0 (by decide) 1 a1) g1 (by decide) 2 a2) g2 (by decide) 3 a3) g3 (by decide) 4 a4
structure Lp (w:World) (f:ByteArray) (k z b:Int) (r:ByteArray) (P:List ByteArray) (n gk bs:Nat) (al:Option Addr) (cl:Nat) (j:Nat) (s:ByteArray) (rs:List Rec) (wr:World):Prop where
 le:j<=2*n
 kept:Kept z b r P s rs
 few:rs.length<=j
 past:∀ a:Nat,n+a<j->hasR rs (a:Int)=true
 low:Below w.heap.size w wr
 blk:wr.heap[gk]? = some (kB z b r s 0)
 own:OwnS wr bs (.slice al n cl) P
theorem Lp.same {w:World} {f:ByteArray} {k z b:Int} {r:ByteArray} {P:List ByteArray} {n gk bs:Nat} {al:Option Addr} {cl j:Nat} {s:ByteArray} {rs:List Rec} {wr W:World} (h:Lp w f k z b r P n gk bs al cl j s rs wr) (hj:j<2*n) {i:Nat} (hi:n<=j->i=j-n) (hh:hasR rs (i:Int)=true) (hb:Below wr.heap.size wr W):Lp w f k z b r P n gk bs al cl (j+1) s rs W where
 le:=by omega
 kept:=h.kept
 few:=by have:=h.few;omega
 past:=fun a ha=>by
  by_cases hq:n+a<j
  ·exact h.past a hq
  ·obtain rfl:a=i:=by have:=hi (by omega);omega
   exact hh
 low:=h.low.trans (hb.mono h.low.size)
 blk:=(hb.block gk (lt_rowK h.blk)).trans h.blk
 own:=h.own.below hb
theorem Lp.more {w:World} {f:ByteArray} {k z b:Int} {r:ByteArray} {P:List ByteArray} {n gk bs:Nat} {al:Option Addr} {cl j:Nat} {s:ByteArray} {rs:List Rec} {wr W:World} (h:Lp w f k z b r P n gk bs al cl j s rs wr) (hj:j<2*n) {i:Nat} (hi:n<=j->i=j-n) {t:ByteArray} (hk:Kept z b r P t (rs++[recP P i])) (hl:Below w.heap.size w W) (hg:W.heap[gk]? = some (kB z b r t 0)) (ho:OwnS W bs (.slice al n cl) P):Lp w f k z b r P n gk bs al cl (j+1) t (rs++[recP P i]) W where
 le:=by omega
 kept:=hk
 few:=by have:=h.few;rw[List.length_append];show rs.length+1<=j+1;omega
 past:=fun a ha=>by
  rw[has_snoc];by_cases hq:n+a<j
  ·rw[h.past a hq];rfl
  ·obtain rfl:a=i:=by have:=hi (by omega);omega
   show (_ || (((a:Nat):Int)==(a:Int)))=true
   simp
 low:=hl
 blk:=hg
 own:=ho
theorem has_more (rs:List Rec) (x:Rec):∀ j:Nat,hasR rs (j:Int)=true->hasR (rs++[x]) (j:Int)=true:=fun j h=>by rw[has_snoc,h];rfl
end fnOutput
namespace fnOutput
open Dr (Row drawBlocks_any at_any)
open Kp
open Sh (Vars)
open Ls
open Up (Glob glob_keep)
open Bk (fineB)
open Pk (piecesR piecesR_length pieces_spec)
open St (Strs OwnS)
theorem row_keep {w w':World} {a:Option Addr} {n:Nat} (h:Row w w.heap.size a n) (hb:Below w.heap.size w w'):Row w' w'.heap.size a n:=(Dr.Row.below h hb).mono hb.size
theorem low_keep {w0 w w':World} (h:Below w0.heap.size w0 w) (hb:Below w.heap.size w w'):Below w0.heap.size w0 w':=h.trans (hb.mono h.size)
theorem blk_keep {w w':World} {g:Nat} {x:Obj} (h:w.heap[g]? = some x) (hb:Below w.heap.size w w'):w'.heap[g]? = some x:=(hb.block g (Array.getElem?_eq_some_iff.1 h).1).trans h
theorem lq_alloc {w W:World} (h:Below w.heap.size w W) (o:Obj):Below w.heap.size w (W.alloc o):=h.alloc h.size o
theorem lq_set {w W:World} {g i:Nat} (h:Below w.heap.size w W) (hg:w.heap.size<=g) (v:Value):Below w.heap.size w (W.setCell ⟨g,i,none⟩ v):=h.setCell (p:=⟨g,i,none⟩) hg v
theorem lq_drew {w W:World} (h:Below w.heap.size w W):Below w.heap.size w W.drew:=h.drew
theorem of_okO {f:ByteArray} {k z b c:Int} {r:ByteArray} (h:ofV f k=oV z b r c) (hc:c=0):fineB f.size k=true/\z=f.size/\b=k/\r=rootV f k:=by
 unfold ofV oV at h;subst hc
 split at h
 ·simp at h
 ·split at h
  ·rename_i hf
   simp at h;exact⟨hf,h.1.symm,h.2.1.symm,h.2.2.symm⟩
  ·simp at h
theorem walk_in (w:World) (a0:Option Addr) (len0 cap0:Nat) (a1:Option Addr) (len1 cap1:Nat) (r0:Row w w.heap.size a0 len0) (r1:Row w w.heap.size a1 len1) (hl0:len0<=1048576) (hl1:len1<=1048576) (hh:HH w) (hV:Vars w) (ga:Addr) (hG:Glob w (.iface 264 (.pointer (some ga)))) :
  Calls prog 3 #[.slice a0 len0 cap0,.slice a1 len1 cap1] w fun e w'=>e=.returned (.bool true)/\Below w.heap.size w w':=by
 have g0:(len0:Int)<=1048576:=by omega
 have g1:(len1:Int)<=1048576:=by omega
 have f0:¬(1048576:Int)<len0:=by omega
 have f1:¬(1048576:Int)<len1:=by omega
 have d0:decide ((1048576:Int)<len0)=false:=by simp;omega
 have d1:decide ((1048576:Int)<len1)=false:=by simp;omega
 have R0:=hideK r0;have R1:=hideK r1;have HG:=hideK hG;have HV:=hideK hV;have HHH:=hideK hh;clear r0 r1 hG hV hh;go_enter func3,ntmps3
 go_wp2_with fail
 refine(drawBlocks_any a0 len0 cap0 _ hl0 R0.o).mono ?_;rintro e w1 ⟨f,k,hf,hk0,hk1,rfl,hb⟩;have B1:=hideK hb;clear hb;obtain⟨zx,bx,rx,cx,hx⟩:=ofV_form f k
 have HOI:Hid (∀ W,Below w.heap.size w W->Calls prog 5 #[.string f,.int .i64 k] W fun e w'=>e=.returned (oV zx bx rx cx)/\Below W.heap.size W w'):=fun W hW=>by
  have:=of_impl f k W (by omega) (vars_keepF HV.o hW)
  rw[hx]at this;exact this
 have HOS:Hid (∀ W,Calls prog 6 #[.string f,.int .i64 k] W fun e w'=>e=.returned (oV zx bx rx cx)/\Below W.heap.size W w'):=fun W=>by
  have:=of_spec f k W (by omega)
  rw[hx]at this;exact this
 have HX0:Hid (cx=0->countN zx bx rx<=8->Mad f k (piecesR f k) zx bx rx):=fun hc h8=>by
  obtain⟨q1,q2,q3,q4⟩:=of_okO hx hc;rw[q2,q3,q4,count_pieces q1]at h8
  have:=mad_of q1 h8
  rw[<-q2,<-q4]at this;rw[q3];exact this
 have HCS:Hid (∀ W,Calls prog 7 #[.agg #[.int .i64 zx,.int .i64 bx,.string rx]] W fun e w'=>e=.returned (.int .i64 ((countN zx bx rx:Nat):Int))/\Below W.heap.size W w'):=fun W=>count_spec zx bx rx W;clear hx;unfold oV at HOI HOS
 go_wp2_with fail
 refine(HOI.o _ B1.o).mono ?_;rintro e w2 ⟨rfl,hb⟩;have X2:Hid ((w2.alloc (.cells #[.int .i64 zx,.int .i64 bx,.string rx,.int .i64 cx] 28)).heap[w2.heap.size]? = some (.cells #[.int .i64 zx,.int .i64 bx,.string rx,.int .i64 cx] 28 (0,0))):=heap_alloc_new w2 _;have B2:=hideK (lq_alloc (low_keep B1.o hb) (.cells #[.int .i64 zx,.int .i64 bx,.string rx,.int .i64 cx] 28));clear hb B1 HOI
 go_upto_region 5 with fail
 generalize w2.alloc _=W2 at X2 B2 ⊢;generalize w2.heap.size=gx at X2 ⊢;obtain⟨x0,x1,x2,x3⟩:=cells4 X2.o;have gx0:=fun d os=>cell_regrown x0 d os;have gx1:=fun d os=>cell_regrown x1 d os;have gx2:=fun d os=>cell_regrown x2 d os;have gx3:=fun d os=>cell_regrown x3 d os;have hmx:=Ls.mixed;have hcc:countN zx bx rx<=64:=countN_le zx bx rx;generalize hcn:countN zx bx rx=cn at HX0 HCS hcc;have HCN:=hideK hcn;clear hcn;by_cases hcx:cx=0
 ·subst hcx
  by_cases h8:cn<=8
  ·have h8i:¬(8:Int)<(cn:Int):=by omega
   have h8d:decide ((8:Int)<(cn:Int))=false:=by simp;omega
   have h8e:decide (8<cn)=false:=by simp;omega
   refine wp_region_quiet_below (by assumption) (by kernel_rfl) ?_
   repeat (go_big_quiet_step ((first|(go_at_call 6;(with_reducible exact Calls.regrown_of (HOS.o _)))|(go_at_call 7;(with_reducible exact Calls.regrown_of (HCS.o _))))))
   refine wpQuiet_nil ?_;intro _ hw';obtain⟨⟨dq,osq⟩,hww⟩:=hw';subst hww;have KQ:=hideK (below_regrown W2 dq osq);generalize Go.Sort.grow (redrawn W2 dq) osq=w3 at KQ ⊢;clear gx0 gx1 gx2 gx3 x0 x1 x2 x3;have MM0:=hideK (HX0.o rfl h8);have X3:=hideK (blk_keep X2.o KQ.o);have B3:=hideK (low_keep B2.o KQ.o);clear X2 B2 KQ HX0 HOS HCS
   go_wp2_with fail
   refine(pieces_spec f k _ (by omega)).mono ?_;rintro e w4 ⟨v4,rfl,ho,hb⟩;have X4:=hideK (blk_keep X3.o hb);have B4:=hideK (low_keep B3.o hb);clear hb X3;generalize piecesR f k=P at ho MM0 ⊢;obtain⟨al,cl,hv,hcl,_⟩:=ho.strs;subst hv;obtain⟨n,hn⟩:∃ n,n=P.length:=⟨_,rfl⟩;rw[<-hn]at hcl ho ⊢;have HN:=hideK hn
   have hn8:n<=8:=by rw[hn];exact MM0.o.eight
   have MM:=MM0;have O4:=hideK ho
   have HKN:Hid (∀ W,Calls prog 9 #[.agg #[.int .i64 zx,.int .i64 bx,.string rx]] W fun e w'=>e=.returned (.agg #[.int .i64 zx,.int .i64 bx,.string rx,.string ⟨#[]⟩,.int .i64 0])/\Below W.heap.size W w'):=fun W=>by
    have h:=keepNew_impl zx bx rx W;unfold newV at h;rw[if_pos MM0.o.rt]at h;exact h
   clear hn ho MM0;obtain⟨x0,x1,x2,x3⟩:=cells4 X4.o
   go_wp2_with fail
   refine(HKN.o _).mono ?_;rintro e w5 ⟨rfl,hb⟩;have X6:Hid ((w5.alloc (kB zx bx rx ⟨#[]⟩ 0)).heap[w5.heap.size]? = some (kB zx bx rx ⟨#[]⟩ 0)):=heap_alloc_new w5 _;have B6:=hideK (lq_alloc (low_keep B4.o hb) (kB zx bx rx ⟨#[]⟩ 0));have O6:=hideK ((O4.o.below hb).below (lq_alloc (Below.refl _ _) (kB zx bx rx ⟨#[]⟩ 0)));have hgk:w.heap.size<=w5.heap.size:=(low_keep B4.o hb).size;clear hb x0 x1 x2 x3 X4 B4 O4 HKN;unfold kB at X6 B6 O6
   go_upto_region 9 with fail
   generalize w5.alloc _=W6 at X6 B6 O6 ⊢;generalize w5.heap.size=gk at X6 hgk ⊢;generalize w3.heap.size=bs at O6
   have hw2:IntKind.i64.wrap (2*(n:Int))=2*(n:Int):=by rw[IntKind.wrap_i64];omega
   go_wp2_with fail
   go_loopw [11,10] (fun iv ov wr=>∃ (j:Nat) (s:ByteArray) (rs:List Rec),iv=.int .i64 j/\ov=.string (outB f k rs)/\Lp w f k zx bx rx P n gk bs al cl j s rs wr) (fun iv _ _=>2*n-(intOf iv).toNat)
   case atStart=>exact⟨0,⟨#[]⟩,[],rfl,by rw[outB_nil],⟨Nat.zero_le _,kept_new _ _ _ _,nl,fun a h=>absurd h (by omega),B6.o,X6.o,O6.o⟩⟩
   case round =>
    obtain⟨j,s,rs,rfl,rfl,hlp⟩:=hrel;have LP:=hideK hlp;have BW:=hideK hlp.low;have XW:=hideK hlp.blk;have hj16:=hlp.le;clear hlp B6 X6 O6;have hwj:IntKind.i64.wrap ((j:Int)+1)=(j:Int)+1:=(by rw[IntKind.wrap_i64];omega);by_cases hlt:j<2*n
    ·have hlti:(j:Int)<2*(n:Int):=by omega
     have hltd:decide ((j:Int)<2*(n:Int))=true:=by simp;omega
     obtain⟨gp,hal,hgp,hcl2⟩:=own_pos LP.o.own (by have:=HN.o;omega);subst hal;have HCL:=hideK hcl2;clear hcl2;have RW:=hideK (row_keep R1.o BW.o);(go_wp2_with fail);refine(at_any _ a1 len1 cap1 j (n:Int) _ hl1 (by omega) (by omega) RW.o).mono ?_;rintro e w12 ⟨r12,rfl,q0,q1,hw12⟩;subst w12;obtain⟨m,rfl⟩:=Int.eq_ofNat_of_zero_le q0;have hm:m<n:=(by omega);clear q0 q1 RW;by_cases hjn:n<=j
     ·have hjni:(n:Int)<=(j:Int):=by omega
      have hjnd:decide ((n:Int)<=(j:Int))=true:=by simp;omega
      have hkn:j-n<n:=by omega
      have HKJ:Hid (n<=j->j-n=j-n):=fun _=>rfl;have hkl:(j-n)<P.length:=(by rw[<-HN.o];exact hkn);have hki:((j:Int)-(n:Int))<(n:Int):=(by omega);have hk0:(0:Int)<=((j:Int)-(n:Int)):=(by omega);have hkc:¬(n:Int)<=((j:Int)-(n:Int)):=(by omega);have HKI:Hid (((j:Int)-(n:Int))=(((j-n):Nat):Int)):=(by show ((j:Int)-(n:Int))=(((j-n):Nat):Int);omega)
      have CW:Hid (∀ W,Below wr.heap.size wr W->W.cell? ⟨gk,0,none⟩=some (.int .i64 zx)/\W.cell? ⟨gk,1,none⟩=some (.int .i64 bx)/\W.cell? ⟨gk,2,none⟩=some (.string rx)/\W.cell? ⟨gk,3,none⟩=some (.string s)/\W.cell? ⟨gk,4,none⟩=some (.int .i64 0)/\W.cell? ⟨gp,(j-n),none⟩=some (.string P[(j-n)])):=fun W hW=>by
       obtain⟨u0,u1,u2,u3,u4⟩:=k_cells (blk_keep XW.o hW);exact⟨u0,u1,u2,u3,u4,(World.cell?_of_block (w:=wr) (a:=⟨gp,(j-n),none⟩) (hW.block gp hgp)).trans (HCL.o (j-n) hkl)⟩
      have HPA:Hid (∀ W,Below wr.heap.size wr W->Calls prog 12 #[.slice (some ⟨gp,0,none⟩) n cl,.int .i64 ((j:Int)-(n:Int))] W fun e w'=>∃ v,e=.returned v/\OwnS w' W.heap.size v (Tr.pathR P ((j-n):Nat))/\Below W.heap.size W w'):=fun W hW=>by rw[HKI.o];exact path_own (LP.o.own.below hW) HN.o (by omega)
      have HAD:Hid (∀ W v,Below wr.heap.size wr W->(∃ b',OwnS W b' v (Tr.pathR P ((j-n):Nat)))->Calls prog 11 #[.agg #[.int .i64 zx,.int .i64 bx,.string rx,.string s,.int .i64 0],.int .i64 ((j:Int)-(n:Int)),.string P[(j-n)],v] W fun e w'=>e=.returned (addV (fitR zx bx rx) zx bx rx s 0 (recP P (j-n)))/\Below W.heap.size W w'):=fun W v hW ⟨b',ho⟩=>by rw[HKI.o];exact add_at MM.o hkl LP.o.kept (by have:=LP.o.few;omega) ho (hh_keep HHH.o (low_keep BW.o hW)) (vars_keepF HV.o (low_keep BW.o hW))
      obtain⟨ez,eb,er,es,ec,hav,hcase⟩:∃ (ez eb:Int) (er es:ByteArray) (ec:Int),addV (fitR zx bx rx) zx bx rx s 0 (recP P (j-n))=.agg #[.int .i64 ez,.int .i64 eb,.string er,.string es,.int .i64 0,.int .i64 ec]/\((ec=7/\hasR rs (((j-n):Nat):Int)=true)∨(ec=0/\zx=ez/\bx=eb/\rx=er/\s++recT (recP P (j-n))=es/\Kept zx bx rx P (s++recT (recP P (j-n))) (rs++[recP P (j-n)]))):=by
       cases hh:hasR rs (((j-n):Nat):Int) with
       |true=>exact⟨0,0,⟨#[]⟩,⟨#[]⟩,7,LP.o.kept.there MM.o.rt (by have:=LP.o.few;omega) MM.o.eight hkl (MM.o.fit (j-n) hkl) hh,.inl ⟨rfl,rfl⟩⟩
       |false =>
        obtain⟨hav,hkp2⟩:=LP.o.kept.new MM.o.rt (by have:=LP.o.few;omega) MM.o.eight hkl (MM.o.fit (j-n) hkl) hh;exact⟨zx,bx,rx,_,0,hav,.inr ⟨rfl,rfl,rfl,rfl,rfl,hkp2⟩⟩
      rw[hav]at HAD;have HCASE:=hideK hcase;generalize P[(j-n)]=pk at CW HAD;clear hav hcase
      go_upto_region 16 with fail
      try go_wp2_with fail
      go_cut [13] from 78 to 87 (fun s13 wx=>∃ g3:Nat,s13=.pointer (some ⟨g3,0,none⟩)/\wx.heap[g3]? = some (.cells #[.int .i64 ez,.int .i64 eb,.string er,.string es,.int .i64 0,.int .i64 ec] 38 (0,0))/\Below wr.heap.size wr wx)
      case first =>
       have K0:Hid (Below wr.heap.size wr wr.drew):=(Below.refl _ _).drew;have hS0:=CW.o _ K0.o
       go_region_held3 (fun W=>W.cell? ⟨gk,0,none⟩=some (.int .i64 zx)/\W.cell? ⟨gk,1,none⟩=some (.int .i64 bx)/\W.cell? ⟨gk,2,none⟩=some (.string rx)/\W.cell? ⟨gk,3,none⟩=some (.string s)/\W.cell? ⟨gk,4,none⟩=some (.int .i64 0)/\W.cell? ⟨gp,(j-n),none⟩=some (.string pk)) (first|(with_reducible assumption)|exact CW.o _ (by repeat (first|with_reducible exact K2.o|with_reducible exact K1.o|with_reducible exact K0.o|with_reducible exact Below.refl _ _|with_reducible refine lq_alloc ?_ _|with_reducible refine lq_drew ?_|with_reducible refine lq_set ?_ hgz _))) (first|(go_at_call 12;(with_reducible refine(HPA.o ((wr.alloc (.cells #[.int .i64 0,.int .i64 0,.string ⟨#[]⟩,.string ⟨#[]⟩,.int .i64 0,.int .i64 0] 38)).drew) (lq_drew (lq_alloc (Below.refl _ _) _))).mono ?_);rintro e v1 ⟨pv,rfl,ho,hb⟩;have K1:=hideK (low_keep (lq_drew (lq_alloc (Below.refl wr.heap.size wr) (.cells #[.int .i64 0,.int .i64 0,.string ⟨#[]⟩,.string ⟨#[]⟩,.int .i64 0,.int .i64 0] 38))) hb);have NZ1:Hid (v1.heap[wr.heap.size]? = some (.cells #[.int .i64 0,.int .i64 0,.string ⟨#[]⟩,.string ⟨#[]⟩,.int .i64 0,.int .i64 0] 38 (0,0))):=(blk_keep (show ((wr.alloc (.cells #[.int .i64 0,.int .i64 0,.string ⟨#[]⟩,.string ⟨#[]⟩,.int .i64 0,.int .i64 0] 38)).drew).heap[wr.heap.size]? = _ from heap_alloc_new wr (.cells #[.int .i64 0,.int .i64 0,.string ⟨#[]⟩,.string ⟨#[]⟩,.int .i64 0,.int .i64 0] 38)) hb);have O1:=hideK ho;clear hb ho)|(go_at_call 12;(with_reducible refine(HPA.o wr.drew K0.o).mono ?_);rintro e v1 ⟨pv,rfl,ho,hb⟩;have K1:=hideK (low_keep K0.o hb);have O1:=hideK ho;clear hb ho)|(go_at_call 11;(with_reducible refine(HAD.o v1 _ K1.o ?_).mono ?_);(· with_reducible exact⟨_,O1.o⟩);rintro e v2 ⟨rfl,hb⟩;have NZ:=hideK (blk_keep NZ1.o hb);have K2:=hideK (low_keep K1.o hb);have hgz:wr.heap.size<=wr.heap.size:=nl;obtain⟨z0,z1,z2,z3,z4,z5⟩:=cells6 NZ.o;have fz:=(fun o=>frozen_of_row v2 _ o _ _ NZ.o);clear hb)|(go_at_call 11;(with_reducible refine(HAD.o v1 _ K1.o ?_).mono ?_);(· with_reducible exact⟨_,O1.o⟩);rintro e v2 ⟨rfl,hb⟩;have K2:=hideK (low_keep K1.o hb);clear hb)|(go_at_call 11;(with_reducible refine(HAD.o (v1.alloc (.cells #[.int .i64 0,.int .i64 0,.string ⟨#[]⟩,.string ⟨#[]⟩,.int .i64 0,.int .i64 0] 38)) _ (lq_alloc K1.o _) ?_).mono ?_);(· exact⟨_,O1.o.below (lq_alloc (Below.refl _ _) _)⟩);rintro e v2 ⟨rfl,hb⟩;have NZ:=hideK (blk_keep (heap_alloc_new v1 (.cells #[.int .i64 0,.int .i64 0,.string ⟨#[]⟩,.string ⟨#[]⟩,.int .i64 0,.int .i64 0] 38)) hb);have K2:=hideK (low_keep (lq_alloc K1.o (.cells #[.int .i64 0,.int .i64 0,.string ⟨#[]⟩,.string ⟨#[]⟩,.int .i64 0,.int .i64 0] 38)) hb);have hgz:wr.heap.size<=v1.heap.size:=K1.o.size;obtain⟨z0,z1,z2,z3,z4,z5⟩:=cells6 NZ.o;have fz:=(fun o=>frozen_of_row v2 _ o _ _ NZ.o);clear hb))
       all_goals (try go_wp2_with fail)
       all_goals (first|(have hz:=ans6 NZ.o K2.o hgz (.int .i64 ez) (.int .i64 eb) (.string er) (.string es) (.int .i64 0) (.int .i64 ec);go_meet;exact⟨_,rfl,hz.2,hz.1⟩)|(go_meet;exact⟨_,rfl,heap_alloc_new v2 _,lq_alloc K2.o _⟩))
      case rest =>
       obtain⟨g3,rfl,hg3,hbc⟩:=hcut;have N3:=hideK hg3;have K3:=hideK hbc;clear hg3 hbc HPA HAD CW
       rcases HCASE.o with⟨rfl,hh⟩|⟨rfl,rfl,rfl,rfl,rfl,hkp2⟩
       ·obtain⟨e0,e1,e2,e3,e4,e5⟩:=cells6 N3.o
        clear HCASE;have XQ:=hideK (blk_keep XW.o K3.o);have LQ:=hideK (low_keep BW.o K3.o);have HO:=hideK (out_at ga MM.o LP.o.kept (by have:=LP.o.few;simp;omega) (hh_keep HHH.o LQ.o) (vars_keepF HV.o LQ.o) (glob_keep HG.o LQ.o) (W:=wc));obtain⟨i0,i1,i2,i3,i4⟩:=k_cells XQ.o;(go_wp2_with fail);refine HO.o.mono ?_;rintro e w9 ⟨rfl,hb⟩;have K9:=hideK hb;obtain⟨hp1,hp2⟩:=outB_pre MM.o.fine rs;have HMO:=hideK (Nat.le_refl (outB f k rs).size);clear hb i0 i1 i2 i3 i4;have HP2:=hideK hp2;have hm1:=HMO.o;have HFIN:=hideK (fun W (hW:Below wc.heap.size wc W)=>(⟨j+1,s,rs,by go_num,rfl,LP.o.same hlt (fun hq=>by omega) hh (low_keep K3.o hW)⟩:∃ (j2:Nat) (s2:ByteArray) (rs2:List Rec),Value.int .i64 ((j:Int)+1)=.int .i64 j2/\Value.string (outB f k rs)=.string (outB f k rs2)/\Lp w f k zx bx rx P n gk bs (some ⟨gp,0,none⟩) cl j2 s2 rs2 W));generalize outB f k rs=o2 at hp1 hp2 HP2 hm1 HFIN HMO ⊢;have q1:¬((o2.size:Int)<(o2.size:Int)):=(by omega);have q2:¬((f.size:Int)<(o2.size:Int)):=(by omega);have q3:decide ((o2.size:Int)<(o2.size:Int))=false:=(by simp;try omega);have q4:decide ((f.size:Int)<(o2.size:Int))=false:=(by simp;try omega);have q5:(o2.size:Int)<=(f.size:Int):=(by omega);have q6:(o2.toList != o2.toList)=false:=(by simp);clear HMO hm1 hp1;(go_wp2_with fail)
        first|(go_roundw;(case rel=>exact HFIN.o w9 K9.o);(case measure=>simp[intOf];omega))|(exact⟨HFIN.o w9 K9.o,by simp[intOf];omega⟩)
       ·obtain⟨e0,e1,e2,e3,e4,e5⟩:=cells6 N3.o
        have HK2:=hideK hkp2;clear hkp2 HCASE;obtain⟨h0,h1,h2,h3,h4⟩:=k_cells (blk_keep XW.o K3.o);have ff:=fun o=>frozen_of_row wc gk o _ _ (blk_keep XW.o K3.o);have X5:=hideK (set5 (blk_keep XW.o K3.o) (.int .i64 zx) (.int .i64 bx) (.string rx) (.string (s++recT (recP P (j-n)))) (.int .i64 0));have L5:=hideK (set5_low (low_keep BW.o K3.o) hgk (.int .i64 zx) (.int .i64 bx) (.string rx) (.string (s++recT (recP P (j-n)))) (.int .i64 0));have O5:=hideK (own_set5 (LP.o.own.below K3.o) (blk_keep XW.o K3.o) (.int .i64 zx) (.int .i64 bx) (.string rx) (.string (s++recT (recP P (j-n)))) (.int .i64 0))
        go_upto_region 21 with fail
        generalize ((((wc.setCell _ _).setCell _ _).setCell _ _).setCell _ _).setCell _ _=W5 at X5 L5 O5 ⊢;clear h0 h1 h2 h3 h4 ff e0 e1 e2 e3 e4 e5;have XQ:Hid (W5.heap[gk]? = some (kB zx bx rx (s++recT (recP P (j-n))) 0)):=X5.o;have HO:=hideK (out_at ga MM.o HK2.o (by have:=LP.o.few;simp;omega) (hh_keep HHH.o L5.o) (vars_keepF HV.o L5.o) (glob_keep HG.o L5.o) (W:=W5));obtain⟨i0,i1,i2,i3,i4⟩:=k_cells XQ.o;(go_wp2_with fail);refine HO.o.mono ?_;rintro e w9 ⟨rfl,hb⟩;have K9:=hideK hb;obtain⟨hp1,hp2⟩:=outB_pre MM.o.fine (rs++[recP P (j-n)]);have HMO:=hideK (outB_mono (f:=f) (k:=k) (has_more rs (recP P (j-n))));clear hb i0 i1 i2 i3 i4;have HP2:=hideK hp2;have hm1:=HMO.o;have HFIN:=hideK (fun W (hW:Below W5.heap.size W5 W)=>(⟨j+1,s++recT (recP P (j-n)),rs++[recP P (j-n)],by go_num,rfl,LP.o.more hlt (fun hq=>by omega) HK2.o (low_keep L5.o hW) (blk_keep XQ.o hW) (O5.o.below hW)⟩:∃ (j2:Nat) (s2:ByteArray) (rs2:List Rec),Value.int .i64 ((j:Int)+1)=.int .i64 j2/\Value.string (outB f k (rs++[recP P (j-n)]))=.string (outB f k rs2)/\Lp w f k zx bx rx P n gk bs (some ⟨gp,0,none⟩) cl j2 s2 rs2 W));generalize outB f k (rs++[recP P (j-n)])=o2 at hp1 hp2 HP2 hm1 HFIN HMO ⊢;have q1:¬((o2.size:Int)<((outB f k rs).size:Int)):=(by omega);have q2:¬((f.size:Int)<(o2.size:Int)):=(by omega);have q3:decide ((o2.size:Int)<((outB f k rs).size:Int))=false:=(by simp;try omega);have q4:decide ((f.size:Int)<(o2.size:Int))=false:=(by simp;try omega);have q5:(o2.size:Int)<=(f.size:Int):=(by omega);have q6:(o2.toList != o2.toList)=false:=(by simp);clear HMO hm1 hp1;(go_wp2_with fail)
        first|(go_roundw;(case rel=>exact HFIN.o w9 K9.o);(case measure=>simp[intOf];omega))|(exact⟨HFIN.o w9 K9.o,by simp[intOf];omega⟩)
     ·have hjni:¬(n:Int)<=(j:Int):=by omega
      have hjnd:decide ((n:Int)<=(j:Int))=false:=by simp;omega
      have hkn:m<n:=hm;have HKJ:Hid (n<=j->m=j-n):=fun h=>absurd h hjn;have hkl:m<P.length:=(by rw[<-HN.o];exact hkn);have hki:(m:Int)<(n:Int):=(by omega);have hk0:(0:Int)<=(m:Int):=(by omega);have hkc:¬(n:Int)<=(m:Int):=(by omega);have HKI:Hid ((m:Int)=((m:Nat):Int)):=(by show (m:Int)=((m:Nat):Int);omega)
      have CW:Hid (∀ W,Below wr.heap.size wr W->W.cell? ⟨gk,0,none⟩=some (.int .i64 zx)/\W.cell? ⟨gk,1,none⟩=some (.int .i64 bx)/\W.cell? ⟨gk,2,none⟩=some (.string rx)/\W.cell? ⟨gk,3,none⟩=some (.string s)/\W.cell? ⟨gk,4,none⟩=some (.int .i64 0)/\W.cell? ⟨gp,m,none⟩=some (.string P[m])):=fun W hW=>by
       obtain⟨u0,u1,u2,u3,u4⟩:=k_cells (blk_keep XW.o hW);exact⟨u0,u1,u2,u3,u4,(World.cell?_of_block (w:=wr) (a:=⟨gp,m,none⟩) (hW.block gp hgp)).trans (HCL.o m hkl)⟩
      have HPA:Hid (∀ W,Below wr.heap.size wr W->Calls prog 12 #[.slice (some ⟨gp,0,none⟩) n cl,.int .i64 (m:Int)] W fun e w'=>∃ v,e=.returned v/\OwnS w' W.heap.size v (Tr.pathR P (m:Nat))/\Below W.heap.size W w'):=fun W hW=>by rw[HKI.o];exact path_own (LP.o.own.below hW) HN.o (by omega)
      have HAD:Hid (∀ W v,Below wr.heap.size wr W->(∃ b',OwnS W b' v (Tr.pathR P (m:Nat)))->Calls prog 11 #[.agg #[.int .i64 zx,.int .i64 bx,.string rx,.string s,.int .i64 0],.int .i64 (m:Int),.string P[m],v] W fun e w'=>e=.returned (addV (fitR zx bx rx) zx bx rx s 0 (recP P m))/\Below W.heap.size W w'):=fun W v hW ⟨b',ho⟩=>by rw[HKI.o];exact add_at MM.o hkl LP.o.kept (by have:=LP.o.few;omega) ho (hh_keep HHH.o (low_keep BW.o hW)) (vars_keepF HV.o (low_keep BW.o hW))
      obtain⟨ez,eb,er,es,ec,hav,hcase⟩:∃ (ez eb:Int) (er es:ByteArray) (ec:Int),addV (fitR zx bx rx) zx bx rx s 0 (recP P m)=.agg #[.int .i64 ez,.int .i64 eb,.string er,.string es,.int .i64 0,.int .i64 ec]/\((ec=7/\hasR rs ((m:Nat):Int)=true)∨(ec=0/\zx=ez/\bx=eb/\rx=er/\s++recT (recP P m)=es/\Kept zx bx rx P (s++recT (recP P m)) (rs++[recP P m]))):=by
       cases hh:hasR rs ((m:Nat):Int) with
       |true=>exact⟨0,0,⟨#[]⟩,⟨#[]⟩,7,LP.o.kept.there MM.o.rt (by have:=LP.o.few;omega) MM.o.eight hkl (MM.o.fit m hkl) hh,.inl ⟨rfl,rfl⟩⟩
       |false =>
        obtain⟨hav,hkp2⟩:=LP.o.kept.new MM.o.rt (by have:=LP.o.few;omega) MM.o.eight hkl (MM.o.fit m hkl) hh;exact⟨zx,bx,rx,_,0,hav,.inr ⟨rfl,rfl,rfl,rfl,rfl,hkp2⟩⟩
      rw[hav]at HAD;have HCASE:=hideK hcase;generalize P[m]=pk at CW HAD;clear hav hcase
      go_upto_region 16 with fail
      try go_wp2_with fail
      go_cut [13] from 78 to 87 (fun s13 wx=>∃ g3:Nat,s13=.pointer (some ⟨g3,0,none⟩)/\wx.heap[g3]? = some (.cells #[.int .i64 ez,.int .i64 eb,.string er,.string es,.int .i64 0,.int .i64 ec] 38 (0,0))/\Below wr.heap.size wr wx)
      case first =>
       have K0:Hid (Below wr.heap.size wr wr.drew):=(Below.refl _ _).drew;have hS0:=CW.o _ K0.o
       go_region_held3 (fun W=>W.cell? ⟨gk,0,none⟩=some (.int .i64 zx)/\W.cell? ⟨gk,1,none⟩=some (.int .i64 bx)/\W.cell? ⟨gk,2,none⟩=some (.string rx)/\W.cell? ⟨gk,3,none⟩=some (.string s)/\W.cell? ⟨gk,4,none⟩=some (.int .i64 0)/\W.cell? ⟨gp,m,none⟩=some (.string pk)) (first|(with_reducible assumption)|exact CW.o _ (by repeat (first|with_reducible exact K2.o|with_reducible exact K1.o|with_reducible exact K0.o|with_reducible exact Below.refl _ _|with_reducible refine lq_alloc ?_ _|with_reducible refine lq_drew ?_|with_reducible refine lq_set ?_ hgz _))) (first|(go_at_call 12;(with_reducible refine(HPA.o ((wr.alloc (.cells #[.int .i64 0,.int .i64 0,.string ⟨#[]⟩,.string ⟨#[]⟩,.int .i64 0,.int .i64 0] 38)).drew) (lq_drew (lq_alloc (Below.refl _ _) _))).mono ?_);rintro e v1 ⟨pv,rfl,ho,hb⟩;have K1:=hideK (low_keep (lq_drew (lq_alloc (Below.refl wr.heap.size wr) (.cells #[.int .i64 0,.int .i64 0,.string ⟨#[]⟩,.string ⟨#[]⟩,.int .i64 0,.int .i64 0] 38))) hb);have NZ1:Hid (v1.heap[wr.heap.size]? = some (.cells #[.int .i64 0,.int .i64 0,.string ⟨#[]⟩,.string ⟨#[]⟩,.int .i64 0,.int .i64 0] 38 (0,0))):=(blk_keep (show ((wr.alloc (.cells #[.int .i64 0,.int .i64 0,.string ⟨#[]⟩,.string ⟨#[]⟩,.int .i64 0,.int .i64 0] 38)).drew).heap[wr.heap.size]? = _ from heap_alloc_new wr (.cells #[.int .i64 0,.int .i64 0,.string ⟨#[]⟩,.string ⟨#[]⟩,.int .i64 0,.int .i64 0] 38)) hb);have O1:=hideK ho;clear hb ho)|(go_at_call 12;(with_reducible refine(HPA.o wr.drew K0.o).mono ?_);rintro e v1 ⟨pv,rfl,ho,hb⟩;have K1:=hideK (low_keep K0.o hb);have O1:=hideK ho;clear hb ho)|(go_at_call 11;(with_reducible refine(HAD.o v1 _ K1.o ?_).mono ?_);(· with_reducible exact⟨_,O1.o⟩);rintro e v2 ⟨rfl,hb⟩;have NZ:=hideK (blk_keep NZ1.o hb);have K2:=hideK (low_keep K1.o hb);have hgz:wr.heap.size<=wr.heap.size:=nl;obtain⟨z0,z1,z2,z3,z4,z5⟩:=cells6 NZ.o;have fz:=(fun o=>frozen_of_row v2 _ o _ _ NZ.o);clear hb)|(go_at_call 11;(with_reducible refine(HAD.o v1 _ K1.o ?_).mono ?_);(· with_reducible exact⟨_,O1.o⟩);rintro e v2 ⟨rfl,hb⟩;have K2:=hideK (low_keep K1.o hb);clear hb)|(go_at_call 11;(with_reducible refine(HAD.o (v1.alloc (.cells #[.int .i64 0,.int .i64 0,.string ⟨#[]⟩,.string ⟨#[]⟩,.int .i64 0,.int .i64 0] 38)) _ (lq_alloc K1.o _) ?_).mono ?_);(· exact⟨_,O1.o.below (lq_alloc (Below.refl _ _) _)⟩);rintro e v2 ⟨rfl,hb⟩;have NZ:=hideK (blk_keep (heap_alloc_new v1 (.cells #[.int .i64 0,.int .i64 0,.string ⟨#[]⟩,.string ⟨#[]⟩,.int .i64 0,.int .i64 0] 38)) hb);have K2:=hideK (low_keep (lq_alloc K1.o (.cells #[.int .i64 0,.int .i64 0,.string ⟨#[]⟩,.string ⟨#[]⟩,.int .i64 0,.int .i64 0] 38)) hb);have hgz:wr.heap.size<=v1.heap.size:=K1.o.size;obtain⟨z0,z1,z2,z3,z4,z5⟩:=cells6 NZ.o;have fz:=(fun o=>frozen_of_row v2 _ o _ _ NZ.o);clear hb))
       all_goals (try go_wp2_with fail)
       all_goals (first|(have hz:=ans6 NZ.o K2.o hgz (.int .i64 ez) (.int .i64 eb) (.string er) (.string es) (.int .i64 0) (.int .i64 ec);go_meet;exact⟨_,rfl,hz.2,hz.1⟩)|(go_meet;exact⟨_,rfl,heap_alloc_new v2 _,lq_alloc K2.o _⟩))
      case rest =>
       obtain⟨g3,rfl,hg3,hbc⟩:=hcut;have N3:=hideK hg3;have K3:=hideK hbc;clear hg3 hbc HPA HAD CW
       rcases HCASE.o with⟨rfl,hh⟩|⟨rfl,rfl,rfl,rfl,rfl,hkp2⟩
       ·obtain⟨e0,e1,e2,e3,e4,e5⟩:=cells6 N3.o
        clear HCASE;have XQ:=hideK (blk_keep XW.o K3.o);have LQ:=hideK (low_keep BW.o K3.o);have HO:=hideK (out_at ga MM.o LP.o.kept (by have:=LP.o.few;simp;omega) (hh_keep HHH.o LQ.o) (vars_keepF HV.o LQ.o) (glob_keep HG.o LQ.o) (W:=wc));obtain⟨i0,i1,i2,i3,i4⟩:=k_cells XQ.o;(go_wp2_with fail);refine HO.o.mono ?_;rintro e w9 ⟨rfl,hb⟩;have K9:=hideK hb;obtain⟨hp1,hp2⟩:=outB_pre MM.o.fine rs;have HMO:=hideK (Nat.le_refl (outB f k rs).size);clear hb i0 i1 i2 i3 i4;have HP2:=hideK hp2;have hm1:=HMO.o;have HFIN:=hideK (fun W (hW:Below wc.heap.size wc W)=>(⟨j+1,s,rs,by go_num,rfl,LP.o.same hlt (fun hq=>by omega) hh (low_keep K3.o hW)⟩:∃ (j2:Nat) (s2:ByteArray) (rs2:List Rec),Value.int .i64 ((j:Int)+1)=.int .i64 j2/\Value.string (outB f k rs)=.string (outB f k rs2)/\Lp w f k zx bx rx P n gk bs (some ⟨gp,0,none⟩) cl j2 s2 rs2 W));generalize outB f k rs=o2 at hp1 hp2 HP2 hm1 HFIN HMO ⊢;have q1:¬((o2.size:Int)<(o2.size:Int)):=(by omega);have q2:¬((f.size:Int)<(o2.size:Int)):=(by omega);have q3:decide ((o2.size:Int)<(o2.size:Int))=false:=(by simp;try omega);have q4:decide ((f.size:Int)<(o2.size:Int))=false:=(by simp;try omega);have q5:(o2.size:Int)<=(f.size:Int):=(by omega);have q6:(o2.toList != o2.toList)=false:=(by simp);clear HMO hm1 hp1;(go_wp2_with fail)
        first|(go_roundw;(case rel=>exact HFIN.o w9 K9.o);(case measure=>simp[intOf];omega))|(exact⟨HFIN.o w9 K9.o,by simp[intOf];omega⟩)
       ·obtain⟨e0,e1,e2,e3,e4,e5⟩:=cells6 N3.o
        have HK2:=hideK hkp2;clear hkp2 HCASE;obtain⟨h0,h1,h2,h3,h4⟩:=k_cells (blk_keep XW.o K3.o);have ff:=fun o=>frozen_of_row wc gk o _ _ (blk_keep XW.o K3.o);have X5:=hideK (set5 (blk_keep XW.o K3.o) (.int .i64 zx) (.int .i64 bx) (.string rx) (.string (s++recT (recP P m))) (.int .i64 0));have L5:=hideK (set5_low (low_keep BW.o K3.o) hgk (.int .i64 zx) (.int .i64 bx) (.string rx) (.string (s++recT (recP P m))) (.int .i64 0));have O5:=hideK (own_set5 (LP.o.own.below K3.o) (blk_keep XW.o K3.o) (.int .i64 zx) (.int .i64 bx) (.string rx) (.string (s++recT (recP P m))) (.int .i64 0))
        go_upto_region 21 with fail
        generalize ((((wc.setCell _ _).setCell _ _).setCell _ _).setCell _ _).setCell _ _=W5 at X5 L5 O5 ⊢;clear h0 h1 h2 h3 h4 ff e0 e1 e2 e3 e4 e5;have XQ:Hid (W5.heap[gk]? = some (kB zx bx rx (s++recT (recP P m)) 0)):=X5.o;have HO:=hideK (out_at ga MM.o HK2.o (by have:=LP.o.few;simp;omega) (hh_keep HHH.o L5.o) (vars_keepF HV.o L5.o) (glob_keep HG.o L5.o) (W:=W5));obtain⟨i0,i1,i2,i3,i4⟩:=k_cells XQ.o;(go_wp2_with fail);refine HO.o.mono ?_;rintro e w9 ⟨rfl,hb⟩;have K9:=hideK hb;obtain⟨hp1,hp2⟩:=outB_pre MM.o.fine (rs++[recP P m]);have HMO:=hideK (outB_mono (f:=f) (k:=k) (has_more rs (recP P m)));clear hb i0 i1 i2 i3 i4;have HP2:=hideK hp2;have hm1:=HMO.o;have HFIN:=hideK (fun W (hW:Below W5.heap.size W5 W)=>(⟨j+1,s++recT (recP P m),rs++[recP P m],by go_num,rfl,LP.o.more hlt (fun hq=>by omega) HK2.o (low_keep L5.o hW) (blk_keep XQ.o hW) (O5.o.below hW)⟩:∃ (j2:Nat) (s2:ByteArray) (rs2:List Rec),Value.int .i64 ((j:Int)+1)=.int .i64 j2/\Value.string (outB f k (rs++[recP P m]))=.string (outB f k rs2)/\Lp w f k zx bx rx P n gk bs (some ⟨gp,0,none⟩) cl j2 s2 rs2 W));generalize outB f k (rs++[recP P m])=o2 at hp1 hp2 HP2 hm1 HFIN HMO ⊢;have q1:¬((o2.size:Int)<((outB f k rs).size:Int)):=(by omega);have q2:¬((f.size:Int)<(o2.size:Int)):=(by omega);have q3:decide ((o2.size:Int)<((outB f k rs).size:Int))=false:=(by simp;try omega);have q4:decide ((f.size:Int)<(o2.size:Int))=false:=(by simp;try omega);have q5:(o2.size:Int)<=(f.size:Int):=(by omega);have q6:(o2.toList != o2.toList)=false:=(by simp);clear HMO hm1 hp1;(go_wp2_with fail)
        first|(go_roundw;(case rel=>exact HFIN.o w9 K9.o);(case measure=>simp[intOf];omega))|(exact⟨HFIN.o w9 K9.o,by simp[intOf];omega⟩)
    ·have hlti:¬(j:Int)<2*(n:Int):=by omega
     have hltd:decide ((j:Int)<2*(n:Int))=false:=by simp;omega
     have hall:outB f k rs=f:=by
      refine outB_all MM.o.fine fun a ha=>LP.o.past a ?_;rw[<-MM.o.ep,<-HN.o]at ha;omega
     have BQ:=BW;clear LP XW MM;rw[hall];(go_wp2_with fail);go_ret;exact⟨by first|rfl|simp,BQ.o⟩
  ·have h8i:(8:Int)<(cn:Int):=by omega
   have h8d:decide ((8:Int)<(cn:Int))=true:=by simp;omega
   have h8e:decide (8<cn)=true:=by simp;omega
   refine wp_region_quiet_below (by assumption) (by kernel_rfl) ?_
   repeat (go_big_quiet_step ((first|(go_at_call 6;(with_reducible exact Calls.regrown_of (HOS.o _)))|(go_at_call 7;(with_reducible exact Calls.regrown_of (HCS.o _))))))
   refine wpQuiet_nil ?_;intro _ hw';obtain⟨⟨dq,osq⟩,hww⟩:=hw';subst hww;have KQ:=hideK (below_regrown W2 dq osq);generalize Go.Sort.grow (redrawn W2 dq) osq=w3 at KQ ⊢;clear gx0 gx1 gx2 gx3 x0 x1 x2 x3
   go_upto_region 6 with fail
   obtain⟨x0,x1,x2,x3⟩:=cells4 (blk_keep X2.o KQ.o);have gx0:=fun d os=>cell_regrown x0 d os;have gx1:=fun d os=>cell_regrown x1 d os;have gx2:=fun d os=>cell_regrown x2 d os;have gx3:=fun d os=>cell_regrown x3 d os;refine wp_region_quiet_below (by assumption) (by kernel_rfl) ?_
   repeat (go_big_quiet_step ((go_at_call 6;(with_reducible exact Calls.regrown_of (HOS.o _)))))
   refine wpQuiet_nil ?_;intro _ hw';obtain⟨⟨dr,osr⟩,hww⟩:=hw';subst hww;have KR:=hideK (low_keep B2.o (low_keep KQ.o (below_regrown w3 dr osr)));generalize Go.Sort.grow (redrawn w3 dr) osr=w4 at KR ⊢;clear gx0 gx1 gx2 gx3 x0 x1 x2 x3
   go_wp2_with fail
   go_ret;exact⟨by first|rfl|simp,KR.o⟩
 ·have hcx':(cx != 0)=true:=by simpa using hcx
  refine wp_region_quiet_below (by assumption) (by kernel_rfl) ?_
  repeat (go_big_quiet_step ((first|(go_at_call 6;(with_reducible exact Calls.regrown_of (HOS.o _)))|(go_at_call 7;(with_reducible exact Calls.regrown_of (HCS.o _))))))
  refine wpQuiet_nil ?_;intro _ hw';obtain⟨⟨dq,osq⟩,hww⟩:=hw';subst hww;have KQ:=hideK (below_regrown W2 dq osq);generalize Go.Sort.grow (redrawn W2 dq) osq=w3 at KQ ⊢;clear gx0 gx1 gx2 gx3 x0 x1 x2 x3
  go_upto_region 6 with fail
  obtain⟨x0,x1,x2,x3⟩:=cells4 (blk_keep X2.o KQ.o);have gx0:=fun d os=>cell_regrown x0 d os;have gx1:=fun d os=>cell_regrown x1 d os;have gx2:=fun d os=>cell_regrown x2 d os;have gx3:=fun d os=>cell_regrown x3 d os;refine wp_region_quiet_below (by assumption) (by kernel_rfl) ?_
  repeat (go_big_quiet_step ((go_at_call 6;(with_reducible exact Calls.regrown_of (HOS.o _)))))
  refine wpQuiet_nil ?_;intro _ hw';obtain⟨⟨dr,osr⟩,hww⟩:=hw';subst hww;have KR:=hideK (low_keep B2.o (low_keep KQ.o (below_regrown w3 dr osr)));generalize Go.Sort.grow (redrawn w3 dr) osr=w4 at KR ⊢;clear gx0 gx1 gx2 gx3 x0 x1 x2 x3
  go_wp2_with fail
  go_ret;exact⟨by first|rfl|simp,KR.o⟩
end fnOutput
end Go.Proofs.YtbdcffjcogglbaaGreatDoor
