/- Texts put together: BwtImpl, PackWalks, PkImpl, PcImpl, PackSpec, OrdSpec, BwtSpec, ZeroSpec2, PkSpec. -/
import Derived.Test.YtjfdllgodijibaaGreatDoorWz42
import Derived.Test.YtjfdllgodijibaaGreatDoorWz43
import Derived.Test.YtjfdllgodijibaaGreatDoorWz28
import Derived.Test.YtjfdllgodijibaaGreatDoorWz41
import Derived.Test.YtjfdllgodijibaaGreatDoorWz24
import Derived.Laws.AppendOwn
import Derived.BigRegion
import Derived.Test.YtjfdllgodijibaaGreatDoorWz29
import Derived.Test.YtjfdllgodijibaaGreatDoorWz33
import Derived.Deep.RegionHeld3
import Derived.Deep.CutRange
import Derived.Test.YtjfdllgodijibaaGreatDoorWz22
import Derived.Test.YtjfdllgodijibaaGreatDoorWz32
import Derived.Lib.QuietBelow
set_option maxRecDepth 100000
set_option maxHeartbeats 8000000
/- What the program's Bwt answers. -/
namespace Go.Proofs.YtjfdllgodijibaaGreatDoor.So
open Go.RowKit Go.Sort Go.Proofs
open Sh (bt bt_get bt_lt strF IsB made_row)
def sOut (t:ByteArray) (a c:Nat):Value:=.agg #[.string t,.int .i64 a,.int .i64 c]
theorem atK_next (f:Nat->Nat) (k:Nat):(f k=0->atK f (k+1)=k)/\(f k≠0->atK f (k+1)=atK f k):=by
 constructor
 ·intro h;rw[atK,if_pos h]
 ·intro h;rw[atK,if_neg h]
end Go.Proofs.YtjfdllgodijibaaGreatDoor.So


namespace Go.Proofs.YtjfdllgodijibaaGreatDoor.Bi
open Go.RowKit
open Sh
open Nu (ret_strJ bv own_string app_below)
theorem byte_at (t:ByteArray) (j:Nat) (h:j<t.size):∃ y:UInt8,t[j]=y/\y.toNat=bt t j:=⟨t[j],rfl,bt_get t j h⟩
theorem all_more (t:ByteArray) (k:Nat) (h:∀ j,j<k->bt t j=48∨bt t j=49) (hk:bt t k=48∨bt t k=49):∀ j,j<k+1->bt t j=48∨bt t j=49:=by
 intro j hj
 by_cases e:j=k
 ·rw[e];exact hk
 ·exact h j (by omega)
theorem good_spec (t:ByteArray) (w:World) (ht:t.size<=1048576) :
  Calls Tryz.prog 98 #[.string t] w fun e w'=>e=.returned (.bool (good t))/\w'=w:=by
 go_enter Tryz.func98,Tryz.ntmps98
 go_wp2_with fail
 go_loopw [3] (fun i wr=>∃ k:Nat,i=.int .i64 k/\k<=t.size/\(∀ j,j<k->bt t j=48∨bt t j=49)/\wr=w) (fun i _=>t.size-(intOf i).toNat)
 case atStart=>exact⟨0,rfl,Nat.zero_le _,fun j hj=>absurd hj (Nat.not_lt_zero j),rfl⟩
 case round =>
  obtain⟨k,rfl,hk,hall,hw⟩:=hrel
  subst hw
  have HA:=hideB hall
  clear hall
  by_cases hlt:k<t.size
  ·obtain⟨y,b0,hy⟩:=byte_at t k hlt
   have HY:=hideB hy
   by_cases e8:(y.toNat:Int)=48
   ·have n8:((y.toNat:Int) != 48)=false:=by rw[e8];rfl
    have HM:Hid (∀ j,j<k+1->bt t j=48∨bt t j=49):=all_more t k HA.out (by rw[<-HY.out];omega)
    clear hy e8
    go_wp2_with fail
    go_roundw
    case rel=>exact⟨k+1,by go_num,by omega,HM.out,trivial⟩
    case measure=>simp[intOf];omega
   ·have n8:((y.toNat:Int) != 48)=true:=by rw[bne_iff_ne];exact e8
    by_cases e9:(y.toNat:Int)=49
    ·have n9:((y.toNat:Int) != 49)=false:=by rw[e9];rfl
     have HM:Hid (∀ j,j<k+1->bt t j=48∨bt t j=49):=all_more t k HA.out (by rw[<-HY.out];omega)
     clear hy e8 e9
     go_wp2_with fail
     go_roundw
     case rel=>exact⟨k+1,by go_num,by omega,HM.out,trivial⟩
     case measure=>simp[intOf];omega
    ·have n9:((y.toNat:Int) != 49)=true:=by rw[bne_iff_ne];exact e9
     have HN:=hideB (good_not hlt (by rw[<-HY.out];omega) (by rw[<-HY.out];omega))
     clear hy e8 e9
     go_wp2_with fail
     go_ret
     exact⟨ret_boolB HN.out.symm,rfl⟩
  ·have HG:=hideB (good_of (t:=t) (fun j hj=>HA.out j (by omega)))
   go_wp2_with fail
   go_ret
   exact⟨ret_boolB HG.out.symm,rfl⟩
end Go.Proofs.YtjfdllgodijibaaGreatDoor.Bi


/- The walks of shortForm and impl.BlockPack. -/
namespace Go.Proofs.YtjfdllgodijibaaGreatDoor.Pk
open Go.RowKit
open St (Strs IsS)
open In (Ints IsI OwnI)
open Hf (up up_length)
open Bi (above putR packR)
open Go.Proofs.YtjfdllgodijibaaGreatDoor.So (bwtT bwtA bwtC sOut)
open Fr (frontR frontR_len)
open Ze (zerosR)
open Se (sealV)
theorem ints_keep {w w':World} {a:Option Addr} {l:List Int} (h:Ints w w.heap.size a l) (hb:Below w.heap.size w w'):Ints w' w'.heap.size a l:=(h.below hb).mono hb.size
theorem lt_blk {w:World} {g:Nat} {x:Obj} (h:w.heap[g]? = some x):g<w.heap.size:=(Array.getElem?_eq_some_iff.1 h).1
theorem blk_keep {w w':World} {g:Nat} {x:Obj} (h:w.heap[g]? = some x) (hb:Below w.heap.size w w'):w'.heap[g]? = some x:=(hb.block g (lt_blk h)).trans h
theorem low_keep {w0 w w':World} (h:Below w0.heap.size w0 w) (hb:Below w.heap.size w w'):Below w0.heap.size w0 w':=h.trans (hb.mono h.size)
theorem packR_size (t:ByteArray) (h:t.size<=4800):(packR t).size<=4800:=by
 unfold packR
 split
 ·decide
 ·unfold Bi.packV
  rw[Sh.strF_size]
  omega
theorem bitsS_size (b:ByteArray):(bitsS b).size<=4800:=packR_size _ (bits_size b)
theorem bwtA_le (b:ByteArray) (h:b.size<=48):bwtA b<=48:=by
 unfold bwtA
 rw[if_pos h]
 exact Nat.le_trans (So.atK_le _ _) h
theorem shortL_le (b:ByteArray):(shortL b).length<=20000:=by
 have h1:=numsL_le (headS b)
 have h2:=numsL_le (rowT (lenS b) 257)
 have h3:=rowT_length (lenS b) 257
 have h4:=bitsS_size b
 have h5:(bitsS b).data.toList.length=(bitsS b).size:=by simp
 have h6:(headS b).length=4:=rfl
 unfold shortL
 rw[List.length_append,List.length_append,List.length_append]
 simp only[List.length_cons,List.length_nil]
 omega
end Go.Proofs.YtjfdllgodijibaaGreatDoor.Pk


/- The walk of impl.PiecesOf. -/
namespace Go.Proofs.YtjfdllgodijibaaGreatDoor.Pk
open Go.RowKit
open St (OwnS IsS Strs made_strs srow)
open Bk (blocksR blocksR_length blks blks_length cnt)
noncomputable def piecesR (s:ByteArray) (size:Int):List ByteArray:=(blocksR s size).map packB
theorem piecesR_length (s:ByteArray) (size:Int):(piecesR s size).length<=64:=by
 unfold piecesR
 rw[List.length_map]
 exact blocksR_length s size
noncomputable def midP (l:List ByteArray) (k:Nat):List ByteArray:=(l.take k).map packB++List.replicate (l.length-k) ⟨#[]⟩
theorem strs_keep {w w':World} {a:Option Addr} {l:List ByteArray} (h:Strs w w.heap.size a l) (hb:Below w.heap.size w w'):Strs w' w'.heap.size a l:=(h.below hb).mono hb.size
theorem strs_some {w:World} {B:Nat} {a:Option Addr} {l:List ByteArray} (h:Strs w B a l) (h0:0<l.length):∃ b off,a=some ⟨b,off,none⟩/\b<B/\∀ j (h:j<l.length),w.cell? ⟨b,off+j,none⟩=some (.string l[j]):=by
 rcases h with h|h
 ·subst h
  simp at h0
 ·exact h
theorem blks_size (s:ByteArray) (k:Nat):∀ n,∀ x∈blks s k n,x.size<=k
 |0,x,h=>absurd h (List.not_mem_nil)
 |n+1,x,h=>by
  rw[blks]at h
  rcases List.mem_append.1 h with h|h
  ·exact blks_size s k n x h
  ·rw[List.mem_singleton.1 h,ByteArray.size_extract]
   omega
theorem blocks_size (s:ByteArray) (size:Int):∀ x∈blocksR s size,x.size<=48:=by
 intro x hx
 unfold blocksR at hx
 split at hx
 ·rename_i h
  have h:=of_decide_eq_true h
  have:=blks_size s size.toNat _ x hx
  omega
 ·exact absurd hx (List.not_mem_nil)
end Go.Proofs.YtjfdllgodijibaaGreatDoor.Pk


namespace Go.Proofs.YtjfdllgodijibaaGreatDoor.Bi
open Go.RowKit
open Sh
open Nu (ret_strJ bv own_string app_below)
def pkL (t:ByteArray) (q:Nat):List UInt8:=(List.range q).map fun j=>UInt8.ofNat (pk t j 8)
theorem pkL_length (t:ByteArray) (q:Nat):(pkL t q).length=q:=by simp[pkL]
theorem pkL_next (t:ByteArray) (q:Nat):pkL t (q+1)=pkL t q++[UInt8.ofNat (pk t q 8)]:=by simp[pkL,List.range_succ]
theorem pkL_all (t:ByteArray):(⟨(pkL t ((t.size+7)/8)).toArray⟩:ByteArray)=packV t:=rfl
theorem pkL_row {w:World} {B q:Nat} {e:TypeId} {v:Value} {t:ByteArray} {h:Nat} (hh:h=pk t q 8) (hr:w.ownsRow B e 1 v (q+1) ((pkL t q).map bv++[.int .u8 (h:Int)])) :
  w.ownsRow B e 1 v (q+1) ((pkL t (q+1)).map bv):=by
 rw[pkL_next,List.map_append,List.map_singleton]
 have:bv (UInt8.ofNat (pk t q 8))=.int .u8 (h:Int):=by
  have:=pk_lt t q 8 (Nat.le_refl _)
  unfold bv
  rw[UInt8.toNat_ofNat',Nat.mod_eq_of_lt (by omega),hh]
 rw[this]
 exact hr
theorem own_len {w:World} {B m n:Nat} {e:TypeId} {v:Value} {xs:List Value} (h:w.ownsRow B e 1 v m xs) (hm:m=n):w.ownsRow B e 1 v n xs:=by rw[<-hm];exact h
theorem packS_yes (t:ByteArray) (w:World) (ht:¬8000<t.size) (hg:good t=true) :
  Calls Tryz.prog 87 #[.string t] w fun e w'=>e=.returned (.string (packV t))/\Below w.heap.size w w':=by
 obtain⟨i0,hi,hz0,hz1,hz2⟩:=info_parts Nu.Tryz.infoJ5
 have HG:=hideB (good_spec t w (by omega))
 rw[hg]at HG
 have HA:=hideB (good_yes hg)
 have hd8:decide (8000<(t.size:Int))=false:=decide_eq_false (by omega)
 clear hg
 go_enter Tryz.func87,Tryz.ntmps87
 go_wp2_with fail
 refine HG.out.mono ?_
 rintro e w' ⟨rfl,hw⟩
 subst w'
 go_wp2_with fail
 go_loopw [4,3] (fun i v wr=>∃ q:Nat,i=.int .i64 (8*(q:Int))/\8*q<=t.size+7/\wr.ownsRow w.heap.size 5 1 v q ((pkL t q).map bv)/\Below w.heap.size w wr) (fun i _ _=>t.size+8-(intOf i).toNat)
 case atStart=>exact⟨0,rfl,by omega,World.ownsRow_made _ _ _ (Nat.le_refl _) (by decide) rfl,(Below.refl _ _).alloc (Nat.le_refl _) _⟩
 case round =>
  obtain⟨q,rfl,hq,hown,hbel⟩:=hrel
  have HO:=hideB hown
  have GB:=hideB hbel
  clear hown hbel
  by_cases hlt:8*q<t.size
  ·have hlt':8*(q:Int)<t.size:=by omega
   go_wp2_with fail
   go_loopw [6,5] (fun i v wr2=>∃ r h:Nat,i=.int .i64 (8*(q:Int)+r)/\v=.int .i64 h/\h=hd t q r/\r<=8/\wr2=wr) (fun i _ _=>8*q+8-(intOf i).toNat)
   case atStart=>exact⟨0,0,by go_num,rfl,rfl,by omega,rfl⟩
   case round =>
    obtain⟨r,h,rfl,rfl,hh,hr,hw⟩:=hrel
    subst hw
    have HH:=hideB hh
    have hle:h<256:=by rw[hh];exact hd_le t q r hr
    clear hh
    by_cases hr8:r<8
    ·by_cases hin:8*q+r<t.size
     ·obtain⟨i,hii⟩:∃ i:Nat,i=8*q+r:=⟨_,rfl⟩
      have hiz:8*(q:Int)+r=i:=by omega
      have hib:i<t.size:=by omega
      obtain⟨y,b0,hy⟩:=byte_at t i hib
      have h01:=HA.out i (by omega)
      rw[<-hy]at h01
      have h02:(48:Int)<=y.toNat/\(y.toNat:Int)<=49:=by omega
      have HN:Hid (2*(h:Int)+((y.toNat:Int)-48)=((hd t q (r+1):Nat):Int)):=by
       unfold Hid
       simp only[hd]
       rw[<-HH.out,<-hii]
       unfold one
       by_cases e:bt t i=49
       ·rw[if_pos ⟨by omega,e⟩]
        omega
       ·rw[if_neg (fun x=>e x.2)]
        omega
      have HI:=hideB hii
      clear hy h01 hii
      rw[hiz]
      have hi8:(i:Int)<8*(q:Int)+8:=by omega
      have hit:(i:Int)<t.size:=by omega
      go_wp2_with fail
      go_roundw
      case rel=>exact⟨r+1,hd t q (r+1),by go_num,by rw[<-HN.out],rfl,by omega,trivial⟩
      case measure=>simp[intOf];omega
     ·have HN:Hid (2*(h:Int)=((hd t q (r+1):Nat):Int)):=by
       unfold Hid
       simp only[hd]
       rw[<-HH.out,one_behind t _ (by omega)]
       omega
      have hit:¬8*(q:Int)+r<t.size:=by omega
      go_wp2_with fail
      go_roundw
      case rel=>exact⟨r+1,hd t q (r+1),by go_num,by rw[<-HN.out],rfl,by omega,trivial⟩
      case measure=>simp[intOf];omega
    ·have HE:Hid (h=pk t q 8):=by
      unfold Hid
      rw[HH.out,show r=8 by omega,hd_all]
     have hge:¬8*(q:Int)+r<8*(q:Int)+8:=by omega
     have hown:=HO.out
     have hbz:=GB.out.size
     go_wp2_with (at_builtin;refine wpList_append_own _ rfl (.tmp 42) (.tmp 45) 22 rfl w.heap.size 5 i0 (.int .u8 0) 1 1 Tryz.underlying22 hi hz0 hz1 hz2 rfl (by decide) _ _ _ rfl (hown.alloc _) ⟨wr.heap.size,0,none⟩ 1 1 [.int .u8 (h:Int)] rfl rfl ?c1 ?c2 ?c3 ?c4 ?c5 ?_)
     case c2=>rfl
     case c3=>unfold maxLen;omega
     case c4=>omega
     case c5=>omega
     intro v' w1 hown' hgrow _
     have H1:=hideB (app_below GB.out (Nat.le_refl _) HO.out hgrow)
     have R1:=hideB (pkL_row HE.out hown')
     clear hown' hgrow hown
     go_wp2_with fail
     go_roundw
     case rel=>exact⟨q+1,by go_num,by omega,R1.out,H1.out⟩
     case measure=>simp[intOf];omega
  ·have hlt':¬8*(q:Int)<t.size:=by omega
   have HQ:Hid (q=(t.size+7)/8):=by
    unfold Hid
    omega
   have hcv:=own_string (P:=Tryz.prog) (src:=22) (dst:=9) (pkL t q) (own_len HO.out (pkL_length t q).symm) Tryz.underlying22 Tryz.underlying5 Tryz.underlying9
   have HE:Hid ((⟨(pkL t q).toArray⟩:ByteArray)=packV t):=by
    unfold Hid
    rw[HQ.out]
    exact pkL_all t
   rw[HE.out]at hcv
   go_wp2_with fail
   go_ret
   exact⟨rfl,GB.out⟩
theorem pack_spec (t:ByteArray) (w:World) (ht:t.size<=1048576) :
  Calls Tryz.prog 87 #[.string t] w fun e w'=>e=.returned (.string (packR t))/\Below w.heap.size w w':=by
 by_cases h:8000<t.size
 ·have HE:=hideB (packR_no t (Or.inl h))
  go_enter Tryz.func87,Tryz.ntmps87
  go_wp2_with fail
  go_ret
  exact⟨ret_strJ HE.out.symm,Below.refl _ _⟩
 ·cases hg:good t with
  |false =>
   have HE:=hideB (packR_no t (Or.inr hg))
   have HG:=hideB (good_spec t w (by omega))
   rw[hg]at HG
   go_enter Tryz.func87,Tryz.ntmps87
   go_wp2_with fail
   refine HG.out.mono ?_
   rintro e w' ⟨rfl,hw⟩
   subst w'
   go_wp2_with fail
   go_ret
   exact⟨ret_strJ HE.out.symm,Below.refl _ _⟩
  |true =>
   rw[packR_yes t h hg]
   exact packS_yes t w h hg
end Go.Proofs.YtjfdllgodijibaaGreatDoor.Bi


namespace Go.Proofs.YtjfdllgodijibaaGreatDoor.So
open Go.RowKit
open In (OwnI IsO one_newI one_cellI)
open In.Tryz (infoI2)
open Ze (own_some own_news own_cells)
theorem turn_spec (t:ByteArray) (k:Nat) (w:World) (ht:t.size<=1048576) (hk:k<=t.size) :
  Calls Tryz.prog 99 #[.string t,.int .i64 k] w fun e w'=>e=.returned (.string (turnV t k))/\∃ q,w'=w.drewN q:=by
 have mixed:=mixed
 unfold turnV
 have hq0:(t.extract k t.size).size+(t.extract 0 k).size<=9223372036854775807:=by simp;omega
 have hle:(k:Int)<=(t.size:Int):=by omega
 have hge:¬(t.size:Int)<(k:Int):=by omega
 go_enter Tryz.func99,Tryz.ntmps99
 go_wp2_with fail
 go_quiet (fail)
 go_wp2_with fail
 go_ret
 exact⟨rfl,nq,rfl⟩
theorem below_drewN {B:Nat} {w w':World} (h:Below B w w') (n:Nat):Below B w (w'.drewN n):=⟨h.os,h.tape,h.output,h.size,h.block⟩
theorem own_drewN {w:World} {base:Nat} {v:Value} {l:List Int} (h:OwnI w base v l) (n:Nat):OwnI (w.drewN n) base v l :=
 h.below (below_drewN (Below.refl _ _) n)
theorem isO_take {w:World} {g:Nat} {l:List Nat} (h:IsO w g 2 (ints l)) (p:Nat):IsO w g 2 (ints (l.take p)):=by
 obtain⟨cur,hb,hc⟩:=h
 refine⟨cur,hb,fun j hj=>?_⟩
 have hj2:j<min p l.length:=by simpa [ints] using hj
 have hj':j<p/\j<l.length:=by omega
 have:=hc j (by rw[ints_len];exact hj'.2)
 simpa [ints] using this
theorem isO_drop {w:World} {g:Nat} {l:List Nat} (h:IsO w g 2 (ints l)) (p:Nat):∀ (j:Nat) (u:Value),((ints (l.drop p)).map (Value.int .i64))[j]? = some u->w.cell? ((⟨g,p,none⟩:Addr).add j)=some u:=by
 intro j u hj
 have hadd:(⟨g,p,none⟩:Addr).add j=⟨g,p+j,none⟩:=by unfold Addr.add;split<;>simp_all
 rw[hadd]
 simp only[ints,List.getElem?_map,List.getElem?_drop]at hj
 cases hl:l[p+j]? with
 |none=>rw[hl]at hj;cases hj
 |some x =>
  rw[hl]at hj
  obtain⟨hlt,hx⟩:=List.getElem?_eq_some_iff.1 hl
  rw[h.cell (j:=p+j) (by rw[ints_len];exact hlt)]
  simp[ints,hx]at hj ⊢
  exact hj
theorem own_ne {w:World} {base:Nat} {v:Value} {l:List Int} (h:OwnI w base v l) (hl:0<l.length):v≠.slice none 0 0:=by
 rcases h.split with⟨_,rfl⟩|⟨g,cap,rfl,_⟩
 ·simp at hl
 ·simp
theorem order_spec (t:ByteArray) (w:World) (ht:t.size<=48) :
  Calls Tryz.prog 90 #[.string t] w fun e w'=>∃ v l,e=.returned v/\OwnI w' w.heap.size v (ints l)/\OrdOk t l/\v≠.slice none 0 0/\Below w.heap.size w w':=by
 have mixed:=mixed
 obtain⟨i0,hi0,hz0,hz1,hz2⟩:=info_parts infoI2
 have HW:=hideO (Ze.OwnI.empty w)
 have HT:=hideO (fun (k:Nat) (W:World) (hk:k<=t.size)=>turn_spec t k W (by omega) hk)
 have htz:(t.size:Int)<=48:=by omega
 go_enter Tryz.func90,Tryz.ntmps90
 go_wp2_with fail
 go_loopw [4,3] (fun i u wr=>∃ (k:Nat) (l:List Nat),i=.int .i64 k/\k<=t.size/\l.Perm (List.range k)/\l.Pairwise (lx (clT (turnV t)))/\OwnI wr w.heap.size u (ints l)/\u≠.slice none 0 0/\Below w.heap.size w wr) (fun i _ _=>t.size-(intOf i).toNat)
 case atStart=>exact⟨0,[],rfl,Nat.zero_le _,List.Perm.refl _,List.Pairwise.nil,HW.out,by simp,(Below.refl _ _).alloc (Nat.le_refl _) _⟩
 case round =>
  obtain⟨k,l,rfl,hk,hp,hs,hown,hne,hbel⟩:=hrel
  have HP:=hideO hp
  have HS:=hideO hs
  have GB:=hideO hbel
  have hsz:=hbel.size
  have hlk:l.length=k:=by have:=hp.length_eq;simpa using this
  have HL:=hideO hlk
  have G1:=hideO hown
  obtain⟨g,cap,rfl,hg,hgl,ho⟩:=own_some hown hne
  rw[ints_len,hlk]at G1 ⊢
  have HO:=hideO ho
  have hcap:k<=cap:=by
   obtain⟨_,h⟩:=hown
   rcases h with⟨h,_⟩|⟨g',cap',cur,hv,_,_,hle,_⟩
   ·cases h
   ·simp at hv
    rw[ints_len,hlk]at hle
    omega
  have hcm:cap<=maxLen:=by
   obtain⟨_,h⟩:=hown
   rcases h with⟨h,_⟩|⟨g',cap',cur,hv,_,_,_,hle,_⟩
   ·cases h
   ·simp at hv
    omega
  clear hown hne hbel hp hs ho hlk
  by_cases hlt:k<t.size
  ·have hlt':(k:Int)<(t.size:Int):=by omega
   obtain⟨wo,hwo⟩:∃ wo,wo=wr:=⟨_,rfl⟩
   subst hwo
   go_wp2_with fail
   go_loopw [5] (fun i wr2=>∃ (p q:Nat),i=.int .i64 p/\p<=k/\(∀ j (h:j<l.length),p<=j->clT (turnV t) k l[j]=true)/\wr2=wo.drewN q) (fun i _=>(intOf i).toNat)
   case atStart=>exact⟨k,0,rfl,Nat.le_refl _,fun j h1 h2=>absurd h1 (by have:=HL.out;omega),rfl⟩
   case round =>
    obtain⟨p,q,rfl,hpk,hhi,hwr⟩:=hrel
    have HHI:=hideO hhi
    have HWR:=hideO hwr
    have hO2:IsO wr g 2 (ints l):=by rw[hwr];exact HO.out.of_heap rfl
    clear hhi hwr
    by_cases hp0:0<p
    ·obtain⟨pp,hpp⟩:∃ pp,p=pp+1:=⟨p-1,by omega⟩
     have hppl:pp<l.length:=by have:=HL.out;omega
     have c0:=hO2.cell (j:=pp) (by rw[ints_len];exact hppl)
     have ey:(ints l)[pp]'(by rw[ints_len];exact hppl)=((l[pp]:Nat):Int):=by simp[ints]
     rw[ey]at c0
     have hyk:l[pp]<k:=by
      have:=HP.out.mem_iff.1 (List.getElem_mem hppl)
      simpa using this
     obtain⟨y,hy⟩:∃ y,y=l[pp]:=⟨_,rfl⟩
     rw[<-hy]at c0 hyk
     have c1:=fun n'=>(show (wr.drewN n').cell? ⟨g,pp,none⟩=some (.int .i64 (y:Nat)) from c0)
     have HTK:=hideO (fun W=>HT.out k W (by omega))
     have HTY:=hideO (fun W=>HT.out y W (by omega))
     have HCL:Hid (Op.bytesLess (turnV t k).toList (turnV t y).toList=clT (turnV t) k y):=rfl
     have e1:(p:Int)-1=(pp:Int):=by omega
     have hwp:IntKind.i64.wrap (pp:Int)=(pp:Int):=by rw[IntKind.wrap_i64];omega
     have hpz:(pp:Int)<(k:Int):=by omega
     have hp0':(0:Int)<(p:Int):=by omega
     have hpd:decide ((0:Int)<(p:Int))=true:=decide_eq_true hp0'
     have HPP:=hideO hpp
     have HY:=hideO hy
     generalize turnV t k=A at HTK HCL
     generalize turnV t y=B at HTY HCL
     clear c0 ey hpp hy hO2
     cases hcb:clT (turnV t) k y with
     |true =>
      have hbl:Op.bytesLess A.toList B.toList=true:=HCL.out.trans hcb
      have HC2:Hid (∀ j (h:j<l.length),pp<=j->clT (turnV t) k l[j]=true):=fun j h1 h2=>by
       rcases Nat.eq_or_lt_of_le h2 with e|e
       ·subst e
        rw[<-HY.out]
        exact hcb
       ·exact HHI.out j h1 (by have:=HPP.out;omega)
      go_wp2_with fail
      go_quiet (first|(go_at_call 99;(with_reducible refine Calls.quiet_of (HTK.out _)))|(go_at_call 99;(with_reducible refine Calls.quiet_of (HTY.out _))))
      all_goals (try go_wp2_with fail)
      go_roundw
      case rel=>exact⟨pp,q+nq,rfl,by omega,HC2.out,by rw[HWR.out];exact World.drewN_drewN _ _ _⟩
      case measure=>have:=HPP.out;simp[intOf];omega
     |false =>
      have hbl:Op.bytesLess A.toList B.toList=false:=HCL.out.trans hcb
      go_wp2_with fail
      go_quiet (first|(go_at_call 99;(with_reducible refine Calls.quiet_of (HTK.out _)))|(go_at_call 99;(with_reducible refine Calls.quiet_of (HTY.out _))))
      have HQ:=hideO (ord_put (clT_weak (turnV t)) HP.out HS.out (show p<=l.length by have:=HL.out;omega) HHI.out (by
       have:=HPP.out
       exact Or.inr ⟨by omega,by
        have e:l[p-1]'(by omega)=y:=by rw[HY.out];congr 1;omega
        rw[e]
        exact hcb⟩))
      have G4:=hideO (own_drewN G1.out (q+nq))
      have O4:Hid (IsO (wo.drewN (q+nq)) g 2 (ints l)):=HO.out.of_heap rfl
      have B4:=hideO (below_drewN GB.out (q+nq))
      have hW:wr.drewN nq=wo.drewN (q+nq):=by rw[HWR.out];exact World.drewN_drewN _ _ _
      have z4:g<(wo.drewN (q+nq)).heap.size:=hgl
      have zs4:w.heap.size<=(wo.drewN (q+nq)).heap.size:=hsz
      rw[hW]
      clear hW
      generalize wo.drewN (q+nq)=W at G4 O4 B4 z4 zs4 ⊢
      have HEM:=hideO (Ze.OwnI.empty W)
      have HTA:Hid ((ints l).length=k):=by
       unfold Hid
       rw[ints_len,HL.out]
      have hpc:(p:Int)<=(cap:Int):=by omega
      have hpk':(p:Int)<=(k:Int):=by omega
      go_wp2_with (at_builtin;refine wpList_append_own _ rfl (.tmp 33) (.tmp 36) 44 rfl W.heap.size 2 i0 (.int .i64 0) 1 8 Tryz.underlying44 hi0 hz0 hz1 hz2 rfl (by decide) _ 0 [] rfl HEM.out ⟨g,0,none⟩ p cap ((ints (l.take p)).map (Value.int .i64)) rfl ?len1 ?new1 (own_cells _) (by unfold maxLen;omega) (by omega) (by simp) ?_)
      case len1=>simp[ints_len];have:=HL.out;omega
      case new1=>exact own_news (isO_take (O4.out.below ((Below.refl _ W).alloc (Nat.le_refl _) _) z4) p)
      intro v1 w1 hown1 hgrow1 _
      have HO1:Hid (OwnI w1 W.heap.size v1 (ints (l.take p))):=by
       have e:(ints (l.take p)).length=p:=by simp[ints_len];have:=HL.out;omega
       unfold Hid OwnI
       rw[e]
       exact hown1
      have hb1:Below W.heap.size W w1:=((Below.refl W.heap.size W).alloc (Nat.le_refl _) _).grown hgrow1 (by simp) (fun k hk=>by simp[Value.ownBlock]at hk;omega)
      have z1:=hb1.size
      have O1:=hideO (O4.out.below hb1 z4)
      have B1:=hideO hb1
      clear hown1 hgrow1 hb1
      have HLT:Hid ((ints (l.take p)).length=p):=by
       unfold Hid
       simp[ints_len]
       have:=HL.out
       omega
      go_wp2_with (at_builtin;refine wpList_append_own _ rfl (.tmp 38) (.tmp 40) 44 rfl W.heap.size 2 i0 (.int .i64 0) 1 8 Tryz.underlying44 hi0 hz0 hz1 hz2 rfl (by decide) _ _ _ rfl (Ze.OwnI.alloc HO1.out _) ⟨w1.heap.size,0,none⟩ 1 1 [.int .i64 (k:Nat)] rfl rfl (one_newI _ _ _) (one_cellI _) (by rw[HLT.out];unfold maxLen;omega) (by rw[HLT.out];omega) (by simp;omega) ?_)
      intro v2 w2 hown2 hgrow2 _
      have HO2:Hid (OwnI w2 W.heap.size v2 (ints (l.take p++[k]))):=by
       unfold Hid
       rw[ints_snoc]
       exact In.OwnI.snoc hown2
      have hb2:=In.app_one B1.out z1 (Nat.le_refl _) HO1.out hgrow2
      have z2:=hb2.size
      have O2:=hideO (O4.out.below hb2 z4)
      have B2:=hideO hb2
      clear hown2 hgrow2 hb2 B1 O1
      have HLT2:Hid ((ints (l.take p++[k])).length=p+1):=by
       unfold Hid
       simp[ints_len]
       have:=HL.out
       omega
      have HLD:Hid ((ints (l.drop p)).length=k-p):=by
       unfold Hid
       simp[ints_len,HL.out]
      have HFIN:Hid (∀ v3 w3,w3.ownsRow W.heap.size 2 1 v3 (p+1+(k-p)) ((ints (l.take p++[k])).map (Value.int .i64)++(ints (l.drop p)).map (Value.int .i64))->OwnI w3 W.heap.size v3 (ints (l.take p++[k]++l.drop p))):=fun v3 w3 h=>by
       have e:ints (l.take p++[k]++l.drop p)=ints (l.take p++[k])++ints (l.drop p):=by simp[ints]
       rw[e]
       apply Ze.OwnI.joined
       rw[HLT2.out,HLD.out]
       exact h
      have HOW2:Hid (w2.ownsRow W.heap.size 2 1 v2 (p+1) ((ints (l.take p++[k])).map (Value.int .i64))):=by
       have:=HO2.out
       unfold OwnI at this
       rw[HLT2.out]at this
       exact this
      have hv2:v2≠.slice none 0 0:=own_ne HO2.out (by rw[HLT2.out];omega)
      by_cases hkp:p=k
      ·have HD0:Hid (ints (l.drop p)=[]):=by
        unfold Hid
        rw[hkp,<-HL.out,List.drop_length]
        rfl
       subst hkp
       by_cases hcp:cap=p
       ·subst hcp
        go_wp2_with (at_builtin;refine wpList_append_own _ rfl (.tmp 42) (.tmp 45) 44 rfl W.heap.size 2 i0 (.int .i64 0) 1 8 Tryz.underlying44 hi0 hz0 hz1 hz2 rfl (by decide) _ _ _ rfl HOW2.out _ 0 _ [] rfl rfl (by intro j u hj;simp at hj) (by intro u hu;simp at hu) (by unfold maxLen;omega) (by omega) (by omega) ?_)
        intro v3 w3 hown3 hgrow3 _
        have HO3:=hideO (HFIN.out v3 w3 (by rw[HD0.out,Nat.sub_self,List.map_nil,List.append_nil];exact hown3))
        have HN3:=hideO (own_ne HO3.out (by simp[ints_len];omega))
        have hb3:=hideO (Ze.app_row B2.out z2 (Nat.le_refl _) HO2.out hgrow3)
        clear hown3 hgrow3
        go_wp2_with fail
        go_roundw
        case rel=>exact⟨cap+1,_,by go_num,by omega,HQ.out.1,HQ.out.2,HO3.out.mono zs4,HN3.out,B4.out.trans (hb3.out.mono zs4)⟩
        case measure=>simp[intOf];omega
       ·have hcp1:¬(cap:Int)=(p:Int):=by omega
        have hcp2:p<cap:=by omega
        go_wp2_with (at_builtin;refine wpList_append_own _ rfl (.tmp 42) (.tmp 45) 44 rfl W.heap.size 2 i0 (.int .i64 0) 1 8 Tryz.underlying44 hi0 hz0 hz1 hz2 rfl (by decide) _ _ _ rfl HOW2.out _ 0 _ [] rfl rfl (by intro j u hj;simp at hj) (by intro u hu;simp at hu) (by unfold maxLen;omega) (by omega) (by omega) ?_)
        intro v3 w3 hown3 hgrow3 _
        have HO3:=hideO (HFIN.out v3 w3 (by rw[HD0.out,Nat.sub_self,List.map_nil,List.append_nil];exact hown3))
        have HN3:=hideO (own_ne HO3.out (by simp[ints_len];omega))
        have hb3:=hideO (Ze.app_row B2.out z2 (Nat.le_refl _) HO2.out hgrow3)
        clear hown3 hgrow3
        go_wp2_with fail
        go_roundw
        case rel=>exact⟨p+1,_,by go_num,by omega,HQ.out.1,HQ.out.2,HO3.out.mono zs4,HN3.out,B4.out.trans (hb3.out.mono zs4)⟩
        case measure=>simp[intOf];omega
      ·have hpk2:p<k:=by omega
       have hcp0:¬cap=p:=by omega
       have hcp1:¬(cap:Int)=(p:Int):=by omega
       obtain⟨dl,hdl⟩:∃ dl,dl=k-p:=⟨_,rfl⟩
       have edl:(k:Int)-(p:Int)=(dl:Int):=by omega
       have edl2:k-p=dl:=hdl.symm
       rw[<-hdl]at HFIN HLD
       clear hkp hdl
       go_wp2_with (at_builtin;refine wpList_append_own _ rfl (.tmp 42) (.tmp 45) 44 rfl W.heap.size 2 i0 (.int .i64 0) 1 8 Tryz.underlying44 hi0 hz0 hz1 hz2 rfl (by decide) _ _ _ rfl HOW2.out ⟨g,p,none⟩ dl _ ((ints (l.drop p)).map (Value.int .i64)) rfl ?len3 ?new3 (own_cells _) ?c31 ?c32 (by omega) ?_)
       case len3=>rw[List.length_map,HLD.out,Nat.mul_one]
       case new3=>exact isO_drop O2.out p
       case c31=>have:=HLD.out;unfold maxLen;omega
       case c32=>have:=HLD.out;omega
       intro v3 w3 hown3 hgrow3 _
       have HO3:=hideO (HFIN.out v3 w3 hown3)
       have HN3:=hideO (own_ne HO3.out (by simp[ints_len];omega))
       have hb3:=hideO (Ze.app_row B2.out z2 (Nat.le_refl _) HO2.out hgrow3)
       clear hown3 hgrow3
       go_wp2_with fail
       go_roundw
       case rel=>exact⟨k+1,_,by go_num,by omega,HQ.out.1,HQ.out.2,HO3.out.mono zs4,HN3.out,B4.out.trans (hb3.out.mono zs4)⟩
       case measure=>simp[intOf];omega
    ·have hpd:decide ((0:Int)<(p:Int))=false:=decide_eq_false (by omega)
     have hpn:¬(0:Int)<(p:Int):=by omega
     clear hO2
     go_wp2_with fail
     go_quiet (fail)
     have HQ:=hideO (ord_put (clT_weak (turnV t)) HP.out HS.out (show p<=l.length by have:=HL.out;omega) HHI.out (by exact Or.inl (by omega)))
     have G4:=hideO (own_drewN G1.out (q+nq))
     have O4:Hid (IsO (wo.drewN (q+nq)) g 2 (ints l)):=HO.out.of_heap rfl
     have B4:=hideO (below_drewN GB.out (q+nq))
     have hW:wr.drewN nq=wo.drewN (q+nq):=by rw[HWR.out];exact World.drewN_drewN _ _ _
     have z4:g<(wo.drewN (q+nq)).heap.size:=hgl
     have zs4:w.heap.size<=(wo.drewN (q+nq)).heap.size:=hsz
     rw[hW]
     clear hW
     generalize wo.drewN (q+nq)=W at G4 O4 B4 z4 zs4 ⊢
     have HEM:=hideO (Ze.OwnI.empty W)
     have HTA:Hid ((ints l).length=k):=by
      unfold Hid
      rw[ints_len,HL.out]
     have hpc:(p:Int)<=(cap:Int):=by omega
     have hpk':(p:Int)<=(k:Int):=by omega
     go_wp2_with (at_builtin;refine wpList_append_own _ rfl (.tmp 33) (.tmp 36) 44 rfl W.heap.size 2 i0 (.int .i64 0) 1 8 Tryz.underlying44 hi0 hz0 hz1 hz2 rfl (by decide) _ 0 [] rfl HEM.out ⟨g,0,none⟩ p cap ((ints (l.take p)).map (Value.int .i64)) rfl ?len1 ?new1 (own_cells _) (by unfold maxLen;omega) (by omega) (by simp) ?_)
     case len1=>simp[ints_len];have:=HL.out;omega
     case new1=>exact own_news (isO_take (O4.out.below ((Below.refl _ W).alloc (Nat.le_refl _) _) z4) p)
     intro v1 w1 hown1 hgrow1 _
     have HO1:Hid (OwnI w1 W.heap.size v1 (ints (l.take p))):=by
      have e:(ints (l.take p)).length=p:=by simp[ints_len];have:=HL.out;omega
      unfold Hid OwnI
      rw[e]
      exact hown1
     have hb1:Below W.heap.size W w1:=((Below.refl W.heap.size W).alloc (Nat.le_refl _) _).grown hgrow1 (by simp) (fun k hk=>by simp[Value.ownBlock]at hk;omega)
     have z1:=hb1.size
     have O1:=hideO (O4.out.below hb1 z4)
     have B1:=hideO hb1
     clear hown1 hgrow1 hb1
     have HLT:Hid ((ints (l.take p)).length=p):=by
      unfold Hid
      simp[ints_len]
      have:=HL.out
      omega
     go_wp2_with (at_builtin;refine wpList_append_own _ rfl (.tmp 38) (.tmp 40) 44 rfl W.heap.size 2 i0 (.int .i64 0) 1 8 Tryz.underlying44 hi0 hz0 hz1 hz2 rfl (by decide) _ _ _ rfl (Ze.OwnI.alloc HO1.out _) ⟨w1.heap.size,0,none⟩ 1 1 [.int .i64 (k:Nat)] rfl rfl (one_newI _ _ _) (one_cellI _) (by rw[HLT.out];unfold maxLen;omega) (by rw[HLT.out];omega) (by simp;omega) ?_)
     intro v2 w2 hown2 hgrow2 _
     have HO2:Hid (OwnI w2 W.heap.size v2 (ints (l.take p++[k]))):=by
      unfold Hid
      rw[ints_snoc]
      exact In.OwnI.snoc hown2
     have hb2:=In.app_one B1.out z1 (Nat.le_refl _) HO1.out hgrow2
     have z2:=hb2.size
     have O2:=hideO (O4.out.below hb2 z4)
     have B2:=hideO hb2
     clear hown2 hgrow2 hb2 B1 O1
     have HLT2:Hid ((ints (l.take p++[k])).length=p+1):=by
      unfold Hid
      simp[ints_len]
      have:=HL.out
      omega
     have HLD:Hid ((ints (l.drop p)).length=k-p):=by
      unfold Hid
      simp[ints_len,HL.out]
     have HFIN:Hid (∀ v3 w3,w3.ownsRow W.heap.size 2 1 v3 (p+1+(k-p)) ((ints (l.take p++[k])).map (Value.int .i64)++(ints (l.drop p)).map (Value.int .i64))->OwnI w3 W.heap.size v3 (ints (l.take p++[k]++l.drop p))):=fun v3 w3 h=>by
      have e:ints (l.take p++[k]++l.drop p)=ints (l.take p++[k])++ints (l.drop p):=by simp[ints]
      rw[e]
      apply Ze.OwnI.joined
      rw[HLT2.out,HLD.out]
      exact h
     have HOW2:Hid (w2.ownsRow W.heap.size 2 1 v2 (p+1) ((ints (l.take p++[k])).map (Value.int .i64))):=by
      have:=HO2.out
      unfold OwnI at this
      rw[HLT2.out]at this
      exact this
     have hv2:v2≠.slice none 0 0:=own_ne HO2.out (by rw[HLT2.out];omega)
     by_cases hkp:p=k
     ·have HD0:Hid (ints (l.drop p)=[]):=by
       unfold Hid
       rw[hkp,<-HL.out,List.drop_length]
       rfl
      subst hkp
      by_cases hcp:cap=p
      ·subst hcp
       go_wp2_with (at_builtin;refine wpList_append_own _ rfl (.tmp 42) (.tmp 45) 44 rfl W.heap.size 2 i0 (.int .i64 0) 1 8 Tryz.underlying44 hi0 hz0 hz1 hz2 rfl (by decide) _ _ _ rfl HOW2.out _ 0 _ [] rfl rfl (by intro j u hj;simp at hj) (by intro u hu;simp at hu) (by unfold maxLen;omega) (by omega) (by omega) ?_)
       intro v3 w3 hown3 hgrow3 _
       have HO3:=hideO (HFIN.out v3 w3 (by rw[HD0.out,Nat.sub_self,List.map_nil,List.append_nil];exact hown3))
       have HN3:=hideO (own_ne HO3.out (by simp[ints_len];omega))
       have hb3:=hideO (Ze.app_row B2.out z2 (Nat.le_refl _) HO2.out hgrow3)
       clear hown3 hgrow3
       go_wp2_with fail
       go_roundw
       case rel=>exact⟨cap+1,_,by go_num,by omega,HQ.out.1,HQ.out.2,HO3.out.mono zs4,HN3.out,B4.out.trans (hb3.out.mono zs4)⟩
       case measure=>simp[intOf];omega
      ·have hcp1:¬(cap:Int)=(p:Int):=by omega
       have hcp2:p<cap:=by omega
       go_wp2_with (at_builtin;refine wpList_append_own _ rfl (.tmp 42) (.tmp 45) 44 rfl W.heap.size 2 i0 (.int .i64 0) 1 8 Tryz.underlying44 hi0 hz0 hz1 hz2 rfl (by decide) _ _ _ rfl HOW2.out _ 0 _ [] rfl rfl (by intro j u hj;simp at hj) (by intro u hu;simp at hu) (by unfold maxLen;omega) (by omega) (by omega) ?_)
       intro v3 w3 hown3 hgrow3 _
       have HO3:=hideO (HFIN.out v3 w3 (by rw[HD0.out,Nat.sub_self,List.map_nil,List.append_nil];exact hown3))
       have HN3:=hideO (own_ne HO3.out (by simp[ints_len];omega))
       have hb3:=hideO (Ze.app_row B2.out z2 (Nat.le_refl _) HO2.out hgrow3)
       clear hown3 hgrow3
       go_wp2_with fail
       go_roundw
       case rel=>exact⟨p+1,_,by go_num,by omega,HQ.out.1,HQ.out.2,HO3.out.mono zs4,HN3.out,B4.out.trans (hb3.out.mono zs4)⟩
       case measure=>simp[intOf];omega
     ·have hpk2:p<k:=by omega
      have hcp0:¬cap=p:=by omega
      have hcp1:¬(cap:Int)=(p:Int):=by omega
      obtain⟨dl,hdl⟩:∃ dl,dl=k-p:=⟨_,rfl⟩
      have edl:(k:Int)-(p:Int)=(dl:Int):=by omega
      have edl2:k-p=dl:=hdl.symm
      rw[<-hdl]at HFIN HLD
      clear hkp hdl
      go_wp2_with (at_builtin;refine wpList_append_own _ rfl (.tmp 42) (.tmp 45) 44 rfl W.heap.size 2 i0 (.int .i64 0) 1 8 Tryz.underlying44 hi0 hz0 hz1 hz2 rfl (by decide) _ _ _ rfl HOW2.out ⟨g,p,none⟩ dl _ ((ints (l.drop p)).map (Value.int .i64)) rfl ?len3 ?new3 (own_cells _) ?c31 ?c32 (by omega) ?_)
      case len3=>rw[List.length_map,HLD.out,Nat.mul_one]
      case new3=>exact isO_drop O2.out p
      case c31=>have:=HLD.out;unfold maxLen;omega
      case c32=>have:=HLD.out;omega
      intro v3 w3 hown3 hgrow3 _
      have HO3:=hideO (HFIN.out v3 w3 hown3)
      have HN3:=hideO (own_ne HO3.out (by simp[ints_len];omega))
      have hb3:=hideO (Ze.app_row B2.out z2 (Nat.le_refl _) HO2.out hgrow3)
      clear hown3 hgrow3
      go_wp2_with fail
      go_roundw
      case rel=>exact⟨k+1,_,by go_num,by omega,HQ.out.1,HQ.out.2,HO3.out.mono zs4,HN3.out,B4.out.trans (hb3.out.mono zs4)⟩
      case measure=>simp[intOf];omega
  ·obtain rfl:k=t.size:=by omega
   go_wp2_with fail
   go_ret
   exact⟨_,l,rfl,G1.out,⟨HP.out,HS.out⟩,by simp,GB.out⟩
end Go.Proofs.YtjfdllgodijibaaGreatDoor.So


namespace Go.Proofs.YtjfdllgodijibaaGreatDoor.So
open Go.RowKit Go.Sort Go.Proofs
open Sh (bt bt_get bt_lt strF IsB made_row)
open In (OwnI Ints)
open Nu (bv)
open Ap (Own0 wpList_append_own0)
open Fr (Own0B own0_string one_newB one_cellB own0B_snoc)
def blB (t:ByteArray) (f:Nat->Nat) (k:Nat):List UInt8:=(List.range k).map fun j=>UInt8.ofNat (lastB t (f j))
theorem blB_len (t:ByteArray) (f:Nat->Nat) (k:Nat):(blB t f k).length=k:=by simp[blB]
theorem blB_snoc (t:ByteArray) (f:Nat->Nat) (k:Nat):blB t f (k+1)=blB t f k++[UInt8.ofNat (((lastB t (f k):Nat):Int)).toNat]:=by
 unfold blB
 rw[List.range_succ,List.map_append]
 rfl
theorem l05Bwt_spec (t:ByteArray) (w:World) (ht:t.size<=48) :
  Calls Tryz.prog 81 #[.string t] w fun e w'=>e=.returned (.tuple #[.string (bwtT t),.int .i64 (bwtA t:Nat)])/\Below w.heap.size w w':=by
 obtain⟨i0,hi0,hz0,hz1,hz2⟩:=info_parts Nu.Tryz.infoJ5
 have HOS:=hideO (order_spec t w ht)
 go_enter Tryz.func81,Tryz.ntmps81
 go_wp2_with fail
 refine HOS.out.mono ?_
 rintro e w1 ⟨v,l,rfl,ho,hok,_,hb⟩
 have HE:=hideO (bwt_yes ht (fun j hj=>rfl) (f:=ordF t))
 have hlen:l.length=t.size:=by have:=hok.1.length_eq;simpa using this
 have HLen:=hideO hlen
 have HOR:Hid (∀ k (h:k<l.length),ordF t k=l[k]/\l[k]<t.size):=fun k h=>⟨ordF_list hok k h,by
  have:=hok.1.mem_iff.1 (List.getElem_mem h)
  simpa using this⟩
 obtain⟨a,cap,rfl,hcap,hI⟩:=ho.ints
 have HI:=hideO hI
 rw[ints_len,hlen]at hcap ⊢
 have HB1:=hideO hb
 have z1:=hb.size
 clear ho hok hb hI hlen
 go_wp2_with fail
 go_loopw [7,5,6] (fun i u m wr=>∃ k:Nat,i=.int .i64 k/\k<=t.size/\m=.int .i64 (atK (ordF t) k:Nat)/\Own0B wr (w1.heap.size+1) u (blB t (ordF t) k)/\w1.heap.size<wr.heap.size/\Below w1.heap.size w1 wr) (fun i _ _ _=>t.size-(intOf i).toNat)
 case atStart=>exact⟨0,rfl,Nat.zero_le _,rfl,.inl ⟨_,rfl,rfl,rfl⟩,by simp,(Below.refl _ _).alloc (Nat.le_refl _) _⟩
 case round =>
  obtain⟨k,rfl,hk,rfl,hown,hgs,hbel⟩:=hrel
  have O1:=hideO hown
  have GB:=hideO hbel
  clear hbel
  by_cases hlt:k<t.size
  ·have hd0:decide ((k:Int)<(t.size:Int))=true:=decide_eq_true (by omega)
   have hkz:(k:Int)<(t.size:Int):=by omega
   have hkl:k<l.length:=by rw[HLen.out];exact hlt
   have hkl':k<(ints l).length:=by rw[ints_len];exact hkl
   obtain⟨b,off,rfl,hb,hc⟩:=(HI.out.below GB.out).some (by omega)
   have ci:=hc k hkl'
   have HC:Hid (∀ W:World,Below w1.heap.size w1 W->W.cell? ⟨b,off+k,none⟩=some (.int .i64 (ints l)[k])):=fun W hW=>by
    obtain⟨b',off',e1,_,hc'⟩:=((HI.out.below hW).some (by omega:0<(ints l).length))
    cases e1
    exact hc' k hkl'
   have ey:(ints l)[k]=((l[k]:Nat):Int):=by simp[ints]
   rw[ey]at ci HC
   obtain⟨ho1,hxt⟩:=HOR.out k hkl
   have HN:=hideO (blB_snoc t (ordF t) k)
   have HA:=hideO (atK_next (ordF t) k)
   rw[ho1]at HN HA
   obtain⟨x,hx⟩:∃ x,x=l[k]:=⟨_,rfl⟩
   rw[<-hx]at ci HC hxt HN HA
   obtain⟨s,hs⟩:∃ s,s=x+t.size-1:=⟨_,rfl⟩
   obtain⟨r,hr⟩:∃ r,r=s%t.size:=⟨_,rfl⟩
   have hrt:r<t.size:=by rw[hr];exact Nat.mod_lt _ (by omega)
   have e1:(x:Int)+(t.size:Int)-1=(s:Int):=by omega
   have e2:(s:Int).tmod (t.size:Int)=(r:Int):=by rw[Int.tmod_eq_emod_of_nonneg (by omega),hr,Int.natCast_emod]
   have hwp:IntKind.i64.wrap (s:Int)=(s:Int):=by rw[IntKind.wrap_i64];omega
   have hwr:IntKind.i64.wrap (r:Int)=(r:Int):=by rw[IntKind.wrap_i64];omega
   have hrz:(r:Int)<(t.size:Int):=by omega
   have htn:¬((t.size:Int)=0):=by omega
   obtain⟨y,hy,hyt⟩:∃ y:UInt8,t[r]=y/\y.toNat=lastB t x:=⟨_,rfl,by rw[bt_get];unfold lastB;rw[hr,hs]⟩
   rw[<-hyt]at HN
   have HBL:=hideO (blB_len t (ordF t) k)
   obtain⟨bs,hbs⟩:∃ bs,bs=blB t (ordF t) k:=⟨_,rfl⟩
   rw[<-hbs]at O1 HN HBL
   obtain⟨m,hm⟩:∃ m,m=atK (ordF t) k:=⟨_,rfl⟩
   rw[<-hm]at HA ⊢
   have hmk:m<=k:=by rw[hm];exact atK_le _ _
   clear hc ey hown ho1 hx hs hr hyt hbs hm
   have HY:=hideO (UInt8.toNat_lt y)
   go_wp2_with (at_builtin;refine wpList_append_own0 _ rfl (.tmp 17) (.tmp 31) 22 rfl (w1.heap.size+1) 5 i0 (.int .u8 0) 1 1 Tryz.underlying22 hi0 hz0 hz1 hz2 rfl (by decide) _ bs.length (bs.map bv) rfl (Own0.alloc O1.out _) ⟨wr.heap.size,0,none⟩ 1 1 [.int .u8 (y.toNat:Nat)] rfl rfl (one_newB _ _ _) (one_cellB _) (by decide) (by unfold maxLen;have:=HBL.out;omega) (by have:=HBL.out;omega) (by simp;omega) ?_)
   intro v' w5 hown' hb5
   have N5:=hideO (own0B_snoc (by omega) (by have:=HY.out;omega) hown')
   have ba:Below (w1.heap.size+1) wr w5:=((Below.refl (w1.heap.size+1) wr).alloc (by omega) _).trans (hb5 _ (Nat.le_refl _))
   have B5:=hideO (GB.out.trans (ba.mono (by omega)))
   have c5:=HC.out w5 B5.out
   have z5:=ba.size
   clear hown' hb5 ba ci
   by_cases hx0:x=0
   ·subst hx0
    have HM:=hideO (HA.out.1 rfl)
    go_wp2_with fail
    go_roundw
    case rel=>exact⟨k+1,by go_num,by omega,by rw[HM.out],by rw[HN.out];exact N5.out,by omega,B5.out⟩
    case measure=>simp[intOf];omega
   ·have HM:=hideO (HA.out.2 hx0)
    have hxz:((x:Int)==0)=false:=by simpa using hx0
    go_wp2_with fail
    go_roundw
    case rel=>exact⟨k+1,by go_num,by omega,by rw[HM.out],by rw[HN.out];exact N5.out,by omega,B5.out⟩
    case measure=>simp[intOf];omega
  ·have hd0:decide ((k:Int)<(t.size:Int))=false:=decide_eq_false (by omega)
   obtain rfl:k=t.size:=by omega
   have hcv:=own0_string (P:=Tryz.prog) (src:=22) (dst:=9) _ hown Tryz.underlying22 Tryz.underlying5 Tryz.underlying9
   have HQ:Hid ((⟨(blB t (ordF t) t.size).toArray⟩:ByteArray)=bwtT t):=HE.out.1.symm
   have HQ2:Hid (atK (ordF t) t.size=bwtA t):=HE.out.2.1.symm
   rw[HQ.out]at hcv
   rw[HQ2.out]
   have BZ:=hideO (HB1.out.trans (GB.out.mono z1))
   clear hown
   go_wp2_with fail
   refine bodyPost_ret (v:=.tuple #[.string (bwtT t),.int .i64 (bwtA t:Nat)]) (by simp[results,Tryz.results81,go_sem]) rfl ⟨rfl,BZ.out⟩
end Go.Proofs.YtjfdllgodijibaaGreatDoor.So


namespace Go.Proofs.YtjfdllgodijibaaGreatDoor.Ze
open Go.RowKit
open In (Ints OwnI IsO one_newI one_cellI app_one)
open In.Tryz (infoI2)
theorem zerosOf_spec (l:List Int) (a:Option Addr) (cap B:Nat) (w:World) (hi:Ints w B a l) (hB:B<=w.heap.size) (hn:l.length<=1048576) :
  Calls Tryz.prog 82 #[.slice a l.length cap] w fun e w'=>∃ v,e=.returned v/\OwnI w' w.heap.size v (zerosR l)/\Below w.heap.size w w':=by
 obtain⟨i0,hi0,hz0,hz1,hz2⟩:=info_parts infoI2
 have hb0:Below w.heap.size w (w.alloc (.cells #[] 2)):=(Below.refl _ _).alloc (Nat.le_refl _) _
 have HU:=hideZ (nums_spec l 255 a cap w.heap.size (w.alloc (.cells #[] 2)) ((hi.mono hB).below hb0) hn)
 have HW:=hideZ (OwnI.empty w)
 have HB0:=hideZ hb0
 cases hu:numsR l 255 with
 |false =>
  rw[zerosR_no hu]
  rw[hu]at HU
  clear hi hu hb0
  generalize l.length=n at HU hn ⊢
  go_enter Tryz.func82,Tryz.ntmps82
  go_wp2_with fail
  refine HU.out.mono ?_
  rintro e w' ⟨rfl,hw⟩
  subst w'
  go_wp2_with fail
  go_ret
  exact⟨_,rfl,HW.out,HB0.out⟩
 |true =>
  rw[zerosR_yes hu]
  have HUP:=hideZ (upTo_yes (numsR_yes hu).2)
  have hlong:=(numsR_yes hu).1
  rw[hu]at HU
  have HS:=hideZ (hi.mono hB)
  clear hi hu hb0
  obtain⟨n,hln⟩:∃ n,n=l.length:=⟨_,rfl⟩
  have HLN:=hideZ hln
  rw[<-hln]at HU hlong ⊢
  clear hln hn
  go_enter Tryz.func82,Tryz.ntmps82
  go_wp2_with fail
  refine HU.out.mono ?_
  rintro e w' ⟨rfl,hw⟩
  subst w'
  go_wp2_with fail
  go_loopw [5,3,4] (fun i u m wr=>∃ k z:Nat,i=.int .i64 k/\m=.int .i64 z/\k<=n/\z=(zst (l.take k)).2/\OwnI wr w.heap.size u (zst (l.take k)).1/\Below w.heap.size w wr) (fun i _ _ _=>n-(intOf i).toNat)
  case atStart=>exact⟨0,0,rfl,rfl,Nat.zero_le _,rfl,HW.out,HB0.out⟩
  case round =>
   obtain⟨k,z,rfl,rfl,hk,hz,hown,hbel⟩:=hrel
   have hzl:=zst_len (l.take k)
   rw[List.length_take]at hzl
   have hzk:(zst (l.take k)).1.length+z<=k:=by omega
   have GB:=hideZ hbel
   have HZ:=hideZ hz
   have hsz:=hbel.size
   have hrl:=zrun_len z
   obtain⟨a',cap',rfl,_,_⟩:=hown.ints
   obtain⟨lk,hlk⟩:∃ lk,lk=(zst (l.take k)).1:=⟨_,rfl⟩
   rw[<-hlk]at hown hzk ⊢
   have G1:=hideZ hown
   have HLK:=hideZ hlk
   clear hz hown hbel hlk hzl
   have HRS:=hideZ (fun W=>run_spec z W (by omega))
   by_cases hlt:k<n
   ·have hkl:k<l.length:=by rw[<-HLN.out];exact hlt
    obtain⟨b,off,rfl,hb,hc⟩:=(HS.out.below GB.out).some (by omega)
    have ci:=hc k hkl
    have hx255:=HUP.out _ (List.getElem_mem hkl)
    obtain⟨x,hx⟩:∃ x,x=l[k]:=⟨_,rfl⟩
    have HX:=hideZ hx
    rw[<-hx]at ci hx255
    clear hc hx
    by_cases h0:x=0
    ·have HZ1:Hid (zst (l.take (k+1))=(lk,z+1)):=by
      unfold Hid
      rw[zst_zero hkl (by rw[<-HX.out];exact h0),HZ.out,HLK.out]
     have hbx:(x==0)=true:=beq_iff_eq.2 h0
     clear h0
     go_wp2_with fail
     go_roundw
     case rel=>exact⟨k+1,z+1,by go_num,by go_num,by omega,by rw[HZ1.out],by rw[HZ1.out];exact G1.out,GB.out⟩
     case measure=>simp[intOf];omega
    ·have HZ1:Hid (zst (l.take (k+1))=(lk++zrun z++[x+1],0)):=by
      unfold Hid
      rw[zst_other hkl (by rw[<-HX.out];exact h0),HZ.out,HX.out,HLK.out]
     have hbx:(x==0)=false:=beq_eq_false_iff_ne.2 h0
     clear h0
     go_wp2_with fail
     refine(HRS.out wr).mono ?_
     rintro e w4 ⟨v4,rfl,hown4,hne4,hbel4⟩
     have G4:=hideZ (G1.out.below hbel4)
     have B4:=hideZ (GB.out.trans (hbel4.mono hsz))
     have z4:=hbel4.size
     obtain⟨g4,cap4,rfl,hg4,hg4',ho4⟩:=own_some hown4 hne4
     have O4:=hideZ ho4
     clear hown4 hbel4 hne4 ho4
     obtain⟨rl,hrl2⟩:∃ rl,rl=zrun z:=⟨_,rfl⟩
     rw[<-hrl2]at O4 hrl HZ1 ⊢
     clear hrl2 HRS
     go_wp2_with (at_builtin;refine wpList_append_own _ rfl (.tmp 24) (.tmp 26) 44 rfl w.heap.size 2 i0 (.int .i64 0) 1 8 Tryz.underlying44 hi0 hz0 hz1 hz2 rfl (by decide) _ _ _ rfl G4.out ⟨g4,0,none⟩ _ cap4 (rl.map (Value.int .i64)) rfl (by simp) (own_news O4.out) (own_cells rl) (by unfold maxLen;omega) (by omega) (by omega) ?_)
     intro v' w5 hown' hgrow _
     have hown5:=OwnI.joined hown'
     have b5:=app_row B4.out (by omega) (Nat.le_refl _) G4.out hgrow
     have HL4:Hid ((lk++rl).length<=400):=by
      unfold Hid
      rw[List.length_append]
      omega
     obtain⟨l4,hl4⟩:∃ l4,l4=lk++rl:=⟨_,rfl⟩
     rw[<-hl4]at hown5 HZ1 HL4
     have N5:=hideZ hown5
     have B5:=hideZ b5
     have z5:=b5.size
     obtain⟨a5,cap5,rfl,_,_⟩:=hown5.ints
     have c5:w5.cell? ⟨b,off+k,none⟩=some (.int .i64 x):=by
      have h1:=((HS.out.below b5).some (by omega:0<l.length))
      obtain⟨b',off',e1,_,hc'⟩:=h1
      cases e1
      rw[hc' k hkl,HX.out]
     clear hown' hgrow hown5 b5 hl4 ci
     go_wp2_with (at_builtin;refine wpList_append_own _ rfl (.tmp 28) (.tmp 34) 44 rfl w.heap.size 2 i0 (.int .i64 0) 1 8 Tryz.underlying44 hi0 hz0 hz1 hz2 rfl (by decide) _ _ _ rfl (OwnI.alloc N5.out _) ⟨w5.heap.size,0,none⟩ 1 1 [.int .i64 (x+1)] rfl rfl (one_newI _ _ _) (one_cellI _) (by unfold maxLen;have:=HL4.out;omega) (by have:=HL4.out;omega) (by simp;omega) ?_)
     intro v' w6 hown' hgrow _
     have N6:=hideZ (OwnI.snoc hown')
     have b6:=hideZ (app_one B5.out (by omega) (Nat.le_refl _) N5.out hgrow)
     clear hown' hgrow
     go_wp2_with fail
     go_roundw
     case rel=>exact⟨k+1,0,by go_num,rfl,by omega,by rw[HZ1.out],by rw[HZ1.out];exact N6.out,b6.out⟩
     case measure=>simp[intOf];omega
   ·have hkn:k=l.length:=by have:=HLN.out;omega
    have HT:Hid (l.take k=l):=by
     unfold Hid
     rw[hkn,List.take_length]
    have HR:Hid ((zst l).1++zrun (zst l).2=lk++zrun z):=by
     unfold Hid
     rw[HLK.out,HZ.out,HT.out]
    clear hkn
    go_wp2_with fail
    refine(HRS.out wr).mono ?_
    rintro e w4 ⟨v4,rfl,hown4,hne4,hbel4⟩
    have G4:=hideZ (G1.out.below hbel4)
    have B4:=hideZ (GB.out.trans (hbel4.mono hsz))
    have z4:=hbel4.size
    obtain⟨g4,cap4,rfl,hg4,hg4',ho4⟩:=own_some hown4 hne4
    have O4:=hideZ ho4
    clear hown4 hbel4 hne4 ho4
    obtain⟨rl,hrl2⟩:∃ rl,rl=zrun z:=⟨_,rfl⟩
    rw[<-hrl2]at O4 hrl HR ⊢
    clear hrl2 HRS
    go_wp2_with (at_builtin;refine wpList_append_own _ rfl (.tmp 36) (.tmp 38) 44 rfl w.heap.size 2 i0 (.int .i64 0) 1 8 Tryz.underlying44 hi0 hz0 hz1 hz2 rfl (by decide) _ _ _ rfl G4.out ⟨g4,0,none⟩ _ cap4 (rl.map (Value.int .i64)) rfl (by simp) (own_news O4.out) (own_cells rl) (by unfold maxLen;omega) (by omega) (by omega) ?_)
    intro v' w5 hown' hgrow _
    have N5:=hideZ (OwnI.joined hown')
    have B5:=hideZ (app_row B4.out (by omega) (Nat.le_refl _) G4.out hgrow)
    clear hown' hgrow
    go_wp2_with fail
    go_ret
    exact⟨_,rfl,by rw[HR.out];exact N5.out,B5.out⟩
end Go.Proofs.YtjfdllgodijibaaGreatDoor.Ze


namespace Go.Proofs.YtjfdllgodijibaaGreatDoor.Pk
open Go.RowKit
open In (Ints IsI OwnI made_ints)
open Hf (up up_length up_at up_set incs incs_next incs_length)
open Bi (above putR packR putL)
open Go.Proofs.YtjfdllgodijibaaGreatDoor.So (bwtT bwtA l05Bwt_spec)
open Fr (frontR frontOf_spec frontR_len)
open Ze (zerosR zerosOf_spec)
open Nu (putS)
open Se (sealV seal_spec)
theorem bytes_ext {a b:ByteArray} (h:a.data.toList=b.data.toList):a=b:=ByteArray.ext (by rw[<-Array.toArray_toList (xs:=a.data),h,Array.toArray_toList])
def tabB (d:List Nat):Nat->ByteArray
 |0=>⟨#[]⟩
 |k+1=>if 0<d.getD k 0 then tabB d k++putS (k:Int)++putS ((d.getD k 0:Nat):Int) else tabB d k
theorem numsL_append (l m:List Int):numsL (l++m)=numsL l++numsL m:=by
 unfold numsL
 rw[List.flatMap_append]
theorem tabB_list (d:List Nat):∀ k,(tabB d k).data.toList=numsL (rowT d k)
 |0=>rfl
 |k+1=>by
  have ih:=tabB_list d k
  rw[tabB,rowT]
  split
  ·rw[numsL_append,<-ih]
   unfold numsL
   simp[ByteArray.data_append]
  ·exact ih
theorem tabB_size (d:List Nat) (k:Nat):(tabB d k).size<=20*k:=by
 have h1:(tabB d k).size=(tabB d k).data.toList.length:=by simp
 rw[h1,tabB_list]
 have h2:=numsL_le (rowT d k)
 have h3:=rowT_length d k
 omega
theorem short_eq (b:ByteArray):⟨#[1]⟩++(putS (b.size:Int)++putS ((bwtA b:Nat):Int)++putS ((symS b).length:Int)++putS ((above (up (lenS b)):Nat):Int))++tabB (lenS b) 257++bitsS b=shortV b:=by
 refine bytes_ext ?_
 show _=(shortL b).toArray.toList
 unfold shortL headS
 rw[<-tabB_list]
 unfold numsL
 simp[ByteArray.data_append]
theorem plain_eq (b:ByteArray):⟨#[0]⟩++b=plainV b:=by
 refine bytes_ext ?_
 show _=(0 :: b.data.toList).toArray.toList
 simp[ByteArray.data_append]
theorem long_spec (b:ByteArray) (w:World) (hb:b.size<=48) :
  Calls Tryz.prog 76 #[.string b] w fun e w'=>e=.returned (.string (shortV b))/\Below w.heap.size w w':=by
 obtain⟨i0,hi,hz0,hz1,hz2⟩:=info_parts In.Tryz.infoI2
 obtain⟨hf1,hf2,_,_⟩:=lenS_facts b
 have HSM:=hideP (symS_mem b)
 have hsl:=symS_len b
 have hba:=bwtA_le b hb
 have hab:=Bi.above_le (up (lenS b))
 rw[up_length,hf1]at hab
 have C1:Hid (∀ W,Calls Tryz.prog 81 #[.string b] W fun e w'=>e=.returned (.tuple #[.string (bwtT b),.int .i64 (bwtA b:Nat)])/\Below W.heap.size W w'):=fun W=>l05Bwt_spec b W hb
 have C2:Hid (∀ W,Calls Tryz.prog 83 #[.string (bwtT b)] W fun e w'=>∃ v,e=.returned v/\OwnI w' W.heap.size v (frontR (bwtT b).data.toList)/\Below W.heap.size W w'):=fun W=>frontOf_spec (bwtT b) W (by
  have:(bwtT b).size<=48:=by
   unfold bwtT
   rw[if_pos hb,Sh.strF_size]
   exact hb
  omega)
 have C3:Hid (∀ W base v,OwnI W base v (frontR (bwtT b).data.toList)->Calls Tryz.prog 82 #[v] W fun e w'=>∃ v,e=.returned v/\OwnI w' W.heap.size v (symS b)/\Below W.heap.size W w'):=fun W base v h=>by
  obtain⟨x,c,rfl,_,hi⟩:=h.ints
  exact zerosOf_spec _ x c W.heap.size W hi (Nat.le_refl _) (by have:=frontR_len (bwtT b).data.toList;omega)
 obtain⟨n,hn⟩:∃ n,n=(symS b).length:=⟨_,rfl⟩
 have HN:=hideP hn
 have HCL:=hideP (counts_le (symS b) HSM.out)
 have HNL:Hid ((Hf.nats (symS b)).length=n):=by unfold Hid Hf.nats;rw[List.length_map,hn]
 have C5:Hid (∀ W g,IsI W g 2 (up (countsN (symS b)))->Calls Tryz.prog 84 #[.slice (some ⟨g,0,none⟩) 257 257] W fun e w'=>∃ a c',e=.returned (.slice a 257 c')/\Ints w' w'.heap.size a (up (lenS b))/\Below W.heap.size W w'):=fun W g h=>by
  refine(Hf.ofS_any (some ⟨g,0,none⟩) 257 257 (countsN (symS b)) W (h.ints h.lt) (countsN_length _) (by decide) (by decide) (fun x hx=>?_)).mono ?_
  ·obtain⟨j,hj,rfl⟩:=List.getElem_of_mem hx
   have h1:=HCL.out (Hf.nats (symS b)).length j
   rw[List.take_length]at h1
   have e:(countsN (symS b)).getD j 0=(countsN (symS b))[j]:=by rw[List.getD_eq_getElem?_getD,List.getElem?_eq_getElem hj];rfl
   have h3:(countsN (symS b)).getD j 0<=(symS b).length:=h1
   omega
  ·rintro e w' ⟨v,rfl,ho,hb⟩
   obtain⟨a,c',rfl,_,hi⟩:=ho.ints
   refine⟨a,c',?_,hi,hb⟩
   rw[up_length]
   show Ending.returned (.slice a (lenS b).length c')=_
   rw[hf1]
 have C7:Hid (∀ W x c y d,0<above (up (lenS b))->Ints W W.heap.size x (up (lenS b))->Ints W W.heap.size y (symS b)->Calls Tryz.prog 86 #[.slice x 257 c,.slice y n d] W fun e w'=>e=.returned (.string (putR (up (lenS b)) (symS b)))/\Below W.heap.size W w'):=fun W x c y d h0 h1 h2=>by
  have:=Bi.l04Put_any (up (lenS b)) (symS b) x y c d W h1 h2 (by omega) (lenS_whole b h0) (symS_ok b)
  rw[up_length,hf1,<-hn,<-bits_some b h0]at this
  exact this
 have C8:Hid (∀ W,Calls Tryz.prog 87 #[.string (putR (up (lenS b)) (symS b))] W fun e w'=>e=.returned (.string (bitsS b))/\Below W.heap.size W w'):=fun W=>Bi.pack_spec _ W (by have:=bits_size b;omega)
 have HBN:=hideP (bits_none b)
 have CP:Hid (∀ (x:Int) W,0<=x->x<=1000000->Calls Tryz.prog 85 #[.int .i64 x] W fun e w'=>e=.returned (.string (putS x))/\Below W.heap.size W w'):=fun x W h1 h2=>Nu.put_spec x W (by omega) (by omega)
 have HPS:=hideP putS_size
 have HTS:=hideP (tabB_size (lenS b))
 have HBS:=hideP (bitsS_size b)
 have HEQ:=hideP (short_eq b)
 rw[<-hn]at hsl HEQ
 have HD12:=hideP hf2
 have HDL:=hideP hf1
 have HZ:Hid (up (incs (Hf.zeros 257) ((Hf.nats (symS b)).take 0))=List.replicate 257 0):=by
  unfold Hid
  rw[List.take_zero]
  show up (Hf.zeros 257)=_
  unfold up Hf.zeros
  rw[List.map_replicate]
  rfl
 have HCN:Hid (incs (Hf.zeros 257) ((Hf.nats (symS b)).take n)=countsN (symS b)):=by
  unfold Hid
  rw[List.take_of_length_le (by rw[HNL.out];exact Nat.le_refl _)]
  rfl
 have HNXT:=hideP (fun j (h:j<n)=>incs_next (Hf.zeros 257) (Hf.nats (symS b)) j (by rw[HNL.out];exact h))
 have HNAT:=hideP (fun j (h:j<(symS b).length)=>nats_at (symS b) j h)
 have HABV:=hideP (fun k (h:k<(up (lenS b)).length)=>Bi.above_more (l:=up (lenS b)) h)
 have HAB0:Hid (above ((up (lenS b)).take 0)=0):=rfl
 have HABA:Hid (above ((up (lenS b)).take 257)=above (up (lenS b))):=by
  unfold Hid
  rw[List.take_of_length_le (by rw[up_length,hf1];exact Nat.le_refl _)]
 clear hn hf1 hf2
 generalize shortV b=R at HEQ ⊢
 generalize bitsS b=T3 at C8 HEQ HBS
 generalize putR (up (lenS b)) (symS b)=T0 at C7 C8 HBN
 generalize above (up (lenS b))=kV at C7 HEQ HBN HABA hab
 generalize bwtA b=kA at C1 HEQ hba
 generalize bwtT b=kT at C1 C2 C3
 go_enter Tryz.func76,Tryz.ntmps76
 go_wp2_with fail
 refine(C1.out _).mono ?_
 rintro e w1 ⟨rfl,hb1⟩
 have B1:=hideP hb1
 clear hb1
 go_wp2_with fail
 refine(C2.out _).mono ?_
 rintro e w3 ⟨v3,rfl,ho3,hb3⟩
 have B3:=hideP (low_keep B1.out hb3)
 have O3:=hideP ho3
 clear ho3 hb3 B1
 go_wp2_with fail
 refine(C3.out _ _ _ O3.out).mono ?_
 rintro e w4 ⟨v4,rfl,ho4,hb4⟩
 have B4:=hideP (low_keep B3.out hb4)
 obtain⟨ay,cy,hv4,_,hi4⟩:=ho4.ints
 rw[<-HN.out]at hv4
 subst hv4
 have Y4:=hideP hi4
 have hz4:=B4.out.size
 clear ho4 hb4 B3 O3 hi4 C1 C2 C3
 go_wp2_with (at_make;refine wpList_make_full _ rfl (.const (.int .i64 257)) (.const (.int .i64 257)) 44 rfl w4.heap.size 2 i0 (.int .i64 0) 1 Tryz.underlying44 hi hz0 hz1 .i64 .i64 _ _ 257 rfl rfl (by omega) (by omega) (by rw[hz2];omega) (by unfold maxLen;omega) (Nat.le_refl _) ?_;intro w5 hown hgrow;have HI1:=hideP (made_ints hown);have HB1:=hideP ((Below.refl w4.heap.size w4).grown hgrow (Nat.le_refl _) (by simp));clear hown hgrow)
 go_loopw [7] (fun iv wr=>∃ j:Nat,iv=.int .i64 j/\j<=n/\IsI wr w4.heap.size 2 (up (incs (Hf.zeros 257) ((Hf.nats (symS b)).take j)))/\Below w4.heap.size w4 wr) (fun iv _=>n-(intOf iv).toNat)
 case atStart=>exact⟨0,rfl,Nat.zero_le _,by rw[HZ.out];exact HI1.out,HB1.out⟩
 case round =>
  obtain⟨j,rfl,hj,hij,hbw⟩:=hrel
  have IJ:=hideP hij
  have BW:=hideP hbw
  clear hij hbw
  by_cases hlt:j<n
  ·have hjl:j<(symS b).length:=by rw[<-HN.out];exact hlt
   obtain⟨bb,off,rfl,hbb,hcl⟩:=(Y4.out.below BW.out).some (by omega)
   have ci:=hcl j hjl
   have hx:=HSM.out (symS b)[j] (List.getElem_mem hjl)
   have HNX:=hideP (HNXT.out j hlt)
   rw[HNAT.out j hjl]at HNX
   generalize (symS b)[j]=x at ci hx HNX
   obtain⟨y,rfl⟩:∃ y:Nat,x=y:=⟨x.toNat,by omega⟩
   rw[Int.toNat_natCast]at HNX
   have hlen:y<(incs (Hf.zeros 257) ((Hf.nats (symS b)).take j)).length:=by rw[incs_length,zeros_length];omega
   have cl0:wr.cell? ⟨w4.heap.size,y,none⟩=some (.int .i64 (((incs (Hf.zeros 257) ((Hf.nats (symS b)).take j)).getD y 0:Nat):Int)):=by
    rw[IJ.out.cell (j:=y) (by rw[up_length];exact hlen),up_at _ _ hlen]
   have zl0:=IJ.out.frozen y
   have hdb:=HCL.out j y
   obtain⟨dv,hdv⟩:∃ dv,dv=(incs (Hf.zeros 257) ((Hf.nats (symS b)).take j)).getD y 0:=⟨_,rfl⟩
   have HDV:=hideP hdv
   rw[<-hdv]at cl0 hdb
   have hdv2:dv<=400:=by have:=HN.out;omega
   have hy:(y:Int)<257:=by omega
   have hjn:(j:Int)<n:=by omega
   clear hdv hcl hjl hlen hdb
   go_wp2_with fail
   go_region
   all_goals (
    go_wp2_with fail
    go_roundw
    case rel =>
     refine⟨j+1,by go_num,by omega,?_,(BW.out.setCell (by simp) _).drew⟩
     have:=IJ.out.set y ((dv:Int)+1)
     rw[HNX.out,<-HDV.out,<-up_set]
     exact this
    case measure=>simp[intOf];omega)
  ·obtain rfl:j=n:=by omega
   have IE:Hid (IsI wr w4.heap.size 2 (up (countsN (symS b)))):=by
    have:=IJ.out
    rw[HCN.out]at this
    exact this
   have YE:=hideP (ints_keep Y4.out BW.out)
   have BE:=hideP (low_keep B4.out BW.out)
   generalize w4.heap.size=gc at IE ⊢
   clear IJ BW Y4 B4 HI1 HB1 HNXT HNAT HCL HZ HCN
   go_wp2_with fail
   refine(C5.out _ _ IE.out).mono ?_
   rintro e w6 ⟨az,cz,rfl,hi6,hb6⟩
   have B6:=hideP (low_keep BE.out hb6)
   have Y6:=hideP (ints_keep YE.out hb6)
   have Z6:=hideP hi6
   clear hi6 hb6 IE YE BE
   go_wp2_with fail
   go_loopw [11,9,10] (fun iv tv mv wr=>∃ k:Nat,iv=.int .i64 k/\k<=257/\tv=.string (tabB (lenS b) k)/\mv=.int .i64 (above ((up (lenS b)).take k):Nat)/\Below w6.heap.size w6 wr) (fun iv _ _ _=>257-(intOf iv).toNat)
   case atStart=>exact⟨0,rfl,Nat.zero_le _,rfl,rfl,Below.refl _ _⟩
   case round =>
    obtain⟨k,rfl,hk,rfl,rfl,hbw⟩:=hrel
    have BW:=hideP hbw
    clear hbw
    by_cases hlt2:k<257
    ·have hkd:k<(lenS b).length:=by rw[HDL.out];exact hlt2
     obtain⟨bb,off,rfl,hbb,hcl⟩:=(Z6.out.below BW.out).some (by rw[up_length];omega)
     have ci:=Hf.up_get hcl k hkd
     have hg:(lenS b).getD k 0=(lenS b)[k]:=by rw[List.getD_eq_getElem?_getD,List.getElem?_eq_getElem hkd];rfl
     have hx:=HD12.out k
     have HNX:Hid (tabB (lenS b) (k+1)=if 0<(lenS b).getD k 0 then tabB (lenS b) k++putS (k:Int)++putS (((lenS b).getD k 0:Nat):Int) else tabB (lenS b) k):=rfl
     have HAX:=hideP (HABV.out k (by rw[up_length];exact hkd))
     rw[up_at _ _ hkd]at HAX
     have hts:=HTS.out k
     have hac:above ((up (lenS b)).take k)<=257:=by
      have:=Bi.above_le ((up (lenS b)).take k)
      rw[List.length_take]at this
      omega
     have HCI:=hideP (fun (W:World) (h:Below wr.heap.size wr W)=>(h.cell (p:=⟨bb,off+k,none⟩) (show bb<wr.heap.size by have:=BW.out.size;omega)).trans ci)
     rw[<-hg]at ci HCI
     generalize (lenS b).getD k 0=x at ci hx HNX HAX HCI hg
     generalize tabB (lenS b) k=T at HNX hts ⊢
     generalize above ((up (lenS b)).take k)=m at HAX hac ⊢
     clear hg hcl hkd
     by_cases h0:0<x
     ·have h0':(0:Int)<x:=by omega
      rw[if_pos h0]at HNX
      rw[if_pos h0']at HAX
      have p1:=HPS.out (k:Int)
      have p2:=HPS.out (x:Int)
      have HP1:=hideP (fun W=>CP.out (k:Int) W (by omega) (by omega))
      have HP2:=hideP (fun W=>CP.out (x:Int) W (by omega) (by omega))
      generalize putS (k:Int)=P1 at HP1 HNX p1
      generalize putS (x:Int)=P2 at HP2 HNX p2
      have n1:¬9223372036854775807<T.size+P1.size:=by omega
      have n2:¬9223372036854775807<T.size+P1.size+P2.size:=by omega
      have hkk:(k:Int)<257:=by omega
      have gc:=fun d os=>cell_regrown (w:=wr) ci d os
      have mixed:=So.mixed
      go_wp2_with fail
      clear ci
      refine wp_region_quiet_below (by assumption) (by kernel_rfl) ?_
      repeat (quiet_step (first|(go_at_call_of 85 (Value.int IntKind.i64 (k:Int));exact Calls.regrown_of (HP1.out _))|(go_at_call_of 85 (Value.int IntKind.i64 (x:Int));exact Calls.regrown_of (HP2.out _))))
      refine wpQuiet_nil ?_
      intro _ hw'
      obtain⟨⟨dq,osq⟩,hw''⟩:=hw'
      subst hw''
      have KQ:=hideP (below_regrown wr dq osq)
      generalize Go.Sort.grow (redrawn wr dq) osq=w8 at KQ ⊢
      clear gc
      go_wp2_with fail
      go_roundw
      case rel=>exact⟨k+1,by go_num,by omega,by rw[HNX.out],by rw[HAX.out];go_num,low_keep BW.out KQ.out⟩
      case measure=>simp[intOf];omega
     ·have h0':x=0:=by omega
      subst h0'
      rw[if_neg h0]at HNX
      rw[if_neg (by decide)]at HAX
      go_wp2_with fail
      go_roundw
      case rel=>exact⟨k+1,by go_num,by omega,by rw[HNX.out],by rw[HAX.out];rfl,BW.out⟩
      case measure=>simp[intOf];omega
    ·obtain rfl:k=257:=by omega
     have Y7:=hideP (ints_keep Y6.out BW.out)
     have Z7:=hideP (ints_keep Z6.out BW.out)
     have B7:=hideP (low_keep B6.out BW.out)
     have hts:=HTS.out 257
     rw[HABA.out]
     clear Y6 Z6 B6 BW HABV HAB0 HABA HTS HD12
     generalize tabB (lenS b) 257=T at HEQ hts ⊢
     have p1:=HPS.out (b.size:Int)
     have p2:=HPS.out (kA:Int)
     have p3:=HPS.out (j:Int)
     have p4:=HPS.out (kV:Int)
     have HP1:=hideP (fun W=>CP.out (b.size:Int) W (by omega) (by omega))
     have HP2:=hideP (fun W=>CP.out (kA:Int) W (by omega) (by omega))
     have HP3:=hideP (fun W=>CP.out (j:Int) W (by omega) (by omega))
     have HP4:=hideP (fun W=>CP.out (kV:Int) W (by omega) (by omega))
     generalize putS (b.size:Int)=P1 at HP1 HEQ p1
     generalize putS (kA:Int)=P2 at HP2 HEQ p2
     generalize putS (j:Int)=P3 at HP3 HEQ p3
     generalize putS (kV:Int)=P4 at HP4 HEQ p4
     have q1:(P1++P2).size<=20:=by rw[ByteArray.size_append];omega
     have q2:(P1++P2++P3).size<=30:=by rw[ByteArray.size_append];omega
     have q3:(P1++P2++P3++P4).size<=40:=by rw[ByteArray.size_append];omega
     have q4:((⟨#[1]⟩:ByteArray)++(P1++P2++P3++P4)).size<=41:=by rw[ByteArray.size_append];have:(⟨#[1]⟩:ByteArray).size=1:=rfl;omega
     have q5:((⟨#[1]⟩:ByteArray)++(P1++P2++P3++P4)++T).size<=5181:=by rw[ByteArray.size_append];omega
     have hbs:=HBS.out
     have r1:P1.size+P2.size<=9223372036854775807:=by omega
     have r2:(P1++P2).size+P3.size<=9223372036854775807:=by omega
     have r3:(P1++P2++P3).size+P4.size<=9223372036854775807:=by omega
     have r4:(⟨#[1]⟩:ByteArray).size+(P1++P2++P3++P4).size<=9223372036854775807:=by have:(⟨#[1]⟩:ByteArray).size=1:=rfl;omega
     have r5:((⟨#[1]⟩:ByteArray)++(P1++P2++P3++P4)).size+T.size<=9223372036854775807:=by omega
     have r6:((⟨#[1]⟩:ByteArray)++(P1++P2++P3++P4)++T).size+T3.size<=9223372036854775807:=by omega
     go_wp2_with fail
     refine(HP1.out _).mono ?_
     rintro e w91 ⟨rfl,hb91⟩
     have B91:=hideP (low_keep B7.out hb91)
     have Y8:=hideP (ints_keep Y7.out hb91)
     have Z8:=hideP (ints_keep Z7.out hb91)
     clear hb91 Y7 Z7 B7
     go_wp2_with fail
     refine(HP2.out _).mono ?_
     rintro e w92 ⟨rfl,hb92⟩
     have B92:=hideP (low_keep B91.out hb92)
     have Y9:=hideP (ints_keep Y8.out hb92)
     have Z9:=hideP (ints_keep Z8.out hb92)
     clear hb92 Y8 Z8 B91
     go_wp2_with fail
     refine(HP3.out _).mono ?_
     rintro e w93 ⟨rfl,hb93⟩
     have B93:=hideP (low_keep B92.out hb93)
     have Y10:=hideP (ints_keep Y9.out hb93)
     have Z10:=hideP (ints_keep Z9.out hb93)
     clear hb93 Y9 Z9 B92
     go_wp2_with fail
     refine(HP4.out _).mono ?_
     rintro e w94 ⟨rfl,hb94⟩
     have B94:=hideP (low_keep B93.out hb94)
     have Y11:=hideP (ints_keep Y10.out hb94)
     have Z11:=hideP (ints_keep Z10.out hb94)
     clear hb94 Y10 Z10 B93
     by_cases hV:0<kV
     ·have hV':(0:Int)<kV:=by omega
      go_wp2_with fail
      refine(C7.out _ _ _ _ _ hV Z11.out Y11.out).mono ?_
      rintro e w95 ⟨rfl,hb95⟩
      have B95:=hideP (low_keep B94.out hb95)
      clear hb95
      go_wp2_with fail
      refine(C8.out _).mono ?_
      rintro e w96 ⟨rfl,hb96⟩
      have B96:=hideP (low_keep B95.out hb96)
      clear hb96
      go_wp2_with fail
      go_ret
      exact⟨by rw[<-HEQ.out];rfl,B96.out⟩
     ·obtain rfl:kV=0:=by omega
      obtain rfl:=HBN.out rfl
      have B95:=hideP B94.out
      go_wp2_with fail
      refine(C8.out _).mono ?_
      rintro e w96 ⟨rfl,hb96⟩
      have B96:=hideP (low_keep B95.out hb96)
      clear hb96
      go_wp2_with fail
      go_ret
      exact⟨by rw[<-HEQ.out];rfl,B96.out⟩
theorem pack_l06 (b:ByteArray) (w:World) (hb:b.size<=48) :
  Calls Tryz.prog 65 #[.string b] w fun e w'=>e=.returned (.string (packB b))/\Below w.heap.size w w':=by
 have HR:Hid (packB b=sealV (innerV b)):=if_neg (by omega)
 have HL:=hideP (fun W=>long_spec b W hb)
 have hss:(shortV b).size<=20000:=by
  have:=shortL_le b
  show (shortL b).toArray.size<=20000
  rw[List.size_toArray]
  exact this
 have HSE:=hideP (fun (t:ByteArray) (W:World) (h:t.size<=20000)=>seal_spec t W (by unfold maxLen;omega))
 have HPE:=hideP (plain_eq b)
 have hps:=plainV_size b
 have HIN:Hid (innerV b=if (shortV b).size<b.size+1 then shortV b else plainV b):=rfl
 rw[HR.out,HIN.out]
 clear HR HIN
 generalize shortV b=S at HL hss ⊢
 generalize plainV b=P at HPE hps ⊢
 by_cases hlt:S.size<b.size+1
 ·have hlt':¬(b.size:Int)+1<=(S.size:Int):=by omega
  have hlt2:decide ((b.size:Int)+1<=(S.size:Int))=false:=decide_eq_false hlt'
  rw[if_pos hlt]
  have HSE1:=hideP (fun W=>HSE.out S W hss)
  generalize sealV S=R at HSE1 ⊢
  go_enter Tryz.func65,Tryz.ntmps65
  go_wp2_with fail
  refine(HL.out _).mono ?_
  rintro e w1 ⟨rfl,hb1⟩
  have B1:=hideP hb1
  clear hb1
  go_wp2_with fail
  refine(HSE1.out _).mono ?_
  rintro e w2 ⟨rfl,hb2⟩
  have B2:=hideP (low_keep B1.out hb2)
  clear hb2
  go_wp2_with fail
  go_ret
  exact⟨rfl,B2.out⟩
 ·have hlt':(b.size:Int)+1<=(S.size:Int):=by omega
  rw[if_neg hlt]
  have HSE1:=hideP (fun W=>HSE.out P W (by omega))
  rw[<-HPE.out]at HSE1 ⊢
  have hz0:(⟨#[0]⟩:ByteArray).size+b.size<=9223372036854775807:=by have:(⟨#[0]⟩:ByteArray).size=1:=rfl;omega
  generalize sealV ((⟨#[0]⟩:ByteArray)++b)=R at HSE1 ⊢
  clear HPE
  go_enter Tryz.func65,Tryz.ntmps65
  go_wp2_with fail
  refine(HL.out _).mono ?_
  rintro e w1 ⟨rfl,hb1⟩
  have B1:=hideP hb1
  clear hb1
  go_wp2_with fail
  refine(HSE1.out _).mono ?_
  rintro e w2 ⟨rfl,hb2⟩
  have B2:=hideP (low_keep B1.out hb2)
  clear hb2
  go_wp2_with fail
  go_ret
  exact⟨rfl,B2.out⟩
end Go.Proofs.YtjfdllgodijibaaGreatDoor.Pk

