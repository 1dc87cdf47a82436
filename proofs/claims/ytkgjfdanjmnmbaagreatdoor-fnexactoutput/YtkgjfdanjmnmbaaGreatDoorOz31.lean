/- Texts put together: SealWalks, PkPlain, DecPlain, DecPlain2, CodeBack. -/
import Derived.Test.YtkgjfdanjmnmbaaGreatDoorOz30
import Derived.Test.YtkgjfdanjmnmbaaGreatDoorOz23
import Derived.Test.YtkgjfdanjmnmbaaGreatDoorOz28
import Derived.Lib.Strings
set_option maxRecDepth 100000
set_option maxHeartbeats 8000000
namespace Go.Proofs.YtkgjfdanjmnmbaaGreatDoor.Se
open Go.RowKit
open Nu (bv arr_string ret_strJ hideJ)
def crcOf (s:ByteArray):Nat:=Cr.fin (Cr.crcL (Cr.fin 0) s.data.toList)
def fourL (n:Nat):List UInt8:=[UInt8.ofNat (n%256),UInt8.ofNat (n/256%256),UInt8.ofNat (n/65536%256),UInt8.ofNat (n/16777216)]
def fourS (n:Nat):ByteArray:=⟨(fourL n).toArray⟩
def sealV (t:ByteArray):ByteArray:=if t.size<=7996 then t++fourS (crcOf t) else ⟨#[]⟩
theorem crcOf_lt (s:ByteArray):crcOf s<4294967296:=Cr.fin_lt (Cr.crcL_lt _ _ (Cr.fin_lt (by decide)))
theorem fourS_size (n:Nat):(fourS n).size=4:=rfl
theorem moreV_crc (s:ByteArray) (h:s.size<=8000):Cr.moreV 0 s=(crcOf s:Nat):=Cr.moreV_yes 0 s h (by decide)
theorem bv_of (q:Nat) (x:Int) (hq:(q:Int)=x) (h:q<256):bv (UInt8.ofNat q)=.int .u8 x:=by
 unfold bv
 rw[UInt8.toNat_ofNat',Nat.mod_eq_of_lt (by omega),hq]
theorem four_cells (n:Nat) (h:n<4294967296) :
  (#[.int .u8 ((n:Int)%256),.int .u8 ((n:Int)/256%256),.int .u8 ((n:Int)/65536%256),.int .u8 ((n:Int)/16777216)]:Array Value).toList=(fourL n).map bv:=by
 simp only[fourL,List.map_cons,List.map_nil]
 rw[bv_of (n%256) ((n:Int)%256) (by omega) (by omega),bv_of (n/256%256) ((n:Int)/256%256) (by omega) (by omega),
  bv_of (n/65536%256) ((n:Int)/65536%256) (by omega) (by omega),bv_of (n/16777216) ((n:Int)/16777216) (by omega) (by omega)]
theorem four_conv {P:Program} {src dst e:TypeId} (t:TypeId) (u:World) (n:Nat) (h:n<4294967296) (hs:P.underlying src=some (.slice e)) (he:P.underlying e=some (.int .u8)) (hd:P.underlying dst=some .string) :
  (convert src dst (.slice (some ⟨u.heap.size,0,none⟩) 4 4)).run P (u.alloc (.cells #[.int .u8 ((n:Int)%256),.int .u8 ((n:Int)/256%256),.int .u8 ((n:Int)/65536%256),.int .u8 ((n:Int)/16777216)] t)) =
   .ok (.string (fourS n)) (u.alloc (.cells #[.int .u8 ((n:Int)%256),.int .u8 ((n:Int)/256%256),.int .u8 ((n:Int)/65536%256),.int .u8 ((n:Int)/16777216)] t)) :=
 arr_string (P:=P) (fourL n) 4 (heap_alloc_new u _) (by rw[four_cells n h];rfl) hs he hd
theorem four_any (n:Nat) (w:World) (hn:n<4294967296) :
  Calls Tryz.prog 51 #[.int .i64 n] w fun e w'=>e=.returned (.string (fourS n))/\Below w.heap.size w w':=by
 have hcv:=four_conv (P:=Tryz.prog) 5 w n hn Tryz.underlying87 Tryz.underlying5 Tryz.underlying9
 go_enter Tryz.func51,Tryz.ntmps51
 go_wp2
 go_ret
 exact⟨rfl,(Below.refl _ _).alloc (Nat.le_refl _) _⟩
theorem sum_any (s:ByteArray) (w:World) (hs:s.size<=8000) :
  Calls Tryz.prog 86 #[.string s] w fun e w'=>e=.returned (.string (fourS (crcOf s)))/\Below w.heap.size w w':=by
 have HV:=hideJ (moreV_crc s hs)
 have hn:=crcOf_lt s
 generalize crcOf s=n at HV hn ⊢
 have hcv:=four_conv (P:=Tryz.prog) 182 w n hn Tryz.underlying87 Tryz.underlying5 Tryz.underlying9
 go_enter Tryz.func86,Tryz.ntmps86
 go_wp2_with fail
 refine(Cr.crc_impl0 s _ (by unfold maxLen;omega)).mono ?_
 rw[HV.out]
 rintro e w' ⟨rfl,hw⟩
 subst w'
 go_wp2
 refine wp_loop_rounds 5 ?_
 rw[rounds_succ];go_wp2
 rw[rounds_succ];go_wp2
 rw[rounds_succ];go_wp2
 rw[rounds_succ];go_wp2
 rw[rounds_succ];go_wp2
 go_ret
 exact⟨rfl,(Below.refl _ _).alloc (Nat.le_refl _) _⟩
theorem seal_spec (t:ByteArray) (w:World) (ht:t.size<=maxLen) :
  Calls Tryz.prog 115 #[.string t] w fun e w'=>e=.returned (.string (sealV t))/\Below w.heap.size w w':=by
 unfold maxLen at ht
 by_cases h:7996<t.size
 ·have HP:=hideJ (show sealV t=⟨#[]⟩ by unfold sealV;rw[if_neg (by omega)])
  go_enter Tryz.func115,Tryz.ntmps115
  go_wp2
  go_ret
  exact⟨ret_strJ HP.out.symm,Below.refl _ _⟩
 ·have HP:=hideJ (show sealV t=t++fourS (crcOf t) by unfold sealV;rw[if_pos (by omega)])
  have hc:=crcOf_lt t
  have hf:=fourS_size (crcOf t)
  have HF:=hideJ hf
  clear hf
  have hf4:(fourS (crcOf t)).size<=4:=by rw[HF.out];omega
  go_enter Tryz.func115,Tryz.ntmps115
  go_wp2_with fail
  refine(Cr.crc_spec 0 t _ (by omega) (by omega)).mono ?_
  rintro e w' ⟨rfl,hw⟩
  subst w'
  go_wp2_with fail
  refine(four_any (crcOf t) _ hc).mono ?_
  rintro e w1 ⟨rfl,hb1⟩
  go_wp2
  go_ret
  exact⟨ret_strJ HP.out.symm,hb1⟩
theorem seal_impl (t:ByteArray) (w:World) (ht:t.size<=maxLen) :
  Calls Tryz.prog 61 #[.string t] w fun e w'=>e=.returned (.string (sealV t))/\Below w.heap.size w w':=by
 unfold maxLen at ht
 by_cases h:7996<t.size
 ·have HP:=hideJ (show sealV t=⟨#[]⟩ by unfold sealV;rw[if_neg (by omega)])
  go_enter Tryz.func61,Tryz.ntmps61
  go_wp2
  go_ret
  exact⟨ret_strJ HP.out.symm,Below.refl _ _⟩
 ·have HP:=hideJ (show sealV t=t++fourS (crcOf t) by unfold sealV;rw[if_pos (by omega)])
  have HF:=hideJ (fourS_size (crcOf t))
  go_enter Tryz.func61,Tryz.ntmps61
  go_wp2_with fail
  refine(sum_any t _ (by omega)).mono ?_
  rintro e w1 ⟨rfl,hb1⟩
  go_wp2_with fail
  refine(Nu.join_any _ _ _ (by rw[HF.out];omega)).mono ?_
  rintro e w2 ⟨rfl,hb2⟩
  go_wp2
  go_ret
  exact⟨ret_strJ HP.out.symm,hb1.trans (hb2.mono hb1.size)⟩
end Go.Proofs.YtkgjfdanjmnmbaaGreatDoor.Se


/- Plain mathematics of BlockPack: what a block is made. -/
namespace Go.Proofs.YtkgjfdanjmnmbaaGreatDoor.Pk
open Hf (up up_length up_at incs incs_length dep lenOf lenOf_facts syms mem_syms nats)
open Bi (putR putR_yes putR_no putL okS whole whole_no above above_zero csum right right_yes packR)
open Go.Proofs.YtkgjfdanjmnmbaaGreatDoor.So (bwtT bwtA)
open Fr (frontR frontR_len)
open Ze (zerosR zerosR_len zerosR_no zeros_back backR_no numsR numsR_yes upTo_yes)
open Se (sealV)
theorem zerosR_mem (l:List Int):∀ x∈zerosR l,0<=x/\x<=256:=by
 intro x hx
 cases h1:numsR l 255 with
 |false =>
  rw[zerosR_no h1]at hx
  exact absurd hx (List.not_mem_nil)
 |true =>
  cases h2:numsR (zerosR l) 256 with
  |true=>exact upTo_yes (numsR_yes h2).2 x hx
  |false =>
   have h3:=zeros_back h1
   rw[backR_no h2]at h3
   subst h3
   have:=zerosR_len []
   rw[List.eq_nil_of_length_eq_zero (show (zerosR []).length=0 by simpa using this)]at hx
   exact absurd hx (List.not_mem_nil)
noncomputable def symS (b:ByteArray):List Int:=zerosR (frontR (bwtT b).data.toList)
theorem symS_mem (b:ByteArray):∀ x∈symS b,0<=x/\x<=256:=zerosR_mem _
theorem symS_len (b:ByteArray):(symS b).length<=400:=Nat.le_trans (zerosR_len _) (frontR_len _)
noncomputable def lenS (b:ByteArray):List Nat:=lenOf (countsN (symS b))
noncomputable def headS (b:ByteArray):List Int:=[(b.size:Int),((bwtA b:Nat):Int),((symS b).length:Int),((above (up (lenS b)):Nat):Int)]
noncomputable def bitsS (b:ByteArray):ByteArray:=packR (putR (up (lenS b)) (symS b))
noncomputable def shortL (b:ByteArray):List UInt8:=[1]++(numsL (headS b)++(numsL (rowT (lenS b) 257)++(bitsS b).data.toList))
noncomputable def shortV (b:ByteArray):ByteArray:=⟨(shortL b).toArray⟩
noncomputable def plainV (b:ByteArray):ByteArray:=⟨(0 :: b.data.toList).toArray⟩
noncomputable def innerV (b:ByteArray):ByteArray:=if (shortV b).size<b.size+1 then shortV b else plainV b
noncomputable def packB (b:ByteArray):ByteArray:=if 48<b.size then ⟨#[]⟩ else sealV (innerV b)
theorem plainV_size (b:ByteArray):(plainV b).size=b.size+1:=by
 show (0 :: b.data.toList).toArray.size=_
 simp
theorem lenS_facts (b:ByteArray):(lenS b).length=257/\(∀ i,(lenS b).getD i 0<=12)/\(∀ i,0<(lenS b).getD i 0↔i∈syms (countsN (symS b)) 257)/\(0<(syms (countsN (symS b)) 257).length->whole (up (lenS b))=true):=by
 have h:=lenOf_facts (countsN (symS b)) (by rw[countsN_length];decide)
 rw[countsN_length]at h
 exact h
theorem incs_mono (s:List Nat):∀ (d:List Nat) (j:Nat),(∀ k∈s,k<d.length)->d.getD j 0<=(incs d s).getD j 0:=by
 unfold incs
 induction s with
 |nil=>intro d j _;exact Nat.le_refl _
 |cons k s ih =>
  intro d j h
  have hk:=h k (List.mem_cons_self ..)
  rw[List.foldl_cons]
  refine Nat.le_trans ?_ (ih (d.set k (d.getD k 0+1)) j fun x hx=>by rw[List.length_set];exact h x (List.mem_cons_of_mem _ hx))
  rw[Hf.getD_set _ _ _ _ hk]
  split
  ·rename_i e
   subst e
   omega
  ·exact Nat.le_refl _
theorem incs_pos (s:List Nat):∀ (d:List Nat) (j:Nat),(∀ k∈s,k<d.length)->j∈s->0<(incs d s).getD j 0:=by
 induction s with
 |nil=>intro d j _ hj;exact absurd hj (List.not_mem_nil)
 |cons k s ih =>
  intro d j h hj
  have hk:=h k (List.mem_cons_self ..)
  have hr:∀ x∈s,x<(d.set k (d.getD k 0+1)).length:=fun x hx=>by rw[List.length_set];exact h x (List.mem_cons_of_mem _ hx)
  have e:incs d (k :: s)=incs (d.set k (d.getD k 0+1)) s:=rfl
  rw[e]
  rcases List.mem_cons.1 hj with rfl|hj
  ·have:=incs_mono s (d.set j (d.getD j 0+1)) j hr
   rw[Hf.getD_set _ _ _ _ hk,if_pos rfl]at this
   omega
  ·exact ih _ j hr hj
theorem nats_lt (s:List Int) (h:∀ x∈s,0<=x/\x<=256):∀ k∈nats s,k<(Hf.zeros 257).length:=by
 intro k hk
 obtain⟨x,hx,rfl⟩:=List.mem_map.1 hk
 have:=h x hx
 rw[zeros_length]
 omega
theorem symS_ok (b:ByteArray):∀ x∈symS b,okS (up (lenS b)) x:=by
 intro x hx
 have h:=symS_mem b x hx
 obtain⟨h1,h2,h3,_⟩:=lenS_facts b
 refine⟨h.1,by rw[up_length,h1];omega,?_⟩
 have hp:0<(lenS b).getD x.toNat 0:=(h3 x.toNat).2 (mem_syms.2 ⟨by omega,incs_pos (nats (symS b)) _ _ (nats_lt _ (symS_mem b)) (List.mem_map.2 ⟨x,hx,rfl⟩)⟩)
 have hl:x.toNat<(lenS b).length:=by omega
 have:=up_at (lenS b) x.toNat hl
 rw[List.getD_eq_getElem?_getD,List.getElem?_eq_getElem (show x.toNat<(up (lenS b)).length by rw[up_length];exact hl),this]
 show (0:Int)<(((lenS b).getD x.toNat 0:Nat):Int)
 omega
theorem above_pos {l:List Int} (h:0<above l):∃ x∈l,0<x:=by
 refine Classical.byContradiction fun hn=>?_
 have:above l=0:=by
  unfold above
  rw[List.countP_eq_zero]
  intro x hx
  simp only[decide_eq_true_eq]
  exact fun h0=>hn ⟨x,hx,h0⟩
 omega
theorem lenS_whole (b:ByteArray) (h:0<above (up (lenS b))):whole (up (lenS b))=true:=by
 obtain⟨_,_,h3,h4⟩:=lenS_facts b
 obtain⟨x,hx,h0⟩:=above_pos h
 obtain⟨j,hj,rfl⟩:=List.getElem_of_mem hx
 rw[up_length]at hj
 rw[up_at _ _ hj]at h0
 exact h4 (List.length_pos_of_mem ((h3 j).1 (by omega)))
theorem bits_none (b:ByteArray) (h:above (up (lenS b))=0):putR (up (lenS b)) (symS b)=⟨#[]⟩:=by
 refine putR_no (.inr ?_)
 obtain⟨h1,_⟩:=above_zero _ h
 unfold whole
 rw[h,h1]
 simp
theorem bits_some (b:ByteArray) (h:0<above (up (lenS b))):putR (up (lenS b)) (symS b)=⟨(putL (up (lenS b)) (symS b)).toArray⟩:=putR_yes (by have:=symS_len b;omega) (lenS_whole b h) (symS_ok b)
theorem bits_size (b:ByteArray):(putR (up (lenS b)) (symS b)).size<=4800:=by
 by_cases h:above (up (lenS b))=0
 ·rw[bits_none b h]
  decide
 ·rw[bits_some b (by omega)]
  have h1:=Bi.putL_le (up (lenS b)) (Bi.whole_ok (lenS_whole b (by omega))) (symS b)
  have h2:=symS_len b
  show (putL (up (lenS b)) (symS b)).toArray.size<=4800
  rw[List.size_toArray]
  omega
theorem lens_counts (b:ByteArray):Hf.lensR (up (countsN (symS b)))=up (lenS b):=by
 have hn:nats (up (countsN (symS b)))=countsN (symS b):=by
  unfold nats up
  rw[List.map_map]
  conv=>rhs;rw[<-List.map_id (countsN (symS b))]
  exact List.map_congr_left fun x _=>by simp
 unfold Hf.lensR
 rw[if_pos,hn]
 ·rfl
 ·refine Bi.within_of (by rw[up_length,countsN_length];decide) fun x hx=>?_
  obtain⟨y,hy,rfl⟩:=List.mem_map.1 hx
  obtain⟨j,hj,rfl⟩:=List.getElem_of_mem hy
  have h1:=counts_le (symS b) (symS_mem b) (nats (symS b)).length j
  rw[List.take_length]at h1
  have h2:=symS_len b
  have e:(countsN (symS b)).getD j 0=(countsN (symS b))[j]:=by rw[List.getD_eq_getElem?_getD,List.getElem?_eq_getElem hj];rfl
  have h3:(countsN (symS b)).getD j 0<=(symS b).length:=h1
  omega
end Go.Proofs.YtkgjfdanjmnmbaaGreatDoor.Pk


/- Plain mathematics of codes got again: no code begins another one. -/
namespace Go.Proofs.YtkgjfdanjmnmbaaGreatDoor.Bi
open Go.RowKit
open Sh (bt strF bt_strF strF_size strF_bt strF_congr bt_lt)
def wd (l:List Int) (i:Nat):Nat:=(l.getD i 0).toNat
theorem getD_lt {l:List Int} {i:Nat} (hi:i<l.length):l.getD i 0=l[i]:=by rw[List.getD_eq_getElem?_getD,List.getElem?_eq_getElem hi];rfl
def start (l:List Int) (i:Nat):Nat:=cnum l i*2 ^ (12-wd l i)
theorem start_eq (l:List Int) (i:Nat) (h1:1<=wd l i) (h2:wd l i<=12):start l i=low l (wd l i-1)+cnt (l.take i) (wd l i:Nat)*2 ^ (12-wd l i):=by
 have h3:=outN_low l (wd l i-1) (by omega)
 unfold start cnum innN
 rw[<-h3]
 show (2*outN l (wd l i-1)+cnt (l.take i) ((wd l i:Nat):Int))*2 ^ (12-wd l i)=_
 rw[Nat.add_mul,show 12-(wd l i-1)=12-wd l i+1 by omega,Nat.pow_succ,Nat.mul_comm 2 (outN l (wd l i-1)),Nat.mul_assoc,Nat.mul_comm 2]
theorem wd_int {l:List Int} {i:Nat} (h:0<l.getD i 0):l.getD i 0=((wd l i:Nat):Int):=by unfold wd;omega
theorem low_mono (l:List Int) (a b:Nat) (h:a<=b):low l a<=low l b:=by
 induction b with
 |zero=>rw[show a=0 by omega];exact Nat.le_refl _
 |succ b ih =>
  by_cases e:a=b+1
  ·rw[e];exact Nat.le_refl _
  ·have:=ih (by omega)
   have h2:=low_succ l b
   omega
theorem start_end (l:List Int) (i:Nat) (hi:i<l.length) (h0:0<l.getD i 0) (h2:wd l i<=12):start l i+2 ^ (12-wd l i)<=low l (wd l i):=by
 have h1:1<=wd l i:=by unfold wd;omega
 have e:l[i]=((wd l i:Nat):Int):=by rw[<-getD_lt hi];exact wd_int h0
 have hc:=cnt_here hi e
 have hl:=low_succ l (wd l i-1)
 rw[show wd l i-1+1=wd l i by omega]at hl
 rw[start_eq l i h1 h2,hl]
 have:(cnt (l.take i) ((wd l i:Nat):Int)+1)*2 ^ (12-wd l i)<=cnt l ((wd l i:Nat):Int)*2 ^ (12-wd l i):=Nat.mul_le_mul_right _ hc
 rw[Nat.add_mul,Nat.one_mul]at this
 omega
theorem start_apart (l:List Int) (i j:Nat) (hi:i<l.length) (h0:0<l.getD i 0) (h0':0<l.getD j 0) (h12:wd l i<=12) (h12':wd l j<=12) (h:wd l i<wd l j∨(wd l i=wd l j/\i<j)) (_hj:j<l.length) :
  start l i+2 ^ (12-wd l i)<=start l j:=by
 have h1':1<=wd l j:=by unfold wd;omega
 have h1:1<=wd l i:=by unfold wd;omega
 rcases h with h|⟨h,hij⟩
 ·have a1:=start_end l i hi h0 h12
  have a2:=low_mono l (wd l i) (wd l j-1) (by omega)
  have a3:=start_eq l j h1' h12'
  omega
 ·have e:l[i]=((wd l i:Nat):Int):=by rw[<-getD_lt hi];exact wd_int h0
  have c1:=cnt_more hi ((wd l i:Nat):Int)
  rw[if_pos e]at c1
  have c2:cnt (l.take (i+1)) ((wd l i:Nat):Int)<=cnt (l.take j) ((wd l i:Nat):Int):=by
   have:=cnt_take (l.take j) ((wd l i:Nat):Int) (i+1)
   rw[List.take_take,Nat.min_eq_left (by omega)]at this
   exact this
  rw[start_eq l i h1 h12,start_eq l j h1' h12',<-h]
  have:(cnt (l.take i) ((wd l i:Nat):Int)+1)*2 ^ (12-wd l i)<=cnt (l.take j) ((wd l i:Nat):Int)*2 ^ (12-wd l i):=Nat.mul_le_mul_right _ (by omega)
  rw[Nat.add_mul,Nat.one_mul]at this
  omega
theorem bt_extract (t:ByteArray) (a b j:Nat) (hj:a+j<b) (_hb:b<=t.size):bt (t.extract a b) j=bt t (a+j):=by
 unfold bt
 have h1:(t.extract a b).data.toList=(t.data.toList.take b).drop a:=by
  rw[ByteArray.data_extract,Array.toList_extract]
  simp[List.extract_eq_take_drop,List.drop_take]
 rw[h1,List.getD_eq_getElem?_getD,List.getD_eq_getElem?_getD,List.getElem?_drop,List.getElem?_take_of_lt hj]
def val (t:ByteArray):Nat->Nat
 |0=>0
 |r+1=>2*val t r+(bt t r-48)
theorem val_of (t:ByteArray) (n v:Nat) (hn:n<2 ^ v) (h:∀ j,j<v->bt t j=bitB n (v-1-j)):∀ r,r<=v->val t r=n/2 ^ (v-r):=by
 intro r
 induction r with
 |zero=>intro _;rw[Nat.sub_zero,Nat.div_eq_of_lt hn];rfl
 |succ r ih =>
  intro hr
  simp only[val]
  rw[ih (by omega),h r (by omega)]
  unfold bitB
  rw[show v-r=v-(r+1)+1 by omega,Nat.pow_succ,<-Nat.div_div_eq_div_mul,show v-1-r=v-(r+1) by omega]
  omega
def mt (l:List Int) (t:ByteArray) (i:Nat):Prop:=i<l.length/\0<l.getD i 0/\wd l i<=t.size/\t.extract 0 (wd l i)=codeOf l i
theorem cnum_fits {l:List Int} (hr:csum l<=4096) {i:Nat} (hi:i<l.length) (h0:0<l.getD i 0) (h2:wd l i<=12):cnum l i<2 ^ wd l i:=by
 have h1:1<=wd l i:=by unfold wd;omega
 have e:l[i]=((wd l i-1+1:Nat):Int):=by rw[show wd l i-1+1=wd l i by omega,<-getD_lt hi];exact wd_int h0
 have:=inn_fits hr (v:=wd l i-1) (by omega) hi e
 rw[show wd l i-1+1=wd l i by omega]at this
 exact this
theorem mt_val {l:List Int} (hr:csum l<=4096) {t:ByteArray} {i:Nat} (h:mt l t i) (h12:wd l i<=12):∀ r,r<=wd l i->val t r=cnum l i/2 ^ (wd l i-r):=by
 obtain⟨hi,h0,hs,he⟩:=h
 refine val_of t (cnum l i) (wd l i) (cnum_fits hr hi h0 h12) fun j hj=>?_
 have h1:=bt_extract t 0 (wd l i) j (by omega) hs
 rw[Nat.zero_add,he]at h1
 rw[<-h1]
 unfold codeOf
 rw[if_pos h0]
 exact bt_strF _ _ j hj (bitB_lt _ _)
theorem mt_start {l:List Int} (hr:csum l<=4096) {t:ByteArray} {i j:Nat} (hi:mt l t i) (hj:mt l t j) (h12:wd l i<=12) (h12':wd l j<=12) (h:wd l i<=wd l j):start l j<start l i+2 ^ (12-wd l i):=by
 have a1:=mt_val hr hi h12 (wd l i) (Nat.le_refl _)
 have a2:=mt_val hr hj h12' (wd l i) h
 rw[Nat.sub_self,Nat.pow_zero,Nat.div_one]at a1
 rw[a1]at a2
 have a3:cnum l j<(cnum l i+1)*2 ^ (wd l j-wd l i):=by
  rw[a2]
  exact Nat.lt_mul_of_div_lt (Nat.lt_succ_self _) (Nat.pow_pos (by decide))
 unfold start
 have a4:cnum l j*2 ^ (12-wd l j)<(cnum l i+1)*2 ^ (wd l j-wd l i)*2 ^ (12-wd l j):=Nat.mul_lt_mul_of_pos_right a3 (Nat.pow_pos (by decide))
 rw[Nat.mul_assoc,<-Nat.pow_add,show wd l j-wd l i+(12-wd l j)=12-wd l i by omega,Nat.add_mul,Nat.one_mul]at a4
 exact a4
theorem mt_one {l:List Int} (hr:csum l<=4096) (hok:∀ x∈l,0<=x/\x<=12) {t:ByteArray} {i j:Nat} (hi:mt l t i) (hj:mt l t j):i=j:=by
 have w12:∀ k,k<l.length->wd l k<=12:=fun k hk=>by
  have:=hok _ (List.getElem_mem hk)
  unfold wd
  rw[getD_lt hk]
  omega
 have hi12:=w12 i hi.1
 have hj12:=w12 j hj.1
 rcases Nat.lt_trichotomy (wd l i) (wd l j) with h|h|h
 ·have b1:=start_apart l i j hi.1 hi.2.1 hj.2.1 hi12 hj12 (Or.inl h) hj.1
  have b2:=mt_start hr hi hj hi12 hj12 (by omega)
  omega
 ·rcases Nat.lt_trichotomy i j with h'|h'|h'
  ·have b1:=start_apart l i j hi.1 hi.2.1 hj.2.1 hi12 hj12 (Or.inr ⟨h,h'⟩) hj.1
   have b2:=mt_start hr hi hj hi12 hj12 (by omega)
   omega
  ·exact h'
  ·have b1:=start_apart l j i hj.1 hj.2.1 hi.2.1 hj12 hi12 (Or.inr ⟨h.symm,h'⟩) hi.1
   have b2:=mt_start hr hj hi hj12 hi12 (by omega)
   omega
 ·have b1:=start_apart l j i hj.1 hj.2.1 hi.2.1 hj12 hi12 (Or.inl h) hi.1
  have b2:=mt_start hr hj hi hj12 hi12 (by omega)
  omega
end Go.Proofs.YtkgjfdanjmnmbaaGreatDoor.Bi


/- Plain mathematics of codes got again: symbol by symbol. -/
namespace Go.Proofs.YtkgjfdanjmnmbaaGreatDoor.Bi
open Go.RowKit
instance (l:List Int) (t:ByteArray) (i:Nat):Decidable (mt l t i):=inferInstanceAs (Decidable (_/\_/\_/\_))
def sym (l:List Int) (t:ByteArray):Option Nat:=(List.range l.length).find? fun i=>decide (mt l t i)
def wth (l:List Int) (t:ByteArray):Bool:=(List.range l.length).any fun i=>decide (0<l.getD i 0) && Lib.hasPrefix (codeOf l i).data.toList t.data.toList
theorem sym_mt {l:List Int} {t:ByteArray} {i:Nat} (h:sym l t=some i):mt l t i:=by
 unfold sym at h
 have:=List.find?_some h
 simpa using this
theorem sym_of {l:List Int} (hr:csum l<=4096) (hok:∀ x∈l,0<=x/\x<=12) {t:ByteArray} {i:Nat} (h:mt l t i):sym l t=some i:=by
 cases hs:sym l t with
 |none =>
  have:=List.find?_eq_none.1 hs i (List.mem_range.2 h.1)
  simp[h]at this
 |some j=>rw[mt_one hr hok (sym_mt hs) h]
theorem sym_none {l:List Int} {t:ByteArray} (h:∀ i,¬mt l t i):sym l t=none:=by
 cases hs:sym l t with
 |none=>rfl
 |some j=>exact absurd (sym_mt hs) (h j)
theorem wth_of {l:List Int} {t:ByteArray} {i:Nat} (hi:i<l.length) (h0:0<l.getD i 0) (hp:Lib.hasPrefix (codeOf l i).data.toList t.data.toList=true):wth l t=true:=by
 unfold wth
 rw[List.any_eq_true]
 exact⟨i,List.mem_range.2 hi,by rw[decide_eq_true h0,hp];rfl⟩
theorem wth_yes {l:List Int} {t:ByteArray} (h:wth l t=true):∃ i,i<l.length/\0<l.getD i 0/\Lib.hasPrefix (codeOf l i).data.toList t.data.toList=true:=by
 unfold wth at h
 rw[List.any_eq_true]at h
 obtain⟨i,hi,hb⟩:=h
 rw[Bool.and_eq_true]at hb
 exact⟨i,List.mem_range.1 hi,of_decide_eq_true hb.1,hb.2⟩
def rst (t:ByteArray) (at_:Nat):ByteArray:=t.extract at_ t.size
theorem rst_size (t:ByteArray) (at_:Nat):(rst t at_).size=t.size-at_:=by unfold rst;rw[ByteArray.size_extract];omega
def why (l:List Int) (t:ByteArray):Int:=if wth l t=true then 4 else 3
def st (l:List Int) (t:ByteArray):Nat->Int ⊕ (List Int × Nat)
 |0=>.inr ([],0)
 |k+1=>match st l t k with
  |.inl e=>.inl e
  |.inr (xs,p)=>match sym l (rst t p) with
   |some i=>.inr (xs++[(i:Int)],p+wd l i)
   |none=>.inl (why l (rst t p))
theorem st_more {l:List Int} {t:ByteArray} {k p i:Nat} {xs:List Int} (h:st l t k=.inr (xs,p)) (hs:sym l (rst t p)=some i):st l t (k+1)=.inr (xs++[(i:Int)],p+wd l i):=by
 simp only[st,h,hs]
theorem st_bad {l:List Int} {t:ByteArray} {k p:Nat} {xs:List Int} (h:st l t k=.inr (xs,p)) (hs:sym l (rst t p)=none):st l t (k+1)=.inl (why l (rst t p)):=by
 simp only[st,h,hs]
theorem st_stay {l:List Int} {t:ByteArray} {k:Nat} {e:Int} (h:st l t k=.inl e):∀ d,st l t (k+d)=.inl e:=by
 intro d
 induction d with
 |zero=>exact h
 |succ d ih =>
  rw[<-Nat.add_assoc]
  simp only[st,ih]
theorem st_facts {l:List Int} {t:ByteArray}:∀ (k p:Nat) (xs:List Int),st l t k=.inr (xs,p)->p<=t.size/\xs.length=k:=by
 intro k
 induction k with
 |zero =>
  intro p xs h
  simp only[st,Sum.inr.injEq,Prod.mk.injEq]at h
  rw[<-h.1,<-h.2]
  simp
 |succ k ih =>
  intro p xs h
  cases hk:st l t k with
  |inl e=>simp only[st,hk]at h;cases h
  |inr q =>
   obtain⟨ys,r⟩:=q
   obtain⟨h1,h2⟩:=ih r ys hk
   cases hs:sym l (rst t r) with
   |none=>rw[st_bad hk hs]at h;cases h
   |some i =>
    rw[st_more hk hs]at h
    simp only[Sum.inr.injEq,Prod.mk.injEq]at h
    have hm:=(sym_mt hs).2.2.1
    rw[rst_size]at hm
    rw[<-h.1,<-h.2]
    simp[h2]
    omega
def outS (x:Int ⊕ (List Int × Nat)):List Int × Int × Int:=match x with
 |.inl e=>([],0,e)
 |.inr (xs,p)=>(xs,(p:Int),0)
def getR (l:List Int) (t:ByteArray) (m:Int):List Int × Int × Int :=
 if 400<l.length∨8000<t.size then ([],0,2)
 else if whole l=false∨good t=false∨m<0∨400<m then ([],0,1)
 else outS (st l t m.toNat)
theorem getR_size {l:List Int} {t:ByteArray} {m:Int} (h:400<l.length∨8000<t.size):getR l t m=([],0,2):=if_pos h
theorem getR_form {l:List Int} {t:ByteArray} {m:Int} (h:¬(400<l.length∨8000<t.size)) (h2:whole l=false∨good t=false∨m<0∨400<m):getR l t m=([],0,1):=by
 unfold getR
 rw[if_neg h,if_pos h2]
theorem getR_in {l:List Int} {t:ByteArray} {m:Nat} (h:¬(400<l.length∨8000<t.size)) (h2:whole l=true) (h3:good t=true) (h4:m<=400):getR l t m=outS (st l t m):=by
 unfold getR
 rw[if_neg h,if_neg (by rw[h2,h3];simp;omega)]
 rfl
theorem getR_length (l:List Int) (t:ByteArray) (m:Int):(getR l t m).1.length<=400:=by
 unfold getR
 split
 ·simp
 ·split
  ·simp
  ·rename_i h
   cases hs:st l t m.toNat with
   |inl e=>simp[outS]
   |inr q =>
    obtain⟨xs,p⟩:=q
    have:=(st_facts _ _ _ hs).2
    simp only[outS]
    have hm:¬400<m:=fun x=>h (Or.inr (Or.inr (Or.inr x)))
    omega
end Go.Proofs.YtkgjfdanjmnmbaaGreatDoor.Bi


/- Plain mathematics of codes: bits come back from their bytes, symbols from their codes. -/
namespace Go.Proofs.YtkgjfdanjmnmbaaGreatDoor.Bi
open Go.RowKit
open Sh (bt strF bt_strF strF_size strF_bt strF_congr bt_lt)
theorem hd_div (t:ByteArray) (q r:Nat):∀ d,hd t q (r+d)/2 ^ d=hd t q r
 |0=>by simp
 |d+1=>by
  have ih:=hd_div t q r d
  have h1:=one_le t (8*q+(r+d))
  rw[show r+(d+1)=(r+d)+1 by omega,Nat.pow_succ,Nat.mul_comm,<-Nat.div_div_eq_div_mul]
  show (2*hd t q (r+d)+one t (8*q+(r+d)))/2/2 ^ d=_
  rw[show (2*hd t q (r+d)+one t (8*q+(r+d)))/2=hd t q (r+d) by omega]
  exact ih
theorem hd_bit (t:ByteArray) (q r:Nat) (hr:r<8):hd t q 8/2 ^ (7-r)%2=one t (8*q+r):=by
 have h:=hd_div t q (r+1) (7-r)
 rw[show r+1+(7-r)=8 by omega]at h
 rw[h]
 show (2*hd t q r+one t (8*q+r))%2=_
 have:=one_le t (8*q+r)
 omega
theorem packV_size (t:ByteArray):(packV t).size=(t.size+7)/8:=strF_size _ _
theorem open_bit (t:ByteArray) (i:Nat) (hi:i<8*(packV t).size):bitB (bt (packV t) (i/8)) (7-i%8)=48+one t i:=by
 rw[packV_size]at hi
 have h1:bt (packV t) (i/8)=pk t (i/8) 8:=bt_strF _ _ _ (by omega) (pk_lt t _ 8 (Nat.le_refl _))
 unfold bitB
 rw[h1,<-hd_all,hd_bit t (i/8) (i%8) (by omega),show 8*(i/8)+i%8=i by omega]
theorem one_good {t:ByteArray} (hg:good t=true) (i:Nat) (hi:i<t.size):48+one t i=bt t i:=by
 unfold one
 rcases good_yes hg i hi with h|h
 ·rw[if_neg (by omega),h]
 ·rw[if_pos ⟨hi,h⟩,h]
theorem one_add_lt (t:ByteArray) (i:Nat):48+one t i<256:=by have:=one_le t i;omega
theorem strF_take (n m:Nat) (f:Nat->Nat) (h:n<=m):(strF m f).data.toList.take n=(strF n f).data.toList:=by
 unfold strF
 simp only
 rw[<-List.map_take,List.take_range,Nat.min_eq_left h]
theorem open_all {t:ByteArray} (hg:good t=true) (hs:t.size<=8000):∃ z,(openR (packV t) ((8*(packV t).size:Nat):Int)).data.toList=t.data.toList++z/\good (openR (packV t) ((8*(packV t).size:Nat):Int))=true:=by
 have hp:=packV_size t
 have e:openR (packV t) ((8*(packV t).size:Nat):Int)=strF (8*(packV t).size) (fun i=>48+one t i):=by
  rw[openR_yes _ _ (by omega) (Nat.le_refl _)]
  unfold openV
  exact strF_congr _ _ _ fun i hi=>open_bit t i hi
 rw[e]
 refine⟨(strF (8*(packV t).size) (fun i=>48+one t i)).data.toList.drop t.size,?_,good_of fun j hj=>?_⟩
 ·have h1:t.data.toList=(strF (8*(packV t).size) (fun i=>48+one t i)).data.toList.take t.size:=by
   rw[strF_take t.size (8*(packV t).size) _ (by omega),strF_congr t.size (fun i=>48+one t i) (bt t) fun i hi=>one_good hg i hi,strF_bt]
  conv=>rhs;rw[h1]
  exact(List.take_append_drop _ _).symm
 ·rw[strF_size]at hj
  rw[bt_strF _ _ _ hj (one_add_lt t j)]
  have:=one_le t j
  omega
theorem putL_split (l s:List Int) (k:Nat):putL l s=putL l (s.take k)++putL l (s.drop k):=by
 unfold putL
 rw[<-List.flatMap_append,List.take_append_drop]
theorem extract0 (t:ByteArray) (n:Nat):(t.extract 0 n).data.toList=t.data.toList.take n:=by
 rw[ByteArray.data_extract,Array.toList_extract]
 simp[List.extract_eq_take_drop]
theorem rst_list (t:ByteArray) (p:Nat):(rst t p).data.toList=t.data.toList.drop p:=by
 unfold rst
 rw[ByteArray.data_extract,Array.toList_extract,List.extract_eq_take_drop]
 rw[List.take_of_length_le]
 rw[List.length_drop,Array.length_toList]
 exact Nat.le_refl _
theorem ext_list {a b:ByteArray} (h:a.data.toList=b.data.toList):a=b:=ByteArray.ext (by rw[<-Array.toArray_toList (xs:=a.data),h,Array.toArray_toList])
theorem st_put {l s:List Int} (hr:csum l<=4096) (hok:∀ x∈l,0<=x/\x<=12) (hs:∀ x∈s,okS l x) {t:ByteArray} {z:List UInt8} (ht:t.data.toList=putL l s++z):∀ k,k<=s.length->st l t k=.inr (s.take k,(putL l (s.take k)).length)
 |0,_=>rfl
 |k+1,hk=>by
  have ih:=st_put hr hok hs ht k (by omega)
  have hx:=hs s[k] (List.getElem_mem (by omega))
  obtain⟨h0,h1,h2⟩:=hx
  have hi:((s[k].toNat:Nat):Int)=s[k]:=by omega
  have hcs:=codeOf_size l s[k].toNat
  have hcl:(codeOf l s[k].toNat).data.toList.length=wd l s[k].toNat:=by
   rw[Array.length_toList]
   exact hcs
  have hrl:(rst t (putL l (s.take k)).length).data.toList=(codeOf l s[k].toNat).data.toList++(putL l (s.drop (k+1))++z):=by
   rw[rst_list,ht,putL_split l s k,List.append_assoc,List.drop_left,List.drop_eq_getElem_cons (by omega)]
   unfold putL
   rw[List.flatMap_cons,List.append_assoc]
  have hm:mt l (rst t (putL l (s.take k)).length) s[k].toNat:=by
   refine⟨by omega,h2,?_,?_⟩
   ·have:(rst t (putL l (s.take k)).length).size=(rst t (putL l (s.take k)).length).data.toList.length:=by simp
    rw[this,hrl,List.length_append,hcl]
    omega
   ·refine ext_list ?_
    rw[extract0,hrl,<-hcl,List.take_left]
  rw[st_more ih (sym_of hr hok hm),hi,take_more (by omega),putL_snoc,List.length_append,hcl]
theorem get_put {l s:List Int} (hw:whole l=true) (hs:∀ x∈s,okS l x) (h4:s.length<=400) {t:ByteArray} {z:List UInt8} (ht:t.data.toList=putL l s++z) (h8:t.size<=8000) (hg:good t=true):getR l t (s.length:Int)=(s,((putL l s).length:Int),0):=by
 have h1:=(right_yes (whole_right hw)).2
 have h2:=whole_len hw
 rw[getR_in (by omega) hw hg h4,st_put h1 (whole_ok hw) hs ht s.length (Nat.le_refl _),List.take_length]
 rfl
theorem code_good (l:List Int) (i:Nat):∀ y∈(codeOf l i).data.toList,y.toNat=48∨y.toNat=49:=by
 intro y hy
 unfold codeOf at hy
 split at hy
 ·unfold bitsV strF at hy
  simp only at hy
  obtain⟨j,_,rfl⟩:=List.mem_map.1 hy
  rw[UInt8.toNat_ofNat',Nat.mod_eq_of_lt (bitB_lt _ _)]
  exact bitB_01 _ _
 ·cases hy
theorem put_good (l s:List Int):good ⟨(putL l s).toArray⟩=true:=by
 refine good_of fun j hj=>?_
 have hj':j<(putL l s).length:=by
  have:(⟨(putL l s).toArray⟩:ByteArray).size=(putL l s).toArray.size:=rfl
  rw[this,List.size_toArray]at hj
  exact hj
 have hm:(putL l s)[j]∈putL l s:=List.getElem_mem hj'
 obtain⟨x,_,hx⟩:=List.mem_flatMap.1 hm
 have:=code_good l x.toNat _ hx
 unfold bt
 simp only
 rw[List.getD_eq_getElem?_getD,List.getElem?_eq_getElem hj']
 exact this
end Go.Proofs.YtkgjfdanjmnmbaaGreatDoor.Bi

