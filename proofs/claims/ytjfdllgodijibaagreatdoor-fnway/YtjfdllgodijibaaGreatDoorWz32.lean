/- Texts put together: DrawCn, FrontBS, DrawCm, CodesPlain, PutPlain, WholeSpec, StrEq, Mark, Held. -/
import Derived.Test.YtjfdllgodijibaaGreatDoorWz29
import Derived.Test.YtjfdllgodijibaaGreatDoorWz31
import Derived.Test.YtjfdllgodijibaaGreatDoorWz25
import Derived.Test.YtjfdllgodijibaaGreatDoorWz28
import Derived.Test.YtjfdllgodijibaaGreatDoorWz27
import Derived.Test.YtjfdllgodijibaaGreatDoorWz10
import Derived.BigRegion
import Derived.BigQuiet
import Derived.Deep.QuietTactic
import Derived.Test.YtjfdllgodijibaaGreatDoorWz16
import Derived.Deep.RegionWith
set_option maxRecDepth 100000
set_option maxHeartbeats 8000000
/- What is drawn for lengths: some counts; weak on purpose: at most 20 numbers. -/
namespace Go.Proofs.YtjfdllgodijibaaGreatDoor.Dr
open Go.RowKit
open In (OwnI one_newI one_cellI)
open In.Tryz (infoI2)
structure Dn (w:World) (B:Nat) (a:Option Addr) (len cap:Nat) (W:World) (v:Value) (l:List Int) (n:Nat):Prop where
 own:OwnI W w.heap.size v l
 le:l.length<=n
 src:Src W B a len cap
 aft:Aft B w W
 hB:B<w.heap.size
theorem Aft.low {B:Nat} {w a b:World} (h:Aft B w a) (k:Below w.heap.size a b):Aft B w b :=
 ⟨k.os.trans h.os,k.tape.trans h.tape,k.output.trans h.output,Nat.le_trans h.size k.size,fun i hi hn=>(k.block i hi).trans (h.block i hi hn)⟩
theorem Dn.only {w:World} {B:Nat} {a:Option Addr} {len cap:Nat} {W W':World} {v:Value} {l:List Int} {n:Nat} (h:Dn w B a len cap W v l n) (hs:Src W' B a len cap) (ho:Only B W W'):Dn w B a len cap W' v l n :=
 ⟨owns_only h.own ho h.hB,h.le,hs,h.aft.trans ho.aft,h.hB⟩
theorem Dn.alloc {w:World} {B:Nat} {a:Option Addr} {len cap:Nat} {W:World} {v:Value} {l:List Int} {n:Nat} (h:Dn w B a len cap W v l n) (o:Obj):Dn w B a len cap (W.alloc o) v l n :=
 ⟨Ze.OwnI.alloc h.own o,h.le,h.src.below ((Below.refl _ _).alloc (Nat.le_refl _) o),h.aft.trans (aft_below ((Below.refl _ _).alloc (Nat.le_refl _) o)),h.hB⟩
theorem Dn.below {w:World} {B:Nat} {a:Option Addr} {len cap:Nat} {W W':World} {v:Value} {l:List Int} {n:Nat} (h:Dn w B a len cap W v l n) (hb:Below W.heap.size W W'):Dn w B a len cap W' v l n :=
 ⟨h.own.below hb,h.le,h.src.below hb,h.aft.trans (aft_below hb),h.hB⟩
theorem Dn.new {w:World} {B:Nat} {a:Option Addr} {len cap:Nat} {W:World} (n:Nat) (hs:Src W B a len cap) (ha:Aft B w W) (hB:B<w.heap.size):Dn w B a len cap (W.alloc (.cells #[] 2)) (.slice (some ⟨W.heap.size,0,none⟩) 0 0) [] n :=
 ⟨(Hf.own_none W).mono ha.size,Nat.zero_le _,hs.below ((Below.refl _ _).alloc (Nat.le_refl _) _),ha.trans (aft_below ((Below.refl _ _).alloc (Nat.le_refl _) _)),hB⟩
theorem Dn.mono {w:World} {B:Nat} {a:Option Addr} {len cap:Nat} {W:World} {v:Value} {l:List Int} {n m:Nat} (h:Dn w B a len cap W v l n) (hm:n<=m):Dn w B a len cap W v l m:=⟨h.own,Nat.le_trans h.le hm,h.src,h.aft,h.hB⟩
theorem Dn.slice {w:World} {B:Nat} {a:Option Addr} {len cap:Nat} {W:World} {v:Value} {l:List Int} {n:Nat} (h:Dn w B a len cap W v l n):∃ x c,v=.slice x l.length c:=by
 obtain⟨x,c,hv,_,_⟩:=h.own.ints
 exact⟨x,c,hv⟩
end Go.Proofs.YtjfdllgodijibaaGreatDoor.Dr


/- What the specification's FrontBack answers. -/
namespace Go.Proofs.YtjfdllgodijibaaGreatDoor.Fr
open Go.RowKit
open Sh (IsB rowF upd made_row upd_same upd_other strF)
open Ze (hideZ numsR upTo upTo_yes numsR_of numsR_long numsR_yes nums_spec)
open St (Aft)
open In (Ints)
open Nu (ret_strJ bv own_string app_below)
open Ap (Own0 wpList_append_own0)
def Own0B (w:World) (base:Nat) (v:Value) (l:List UInt8):Prop:=Own0 w base 5 1 v l.length (l.map bv)
theorem own0_string {P:Program} {w:World} {base src dst:TypeId} {v:Value} (l:List UInt8) (h:Own0B w base v l)
  (hs:P.underlying src=some (.slice 5)) (he:P.underlying 5=some (.int .u8)) (hd:P.underlying dst=some .string) :
  (convert src dst v).run P w=.ok (.string ⟨l.toArray⟩) w:=by
 rcases h with⟨b,rfl,h0,_⟩|h
 ·obtain rfl:l=[]:=List.eq_nil_of_length_eq_zero h0
  exact run_convert_bytes_back w src dst 5 b 0 [] hs he hd (by intro j hj;exact absurd hj (Nat.not_lt_zero j))
 ·exact own_string l h hs he hd
theorem one_newB (W:World) (s:Int) (t:TypeId):∀ (j:Nat) (u:Value),[(Value.int .u8) s][j]? = some u->(W.alloc (.cells #[.int .u8 s] t)).cell? ((⟨W.heap.size,0,none⟩:Addr).add j)=some u:=by
 intro j u hj
 match j,hj with
 |0,hj=>simp at hj;subst hj;simp[Addr.add]
theorem one_cellB (s:Int):∀ u∈[(Value.int .u8) s],u.oneCell'=true:=by
 intro u hu
 simp at hu
 subst hu
 rfl
theorem own0B_snoc {w:World} {base:Nat} {v:Value} {l:List UInt8} {x:Int} (h0:0<=x) (h1:x<256) (h:w.ownsRow base 5 1 v (l.length+1) (l.map bv++[.int .u8 x])):Own0B w base v (l++[UInt8.ofNat x.toNat]):=by
 refine .inr ?_
 have e:bv (UInt8.ofNat x.toNat)=.int .u8 x:=by
  simp[bv]
  omega
 rw[List.length_append,List.map_append,List.map_singleton,e]
 exact h
end Go.Proofs.YtjfdllgodijibaaGreatDoor.Fr


/- What is drawn for codes: lengths, symbols, bits; weak on purpose. -/
namespace Go.Proofs.YtjfdllgodijibaaGreatDoor.Dr
open Go.RowKit
open In (OwnI IsO Ints one_newI one_cellI)
open In.Tryz (infoI2)
open Hf (lensR)
def RowI (w:World) (B:Nat) (x:Option Addr) (l:List Int):Prop:=l=[]∨∃ b off,x=some ⟨b,off,none⟩/\b<w.heap.size/\b≠B/\∀ j (h:j<l.length),w.cell? ⟨b,off+j,none⟩=some (.int .i64 l[j])
theorem RowI.aft {w w':World} {B:Nat} {x:Option Addr} {l:List Int} (h:RowI w B x l) (ha:Aft B w w'):RowI w' B x l:=by
 rcases h with h|⟨b,off,hx,hb,hne,hc⟩
 ·exact .inl h
 ·exact .inr ⟨b,off,hx,Nat.lt_of_lt_of_le hb ha.size,hne,fun j hj=>(World.cell?_of_block (w:=w) (a:=⟨b,off+j,none⟩) (ha.block b hb hne)).trans (hc j hj)⟩
end Go.Proofs.YtjfdllgodijibaaGreatDoor.Dr


/- Plain mathematics of codes: the codes of lengths, one width behind the other, and that each fits its width. -/
namespace Go.Proofs.YtjfdllgodijibaaGreatDoor.Bi
open Go.RowKit
def cnt (l:List Int) (v:Int):Nat:=l.countP fun x=>decide (x=v)
theorem cnt_snoc (l:List Int) (v x:Int):cnt (l++[x]) v=cnt l v+if x=v then 1 else 0:=by simp[cnt,List.countP_append,List.countP_cons]
theorem cnt_more {l:List Int} {k:Nat} (h:k<l.length) (v:Int):cnt (l.take (k+1)) v=cnt (l.take k) v+if l[k]=v then 1 else 0:=by
 rw[take_more h,cnt_snoc]
theorem cnt_take (l:List Int) (v:Int) (k:Nat):cnt (l.take k) v<=cnt l v:=by
 unfold cnt
 exact List.Sublist.countP_le (List.take_sublist k l)
theorem cnt_here {l:List Int} {k:Nat} {v:Int} (h:k<l.length) (e:l[k]=v):cnt (l.take k) v+1<=cnt l v:=by
 have h1:=cnt_more h v
 rw[if_pos e]at h1
 have h2:=cnt_take l v (k+1)
 omega
def lowP (v:Nat) (x:Int):Nat:=if 0<x/\x<=v then 2 ^ (12-x.toNat) else 0
def low (l:List Int) (v:Nat):Nat:=(l.map (lowP v)).sum
theorem lowP_succ (v:Nat) (x:Int):lowP (v+1) x=lowP v x+(if x=((v+1:Nat):Int) then 1 else 0)*2 ^ (12-(v+1)):=by
 unfold lowP
 by_cases h:x=((v+1:Nat):Int)
 ·rw[if_pos h,if_pos (by omega),if_neg (by omega)]
  subst h
  simp
 ·rw[if_neg h]
  by_cases h2:0<x/\x<=v
  ·rw[if_pos h2,if_pos (by omega)]
   omega
  ·rw[if_neg h2,if_neg (by omega)]
   omega
theorem low_succ (l:List Int) (v:Nat):low l (v+1)=low l v+cnt l ((v+1:Nat):Int)*2 ^ (12-(v+1)):=by
 induction l with
 |nil=>simp[low,cnt]
 |cons x l ih =>
  simp only[low,List.map_cons,List.sum_cons,cnt,List.countP_cons]at ih ⊢
  rw[ih,lowP_succ,Nat.add_mul]
  by_cases h:x=((v+1:Nat):Int)
  ·simp only[h,if_true,decide_true]
   omega
  ·simp only[h,if_false,decide_false,Bool.false_eq_true]
   omega
theorem low_zero (l:List Int):low l 0=0:=by
 induction l with
 |nil=>rfl
 |cons x l ih =>
  simp only[low,List.map_cons,List.sum_cons]at ih ⊢
  rw[ih,lowP,if_neg (by omega)]
theorem low_le (l:List Int) (v:Nat):low l v<=csum l:=by
 induction l with
 |nil=>simp[low]
 |cons x l ih =>
  simp only[low,csum,List.map_cons,List.sum_cons]at ih ⊢
  have:lowP v x<=part x:=by
   unfold lowP part
   generalize 2 ^ (12-x.toNat)=p
   split<;>split<;>omega
  omega
def innN (l:List Int) (v n0 k:Nat):Nat:=n0+cnt (l.take k) v
def outN (l:List Int):Nat->Nat
 |0=>0
 |v+1=>2*outN l v+cnt l ((v+1:Nat):Int)
theorem outN_low (l:List Int):∀ v,v<=12->outN l v*2 ^ (12-v)=low l v:=by
 intro v
 induction v with
 |zero=>intro _;simp[outN,low_zero]
 |succ v ih =>
  intro hv
  rw[low_succ,<-ih (by omega)]
  simp only[outN]
  rw[Nat.add_mul,show 12-v=12-(v+1)+1 by omega,Nat.pow_succ,Nat.mul_comm 2 (outN l v),Nat.mul_assoc,Nat.mul_comm 2]
theorem inn_fits {l:List Int} (hr:csum l<=4096) {v k:Nat} (hv:v<12) (hk:k<l.length) (e:l[k]=((v+1:Nat):Int)):innN l (v+1) (2*outN l v) k<2 ^ (v+1):=by
 have h1:=cnt_here hk e
 have h2:=outN_low l (v+1) (by omega)
 have h3:=low_le l (v+1)
 have h4:(2:Nat) ^ (v+1)*2 ^ (12-(v+1))=4096:=by
  rw[<-Nat.pow_add,show v+1+(12-(v+1))=12 by omega]
 have h5:outN l (v+1)*2 ^ (12-(v+1))<=2 ^ (v+1)*2 ^ (12-(v+1)):=by rw[h2,h4];omega
 have h6:outN l (v+1)<=2 ^ (v+1):=Nat.le_of_mul_le_mul_right h5 (Nat.pow_pos (by decide))
 simp only[outN]at h6
 unfold innN
 omega
theorem out_fits {l:List Int} (hr:csum l<=4096) {v:Nat} (hv:v<=12):outN l v<=2 ^ v:=by
 have h2:=outN_low l v hv
 have h3:=low_le l v
 have h4:(2:Nat) ^ v*2 ^ (12-v)=4096:=by
  rw[<-Nat.pow_add,show v+(12-v)=12 by omega]
 have h5:outN l v*2 ^ (12-v)<=2 ^ v*2 ^ (12-v):=by rw[h2,h4];omega
 exact Nat.le_of_mul_le_mul_right h5 (Nat.pow_pos (by decide))
theorem out_small {l:List Int} (hr:csum l<=4096) {v:Nat} (hv:v<=12):outN l v<=4096:=by
 have h1:=out_fits hr hv
 have h2:=Nat.pow_le_pow_right (n:=2) (by decide) hv
 omega
theorem innN_zero (l:List Int) (v n0:Nat):innN l v n0 0=n0:=by simp[innN,cnt]
theorem innN_yes {l:List Int} {v n0 k:Nat} (h:k<l.length) (e:l[k]=(v:Int)):innN l v n0 (k+1)=innN l v n0 k+1:=by
 unfold innN
 rw[cnt_more h,if_pos e]
 omega
theorem innN_no {l:List Int} {v n0 k:Nat} (h:k<l.length) (e:¬l[k]=(v:Int)):innN l v n0 (k+1)=innN l v n0 k:=by
 unfold innN
 rw[cnt_more h,if_neg e]
 omega
theorem innN_all (l:List Int) (v:Nat):innN l (v+1) (2*outN l v) l.length=outN l (v+1):=by
 unfold innN
 rw[List.take_length]
 rfl
theorem innN_le (l:List Int) (v n0 k:Nat):innN l v n0 k<=n0+l.length:=by
 unfold innN cnt
 have:=List.countP_le_length (p:=fun x=>decide (x=(v:Int))) (l:=l.take k)
 rw[List.length_take]at this
 omega
def innO (l:List Int) (v n0:Nat) (o:List ByteArray):Nat->List ByteArray
 |0=>o
 |k+1=>if l[k]? = some (v:Int) then (innO l v n0 o k).set k (bitsV (innN l v n0 k) v) else innO l v n0 o k
def outO (l:List Int):Nat->List ByteArray
 |0=>List.replicate l.length ⟨#[]⟩
 |v+1=>innO l (v+1) (2*outN l v) (outO l v) l.length
def codesV (l:List Int):List ByteArray:=outO l 12
def codesR (l:List Int):List ByteArray:=if right l=true then codesV l else []
theorem innO_length (l:List Int) (v n0:Nat) (o:List ByteArray):∀ k,(innO l v n0 o k).length=o.length:=by
 intro k
 induction k with
 |zero=>rfl
 |succ k ih =>
  simp only[innO]
  split
  ·rw[List.length_set,ih]
  ·exact ih
theorem outO_length (l:List Int):∀ v,(outO l v).length=l.length:=by
 intro v
 induction v with
 |zero=>simp[outO]
 |succ v ih=>simp only[outO];rw[innO_length,ih]
theorem codesV_length (l:List Int):(codesV l).length=l.length:=outO_length l 12
theorem innO_yes {l:List Int} {v n0 k:Nat} {o:List ByteArray} (h:k<l.length) (e:l[k]=(v:Int)):innO l v n0 o (k+1)=(innO l v n0 o k).set k (bitsV (innN l v n0 k) v):=by
 simp only[innO]
 rw[if_pos (by rw[List.getElem?_eq_getElem h,e])]
theorem innO_no {l:List Int} {v n0 k:Nat} {o:List ByteArray} (h:k<l.length) (e:¬l[k]=(v:Int)):innO l v n0 o (k+1)=innO l v n0 o k:=by
 simp only[innO]
 rw[if_neg (by rw[List.getElem?_eq_getElem h];simp;exact e)]
end Go.Proofs.YtjfdllgodijibaaGreatDoor.Bi


/- Plain mathematics of codes put one behind the other. -/
namespace Go.Proofs.YtjfdllgodijibaaGreatDoor.Bi
open Go.RowKit
open Sh (bt strF)
theorem innO_get (l:List Int) (v n0:Nat) (o:List ByteArray) (i:Nat) (hi:i<l.length) (ho:o.length=l.length):∀ k,k<=l.length ->
  (innO l v n0 o k)[i]? = if i<k/\l[i]=(v:Int) then some (bitsV (innN l v n0 i) v) else o[i]?:=by
 intro k
 induction k with
 |zero=>intro _;simp[innO]
 |succ k ih =>
  intro hk
  by_cases e:l[k]=(v:Int)
  ·rw[innO_yes (by omega) e,List.getElem?_set]
   by_cases hik:k=i
   ·subst hik
    rw[if_pos rfl,if_pos (by rw[innO_length,ho];exact hi),if_pos ⟨by omega,e⟩]
   ·rw[if_neg hik,ih (by omega)]
    have:(i<k+1/\l[i]=(v:Int))=(i<k/\l[i]=(v:Int)):=propext ⟨fun h=>⟨by omega,h.2⟩,fun h=>⟨by omega,h.2⟩⟩
    simp only[this]
  ·rw[innO_no (by omega) e,ih (by omega)]
   by_cases hik:k=i
   ·subst hik
    rw[if_neg (fun h=>e h.2),if_neg (fun h=>e h.2)]
   ·have:(i<k+1/\l[i]=(v:Int))=(i<k/\l[i]=(v:Int)):=propext ⟨fun h=>⟨by omega,h.2⟩,fun h=>⟨by omega,h.2⟩⟩
    simp only[this]
def cnum (l:List Int) (i:Nat):Nat:=innN l (l.getD i 0).toNat (2*outN l ((l.getD i 0).toNat-1)) i
def codeOf (l:List Int) (i:Nat):ByteArray:=if 0<l.getD i 0 then bitsV (cnum l i) (l.getD i 0).toNat else ⟨#[]⟩
theorem outO_get (l:List Int) (i:Nat) (hi:i<l.length):∀ v,v<=12->(outO l v)[i]? = some (if 0<l[i]/\l[i]<=(v:Int) then codeOf l i else ⟨#[]⟩):=by
 have hg:l.getD i 0=l[i]:=by rw[List.getD_eq_getElem?_getD,List.getElem?_eq_getElem hi];rfl
 intro v
 induction v with
 |zero =>
  intro _
  rw[if_neg (by omega)]
  simp[outO,hi]
 |succ v ih =>
  intro hv
  simp only[outO]
  rw[innO_get l (v+1) _ _ i hi (outO_length l v) l.length (Nat.le_refl _),ih (by omega)]
  by_cases e:l[i]=((v+1:Nat):Int)
  ·rw[if_pos ⟨hi,e⟩,if_pos (by omega)]
   unfold codeOf cnum
   rw[hg,if_pos (by omega),e]
   simp
  ·rw[if_neg (fun h=>e h.2)]
   have:(0<l[i]/\l[i]<=((v+1:Nat):Int))=(0<l[i]/\l[i]<=(v:Int)):=propext ⟨fun h=>⟨h.1,by omega⟩,fun h=>⟨h.1,by omega⟩⟩
   simp only[this]
theorem codes_get (l:List Int) (h:∀ x∈l,0<=x/\x<=12) (i:Nat) (hi:i<(codesV l).length):(codesV l)[i]=codeOf l i:=by
 have hi':i<l.length:=by rw[codesV_length]at hi;exact hi
 have h1:=outO_get l i hi' 12 (Nat.le_refl _)
 have h2:=h _ (List.getElem_mem hi')
 have hg:l.getD i 0=l[i]:=by rw[List.getD_eq_getElem?_getD,List.getElem?_eq_getElem hi'];rfl
 have h3:(codesV l)[i]? = some (codesV l)[i]:=List.getElem?_eq_getElem hi
 have h4:(codesV l)[i]? = (outO l 12)[i]?:=rfl
 rw[h3,h1]at h4
 have h5:=Option.some.inj h4
 rw[h5]
 by_cases hp:0<l[i]
 ·rw[if_pos ⟨hp,by omega⟩]
 ·rw[if_neg (fun x=>hp x.1)]
  unfold codeOf
  rw[hg,if_neg hp]
theorem codeOf_size (l:List Int) (i:Nat):(codeOf l i).size=(l.getD i 0).toNat:=by
 unfold codeOf
 split
 ·exact bitsV_size _ _
 ·have:(l.getD i 0).toNat=0:=by omega
  rw[this]
  rfl
theorem codeOf_le (l:List Int) (h:∀ x∈l,0<=x/\x<=12) (i:Nat):(codeOf l i).size<=12:=by
 rw[codeOf_size]
 by_cases hi:i<l.length
 ·have hg:l.getD i 0=l[i]:=by rw[List.getD_eq_getElem?_getD,List.getElem?_eq_getElem hi];rfl
  have:=h _ (List.getElem_mem hi)
  rw[hg]
  omega
 ·rw[List.getD_eq_getElem?_getD,List.getElem?_eq_none (by omega)]
  decide
def okS (l:List Int) (x:Int):Prop:=0<=x/\x<l.length/\0<l.getD x.toNat 0
instance (l:List Int) (x:Int):Decidable (okS l x):=inferInstanceAs (Decidable (_/\_/\_))
def putL (l:List Int) (s:List Int):List UInt8:=s.flatMap fun x=>(codeOf l x.toNat).data.toList
def putR (l s:List Int):ByteArray:=if 400<s.length∨whole l=false∨¬(∀ x∈s,okS l x) then ⟨#[]⟩ else ⟨(putL l s).toArray⟩
theorem putR_no {l s:List Int} (h:400<s.length∨whole l=false):putR l s=⟨#[]⟩:=if_pos (by rcases h with h|h;exact Or.inl h;exact Or.inr (Or.inl h))
theorem putR_bad {l s:List Int} {j:Nat} (hj:j<s.length) (h:¬okS l s[j]):putR l s=⟨#[]⟩:=if_pos (Or.inr (Or.inr fun g=>h (g _ (List.getElem_mem hj))))
theorem putR_yes {l s:List Int} (h1:¬400<s.length) (h2:whole l=true) (h3:∀ x∈s,okS l x):putR l s=⟨(putL l s).toArray⟩:=if_neg (by
 rintro (h|h|h)
 ·exact h1 h
 ·rw[h2]at h;cases h
 ·exact h h3)
theorem putL_snoc (l s:List Int) (x:Int):putL l (s++[x])=putL l s++(codeOf l x.toNat).data.toList:=by simp[putL]
theorem putL_more {l s:List Int} {k:Nat} (h:k<s.length):putL l (s.take (k+1))=putL l (s.take k)++(codeOf l s[k].toNat).data.toList:=by
 rw[take_more h,putL_snoc]
theorem putL_le (l:List Int) (h:∀ x∈l,0<=x/\x<=12) (s:List Int):(putL l s).length<=12*s.length:=by
 induction s with
 |nil=>simp[putL]
 |cons x s ih =>
  have h1:=codeOf_le l h x.toNat
  have h2:(codeOf l x.toNat).data.toList.length=(codeOf l x.toNat).size:=by simp
  simp only[putL,List.flatMap_cons,List.length_append,List.length_cons]at ih ⊢
  omega
theorem whole_right {l:List Int} (h:whole l=true):right l=true:=by
 unfold whole at h
 rw[Bool.and_eq_true]at h
 exact h.1
theorem whole_ok {l:List Int} (h:whole l=true):∀ x∈l,0<=x/\x<=12:=(within_yes (right_yes (whole_right h)).1).2
theorem whole_len {l:List Int} (h:whole l=true):l.length<=257:=(within_yes (right_yes (whole_right h)).1).1
end Go.Proofs.YtjfdllgodijibaaGreatDoor.Bi


namespace Go.Proofs.YtjfdllgodijibaaGreatDoor.Bi
open Go.RowKit
open In (Ints)
def sumR (l:List Int):Int × Int:=if right l=true then ((csum l:Nat),(above l:Nat)) else (-1,0)
theorem sumR_yes {l:List Int} (h:right l=true):sumR l=(((csum l:Nat):Int),((above l:Nat):Int)):=if_pos h
theorem sumR_no {l:List Int} (h:right l=false):sumR l=(-1,0):=if_neg (by rw[h];decide)
theorem good12 {l:List Int} {k:Nat} (hk:l.length<=k) (h:∀ j (hj:j<l.length),j<k->0<=l[j]/\l[j]<=12):∀ x∈l,0<=x/\x<=12:=by
 intro x hx
 obtain⟨j,hj,rfl⟩:=List.getElem_of_mem hx
 exact h j hj (by omega)
theorem good_more {l:List Int} {k:Nat} (hk:k<l.length) (h:∀ j (hj:j<l.length),j<k->0<=l[j]/\l[j]<=12) (h2:0<=l[k]/\l[k]<=12):∀ j (hj:j<l.length),j<k+1->0<=l[j]/\l[j]<=12:=by
 intro j hj hjk
 by_cases e:j=k
 ·subst e;exact h2
 ·exact h j hj (by omega)
theorem whole_yes1 {l:List Int} (h:right l=true) (h1:csum l=4096):whole l=true:=by unfold whole;rw[h,decide_eq_true h1];rfl
theorem whole_yes2 {l:List Int} (h:right l=true) (h1:above l=1) (h2:csum l=2048):whole l=true:=by unfold whole;rw[h,decide_eq_true h1,decide_eq_true h2];simp
theorem whole_no1 {l:List Int} (h1:¬csum l=4096) (h2:¬above l=1):whole l=false:=by unfold whole;rw[decide_eq_false h1,decide_eq_false h2];simp
theorem whole_no2 {l:List Int} (h1:¬csum l=4096) (h2:¬csum l=2048):whole l=false:=by unfold whole;rw[decide_eq_false h1,decide_eq_false h2];simp
end Go.Proofs.YtjfdllgodijibaaGreatDoor.Bi


/- The laws' own look whether two rows of texts are alike. -/
namespace Go.Proofs.YtjfdllgodijibaaGreatDoor.St
open Go.RowKit
end Go.Proofs.YtjfdllgodijibaaGreatDoor.St


/- The laws' marks: the text of a mark, marks written into a row of texts, marks found again. -/
namespace Go.Proofs.YtjfdllgodijibaaGreatDoor.St
open Go.RowKit
def dg (k:Nat) (o:ByteArray):ByteArray:=if _h:k=0 then o else dg (k/10) (⟨#[UInt8.ofNat (48+k%10)]⟩++o)
termination_by k
decreasing_by omega
def markT (k:Nat):ByteArray:=⟨#[109]⟩++dg k ⟨#[]⟩
theorem one_str (W:World) (y:Nat) (h:y<256):(convert 22 9 (.slice (some ⟨W.heap.size,0,none⟩) 1 1)).run Tryz.prog (W.alloc (.cells #[.int .u8 (y:Int)] 5))=.ok (.string ⟨#[UInt8.ofNat y]⟩) (W.alloc (.cells #[.int .u8 (y:Int)] 5)):=by
 refine run_convert_bytes_back (P:=Tryz.prog) (W.alloc (.cells #[.int .u8 (y:Int)] 5)) 22 9 5 ⟨W.heap.size,0,none⟩ 1 [UInt8.ofNat y] Tryz.underlying22 Tryz.underlying5 Tryz.underlying9 ?_
 intro j hj
 match j,hj with
 |0,_ =>
  simp[Addr.add]
  omega
def marks (k n:Nat):List ByteArray:=(List.range n).map fun j=>markT (k+j)
def mmid (l:List ByteArray) (k i:Nat):List ByteArray:=marks k i++l.drop i
end Go.Proofs.YtjfdllgodijibaaGreatDoor.St


/- The laws' marks found again; an empty row too. -/
namespace Go.Proofs.YtjfdllgodijibaaGreatDoor.St
open Go.RowKit
end Go.Proofs.YtjfdllgodijibaaGreatDoor.St

