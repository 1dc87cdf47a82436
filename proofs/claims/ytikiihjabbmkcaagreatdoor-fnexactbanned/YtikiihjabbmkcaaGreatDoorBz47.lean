/- Texts put together: StrEq, Mark, Held, StrIn, PbBan. -/
import Derived.Test.YtikiihjabbmkcaaGreatDoorBz13
import Derived.BigRegion
import Derived.BigQuiet
import Derived.Deep.QuietTactic
import Derived.Test.YtikiihjabbmkcaaGreatDoorBz14
import Derived.Deep.RegionWith
import Derived.Test.YtikiihjabbmkcaaGreatDoorBz15
import Derived.Test.YtikiihjabbmkcaaGreatDoorBz44
import Derived.Test.YtikiihjabbmkcaaGreatDoorBz42
set_option maxRecDepth 100000
set_option maxHeartbeats 8000000
namespace Go.Proofs.YtikiihjabbmkcaaGreatDoor.St
open Go.RowKit
/-- two rows of the same texts are alike -/
theorem eq_any (a b:Option Addr) (cap cap':Nat) (l:List ByteArray) (w:World) (B:Nat) (ha:Strs w B a l) (hb:Strs w B b l) (hn:l.length<=1048576) :
  Calls Tryz.prog 37 #[.slice a l.length cap,.slice b l.length cap'] w fun e w'=>e=.returned (.bool true)/\Below w.heap.size w w':=by
 have HA:=hideT ha
 have HB:=hideT hb
 clear ha hb
 obtain⟨n,hln⟩:∃ n,n=l.length:=⟨_,rfl⟩
 have HLN:=hideT hln
 rw[<-hln]at hn ⊢
 clear hln
 go_enter Tryz.func37,Tryz.ntmps37
 go_wp2_with fail
 go_loopw [5] (fun i wr=>∃ k:Nat,i=.int .i64 k/\k<=n/\(∀ p:Addr,wr.cell? p=w.cell? p)/\Below w.heap.size w wr) (fun i _=>n-(intOf i).toNat)
 case atStart=>exact⟨0,rfl,by omega,fun _=>rfl,Below.refl _ _⟩
 case round =>
  obtain⟨k,rfl,hk,hcell,hbel⟩:=hrel
  have HC:=hideT hcell
  have GB:=hideT hbel
  by_cases hlt:k<n
  ·have hkl:k<l.length:=by rw[<-HLN.out];exact hlt
   obtain⟨b1,off1,rfl,_,hc1⟩:=HA.out.some (by omega)
   obtain⟨b2,off2,rfl,_,hc2⟩:=HB.out.some (by omega)
   have c1:=(hcell _).trans (hc1 k hkl)
   have c2:=(hcell _).trans (hc2 k hkl)
   obtain⟨s,hs⟩:∃ s,s=l[k]:=⟨_,rfl⟩
   rw[<-hs]at c1 c2
   clear hc1 hc2 hcell hbel hs
   go_wp2_with fail
   go_region
   all_goals (try go_wp2_with fail)
   all_goals go_roundw
   case rel=>exact⟨k+1,by go_num,by omega,fun p=>HC.out p,GB.out.drew⟩
   case measure=>simp[intOf];omega
  ·clear hcell hbel
   go_wp2_with fail
   go_ret
   exact⟨rfl,GB.out⟩
end Go.Proofs.YtikiihjabbmkcaaGreatDoor.St


namespace Go.Proofs.YtikiihjabbmkcaaGreatDoor.St
open Go.RowKit
def dg (k:Nat) (o:ByteArray):ByteArray:=if _h:k=0 then o else dg (k/10) (⟨#[UInt8.ofNat (48+k%10)]⟩++o)
termination_by k
decreasing_by omega
theorem dg_zero (o:ByteArray):dg 0 o=o:=by rw[dg,dif_pos rfl]
theorem dg_more (k:Nat) (o:ByteArray) (h:k≠0):dg k o=dg (k/10) (⟨#[UInt8.ofNat (48+k%10)]⟩++o):=by rw[dg,dif_neg h]
def markT (k:Nat):ByteArray:=⟨#[109]⟩++dg k ⟨#[]⟩
theorem one_str (W:World) (y:Nat) (h:y<256):(convert 168 9 (.slice (some ⟨W.heap.size,0,none⟩) 1 1)).run Tryz.prog (W.alloc (.cells #[.int .u8 (y:Int)] 5))=.ok (.string ⟨#[UInt8.ofNat y]⟩) (W.alloc (.cells #[.int .u8 (y:Int)] 5)):=by
 refine run_convert_bytes_back (P:=Tryz.prog) (W.alloc (.cells #[.int .u8 (y:Int)] 5)) 168 9 5 ⟨W.heap.size,0,none⟩ 1 [UInt8.ofNat y] Tryz.underlying168 Tryz.underlying5 Tryz.underlying9 ?_
 intro j hj
 match j,hj with
 |0,_ =>
  simp[Addr.add]
  omega
theorem markT_any (k:Nat) (w:World) (h0:0<k) (hk:k<=1099511627776) :
  Calls Tryz.prog 79 #[.int .i64 k] w fun e w'=>e=.returned (.string (markT k))/\Below w.heap.size w w':=by
 go_enter Tryz.func79,Tryz.ntmps79
 go_wp2_with fail
 go_loopw [0,3] (fun kv ov wr=>∃ (j:Nat) (o:ByteArray),kv=.int .i64 j/\ov=.string o/\dg j o=dg k ⟨#[]⟩/\o.size+j<=k/\Below w.heap.size w wr) (fun kv _ _=>(intOf kv).toNat)
 case atStart=>exact⟨k,⟨#[]⟩,rfl,rfl,rfl,by simp[ByteArray.size],Below.refl _ _⟩
 case round =>
  obtain⟨j,o,rfl,rfl,hd,hsz,hbel⟩:=hrel
  have HD:=hideT hd
  have HB:=hideT hbel
  have hsz':=hbel.size
  clear hd hbel
  by_cases hj:j=0
  ·subst hj
   have HE:Hid ((⟨#[109]⟩:ByteArray)++o=markT k):=by
    unfold Hid markT
    rw[<-HD.out,dg_zero]
   go_wp2_with fail
   go_ret
   exact⟨Nu.ret_strJ HE.out,HB.out⟩
  ·have g0:0<(j:Int):=by omega
   have hy:48+j%10<256:=by omega
   have e1:IntKind.u8.wrap (48+(j:Int)%10)=((48+j%10:Nat):Int):=by
    simp[IntKind.wrap,IntKind.bits,IntKind.signed]
    omega
   have hconv:=one_str wr (48+j%10) hy
   rw[show ((48+j%10:Nat):Int)=48+(j:Int)%10 by omega]at hconv
   have hm:=dg_more j o hj
   generalize UInt8.ofNat (48+j%10)=y at hconv hm
   have HM:=hideT hm
   have hs1:(⟨#[y]⟩:ByteArray).size=1:=rfl
   clear hm
   go_wp2_with fail
   go_roundw
   case rel =>
    refine⟨j/10,_,by go_num,rfl,by rw[<-HM.out];exact HD.out,?_,HB.out.alloc hsz' _⟩
    rw[ByteArray.size_append,hs1]
    omega
   case measure=>simp[intOf];omega
def marks (k n:Nat):List ByteArray:=(List.range n).map fun j=>markT (k+j)
theorem marks_length (k n:Nat):(marks k n).length=n:=by simp[marks]
theorem marks_get (k n j:Nat) (h:j<(marks k n).length):(marks k n)[j]=markT (k+j):=by simp[marks]
def mmid (l:List ByteArray) (k i:Nat):List ByteArray:=marks k i++l.drop i
theorem mmid_length (l:List ByteArray) (k i:Nat) (h:i<=l.length):(mmid l k i).length=l.length:=by simp[mmid,marks_length];omega
theorem mmid_zero (l:List ByteArray) (k:Nat):mmid l k 0=l:=by simp[mmid,marks]
theorem mmid_all (l:List ByteArray) (k:Nat):mmid l k l.length=marks k l.length:=by simp[mmid]
theorem mmid_next (l:List ByteArray) (k i:Nat) (h:i<l.length):(mmid l k i).set i (markT (k+i))=mmid l k (i+1):=by
 unfold mmid
 rw[List.set_append,if_neg (by rw[marks_length];omega),marks_length,Nat.sub_self]
 have:marks k (i+1)=marks k i++[markT (k+i)]:=by simp[marks,List.range_succ]
 rw[this,List.append_assoc]
 congr 1
 rw[List.drop_eq_getElem_cons h]
 rfl
theorem mark_any (g t c:Nat) (l:List ByteArray) (w:World) (h:IsO w g t l) (hn:l.length<=1048576) :
  Calls Tryz.prog 38 #[.slice (some ⟨g,0,none⟩) l.length c,.int .i64 1] w fun e w'=>e=.returned (.int .i64 (1+l.length))/\IsO w' g t (marks 1 l.length)/\Aft g w w':=by
 have HS:=hideT h
 have hgl:=h.lt
 clear h
 obtain⟨n,hln⟩:∃ n,n=l.length:=⟨_,rfl⟩
 have HLN:=hideT hln
 rw[<-hln]at hn ⊢
 clear hln
 go_enter Tryz.func38,Tryz.ntmps38
 go_wp2_with fail
 go_loopw [5,1] (fun i kv wr=>∃ k:Nat,i=.int .i64 k/\kv=.int .i64 (1+k)/\k<=n/\IsO wr g t (mmid l 1 k)/\Aft g w wr) (fun i _ _=>n-(intOf i).toNat)
 case atStart=>exact⟨0,rfl,rfl,by omega,by rw[mmid_zero];exact HS.out,Aft.refl _ _⟩
 case round =>
  obtain⟨k,rfl,rfl,hk,h1,ha⟩:=hrel
  have G1:=hideT h1
  have GA:=hideT ha
  by_cases hlt:k<n
  ·have hkl:k<l.length:=by rw[<-HLN.out];exact hlt
   have HM:=hideT (mmid_next l 1 k hkl)
   have HL:=hideT (mmid_length l 1 k (by omega))
   have HT:=hideT (markT_any (1+k) wr (by omega) (by omega))
   clear h1 ha
   go_wp2_with fail
   refine HT.out.mono ?_
   rintro e w1 ⟨rfl,hb1⟩
   have I1:=hideT (G1.out.below hb1 G1.out.lt)
   have A1:=hideT (GA.out.more hb1)
   have cf:=I1.out.frozen k
   obtain⟨v0,ce⟩:∃ v,w1.cell? ⟨g,k,none⟩=some (.string v):=⟨_,I1.out.cell (j:=k) (by rw[HL.out];exact hkl)⟩
   clear hb1
   go_wp2_with fail
   go_roundw
   case rel=>exact⟨k+1,by go_num,by go_num,by omega,by rw[<-HM.out];exact I1.out.set k _,A1.out.set k _⟩
   case measure=>simp[intOf];omega
  ·have HE:Hid (mmid l 1 k=marks 1 n):=by
    unfold Hid
    rw[show k=l.length by have:=HLN.out;omega,HLN.out]
    exact mmid_all l 1
   obtain⟨k',hk'⟩:∃ k':Nat,k'=k:=⟨_,rfl⟩
   have HKN:Hid ((1:Int)+k=1+n):=by
    unfold Hid
    omega
   clear h1 ha
   go_wp2_with fail
   go_ret
   exact⟨by rw[<-HKN.out];rfl,by rw[<-HE.out];exact G1.out,GA.out⟩
end Go.Proofs.YtikiihjabbmkcaaGreatDoor.St


namespace Go.Proofs.YtikiihjabbmkcaaGreatDoor.St
open Go.RowKit
theorem mark_none (a:Option Addr) (c:Nat) (w:World) :
  Calls Tryz.prog 38 #[.slice a 0 c,.int .i64 1] w fun e w'=>e=.returned (.int .i64 1)/\w'=w:=by
 go_enter Tryz.func38,Tryz.ntmps38
 go_wp2_with fail
 go_loopw [5,1] (fun i kv wr=>i=.int .i64 0/\kv=.int .i64 1/\wr=w) (fun _ _ _=>0)
 case atStart=>exact⟨rfl,rfl,rfl⟩
 case round =>
  obtain⟨rfl,rfl,hw⟩:=hrel
  subst hw
  go_wp2_with fail
  go_ret
  exact⟨rfl,rfl⟩
theorem held_none (a:Option Addr) (c:Nat) (w:World) :
  Calls Tryz.prog 39 #[.slice a 0 c,.int .i64 1] w fun e w'=>e=.returned (.int .i64 1)/\w'=w:=by
 go_enter Tryz.func39,Tryz.ntmps39
 go_wp2_with fail
 go_loopw [5,1] (fun i kv wr=>i=.int .i64 0/\kv=.int .i64 1/\wr=w) (fun _ _ _=>0)
 case atStart=>exact⟨rfl,rfl,rfl⟩
 case round =>
  obtain⟨rfl,rfl,hw⟩:=hrel
  subst hw
  go_wp2_with fail
  go_ret
  exact⟨rfl,rfl⟩
theorem held_any (g t c n:Nat) (w:World) (h:IsO w g t (marks 1 n)) (hn:n<=1048576) :
  Calls Tryz.prog 39 #[.slice (some ⟨g,0,none⟩) n c,.int .i64 1] w fun e w'=>e=.returned (.int .i64 (1+n))/\Below w.heap.size w w':=by
 have HS:=hideT h
 have hgl:=h.lt
 clear h
 go_enter Tryz.func39,Tryz.ntmps39
 go_wp2_with fail
 go_loopw [5,1] (fun i kv wr=>∃ k:Nat,i=.int .i64 k/\kv=.int .i64 (1+k)/\k<=n/\Below w.heap.size w wr) (fun i _ _=>n-(intOf i).toNat)
 case atStart=>exact⟨0,rfl,rfl,by omega,Below.refl _ _⟩
 case round =>
  obtain⟨k,rfl,rfl,hk,hb⟩:=hrel
  have GB:=hideT hb
  by_cases hlt:k<n
  ·have hkl:k<(marks 1 n).length:=by rw[marks_length];exact hlt
   have ce:=(HS.out.below hb hgl).cell hkl
   rw[marks_get]at ce
   have HT:Hid (∀ W:World,Calls Tryz.prog 79 #[.int .i64 (1+(k:Int))] W fun e w'=>e=.returned (.string (markT (1+k)))/\Below W.heap.size W w'):=fun W=>by
    have:=markT_any (1+k) W (by omega) (by omega)
    rw[show ((1+k:Nat):Int)=1+(k:Int) by omega]at this
    exact this
   have HCB:Hid (∀ W:World,Below w.heap.size w W->W.cell? ⟨g,k,none⟩=some (.string (markT (1+k)))):=fun W hW=>by
    have:=(HS.out.below hW hgl).cell hkl
    rw[marks_get]at this
    exact this
   have hsz:=hb.size
   clear hb
   generalize markT (1+k)=mk at ce HT HCB
   go_wp2_with fail
   go_region_with (go_at_call 79;(with_reducible refine(HT.out _).mono ?_);rintro e w1 ⟨rfl,hb1⟩;have hb2:Below w.heap.size w w1:=Below.trans GB.out ⟨hb1.os,hb1.tape,hb1.output,hb1.size,fun j hj=>hb1.block j (Nat.lt_of_lt_of_le hj hsz)⟩;have ce2:=HCB.out w1 hb2;have HB2:=hideT hb2;clear hb1 hb2)
   all_goals (try go_wp2_with fail)
   all_goals
    go_roundw
    case rel=>exact⟨k+1,by go_num,by go_num,by omega,HB2.out⟩
    case measure=>simp[intOf];omega
  ·have HKN:Hid ((1:Int)+k=1+n):=by
    unfold Hid
    omega
   clear hb
   go_wp2_with fail
   go_ret
   exact⟨by rw[<-HKN.out];rfl,GB.out⟩
end Go.Proofs.YtikiihjabbmkcaaGreatDoor.St


/- Rows of texts between two marks of memory: what the laws' helpers do with them. -/
namespace Go.Proofs.YtikiihjabbmkcaaGreatDoor.St
open Go.RowKit
def OwnIn (w:World) (lo hi:Nat) (v:Value) (l:List ByteArray):Prop :=
 (v=.slice none 0 0/\l=[])∨∃ g cap,v=.slice (some ⟨g,0,none⟩) l.length cap/\lo<=g/\g<hi/\IsO w g 9 l
theorem OwnS.inn {w:World} {base:Nat} {v:Value} {l:List ByteArray} (h:OwnS w base v l):OwnIn w base w.heap.size v l:=by
 rcases h.split with h|⟨g,cap,hv,hg,_,ho⟩
 ·exact .inl h
 ·exact .inr ⟨g,cap,hv,hg,ho.lt,ho⟩
theorem IsS.inn {w:World} {g:Nat} {l:List ByteArray} (h:IsS w g 9 l) (cap:Nat):OwnIn w g (g+1) (.slice (some ⟨g,0,none⟩) l.length cap) l :=
 .inr ⟨g,cap,rfl,Nat.le_refl _,Nat.lt_succ_self _,h.own⟩
theorem OwnIn.below {w w':World} {lo hi B:Nat} {v:Value} {l:List ByteArray} (h:OwnIn w lo hi v l) (b:Below B w w') (hB:hi<=B):OwnIn w' lo hi v l:=by
 rcases h with h|⟨g,cap,hv,hg,hh,ho⟩
 ·exact .inl h
 ·exact .inr ⟨g,cap,hv,hg,hh,ho.below b (by omega)⟩
theorem OwnIn.aft {w w':World} {lo hi g:Nat} {v:Value} {l:List ByteArray} (h:OwnIn w lo hi v l) (ha:Aft g w w') (hg:g<lo∨hi<=g) (hh:hi<=w.heap.size):OwnIn w' lo hi v l:=by
 rcases h with h|⟨g',cap,hv,hg',hh',ho⟩
 ·exact .inl h
 ·exact .inr ⟨g',cap,hv,hg',hh',ho.of_heap (ha.2.2.2.2 g' (by omega) (by omega))⟩
theorem OwnIn.strs {w:World} {lo hi:Nat} {v:Value} {l:List ByteArray} (h:OwnIn w lo hi v l):∃ a cap,v=.slice a l.length cap/\Strs w hi a l:=by
 rcases h with⟨rfl,rfl⟩|⟨g,cap,rfl,_,hh,ho⟩
 ·exact⟨none,0,rfl,.inl rfl⟩
 ·exact⟨_,cap,rfl,ho.strs hh⟩
theorem eq_in {w:World} {lo hi lo' hi':Nat} {u v:Value} {l:List ByteArray} (hu:OwnIn w lo hi u l) (hv:OwnIn w lo' hi' v l) (hn:l.length<=1048576) :
  Calls Tryz.prog 37 #[u,v] w fun e w'=>e=.returned (.bool true)/\Below w.heap.size w w':=by
 obtain⟨a,cap,rfl,ha⟩:=hu.strs
 obtain⟨b,cap',rfl,hb⟩:=hv.strs
 exact eq_any a b cap cap' l w (max hi hi') (ha.mono (Nat.le_max_left _ _)) (hb.mono (Nat.le_max_right _ _)) hn
def Marked (w:World) (lo hi:Nat) (v:Value) (n:Nat):Prop:=OwnIn w lo hi v (marks 1 n)
theorem mark_in {w:World} {lo hi:Nat} {v:Value} {l:List ByteArray} (h:OwnIn w lo hi v l) (hn:l.length<=1048576) :
  Calls Tryz.prog 38 #[v,.int .i64 1] w fun e w'=>e=.returned (.int .i64 (1+l.length))/\OwnIn w' lo hi v (marks 1 l.length)/\∃ g,(g=lo∨(lo<=g/\g<hi))/\Aft g w w':=by
 rcases h with⟨rfl,rfl⟩|⟨g,cap,rfl,hg,hh,ho⟩
 ·refine(mark_none none 0 w).mono ?_
  rintro e w' ⟨rfl,rfl⟩
  exact⟨rfl,.inl ⟨rfl,rfl⟩,lo,.inl rfl,Aft.refl _ _⟩
 ·refine(mark_any g 9 cap l w ho hn).mono ?_
  rintro e w' ⟨rfl,hi',ha⟩
  exact⟨rfl,.inr ⟨g,cap,by rw[marks_length],hg,hh,hi'⟩,g,.inr ⟨hg,hh⟩,ha⟩
theorem held_in {w:World} {lo hi n:Nat} {v:Value} (h:OwnIn w lo hi v (marks 1 n)) (hn:n<=1048576) :
  Calls Tryz.prog 39 #[v,.int .i64 1] w fun e w'=>e=.returned (.int .i64 (1+n))/\Below w.heap.size w w':=by
 rcases h with⟨rfl,h0⟩|⟨g,cap,rfl,hg,hh,ho⟩
 ·have:n=0:=by rw[<-marks_length 1 n,h0];rfl
  subst this
  refine(held_none none 0 w).mono ?_
  rintro e w' ⟨rfl,rfl⟩
  exact⟨rfl,Below.refl _ _⟩
 ·rw[marks_length]
  exact held_any g 9 cap n w ho hn
end Go.Proofs.YtikiihjabbmkcaaGreatDoor.St


namespace Go.Proofs.YtikiihjabbmkcaaGreatDoor.Pe
open Go.RowKit
open Kp
open Ls (HH hh_keep lV lowL blkL rightB)
open St (OwnS one_newS one_cellS app_one)
theorem Tryz.infoStrB:(Tryz.prog.info? 9).map (fun i=>(i.zero,i.size,i.bytes))=some (some (.string ⟨#[]⟩),1,16):=by kernel_rfl
def bansL (l:List Oth):List ByteArray:=(l.filter fun o=>decide (3<=o.strikes)).map (·.name)
theorem bans_take {m:List MO} {j:Nat} (h:j<m.length):bansL (oths (m.take (j+1)))=bansL (oths (m.take j))++(if 3<=m[j].1.strikes then [m[j].1.name] else []):=by
 unfold bansL
 rw[oths_take h,List.filter_append,List.map_append]
 by_cases hs:3<=m[j].1.strikes
 ·simp[hs]
 ·simp[hs]
theorem bans_le (l:List Oth):(bansL l).length<=l.length:=by
 unfold bansL
 rw[List.length_map]
 exact List.length_filter_le _ _
theorem bans_len (m:List MO) (j:Nat) (h:j<=m.length):(bansL (oths (m.take j))).length<=j:=by
 have:=bans_le (oths (m.take j))
 rw[oths_length,List.length_take]at this
 omega
theorem strikes_le {l:List Oth} {c:Int} (h:othsB l c=true):∀ o∈l,o.strikes<=3:=fun o ho=>by
 obtain⟨j,hj,rfl⟩:=List.getElem_of_mem ho
 have:=((oths_of h).2 j hj hj).1
 unfold othB strB at this
 simp only[Bool.and_eq_true,decide_eq_true_eq]at this
 exact this.1.2.2
noncomputable def banV (fit:Rec->Bool) (z b:Int) (r s:ByteArray) (y:Int) (l:List Oth):List ByteArray:=if peerB fit z b r s y l=true then bansL l else []
theorem banV_le (fit:Rec->Bool) (z b:Int) (r s:ByteArray) (y:Int) (l:List Oth):(banV fit z b r s y l).length<=l.length:=by
 unfold banV
 split
 ·exact bans_le l
 ·exact Nat.zero_le _
theorem ownS_alloc {w:World} {base:Nat} {v:Value} {l:List ByteArray} (h:OwnS w base v l) (o:Obj):OwnS (w.alloc o) base v l:=h.below ((Below.refl _ _).alloc (Nat.le_refl _) o)
theorem ownS_lit (W:World):OwnS (W.alloc (.cells #[] 9)) W.heap.size (.slice (some ⟨W.heap.size,0,none⟩) 0 0) [] :=
 ⟨rfl,.inr ⟨W.heap.size,0,#[],rfl,Nat.le_refl _,heap_alloc_new W _,Nat.le_refl _,by decide,rfl,rfl⟩⟩
theorem banned_impl (fit:Rec->Bool) (z b:Int) (r s:ByteArray) (y:Int) (a:Option Addr) (n cap:Nat) (m:List MO) (w:World) (hs:s.size<=1048576) (hh:HH w) (hf:FitC fit z b r w) (h:Oths w w.heap.size a m) (hm:m.length=n) (hn:n<=1048576) (hsm:Small m) :
  Calls Tryz.prog 36 #[peerV z b r s y (.slice a n cap)] w fun e w'=>∃ v,e=.returned v/\OwnS w' w.heap.size v (banV fit z b r s y (oths m))/\Below w.heap.size w w':=by
 obtain⟨i0,hi0,hz0,hz1,hz2⟩:=info_parts Tryz.infoStrB
 have C0:=hideK ((Cx.nil w).new (peerO z b r s y (.slice a n cap)))
 have HO:=hideK (fun W (hW:Below w.heap.size w W)=>openPeer_impl fit z b r s y a n cap m W hs (hh_keep hh hW) (hf.later hW) ((h.below hW).mono hW.size) hm hn hsm)
 have HY:Hid (peerB fit z b r s y (oths m)=true->banV fit z b r s y (oths m)=bansL (oths m)):=fun h=>if_pos h
 have HN:Hid (peerB fit z b r s y (oths m)=false->banV fit z b r s y (oths m)=[]):=fun h=>if_neg (by rw[h];exact Bool.false_ne_true)
 have HST:Hid (peerB fit z b r s y (oths m)=true->∀ o∈oths m,o.strikes<=3):=fun h=>by
  unfold peerB at h
  simp only[Bool.and_eq_true]at h
  exact strikes_le h.2
 have HMN:=hideK hm
 generalize peerB fit z b r s y (oths m)=P at HO HY HN HST
 generalize banV fit z b r s y (oths m)=A at HY HN ⊢
 clear hh hf h hsm hm
 unfold peerV at HO ⊢
 unfold peerO at C0
 go_enter Tryz.func36,Tryz.ntmps36
 go_wp2_with fail
 generalize w.alloc _=W0 at C0 ⊢
 refine(HO.out _ C0.out.low).mono ?_
 rintro e w1 ⟨⟨hP,v,vo,mr,mo,rfl,hop⟩|⟨hP,rfl⟩,hb⟩
 ·obtain⟨a0,cap0,hv⟩:=hop.row.one
  subst hv
  obtain⟨ao,co,hvo,_,_⟩:=hop.orow.one
  have HMO:Hid (mo.length=n):=by unfold Hid;rw[<-oths_length,hop.os,oths_length,HMN.out]
  rw[HMO.out]at hvo
  subst hvo
  subst hP
  have HE:=hideK (HY.out rfl)
  rw[<-hop.os]at HE
  have HS3:=hideK (HST.out rfl)
  rw[<-hop.os]at HS3
  have C1:=hideK ((C0.out.call hb).new (.cells #[.slice a0 mr.length cap0,.int .i64 ((allR fit s).2:Nat),.int .i64 z,.int .i64 b,.string r,.string s,.int .i64 y,.slice ao n co,.slice none 0 0] 92))
  have OP:=hideK ((hop.orow.mono C0.out.low.size).alloc (.cells #[.slice a0 mr.length cap0,.int .i64 ((allR fit s).2:Nat),.int .i64 z,.int .i64 b,.string r,.string s,.int .i64 y,.slice ao n co,.slice none 0 0] 92))
  have HHX:Hid (∀ x∈mo,∃ a n cap,x.2=.slice a n cap):=fun x hx=>by
   obtain⟨a',c',h',_⟩:=(hop.has x hx).ints
   exact⟨a',_,c',h'⟩
  clear hb C0 hop HO HY HN HST
  go_upto_region 2 with fail
  generalize w1.alloc _=W1 at C1 OP ⊢
  generalize w1.heap.size=gw at C1 ⊢
  obtain⟨k0,k1,k2,k3,k4,k5,k6,k7,k8⟩:=cellsP9 (C1.out.get 0 rfl)
  have LW:=hideK C1.out.low
  go_wp2_with fail
  go_loopw [5,18] (fun u jv wr=>∃ (j:Nat) (l:List ByteArray),jv=.int .i64 j/\j<=n/\l=bansL (oths (mo.take j))/\OwnS wr W1.heap.size u l/\Below W1.heap.size W1 wr) (fun _ jv _=>n-(intOf jv).toNat)
  case atStart=>exact⟨0,[],rfl,Nat.zero_le _,rfl,OwnS.nil _ _,Below.refl _ _⟩
  case round =>
   obtain⟨j,l,rfl,hj,hl,hown,hb1⟩:=hrel
   have O1:=hideK hown
   have B1:=hideK hb1
   have HLE:=hideK hl
   have hll:l.length<=j:=by rw[hl];exact bans_len mo j (by rw[HMO.out];exact hj)
   have hzr:=hb1.size
   obtain⟨a1,c1,hu,_,_⟩:=hown.strs
   subst hu
   clear hown hb1 hl
   by_cases hlt:j<n
   ·have hlt':(j:Int)<(n:Int):=by omega
    have hjl:j<mo.length:=by rw[HMO.out];exact hlt
    obtain⟨go,co',hv',hgb,hgz,_,hcc⟩:=OP.out.cells (by omega)
    obtain⟨rfl,rfl⟩:ao=some ⟨go,0,none⟩/\co=co':=by simp at hv';exact⟨hv'.1,hv'.2.2⟩
    obtain⟨d0,d1,d2,d3,d4⟩:=(hcc j hjl).below B1.out hgz
    obtain⟨ax,nx,cx,hxv⟩:=HHX.out mo[j] (List.getElem_mem hjl)
    have HT:=hideK (bans_take hjl)
    rw[<-HLE.out]at HT
    have hs3:mo[j].1.strikes<=3:=HS3.out mo[j].1 (List.mem_map_of_mem (List.getElem_mem hjl))
    rw[hxv]at d1
    generalize mo[j].1.name=nm at d0 HT
    generalize mo[j].1.asked=q at d2
    generalize mo[j].1.age=g at d3
    generalize mo[j].1.strikes=t at d4 HT hs3
    clear hcc hxv hv'
    have XB:=hideK (heap_alloc_new wr (.cells #[.string nm,.slice ax nx cx,.int .i64 q,.int .i64 g,.int .i64 t] 89))
    have O2:=hideK (ownS_alloc O1.out (.cells #[.string nm,.slice ax nx cx,.int .i64 q,.int .i64 g,.int .i64 t] 89))
    have D1:=hideK (B1.out.alloc B1.out.size (.cells #[.string nm,.slice ax nx cx,.int .i64 q,.int .i64 g,.int .i64 t] 89))
    have HBA:=hideK (fun W=>banned_any nm ax nx cx q g t W)
    go_upto_region 8 with fail
    generalize wr.alloc (.cells #[.string nm,.slice ax nx cx,.int .i64 q,.int .i64 g,.int .i64 t] 89)=W2 at XB O2 D1 ⊢
    generalize wr.heap.size=g2 at XB ⊢
    obtain⟨e0,e1,e2,e3,e4⟩:=cells5 XB.out
    clear d0 d1 d2 d3 d4 O1 B1
    by_cases ht:t=3
    ·have ht':(t==3)=true:=beq_iff_eq.2 ht
     rw[if_pos (by omega)]at HT
     rw[ht']at HBA
     clear ht ht'
     go_wp2_with fail
     refine(HBA.out _).mono ?_
     rintro e w3 ⟨rfl,hb⟩
     have X3:=hideK (Ls.blkL XB.out hb)
     have O3:=hideK (O2.out.below hb)
     have E1:=hideK (lowL D1.out hb)
     have hz3:=E1.out.size
     clear hb e0 e1 e2 e3 e4 XB O2 D1
     obtain⟨e0,e1,e2,e3,e4⟩:=cells5 X3.out
     go_wp2_with (at_builtin;refine wpList_append_own _ rfl (.tmp 24) (.tmp 27) 55 rfl W1.heap.size 9 i0 (.string ⟨#[]⟩) 1 16 Tryz.underlying55 hi0 hz0 hz1 hz2 rfl (by decide) _ l.length (l.map Value.string) rfl (ownS_alloc O3.out _) ⟨w3.heap.size,0,none⟩ 1 1 [.string nm] rfl rfl (one_newS _ _ _) (one_cellS _) (by unfold maxLen;omega) (by omega) (by simp;omega) ?_)
     intro v' w5 hown' hgrow _
     have N5:Hid (OwnS w5 W1.heap.size v' (bansL (oths (mo.take (j+1))))):=by rw[HT.out];exact OwnS.snoc hown'
     have b6:=hideK (app_one E1.out hz3 (Nat.le_refl _) O3.out hgrow)
     clear hown' hgrow
     go_wp2_with fail
     go_roundw
     case rel=>exact⟨j+1,_,by go_num,by omega,rfl,N5.out,b6.out⟩
     case measure=>simp[intOf];omega
    ·have ht':(t==3)=false:=beq_eq_false_iff_ne.2 ht
     rw[if_neg (by omega),List.append_nil]at HT
     rw[ht']at HBA
     clear ht ht'
     go_wp2_with fail
     refine(HBA.out _).mono ?_
     rintro e w3 ⟨rfl,hb⟩
     have O3:=hideK (O2.out.below hb)
     have E1:=hideK (lowL D1.out hb)
     clear hb e0 e1 e2 e3 e4 XB O2 D1
     go_wp2_with fail
     go_roundw
     case rel=>exact⟨j+1,l,by go_num,by omega,HT.out.symm,O3.out,E1.out⟩
     case measure=>simp[intOf];omega
   ·have HT:Hid (bansL (oths (mo.take j))=A):=by unfold Hid;rw[HE.out,List.take_of_length_le (by rw[HMO.out];omega)]
    have O2:Hid (OwnS wr w.heap.size (.slice a1 l.length c1) A):=by rw[<-HT.out,<-HLE.out];exact O1.out.mono LW.out.size
    have B2:=hideK (lowL LW.out B1.out)
    go_wp2_with fail
    go_ret
    exact⟨_,rfl,O2.out,B2.out⟩
 ·subst hP
  have HE:=hideK (HN.out rfl)
  have C1:=hideK ((C0.out.call hb).new (.cells #[.slice none 0 0,.int .i64 0,.int .i64 0,.int .i64 0,.string ⟨#[]⟩,.string ⟨#[]⟩,.int .i64 0,.slice none 0 0,.slice none 0 0] 92))
  clear hb C0
  go_wp2_with fail
  go_ret
  exact⟨_,rfl,by rw[HE.out];exact OwnS.nil _ _,C1.out.low⟩
theorem l09Banned_any (z b:Int) (r s:ByteArray) (y:Int) (a:Option Addr) (n cap:Nat) (m:List MO) (w:World) (h:Oths w w.heap.size a m) (hm:m.length=n) (hn:n<=1048576) :
  Calls Tryz.prog 77 #[peerV z b r s y (.slice a n cap)] w fun e w'=>∃ v,e=.returned v/\OwnS w' w.heap.size v (bansL (oths m))/\Below w.heap.size w w':=by
 obtain⟨i0,hi0,hz0,hz1,hz2⟩:=info_parts Tryz.infoStrB
 have C0:=hideK (((Cx.nil w).new (peerO z b r s y (.slice a n cap))).new (.cells #[] 9))
 have OL:=hideK (ownS_lit (w.alloc (peerO z b r s y (.slice a n cap))))
 simp only[World.size_alloc]at C0 OL
 have HS:=hideK h
 have HM:=hideK hm
 clear h hm
 unfold peerV
 unfold peerO at C0 OL
 go_enter Tryz.func77,Tryz.ntmps77
 go_upto_region 2 with fail
 generalize (w.alloc _).alloc _=W0 at C0 OL ⊢
 go_wp2_with fail
 go_loopw [3,4] (fun u jv wr=>∃ (j:Nat) (l:List ByteArray),jv=.int .i64 j/\j<=n/\l=bansL (oths (m.take j))/\OwnS wr (w.heap.size+1) u l/\Below (w.heap.size+1) W0 wr) (fun _ jv _=>n-(intOf jv).toNat)
 case atStart=>exact⟨0,[],rfl,Nat.zero_le _,rfl,OL.out,Below.refl _ _⟩
 case round =>
  obtain⟨j,l,rfl,hj,hl,hown,hb1⟩:=hrel
  have O1:=hideK hown
  have B1:=hideK hb1
  have B2:Hid (Below w.heap.size w wr):=C0.out.low.trans (hb1.mono (Nat.le_succ _))
  have X1:Hid (wr.heap[w.heap.size]? = some (.cells #[.int .i64 z,.int .i64 b,.string r,.string s,.int .i64 y,.slice a n cap] 43 (0,0))):=(hb1.block _ (Nat.lt_succ_self _)).trans (C0.out.get 1 rfl)
  have HLE:=hideK hl
  have hll:l.length<=j:=by rw[hl];exact bans_len m j (by rw[HM.out];exact hj)
  have hz0:w.heap.size+1<W0.heap.size:=lt_rowK (C0.out.get 0 rfl)
  have hzr:=hb1.size
  obtain⟨a1,c1,hu,_,_⟩:=hown.strs
  subst hu
  clear hown hb1 hl
  obtain⟨p0,p1,p2,p3,p4,p5⟩:=cellsP6 X1.out
  by_cases hlt:j<n
  ·have hlt':(j:Int)<(n:Int):=by omega
   have hjl:j<m.length:=by rw[HM.out];exact hlt
   obtain⟨b',off,rfl,hb,hc⟩:=HS.out.some (by omega)
   obtain⟨d0,d1,d2,d3,d4⟩:=(hc j hjl).below B2.out hb
   have HT:=hideK (bans_take hjl)
   rw[<-HLE.out]at HT
   generalize m[j].1.name=nm at d0 HT
   generalize m[j].1.strikes=t at d4 HT
   clear hc d1 d2 d3
   by_cases ht:3<=t
   ·rw[if_pos ht]at HT
    go_wp2_with (at_builtin;refine wpList_append_own _ rfl (.tmp 20) (.tmp 27) 55 rfl (w.heap.size+1) 9 i0 (.string ⟨#[]⟩) 1 16 Tryz.underlying55 hi0 (by assumption) hz1 hz2 rfl (by decide) _ l.length (l.map Value.string) rfl (ownS_alloc O1.out _) ⟨wr.heap.size,0,none⟩ 1 1 [.string nm] rfl rfl (one_newS _ _ _) (one_cellS _) (by unfold maxLen;omega) (by omega) (by simp;omega) ?_)
    intro v' w5 hown' hgrow _
    have N5:Hid (OwnS w5 (w.heap.size+1) v' (bansL (oths (m.take (j+1))))):=by rw[HT.out];exact OwnS.snoc hown'
    have b6:=hideK (app_one B1.out (by omega) (Nat.le_refl _) O1.out hgrow)
    clear hown' hgrow
    go_wp2_with fail
    go_roundw
    case rel=>exact⟨j+1,_,by go_num,by omega,rfl,N5.out,b6.out⟩
    case measure=>simp[intOf];omega
   ·rw[if_neg ht,List.append_nil]at HT
    go_wp2_with fail
    go_roundw
    case rel=>exact⟨j+1,l,by go_num,by omega,HT.out.symm,O1.out,B1.out⟩
    case measure=>simp[intOf];omega
  ·have hltD:decide ((j:Int)<(n:Int))=false:=by simp;omega
   have hlt2:¬((j:Int)<(n:Int)):=by omega
   have HT:Hid (l=bansL (oths m)):=by unfold Hid;rw[HLE.out,List.take_of_length_le (by rw[HM.out];omega)]
   have O2:Hid (OwnS wr w.heap.size (.slice a1 l.length c1) (bansL (oths m))):=by
    have:=O1.out.mono (Nat.le_succ w.heap.size)
    unfold Hid
    rw[<-HT.out]
    exact this
   go_wp2_with fail
   go_ret
   exact⟨_,rfl,O2.out,B2.out⟩
theorem banned_spec (fit:Rec->Bool) (z b:Int) (r s:ByteArray) (y:Int) (a:Option Addr) (n cap:Nat) (m:List MO) (w:World) (hs:s.size<=1048576) (hf:rightB z b r=true->FitS fit z b r w) (h:Oths w w.heap.size a m) (hm:m.length=n) (hn:n<=1048576) (hsm:Small m) :
  Calls Tryz.prog 35 #[peerV z b r s y (.slice a n cap)] w fun e w'=>∃ v,e=.returned v/\OwnS w' w.heap.size v (banV fit z b r s y (oths m))/\Below w.heap.size w w':=by
 have C0:=hideK (((Cx.nil w).new (peerO z b r s y (.slice a n cap))).new (.cells #[] 9))
 have OL:=hideK (ownS_lit (w.alloc (peerO z b r s y (.slice a n cap))))
 simp only[World.size_alloc]at C0 OL
 have HR:=hideK (fun W (hW:Below w.heap.size w W)=>peerRight_spec fit z b r s y a n cap m W hs (fun hq=>(hf hq).later hW) ((h.below hW).mono hW.size) hm hn hsm)
 have HB:=hideK (fun W (hW:Below w.heap.size w W)=>l09Banned_any z b r s y a n cap m W ((h.below hW).mono hW.size) hm hn)
 have HY:Hid (peerB fit z b r s y (oths m)=true->banV fit z b r s y (oths m)=bansL (oths m)):=fun h=>if_pos h
 have HN:Hid (peerB fit z b r s y (oths m)=false->banV fit z b r s y (oths m)=[]):=fun h=>if_neg (by rw[h];exact Bool.false_ne_true)
 generalize peerB fit z b r s y (oths m)=P at HR HY HN
 generalize banV fit z b r s y (oths m)=A at HY HN ⊢
 clear hf h hsm hm
 unfold peerV at HR HB ⊢
 unfold peerO at C0 OL
 go_enter Tryz.func35,Tryz.ntmps35
 go_upto_region 2 with fail
 generalize (w.alloc _).alloc _=W0 at C0 OL ⊢
 obtain⟨p0,p1,p2,p3,p4,p5⟩:=cellsP6 (C0.out.get 1 rfl)
 go_wp2_with fail
 refine(HR.out _ C0.out.low).mono ?_
 rintro e w1 ⟨rfl,hb⟩
 have C1:=hideK (C0.out.call hb)
 have O1:=hideK ((OL.out.below hb).mono (Nat.le_succ _))
 clear hb C0 OL p0 p1 p2 p3 p4 p5
 obtain⟨p0,p1,p2,p3,p4,p5⟩:=cellsP6 (C1.out.get 1 rfl)
 cases P with
 |false =>
  have HE:=hideK (HN.out rfl)
  go_wp2_with fail
  go_ret
  exact⟨_,rfl,by rw[HE.out];exact O1.out,C1.out.low⟩
 |true =>
  have HE:=hideK (HY.out rfl)
  go_wp2_with fail
  refine(HB.out _ C1.out.low).mono ?_
  rintro e w2 ⟨v,rfl,ho,hb⟩
  have O2:=hideK (ho.mono C1.out.low.size)
  have C2:=hideK (C1.out.call hb)
  clear hb ho
  go_wp2_with fail
  go_ret
  exact⟨_,rfl,by rw[HE.out];exact O2.out,C2.out.low⟩
end Go.Proofs.YtikiihjabbmkcaaGreatDoor.Pe

