/- Texts put together: DrawRow, DrawPick, DrawText5, DrawSort, WholePlain, ZeroPlain, FrontPlain, FrontRow, FrontSpec. -/
import Derived.Test.YtjfdllgodijibaaGreatDoorWz26
import Derived.Test.YtjfdllgodijibaaGreatDoorWz16
import Derived.Test.YtjfdllgodijibaaGreatDoorWz7
import Derived.Test.YtjfdllgodijibaaGreatDoorWz23
import Derived.Test.YtjfdllgodijibaaGreatDoorWz1
import Derived.Test.YtjfdllgodijibaaGreatDoorWz2
import Derived.Test.YtjfdllgodijibaaGreatDoorChecked
import Derived.WalkSpells
import Derived.WalkLawsBesides
import Derived.BigRegion
import Derived.BigQuiet
import Derived.Deep.QuietTactic
import Derived.Laws.CopyOwn
set_option maxRecDepth 100000
set_option maxHeartbeats 8000000
/- Bytes that came in, as a source of draws sees them; and a text of zeros. -/
namespace Go.Proofs.YtjfdllgodijibaaGreatDoor.Dr
open Go.RowKit
open Nu (bv own_string)
def IsRow (k:IntKind) (w:World) (a:Option Addr) (len cap:Nat) (zs:List Int):Prop :=
 (a=none/\len=0/\cap=0/\zs=[]) ∨
 ∃ x,a=some x/\len<=cap/\cap<=maxLen/\zs.length=cap/\(∀ i,i<zs.length->w.cell? (x.add i)=some (.int k (zs.getD i 0)))/\∀ n∈zs,(Lit.int k n).wf=true
theorem row_of {w:World} {a:Option Addr} {len cap:Nat} {zs:List Int} (h:IsRow .u8 w a len cap zs):Row w w.heap.size a len:=by
 rcases h with⟨_,rfl,_⟩|⟨x,rfl,hlc,_,hz,hc,hw⟩
 ·exact .inl rfl
 ·rcases Nat.eq_zero_or_pos len with h0|h0
  ·exact .inl h0
  ·obtain⟨b,off,spot⟩:=x
   have hc0:=hc 0 (by omega)
   have hspot:spot=none:=by simpa [Addr.add] using World.cell?_spot hc0
   subst hspot
   have e:∀ i,(⟨b,off,none⟩:Addr).add i=⟨b,off+i,none⟩:=fun i=>by unfold Addr.add;split<;>simp_all
   have hlt:=World.block_lt_of_cell? w _ hc0
   rw[e 0]at hlt
   refine .inr ⟨b,off,rfl,hlt,fun i hi=>⟨zs.getD i 0,by rw[<-e i];exact hc i (by omega),?_⟩⟩
   have hi':i<zs.length:=by omega
   have hm:zs.getD i 0∈zs:=by rw[List.getD_eq_getElem?_getD,List.getElem?_eq_getElem hi'];exact List.getElem_mem hi'
   have:=hw _ hm
   simpa [Lit.wf,IntKind.min,IntKind.max,IntKind.signed,IntKind.bits] using this
theorem Row.below {w w':World} {B:Nat} {a:Option Addr} {len:Nat} (h:Row w B a len) (hb:Below B w w'):Row w' B a len:=by
 rcases h with h0|⟨b,off,rfl,hlt,hc⟩
 ·exact .inl h0
 ·refine .inr ⟨b,off,rfl,hlt,fun i hi=>?_⟩
  obtain⟨z,hz,z1,z2⟩:=hc i hi
  exact⟨z,(hb.cell (p:=⟨b,off+i,none⟩) hlt).trans hz,z1,z2⟩
theorem Row.mono {w:World} {B C:Nat} {a:Option Addr} {len:Nat} (h:Row w B a len) (hBC:B<=C):Row w C a len:=by
 rcases h with h0|⟨b,off,rfl,hlt,hc⟩
 ·exact .inl h0
 ·exact .inr ⟨b,off,rfl,Nat.lt_of_lt_of_le hlt hBC,hc⟩
def zeroS (n:Nat):ByteArray:=⟨(List.replicate n (0:UInt8)).toArray⟩
end Go.Proofs.YtjfdllgodijibaaGreatDoor.Dr


namespace Go.Proofs.YtjfdllgodijibaaGreatDoor.Dr
open Go.RowKit
open St (IsS)
theorem pick_any (B g c:Nat) (a:Option Addr) (len cap:Nat) (t:TypeId) (l:List ByteArray) (w:World) (hl:len<=1048576) (hs:Src w B a len cap) (hx:IsS w g t l) (hg:g≠B) (h0:0<l.length) (hm:l.length<=100) :
  Calls Tryz.prog 62 #[.pointer (some ⟨B,0,none⟩),.slice (some ⟨g,0,none⟩) l.length c] w fun e w'=>∃ s,s∈l/\e=.returned (.string s)/\Src w' B a len cap/\Only B w w':=by
 have HX:=hideD hx
 have HM:=hideD (fun (j:Nat) (hj:j<l.length)=>List.getElem_mem hj)
 clear hx
 obtain⟨n,hln⟩:∃ n,n=l.length:=⟨_,rfl⟩
 have HLN:=hideD hln
 rw[<-hln]at h0 hm ⊢
 clear hln
 go_enter Tryz.func62,Tryz.ntmps62
 go_wp2_with fail
 refine(n_any B a len cap n _ hl (by omega) hs).mono ?_
 rintro e w2 ⟨r,rfl,q0,q1,hs2,ho2⟩
 obtain⟨i,rfl⟩:=Int.eq_ofNat_of_zero_le q0
 have hin:i<n:=by omega
 have hil:i<l.length:=by rw[<-HLN.out];exact hin
 have hce:w2.cell? ⟨g,i,none⟩=some (.string l[i]):=by
  have h1:IsS w2 g t l:=by
   unfold IsS
   rw[ho2.2.2.2.2 g hg]
   exact HX.out
  exact h1.cell hil
 have HMI:=hideD (HM.out i hil)
 generalize l[i]=s at hce HMI
 have HS2:=hideD hs2
 have HO2:=hideD ho2
 clear hs2 ho2 q0 q1 hs
 go_wp2_with fail
 go_ret
 exact⟨s,HMI.out,rfl,HS2.out,HO2.out⟩
end Go.Proofs.YtjfdllgodijibaaGreatDoor.Dr


namespace Go.Proofs.YtjfdllgodijibaaGreatDoor.Dr
open Go.RowKit
open St (IsS)
def six5:List ByteArray:=[⟨#[]⟩,⟨#[98,97,110,97,110,97]⟩,⟨#[97,98,97,98]⟩,⟨#[97,97,97,97,97,97,97,97,97,97,97,97,97,97,97,97]⟩,⟨#[97,98,114,97,99,97,100,97,98,114,97,32,97,98,114,97,99,97,100,97,98,114,97]⟩,⟨#[97,98]⟩]
def five5:List ByteArray:=[⟨#[97]⟩,⟨#[98]⟩,⟨#[97,98]⟩,⟨#[116,104,101,32]⟩,⟨#[97,97,97,97]⟩]
theorem six5_is (W:World) (t:TypeId):IsS (W.alloc (.cells #[.string ⟨#[]⟩,.string ⟨#[98,97,110,97,110,97]⟩,.string ⟨#[97,98,97,98]⟩,.string ⟨#[97,97,97,97,97,97,97,97,97,97,97,97,97,97,97,97]⟩,.string ⟨#[97,98,114,97,99,97,100,97,98,114,97,32,97,98,114,97,99,97,100,97,98,114,97]⟩,.string ⟨#[97,98]⟩] t)) W.heap.size t six5:=heap_alloc_last W _
theorem five5_is (W:World) (t:TypeId):IsS (W.alloc (.cells #[.string ⟨#[97]⟩,.string ⟨#[98]⟩,.string ⟨#[97,98]⟩,.string ⟨#[116,104,101,32]⟩,.string ⟨#[97,97,97,97]⟩] t)) W.heap.size t five5:=heap_alloc_last W _
theorem six5_le (s:ByteArray) (h:s∈six5):s.size<=23:=by
 simp only[six5,List.mem_cons,List.not_mem_nil,or_false]at h
 rcases h with rfl|rfl|rfl|rfl|rfl|rfl<;>decide
theorem five5_le (s:ByteArray) (h:s∈five5):s.size<=4:=by
 simp only[five5,List.mem_cons,List.not_mem_nil,or_false]at h
 rcases h with rfl|rfl|rfl|rfl|rfl<;>decide
theorem text5_any (B:Nat) (a:Option Addr) (len cap:Nat) (w:World) (hl:len<=1048576) (hs:Src w B a len cap) :
  Calls Tryz.prog 45 #[.pointer (some ⟨B,0,none⟩)] w fun e w'=>∃ s:ByteArray,s.size<=32/\e=.returned (.string s)/\Src w' B a len cap/\Aft B w w':=by
 have hB:=hs.lt
 have HS:=hideD hs
 clear hs
 go_enter Tryz.func45,Tryz.ntmps45
 go_wp2_with fail
 refine(n_any B a len cap 5 _ hl (by omega) HS.out).mono ?_
 rintro e w1 ⟨r,rfl,q0,q1,hs1,ho1⟩
 have HS1:=hideD hs1
 have HO1:=hideD ho1
 clear hs1 ho1
 by_cases h0:r=0
 ·subst h0
  go_wp2_with fail
  refine(n_any B a len cap 12 _ hl (by omega) HS1.out).mono ?_
  rintro e w2 ⟨r2,rfl,p0,p1,hs2,ho2⟩
  obtain⟨m,rfl⟩:=Int.eq_ofNat_of_zero_le p0
  have HB2:=hideD (bytes_any B a len cap m w2 hl (by omega) hs2)
  have HA2:=hideD ((HO1.out.trans ho2).aft)
  have hm32:m<=32:=by omega
  clear hs2 ho2 p0 p1
  go_wp2_with fail
  refine HB2.out.mono ?_
  rintro e w3 ⟨l,hlen,rfl,hs3,ha3⟩
  have HX:Hid (∃ s:ByteArray,s.size<=32/\Ending.returned (.string ⟨l.toArray⟩)=.returned (.string s)/\Src w3 B a len cap/\Aft B w w3):=⟨⟨l.toArray⟩,by rw[show (⟨l.toArray⟩:ByteArray).size=l.length from by simp[ByteArray.size],hlen];exact hm32,rfl,hs3,HA2.out.trans ha3⟩
  clear hs3 ha3 hlen
  go_wp2_with fail
  go_ret
  exact HX.out
 ·by_cases h1:r=1
  ·subst h1
   have HP:=hideD (fun W (h:Src W B a len cap)=>pick_any B W.heap.size 6 a len cap 9 six5 (W.alloc (.cells #[.string ⟨#[]⟩,.string ⟨#[98,97,110,97,110,97]⟩,.string ⟨#[97,98,97,98]⟩,.string ⟨#[97,97,97,97,97,97,97,97,97,97,97,97,97,97,97,97]⟩,.string ⟨#[97,98,114,97,99,97,100,97,98,114,97,32,97,98,114,97,99,97,100,97,98,114,97]⟩,.string ⟨#[97,98]⟩] 9)) hl (h.below ((Below.refl _ _).alloc (Nat.le_refl _) _)) (six5_is W _) (by have:=h.lt;omega) (by decide) (by decide))
   go_wp2_with fail
   refine(HP.out w1 HS1.out).mono ?_
   rintro e w2 ⟨s,hm,rfl,hs2,ho2⟩
   have HX:Hid (∃ s':ByteArray,s'.size<=32/\Ending.returned (.string s)=.returned (.string s')/\Src w2 B a len cap/\Aft B w w2):=⟨s,Nat.le_trans (six5_le s hm) (by decide),rfl,hs2,(HO1.out.aft.trans (aft_below ((Below.refl _ _).alloc (Nat.le_refl _) _))).trans ho2.aft⟩
   clear hs2 ho2 hm
   go_wp2_with fail
   go_ret
   exact HX.out
  ·have e0:(r==0)=false:=beq_eq_false_iff_ne.2 h0
   have e1:(r==1)=false:=beq_eq_false_iff_ne.2 h1
   have HP:=hideD (fun W (h:Src W B a len cap)=>pick_any B W.heap.size 5 a len cap 9 five5 (W.alloc (.cells #[.string ⟨#[97]⟩,.string ⟨#[98]⟩,.string ⟨#[97,98]⟩,.string ⟨#[116,104,101,32]⟩,.string ⟨#[97,97,97,97]⟩] 9)) hl (h.below ((Below.refl _ _).alloc (Nat.le_refl _) _)) (five5_is W _) (by have:=h.lt;omega) (by decide) (by decide))
   clear h0 h1
   go_wp2_with fail
   refine(n_any B a len cap 8 _ hl (by omega) HS1.out).mono ?_
   rintro e w2 ⟨r2,rfl,p0,p1,hs2,ho2⟩
   obtain⟨m,rfl⟩:=Int.eq_ofNat_of_zero_le p0
   have HS2:=hideD hs2
   have HA2:=hideD ((HO1.out.trans ho2).aft)
   have hm7:m<=7:=by omega
   clear hs2 ho2 p0 p1
   go_wp2_with fail
   go_loopw [4,3] (fun i u wr=>∃ (k:Nat) (s:ByteArray),i=.int .i64 k/\k<=7/\u=.string s/\s.size+4*k<=28/\Src wr B a len cap/\Aft B w wr) (fun i _ _=>(intOf i).toNat)
   case atStart=>exact⟨m,⟨#[]⟩,rfl,hm7,rfl,by simp[ByteArray.size];omega,HS2.out,HA2.out⟩
   case round =>
    obtain⟨k,s,rfl,hk,rfl,hsz,hs3,ha3⟩:=hrel
    have HS3:=hideD hs3
    have HA3:=hideD ha3
    clear hs3 ha3
    by_cases hlt:0<k
    ·obtain⟨kp,hkp⟩:∃ kp,k=kp+1:=⟨k-1,by omega⟩
     have ek:(k:Int)-1=(kp:Int):=by omega
     have HK:=hideD hkp
     have hkz:(0:Int)<(k:Int):=by omega
     clear hkp
     go_wp2_with fail
     refine(HP.out wr HS3.out).mono ?_
     rintro e w4 ⟨s4,hm4,rfl,hs4,ho4⟩
     have HS4:=hideD hs4
     have HA4:=hideD ((HA3.out.trans (aft_below ((Below.refl _ _).alloc (Nat.le_refl _) _))).trans ho4.aft)
     have HL4:Hid ((s++s4).size+4*kp<=28):=by
      unfold Hid
      rw[ByteArray.size_append]
      have:=five5_le s4 hm4
      have:=HK.out
      omega
     have hs4z:=five5_le s4 hm4
     clear hs4 ho4 hm4
     go_wp2_with fail
     go_roundw
     case rel=>exact⟨kp,s++s4,by go_num,by have:=HK.out;omega,rfl,HL4.out,HS4.out,HA4.out⟩
     case measure=>have:=HK.out;simp[intOf];omega
    ·obtain rfl:k=0:=by omega
     have HX:Hid (∃ s':ByteArray,s'.size<=32/\Ending.returned (.string s)=.returned (.string s')/\Src wr B a len cap/\Aft B w wr):=⟨s,by omega,rfl,HS3.out,HA3.out⟩
     go_wp2_with fail
     go_ret
     exact HX.out
end Go.Proofs.YtjfdllgodijibaaGreatDoor.Dr


/- The drawn texts of the law on sorted blocks: what is drawn for Bwt and for FrontOf. -/
namespace Go.Proofs.YtjfdllgodijibaaGreatDoor.Dr
open Go.RowKit
open Sh (made_row strF strF_size)
end Go.Proofs.YtjfdllgodijibaaGreatDoor.Dr


/- Plain mathematics of lengths of codes: which are right, what they take together, which are whole. -/
namespace Go.Proofs.YtjfdllgodijibaaGreatDoor.Bi
open Go.RowKit
def okL (m x:Int):Prop:=0<=x/\x<=m
def within (l:List Int) (m:Int):Bool:=decide (l.length<=257/\∀ x∈l,0<=x/\x<=m)
theorem within_yes {l:List Int} {m:Int} (h:within l m=true):l.length<=257/\∀ x∈l,0<=x/\x<=m:=of_decide_eq_true h
theorem within_of {l:List Int} {m:Int} (h1:l.length<=257) (h2:∀ x∈l,0<=x/\x<=m):within l m=true:=decide_eq_true ⟨h1,h2⟩
theorem within_long {l:List Int} {m:Int} (h:257<l.length):within l m=false:=decide_eq_false fun x=>by have:=x.1;omega
theorem within_bad {l:List Int} {m:Int} {j:Nat} (hj:j<l.length) (h:l[j]<0∨m<l[j]):within l m=false:=decide_eq_false fun x=>by
 have:=x.2 _ (List.getElem_mem hj)
 omega
def part (x:Int):Nat:=if 0<x then 2 ^ (12-x.toNat) else 0
def csum (l:List Int):Nat:=(l.map part).sum
def above (l:List Int):Nat:=l.countP fun x=>decide (0<x)
theorem take_more {l:List Int} {k:Nat} (h:k<l.length):l.take (k+1)=l.take k++[l[k]]:=List.take_succ_eq_append_getElem h
theorem csum_snoc (l:List Int) (x:Int):csum (l++[x])=csum l+part x:=by simp[csum]
theorem above_snoc (l:List Int) (x:Int):above (l++[x])=above l+if 0<x then 1 else 0:=by simp[above,List.countP_append,List.countP_cons]
theorem csum_more {l:List Int} {k:Nat} (h:k<l.length):csum (l.take (k+1))=csum (l.take k)+part l[k]:=by
 rw[take_more h,csum_snoc]
theorem above_more {l:List Int} {k:Nat} (h:k<l.length):above (l.take (k+1))=above (l.take k)+if 0<l[k] then 1 else 0:=by
 rw[take_more h,above_snoc]
theorem part_le (x:Int):part x<=4096:=by
 unfold part
 split
 ·have:=Nat.pow_le_pow_right (n:=2) (by decide) (show 12-x.toNat<=12 by omega)
  omega
 ·omega
theorem above_le (l:List Int):above l<=l.length:=List.countP_le_length
theorem above_zero:∀ l:List Int,above l=0->csum l=0/\∀ x∈l,¬0<x:=by
 intro l
 induction l with
 |nil=>intro _;exact⟨rfl,fun x hx=>by cases hx⟩
 |cons x l ih =>
  intro h
  simp only[above,List.countP_cons]at h
  have hx:¬0<x:=by
   intro hx
   simp[hx]at h
  obtain⟨h1,h2⟩:=ih (by simp only[above];omega)
  refine⟨?_,fun y hy=>?_⟩
  ·simp only[csum,List.map_cons,List.sum_cons]
   simp only[csum]at h1
   rw[h1,part,if_neg hx]
  ·rcases List.mem_cons.1 hy with e|hy
   ·rw[e];exact hx
   ·exact h2 y hy
def right (l:List Int):Bool:=within l 12 && decide (csum l<=4096)
def whole (l:List Int):Bool:=right l && (decide (csum l=4096) || decide (above l=1) && decide (csum l=2048))
theorem right_yes {l:List Int} (h:right l=true):within l 12=true/\csum l<=4096:=by
 unfold right at h
 rw[Bool.and_eq_true]at h
 exact⟨h.1,of_decide_eq_true h.2⟩
theorem right_of {l:List Int} (h1:within l 12=true) (h2:csum l<=4096):right l=true:=by
 unfold right
 rw[h1,decide_eq_true h2]
 rfl
theorem right_no {l:List Int} (h:within l 12=false∨¬csum l<=4096):right l=false:=by
 unfold right
 rcases h with h|h
 ·rw[h];rfl
 ·rw[decide_eq_false h,Bool.and_false]
theorem whole_no {l:List Int} (h:right l=false):whole l=false:=by unfold whole;rw[h];rfl
end Go.Proofs.YtjfdllgodijibaaGreatDoor.Bi


/- Plain mathematics of zeros side by side: what they are told as, and back. -/
namespace Go.Proofs.YtjfdllgodijibaaGreatDoor.Ze
open Go.RowKit
theorem hideZ {p:Prop} (h:p):Hid p:=h
def zrun (r:Nat):List Int :=
 if r=0 then [] else if r%2=1 then 0 :: zrun ((r-1)/2) else 1 :: zrun ((r-2)/2)
termination_by r
decreasing_by all_goals omega
theorem zrun_zero:zrun 0=[]:=by rw[zrun];rfl
theorem zrun_odd {r:Nat} (h:r%2=1):zrun r=0 :: zrun ((r-1)/2):=by
 rw[zrun,if_neg (by omega),if_pos h]
theorem zrun_even {r:Nat} (h0:0<r) (h:¬r%2=1):zrun r=1 :: zrun ((r-2)/2):=by
 rw[zrun,if_neg (by omega),if_neg h]
theorem zrun_len (r:Nat):(zrun r).length<=r:=by
 induction r using Nat.strongRecOn with
 |ind r ih =>
  by_cases h0:r=0
  ·subst h0;rw[zrun_zero];exact Nat.le_refl _
  ·by_cases h1:r%2=1
   ·rw[zrun_odd h1,List.length_cons]
    have:=ih ((r-1)/2) (by omega)
    omega
   ·rw[zrun_even (by omega) h1,List.length_cons]
    have:=ih ((r-2)/2) (by omega)
    omega
theorem zrun_mem (r:Nat):∀ x∈zrun r,x=0∨x=1:=by
 induction r using Nat.strongRecOn with
 |ind r ih =>
  intro x hx
  by_cases h0:r=0
  ·subst h0;rw[zrun_zero]at hx;cases hx
  ·by_cases h1:r%2=1
   ·rw[zrun_odd h1]at hx
    rcases List.mem_cons.1 hx with e|hx
    ·exact .inl e
    ·exact ih ((r-1)/2) (by omega) x hx
   ·rw[zrun_even (by omega) h1]at hx
    rcases List.mem_cons.1 hx with e|hx
    ·exact .inr e
    ·exact ih ((r-2)/2) (by omega) x hx
def upTo (l:List Int) (m:Int):Bool:=decide (∀ x∈l,0<=x/\x<=m)
theorem upTo_yes {l:List Int} {m:Int} (h:upTo l m=true):∀ x∈l,0<=x/\x<=m:=of_decide_eq_true h
theorem upTo_of {l:List Int} {m:Int} (h:∀ x∈l,0<=x/\x<=m):upTo l m=true:=decide_eq_true h
theorem upTo_bad {l:List Int} {m:Int} {j:Nat} (hj:j<l.length) (h:l[j]<0∨m<l[j]):upTo l m=false:=decide_eq_false fun x=>by
 have:=x _ (List.getElem_mem hj)
 omega
def numsR (l:List Int) (m:Int):Bool:=decide (l.length<=400) && upTo l m
theorem numsR_yes {l:List Int} {m:Int} (h:numsR l m=true):l.length<=400/\upTo l m=true:=by
 unfold numsR at h
 rw[Bool.and_eq_true]at h
 exact⟨of_decide_eq_true h.1,h.2⟩
theorem numsR_long {l:List Int} {m:Int} (h:400<l.length):numsR l m=false:=by
 unfold numsR
 rw[decide_eq_false (by omega)]
 rfl
theorem numsR_of {l:List Int} {m:Int} (h:l.length<=400):numsR l m=upTo l m:=by
 unfold numsR
 rw[decide_eq_true h]
 rfl
def zstep (s:List Int × Nat) (n:Int):List Int × Nat:=if n=0 then (s.1,s.2+1) else (s.1++zrun s.2++[n+1],0)
def zst (l:List Int):List Int × Nat:=l.foldl zstep ([],0)
theorem zst_more {l:List Int} {k:Nat} (h:k<l.length):zst (l.take (k+1))=zstep (zst (l.take k)) l[k]:=by
 unfold zst
 rw[Bi.take_more h,List.foldl_append]
 rfl
theorem zst_zero {l:List Int} {k:Nat} (h:k<l.length) (h0:l[k]=0):zst (l.take (k+1))=((zst (l.take k)).1,(zst (l.take k)).2+1):=by
 rw[zst_more h,zstep,if_pos h0]
theorem zst_other {l:List Int} {k:Nat} (h:k<l.length) (h0:¬l[k]=0):zst (l.take (k+1))=((zst (l.take k)).1++zrun (zst (l.take k)).2++[l[k]+1],0):=by
 rw[zst_more h,zstep,if_neg h0]
theorem zst_len (l:List Int):(zst l).1.length+(zst l).2<=l.length:=by
 suffices h:∀ k,k<=l.length->(zst (l.take k)).1.length+(zst (l.take k)).2<=k by
  have:=h l.length (Nat.le_refl _)
  rwa[List.take_length]at this
 intro k
 induction k with
 |zero=>intro _;simp[zst]
 |succ k ih =>
  intro hk
  have:=ih (by omega)
  by_cases h0:l[k]=0
  ·rw[zst_zero hk h0]
   simp only
   omega
  ·rw[zst_other hk h0]
   have hz:=zrun_len (zst (l.take k)).2
   simp only[List.length_append,List.length_cons,List.length_nil]
   omega
def zerosR (l:List Int):List Int:=if numsR l 255=true then (zst l).1++zrun (zst l).2 else []
theorem zerosR_yes {l:List Int} (h:numsR l 255=true):zerosR l=(zst l).1++zrun (zst l).2:=if_pos h
theorem zerosR_no {l:List Int} (h:numsR l 255=false):zerosR l=[]:=if_neg (by rw[h];decide)
theorem zerosR_len (l:List Int):(zerosR l).length<=l.length:=by
 unfold zerosR
 split
 ·rw[List.length_append]
  have:=zst_len l
  have:=zrun_len (zst l).2
  omega
 ·exact Nat.zero_le _
def bstep (s:List Int × Nat) (n:Int):List Int × Nat:=if 1<n then (s.1++[n-1],1) else (s.1++List.replicate ((n.toNat+1)*s.2) 0,s.2*2)
def bst (l:List Int):List Int × Nat:=l.foldl bstep ([],1)
def backR (l:List Int):List Int:=if numsR l 256=true/\(bst l).1.length<=400 then (bst l).1 else []
theorem backR_yes {l:List Int} (h:numsR l 256=true) (h2:(bst l).1.length<=400):backR l=(bst l).1:=if_pos ⟨h,h2⟩
theorem backR_no {l:List Int} (h:numsR l 256=false):backR l=[]:=if_neg fun x=>by rw[h]at x;exact absurd x.1 (by decide)
end Go.Proofs.YtjfdllgodijibaaGreatDoor.Ze


/- Plain mathematics of the row of all bytes: a byte is brought to its front, and looked for. -/
namespace Go.Proofs.YtjfdllgodijibaaGreatDoor.Fr
open Go.RowKit
open Sh (upd)
open Ze (numsR hideZ)
def front (f:Nat->Int) (k:Nat):Nat->Int:=fun j=>if j=0 then f k else if j<=k then f (j-1) else f j
def row0:Nat->Int:=fun j=>(j:Int)
def look (f:Nat->Int) (c:Int):Nat:=(List.range 256).findIdx fun k=>f k==c
def Full (f:Nat->Int):Prop:=(∀ c:Nat,c<256->∃ k,k<256/\f k=c)/\∀ k,k<256->0<=f k/\f k<256
theorem full0:Full row0:=⟨fun c h=>⟨c,h,rfl⟩,fun k h=>by unfold row0;omega⟩
theorem front_zero (f:Nat->Int) (k:Nat):front f k 0=f k:=if_pos rfl
theorem front_low (f:Nat->Int) (k j:Nat) (h0:j≠0) (h:j<=k):front f k j=f (j-1):=by
 unfold front
 rw[if_neg h0,if_pos h]
theorem front_high (f:Nat->Int) (k j:Nat) (h:k<j):front f k j=f j:=by
 unfold front
 rw[if_neg (by omega),if_neg (by omega)]
theorem Full.front {f:Nat->Int} (h:Full f) (k:Nat) (hk:k<256):Full (front f k):=by
 refine⟨fun c hc=>?_,fun j hj=>?_⟩
 ·obtain⟨i,hi,e⟩:=h.1 c hc
  rcases Nat.lt_trichotomy i k with hl|hl|hl
  ·exact⟨i+1,by omega,by rw[front_low f k (i+1) (by omega) (by omega)];exact e⟩
  ·exact⟨0,by omega,by rw[front_zero,<-hl];exact e⟩
  ·exact⟨i,hi,by rw[front_high f k i hl];exact e⟩
 ·by_cases h0:j=0
  ·subst h0;rw[front_zero];exact h.2 k hk
  ·by_cases h1:j<=k
   ·rw[front_low f k j h0 h1];exact h.2 (j-1) (by omega)
   ·rw[front_high f k j (by omega)];exact h.2 j hj
theorem find_get (N:Nat) (p:Nat->Bool) (h:(List.range N).findIdx p<(List.range N).length):p ((List.range N).findIdx p)=true:=by
 have h1:=List.findIdx_getElem (xs:=List.range N) (p:=p) (w:=h)
 have h2:(List.range N)[(List.range N).findIdx p]=(List.range N).findIdx p:=List.getElem_range h
 rw[h2]at h1
 exact h1
theorem look_some {f:Nat->Int} (hf:Full f) {c:Nat} (hc:c<256):look f c<256/\f (look f c)=c/\∀ i,i<look f c->f i≠c:=by
 obtain⟨k,hk,e⟩:=hf.1 c hc
 have hlt:look f c<(List.range 256).length:=by
  unfold look
  rw[List.findIdx_lt_length]
  exact⟨k,by simpa using hk,by simpa using e⟩
 have h1:look f c<256:=by simpa using hlt
 refine⟨h1,?_,fun i hi=>?_⟩
 ·exact beq_iff_eq.1 (find_get 256 (fun k=>f k==(c:Int)) hlt)
 ·have h2:i<(List.range 256).findIdx fun k=>f k==(c:Int):=hi
  have:=List.not_of_lt_findIdx h2
  simpa using this
def fstep (s:List Int × (Nat->Int)) (c:UInt8):List Int × (Nat->Int):=(s.1++[(look s.2 c.toNat:Int)],front s.2 (look s.2 c.toNat))
def fst' (l:List UInt8):List Int × (Nat->Int):=l.foldl fstep ([],row0)
theorem takeB {α:Type} {l:List α} {k:Nat} (h:k<l.length):l.take (k+1)=l.take k++[l[k]]:=List.take_succ_eq_append_getElem h
theorem fst_more {l:List UInt8} {k:Nat} (h:k<l.length):fst' (l.take (k+1))=((fst' (l.take k)).1++[(look (fst' (l.take k)).2 l[k].toNat:Int)],front (fst' (l.take k)).2 (look (fst' (l.take k)).2 l[k].toNat)):=by
 unfold fst'
 rw[takeB h,List.foldl_append]
 rfl
theorem fst_full (l:List UInt8):∀ k,k<=l.length->Full (fst' (l.take k)).2/\(fst' (l.take k)).1.length=k:=by
 intro k
 induction k with
 |zero=>intro _;exact⟨full0,rfl⟩
 |succ k ih =>
  intro hk
  obtain⟨h1,h2⟩:=ih (by omega)
  rw[fst_more hk]
  refine⟨h1.front _ (look_some h1 (c:=l[k].toNat) (UInt8.toNat_lt _)).1,?_⟩
  simp[h2]
def frontR (l:List UInt8):List Int:=if l.length<=400 then (fst' l).1 else []
theorem frontR_yes {l:List UInt8} (h:l.length<=400):frontR l=(fst' l).1:=if_pos h
theorem frontR_no {l:List UInt8} (h:400<l.length):frontR l=[]:=if_neg (by omega)
theorem frontR_len (l:List UInt8):(frontR l).length<=400:=by
 by_cases h:l.length<=400
 ·rw[frontR_yes h]
  have:=(fst_full l l.length (Nat.le_refl _)).2
  rw[List.take_length]at this
  omega
 ·rw[frontR_no (by omega)]
  exact Nat.zero_le _
def kstep (s:List UInt8 × (Nat->Int)) (n:Int):List UInt8 × (Nat->Int):=(s.1++[UInt8.ofNat (s.2 n.toNat).toNat],front s.2 n.toNat)
def kst (l:List Int):List UInt8 × (Nat->Int):=l.foldl kstep ([],row0)
def fbackR (l:List Int):List UInt8:=if numsR l 255=true then (kst l).1 else []
end Go.Proofs.YtjfdllgodijibaaGreatDoor.Fr


/- The row of all bytes in memory: how the program makes it, and brings a byte to its front. -/
namespace Go.Proofs.YtjfdllgodijibaaGreatDoor.Fr
open Go.RowKit
open Sh (IsB rowF upd rowF_size rowF_get rowF_one rowF_congr results_row below_row row_size upd_same upd_other)
open Ze (hideZ)
open St (Aft)
def copyF (f:Nat->Int) (p:Nat):Nat->Int:=fun j=>if j=0 then f 0 else if j<=p then f (j-1) else f j
def rise (k:Nat):Nat->Int:=fun j=>if j<k then (j:Int) else 0
theorem rise_next (k j:Nat):upd (rise k) k (k:Int) j=rise (k+1) j:=by
 unfold upd rise
 by_cases e:j=k
 ·subst e;rw[if_pos rfl,if_pos (by omega)]
 ·rw[if_neg e]
  by_cases h:j<k
  ·rw[if_pos h,if_pos (by omega)]
  ·rw[if_neg h,if_neg (by omega)]
theorem rise_all (j:Nat) (h:j<256):rise 256 j=row0 j:=if_pos h
end Go.Proofs.YtjfdllgodijibaaGreatDoor.Fr


namespace Go.Proofs.YtjfdllgodijibaaGreatDoor.Fr
open Go.RowKit
open Sh (IsB rowF upd made_row upd_same upd_other)
open Ze (hideZ)
open St (Aft)
theorem row_spec (w:World) :
  Calls Tryz.prog 93 #[] w fun e w'=>e=.returned (.slice (some ⟨w.heap.size,0,none⟩) 256 256)/\IsB w' w.heap.size 5 .u8 256 row0/\Below w.heap.size w w':=by
 obtain⟨i0,hi,hz0,hz1,hz2⟩:=info_parts Nu.Tryz.infoJ5
 go_enter Tryz.func93,Tryz.ntmps93
 go_wp2_with (at_make;refine wpList_make_full _ rfl (.const (.int .i64 256)) (.const (.int .i64 256)) 22 rfl w.heap.size 5 i0 (.int .u8 0) 1 Tryz.underlying22 hi hz0 hz1 .i64 .i64 _ _ 256 rfl rfl (by simp) (by simp) (by rw[hz2];omega) (by unfold maxLen;omega) (Nat.le_refl _) ?_;intro w1 hown1 hgrow1;have HR:=hideZ (made_row hown1);have HB:=hideZ ((Below.refl w.heap.size w).grown hgrow1 (Nat.le_refl _) (by simp));clear hown1 hgrow1)
 go_loopw [2] (fun i wr=>∃ k:Nat,i=.int .i64 k/\k<=256/\IsB wr w.heap.size 5 .u8 256 (rise k)/\Below w.heap.size w wr) (fun i _=>256-(intOf i).toNat)
 case atStart=>exact⟨0,rfl,by omega,HR.out.congr (fun j _=>by unfold rise;rw[if_neg (by omega)]),HB.out⟩
 case round =>
  obtain⟨k,rfl,hk,h1,hbel⟩:=hrel
  have G1:=hideZ h1
  have GB:=hideZ hbel
  by_cases hlt:k<256
  ·have ck:=h1.cell (j:=k) hlt
   have fk:=h1.frozen k
   have hwr:((k:Int))%256=(k:Int):=by omega
   have HN:=hideZ (h1.set k (k:Int))
   clear h1 hbel
   go_wp2_with fail
   go_roundw
   case rel=>exact⟨k+1,by go_num,by omega,HN.out.congr (fun j _=>rise_next k j),GB.out.setCell (by simp) _⟩
   case measure=>simp[intOf];omega
  ·obtain rfl:k=256:=by omega
   have G2:=hideZ (h1.congr (fun j hj=>rise_all j hj))
   clear h1 hbel
   go_wp2_with fail
   go_ret
   exact⟨rfl,G2.out,GB.out⟩
def downF (f:Nat->Int) (p k:Nat):Nat->Int:=fun j=>if k<j/\j<=p then f (j-1) else f j
theorem down_start (f:Nat->Int) (p j:Nat):downF f p p j=f j:=by
 unfold downF
 rw[if_neg (by omega)]
theorem down_next (f:Nat->Int) (p k j:Nat) (h:k+1<=p):upd (downF f p (k+1)) (k+1) (f k) j=downF f p k j:=by
 unfold upd downF
 by_cases e:j=k+1
 ·subst e
  rw[if_pos rfl,if_pos (by omega)]
  rfl
 ·rw[if_neg e]
  by_cases h2:k+1<j/\j<=p
  ·rw[if_pos h2,if_pos (by omega)]
  ·rw[if_neg h2,if_neg (by omega)]
theorem down_at (f:Nat->Int) (p k:Nat):downF f p (k+1) k=f k:=by
 unfold downF
 rw[if_neg (by omega)]
theorem down_front (f:Nat->Int) (p j:Nat):upd (downF f p 0) 0 (f p) j=front f p j:=by
 unfold upd downF front
 by_cases h:j=0
 ·rw[if_pos h,if_pos h]
 ·rw[if_neg h,if_neg h]
  by_cases h2:j<=p
  ·rw[if_pos (by omega),if_pos h2]
  ·rw[if_neg (by omega),if_neg h2]
theorem front_spec (g p c:Nat) (t:TypeId) (f:Nat->Int) (w:World) (hb:IsB w g t .u8 256 f) (hp:p<256) :
  Calls Tryz.prog 94 #[.slice (some ⟨g,0,none⟩) 256 c,.int .i64 p] w fun e w'=>e=.returned (.tuple #[])/\IsB w' g t .u8 256 (front f p)/\Aft g w w':=by
 have c0:=hb.cell hp
 have HB:=hideZ hb
 have HA:=hideZ (Aft.refl g w)
 obtain⟨x,hx⟩:∃ x,x=f p:=⟨_,rfl⟩
 have HX:=hideZ hx
 rw[<-hx]at c0
 clear hx hb
 go_enter Tryz.func94,Tryz.ntmps94
 go_wp2_with fail
 go_loopw [1] (fun i wr=>∃ k:Nat,i=.int .i64 k/\k<=p/\IsB wr g t .u8 256 (downF f p k)/\Aft g w wr) (fun i _=>(intOf i).toNat)
 case atStart=>exact⟨p,rfl,Nat.le_refl _,HB.out.congr (fun j _=>(down_start f p j).symm),HA.out⟩
 case round =>
  obtain⟨k,rfl,hk,h1,ha⟩:=hrel
  have G1:=hideZ h1
  have GA:=hideZ ha
  cases k with
  |zero =>
   have c1:=h1.cell (j:=0) (by omega)
   have f1:=h1.frozen 0
   have HF:=hideZ (h1.set 0 x)
   clear h1 ha
   go_wp2_with fail
   refine bodyPost_end (v:=.tuple #[]) (by simp[results,Tryz.results94,go_sem]) rfl ⟨rfl,HF.out.congr (fun j _=>?_),GA.out.set 0 _⟩
   rw[HX.out]
   exact down_front f p j
  |succ k =>
   have c1:=h1.cell (j:=k) (by omega)
   have c2:=h1.cell (j:=k+1) (by omega)
   have f1:=h1.frozen (k+1)
   obtain⟨y,hy⟩:∃ y,y=f k:=⟨_,rfl⟩
   rw[down_at,<-hy]at c1
   have HF:Hid (IsB (wr.setCell ⟨g,k+1,none⟩ (.int .u8 y)) g t .u8 256 (downF f p k)):=by
    have:=(h1.set (k+1) y).congr (f':=downF f p k) (fun j _=>by rw[hy];exact down_next f p k j hk)
    exact this
   have e1:((k+1:Nat):Int)=(k:Int)+1:=by omega
   have e2:((k:Int)+1).toNat=k+1:=by omega
   rw[e1]
   clear h1 ha hy e1
   go_wp2_with fail
   go_roundw
   case rel=>exact⟨k,by go_num,by omega,HF.out,GA.out.set (k+1) _⟩
   case measure=>simp[intOf]
end Go.Proofs.YtjfdllgodijibaaGreatDoor.Fr

