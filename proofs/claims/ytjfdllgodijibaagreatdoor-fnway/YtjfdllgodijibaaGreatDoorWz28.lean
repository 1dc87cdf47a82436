/- Texts put together: IntArg, WholeWalks, ZeroApp, IntHeld, IntIn, ZeroWalks, ZeroTop, ZeroSpec, FrontB. -/
import Derived.Test.YtjfdllgodijibaaGreatDoorWz15
import Derived.Test.YtjfdllgodijibaaGreatDoorWz27
import Derived.Test.YtjfdllgodijibaaGreatDoorWz24
import Derived.Test.YtjfdllgodijibaaGreatDoorWz17
set_option maxRecDepth 100000
set_option maxHeartbeats 8000000
/- A slice of numbers that came in. -/
namespace Go.Proofs.YtjfdllgodijibaaGreatDoor.In
open Go.RowKit
def IsNums (w:World) (a:Option Addr) (len cap:Nat) (zs:List Int):Prop :=
 (a=none/\len=0/\cap=0/\zs=[]) ∨
 ∃ x,a=some x/\len<=cap/\cap<=maxLen/\zs.length=cap/\(∀ i,i<zs.length->w.cell? (x.add i)=some (.int .i64 (zs.getD i 0)))/\∀ n∈zs,(Lit.int .i64 n).wf=true
def Wf (l:List Int):Prop:=∀ n∈l,-9223372036854775808<=n/\n<=9223372036854775807
theorem Wf.get {l:List Int} (h:Wf l) (j:Nat) (hj:j<l.length):-9223372036854775808<=l[j]/\l[j]<=9223372036854775807:=h _ (List.getElem_mem hj)
end Go.Proofs.YtjfdllgodijibaaGreatDoor.In


/- The walks of the program's own helpers on lengths. -/
namespace Go.Proofs.YtjfdllgodijibaaGreatDoor.Bi
open Go.RowKit
open In (Ints)
open Ze (upTo upTo_yes upTo_of upTo_bad)
theorem part_pos (x:Int) (h0:0<x) (h2:x<=12):∃ n:Nat,x=n/\1<=n/\n<=12/\part x=2 ^ (12-n):=⟨x.toNat,by omega,by omega,by omega,by unfold part;rw[if_pos h0]⟩
theorem part_none (x:Int) (h0:¬0<x):part x=0:=if_neg h0
end Go.Proofs.YtjfdllgodijibaaGreatDoor.Bi


/- An append of so many zeros onto a row of numbers of the call's own. -/
namespace Go.Proofs.YtjfdllgodijibaaGreatDoor.Ze
open Go.RowKit
end Go.Proofs.YtjfdllgodijibaaGreatDoor.Ze


/- The laws' marks found again; an empty row too. -/
namespace Go.Proofs.YtjfdllgodijibaaGreatDoor.In
open Go.RowKit
end Go.Proofs.YtjfdllgodijibaaGreatDoor.In


/- Rows of numbers between two marks of memory: what the laws' helpers do with them. -/
namespace Go.Proofs.YtjfdllgodijibaaGreatDoor.In
open Go.RowKit
open St (Aft)
def OwnIn (w:World) (lo hi:Nat) (v:Value) (l:List Int):Prop :=
 (v=.slice none 0 0/\l=[])∨∃ g cap,v=.slice (some ⟨g,0,none⟩) l.length cap/\lo<=g/\g<hi/\IsO w g 2 l
theorem OwnIn.below {w w':World} {lo hi B:Nat} {v:Value} {l:List Int} (h:OwnIn w lo hi v l) (b:Below B w w') (hB:hi<=B):OwnIn w' lo hi v l:=by
 rcases h with h|⟨g,cap,hv,hg,hh,ho⟩
 ·exact .inl h
 ·exact .inr ⟨g,cap,hv,hg,hh,ho.below b (by omega)⟩
theorem OwnIn.aft {w w':World} {lo hi g:Nat} {v:Value} {l:List Int} (h:OwnIn w lo hi v l) (ha:Aft g w w') (hg:g<lo∨hi<=g) (hh:hi<=w.heap.size):OwnIn w' lo hi v l:=by
 rcases h with h|⟨g',cap,hv,hg',hh',ho⟩
 ·exact .inl h
 ·exact .inr ⟨g',cap,hv,hg',hh',ho.of_heap (ha.2.2.2.2 g' (by omega) (by omega))⟩
theorem OwnIn.ints {w:World} {lo hi:Nat} {v:Value} {l:List Int} (h:OwnIn w lo hi v l):∃ a cap,v=.slice a l.length cap/\Ints w hi a l:=by
 rcases h with⟨rfl,rfl⟩|⟨g,cap,rfl,_,hh,ho⟩
 ·exact⟨none,0,rfl,.inl rfl⟩
 ·exact⟨_,cap,rfl,ho.ints hh⟩
def IntMarked (w:World) (lo hi:Nat) (v:Value) (n:Nat):Prop:=OwnIn w lo hi v (marks 1 n)
end Go.Proofs.YtjfdllgodijibaaGreatDoor.In


/- The walks of both ZerosOf. -/
namespace Go.Proofs.YtjfdllgodijibaaGreatDoor.Ze
open Go.RowKit
open Bi (ret_boolB)
open In (Ints OwnI one_newI one_cellI app_one)
open In.Tryz (infoI2)
theorem OwnI.alloc {w:World} {base:Nat} {v:Value} {l:List Int} (h:OwnI w base v l) (o:Obj):OwnI (w.alloc o) base v l :=
 h.below ((Below.refl _ _).alloc (Nat.le_refl _) o)
end Go.Proofs.YtjfdllgodijibaaGreatDoor.Ze


/- What both ZerosOf answer. -/
namespace Go.Proofs.YtjfdllgodijibaaGreatDoor.Ze
open Go.RowKit
open Bi (ret_boolB is_yes is_no)
open In (Ints OwnI one_newI one_cellI app_one)
open In.Tryz (infoI2)
theorem OwnI.empty (w:World):OwnI (w.alloc (.cells #[] 2)) w.heap.size (.slice (some ⟨w.heap.size,0,none⟩) 0 0) [] :=
 ⟨rfl,.inr ⟨w.heap.size,0,#[],rfl,Nat.le_refl _,heap_alloc_last w _,Nat.le_refl _,by decide,rfl,rfl⟩⟩
end Go.Proofs.YtjfdllgodijibaaGreatDoor.Ze


namespace Go.Proofs.YtjfdllgodijibaaGreatDoor.Ze
open Go.RowKit
open Bi (ret_boolB is_yes is_no)
open In (Ints OwnI IsO one_newI one_cellI app_one)
open In.Tryz (infoI2)
theorem nums_spec (l:List Int) (m:Int) (a:Option Addr) (cap B:Nat) (w:World) (hi:Ints w B a l) (hn:l.length<=1048576) :
  Calls Tryz.prog 91 #[.slice a l.length cap,.int .i64 m] w fun e w'=>e=.returned (.bool (numsR l m))/\w'=w:=by
 have HS:=hideZ hi
 clear hi
 obtain⟨n,hln⟩:∃ n,n=l.length:=⟨_,rfl⟩
 have HLN:=hideZ hln
 rw[<-hln]at hn ⊢
 clear hln
 go_enter Tryz.func91,Tryz.ntmps91
 go_wp2_with fail
 go_loopw [5] (fun i wr=>∃ k:Nat,i=.int .i64 k/\k<=n/\(∀ j (hj:j<l.length),j<k->0<=l[j]/\l[j]<=m)/\wr=w) (fun i _=>n-(intOf i).toNat)
 case atStart=>exact⟨0,rfl,Nat.zero_le _,fun j hj h0=>absurd h0 (Nat.not_lt_zero j),rfl⟩
 case round =>
  obtain⟨k,rfl,hk,hall,hw⟩:=hrel
  subst hw
  have HA:=hideZ hall
  clear hall
  by_cases hlt:k<n
  ·have hkl:k<l.length:=by rw[<-HLN.out];exact hlt
   obtain⟨b,off,rfl,hb,hc⟩:=HS.out.some (by omega)
   have ci:=hc k hkl
   obtain⟨x,hx⟩:∃ x,x=l[k]:=⟨_,rfl⟩
   have HX:=hideZ hx
   rw[<-hx]at ci
   clear hc hx
   by_cases h0:x<0∨m<x
   ·have HE:Hid (numsR l m=false):=by
     have:=upTo_bad (m:=m) hkl (by rw[<-HX.out];exact h0)
     unfold Hid numsR
     rw[this,Bool.and_false]
    have HI:=hideZ (is_no x 0 m wr h0)
    clear h0
    go_wp2_with fail
    refine HI.out.mono ?_
    rintro e w' ⟨rfl,hw⟩
    subst w'
    go_wp2_with fail
    go_ret
    exact⟨ret_boolB HE.out.symm,rfl⟩
   ·have HI:=hideZ (is_yes x 0 m wr (by omega) (by omega))
    have HX2:Hid (0<=x/\x<=m):=by
     unfold Hid
     omega
    clear h0
    go_wp2_with fail
    refine HI.out.mono ?_
    rintro e w' ⟨rfl,hw⟩
    subst w'
    go_wp2_with fail
    go_roundw
    case rel =>
     refine⟨k+1,by go_num,by omega,fun j hj hjk=>?_,trivial⟩
     by_cases e:j=k
     ·subst e
      rw[<-HX.out]
      exact HX2.out
     ·exact HA.out j hj (by omega)
    case measure=>simp[intOf];omega
  ·have HU:Hid (upTo l m=true):=upTo_of (fun x hx=>by
    obtain⟨j,hj,rfl⟩:=List.getElem_of_mem hx
    exact HA.out j hj (by have:=HLN.out;omega))
   by_cases h4:n<=400
   ·have HE:Hid (numsR l m=true):=by
     unfold Hid
     rw[numsR_of (by have:=HLN.out;omega)]
     exact HU.out
    have h4':(n:Int)<=400:=by omega
    go_wp2_with fail
    go_ret
    exact⟨ret_boolB HE.out.symm,rfl⟩
   ·have HE:Hid (numsR l m=false):=numsR_long (by have:=HLN.out;omega)
    have h4':decide ((n:Int)<=400)=false:=decide_eq_false (by omega)
    go_wp2_with fail
    go_ret
    exact⟨ret_boolB HE.out.symm,rfl⟩
theorem run_spec (r:Nat) (w:World) (hs:r<=1048576) :
  Calls Tryz.prog 92 #[.int .i64 r] w fun e w'=>∃ v,e=.returned v/\OwnI w' w.heap.size v (zrun r)/\v≠.slice none 0 0/\Below w.heap.size w w':=by
 obtain⟨i0,hi0,hz0,hz1,hz2⟩:=info_parts infoI2
 have HW:=hideZ (OwnI.empty w)
 go_enter Tryz.func92,Tryz.ntmps92
 go_wp2_with fail
 go_loopw [3,0] (fun u m wr=>∃ (l':List Int) (r':Nat),m=.int .i64 r'/\OwnI wr w.heap.size u l'/\u≠.slice none 0 0/\l'++zrun r'=zrun r/\l'.length+r'<=1048576/\Below w.heap.size w wr) (fun _ m _=>(intOf m).toNat)
 case atStart=>exact⟨[],r,rfl,HW.out,by simp,rfl,by simpa using hs,(Below.refl _ _).alloc (Nat.le_refl _) _⟩
 case round =>
  obtain⟨l',r',rfl,hown,hne,he,hs',hbel⟩:=hrel
  have G1:=hideZ hown
  have GB:=hideZ hbel
  have HE:=hideZ he
  have hz:=hbel.size
  have HS:=hideZ hs'
  have hs2:r'<=1048576:=by omega
  clear he hbel hs'
  obtain⟨a',cap',rfl,_,_⟩:=hown.ints
  have HNE:=hideZ hne
  clear hown hne
  by_cases h0:0<r'
  ·by_cases h1:r' % 2=1
   ·have hq:(r':Int).tmod 2=1:=by rw[Int.tmod_eq_emod_of_nonneg (by omega)];omega
    have hd:((r':Int)-1).tdiv 2=(((r' - 1)/2:Nat):Int):=by rw[Int.tdiv_eq_ediv_of_nonneg (by omega)];omega
    have HZ:Hid (l'++([0]++zrun ((r' - 1)/2))=zrun r):=by
     unfold Hid
     rw[<-HE.out,zrun_odd h1]
     rfl
    go_wp2_with (at_builtin;refine wpList_append_own _ rfl (.tmp 10) (.tmp 11) 44 rfl w.heap.size 2 i0 (.int .i64 0) 1 8 Tryz.underlying44 hi0 hz0 hz1 hz2 rfl (by decide) _ _ _ rfl (OwnI.alloc G1.out _) ⟨wr.heap.size,0,none⟩ 1 1 [.int .i64 0] rfl rfl (one_newI _ _ _) (one_cellI _) (by unfold maxLen;have:=HS.out;omega) (by have:=HS.out;omega) (by simp;omega) ?_)
    intro v' w5 hown' hgrow hnn
    have N5:=hideZ (OwnI.snoc hown')
    have b5:=hideZ (app_one GB.out (by omega) (Nat.le_refl _) G1.out hgrow)
    have HN5:Hid (v'≠.slice none 0 0):=hnn
    clear hown' hgrow hnn
    go_wp2_with fail
    go_roundw
    case rel=>exact⟨l'++[0],(r' - 1)/2,by go_num,N5.out,HN5.out,by rw[List.append_assoc];exact HZ.out,by have:=HS.out;simp;omega,b5.out⟩
    case measure=>simp[intOf];omega
   ·have hq:(r':Int).tmod 2=0:=by rw[Int.tmod_eq_emod_of_nonneg (by omega)];omega
    have hd:((r':Int)-2).tdiv 2=(((r' - 2)/2:Nat):Int):=by rw[Int.tdiv_eq_ediv_of_nonneg (by omega)];omega
    have HZ:Hid (l'++([1]++zrun ((r' - 2)/2))=zrun r):=by
     unfold Hid
     rw[<-HE.out,zrun_even h0 h1]
     rfl
    go_wp2_with (at_builtin;refine wpList_append_own _ rfl (.tmp 16) (.tmp 17) 44 rfl w.heap.size 2 i0 (.int .i64 0) 1 8 Tryz.underlying44 hi0 hz0 hz1 hz2 rfl (by decide) _ _ _ rfl (OwnI.alloc G1.out _) ⟨wr.heap.size,0,none⟩ 1 1 [.int .i64 1] rfl rfl (one_newI _ _ _) (one_cellI _) (by unfold maxLen;have:=HS.out;omega) (by have:=HS.out;omega) (by simp;omega) ?_)
    intro v' w5 hown' hgrow hnn
    have N5:=hideZ (OwnI.snoc hown')
    have b5:=hideZ (app_one GB.out (by omega) (Nat.le_refl _) G1.out hgrow)
    have HN5:Hid (v'≠.slice none 0 0):=hnn
    clear hown' hgrow hnn
    go_wp2_with fail
    go_roundw
    case rel=>exact⟨l'++[1],(r' - 2)/2,by go_num,N5.out,HN5.out,by rw[List.append_assoc];exact HZ.out,by have:=HS.out;simp;omega,b5.out⟩
    case measure=>simp[intOf];omega
  ·obtain rfl:r'=0:=by omega
   have HZ:Hid (l'=zrun r):=by
    unfold Hid
    rw[<-HE.out,zrun_zero,List.append_nil]
   go_wp2_with fail
   go_ret
   exact⟨_,rfl,by rw[<-HZ.out];exact G1.out,HNE.out,GB.out⟩
theorem own_some {w:World} {base:Nat} {v:Value} {l:List Int} (h:OwnI w base v l) (hn:v≠.slice none 0 0) :
  ∃ g cap,v=.slice (some ⟨g,0,none⟩) l.length cap/\base<=g/\g<w.heap.size/\IsO w g 2 l:=by
 rcases h.split with⟨rfl,_⟩|⟨g,cap,rfl,hg,_,ho⟩
 ·exact absurd rfl hn
 ·exact⟨g,cap,rfl,hg,ho.lt,ho⟩
theorem own_news {w:World} {g:Nat} {l:List Int} (h:IsO w g 2 l):∀ (j:Nat) (u:Value),(l.map (Value.int .i64))[j]? = some u->w.cell? ((⟨g,0,none⟩:Addr).add j)=some u:=by
 intro j u hj
 rw[List.getElem?_map]at hj
 cases hl:l[j]? with
 |none=>rw[hl]at hj;cases hj
 |some x =>
  rw[hl]at hj
  obtain⟨hlt,hx⟩:=List.getElem?_eq_some_iff.1 hl
  have hadd:(⟨g,0,none⟩:Addr).add j=⟨g,j,none⟩:=by unfold Addr.add;split<;>simp_all
  rw[hadd,h.cell hlt,hx]
  exact hj
theorem own_cells (l:List Int):∀ u∈l.map (Value.int .i64),u.oneCell'=true:=by
 intro u hu
 obtain⟨x,_,rfl⟩:=List.mem_map.1 hu
 rfl
theorem OwnI.joined {w:World} {base:Nat} {v:Value} {l p:List Int} (h:w.ownsRow base 2 1 v (l.length+p.length) (l.map (Value.int .i64)++p.map (Value.int .i64))):OwnI w base v (l++p):=by
 unfold OwnI
 rw[List.length_append,List.map_append]
 exact h
theorem app_row {B base:Nat} {e:TypeId} {w0 w w1:World} {v:Value} {n size:Nat} {xs:List Value} (hbel:Below B w0 w) (hB:B<=w.heap.size) (hBb:B<=base)
  (hown:w.ownsRow base e size v n xs) (hgrow:w.grownBy w1 v.ownBlock):Below B w0 w1:=by
 refine hbel.grown hgrow hB ?_
 intro k hk
 exact Nat.le_trans hBb (hown.lt k hk).1
end Go.Proofs.YtjfdllgodijibaaGreatDoor.Ze


/- What both FrontBack answer. -/
namespace Go.Proofs.YtjfdllgodijibaaGreatDoor.Fr
open Go.RowKit
open Sh (IsB rowF upd made_row upd_same upd_other strF)
open Ze (hideZ numsR upTo upTo_yes numsR_of numsR_long numsR_yes nums_spec)
open St (Aft)
open In (Ints)
open Nu (ret_strJ bv own_string app_below)
def fillB (b:List UInt8):Nat->Nat:=fun j=>(b.getD j 0).toNat
end Go.Proofs.YtjfdllgodijibaaGreatDoor.Fr

