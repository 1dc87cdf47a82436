/- Texts put together: LsArg, LsOut, IntLaws, IntMark, IntOwn, TextWalks, IntHeld, IntIn, StrArg, StrEq, KhSort, PmCopy, StrRow. -/
import Derived.Test.YtpddanmnlkcdpaaGreatDoorHz21
import Derived.Test.YtpddanmnlkcdpaaGreatDoorHz30
import Derived.BigRegion
import Derived.BigQuiet
import Derived.Deep.QuietTactic
import Derived.Test.YtpddanmnlkcdpaaGreatDoorHz12
import Derived.Laws.AppendOwn
import Derived.Test.YtpddanmnlkcdpaaGreatDoorHz20
import Derived.Test.YtpddanmnlkcdpaaGreatDoorHz11
import Derived.Shelf.SortG.Plain
import Derived.Shelf.SortG.SortNone
import Derived.Shelf.SlGeneric
import Derived.Ground.SlgnProg
import Derived.Sort.OwnSortedInts
import Derived.Test.YtpddanmnlkcdpaaGreatDoorChecked
import Derived.Laws.CopyRow
set_option maxRecDepth 100000
set_option maxHeartbeats 8000000
namespace Go.Proofs.YtpddanmnlkcdpaaGreatDoor.Ls
open Go.RowKit
theorem sz_yes (z b:Int) (r:ByteArray) (w:World) (h:r.size<=1048576) :
  Calls Tryz.prog 56 #[lV z b r,.int .i64 1048576] w fun e w'=>e=.returned (.int .i64 (1048576-(r.size:Int)))/\Below w.heap.size w w':=by
 unfold lV
 have hwr:IntKind.i64.wrap (1048576-(r.size:Int))=1048576-(r.size:Int):=by rw[IntKind.wrap_i64];omega
 have h1:¬(1048576-(r.size:Int))<0:=by omega
 have h2:decide ((1048576-(r.size:Int))<0)=false:=by simp;omega
 go_enter Tryz.func56,Tryz.ntmps56
 go_wp2_with fail
 go_ret
 exact⟨rfl,(Below.refl _ _).alloc (Nat.le_refl _) _⟩
theorem sz_no (z b:Int) (r:ByteArray) (w:World) (hr:r.size<=9223372036854775807) (h:1048576<r.size) :
  Calls Tryz.prog 56 #[lV z b r,.int .i64 1048576] w fun e w'=>e=.returned (.int .i64 (-1))/\Below w.heap.size w w':=by
 unfold lV
 have hwr:IntKind.i64.wrap (1048576-(r.size:Int))=1048576-(r.size:Int):=by rw[IntKind.wrap_i64];omega
 have h1:(1048576-(r.size:Int))<0:=by omega
 go_enter Tryz.func56,Tryz.ntmps56
 go_wp2_with fail
 go_ret
 exact⟨rfl,(Below.refl _ _).alloc (Nat.le_refl _) _⟩
theorem to_any (z b:Int) (r:ByteArray) (w:World) :
  Calls Tryz.prog 63 #[lV z b r] w fun e w'=>e=.returned (lV z b r)/\Below w.heap.size w w':=by
 unfold lV
 go_enter Tryz.func63,Tryz.ntmps63
 go_wp2
 refine bodyPost_ret (v:=.agg #[.int .i64 z,.int .i64 b,.string r]) (by simp[results,Tryz.results63,go_sem]) rfl ⟨rfl,?_⟩
 exact(((Below.refl _ _).alloc (Nat.le_refl _) _).alloc (by simp) _).alloc (by simp;omega) _
theorem blkL {w w':World} {g:Nat} {x:Obj} (h:w.heap[g]? = some x) (hb:Below w.heap.size w w'):w'.heap[g]? = some x:=(hb.block g (Array.getElem?_eq_some_iff.1 h).1).trans h
theorem lowL {w0 w w':World} (h:Below w0.heap.size w0 w) (hb:Below w.heap.size w w'):Below w0.heap.size w0 w':=h.trans (hb.mono h.size)
theorem cells3 {W:World} {g:Nat} {x y z:Value} {t:TypeId} (h:W.heap[g]? = some (.cells #[x,y,z] t (0,0))):W.cell? ⟨g,0,none⟩=some x/\W.cell? ⟨g,1,none⟩=some y/\W.cell? ⟨g,2,none⟩=some z :=
 ⟨cell_of_row W g 0 _ _ _ h,cell_of_row W g 1 _ _ _ h,cell_of_row W g 2 _ _ _ h⟩
end Go.Proofs.YtpddanmnlkcdpaaGreatDoor.Ls


namespace Go.Proofs.YtpddanmnlkcdpaaGreatDoor.Ls
open Go.RowKit
def oV (z b:Int) (r:ByteArray) (c:Int):Value:=.agg #[.int .i64 z,.int .i64 b,.string r,.int .i64 c]
theorem blk_alloc {W:World} {g:Nat} {x:Obj} (h:W.heap[g]? = some x) (o:Obj):(W.alloc o).heap[g]? = some x:=blkL h ((Below.refl _ _).alloc (Nat.le_refl _) o)
theorem eqL_same (z b:Int) (r:ByteArray) (w:World) :
  Calls Tryz.prog 79 #[.agg #[.int .i64 z,.int .i64 b,.string r],.agg #[.int .i64 z,.int .i64 b,.string r]] w fun e w'=>e=.returned (.bool true)/\Below w.heap.size w w':=by
 have h1:(z != z)=false:=by simp
 have h2:(b != b)=false:=by simp
 go_enter Tryz.func79,Tryz.ntmps79
 go_wp2
 go_ret
 exact⟨rfl,((Below.refl _ _).alloc (Nat.le_refl _) _).alloc (by simp) _⟩
end Go.Proofs.YtpddanmnlkcdpaaGreatDoor.Ls


namespace Go.Proofs.YtpddanmnlkcdpaaGreatDoor.In
open Go.RowKit
/-- two rows of the same numbers are alike -/
theorem eq_any (a b:Option Addr) (cap cap':Nat) (l:List Int) (w:World) (B:Nat) (ha:Ints w B a l) (hb:Ints w B b l) (hn:l.length<=1048576) :
  Calls Tryz.prog 117 #[.slice a l.length cap,.slice b l.length cap'] w fun e w'=>e=.returned (.bool true)/\Below w.heap.size w w':=by
 have HA:=hideI ha
 have HB:=hideI hb
 clear ha hb
 obtain⟨n,hln⟩:∃ n,n=l.length:=⟨_,rfl⟩
 have HLN:=hideI hln
 rw[<-hln]at hn ⊢
 clear hln
 go_enter Tryz.func117,Tryz.ntmps117
 go_wp2_with fail
 go_loopw [5] (fun i wr=>∃ k:Nat,i=.int .i64 k/\k<=n/\(∀ p:Addr,wr.cell? p=w.cell? p)/\Below w.heap.size w wr) (fun i _=>n-(intOf i).toNat)
 case atStart=>exact⟨0,rfl,by omega,fun _=>rfl,Below.refl _ _⟩
 case round =>
  obtain⟨k,rfl,hk,hcell,hbel⟩:=hrel
  have HC:=hideI hcell
  have GB:=hideI hbel
  by_cases hlt:k<n
  ·have hkl:k<l.length:=by rw[<-HLN.out];exact hlt
   obtain⟨b1,off1,rfl,_,hc1⟩:=HA.out.some (by omega)
   obtain⟨b2,off2,rfl,_,hc2⟩:=HB.out.some (by omega)
   have c1:=(hcell _).trans (hc1 k hkl)
   have c2:=(hcell _).trans (hc2 k hkl)
   obtain⟨s,hs⟩:∃ s,s=l[k]:=⟨_,rfl⟩
   rw[<-hs]at c1 c2
   clear hc1 hc2 hcell hbel hs
   go_wp2_with fail
   go_region
   all_goals (try go_wp2_with fail)
   all_goals go_roundw
   case rel=>exact⟨k+1,by go_num,by omega,fun p=>HC.out p,GB.out.drew⟩
   case measure=>simp[intOf];omega
  ·clear hcell hbel
   go_wp2_with fail
   go_ret
   exact⟨rfl,GB.out⟩
end Go.Proofs.YtpddanmnlkcdpaaGreatDoor.In


/- The laws' marks in rows of numbers: written, and found again. -/
namespace Go.Proofs.YtpddanmnlkcdpaaGreatDoor.In
open Go.RowKit
open St (Aft)
def IsO (w:World) (g t:Nat) (l:List Int):Prop:=∃ cur:Array Value,w.heap[g]? = some (.cells cur t (0,0))/\∀ j (h:j<l.length),cur[j]? = some (.int .i64 l[j])
theorem IsO.cell {w:World} {g t:Nat} {l:List Int} (h:IsO w g t l) {j:Nat} (hj:j<l.length):w.cell? ⟨g,j,none⟩=some (.int .i64 l[j]):=by
 obtain⟨cur,hb,hc⟩:=h
 rw[cell_of_row w g j _ t (0,0) hb,hc j hj]
theorem IsO.frozen {w:World} {g t:Nat} {l:List Int} (h:IsO w g t l) (j:Nat):w.frozen? ⟨g,j,none⟩=false:=by
 obtain⟨cur,hb,_⟩:=h
 exact frozen_of_row w g j _ t hb
theorem IsO.lt {w:World} {g t:Nat} {l:List Int} (h:IsO w g t l):g<w.heap.size:=by
 obtain⟨cur,hb,_⟩:=h
 exact(Array.getElem?_eq_some_iff.1 hb).1
theorem IsO.ints {w:World} {g t B:Nat} {l:List Int} (h:IsO w g t l) (hB:g<B):Ints w B (some ⟨g,0,none⟩) l :=
 .inr ⟨g,0,rfl,hB,fun j hj=>by rw[Nat.zero_add];exact h.cell hj⟩
def marks (k n:Nat):List Int:=(List.range n).map fun j=>((k+j:Nat):Int)
theorem marks_length (k n:Nat):(marks k n).length=n:=by simp[marks]
theorem marks_get (k n j:Nat) (h:j<(marks k n).length):(marks k n)[j]=((k+j:Nat):Int):=by simp[marks]
def mmid (l:List Int) (k i:Nat):List Int:=marks k i++l.drop i
theorem mmid_length (l:List Int) (k i:Nat) (h:i<=l.length):(mmid l k i).length=l.length:=by simp[mmid,marks_length];omega
theorem mmid_zero (l:List Int) (k:Nat):mmid l k 0=l:=by simp[mmid,marks]
theorem mmid_all (l:List Int) (k:Nat):mmid l k l.length=marks k l.length:=by simp[mmid]
theorem mmid_next (l:List Int) (k i:Nat) (h:i<l.length):(mmid l k i).set i (((k+i:Nat):Int))=mmid l k (i+1):=by
 unfold mmid
 rw[List.set_append,if_neg (by rw[marks_length];omega),marks_length,Nat.sub_self]
 have:marks k (i+1)=marks k i++[((k+i:Nat):Int)]:=by simp[marks,List.range_succ]
 rw[this,List.append_assoc]
 congr 1
 rw[List.drop_eq_getElem_cons h]
 rfl
end Go.Proofs.YtpddanmnlkcdpaaGreatDoor.In


/- Rows of numbers that a call has made and owns: nil, or a block of its own whose head they are. -/
namespace Go.Proofs.YtpddanmnlkcdpaaGreatDoor.In
open Go.RowKit
open St (Aft)
def OwnI (w:World) (base:Nat) (v:Value) (l:List Int):Prop:=w.ownsRow base 2 1 v l.length (l.map (Value.int .i64))
theorem OwnI.nil (w:World) (base:Nat):OwnI w base (.slice none 0 0) []:=World.ownsRow_nil w base _ _
theorem OwnI.split {w:World} {base:Nat} {v:Value} {l:List Int} (h:OwnI w base v l) :
  (v=.slice none 0 0/\l=[])∨∃ g cap,v=.slice (some ⟨g,0,none⟩) l.length cap/\base<=g/\l.length<=cap/\IsO w g 2 l:=by
 obtain⟨_,h⟩:=h
 rcases h with⟨h,h0⟩|⟨g,cap,cur,hv,hg,hb,hnc,_,hsz,htk⟩
 ·exact .inl ⟨h,List.eq_nil_of_length_eq_zero h0⟩
 ·refine .inr ⟨g,cap,hv,hg,hnc,cur,hb,fun j hj=>?_⟩
  rw[<-Array.getElem?_toList]
  have h1:cur.toList[j]? = (cur.toList.take (l.length*1))[j]?:=by rw[List.getElem?_take_of_lt (by omega)]
  rw[h1,htk]
  simp[hj]
theorem OwnI.below {w w':World} {base:Nat} {v:Value} {l:List Int} (h:OwnI w base v l) (b:Below w.heap.size w w'):OwnI w' base v l:=by
 obtain⟨hl,h⟩:=h
 refine⟨hl,?_⟩
 rcases h with h|⟨g,cap,cur,hv,hg,hb,rest⟩
 ·exact .inl h
 ·exact .inr ⟨g,cap,cur,hv,hg,by rw[b.block g (Array.getElem?_eq_some_iff.1 hb).1];exact hb,rest⟩
theorem OwnI.mono {w:World} {base base':Nat} {v:Value} {l:List Int} (h:OwnI w base v l) (hb:base'<=base):OwnI w base' v l:=by
 obtain⟨hl,h⟩:=h
 refine⟨hl,?_⟩
 rcases h with h|⟨g,cap,cur,hv,hg,rest⟩
 ·exact .inl h
 ·exact .inr ⟨g,cap,cur,hv,Nat.le_trans hb hg,rest⟩
theorem OwnI.ints {w:World} {base:Nat} {v:Value} {l:List Int} (h:OwnI w base v l):∃ a cap,v=.slice a l.length cap/\l.length<=cap/\Ints w w.heap.size a l:=by
 rcases h.split with⟨rfl,rfl⟩|⟨g,cap,rfl,_,hc,ho⟩
 ·exact⟨none,0,rfl,Nat.le_refl _,.inl rfl⟩
 ·exact⟨_,cap,rfl,hc,ho.ints ho.lt⟩
theorem one_newI (W:World) (s:Int) (t:TypeId):∀ (j:Nat) (u:Value),[(Value.int .i64) s][j]? = some u->(W.alloc (.cells #[.int .i64 s] t)).cell? ((⟨W.heap.size,0,none⟩:Addr).add j)=some u:=by
 intro j u hj
 match j,hj with
 |0,hj=>simp at hj;subst hj;simp[Addr.add]
theorem one_cellI (s:Int):∀ u∈[(Value.int .i64) s],u.oneCell'=true:=by
 intro u hu
 simp at hu
 subst hu
 rfl
theorem OwnI.snoc {w:World} {base:Nat} {v:Value} {l:List Int} {s:Int} (h:w.ownsRow base 2 1 v (l.length+1) (l.map (Value.int .i64)++[.int .i64 s])):OwnI w base v (l++[s]):=by
 unfold OwnI
 rw[List.length_append,List.map_append]
 exact h
theorem app_one {B base:Nat} {e:TypeId} {w0 w w1:World} {v:Value} {n size:Nat} {xs:List Value} {o:Obj} (hbel:Below B w0 w) (hB:B<=w.heap.size) (hBb:B<=base)
  (hown:w.ownsRow base e size v n xs) (hgrow:(w.alloc o).grownBy w1 v.ownBlock):Below B w0 w1:=by
 refine(hbel.alloc hB o).grown hgrow (by simp;omega) ?_
 intro k hk
 exact Nat.le_trans hBb (hown.lt k hk).1
end Go.Proofs.YtpddanmnlkcdpaaGreatDoor.In


namespace Go.Proofs.YtpddanmnlkcdpaaGreatDoor.Nu
open Go.RowKit
def putT (t:ByteArray):ByteArray:=if t.size<=8000 then putS (t.size:Int)++t else ⟨#[]⟩
theorem putS_size (n:Int):(putS n).size<=10:=by
 have:=(numB_length (zz n)).1
 simpa [putS,ByteArray.size] using this
theorem text_spec (t:ByteArray) (w:World) (ht:t.size<=maxLen) :
  Calls Tryz.prog 183 #[.string t] w fun e w'=>e=.returned (.string (putT t))/\Below w.heap.size w w':=by
 unfold maxLen at ht
 by_cases h:8000<t.size
 ·have HP:=hide (show putT t=⟨#[]⟩ by unfold putT;rw[if_neg (by omega)])
  go_enter Tryz.func183,Tryz.ntmps183
  go_wp2
  go_ret
  exact⟨ret_str HP.out.symm,Below.refl _ _⟩
 ·have HP:=hide (show putT t=putS (t.size:Int)++t by unfold putT;rw[if_pos (by omega)])
  have hps:=putS_size (t.size:Int)
  go_enter Tryz.func183,Tryz.ntmps183
  go_wp2_with fail
  refine(put_spec _ _ (by omega) (by omega)).mono ?_
  rintro e w1 ⟨rfl,hb1⟩
  go_wp2
  go_ret
  exact⟨ret_str HP.out.symm,hb1⟩
theorem text_impl (t:ByteArray) (w:World) (ht:t.size<=maxLen) :
  Calls Tryz.prog 227 #[.string t] w fun e w'=>e=.returned (.string (putT t))/\Below w.heap.size w w':=by
 unfold maxLen at ht
 by_cases h:8000<t.size
 ·have HP:=hide (show putT t=⟨#[]⟩ by unfold putT;rw[if_neg (by omega)])
  go_enter Tryz.func227,Tryz.ntmps227
  go_wp2
  go_ret
  exact⟨ret_str HP.out.symm,Below.refl _ _⟩
 ·have HP:=hide (show putT t=putS (t.size:Int)++t by unfold putT;rw[if_pos (by omega)])
  have hps:=putS_size (t.size:Int)
  go_enter Tryz.func227,Tryz.ntmps227
  go_wp2_with fail
  refine(put_impl _ _ (by omega) (by omega)).mono ?_
  rintro e w1 ⟨rfl,hb1⟩
  go_wp2_with fail
  refine(join_any _ _ _ (by omega)).mono ?_
  rintro e w2 ⟨rfl,hb2⟩
  go_wp2
  go_ret
  exact⟨ret_str HP.out.symm,hb1.trans (hb2.mono hb1.size)⟩
end Go.Proofs.YtpddanmnlkcdpaaGreatDoor.Nu


/- The laws' marks found again; an empty row too. -/
namespace Go.Proofs.YtpddanmnlkcdpaaGreatDoor.In
open Go.RowKit
end Go.Proofs.YtpddanmnlkcdpaaGreatDoor.In


/- Rows of numbers between two marks of memory: what the laws' helpers do with them. -/
namespace Go.Proofs.YtpddanmnlkcdpaaGreatDoor.In
open Go.RowKit
open St (Aft)
def OwnIn (w:World) (lo hi:Nat) (v:Value) (l:List Int):Prop :=
 (v=.slice none 0 0/\l=[])∨∃ g cap,v=.slice (some ⟨g,0,none⟩) l.length cap/\lo<=g/\g<hi/\IsO w g 2 l
def IntMarked (w:World) (lo hi:Nat) (v:Value) (n:Nat):Prop:=OwnIn w lo hi v (marks 1 n)
end Go.Proofs.YtpddanmnlkcdpaaGreatDoor.In


/- A slice of texts that came in. -/
namespace Go.Proofs.YtpddanmnlkcdpaaGreatDoor.St
open Go.RowKit
def IsStrs (w:World) (a:Option Addr) (len cap:Nat) (ss:List ByteArray):Prop :=
 (a=none/\len=0/\cap=0/\ss=[]) ∨
 ∃ x,a=some x/\len<=cap/\cap<=maxLen/\ss.length=cap/\(∀ i,i<ss.length->w.cell? (x.add i)=some (.string (ss.getD i ByteArray.empty)))/\∀ s∈ss,s.size<=maxLen
theorem strs_of {w:World} {a:Option Addr} {len cap:Nat} {ss:List ByteArray} (h:IsStrs w a len cap ss) :
  ∃ l:List ByteArray,l.length=len/\Strs w w.heap.size a l/\len<=maxLen/\len<=cap/\∀ s∈l,s.size<=maxLen:=by
 rcases h with⟨_,rfl,rfl,_⟩|⟨x,rfl,hlc,hm,hz,hc,hw⟩
 ·exact⟨[],rfl,.inl rfl,by decide,Nat.le_refl _,fun s hs=>by cases hs⟩
 ·refine⟨ss.take len,by rw[List.length_take];omega,?_,by omega,hlc,fun s hs=>hw s (List.mem_of_mem_take hs)⟩
  rcases Nat.eq_zero_or_pos len with h0|h0
  ·subst h0
   exact .inl rfl
  ·obtain⟨b,off,spot⟩:=x
   have hc0:=hc 0 (by omega)
   have hspot:spot=none:=by simpa [Addr.add] using World.cell?_spot hc0
   subst hspot
   have e:∀ i,(⟨b,off,none⟩:Addr).add i=⟨b,off+i,none⟩:=fun i=>by unfold Addr.add;split<;>simp_all
   have hlt:=World.block_lt_of_cell? w _ hc0
   rw[e 0]at hlt
   refine .inr ⟨b,off,rfl,hlt,fun j hj=>?_⟩
   rw[List.length_take]at hj
   have hj':j<ss.length:=by omega
   rw[<-e j,hc j hj',List.getElem_take,List.getD_eq_getElem?_getD,List.getElem?_eq_getElem hj']
   rfl
end Go.Proofs.YtpddanmnlkcdpaaGreatDoor.St


namespace Go.Proofs.YtpddanmnlkcdpaaGreatDoor.St
open Go.RowKit
/-- two rows of the same texts are alike -/
theorem eq_any (a b:Option Addr) (cap cap':Nat) (l:List ByteArray) (w:World) (B:Nat) (ha:Strs w B a l) (hb:Strs w B b l) (hn:l.length<=1048576) :
  Calls Tryz.prog 51 #[.slice a l.length cap,.slice b l.length cap'] w fun e w'=>e=.returned (.bool true)/\Below w.heap.size w w':=by
 have HA:=hideT ha
 have HB:=hideT hb
 clear ha hb
 obtain⟨n,hln⟩:∃ n,n=l.length:=⟨_,rfl⟩
 have HLN:=hideT hln
 rw[<-hln]at hn ⊢
 clear hln
 go_enter Tryz.func51,Tryz.ntmps51
 go_wp2_with fail
 go_loopw [5] (fun i wr=>∃ k:Nat,i=.int .i64 k/\k<=n/\(∀ p:Addr,wr.cell? p=w.cell? p)/\Below w.heap.size w wr) (fun i _=>n-(intOf i).toNat)
 case atStart=>exact⟨0,rfl,by omega,fun _=>rfl,Below.refl _ _⟩
 case round =>
  obtain⟨k,rfl,hk,hcell,hbel⟩:=hrel
  have HC:=hideT hcell
  have GB:=hideT hbel
  by_cases hlt:k<n
  ·have hkl:k<l.length:=by rw[<-HLN.out];exact hlt
   obtain⟨b1,off1,rfl,_,hc1⟩:=HA.out.some (by omega)
   obtain⟨b2,off2,rfl,_,hc2⟩:=HB.out.some (by omega)
   have c1:=(hcell _).trans (hc1 k hkl)
   have c2:=(hcell _).trans (hc2 k hkl)
   obtain⟨s,hs⟩:∃ s,s=l[k]:=⟨_,rfl⟩
   rw[<-hs]at c1 c2
   clear hc1 hc2 hcell hbel hs
   go_wp2_with fail
   go_region
   all_goals (try go_wp2_with fail)
   all_goals go_roundw
   case rel=>exact⟨k+1,by go_num,by omega,fun p=>HC.out p,GB.out.drew⟩
   case measure=>simp[intOf];omega
  ·clear hcell hbel
   go_wp2_with fail
   go_ret
   exact⟨rfl,GB.out⟩
end Go.Proofs.YtpddanmnlkcdpaaGreatDoor.St


/- slices.Sort at int64: a row of numbers of the call's own is put in order. -/
namespace Go.Proofs.YtpddanmnlkcdpaaGreatDoor.Kh
open Go.RowKit Go.Shelf
open Go.Sort (grow putRow)
open In (OwnI)
shelf_lay_g SlLaysN.n53 Slgn 53 at Tryz 77 as Tryz.sortI
end Go.Proofs.YtpddanmnlkcdpaaGreatDoor.Kh


/- copy of elements of several cells each, from a row in memory to a row in memory. -/
namespace Go.Proofs.YtpddanmnlkcdpaaGreatDoor.Pm
open Go
theorem run_copyZ {P:Program} (w:World) (dT sT ty elem:TypeId) (z g o dLen dCap:Nat) (a:Addr) (sLen sCap:Nat) (cur:Array Value) (t:TypeId) (cs:List Value)
  (hu:P.underlying dT=some (.slice elem)) (hs:(P.info? elem).map (·.size)=some z)
  (hg:w.heap[g]? = some (.cells cur t (0,0))) (hn:cs.length=Nat.min sLen dLen*z)
  (hsrc:∀ j v,cs[j]? = some v->w.cell? (a.add j)=some v) (hfit:o+cs.length<=cur.size) (h1:∀ v∈cs,v.oneCell'=true) :
  (Builtin.copy_ #[dT,sT] ty #[.slice (some ⟨g,o,none⟩) dLen dCap,.slice (some a) sLen sCap]).run P w =
   .ok (goInt (Nat.min sLen dLen)) (w.setRow g (cur.toList.take o++cs++cur.toList.drop (o+cs.length)).toArray):=by
 have hl:=run_loadCells_list (P:=P) w a cs hsrc
 have hst:=run_storeCells_at P g o t cs 0 cur w hg (by simpa using hfit) h1
 cases hq:P.info? elem with
 |none=>simp[hq]at hs
 |some i =>
  have hi:i.size=z:=by simpa [hq] using hs
  rw[hn]at hl
  simp[Builtin.copy_,run_underlying hu,Builtin.lenOf,Builtin.firstCells,sizeOf,typeInfo,hq,hi,hl,hst]
theorem ins_list {α:Type} (L X:List α) (k e d:Nat) (hd:X.length=d) (hk:k<=e) (hl:e+d<=L.length) :
  ((L.take (k+d)++(L.take e).drop k++L.drop (e+d)).take k++X++(L.take (k+d)++(L.take e).drop k++L.drop (e+d)).drop (k+d))=L.take k++X++((L.take e).drop k++L.drop (e+d)):=by
 have hA:(L.take (k+d)).length=k+d:=by rw[List.length_take];omega
 rw[List.append_assoc (L.take (k+d)),List.take_append_of_le_length (by omega),List.drop_append_of_le_length (by omega),List.take_take,Nat.min_eq_left (by omega),List.drop_of_length_le (l:=L.take (k+d)) (by omega),List.nil_append]
theorem ins_head {α:Type} (L X:List α) (k e d:Nat) (hd:X.length=d) (hk:k<=e) (hl:e+d<=L.length) :
  (L.take k++X++((L.take e).drop k++L.drop (e+d))).take (e+d)=(L.take e).take k++X++(L.take e).drop k/\(L.take k++X++((L.take e).drop k++L.drop (e+d))).length=L.length:=by
 have h1:(L.take k).length=k:=by rw[List.length_take];omega
 have h2:((L.take e).drop k).length=e-k:=by rw[List.length_drop,List.length_take];omega
 have h3:(L.take k++X++(L.take e).drop k).length=e+d:=by simp only[List.length_append,h1,h2,hd];omega
 refine⟨?_,?_⟩
 ·rw[<-List.append_assoc,List.take_append_of_le_length (by omega),List.take_of_length_le (by omega),List.take_take,Nat.min_eq_left hk]
 ·rw[<-List.append_assoc,List.length_append,h3,List.length_drop]
  omega
end Go.Proofs.YtpddanmnlkcdpaaGreatDoor.Pm


namespace Go.Proofs.YtpddanmnlkcdpaaGreatDoor.St
open Go.RowKit
theorem toStr_any (a:Option Addr) (cap:Nat) (l:List ByteArray) (w:World) (h:Strs w w.heap.size a l) (hn:l.length<=1048576) :
  Calls Tryz.prog 49 #[.slice a l.length cap] w fun e w'=>e=.returned (.slice (some ⟨w.heap.size,0,none⟩) l.length l.length)/\IsS w' w.heap.size 9 l/\Below w.heap.size w w':=by
 obtain⟨i0,hi,hz0,hz1,hz2⟩:=info_parts Tryz.infoS9
 have HS:=hideT h
 clear h
 obtain⟨n,hln⟩:∃ n,n=l.length:=⟨_,rfl⟩
 have HLN:=hideT hln
 rw[<-hln]at hn ⊢
 clear hln
 go_enter Tryz.func49,Tryz.ntmps49
 go_wp2_with (at_make;refine wpList_make_full _ rfl (.tmp 6) (.tmp 6) 46 rfl w.heap.size 9 i0 (.string ⟨#[]⟩) 1 Tryz.underlying46 hi hz0 hz1 .i64 .i64 _ _ n rfl rfl (by simp) (by simp) (by rw[hz2];omega) (by unfold maxLen;omega) (Nat.le_refl _) ?_;intro w1 hown1 hgrow1;have HR:=hideT (made_strs hown1);have HB:=hideT ((Below.refl w.heap.size w).grown hgrow1 (Nat.le_refl _) (by simp));clear hown1 hgrow1)
 go_loopw [4] (fun i wr=>∃ k:Nat,i=.int .i64 k/\k<=n/\IsS wr w.heap.size 9 (mid l k)/\Below w.heap.size w wr) (fun i _=>n-(intOf i).toNat)
 case atStart=>exact⟨0,rfl,by omega,by rw[mid_zero,<-HLN.out];exact HR.out,HB.out⟩
 case round =>
  obtain⟨k,rfl,hk,h1,hbel⟩:=hrel
  have G1:=hideT h1
  have GB:=hideT hbel
  by_cases hlt:k<n
  ·have hkl:k<l.length:=by rw[<-HLN.out];exact hlt
   obtain⟨b,off,rfl,hb,hc⟩:=(HS.out.below hbel).some (by omega)
   have ci:=hc k hkl
   have HM:=hideT (mid_next l k hkl)
   have cf:=h1.frozen k
   have ce:∃ v,wr.cell? ⟨w.heap.size,k,none⟩=some (.string v):=⟨_,h1.cell (j:=k) (by rw[mid_length l k (by omega)];exact hkl)⟩
   obtain⟨v0,ce⟩:=ce
   obtain⟨s,hs⟩:∃ s,s=l[k]:=⟨_,rfl⟩
   have HSE:=hideT hs
   rw[<-hs]at ci
   clear h1 hbel hc hs
   go_wp2_with fail
   go_roundw
   case rel=>exact⟨k+1,by go_num,by omega,by rw[<-HM.out,<-HSE.out];exact G1.out.set k s,GB.out.setCell (Nat.le_refl _) _⟩
   case measure=>simp[intOf];omega
  ·have HE:Hid (mid l k=l):=by
    unfold Hid
    rw[show k=l.length by have:=HLN.out;omega]
    exact mid_all l
   clear h1 hbel
   go_wp2_with fail
   go_ret
   exact⟨rfl,by rw[<-HE.out];exact G1.out,GB.out⟩
end Go.Proofs.YtpddanmnlkcdpaaGreatDoor.St

