/- Texts put together: PkCat, WayRow, WayImpl, WayTop. -/
import Derived.Test.YtjfdllgodijibaaGreatDoorWz13
import Derived.Test.YtjfdllgodijibaaGreatDoorWz14
import Derived.Test.YtjfdllgodijibaaGreatDoorWz17
import Derived.Test.YtjfdllgodijibaaGreatDoorWz18
import Derived.Test.YtjfdllgodijibaaGreatDoorWz11
import Derived.Test.YtjfdllgodijibaaGreatDoorWz12
import Derived.Laws.AppendOwn
import Derived.WalkSpells
import Derived.Stop.Asserts
import Derived.RowKitTokens
set_option maxRecDepth 100000
set_option maxHeartbeats 8000000
namespace Go.Proofs.YtjfdllgodijibaaGreatDoor.Pk
open Go.RowKit
open St (Strs IsS made_strs)
open In (Ints IsI OwnI made_ints)
open Nu (putS)
theorem hideP {p:Prop} (h:p):Hid p:=h
def cat (l:List ByteArray):List UInt8:=l.flatMap fun s=>s.data.toList
theorem cat_next (l:List ByteArray) (k:Nat) (h:k<l.length):cat (l.take (k+1))=cat (l.take k)++l[k].data.toList:=by
 rw[List.take_add_one,List.getElem?_eq_getElem h]
 unfold cat
 rw[List.flatMap_append]
 simp
theorem cat_take_le (l:List ByteArray) (k:Nat):(cat (l.take k)).length<=(cat l).length:=by
  have:cat l=cat (l.take k)++cat (l.drop k):=by
   unfold cat
   rw[<-List.flatMap_append,List.take_append_drop]
  rw[this,List.length_append]
  omega
theorem join_any (l:List ByteArray) (a:Option Addr) (cap n:Nat) (w:World) (h:Strs w w.heap.size a l) (hn:l.length=n) (hn2:n<=1048576) (hc:(cat l).length<=1048576) :
  Calls Tryz.prog 39 #[.slice a n cap] w fun e w'=>e=.returned (.string ⟨(cat l).toArray⟩)/\Below w.heap.size w w':=by
 have HN:=hideP hn
 have HS:=hideP h
 have HC:=hideP (fun k=>Nat.le_trans (cat_take_le l k) hc)
 clear h hn hc
 go_enter Tryz.func39,Tryz.ntmps39
 go_wp2_with fail
 go_loopw [8,5] (fun i _ wr=>∃ k:Nat,i=.int .i64 k/\k<=n/\Lib.IsBuilder 95 5 w.heap.size w.heap.size (Lib.byteCells (cat (l.take k))) wr/\Below w.heap.size w wr/\w.heap.size<=wr.heap.size) (fun i _ _=>n-(intOf i).toNat)
 case atStart=>exact⟨0,rfl,Nat.zero_le _,Lib.fresh_isBuilder _ _ w,(Below.refl _ _).alloc (Nat.le_refl _) _,by simp⟩
 case round =>
  obtain⟨k,rfl,hk,hbu,hbel,hbz⟩:=hrel
  have HBU:=hideP hbu
  have GB:=hideP hbel
  clear hbu hbel
  by_cases hlt:k<n
  ·have hkl:k<l.length:=by rw[HN.out];exact hlt
   obtain⟨b,off,rfl,hb,hcl⟩:∃ b off,a=some ⟨b,off,none⟩/\b<w.heap.size/\∀ j (h:j<l.length),wr.cell? ⟨b,off+j,none⟩=some (.string l[j]):=by
    rcases HS.out.below GB.out with h0|h
    ·subst h0
     simp at hkl
    ·exact h
   have ci:=hcl k hkl
   have HNX:=hideP (cat_next l k hkl)
   have h1:=HC.out (k+1)
   rw[HNX.out,List.length_append]at h1
   generalize l[k]=s at ci HNX h1
   have hss:s.data.toList.length=s.size:=by simp
   have HLE:Hid ((Lib.byteCells (cat (l.take k))).length+s.size<=140737488355328):=by
    unfold Hid
    rw[Lib.byteCells_length]
    omega
   have HNC:Hid (Lib.byteCells (cat (l.take k))++Lib.strCells s=Lib.byteCells (cat (l.take (k+1)))):=by
    unfold Hid
    rw[HNX.out,Lib.byteCells_append,Lib.strCells_eq]
   have HWR:=hideP (Sb.write_any w.heap.size w.heap.size _ s wr HBU.out HLE.out hbz)
   clear hcl h1 hss hkl
   go_wp2_with fail
   refine HWR.out.mono ?_
   rintro e w2 ⟨rfl,hbt,hb2⟩
   rw[HNC.out]at hbt
   have HBT:=hideP hbt
   have B2:=hideP (GB.out.trans hb2)
   have z2:=hb2.size
   clear hbt hb2
   go_wp2_with fail
   go_roundw
   case rel=>exact⟨k+1,by go_num,by omega,Or.inr HBT.out,B2.out,by omega⟩
   case measure=>simp[intOf];omega
  ·obtain rfl:k=n:=by omega
   have HE:Hid (cat (l.take k)=cat l):=by
    unfold Hid
    rw[List.take_of_length_le (by rw[HN.out];exact Nat.le_refl _)]
   have HST:=hideP (Sb.string_any w.heap.size w.heap.size _ wr HBU.out hbz)
   rw[HE.out]at HST
   go_wp2_with fail
   refine HST.out.mono ?_
   rintro e w2 ⟨rfl,hb2⟩
   have B2:=hideP (GB.out.trans hb2)
   clear hb2
   go_wp2_with fail
   go_ret
   exact⟨rfl,B2.out⟩
def numsL (l:List Int):List UInt8:=l.flatMap fun x=>(putS x).data.toList
def putsN (l:List Int) (k:Nat):List ByteArray:=(l.take k).map putS++List.replicate (l.length-k) ⟨#[]⟩
theorem putS_size (n:Int):(putS n).size<=10:=by
 show (Nu.numB (Nu.zz n)).toArray.size<=10
 rw[List.size_toArray]
 unfold Nu.numB
 rw[Nu.numL_length]
 have:=Nu.cnt_le 9 (Nu.zz n)
 omega
theorem numsL_le (l:List Int):(numsL l).length<=10*l.length:=by
 induction l with
 |nil=>exact Nat.le_refl _
 |cons x l ih =>
  have h1:=ih
  have h3:=putS_size x
  have h4:(putS x).data.toList.length=(putS x).size:=by simp
  unfold numsL at h1 ⊢
  rw[List.flatMap_cons,List.length_append,List.length_cons]
  omega
end Go.Proofs.YtjfdllgodijibaaGreatDoor.Pk


namespace Go.Proofs.YtjfdllgodijibaaGreatDoor.Tr
open Go.RowKit
open St (Strs OwnS one_newS one_cellS app_one)
open Sh (Vars nodeV leafV nodeR nodeR_yes leafR leafR_yes leaf_impl node_impl)
open Pk (cat join_any)
def stepV:Stp->Value
 |.leaf t=>.iface 74 (.agg #[.string t])
 |.node l r=>.iface 79 (.agg #[.string l,.string r])
def OwnF (w:World) (base:Nat) (v:Value) (l:List Stp):Prop:=w.ownsRow base 50 1 v l.length (l.map stepV)
theorem OwnF.below {w w':World} {base:Nat} {v:Value} {l:List Stp} (h:OwnF w base v l) (b:Below w.heap.size w w'):OwnF w' base v l:=by
 obtain⟨hl,h⟩:=h
 refine⟨hl,?_⟩
 rcases h with h|⟨g,cap,cur,hv,hg,hb,rest⟩
 ·exact .inl h
 ·exact .inr ⟨g,cap,cur,hv,hg,by rw[b.block g (Array.getElem?_eq_some_iff.1 hb).1];exact hb,rest⟩
theorem OwnF.mono {w:World} {base base':Nat} {v:Value} {l:List Stp} (h:OwnF w base v l) (hb:base'<=base):OwnF w base' v l:=by
 obtain⟨hl,h⟩:=h
 refine⟨hl,?_⟩
 rcases h with h|⟨g,cap,cur,hv,hg,rest⟩
 ·exact .inl h
 ·exact .inr ⟨g,cap,cur,hv,Nat.le_trans hb hg,rest⟩
theorem OwnF.snoc {w:World} {base:Nat} {v:Value} {l:List Stp} {s:Stp} (h:w.ownsRow base 50 1 v (l.length+1) (l.map stepV++[stepV s])):OwnF w base v (l++[s]):=by
 unfold OwnF
 rw[List.length_append,List.map_append]
 exact h
theorem OwnF.some {w:World} {base:Nat} {v:Value} {l:List Stp} (h:OwnF w base v l) (hl:0<l.length):∃ g cap,v=.slice (.some ⟨g,0,none⟩) l.length cap/\base<=g/\g<w.heap.size/\l.length<=cap/\∀ j (h:j<l.length),w.cell? ⟨g,j,none⟩=.some (stepV l[j]):=by
 obtain⟨_,h⟩:=h
 rcases h with⟨h,h0⟩|⟨g,cap,cur,hv,hg,hb,hnc,_,hsz,htk⟩
 ·omega
 ·refine⟨g,cap,hv,hg,(Array.getElem?_eq_some_iff.1 hb).1,hnc,fun j hj=>?_⟩
  rw[cell_of_row w g j _ _ _ hb,<-Array.getElem?_toList]
  have h1:cur.toList[j]? = (cur.toList.take (l.length*1))[j]?:=by rw[List.getElem?_take_of_lt (by omega)]
  rw[h1,htk]
  simp[hj]
theorem Tryz.infoF:(Tryz.prog.info? 50).map (fun i=>(i.zero,i.size,i.bytes))=some (some .nilIface,1,16):=by kernel_rfl
theorem one_newF (W:World) (s:Stp) (t:TypeId):∀ (j:Nat) (u:Value),[stepV s][j]? = some u->(W.alloc (.cells #[stepV s] t)).cell? ((⟨W.heap.size,0,none⟩:Addr).add j)=some u:=by
 intro j u hj
 match j,hj with
 |0,hj=>simp at hj;subst hj;simp[Addr.add]
theorem one_cellF (s:Stp):∀ u∈[stepV s],u.oneCell'=true:=by
 intro u hu
 simp at hu
 subst hu
 cases s<;>rfl
theorem own_oneF (W:World) (s:Stp):OwnF (W.alloc (.cells #[stepV s] 50)) W.heap.size (.slice (some ⟨W.heap.size,0,none⟩) 1 1) [s] :=
 ⟨rfl,.inr ⟨W.heap.size,1,#[stepV s],rfl,Nat.le_refl _,heap_alloc_new W _,Nat.le_refl _,by unfold maxLen;omega,rfl,rfl⟩⟩
theorem methodLeaf (h:Value) (w:World):(Go.method 249 74 (.agg #[h]) "loop.example/g00550/impl.digest").run Tryz.prog w=.ok (120,.agg #[h]) w:=by kernel_rfl
theorem methodNode (h k:Value) (w:World):(Go.method 249 79 (.agg #[h,k]) "loop.example/g00550/impl.digest").run Tryz.prog w=.ok (121,.agg #[h,k]) w:=by kernel_rfl
def Fit:Stp->Prop
 |.leaf t=>t.size<=100
 |.node l r=>l.size=32/\r.size=32
theorem leafDig (t:ByteArray) (w:World) (ht:t.size<=100) (hV:Vars w) :
  Calls Tryz.prog 120 #[.agg #[.string t]] w fun e w'=>e=.returned (.string (leafV t))/\Below w.heap.size w w':=by
 have HA:Hid (Below w.heap.size w (w.alloc (.cells #[.string t] 74))):=(Below.refl _ _).alloc (Nat.le_refl _) _
 have HV:Hid (Vars (w.alloc (.cells #[.string t] 74))):=hV.below HA.out hV.two
 have HL:=St.hideT (fun W h=>leaf_impl t W (by unfold maxLen;omega) h)
 rw[leafR_yes t (by omega)]at HL
 clear hV
 generalize leafV t=R at HL ⊢
 go_enter Tryz.func120,Tryz.ntmps120
 go_wp2_with fail
 refine(HL.out _ HV.out).mono ?_
 rintro e w1 ⟨rfl,hb⟩
 have B1:=St.hideT (below2 HA.out hb)
 clear hb
 go_wp2_with fail
 go_ret
 exact⟨rfl,B1.out⟩
theorem nodeDig (l r:ByteArray) (w:World) (hl:l.size=32) (hr:r.size=32) (hV:Vars w) :
  Calls Tryz.prog 121 #[.agg #[.string l,.string r]] w fun e w'=>e=.returned (.string (nodeV l r))/\Below w.heap.size w w':=by
 have HA:Hid (Below w.heap.size w (w.alloc (.cells #[.string l,.string r] 79))):=(Below.refl _ _).alloc (Nat.le_refl _) _
 have HV:Hid (Vars (w.alloc (.cells #[.string l,.string r] 79))):=hV.below HA.out hV.two
 have HL:=St.hideT (fun W h=>node_impl l r W h)
 rw[nodeR_yes l r hl hr]at HL
 clear hV
 generalize nodeV l r=R at HL ⊢
 go_enter Tryz.func121,Tryz.ntmps121
 go_wp2_with fail
 refine(HL.out _ HV.out).mono ?_
 rintro e w1 ⟨rfl,hb⟩
 have B1:=St.hideT (below2 HA.out hb)
 clear hb
 go_wp2_with fail
 go_ret
 exact⟨rfl,B1.out⟩
theorem topOf_any (l:List Stp) (s:Stp) (base:Nat) (v:Value) (w:World) (ho:OwnF w base v (l++[s])) (hf:Fit s) (hV:Vars w) (h64:l.length<=64) :
  Calls Tryz.prog 38 #[v] w fun e w'=>e=.returned (.string s.dig)/\Below w.heap.size w w':=by
 obtain⟨g,cap,rfl,_,hg,hc,hcell⟩:=ho.some (by simp)
 have ci:=hcell l.length (by simp)
 rw[List.getElem_append_right (Nat.le_refl _)]at ci
 simp only[Nat.sub_self,List.getElem_cons_zero]at ci
 have hlen:(l++[s]).length=l.length+1:=by simp
 rw[hlen]
 clear hcell hlen ho hc
 have m1:=methodLeaf
 have m2:=methodNode
 generalize l.length=n at ci h64 ⊢
 have HV:=St.hideT hV
 clear hV
 cases s with
 |leaf t =>
  have HL:=St.hideT (fun W h=>leafDig t W hf h)
  show Calls _ _ _ _ fun e w'=>e=.returned (.string (leafV t))/\_
  unfold stepV at ci
  generalize leafV t=R at HL ⊢
  go_enter Tryz.func38,Tryz.ntmps38
  go_wp2_with fail
  refine(HL.out _ HV.out).mono ?_
  rintro e w1 ⟨rfl,hb⟩
  have B1:=St.hideT hb
  clear hb
  go_wp2_with fail
  go_ret
  exact⟨rfl,B1.out⟩
 |node a b =>
  have HL:=St.hideT (fun W h=>nodeDig a b W hf.1 hf.2 h)
  show Calls _ _ _ _ fun e w'=>e=.returned (.string (nodeV a b))/\_
  unfold stepV at ci
  generalize nodeV a b=R at HL ⊢
  go_enter Tryz.func38,Tryz.ntmps38
  go_wp2_with fail
  refine(HL.out _ HV.out).mono ?_
  rintro e w1 ⟨rfl,hb⟩
  have B1:=St.hideT hb
  clear hb
  go_wp2_with fail
  go_ret
  exact⟨rfl,B1.out⟩
end Go.Proofs.YtjfdllgodijibaaGreatDoor.Tr


namespace Go.Proofs.YtjfdllgodijibaaGreatDoor.Tr
open Go.RowKit
open St (Strs OwnS one_newS one_cellS app_one hideT)
open Sh (Vars nodeV leafV nodeV_size)
open Pk (cat join_any)
theorem vars_on {w w':World} (h:Vars w) (hb:Below w.heap.size w w'):Vars w':=h.below hb h.two
def GoodW (x:WS):Prop:=Top x/\(∀ s∈x.2,Fit s)/\x.1.size=32
theorem good_w0 {t:ByteArray} (h:t.size<=100):GoodW (w0 t):=⟨top_w0 t,fun s hs=>by rw[List.mem_singleton.1 hs];exact h,Sh.sha_size _⟩
theorem good_wL {s:ByteArray} {x:WS} (hs:s.size=32) (h:GoodW x):GoodW (wL s x):=⟨top_wL s x,fun q hq=>by
 rcases List.mem_append.1 hq with h1|h1
 ·exact h.2.1 q h1
 ·rw[List.mem_singleton.1 h1]
  exact⟨hs,h.2.2⟩,Sh.sha_size _⟩
theorem good_wR {s:ByteArray} {x:WS} (hs:s.size=32) (h:GoodW x):GoodW (wR x s):=⟨top_wR s x,fun q hq=>by
 rcases List.mem_append.1 hq with h1|h1
 ·exact h.2.1 q h1
 ·rw[List.mem_singleton.1 h1]
  exact⟨h.2.2,hs⟩,Sh.sha_size _⟩
theorem last_split (p:List ByteArray) (h:0<p.length):p=p.take (p.length-1)++[p[p.length-1]]:=by
 have:=List.take_append_getElem (l:=p) (i:=p.length-1) (by omega)
 rw[show p.length-1+1=p.length by omega,List.take_length]at this
 exact this.symm
theorem gR_good {t:ByteArray} (ht:t.size<=100):∀ (f n i:Nat) (p:List ByteArray) (x:WS),(∀ j (h:j<p.length),p[j].size=32)->gR wL wR f n i p (w0 t)=some x->GoodW x/\x.2.length=p.length+1
 |0,n,i,p,x,_,h=>by cases h
 |f+1,n,i,p,x,hw,h=>by
  by_cases hn:n<=1
  ·rw[gR,if_pos hn]at h
   split at h
   ·rename_i hp
    obtain rfl:=Option.some.inj h
    subst hp
    exact⟨good_w0 ht,rfl⟩
   ·cases h
  ·by_cases hp:0<p.length
   ·have hsp:=last_split p hp
    have hs:=hw (p.length-1) (by omega)
    have hq:∀ j (h:j<(p.take (p.length-1)).length),(p.take (p.length-1))[j].size=32:=fun j hj=>by
     rw[List.getElem_take]
     exact hw j _
    have hql:(p.take (p.length-1)).length=p.length-1:=by rw[List.length_take];omega
    generalize p.take (p.length-1)=q at hsp hq hql
    generalize p[p.length-1]=s at hsp hs
    have hl:p.length=q.length+1:=by omega
    rw[hsp]at h
    by_cases hi:i<half n
    ·rw[gR_left _ _ _ _ _ _ _ _ (by omega) hi]at h
     cases hg:gR wL wR f (half n) i q (w0 t) with
     |none=>rw[hg]at h;cases h
     |some y =>
      rw[hg]at h
      obtain rfl:=Option.some.inj h
      obtain⟨h1,h2⟩:=gR_good ht f _ _ _ _ hq hg
      exact⟨good_wR hs h1,by show (y.2++[_]).length=_;rw[List.length_append,h2,hl];rfl⟩
    ·rw[gR_right _ _ _ _ _ _ _ _ (by omega) hi]at h
     cases hg:gR wL wR f (n-half n) (i-half n) q (w0 t) with
     |none=>rw[hg]at h;cases h
     |some y =>
      rw[hg]at h
      obtain rfl:=Option.some.inj h
      obtain⟨h1,h2⟩:=gR_good ht f _ _ _ _ hq hg
      exact⟨good_wL hs h1,by show (y.2++[_]).length=_;rw[List.length_append,h2,hl];rfl⟩
   ·have:p=[]:=List.eq_nil_of_length_eq_zero (by omega)
    subst this
    rw[gR_none _ _ _ _ _ _ (by omega)]at h
    cases h
theorem strs_twoW {W:World} {g:Nat} {a b:ByteArray} {t:TypeId} (h:W.heap[g]? = some (.cells #[.string a,.string b] t (0,0))):Strs W W.heap.size (some ⟨g,0,none⟩) [a,b] :=
 .inr ⟨g,0,rfl,(Array.getElem?_eq_some_iff.1 h).1,fun j hj=>by
  rw[Nat.zero_add,cell_of_row W g j _ _ _ h]
  match j,hj with
  |0,_=>rfl
  |1,_=>rfl⟩
theorem strs_threeW {W:World} {g:Nat} {a b c:ByteArray} {t:TypeId} (h:W.heap[g]? = some (.cells #[.string a,.string b,.string c] t (0,0))):Strs W W.heap.size (some ⟨g,0,none⟩) [a,b,c] :=
 .inr ⟨g,0,rfl,(Array.getElem?_eq_some_iff.1 h).1,fun j hj=>by
  rw[Nat.zero_add,cell_of_row W g j _ _ _ h]
  match j,hj with
  |0,_=>rfl
  |1,_=>rfl
  |2,_=>rfl⟩
theorem ext_listW {a b:ByteArray} (h:a.data.toList=b.data.toList):a=b:=ByteArray.ext (by rw[<-Array.toArray_toList (xs:=a.data),h,Array.toArray_toList])
theorem cat_leaf (t:ByteArray):(⟨(cat [⟨#[0]⟩,t]).toArray⟩:ByteArray)=(Stp.leaf t).text:=ext_listW (by simp[cat,Stp.text])
theorem cat_node (l r:ByteArray):(⟨(cat [⟨#[1]⟩,l,r]).toArray⟩:ByteArray)=(Stp.node l r).text:=ext_listW (by simp[cat,Stp.text])
theorem taLeaf (t:ByteArray) (w:World):(Instr.typeAssert (.iface 74 (.agg #[.string t])) 50 74 true).run Tryz.prog w=.ok (.tuple #[.agg #[.string t],.bool true]) w:=by kernel_rfl
theorem taNodeL (l r:ByteArray) (w:World):(Instr.typeAssert (.iface 79 (.agg #[.string l,.string r])) 50 74 true).run Tryz.prog w=.ok (.tuple #[.agg #[.string ⟨#[]⟩],.bool false]) w:=by kernel_rfl
theorem taNode (l r:ByteArray) (w:World):(Instr.typeAssert (.iface 79 (.agg #[.string l,.string r])) 50 79 true).run Tryz.prog w=.ok (.tuple #[.agg #[.string l,.string r],.bool true]) w:=by kernel_rfl
theorem stepText_any (s:Stp) (w:World) (hf:Fit s) :
  Calls Tryz.prog 20 #[stepV s] w fun e w'=>e=.returned (.string s.text)/\Below w.heap.size w w':=by
 cases s with
 |leaf t =>
  have ht:t.size<=100:=hf
  have HJ:Hid (∀ W g,W.heap[g]? = some (.cells #[.string ⟨#[0]⟩,.string t] 9 (0,0))->Calls Tryz.prog 39 #[.slice (some ⟨g,0,none⟩) 2 2] W fun e w'=>e=.returned (.string (Stp.leaf t).text)/\Below W.heap.size W w'):=fun W g h=>by
   have:=join_any [⟨#[0]⟩,t] _ 2 2 W (strs_twoW h) rfl (by decide) (by simp[cat];omega)
   rw[cat_leaf]at this
   exact this
  generalize (Stp.leaf t).text=R at HJ ⊢
  have f1:=taLeaf t
  unfold stepV
  have H1:Hid (Below w.heap.size w ((w.alloc (.cells #[.string t] 74)).alloc (.cells #[.string ⟨#[0]⟩,.string t] 9))):=((Below.refl _ _).alloc (Nat.le_refl _) _).alloc (by simp) _
  have H2:Hid (((w.alloc (.cells #[.string t] 74)).alloc (.cells #[.string ⟨#[0]⟩,.string t] 9)).heap[w.heap.size+1]? = some (.cells #[.string ⟨#[0]⟩,.string t] 9 (0,0))):=by
   have:=heap_alloc_new (w.alloc (.cells #[.string t] 74)) (.cells #[.string ⟨#[0]⟩,.string t] 9)
   simp only[World.size_alloc]at this
   exact this
  go_enter Tryz.func20,Tryz.ntmps20
  go_wp2_with fail
  refine(HJ.out _ _ H2.out).mono ?_
  rintro e w1 ⟨rfl,hb⟩
  have B1:=hideT (below2 H1.out hb)
  clear hb
  go_wp2_with fail
  go_ret
  exact⟨rfl,B1.out⟩
 |node l r =>
  have hl:l.size=32/\r.size=32:=hf
  have HJ:Hid (∀ W g,W.heap[g]? = some (.cells #[.string ⟨#[1]⟩,.string l,.string r] 9 (0,0))->Calls Tryz.prog 39 #[.slice (some ⟨g,0,none⟩) 3 3] W fun e w'=>e=.returned (.string (Stp.node l r).text)/\Below W.heap.size W w'):=fun W g h=>by
   have:=join_any [⟨#[1]⟩,l,r] _ 3 3 W (strs_threeW h) rfl (by decide) (by simp[cat];omega)
   rw[cat_node]at this
   exact this
  generalize (Stp.node l r).text=R at HJ ⊢
  have f1:=taNodeL l r
  have f2:=taNode l r
  unfold stepV
  have H1:Hid (Below w.heap.size w ((w.alloc (.cells #[.string l,.string r] 79)).alloc (.cells #[.string ⟨#[1]⟩,.string l,.string r] 9))):=((Below.refl _ _).alloc (Nat.le_refl _) _).alloc (by simp) _
  have H2:Hid (((w.alloc (.cells #[.string l,.string r] 79)).alloc (.cells #[.string ⟨#[1]⟩,.string l,.string r] 9)).heap[w.heap.size+1]? = some (.cells #[.string ⟨#[1]⟩,.string l,.string r] 9 (0,0))):=by
   have:=heap_alloc_new (w.alloc (.cells #[.string l,.string r] 79)) (.cells #[.string ⟨#[1]⟩,.string l,.string r] 9)
   simp only[World.size_alloc]at this
   exact this
  clear hl hf
  go_enter Tryz.func20,Tryz.ntmps20
  go_wp2_with fail
  refine(HJ.out _ _ H2.out).mono ?_
  rintro e w1 ⟨rfl,hb⟩
  have B1:=hideT (below2 H1.out hb)
  clear hb
  go_wp2_with fail
  go_ret
  exact⟨rfl,B1.out⟩
theorem steps_any (t:ByteArray) (ht:t.size<=100):∀ (f n i:Nat) (p:List ByteArray) (a:Option Addr) (cap m B:Nat) (w:World) (x:WS),n<=f->1<=n->n<=64->i<n->(∀ j (h:j<p.length),p[j].size=32)->m=p.length->m<=63->m<=cap->Strs w B a p->B<=w.heap.size->Vars w->gR wL wR f n i p (w0 t)=some x ->
  Calls Tryz.prog 19 #[.int .i64 i,.int .i64 n,.string t,.slice a m cap] w fun e w'=>∃ v,e=.returned v/\OwnF w' w.heap.size v x.2/\Below w.heap.size w w':=by
 intro f
 induction f with
 |zero=>intro n i p a cap m B w x h1 h2;omega
 |succ f ih =>
  intro n i p a cap m B w x h1 h2 h64 hi hw hm h63 hcap hs hB hV hg
  obtain⟨i0,hif,hz0,hz1,hz2⟩:=info_parts Tryz.infoF
  have IH:=hideT ih
  clear ih
  by_cases hn:n=1
  ·subst hn
   rw[gR_one]at hg
   split at hg
   ·obtain rfl:=Option.some.inj hg
    have O:Hid (OwnF (w.alloc (.cells #[stepV (.leaf t)] 50)) w.heap.size (.slice (some ⟨w.heap.size,0,none⟩) 1 1) [.leaf t]):=own_oneF w _
    have HB:Hid (Below w.heap.size w (w.alloc (.cells #[stepV (.leaf t)] 50))):=(Below.refl _ _).alloc (Nat.le_refl _) _
    clear hg hs hV hw
    show Calls _ _ _ _ fun e w'=>∃ v,e=.returned v/\OwnF w' w.heap.size v [.leaf t]/\_
    unfold stepV at O HB
    go_enter Tryz.func19,Tryz.ntmps19
    go_wp2_with fail
    go_ret
    exact⟨_,rfl,O.out,HB.out⟩
   ·cases hg
  ·have hn2:2<=n:=by omega
   have hnb:((n:Int)==1)=false:=by simp;omega
   by_cases hp:0<p.length
   ·have hsp:=last_split p hp
    have hs32:=hw (p.length-1) (by omega)
    have hq:∀ j (h:j<(p.take (p.length-1)).length),(p.take (p.length-1))[j].size=32:=fun j hj=>by
     rw[List.getElem_take]
     exact hw j _
    have hql:(p.take (p.length-1)).length=p.length-1:=by rw[List.length_take];omega
    obtain⟨b,off,rfl,hbB,hc⟩:=hs.some hp
    have ci:=hc (p.length-1) (by omega)
    have SQ:=hideT (Strs.take (k:=p.length-1) hbB hc)
    generalize p.take (p.length-1)=q at hsp hq hql SQ
    generalize p[p.length-1]'(by omega)=s at hsp hs32 ci
    rw[<-hm]at ci hql
    have HQL:=hideT hql
    have hm1:1<=m:=by omega
    clear hql
    have HQ:=hideT hq
    have HV:=hideT hV
    have half1:=half_pos n
    have half2:=half_lt n (by omega)
    have HCL:=hideT (fun (W:World) (ci:W.cell? ⟨b,off+(m-1),none⟩=some (.string s))=>cutLast_any b off m cap s W (by omega) (by omega) hcap ci)
    rw[hsp]at hg
    clear hw hs hc hV hq hsp hp hm
    by_cases hik:i<half n
    ·rw[gR_left _ _ _ _ _ _ _ _ (by omega) hik]at hg
     cases hgy:gR wL wR f (half n) i q (w0 t) with
     |none=>rw[hgy]at hg;cases hg
     |some y =>
      rw[hgy]at hg
      obtain rfl:=Option.some.inj hg
      obtain⟨hgd,hyl⟩:=gR_good ht f _ _ _ _ HQ.out hgy
      have HGY:=hideT hgy
      have HGD:=hideT hgd
      have HYL:Hid (y.2.length=m):=by unfold Hid;have:=HQL.out;omega
      clear hg hgy hgd hyl
      show Calls _ _ _ _ fun e w'=>∃ v,e=.returned v/\OwnF w' w.heap.size v (y.2++[.node y.1 s])/\_
      have HH:=hideT (fun W=>half_impl n W hn2 (by omega))
      have HREC:=hideT (fun (W:World) (hW:Below w.heap.size w W)=>IH.out (half n) i q (some ⟨b,off,none⟩) (m-1) (m-1) B W y (by omega) (by omega) (by omega) hik HQ.out HQL.out.symm (by omega) (Nat.le_refl _) (SQ.out.after hW hB) (Nat.le_trans hB hW.size) (vars_on HV.out hW) HGY.out)
      generalize half n=hn' at HH HREC hik half1 half2
      go_enter Tryz.func19,Tryz.ntmps19
      go_wp2_with fail
      refine(HCL.out _ ci).mono ?_
      rintro e w1 ⟨rfl,hb⟩
      have B1:=hideT hb
      clear hb ci HCL
      go_wp2_with fail
      refine(HH.out _).mono ?_
      rintro e w2 ⟨rfl,hw2⟩
      subst w2
      go_wp2_with fail
      refine(HREC.out _ B1.out).mono ?_
      rintro e w3 ⟨v3,rfl,ho,hb⟩
      have O3:=hideT ho
      have B3:=hideT (below2 B1.out hb)
      have hz3:=hb.size
      have hz1':=B1.out.size
      clear ho hb HREC HH
      obtain⟨q0,s0,hy2,hdig⟩:=HGD.out.1
      have hfit:=hideT (HGD.out.2.1 s0 (by rw[hy2];simp))
      have HY2:=hideT hy2
      have HDG:=hideT hdig
      clear hy2 hdig
      go_wp2_with fail
      refine(topOf_any q0 s0 w1.heap.size v3 w3 (by rw[<-HY2.out];exact O3.out) hfit.out (vars_on HV.out B3.out) (by have h7:=congrArg List.length HY2.out;rw[List.length_append,HYL.out]at h7;simp at h7;omega)).mono ?_
      rw[HDG.out]
      rintro e w4 ⟨rfl,hb⟩
      have O4:=hideT (O3.out.below hb)
      have B4:=hideT (below2 B3.out hb)
      have hz4:=hb.size
      clear hb O3
      go_wp2_with (at_builtin;refine wpList_append_own _ rfl (.tmp 35) (.tmp 41) 47 rfl w1.heap.size 50 i0 .nilIface 1 16 Tryz.underlying47 hif hz0 hz1 hz2 rfl (by decide) _ _ _ rfl (World.ownsRow.alloc O4.out _) ⟨w4.heap.size,0,none⟩ 1 1 [stepV (.node y.1 s)] rfl rfl (one_newF w4 (.node y.1 s) _) (one_cellF _) (by rw[HYL.out];unfold maxLen;omega) (by rw[HYL.out];omega) (by simp;omega) ?_)
      intro v5 w5 hown hgrow _
      have O5:Hid (OwnF w5 w1.heap.size v5 (y.2++[.node y.1 s])):=OwnF.snoc hown
      have B5:=hideT (app_one B4.out B4.out.size hz1' O4.out hgrow)
      clear hown hgrow
      go_wp2_with fail
      go_ret
      exact⟨_,rfl,O5.out.mono hz1',B5.out⟩
    ·rw[gR_right _ _ _ _ _ _ _ _ (by omega) hik]at hg
     cases hgy:gR wL wR f (n-half n) (i-half n) q (w0 t) with
     |none=>rw[hgy]at hg;cases hg
     |some y =>
      rw[hgy]at hg
      obtain rfl:=Option.some.inj hg
      obtain⟨hgd,hyl⟩:=gR_good ht f _ _ _ _ HQ.out hgy
      have HGY:=hideT hgy
      have HGD:=hideT hgd
      have HYL:Hid (y.2.length=m):=by unfold Hid;have:=HQL.out;omega
      clear hg hgy hgd hyl
      show Calls _ _ _ _ fun e w'=>∃ v,e=.returned v/\OwnF w' w.heap.size v (y.2++[.node s y.1])/\_
      have HH:=hideT (fun W=>half_impl n W hn2 (by omega))
      have HREC:=hideT (fun (W:World) (hW:Below w.heap.size w W)=>IH.out (n-half n) (i-half n) q (some ⟨b,off,none⟩) (m-1) (m-1) B W y (by omega) (by omega) (by omega) (by omega) HQ.out HQL.out.symm (by omega) (Nat.le_refl _) (SQ.out.after hW hB) (Nat.le_trans hB hW.size) (vars_on HV.out hW) HGY.out)
      generalize half n=hn' at HH HREC hik half1 half2
      have e1:((i-hn':Nat):Int)=(i:Int)-hn':=by omega
      have e2:((n-hn':Nat):Int)=(n:Int)-hn':=by omega
      rw[e1,e2]at HREC
      have HE:=hideT (And.intro e1 e2)
      clear e1 e2
      have hikd:¬(i:Int)<(hn':Int):=by omega
      go_enter Tryz.func19,Tryz.ntmps19
      go_wp2_with fail
      refine(HCL.out _ ci).mono ?_
      rintro e w1 ⟨rfl,hb⟩
      have B1:=hideT hb
      clear hb ci HCL
      go_wp2_with fail
      refine(HH.out _).mono ?_
      rintro e w2 ⟨rfl,hw2⟩
      subst w2
      go_wp2_with fail
      refine(HREC.out _ B1.out).mono ?_
      rintro e w3 ⟨v3,rfl,ho,hb⟩
      have O3:=hideT ho
      have B3:=hideT (below2 B1.out hb)
      have hz3:=hb.size
      have hz1':=B1.out.size
      clear ho hb HREC HH
      obtain⟨q0,s0,hy2,hdig⟩:=HGD.out.1
      have hfit:=hideT (HGD.out.2.1 s0 (by rw[hy2];simp))
      have HY2:=hideT hy2
      have HDG:=hideT hdig
      clear hy2 hdig
      go_wp2_with fail
      refine(topOf_any q0 s0 w1.heap.size v3 w3 (by rw[<-HY2.out];exact O3.out) hfit.out (vars_on HV.out B3.out) (by have h7:=congrArg List.length HY2.out;rw[List.length_append,HYL.out]at h7;simp at h7;omega)).mono ?_
      rw[HDG.out]
      rintro e w4 ⟨rfl,hb⟩
      have O4:=hideT (O3.out.below hb)
      have B4:=hideT (below2 B3.out hb)
      have hz4:=hb.size
      clear hb O3
      go_wp2_with (at_builtin;refine wpList_append_own _ rfl (.tmp 52) (.tmp 58) 47 rfl w1.heap.size 50 i0 .nilIface 1 16 Tryz.underlying47 hif hz0 hz1 hz2 rfl (by decide) _ _ _ rfl (World.ownsRow.alloc O4.out _) ⟨w4.heap.size,0,none⟩ 1 1 [stepV (.node s y.1)] rfl rfl (one_newF w4 (.node s y.1) _) (one_cellF _) (by rw[HYL.out];unfold maxLen;omega) (by rw[HYL.out];omega) (by simp;omega) ?_)
      intro v5 w5 hown hgrow _
      have O5:Hid (OwnF w5 w1.heap.size v5 (y.2++[.node s y.1])):=OwnF.snoc hown
      have B5:=hideT (app_one B4.out B4.out.size hz1' O4.out hgrow)
      clear hown hgrow
      go_wp2_with fail
      go_ret
      exact⟨_,rfl,O5.out.mono hz1',B5.out⟩
   ·have:p=[]:=List.eq_nil_of_length_eq_zero (by omega)
    subst this
    rw[gR_none _ _ _ _ _ _ (by omega)]at hg
    cases hg
end Go.Proofs.YtjfdllgodijibaaGreatDoor.Tr


namespace Go.Proofs.YtjfdllgodijibaaGreatDoor.Tr
open Go.RowKit
open St (Strs OwnS one_newS one_cellS app_one hideT)
open Sh (Vars nodeV leafV)
def okW (i n:Int) (t:ByteArray) (p:List ByteArray):Prop:=0<=i/\i<n/\n<=64/\t.size<=100/\p.length<=63/\wide p=true
instance (i n:Int) (t:ByteArray) (p:List ByteArray):Decidable (okW i n t p):=by unfold okW;infer_instance
def wayX (i n:Int) (t:ByteArray) (p:List ByteArray):Option WS:=if okW i n t p then wayR n.toNat i.toNat p t else none
def wayL (i n:Int) (t:ByteArray) (p:List ByteArray):List ByteArray:=match wayX i n t p with
 |some x=>x.2.map Stp.text
 |none=>[]
theorem wayL_some {i n:Int} {t:ByteArray} {p:List ByteArray} {x:WS} (h:wayX i n t p=some x):wayL i n t p=x.2.map Stp.text:=by
 unfold wayL
 rw[h]
theorem wayL_none {i n:Int} {t:ByteArray} {p:List ByteArray} (h:wayX i n t p=none):wayL i n t p=[]:=by
 unfold wayL
 rw[h]
theorem wayX_no {i n:Int} {t:ByteArray} {p:List ByteArray} (h:¬okW i n t p):wayX i n t p=none:=if_neg h
theorem wayX_yes {i n:Nat} {t:ByteArray} {p:List ByteArray} (h:okW i n t p):wayX i n t p=wayR n i p t:=if_pos h
theorem way_incl (n i:Nat) (p:List ByteArray) (t:ByteArray) (h:i<n):(wayR n i p t).map Prod.fst=incl n i p (leafV t):=by
 rw[way_same n i p t h,gS_fst]
 rfl
theorem hasWay_any (i n:Int) (t:ByteArray) (p:List ByteArray) (a:Option Addr) (cap m:Nat) (w:World) (hm:m=p.length) (hp:m<=1048576) (hcap:m<=cap) (hs:Strs w w.heap.size a p) :
  Calls Tryz.prog 18 #[.int .i64 i,.int .i64 n,.string t,.slice a m cap] w fun e w'=>e=.returned (.bool (wayX i n t p).isSome)/\Below w.heap.size w w':=by
 by_cases h1:i<0
 ·have HX:Hid ((wayX i n t p).isSome=false):=by rw[wayX_no (fun q=>by have:=q.1;omega)];rfl
  rw[HX.out]
  clear hs hm
  go_enter Tryz.func18,Tryz.ntmps18
  go_wp2_with fail
  go_ret
  exact⟨rfl,Below.refl _ _⟩
 ·by_cases h2:n<=i
  ·have HX:Hid ((wayX i n t p).isSome=false):=by rw[wayX_no (fun q=>by have:=q.2.1;omega)];rfl
   rw[HX.out]
   clear hs hm
   go_enter Tryz.func18,Tryz.ntmps18
   go_wp2_with fail
   go_ret
   exact⟨rfl,Below.refl _ _⟩
  ·by_cases h3:64<n
   ·have HX:Hid ((wayX i n t p).isSome=false):=by rw[wayX_no (fun q=>by have:=q.2.2.1;omega)];rfl
    rw[HX.out]
    clear hs hm
    go_enter Tryz.func18,Tryz.ntmps18
    go_wp2_with fail
    go_ret
    exact⟨rfl,Below.refl _ _⟩
   ·by_cases h4:100<t.size
    ·have h4i:(100:Int)<(t.size:Int):=by omega
     have HX:Hid ((wayX i n t p).isSome=false):=by rw[wayX_no (fun q=>by have:=q.2.2.2.1;omega)];rfl
     rw[HX.out]
     clear hs hm
     go_enter Tryz.func18,Tryz.ntmps18
     go_wp2_with fail
     go_ret
     exact⟨rfl,Below.refl _ _⟩
    ·have h4i:¬(100:Int)<(t.size:Int):=by omega
     have h4d:decide ((100:Int)<(t.size:Int))=false:=by simp;omega
     have HD:=hideT (digs_impl a cap p 63 w w.heap.size hs (by omega))
     rw[<-hm]at HD
     cases hdw:(decide (m<=63) && wide p) with
     |false =>
      have HX:Hid ((wayX i n t p).isSome=false):=by
       rw[wayX_no (fun q=>by
        have:=q.2.2.2.2
        rw[<-hm]at this
        rw[decide_eq_true this.1,this.2]at hdw
        cases hdw)]
       rfl
      rw[HX.out]
      rw[hdw]at HD
      clear hs hm hdw
      go_enter Tryz.func18,Tryz.ntmps18
      go_wp2_with fail
      refine HD.out.mono ?_
      rintro e w1 ⟨rfl,hw⟩
      subst w1
      go_wp2_with fail
      go_ret
      exact⟨rfl,Below.refl _ _⟩
     |true =>
      obtain⟨i',rfl⟩:=Int.eq_ofNat_of_zero_le (show 0<=i by omega)
      obtain⟨n',rfl⟩:=Int.eq_ofNat_of_zero_le (show 0<=n by omega)
      have hdw2:=(Bool.and_eq_true _ _).mp hdw
      have hok:okW i' n' t p:=⟨by omega,by omega,by omega,by omega,by have:=of_decide_eq_true hdw2.1;omega,hdw2.2⟩
      have HXE:=hideT (wayX_yes hok)
      have HIN:=hideT (way_incl n' i' p t (by omega))
      have HCF:=hideT (climbFrom_any n' i' p a cap w.heap.size w (by omega) (by omega) (by omega) (by omega) ((wide_yes p).1 hdw2.2) hs (Nat.le_refl _))
      rw[<-hm]at HCF
      rw[hdw]at HD
      rw[HXE.out]
      clear hs hm hdw hdw2 hok
      go_enter Tryz.func18,Tryz.ntmps18
      go_wp2_with fail
      refine HD.out.mono ?_
      rintro e w1 ⟨rfl,hw⟩
      subst w1
      go_wp2_with fail
      refine HCF.out.mono ?_
      rintro e w2 ⟨hb,⟨fv,φ,rfl,_,hφ⟩|⟨fv,rfl,hφ⟩⟩
      ·have HB:=hideT hb
       have HQ:Hid ((wayR n' i' p t).isSome=true):=by
        have h1:=HIN.out
        rw[hφ]at h1
        cases hwr:wayR n' i' p t with
        |none=>rw[hwr]at h1;cases h1
        |some y=>rfl
       clear hb hφ HIN
       go_wp2_with fail
       go_ret
       exact⟨by rw[HQ.out];rfl,HB.out⟩
      ·have HB:=hideT hb
       have HQ:Hid ((wayR n' i' p t).isSome=false):=by
        have h1:=HIN.out
        rw[hφ]at h1
        cases hwr:wayR n' i' p t with
        |none=>rfl
        |some y=>rw[hwr]at h1;cases h1
       clear hb hφ HIN
       go_wp2_with fail
       go_ret
       exact⟨by rw[HQ.out];rfl,HB.out⟩
theorem way_impl (i n:Int) (t:ByteArray) (p:List ByteArray) (a:Option Addr) (cap m:Nat) (w:World) (hm:m=p.length) (hp:m<=1048576) (hcap:m<=cap) (hs:Strs w w.heap.size a p) (hV:Vars w) :
  Calls Tryz.prog 5 #[.int .i64 i,.int .i64 n,.string t,.slice a m cap] w fun e w'=>∃ v,e=.returned v/\OwnS w' w.heap.size v (wayL i n t p)/\Below w.heap.size w w':=by
 obtain⟨i0,hif,hz0,hz1,hz2⟩:=info_parts St.Tryz.infoS9
 have HW:=hideT (hasWay_any i n t p a cap m w hm hp hcap hs)
 cases hx:wayX i n t p with
 |none =>
  have HL:=hideT (wayL_none hx)
  rw[HL.out]
  rw[hx]at HW
  clear hs hV hm hx HL
  go_enter Tryz.func5,Tryz.ntmps5
  go_wp2_with fail
  refine HW.out.mono ?_
  rintro e w1 ⟨rfl,hb⟩
  have HB:=hideT hb
  clear hb
  go_wp2_with fail
  go_ret
  exact⟨_,rfl,OwnS.nil _ _,HB.out⟩
 |some x =>
  have HL:=hideT (wayL_some hx)
  rw[HL.out]
  rw[hx]at HW
  have hok:okW i n t p:=by
   by_cases h:okW i n t p
   ·exact h
   ·rw[wayX_no h]at hx;cases hx
  obtain⟨k1,k2,k3,k4,k5,k6⟩:=hok
  obtain⟨i',rfl⟩:=Int.eq_ofNat_of_zero_le k1
  obtain⟨n',rfl⟩:=Int.eq_ofNat_of_zero_le (show 0<=n by omega)
  rw[wayX_yes ⟨k1,k2,k3,k4,k5,k6⟩]at hx
  have hwd:=(wide_yes p).1 k6
  obtain⟨hgd,hxl⟩:=gR_good k4 n' n' i' p x hwd hx
  have HST:=hideT (fun (W:World) (hW:Below w.heap.size w W)=>steps_any t k4 n' n' i' p a cap m w.heap.size W x (Nat.le_refl _) (by omega) (by omega) (by omega) hwd hm (by omega) hcap (hs.below hW) hW.size (vars_on hV hW) hx)
  have HFT:=hideT hgd.2.1
  have hl64:x.2.length<=64:=by omega
  have hl0:0<x.2.length:=by omega
  clear hs hV hm hx k1 k2 k3 k5 k6 hwd hgd hxl HL
  generalize x.2=l at HST HFT hl64 hl0 ⊢
  go_enter Tryz.func5,Tryz.ntmps5
  go_wp2_with fail
  refine HW.out.mono ?_
  rintro e w1 ⟨rfl,hb⟩
  have B1:=hideT hb
  clear hb HW
  go_wp2_with fail
  refine(HST.out _ B1.out).mono ?_
  rintro e w2 ⟨v2,rfl,ho,hb⟩
  have B2:=hideT (below2 B1.out hb)
  obtain⟨g,cp,rfl,hgb,hgl,hcp,hcell⟩:=ho.some hl0
  have HC:=hideT hcell
  obtain⟨k,hk⟩:∃ k,k=l.length:=⟨_,rfl⟩
  have HK:=hideT hk
  rw[<-hk]at hcp hl64 ⊢
  clear ho hb hcell hk HST hl0
  go_wp2_with fail
  go_loopw [24,9] (fun jv tv wr=>∃ j:Nat,jv=.int .i64 j/\j<=k/\OwnS wr w2.heap.size tv ((l.take j).map Stp.text)/\Below w2.heap.size w2 wr) (fun jv _ _=>k-(intOf jv).toNat)
  case atStart=>exact⟨0,rfl,Nat.zero_le _,OwnS.nil _ _,Below.refl _ _⟩
  case round =>
   obtain⟨j,rfl,hj,ho,hbw⟩:=hrel
   have O:=hideT ho
   have BW:=hideT hbw
   have hzr:=hbw.size
   clear ho hbw
   by_cases hlt:j<k
   ·have hlt':(j:Int)<(k:Int):=by omega
    have hjl:j<l.length:=by rw[<-HK.out];exact hlt
    have ci:=(BW.out.cell (p:=⟨g,j,none⟩) hgl).trans (HC.out j hjl)
    have HTX:=hideT (fun W=>stepText_any l[j] W (HFT.out l[j] (List.getElem_mem hjl)))
    have HNX:Hid ((l.take (j+1)).map Stp.text=(l.take j).map Stp.text++[l[j].text]):=by
     unfold Hid
     rw[List.take_add_one,List.getElem?_eq_getElem hjl,List.map_append]
     rfl
    have HLL:Hid (((l.take j).map Stp.text).length=j):=by
     unfold Hid
     rw[List.length_map,List.length_take]
     omega
    generalize (l.take j).map Stp.text=q at O HNX HLL
    generalize l[j]=s at ci HTX HNX
    generalize s.text=tx at HTX HNX
    generalize stepV s=sv at ci HTX
    clear hjl
    go_wp2_with fail
    refine(HTX.out _).mono ?_
    rintro e w3 ⟨rfl,hb⟩
    have O3:=hideT (O.out.below hb)
    have B3:=hideT (BW.out.trans (hb.mono hzr))
    have hz3:=B3.out.size
    clear hb ci O
    go_wp2_with (at_builtin;refine wpList_append_own _ rfl (.tmp 28) (.tmp 31) 23 rfl w2.heap.size 9 i0 (.string ⟨#[]⟩) 1 16 Tryz.underlying23 hif hz0 hz1 hz2 rfl (by decide) _ _ _ rfl (World.ownsRow.alloc O3.out _) ⟨w3.heap.size,0,none⟩ 1 1 [.string tx] rfl rfl (one_newS w3 _ _) (one_cellS _) (by rw[HLL.out];unfold maxLen;omega) (by rw[HLL.out];omega) (by simp;omega) ?_)
    intro v4 w4 hown hgrow _
    have O4:Hid (OwnS w4 w2.heap.size v4 ((l.take (j+1)).map Stp.text)):=by
     rw[HNX.out]
     exact OwnS.snoc hown
    have B4:=hideT (app_one B3.out hz3 (Nat.le_refl _) O3.out hgrow)
    clear hown hgrow O3
    go_wp2_with fail
    go_roundw
    case rel=>exact⟨j+1,by go_num,by omega,O4.out,B4.out⟩
    case measure=>simp[intOf];omega
   ·have OE:Hid (OwnS wr w2.heap.size u9 (l.map Stp.text)):=by
     have:=O.out
     rw[List.take_of_length_le (by rw[<-HK.out];omega)]at this
     exact this
    have hlt':¬(j:Int)<(k:Int):=by omega
    go_wp2_with fail
    go_ret
    exact⟨_,rfl,OE.out.mono B2.out.size,below2 B2.out BW.out⟩
end Go.Proofs.YtjfdllgodijibaaGreatDoor.Tr

