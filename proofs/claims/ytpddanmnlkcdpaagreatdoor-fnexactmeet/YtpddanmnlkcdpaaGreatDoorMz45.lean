/- Texts put together: PmSend, Mark, PlOwn, PmPlace, PmAt. -/
import Derived.Test.YtpddanmnlkcdpaaGreatDoorMz30
import Derived.Test.YtpddanmnlkcdpaaGreatDoorMz28
import Derived.Test.YtpddanmnlkcdpaaGreatDoorMz25
import Derived.Test.YtpddanmnlkcdpaaGreatDoorMz29
import Derived.Test.YtpddanmnlkcdpaaGreatDoorMz11
import Derived.Deep.RegionWith
import Derived.Test.YtpddanmnlkcdpaaGreatDoorMz33
import Derived.Deep.CutRange
set_option maxRecDepth 100000
set_option maxHeartbeats 8000000
namespace Go.Proofs.YtpddanmnlkcdpaaGreatDoor.Pl
open Go.RowKit
open Kp
open Pe
open Ls (blk_alloc)
open Sh (step_append_own)
theorem Tryz.infoSent:(Tryz.prog.info? 114).map (fun i=>(i.zero,i.size,i.bytes))=some (some (.agg #[.string ⟨#[]⟩,.int .i64 0,.int .i64 0,.string ⟨#[]⟩,.slice none 0 0]),5,72):=by kernel_rfl
theorem OwnL.blk {W:World} {base k:Nat} {v:Value} {m:List ML} (h:OwnL W base v m) (hk:v.ownBlock=some k):∃ cs,W.heap[k]? = some (.cells cs 114 (0,0)):=by
 obtain⟨_,h⟩:=h
 rcases h with⟨rfl,_⟩|⟨g,cap,cur,rfl,_,hb,_⟩
 ·simp[Value.ownBlock]at hk
 ·simp[Value.ownBlock]at hk
  subst hk
  exact⟨cur,hb⟩
theorem OwnL.others {W W':World} {base g:Nat} {v:Value} {m:List ML} {cs:Array Value} {T:TypeId} (h:OwnL W base v m) (hg:W.heap[g]? = some (.cells cs T (0,0))) (hT:T≠114) (hk:∀ k o,W.heap[k]? = some o->k≠g->W'.heap[k]? = some o):OwnL W' base v m:=by
 obtain⟨hl,h⟩:=h
 refine⟨hl,?_⟩
 rcases h with h|⟨k,cap,cur,hv,hkb,hb,rest⟩
 ·exact .inl h
 ·exact .inr ⟨k,cap,cur,hv,hkb,hk k _ hb (ty_ne hb hg (fun e=>hT e.symm)),rest⟩
def wpB (u:Value) (e z b:Int) (r s:ByteArray) (y:Int) (vo vs:Value):Obj:=.cells #[u,.int .i64 e,.int .i64 z,.int .i64 b,.string r,.string s,.int .i64 y,vo,vs] 78
theorem wp_set8 {W:World} {g:Nat} {u:Value} {e z b:Int} {r s:ByteArray} {y:Int} {vo vs:Value} (h:W.heap[g]? = some (wpB u e z b r s y vo vs)) (v:Value):(W.setCell ⟨g,8,none⟩ v).heap[g]? = some (wpB u e z b r s y vo v):=by
 unfold wpB at h ⊢
 rw[heap_setCell_same W g 8 _ _ v h]
 rfl
theorem wp_set7 {W:World} {g:Nat} {u:Value} {e z b:Int} {r s:ByteArray} {y:Int} {vo vs:Value} (h:W.heap[g]? = some (wpB u e z b r s y vo vs)) (v:Value):(W.setCell ⟨g,7,none⟩ v).heap[g]? = some (wpB u e z b r s y v vs):=by
 unfold wpB at h ⊢
 rw[heap_setCell_same W g 7 _ _ v h]
 rfl
theorem send_end {w w1 w8:World} {o:Obj} {g base:Nat} {x:ML} {e z b:Int} {r s:ByteArray} {y:Int} {u vo vs v8:Value} {m:List ML} (hg:w.heap[g]? = some (wpB u e z b r s y vo vs)) (ho:OwnL w base vs m) (hw1:∃ q,w1=w.alloc q) (hbase:base<=w.heap.size)
  (hg8:(w1.drew.alloc o).grownBy w8 vs.ownBlock) (ho8:w8.ownsRow base 114 5 v8 (m.length+1) (cellsL m++[.string x.1.who,.int .i64 x.1.kind,.int .i64 x.1.index,.string x.1.piece,x.2])) :
  w8.heap[g]? = some (wpB u e z b r s y vo vs)/\∃ v',(w8.setCell ⟨g,8,none⟩ v8).heap[g]? = some (wpB u e z b r s y vo v')/\OwnL (w8.setCell ⟨g,8,none⟩ v8) base v' (m++[x]) /\
    (∀ k o,w.heap[k]? = some o->k≠g->vs.ownBlock≠some k->(w8.setCell ⟨g,8,none⟩ v8).heap[k]? = some o)/\(∀ B,B<=base->B<=g->Below B w (w8.setCell ⟨g,8,none⟩ v8)):=by
 obtain⟨q,rfl⟩:=hw1
 have hT1:(78:Nat)≠114:=by decide
 have hne:vs.ownBlock≠some g:=fun e=>by
  obtain⟨cs,hc⟩:=ho.blk e
  unfold wpB at hg
  exact ty_ne hg hc hT1 rfl
 have up:∀ k u,w.heap[k]? = some u->((w.alloc q).drew.alloc o).heap[k]? = some u:=fun k u h=>blk_alloc (W:=(w.alloc q).drew) (blk_alloc h q) o
 have h8:w8.heap[g]? = some (wpB u e z b r s y vo vs):=grown_blk hg8 (up g _ hg) hne
 have o8:OwnL w8 base v8 (m++[x]):=OwnL.snoc ho8
 refine⟨h8,v8,wp_set8 h8 v8,?_,?_,?_⟩
 ·refine OwnL.others (W:=w8) (g:=g) o8 (by unfold wpB at h8;exact h8) hT1 (fun k o hk hkg=>?_)
  rw[heap_setCell_other _ _ k _ (by exact hkg)]
  exact hk
 ·intro k u hk hkg hkv
  rw[heap_setCell_other _ _ k _ (by exact hkg)]
  exact grown_blk hg8 (up k _ hk) hkv
 ·intro B hB hBg
  have hBs:B<=w.heap.size:=by have:=lt_rowK hg;omega
  refine(((((Below.refl B w).alloc hBs q).drew).alloc (by simp;omega) o).grown hg8 (by simp;omega) ?_).setCell (p:=⟨g,8,none⟩) hBg v8
  intro k hk
  exact Nat.le_trans hB (World.ownsRow.lt ho k hk).1
def SendPost (g base:Nat) (x:ML) (u:Value) (e z b:Int) (r s:ByteArray) (y:Int) (vo vs:Value) (m:List ML) (w w':World):Prop :=
 ∃ v',w'.heap[g]? = some (wpB u e z b r s y vo v')/\OwnL w' base v' (m++[x])/\(∀ k o,w.heap[k]? = some o->k≠g->vs.ownBlock≠some k->w'.heap[k]? = some o)/\(∀ B,B<=base->B<=g->Below B w w')
theorem send_any (g base n:Nat) (x:ML) (u:Value) (e z b:Int) (r s:ByteArray) (y:Int) (vo vs:Value) (m:List ML) (w:World) (hg:w.heap[g]? = some (wpB u e z b r s y vo vs)) (ho:OwnL w base vs m) (hbase:base<=w.heap.size) (hn:m.length=n) (hm:n<=1048576) (hx:∃ a n cap,x.2=.slice a n cap) :
  Calls Tryz.prog 38 #[.pointer (some ⟨g,0,none⟩),.string x.1.who,.agg #[.int .i64 x.1.kind,.int .i64 x.1.index,.string x.1.piece,x.2]] w fun q w' =>
   q=.returned (.tuple #[])/\SendPost g base x u e z b r s y vo vs m w w':=by
 obtain⟨i0,hi,hz0,hz1,hz2⟩:=info_parts Tryz.infoSent
 have HEND:=hideK (fun w1 w8 o v8=>send_end (w:=w) (w1:=w1) (w8:=w8) (o:=o) (x:=x) (v8:=v8) hg ho)
 obtain⟨⟨xt,xk,xi,xp,xl⟩,xv⟩:=x
 obtain⟨ap,np,cp,hxv⟩:=hx
 unfold SendPost
 dsimp only at hxv HEND ⊢
 subst hxv
 subst hn
 obtain⟨w1,hw1⟩:∃ w1,w1=w.alloc (.cells #[.int .i64 xk,.int .i64 xi,.string xp,.slice ap np cp] 51):=⟨_,rfl⟩
 have HX1:Hid (w1.heap[w.heap.size]? = some (.cells #[.int .i64 xk,.int .i64 xi,.string xp,.slice ap np cp] 51 (0,0))):=by rw[hw1];exact heap_alloc_new w _
 have B1:Hid (Below w.heap.size w w1):=by rw[hw1];exact(Below.refl _ _).alloc (Nat.le_refl _) _
 have G1:Hid (w1.heap[g]? = some (wpB u e z b r s y vo vs)):=by rw[hw1];exact blk_alloc hg _
 have O1:Hid (OwnL w1 base vs m):=by rw[hw1];exact ho.alloc _
 have HW1:Hid (∃ q,w1=w.alloc q):=⟨_,hw1⟩
 have OD:=hideK ((O1.out.below (show Below w1.heap.size w1 w1.drew from (Below.refl _ _).drew)).alloc (.cells #[.string xt,.int .i64 xk,.int .i64 xi,.string xp,.slice ap np cp] 114))
 have hz1':base<=w1.heap.size:=Nat.le_trans hbase B1.out.size
 clear hg ho
 obtain⟨a,cap,hv,_,_⟩:=O1.out.one
 have x0:=cell_of_row w1 w.heap.size 0 _ _ _ HX1.out
 have x1:=cell_of_row w1 w.heap.size 1 _ _ _ HX1.out
 have x2:=cell_of_row w1 w.heap.size 2 _ _ _ HX1.out
 have x3:=cell_of_row w1 w.heap.size 3 _ _ _ HX1.out
 have k8:w1.cell? ⟨g,8,none⟩=some vs:=cell_of_row w1 g 8 _ _ _ (by have:=G1.out;unfold wpB at this;exact this)
 have hfz:∀ o,w1.frozen? ⟨g,o,none⟩=false:=fun o=>frozen_of_row w1 g o _ _ (by have:=G1.out;unfold wpB at this;exact this)
 have HC8:Hid (∀ W:World,W.heap[g]? = some (wpB u e z b r s y vo vs)->W.cell? ⟨g,8,none⟩=some vs/\∀ o,W.frozen? ⟨g,o,none⟩=false):=fun W h=>by
  unfold wpB at h
  exact⟨cell_of_row W g 8 _ _ _ h,fun o=>frozen_of_row W g o _ _ h⟩
 go_enter Tryz.func38,Tryz.ntmps38
 go_upto_region 1 with fail
 rw[<-hw1]
 clear hw1
 generalize hml:m.length=n at hv OD HEND hm ⊢
 subst hv
 have ODD:Hid (((w1.alloc (.cells #[.string xt,.int .i64 xk,.int .i64 xi,.string xp,.slice ap np cp] 114)).drew).ownsRow base 114 5 (.slice a n cap) n (cellsL m)):=by
  have:=OD.out
  unfold OwnL at this
  rw[hml]at this
  exact this
 have cA:(w1.alloc (.cells #[.string xt,.int .i64 xk,.int .i64 xi,.string xp,.slice ap np cp] 114)).cell? ⟨g,8,none⟩=some (.slice a n cap):=(HC8.out _ (blk_alloc G1.out _)).1
 go_region_law (refine step_append_own rfl (.tmp 10) (.tmp 14) 36 rfl base 114 i0 _ 5 72 Tryz.underlying36 hi hz0 hz1 hz2 rfl (by decide) (.slice a n cap) n _ rfl ODD.out ⟨w1.heap.size,0,none⟩ 1 1 [.string xt,.int .i64 xk,.int .i64 xi,.string xp,.slice ap np cp] rfl rfl (five_new w1.drew _ _ _ _ _ _) (five_one rfl rfl rfl rfl rfl) (by unfold maxLen;omega) (by omega) (by simp;omega) ?_;intro v8 w8 ho8 hg8;obtain⟨a8,c8,hv8⟩:=own_one ho8;subst hv8;obtain⟨G8,HE8⟩:=HEND.out w1 w8 _ _ HW1.out hbase hg8 ho8;have E8:=hideK HE8;clear ho8 hg8 HE8;obtain⟨d8,hf8⟩:=HC8.out w8 G8)
 all_goals (try go_wp2_with fail)
 all_goals (
  refine bodyPost_end (v:=.tuple #[]) (by simp[results,Tryz.results38,go_sem]) rfl ⟨rfl,?_⟩
  exact E8.out)
end Go.Proofs.YtpddanmnlkcdpaaGreatDoor.Pl


namespace Go.Proofs.YtpddanmnlkcdpaaGreatDoor.St
open Go.RowKit
def dg (k:Nat) (o:ByteArray):ByteArray:=if _h:k=0 then o else dg (k/10) (⟨#[UInt8.ofNat (48+k%10)]⟩++o)
termination_by k
decreasing_by omega
theorem dg_zero (o:ByteArray):dg 0 o=o:=by rw[dg,dif_pos rfl]
theorem dg_more (k:Nat) (o:ByteArray) (h:k≠0):dg k o=dg (k/10) (⟨#[UInt8.ofNat (48+k%10)]⟩++o):=by rw[dg,dif_neg h]
def markT (k:Nat):ByteArray:=⟨#[109]⟩++dg k ⟨#[]⟩
theorem one_str (W:World) (y:Nat) (h:y<256):(convert 168 9 (.slice (some ⟨W.heap.size,0,none⟩) 1 1)).run Tryz.prog (W.alloc (.cells #[.int .u8 (y:Int)] 5))=.ok (.string ⟨#[UInt8.ofNat y]⟩) (W.alloc (.cells #[.int .u8 (y:Int)] 5)):=by
 refine run_convert_bytes_back (P:=Tryz.prog) (W.alloc (.cells #[.int .u8 (y:Int)] 5)) 168 9 5 ⟨W.heap.size,0,none⟩ 1 [UInt8.ofNat y] Tryz.underlying168 Tryz.underlying5 Tryz.underlying9 ?_
 intro j hj
 match j,hj with
 |0,_ =>
  simp[Addr.add]
  omega
theorem markT_any (k:Nat) (w:World) (h0:0<k) (hk:k<=1099511627776) :
  Calls Tryz.prog 81 #[.int .i64 k] w fun e w'=>e=.returned (.string (markT k))/\Below w.heap.size w w':=by
 go_enter Tryz.func81,Tryz.ntmps81
 go_wp2_with fail
 go_loopw [0,3] (fun kv ov wr=>∃ (j:Nat) (o:ByteArray),kv=.int .i64 j/\ov=.string o/\dg j o=dg k ⟨#[]⟩/\o.size+j<=k/\Below w.heap.size w wr) (fun kv _ _=>(intOf kv).toNat)
 case atStart=>exact⟨k,⟨#[]⟩,rfl,rfl,rfl,by simp[ByteArray.size],Below.refl _ _⟩
 case round =>
  obtain⟨j,o,rfl,rfl,hd,hsz,hbel⟩:=hrel
  have HD:=hideT hd
  have HB:=hideT hbel
  have hsz':=hbel.size
  clear hd hbel
  by_cases hj:j=0
  ·subst hj
   have HE:Hid ((⟨#[109]⟩:ByteArray)++o=markT k):=by
    unfold Hid markT
    rw[<-HD.out,dg_zero]
   go_wp2_with fail
   go_ret
   exact⟨Nu.ret_strJ HE.out,HB.out⟩
  ·have g0:0<(j:Int):=by omega
   have hy:48+j%10<256:=by omega
   have e1:IntKind.u8.wrap (48+(j:Int)%10)=((48+j%10:Nat):Int):=by
    simp[IntKind.wrap,IntKind.bits,IntKind.signed]
    omega
   have hconv:=one_str wr (48+j%10) hy
   rw[show ((48+j%10:Nat):Int)=48+(j:Int)%10 by omega]at hconv
   have hm:=dg_more j o hj
   generalize UInt8.ofNat (48+j%10)=y at hconv hm
   have HM:=hideT hm
   have hs1:(⟨#[y]⟩:ByteArray).size=1:=rfl
   clear hm
   go_wp2_with fail
   go_roundw
   case rel =>
    refine⟨j/10,_,by go_num,rfl,by rw[<-HM.out];exact HD.out,?_,HB.out.alloc hsz' _⟩
    rw[ByteArray.size_append,hs1]
    omega
   case measure=>simp[intOf];omega
def marks (k n:Nat):List ByteArray:=(List.range n).map fun j=>markT (k+j)
theorem marks_length (k n:Nat):(marks k n).length=n:=by simp[marks]
theorem marks_get (k n j:Nat) (h:j<(marks k n).length):(marks k n)[j]=markT (k+j):=by simp[marks]
def mmid (l:List ByteArray) (k i:Nat):List ByteArray:=marks k i++l.drop i
theorem mmid_length (l:List ByteArray) (k i:Nat) (h:i<=l.length):(mmid l k i).length=l.length:=by simp[mmid,marks_length];omega
theorem mmid_zero (l:List ByteArray) (k:Nat):mmid l k 0=l:=by simp[mmid,marks]
theorem mmid_all (l:List ByteArray) (k:Nat):mmid l k l.length=marks k l.length:=by simp[mmid]
theorem mmid_next (l:List ByteArray) (k i:Nat) (h:i<l.length):(mmid l k i).set i (markT (k+i))=mmid l k (i+1):=by
 unfold mmid
 rw[List.set_append,if_neg (by rw[marks_length];omega),marks_length,Nat.sub_self]
 have:marks k (i+1)=marks k i++[markT (k+i)]:=by simp[marks,List.range_succ]
 rw[this,List.append_assoc]
 congr 1
 rw[List.drop_eq_getElem_cons h]
 rfl
end Go.Proofs.YtpddanmnlkcdpaaGreatDoor.St


/- Rows of the call's own, and blocks of other element types. -/
namespace Go.Proofs.YtpddanmnlkcdpaaGreatDoor.Pl
open Go.RowKit
open Kp
open In (Ints OwnI)
open Ap (KeepE keepE_own)
theorem own_ne_ty {W:World} {base n k g:Nat} {e:TypeId} {v:Value} {xs:List Value} {cs:Array Value} {T:TypeId} (h:W.ownsRow base e k v n xs) (hg:W.heap[g]? = some (.cells cs T (0,0))) (hT:T≠e):v.ownBlock≠some g:=fun hk=>by
 obtain⟨_,h⟩:=h
 rcases h with⟨rfl,_⟩|⟨k,cap,cur,rfl,_,hb,_⟩
 ·simp[Value.ownBlock]at hk
 ·simp[Value.ownBlock]at hk
  subst hk
  exact ty_ne hg hb hT rfl
theorem own_keepE {W W':World} {base n k:Nat} {e E:TypeId} {v:Value} {xs:List Value} (h:W.ownsRow base e k v n xs) (hk:KeepE E W W') (he:e≠E):W'.ownsRow base e k v n xs:=by
 obtain⟨hl,h⟩:=h
 refine⟨hl,?_⟩
 rcases h with h|⟨g,cap,cur,hv,hg,hb,rest⟩
 ·exact .inl h
 ·exact .inr ⟨g,cap,cur,hv,hg,hk g _ _ he hb,rest⟩
theorem own_others {W W':World} {base n k g:Nat} {e:TypeId} {v:Value} {xs:List Value} {cs:Array Value} {T:TypeId} (h:W.ownsRow base e k v n xs) (hg:W.heap[g]? = some (.cells cs T (0,0))) (hT:T≠e) (hk:∀ k o,W.heap[k]? = some o->k≠g->W'.heap[k]? = some o):W'.ownsRow base e k v n xs:=by
 obtain⟨hl,h⟩:=h
 refine⟨hl,?_⟩
 rcases h with h|⟨q,cap,cur,hv,hkb,hb,rest⟩
 ·exact .inl h
 ·exact .inr ⟨q,cap,cur,hv,hkb,hk q _ hb (ty_ne hb hg (fun e=>hT e.symm)),rest⟩
theorem own_cellsI {W:World} {base n cap:Nat} {a:Option Addr} {l:List Int} (h:OwnI W base (.slice a n cap) l) (hn:0<n):∃ g,a=some ⟨g,0,none⟩/\g<W.heap.size/\∀ j (hj:j<l.length),W.cell? ⟨g,j,none⟩=some (.int .i64 l[j]):=by
 obtain⟨hl,h⟩:=h
 rcases h with⟨h,_⟩|⟨g,cap,cur,hv,hg,hb,h1,h2,h3,h4⟩
 ·simp at h
  omega
 ·refine⟨g,by simp at hv;exact hv.1,lt_rowK hb,fun j hj=>?_⟩
  refine(cell_of_row W g j _ _ _ hb).trans ?_
  rw[<-Array.getElem?_toList]
  have:(cur.toList.take (l.length*1))[j]? = (l.map (Value.int .i64))[j]?:=by rw[h4]
  rw[List.getElem?_take_of_lt (by omega),List.getElem?_map,List.getElem?_eq_getElem hj]at this
  exact this
end Go.Proofs.YtpddanmnlkcdpaaGreatDoor.Pl


namespace Go.Proofs.YtpddanmnlkcdpaaGreatDoor.Pm
open Go.RowKit
open Kp (hideK lt_rowK)
open Pe
def posN (l:List Oth) (nm:ByteArray):Nat:=(l.takeWhile fun o=>ltN o.name nm).length
def hasN (l:List Oth) (nm:ByteArray):Bool:=l.any fun o=>decide (o.name=nm)
def Ris (m:List MO):Prop:=∀ i j (hi:i<m.length) (hj:j<m.length),i<j->ltN m[i].1.name m[j].1.name=true
theorem posN_of {l:List Oth} {nm:ByteArray}:∀ {i:Nat},i<=l.length->(∀ t (h:t<l.length),t<i->ltN l[t].name nm=true)->(∀ (h:i<l.length),ltN l[i].name nm=false)->posN l nm=i:=by
 induction l with
 |nil=>intro i hi _ _;simp at hi;subst hi;rfl
 |cons x xs ih =>
  intro i hi h1 h2
  cases i with
  |zero =>
   have:=h2 (by simp)
   unfold posN
   rw[List.takeWhile_cons]
   simp at this
   simp[this]
  |succ i =>
   have h0:=h1 0 (by simp) (by omega)
   have:=ih (i:=i) (by simpa using hi) (fun t ht hti=>h1 (t+1) (by simpa using ht) (by omega)) (fun h=>h2 (by simpa using h))
   unfold posN at this ⊢
   rw[List.takeWhile_cons]
   simp at h0
   simp[h0,this]
theorem near_any (x:MO) (nm:ByteArray) (w:World) :
  Calls Tryz.prog 73 #[othV x,.string nm] w fun e w'=>e=.returned (.int .i64 (cmpZ x.1.name nm))/\Below w.heap.size w w':=by
 have X0:Hid ((w.alloc (othO x 86)).heap[w.heap.size]? = some (othO x 86)):=heap_alloc_new w _
 have B0:Hid (Below w.heap.size w (w.alloc (othO x 86))):=(Below.refl _ _).alloc (Nat.le_refl _) _
 unfold othV
 unfold othO at X0 B0
 go_enter Tryz.func73,Tryz.ntmps73
 go_upto_region 1 with fail
 generalize w.alloc _=W0 at X0 B0 ⊢
 have c0:=cell_of_row W0 w.heap.size 0 _ _ _ X0.out
 go_wp2_with fail
 refine(cmp_any _ _ _).mono ?_
 rintro e w1 ⟨rfl,hw⟩
 subst w1
 go_wp2_with fail
 go_ret
 exact⟨rfl,B0.out⟩
theorem has_at {m:List MO} {nm:ByteArray} {i:Nat} (hr:Ris m) (hi:i<=m.length) (lo:∀ t (h:t<m.length),t<i->ltN m[t].1.name nm=true) (hiq:∀ t (h:t<m.length),i<=t->ltN m[t].1.name nm=false):hasN (oths m) nm=if h:i<m.length then decide (m[i].1.name=nm) else false:=by
 have hany:hasN (oths m) nm=true↔∃ t,∃ h:t<m.length,m[t].1.name=nm:=by
  unfold hasN oths
  rw[List.any_eq_true]
  constructor
  ·rintro⟨o,ho,hd⟩
   obtain⟨x,hx,rfl⟩:=List.mem_map.1 ho
   obtain⟨t,ht,rfl⟩:=List.getElem_of_mem hx
   exact⟨t,ht,of_decide_eq_true hd⟩
  ·rintro⟨t,ht,he⟩
   exact⟨m[t].1,List.mem_map.2 ⟨m[t],List.getElem_mem ht,rfl⟩,decide_eq_true he⟩
 have honly:∀ t (h:t<m.length),m[t].1.name=nm->t=i:=fun t ht he=>by
  by_cases h1:t<i
  ·have:=lo t ht h1
   rw[he,ltN_self]at this
   cases this
  ·by_cases h2:t=i
   ·exact h2
   ·have h3:=hr i t (by omega) ht (by omega)
    rw[he]at h3
    rw[hiq i (by omega) (Nat.le_refl _)]at h3
    cases h3
 cases hh:hasN (oths m) nm with
 |true =>
  obtain⟨t,ht,he⟩:=hany.1 hh
  have:=honly t ht he
  subst this
  rw[dif_pos ht,decide_eq_true he]
 |false =>
  split
  ·rename_i h
   rw[decide_eq_false]
   intro he
   rw[hany.2 ⟨i,h,he⟩]at hh
   cases hh
  ·rfl
structure Sr (w:World) (m:List MO) (nm:ByteArray) (n i j:Nat) (wr:World):Prop where
 ij:i<=j
 jn:j<=n
 lo:∀ t (h:t<m.length),t<i->ltN m[t].1.name nm=true
 hi:∀ t (h:t<m.length),j<=t->ltN m[t].1.name nm=false
 low:Below w.heap.size w wr
theorem search_any (a:Option Addr) (n cap:Nat) (m:List MO) (nm:ByteArray) (w:World) (h:Oths w w.heap.size a m) (hm:m.length=n) (hn:n<=1048576) (hr:Ris m) :
  Calls Tryz.prog 72 #[.slice a n cap,.string nm,.func (.func 73) #[] #[]] w fun e w'=>e=.returned (.tuple #[.int .i64 ((posN (oths m) nm:Nat):Int),.bool (hasN (oths m) nm)])/\Below w.heap.size w w':=by
 have H0:=hideK h
 have HM:=hideK hm
 have HR:=hideK hr
 clear h hm hr
 go_enter Tryz.func72,Tryz.ntmps72
 go_wp2_with fail
 go_loopw [9,10] (fun iv jv wr=>∃ i j:Nat,iv=.int .i64 i/\jv=.int .i64 j/\Sr w m nm n i j wr) (fun iv jv _=>(intOf jv).toNat-(intOf iv).toNat)
 case atStart=>exact⟨0,n,rfl,rfl,Nat.zero_le _,Nat.le_refl _,fun t _ h=>absurd h (by omega),fun t ht h=>absurd ht (by have:=HM.out;omega),Below.refl _ _⟩
 case round =>
  obtain⟨i,j,rfl,rfl,hs⟩:=hrel
  have hij:=hs.ij
  have hjn:=hs.jn
  have S0:=hideK hs
  clear hs
  by_cases hlt:i<j
  ·have hlti:(i:Int)<(j:Int):=by omega
   have hltd:decide ((i:Int)<(j:Int))=true:=by simp;omega
   have hadd:IntKind.i64.wrap ((i:Int)+(j:Int))=(i:Int)+(j:Int):=by rw[IntKind.wrap_i64];omega
   have hu:IntKind.u64.wrap ((i:Int)+(j:Int))=(i:Int)+(j:Int):=by rw[IntKind.wrap_u64];omega
   obtain⟨k,hmid,hki,hkj⟩:∃ k:Nat,((i:Int)+(j:Int))/2=(k:Int)/\i<=k/\k<j:=⟨(i+j)/2,by omega,by omega,by omega⟩
   have hkm:k<m.length:=by have:=HM.out;omega
   have hk0:(0:Int)<=(k:Int):=by omega
   have hkn:(k:Int)<(n:Int):=by omega
   have hkn':¬(n:Int)<=(k:Int):=by omega
   have hkw:IntKind.i64.wrap ((k:Int)+1)=(k:Int)+1:=by rw[IntKind.wrap_i64];omega
   obtain⟨b,off,ha,hb,hc⟩:=(H0.out.later S0.out.low).some (by omega)
   subst ha
   obtain⟨c0,c1,c2,c3,c4⟩:=hc k hkm
   have HN:=hideK (fun W=>near_any m[k] nm W)
   have HLO:Hid (cmpZ m[k].1.name nm<0->Sr w m nm n (k+1) j wr):=fun hz=>⟨by omega,hjn,fun t ht htk=>by
    by_cases e:t=k
    ·subst e
     exact(cmpZ_less _ _).1 hz
    ·by_cases e2:t<i
     ·exact S0.out.lo t ht e2
     ·have h1:=HR.out t k ht hkm (by omega)
      exact ltN_trans h1 ((cmpZ_less _ _).1 hz),S0.out.hi,S0.out.low⟩
   have HHI:Hid (¬cmpZ m[k].1.name nm<0->Sr w m nm n i k wr):=fun hz=>⟨hki,by omega,S0.out.lo,fun t ht htk=>by
    have hk':ltN m[k].1.name nm=false:=by
     cases q:ltN m[k].1.name nm with
     |false=>rfl
     |true=>exact absurd ((cmpZ_less _ _).2 q) hz
    by_cases e:t=k
    ·subst e
     exact hk'
    ·have h1:=HR.out k t hkm ht (by omega)
     cases q:ltN m[t].1.name nm with
     |false=>rfl
     |true =>
      rw[ltN_trans h1 q]at hk'
      exact Bool.noConfusion hk',S0.out.low⟩
   unfold othV at HN
   generalize m[k]=x at c0 c1 c2 c3 c4 HN HLO HHI
   clear hc
   go_wp2_with fail
   refine(HN.out _).mono ?_
   rintro e w1 ⟨rfl,hb1⟩
   have K1:=hideK hb1
   clear hb1 c0 c1 c2 c3 c4
   generalize cmpZ x.1.name nm=cz at HLO HHI
   by_cases hz:cz<0
   ·have S1:=hideK (HLO.out hz)
    go_wp2_with fail
    go_roundw
    case rel=>exact⟨k+1,j,by go_num,rfl,⟨S1.out.ij,S1.out.jn,S1.out.lo,S1.out.hi,S1.out.low.trans (K1.out.mono S1.out.low.size)⟩⟩
    case measure=>simp[intOf];omega
   ·have S1:=hideK (HHI.out (by omega))
    go_wp2_with fail
    go_roundw
    case rel=>exact⟨i,k,rfl,rfl,⟨S1.out.ij,S1.out.jn,S1.out.lo,S1.out.hi,S1.out.low.trans (K1.out.mono S1.out.low.size)⟩⟩
    case measure=>simp[intOf];omega
  ·have hlti:¬(i:Int)<(j:Int):=by omega
   have hltd:decide ((i:Int)<(j:Int))=false:=by simp;omega
   obtain rfl:i=j:=by omega
   have HP:Hid (posN (oths m) nm=i):=by
    refine posN_of (by rw[oths_length,HM.out];exact hjn) (fun t ht hti=>?_) (fun ht=>?_)
    ·have:=S0.out.lo t (by rw[oths_length]at ht;exact ht) hti
     rw[oths_get m t (by rw[oths_length]at ht;exact ht)]
     exact this
    ·have:=S0.out.hi i (by rw[oths_length]at ht;exact ht) (Nat.le_refl _)
     rw[oths_get m i (by rw[oths_length]at ht;exact ht)]
     exact this
   have HH:Hid (hasN (oths m) nm=if h:i<m.length then decide (m[i].1.name=nm) else false):=by
    refine has_at HR.out (by rw[HM.out];exact hjn) S0.out.lo (fun t ht hti=>S0.out.hi t ht hti)
   by_cases hin:i<n
   ·have hini:(i:Int)<(n:Int):=by omega
    have hind:decide ((i:Int)<(n:Int))=true:=by simp;omega
    have him:i<m.length:=by rw[HM.out];exact hin
    have hi0:(0:Int)<=(i:Int):=by omega
    have hin':¬(n:Int)<=(i:Int):=by omega
    have HHV:Hid (hasN (oths m) nm=decide (m[i].1.name=nm)):=HH.out.trans (dif_pos him)
    obtain⟨b,off,ha,hb,hc⟩:=(H0.out.later S0.out.low).some (by omega)
    subst ha
    obtain⟨c0,c1,c2,c3,c4⟩:=hc i him
    have HN:=hideK (fun W=>near_any m[i] nm W)
    have HZ:=hideK (cmpZ_zero m[i].1.name nm)
    have BL:=hideK S0.out.low
    unfold othV at HN
    generalize m[i]=x at c0 c1 c2 c3 c4 HN HZ HHV
    clear hc HH S0
    go_wp2_with fail
    refine(HN.out _).mono ?_
    rintro e w1 ⟨rfl,hb1⟩
    have K1:=hideK (BL.out.trans (hb1.mono BL.out.size))
    clear hb1 c0 c1 c2 c3 c4
    have HQ:Hid ((cmpZ x.1.name nm==0)=decide (x.1.name=nm)):=by
     by_cases e:x.1.name=nm
     ·rw[decide_eq_true e,(HZ.out).2 e];rfl
     ·rw[decide_eq_false e,beq_eq_false_iff_ne]
      exact fun q=>e (HZ.out.1 q)
    have HHW:=hideK (HHV.out.trans HQ.out.symm)
    clear HHV HQ HZ
    generalize cmpZ x.1.name nm=cz at HHW ⊢
    go_wp2_with fail
    go_ret2
    exact⟨by rw[HP.out,HHW.out];rfl,K1.out⟩
   ·have hini:¬(i:Int)<(n:Int):=by omega
    have hind:decide ((i:Int)<(n:Int))=false:=by simp;omega
    have HHV:Hid (hasN (oths m) nm=false):=HH.out.trans (dif_neg (by rw[HM.out];exact hin))
    have BL:=hideK S0.out.low
    clear HH S0
    go_wp2_with fail
    go_ret2
    exact⟨by rw[HP.out,HHV.out];rfl,BL.out⟩
theorem place_any (gw:Nat) (v0 v1 v2 v3 v4 v5 v6 v8:Value) (a:Option Addr) (n cap:Nat) (m:List MO) (nm:ByteArray) (w:World) (hg:w.heap[gw]? = some (.cells #[v0,v1,v2,v3,v4,v5,v6,.slice a n cap,v8] 78 (0,0))) (h:Oths w w.heap.size a m) (hm:m.length=n) (hn:n<=1048576) (hr:Ris m) :
  Calls Tryz.prog 35 #[.pointer (some ⟨gw,0,none⟩),.string nm] w fun e w'=>e=.returned (.tuple #[.int .i64 ((posN (oths m) nm:Nat):Int),.bool (hasN (oths m) nm)])/\Below w.heap.size w w':=by
 have HS:=hideK (search_any a n cap m nm w h hm hn hr)
 have c7:=cell_of_row w gw 7 _ _ _ hg
 clear h hm hn hr hg
 go_enter Tryz.func35,Tryz.ntmps35
 go_wp2_with fail
 refine HS.out.mono ?_
 rintro e w1 ⟨rfl,hb⟩
 go_wp2_with fail
 go_ret2
 exact⟨rfl,hb⟩
end Go.Proofs.YtpddanmnlkcdpaaGreatDoor.Pm


namespace Go.Proofs.YtpddanmnlkcdpaaGreatDoor.Pm
open Go.RowKit
open Kp (hideK lt_rowK)
open Pe
theorem ris_of {m:List MO} {c:Int} (h:othsB (oths m) c=true):Ris m:=by
 have ho:=(oths_of h).2
 have step:∀ i (hi:i+1<m.length),ltN (m[i]'(by omega)).1.name m[i+1].1.name=true:=fun i hi=>by
  have:=(ho (i+1) (by rw[oths_length];exact hi) (by rw[oths_length];exact hi)).2 i (by rw[oths_length];omega) rfl
  rw[oths_get m i (by omega),oths_get m (i+1) hi]at this
  exact this
 have far:∀ d i (hi:i+d+1<m.length),ltN (m[i]'(by omega)).1.name m[i+d+1].1.name=true:=by
  intro d
  induction d with
  |zero=>intro i hi;exact step i hi
  |succ d ih =>
   intro i hi
   exact ltN_trans (ih i (by omega)) (step (i+d+1) hi)
 intro i j hi hj hij
 obtain⟨d,rfl⟩:∃ d,j=i+d+1:=⟨j-i-1,by omega⟩
 exact far d i hj
def atZ (l:List Oth) (nm:ByteArray):Int:=if hasN l nm=true then ((posN l nm:Nat):Int) else -1
theorem atZ_here {m:List MO} {nm:ByteArray} {j:Nat} (hr:Ris m) (hj:j<m.length) (he:m[j].1.name=nm):atZ (oths m) nm=(j:Int):=by
 have hlo:∀ t (h:t<m.length),t<j->ltN m[t].1.name nm=true:=fun t ht htj=>by rw[<-he];exact hr t j ht hj htj
 have hhi:∀ t (h:t<m.length),j<=t->ltN m[t].1.name nm=false:=fun t ht htj=>by
  cases q:ltN m[t].1.name nm with
  |false=>rfl
  |true =>
   by_cases e:t=j
   ·subst e
    rw[he,ltN_self]at q
    exact q.symm
   ·have h1:=hr j t hj ht (by omega)
    rw[he]at h1
    have:=ltN_trans h1 q
    rw[ltN_self]at this
    exact this.symm
 have h1:=has_at hr (Nat.le_of_lt hj) hlo hhi
 rw[dif_pos hj,decide_eq_true he]at h1
 have h2:posN (oths m) nm=j:=by
  refine posN_of (by rw[oths_length];omega) (fun t ht hti=>?_) (fun ht=>?_)
  ·rw[oths_get m t (by rw[oths_length]at ht;exact ht)]
   exact hlo t _ hti
  ·rw[oths_get m j hj]
   exact hhi j hj (Nat.le_refl _)
 unfold atZ
 rw[h1,h2]
 rfl
theorem atZ_none {m:List MO} {nm:ByteArray} (h:∀ t (ht:t<m.length),¬m[t].1.name=nm):atZ (oths m) nm = -1:=by
 have:hasN (oths m) nm=false:=by
  unfold hasN oths
  rw[List.any_eq_false]
  intro o ho
  obtain⟨x,hx,rfl⟩:=List.mem_map.1 ho
  obtain⟨t,ht,rfl⟩:=List.getElem_of_mem hx
  simpa using h t ht
 unfold atZ
 rw[this]
 rfl
theorem at_spec (gg:Nat) (v0 v1 v2 v3 v4 v6:Value) (a:Option Addr) (n cap:Nat) (m:List MO) (nm:ByteArray) (w:World) (hg:w.heap[gg]? = some (.cells #[v0,v1,v2,v3,v4,.slice a n cap,v6] 69 (0,0))) (h:Oths w w.heap.size a m) (hm:m.length=n) (hn:n<=1048576) (hr:Ris m) :
  Calls Tryz.prog 29 #[.pointer (some ⟨gg,0,none⟩),.string nm] w fun e w'=>e=.returned (.int .i64 (atZ (oths m) nm))/\w'=w:=by
 have H0:=hideK h
 have HM:=hideK hm
 have HR:=hideK hr
 have c5:=cell_of_row w gg 5 _ _ _ hg
 clear h hm hr hg
 go_enter Tryz.func29,Tryz.ntmps29
 go_wp2_with fail
 go_loopw [5] (fun jv wr=>∃ j:Nat,jv=.int .i64 j/\j<=n/\(∀ t (ht:t<m.length),t<j->¬m[t].1.name=nm)/\wr=w) (fun jv _=>n-(intOf jv).toNat)
 case atStart=>exact⟨0,rfl,Nat.zero_le _,fun t _ h=>absurd h (by omega),rfl⟩
 case round =>
  obtain⟨j,rfl,hj,hno,hw⟩:=hrel
  subst hw
  have HNO:=hideK hno
  clear hno
  have hwj:IntKind.i64.wrap ((j:Int)+1)=(j:Int)+1:=by rw[IntKind.wrap_i64];omega
  by_cases hlt:j<n
  ·have hlti:(j:Int)<(n:Int):=by omega
   have hltd:decide ((j:Int)<(n:Int))=true:=by simp;omega
   have hj0:(0:Int)<=(j:Int):=by omega
   have hjn:¬(n:Int)<=(j:Int):=by omega
   have hjm:j<m.length:=by rw[HM.out];exact hlt
   obtain⟨b,off,ha,hb,hc⟩:=H0.out.some (by omega)
   subst ha
   obtain⟨c0,_,_,_,_⟩:=hc j hjm
   by_cases he:m[j].1.name=nm
   ·have HZ:=hideK (atZ_here HR.out hjm he)
    rw[he]at c0
    clear hc HNO he
    go_wp2_with fail
    go_ret
    exact⟨by rw[HZ.out];rfl,by trivial⟩
   ·have HNX:Hid (∀ t (ht:t<m.length),t<j+1->¬m[t].1.name=nm):=fun t ht htj=>by
     by_cases e:t=j
     ·subst e;exact he
     ·exact HNO.out t ht (by omega)
    have hl:¬m[j].1.name.toList=nm.toList:=fun e=>he (ByteArray.ext (Array.toList_inj.1 (by rw[<-Lib.toList_data,<-Lib.toList_data];exact e)))
    have hl2:(m[j].1.name.toList==nm.toList)=false:=by rw[beq_eq_false_iff_ne];exact hl
    generalize m[j].1.name=q at c0 hl hl2
    clear hc HNO he
    go_wp2_with fail
    go_roundw
    case rel=>exact⟨j+1,by go_num,by omega,HNX.out,by trivial⟩
    case measure=>simp[intOf];omega
  ·have hlti:¬(j:Int)<(n:Int):=by omega
   have hltd:decide ((j:Int)<(n:Int))=false:=by simp;omega
   have HZ:=hideK (atZ_none (m:=m) (nm:=nm) fun t ht=>HNO.out t ht (by have:=HM.out;omega))
   clear HNO
   go_wp2_with fail
   go_ret
   exact⟨by rw[HZ.out];rfl,by trivial⟩
end Go.Proofs.YtpddanmnlkcdpaaGreatDoor.Pm

