import Derived.Test.YtbdcffjcogglbaaGreatDoorOz23
import Derived.Test.YtbdcffjcogglbaaGreatDoorOz33
import Derived.Lib.Strings
set_option maxRecDepth 100000
set_option maxHeartbeats 8000000
namespace Go.Proofs.YtbdcffjcogglbaaGreatDoor
open Go.RowKit
open Go.Proofs.Tryz
namespace Sh
def chunks (m:Nat):Nat:=(m+72)/64
def padK (t:ByteArray) (k j:Nat):Nat :=
 if j<t.size then bt t j else if j=t.size then 128 else if chunks t.size*64<=j+k then t.size*8/2 ^ (8*(chunks t.size*64-1-j))%256 else 0
def pad (t:ByteArray) (j:Nat):Nat:=padK t 8 j
theorem padK_lt (t:ByteArray) (k j:Nat):padK t k j<256:=by
 unfold padK
 have:=bt_lt t j
 split
 ·exact this
 ·split
  ·decide
  ·split
   ·exact Nat.mod_lt _ (by decide)
   ·decide
theorem pad_lt (t:ByteArray) (j:Nat):pad t j<256:=padK_lt t 8 j
theorem chunks_room (m:Nat):m+9<=chunks m*64:=by unfold chunks;omega
theorem chunks_tight (m:Nat):chunks m*64<=m+72:=by unfold chunks;omega
theorem pad_start (t:ByteArray) (j:Nat):j<chunks t.size*64->upd (fun j=>if j<t.size then ((bt t j:Nat):Int) else 0) t.size 128 j=((padK t 0 j:Nat):Int):=by
 intro hj;unfold upd padK;by_cases e:j=t.size
 ·subst e;simp
 ·by_cases h:j<t.size
  ·simp[e,h]
  ·have:¬chunks t.size*64<=j:=by omega
   simp[e,h,this]
theorem pad_next (t:ByteArray) (k:Nat) (hk:k<8) (v:Int) (hv:v=((t.size*8/2 ^ (8*k)%256:Nat):Int)) (j:Nat) (hj:j<chunks t.size*64) :
  upd (fun j=>((padK t k j:Nat):Int)) (chunks t.size*64-1-k) v j=((padK t (k+1) j:Nat):Int):=by
 subst hv;have hr:=chunks_room t.size;unfold upd padK;by_cases e:j=chunks t.size*64-1-k
 ·have h1:¬j<t.size:=by omega
  have h2:¬j=t.size:=by omega
  have h3:chunks t.size*64<=j+(k+1):=by omega
  have h4:chunks t.size*64-1-j=k:=by omega
  rw[if_pos e,if_neg h1,if_neg h2,if_pos h3,h4]
 ·rw[if_neg e]
  have:(chunks t.size*64<=j+(k+1))=(chunks t.size*64<=j+k):=propext ⟨fun h=>by omega,fun h=>by omega⟩
  simp only[this]
def blkB (t:ByteArray) (k j:Nat):Nat:=pad t (64*k+j)
theorem blkB_lt (t:ByteArray) (k j:Nat):blkB t k j<256:=pad_lt t _
def shaS (t:ByteArray):Nat->Nat->Int
 |0=>firstF
 |k+1=>blk (blkB t k) (shaS t k)
def outF (s:Nat->Int) (j:Nat):Nat:=(s (j/4)/2 ^ (24-8*(j%4))%256).toNat
theorem outF_lt (s:Nat->Int) (j:Nat):outF s j<256:=by unfold outF;omega
def sha (t:ByteArray):ByteArray:=strF 32 (outF (shaS t (chunks t.size)))
theorem sha_size (t:ByteArray):(sha t).size=32:=strF_size 32 _
def outK (s:Nat->Int) (m j:Nat):Nat:=if j<m then outF s j else 0
theorem outK_next (s:Nat->Int) (m j:Nat) (v:Int) (hv:v=((outF s m:Nat):Int)):upd (fun j=>((outK s m j:Nat):Int)) m v j=((outK s (m+1) j:Nat):Int):=by
 subst hv;unfold upd outK;by_cases e:j=m
 ·subst e;simp
 ·have:(j<m+1)=(j<m):=propext ⟨fun h=>by omega,fun h=>by omega⟩
  simp[e,this]
theorem outK_all (s:Nat->Int):strF 32 (outK s 32)=strF 32 (outF s):=strF_congr 32 _ _ (fun j hj=>by simp[outK,hj])
theorem outK_lt (s:Nat->Int) (m j:Nat):outK s m j<256:=by
 unfold outK
 split
 ·exact outF_lt s j
 ·decide
theorem outF_cast (s:Nat->Int) (m:Nat):s (m/4)/2 ^ (24-8*(m%4))%256=((outF s m:Nat):Int):=by
 unfold outF;rw[Int.toNat_of_nonneg];omega
end Sh
namespace Nu
theorem join_some (a b:ByteArray) (w:World) (h:a.size+b.size<=1099511627776) (hb:¬b=ByteArray.empty) :
  Calls prog 77 #[.string a,.string b] w fun e w'=>e=.returned (.string (a++b))/\Below w.heap.size w w':=by
 obtain⟨i0,hi,hz0,hz1,hz2⟩:=info_parts Tryz.infoJ5;go_enter func77,ntmps77
 go_wp2_with (at_make;refine wpList_make_full _ rfl (.tmp 10) (.tmp 10) 22 rfl w.heap.size 5 i0 (.int .u8 0) 1 underlying22 hi hz0 hz1 .i64 .i64 _ _ (a.size+b.size) rfl rfl (by simp) (by simp) (by rw[hz2];omega) (by unfold maxLen;omega) (Nat.le_refl _) ?_;intro w1 hown1 hgrow1;obtain⟨cur,hblk,hlen⟩:=made_block hown1;have hbel1:=(Below.refl w.heap.size w).grown hgrow1 (Nat.le_refl _) (by simp);obtain⟨w2,w3,c1,c2,c3,hb3⟩:=join_facts (P:=prog) (ty:=3) (sT:=9) (a:=a) (b:=b) (dp:=some ⟨w.heap.size,a.size,none⟩) (dLen:=b.size) (dCap:=b.size) underlying22 underlying5 underlying9 Tryz.sizeJ5 hblk hlen rfl hbel1 (fun _=>rfl) (Nat.le_refl _);clear hown1 hgrow1 hblk hlen hbel1)
 go_ret;exact⟨rfl,by assumption⟩
theorem join_none (a:ByteArray) (w:World) (h:a.size<=1099511627776) :
  Calls prog 77 #[.string a,.string ByteArray.empty] w fun e w'=>e=.returned (.string (a++ByteArray.empty))/\Below w.heap.size w w':=by
 obtain⟨i0,hi,hz0,hz1,hz2⟩:=info_parts Tryz.infoJ5;go_enter func77,ntmps77
 go_wp2_with (at_make;refine wpList_make_full _ rfl (.tmp 10) (.tmp 10) 22 rfl w.heap.size 5 i0 (.int .u8 0) 1 underlying22 hi hz0 hz1 .i64 .i64 _ _ a.size rfl rfl (by simp) (by simp) (by rw[hz2];omega) (by unfold maxLen;omega) (Nat.le_refl _) ?_;intro w1 hown1 hgrow1;obtain⟨cur,hblk,hlen⟩:=made_block hown1;have hbel1:=(Below.refl w.heap.size w).grown hgrow1 (Nat.le_refl _) (by simp);obtain⟨w2,w3,c1,c2,c3,hb3⟩:=join_facts (P:=prog) (ty:=3) (sT:=9) (a:=a) (b:=ByteArray.empty) (dp:=some ⟨w.heap.size,0,none⟩) (dLen:=0) (dCap:=0) underlying22 underlying5 underlying9 Tryz.sizeJ5 hblk hlen (by simp) hbel1 (by simp) (by simp);clear hown1 hgrow1 hblk hlen hbel1)
 go_ret;exact⟨ret_strJ (by simp),by assumption⟩
theorem join_any (a b:ByteArray) (w:World) (h:a.size+b.size<=1099511627776) :
  Calls prog 77 #[.string a,.string b] w fun e w'=>e=.returned (.string (a++b))/\Below w.heap.size w w':=by
 by_cases hb:b=ByteArray.empty
 ·subst hb
  exact join_none a w (by omega)
 ·exact join_some a b w h hb
def putT (t:ByteArray):ByteArray:=if t.size<=8000 then putS (t.size:Int)++t else ⟨#[]⟩
theorem putS_size (n:Int):(putS n).size<=10:=by
 have:=(numB_length (zz n)).1
 simpa [putS,ByteArray.size] using this
theorem text_impl (t:ByteArray) (w:World) (ht:t.size<=maxLen) :
  Calls prog 54 #[.string t] w fun e w'=>e=.returned (.string (putT t))/\Below w.heap.size w w':=by
 unfold maxLen at ht;by_cases h:8000<t.size
 ·have HP:=hide (show putT t=⟨#[]⟩ by unfold putT;rw[if_neg (by omega)])
  go_enter func54,ntmps54
  go_wp2
  go_ret;exact⟨ret_str HP.o.symm,Below.refl _ _⟩
 ·have HP:=hide (show putT t=putS (t.size:Int)++t by unfold putT;rw[if_pos (by omega)])
  have hps:=putS_size (t.size:Int);go_enter func54,ntmps54
  go_wp2_with fail
  refine(put_impl _ _ (by omega) (by omega)).mono ?_;rintro e w1 ⟨rfl,hb1⟩
  go_wp2_with fail
  refine(join_any _ _ _ (by omega)).mono ?_;rintro e w2 ⟨rfl,hb2⟩
  go_wp2
  go_ret;exact⟨ret_str HP.o.symm,hb1.trans (hb2.mono hb1.size)⟩
end Nu
namespace Gn
end Gn
namespace Hf
def lb (l:List Tree) (a:Nat):Nat->Option Nat
 |0=>none
 |i+1=>if i=a then lb l a i else match lb l a i with
  |none=>some i
  |some k=>if wt l i<wt l k then some i else some k
def shift (a b:Nat):Nat:=if b<a then b else b+1
theorem wt_low (l:List Tree) (a j:Nat) (h:j<a):wt (l.eraseIdx a) j=wt l j:=by
 unfold wt;rw[List.getD_eq_getElem?_getD,List.getD_eq_getElem?_getD,List.getElem?_eraseIdx_of_lt h]
theorem wt_high (l:List Tree) (a j:Nat) (h:a<=j):wt (l.eraseIdx a) j=wt l (j+1):=by
 unfold wt;rw[List.getD_eq_getElem?_getD,List.getD_eq_getElem?_getD,List.getElem?_eraseIdx_of_ge h]
theorem wt_shift (l:List Tree) (a b:Nat):wt (l.eraseIdx a) b=wt l (shift a b):=by
 unfold shift
 split
 ·exact wt_low l a b (by assumption)
 ·exact wt_high l a b (by omega)
theorem lb_low (l:List Tree) (a:Nat):∀ i,i<=a->lb l a i=if i=0 then none else some (shift a (least (l.eraseIdx a) i))
 |0,_=>rfl
 |i+1,h=>by
  have ih:=lb_low l a i (by omega);have hle:=least_le (l.eraseIdx a) i;rw[lb,if_neg (by omega),ih,if_neg (Nat.succ_ne_zero i),least];by_cases h0:i=0
  ·subst h0
   rw[if_pos rfl]
   show some 0=_
   have:least (l.eraseIdx a) 0=0:=rfl
   rw[this,if_neg (Nat.lt_irrefl _)];unfold shift;rw[if_pos (by omega)]
  ·rw[if_neg h0]
   simp only
   rw[wt_low l a i (by omega),wt_shift l a (least (l.eraseIdx a) i)];by_cases hw:wt l i<wt l (shift a (least (l.eraseIdx a) i))
   ·rw[if_pos hw,if_pos hw]
    unfold shift;rw[if_pos (by omega)]
   ·rw[if_neg hw,if_neg hw]
theorem lb_high (l:List Tree) (a:Nat):∀ i,lb l a (a+1+i)=if a+i=0 then none else some (shift a (least (l.eraseIdx a) (a+i)))
 |0=>by
  rw[Nat.add_zero,lb,if_pos rfl,lb_low l a a (Nat.le_refl _),Nat.add_zero]
 |i+1=>by
  have ih:=lb_high l a i;have hle:=least_le (l.eraseIdx a) (a+i);rw[show a+1+(i+1)=(a+1+i)+1 by omega,lb,if_neg (by omega),ih,show a+(i+1)=(a+i)+1 by omega,if_neg (Nat.succ_ne_zero _),least]
  have hs:shift a (a+i)=a+1+i:=by
   unfold shift;rw[if_neg (by omega)];omega
  by_cases h0:a+i=0
  ·rw[if_pos h0]
   simp only
   have h00:least (l.eraseIdx a) (a+i)=0:=by rw[h0];rfl
   rw[h00,h0,if_neg (Nat.lt_irrefl _),<-hs,h0]
  ·rw[if_neg h0]
   simp only
   rw[wt_high l a (a+i) (by omega),show a+i+1=a+1+i by omega,wt_shift l a (least (l.eraseIdx a) (a+i))];by_cases hw:wt l (a+1+i)<wt l (shift a (least (l.eraseIdx a) (a+i)))
   ·rw[if_pos hw,if_pos hw,hs]
   ·rw[if_neg hw,if_neg hw]
theorem lb_all (l:List Tree) (a n:Nat) (ha:a<n) (h2:2<=n):lb l a n=some (shift a (least (l.eraseIdx a) (n-1))):=by
 have:=lb_high l a (n-(a+1))
 rw[show a+1+(n-(a+1))=n by omega,show a+(n-(a+1))=n-1 by omega,if_neg (by omega)]at this;exact this
def oi:Option Nat->Int
 |none=>-1
 |some k=>(k:Int)
theorem lb_lt (l:List Tree) (a:Nat):∀ i k,lb l a i=some k->k<i
 |0,k,h=>by cases h
 |i+1,k,h=>by
  rw[lb]at h
  split at h
  ·have:=lb_lt l a i k h
   omega
  ·split at h
   ·simp at h
    omega
   ·rename_i k' hk'
    have:=lb_lt l a i k' hk'
    split at h<;>simp at h<;>omega
theorem lb_none {l:List Tree} {a i:Nat} (h:lb l a i=none) (hia:¬i=a):lb l a (i+1)=some i:=by
 rw[lb,if_neg hia,h]
theorem lb_some {l:List Tree} {a i k:Nat} (h:lb l a i=some k) (hia:¬i=a):lb l a (i+1)=if wt l i<wt l k then some i else some k:=by
 rw[lb,if_neg hia,h]
end Hf
namespace Ap
def Own0 (w:World) (base:Nat) (e:TypeId) (size:Nat) (v:Value) (n:Nat) (xs:List Value):Prop :=
 (∃ b,v=.slice (some b) 0 0/\n=0/\xs=[])∨w.ownsRow base e size v n xs
theorem Own0.below {w w':World} {base:Nat} {e:TypeId} {size:Nat} {v:Value} {n:Nat} {xs:List Value} (h:Own0 w base e size v n xs) (b:Below w.heap.size w w'):Own0 w' base e size v n xs:=by
 rcases h with h|⟨hl,h⟩
 ·exact .inl h
 ·refine .inr ⟨hl,?_⟩
  rcases h with h|⟨g,cap,cur,hv,hg,hb,rest⟩
  ·exact .inl h
  ·exact .inr ⟨g,cap,cur,hv,hg,by rw[b.block g (Array.getElem?_eq_some_iff.1 hb).1];exact hb,rest⟩
theorem Own0.alloc {w:World} {base:Nat} {e:TypeId} {size:Nat} {v:Value} {n:Nat} {xs:List Value} (h:Own0 w base e size v n xs) (o:Obj):Own0 (w.alloc o) base e size v n xs :=
 h.below ((Below.refl _ _).alloc (Nat.le_refl _) o)
theorem run_append_own0 {P:Program} (w:World) (base:Nat) (t ty e:TypeId) (i:TypeInfo) (z:Value) (size bytes:Nat) (ht:P.underlying t=some (.slice e)) (hi:P.info? e=some i) (hz:i.zero=some z)
  (hsize:i.size=size) (hby:i.bytes=bytes) (hzs:z.cells.size=size) (hsz:0<size)
  (v:Value) (n:Nat) (xs:List Value) (hown:Own0 w base e size v n xs)
  (a:Addr) (m c:Nat) (news:List Value) (hl:news.length=m*size) (hnews:∀ j u,news[j]? = some u->w.cell? (a.add j)=some u) (h1:∀ u∈news,u.oneCell'=true) (hm:0<m)
  (h63:n+m<=maxLen) (hbytes:(n+m)*bytes<=140737488355328) (hbase:base<=w.heap.size) :
  ∃ v' w',(Builtin.append_ #[t,t] ty #[v,.slice (some a) m c]).run P w=.ok v' w'/\w'.ownsRow base e size v' (n+m) (xs++news)/\∀ B,B<=base->Below B w w':=by
 rcases hown with⟨b,rfl,rfl,rfl⟩|hown
 ·subst hsize
  subst hby
  have hsmall:m<=9223372036854775807:=by simp only[maxLen]at h63;omega
  have hr:=run_append_grow (P:=P) w t ty e i z ht hi hz b 0 0 [] (by simp) (by simp) a m c news hl hnews (by omega) (by omega) (growslice_fits (by omega) hbytes);refine⟨_,_,hr,?_,fun B hB=>?_⟩
  ·have hge:=grownCap_ge w (0+m) 0 e
   have hcm:grownCap w (0+m) 0 e<=maxLen:=grownCap_le_maxLen w (0+m) 0 e h63;refine⟨by simpa using hl,.inr ⟨w.heap.size,_,_,rfl,hbase,heap_alloc_new w.drew _,hge,hcm,?_,?_⟩⟩
   ·simp only[Array.size_append,List.size_toArray,size_zeroCells,hzs,hl,List.length_nil]
    rw[Nat.zero_add,<-Nat.add_mul]
    congr 1
    omega
   ·simp only[Array.toList_append,List.nil_append]
    rw[show (0+m)*i.size=news.length by rw[Nat.zero_add,hl]];exact List.take_left
  ·exact((Below.refl B w).drew).alloc (by simp;omega) _
 ·obtain⟨v',w',hr,h2,h3,_⟩:=run_append_own (P:=P) w base t ty e i z size bytes ht hi hz hsize hby hzs hsz v n xs hown a m c news hl hnews h1 h63 hbytes hbase
  refine⟨v',w',hr,h2,fun B hB=>(Below.refl B w).grown h3 (by omega) ?_⟩;intro k hk;exact Nat.le_trans hB (hown.lt k hk).1
theorem wpList_append_own0 {P:Program} (w:World) {ops:Array Oper} {rest:List Oper} {o:Oper} {a:Act} {Q:Exit->Act->World->Prop} (hgd:o.guard=none) (s x:Operand) (t:TypeId)
  (ho:o.op=.call { callee:=.builtin .append,args:=#[s,x],argTypes:=#[t,t] })
  (base:Nat) (e:TypeId) (i:TypeInfo) (z:Value) (size bytes:Nat) (ht:P.underlying t=some (.slice e)) (hi:P.info? e=some i) (hz:i.zero=some z)
  (hsize:i.size=size) (hby:i.bytes=bytes) (hzs:z.cells.size=size) (hsz:0<size)
  (v:Value) (n:Nat) (xs:List Value) (hs:a.eval s=v) (hown:Own0 w base e size v n xs)
  (ad:Addr) (m c:Nat) (news:List Value) (hx:a.eval x=.slice (some ad) m c) (hl:news.length=m*size) (hnews:∀ j u,news[j]? = some u->w.cell? (ad.add j)=some u) (h1:∀ u∈news,u.oneCell'=true) (hm:0<m)
  (h63:n+m<=maxLen) (hbytes:(n+m)*bytes<=140737488355328) (hbase:base<=w.heap.size)
  (h:∀ v' w',w'.ownsRow base e size v' (n+m) (xs++news)->(∀ B,B<=base->Below B w w')->wpList P ops Q rest (a.put o.dst v') w'):wpList P ops Q (o :: rest) a w :=
 wpList_plain hgd fun _ hK=>by
  obtain⟨v',w',hr,h2,h3⟩:=run_append_own0 (P:=P) w base t o.type e i z size bytes ht hi hz hsize hby hzs hsz v n xs hown ad m c news hl hnews h1 hm h63 hbytes hbase;unfold Oper.wp execOp;simp only[ho,resolve,invoke,builtin,Sem.run_bind,Sem.run_pure,Result.andThen_ok,List.map_toArray,List.map_cons,List.map_nil,hs,hx,hr];exact hK _ _ (h v' w' h2 h3)
def KeepE (e:TypeId) (W W':World):Prop:=∀ (g:Nat) (cur:Array Value) (t:TypeId),t≠e->W.heap[g]? = some (.cells cur t (0,0))->W'.heap[g]? = some (.cells cur t (0,0))
theorem KeepE.below {e:TypeId} {W W':World} (h:Below W.heap.size W W'):KeepE e W W':=fun g _ _ _ hg=>(h.block g (Array.getElem?_eq_some_iff.1 hg).1).trans hg
theorem keepE_own {W W':World} {base size n:Nat} {e:TypeId} {v:Value} {xs:List Value} (h:W.grownBy W' v.ownBlock) (ho:W.ownsRow base e size v n xs):KeepE e W W':=fun g cur t ht hg=>by
 rw[h.block g (Array.getElem?_eq_some_iff.1 hg).1 (by
  intro hk;obtain⟨_,ho⟩:=ho
  rcases ho with⟨hv,_⟩|⟨k,cap,cs,hv,_,hb,_⟩
  ·subst hv
   simp[Value.ownBlock]at hk
  ·subst hv
   simp[Value.ownBlock]at hk;subst hk;rw[hb]at hg;simp at hg
   exact ht hg.2.symm)]
 exact hg
theorem run_append_own0k {P:Program} (w:World) (base:Nat) (t ty e:TypeId) (i:TypeInfo) (z:Value) (size bytes:Nat) (ht:P.underlying t=some (.slice e)) (hi:P.info? e=some i) (hz:i.zero=some z)
  (hsize:i.size=size) (hby:i.bytes=bytes) (hzs:z.cells.size=size) (hsz:0<size)
  (v:Value) (n:Nat) (xs:List Value) (hown:Own0 w base e size v n xs)
  (a:Addr) (m c:Nat) (news:List Value) (hl:news.length=m*size) (hnews:∀ j u,news[j]? = some u->w.cell? (a.add j)=some u) (h1:∀ u∈news,u.oneCell'=true) (hm:0<m)
  (h63:n+m<=maxLen) (hbytes:(n+m)*bytes<=140737488355328) (hbase:base<=w.heap.size) :
  ∃ v' w',(Builtin.append_ #[t,t] ty #[v,.slice (some a) m c]).run P w=.ok v' w'/\w'.ownsRow base e size v' (n+m) (xs++news)/\(∀ B,B<=base->Below B w w')/\KeepE e w w':=by
 rcases hown with⟨b,rfl,rfl,rfl⟩|hown
 ·subst hsize
  subst hby
  have hsmall:m<=9223372036854775807:=by simp only[maxLen]at h63;omega
  have hr:=run_append_grow (P:=P) w t ty e i z ht hi hz b 0 0 [] (by simp) (by simp) a m c news hl hnews (by omega) (by omega) (growslice_fits (by omega) hbytes);refine⟨_,_,hr,?_,fun B hB=>?_,KeepE.below (((Below.refl _ w).drew).alloc (Nat.le_refl _) _)⟩
  ·have hge:=grownCap_ge w (0+m) 0 e
   have hcm:grownCap w (0+m) 0 e<=maxLen:=grownCap_le_maxLen w (0+m) 0 e h63;refine⟨by simpa using hl,.inr ⟨w.heap.size,_,_,rfl,hbase,heap_alloc_new w.drew _,hge,hcm,?_,?_⟩⟩
   ·simp only[Array.size_append,List.size_toArray,size_zeroCells,hzs,hl,List.length_nil]
    rw[Nat.zero_add,<-Nat.add_mul]
    congr 1
    omega
   ·simp only[Array.toList_append,List.nil_append]
    rw[show (0+m)*i.size=news.length by rw[Nat.zero_add,hl]];exact List.take_left
  ·exact((Below.refl B w).drew).alloc (by simp;omega) _
 ·obtain⟨v',w',hr,h2,h3,_⟩:=run_append_own (P:=P) w base t ty e i z size bytes ht hi hz hsize hby hzs hsz v n xs hown a m c news hl hnews h1 h63 hbytes hbase
  refine⟨v',w',hr,h2,fun B hB=>(Below.refl B w).grown h3 (by omega) ?_,keepE_own h3 hown⟩;intro k hk;exact Nat.le_trans hB (hown.lt k hk).1
theorem wpList_append_own0k {P:Program} (w:World) {ops:Array Oper} {rest:List Oper} {o:Oper} {a:Act} {Q:Exit->Act->World->Prop} (hgd:o.guard=none) (s x:Operand) (t:TypeId)
  (ho:o.op=.call { callee:=.builtin .append,args:=#[s,x],argTypes:=#[t,t] })
  (base:Nat) (e:TypeId) (i:TypeInfo) (z:Value) (size bytes:Nat) (ht:P.underlying t=some (.slice e)) (hi:P.info? e=some i) (hz:i.zero=some z)
  (hsize:i.size=size) (hby:i.bytes=bytes) (hzs:z.cells.size=size) (hsz:0<size)
  (v:Value) (n:Nat) (xs:List Value) (hs:a.eval s=v) (hown:Own0 w base e size v n xs)
  (ad:Addr) (m c:Nat) (news:List Value) (hx:a.eval x=.slice (some ad) m c) (hl:news.length=m*size) (hnews:∀ j u,news[j]? = some u->w.cell? (ad.add j)=some u) (h1:∀ u∈news,u.oneCell'=true) (hm:0<m)
  (h63:n+m<=maxLen) (hbytes:(n+m)*bytes<=140737488355328) (hbase:base<=w.heap.size)
  (h:∀ v' w',w'.ownsRow base e size v' (n+m) (xs++news)->(∀ B,B<=base->Below B w w')->KeepE e w w'->wpList P ops Q rest (a.put o.dst v') w'):wpList P ops Q (o :: rest) a w :=
 wpList_plain hgd fun _ hK=>by
  obtain⟨v',w',hr,h2,h3,h4⟩:=run_append_own0k (P:=P) w base t o.type e i z size bytes ht hi hz hsize hby hzs hsz v n xs hown ad m c news hl hnews h1 hm h63 hbytes hbase;unfold Oper.wp execOp;simp only[ho,resolve,invoke,builtin,Sem.run_bind,Sem.run_pure,Result.andThen_ok,List.map_toArray,List.map_cons,List.map_nil,hs,hx,hr];exact hK _ _ (h v' w' h2 h3 h4)
end Ap
namespace Bi
def cnt (l:List Int) (v:Int):Nat:=l.countP fun x=>decide (x=v)
theorem cnt_snoc (l:List Int) (v x:Int):cnt (l++[x]) v=cnt l v+if x=v then 1 else 0:=by simp[cnt,List.countP_append,List.countP_cons]
theorem cnt_more {l:List Int} {k:Nat} (h:k<l.length) (v:Int):cnt (l.take (k+1)) v=cnt (l.take k) v+if l[k]=v then 1 else 0:=by
 rw[take_more h,cnt_snoc]
theorem cnt_take (l:List Int) (v:Int) (k:Nat):cnt (l.take k) v<=cnt l v:=by
 unfold cnt;exact List.Sublist.countP_le (List.take_sublist k l)
theorem cnt_here {l:List Int} {k:Nat} {v:Int} (h:k<l.length) (e:l[k]=v):cnt (l.take k) v+1<=cnt l v:=by
 have h1:=cnt_more h v;rw[if_pos e]at h1;have h2:=cnt_take l v (k+1);omega
def lowP (v:Nat) (x:Int):Nat:=if 0<x/\x<=v then 2 ^ (12-x.toNat) else 0
def low (l:List Int) (v:Nat):Nat:=(l.map (lowP v)).sum
theorem lowP_succ (v:Nat) (x:Int):lowP (v+1) x=lowP v x+(if x=((v+1:Nat):Int) then 1 else 0)*2 ^ (12-(v+1)):=by
 unfold lowP;by_cases h:x=((v+1:Nat):Int)
 ·rw[if_pos h,if_pos (by omega),if_neg (by omega)]
  subst h;simp
 ·rw[if_neg h]
  by_cases h2:0<x/\x<=v
  ·rw[if_pos h2,if_pos (by omega)]
   omega
  ·rw[if_neg h2,if_neg (by omega)]
   omega
theorem low_succ (l:List Int) (v:Nat):low l (v+1)=low l v+cnt l ((v+1:Nat):Int)*2 ^ (12-(v+1)):=by
 induction l with
 |nil=>simp[low,cnt]
 |cons x l ih =>
  simp only[low,List.map_cons,List.sum_cons,cnt,List.countP_cons]at ih ⊢;rw[ih,lowP_succ,Nat.add_mul];by_cases h:x=((v+1:Nat):Int)
  ·simp only[h,if_true,decide_true]
   omega
  ·simp only[h,if_false,decide_false,Bool.false_eq_true]
   omega
theorem low_zero (l:List Int):low l 0=0:=by
 induction l with
 |nil=>rfl
 |cons x l ih =>
  simp only[low,List.map_cons,List.sum_cons]at ih ⊢;rw[ih,lowP,if_neg (by omega)]
theorem low_le (l:List Int) (v:Nat):low l v<=csum l:=by
 induction l with
 |nil=>simp[low]
 |cons x l ih =>
  simp only[low,csum,List.map_cons,List.sum_cons]at ih ⊢
  have:lowP v x<=part x:=by
   unfold lowP part;generalize 2 ^ (12-x.toNat)=p
   split<;>split<;>omega
  omega
def innN (l:List Int) (v n0 k:Nat):Nat:=n0+cnt (l.take k) v
def outN (l:List Int):Nat->Nat
 |0=>0
 |v+1=>2*outN l v+cnt l ((v+1:Nat):Int)
theorem outN_low (l:List Int):∀ v,v<=12->outN l v*2 ^ (12-v)=low l v:=by
 intro v
 induction v with
 |zero=>intro _;simp[outN,low_zero]
 |succ v ih =>
  intro hv;rw[low_succ,<-ih (by omega)];simp only[outN];rw[Nat.add_mul,show 12-v=12-(v+1)+1 by omega,Nat.pow_succ,Nat.mul_comm 2 (outN l v),Nat.mul_assoc,Nat.mul_comm 2]
theorem inn_fits {l:List Int} (hr:csum l<=4096) {v k:Nat} (hv:v<12) (hk:k<l.length) (e:l[k]=((v+1:Nat):Int)):innN l (v+1) (2*outN l v) k<2 ^ (v+1):=by
 have h1:=cnt_here hk e;have h2:=outN_low l (v+1) (by omega);have h3:=low_le l (v+1)
 have h4:(2:Nat) ^ (v+1)*2 ^ (12-(v+1))=4096:=by
  rw[<-Nat.pow_add,show v+1+(12-(v+1))=12 by omega]
 have h5:outN l (v+1)*2 ^ (12-(v+1))<=2 ^ (v+1)*2 ^ (12-(v+1)):=by rw[h2,h4];omega
 have h6:outN l (v+1)<=2 ^ (v+1):=Nat.le_of_mul_le_mul_right h5 (Nat.pow_pos (by decide));simp only[outN]at h6;unfold innN;omega
theorem out_fits {l:List Int} (hr:csum l<=4096) {v:Nat} (hv:v<=12):outN l v<=2 ^ v:=by
 have h2:=outN_low l v hv;have h3:=low_le l v
 have h4:(2:Nat) ^ v*2 ^ (12-v)=4096:=by
  rw[<-Nat.pow_add,show v+(12-v)=12 by omega]
 have h5:outN l v*2 ^ (12-v)<=2 ^ v*2 ^ (12-v):=by rw[h2,h4];omega
 exact Nat.le_of_mul_le_mul_right h5 (Nat.pow_pos (by decide))
theorem out_small {l:List Int} (hr:csum l<=4096) {v:Nat} (hv:v<=12):outN l v<=4096:=by
 have h1:=out_fits hr hv;have h2:=Nat.pow_le_pow_right (n:=2) (by decide) hv;omega
theorem innN_zero (l:List Int) (v n0:Nat):innN l v n0 0=n0:=by simp[innN,cnt]
theorem innN_yes {l:List Int} {v n0 k:Nat} (h:k<l.length) (e:l[k]=(v:Int)):innN l v n0 (k+1)=innN l v n0 k+1:=by
 unfold innN;rw[cnt_more h,if_pos e];omega
theorem innN_no {l:List Int} {v n0 k:Nat} (h:k<l.length) (e:¬l[k]=(v:Int)):innN l v n0 (k+1)=innN l v n0 k:=by
 unfold innN;rw[cnt_more h,if_neg e];omega
theorem innN_all (l:List Int) (v:Nat):innN l (v+1) (2*outN l v) l.length=outN l (v+1):=by
 unfold innN;rw[List.take_length];rfl
theorem innN_le (l:List Int) (v n0 k:Nat):innN l v n0 k<=n0+l.length:=by
 unfold innN cnt
 have:=List.countP_le_length (p:=fun x=>decide (x=(v:Int))) (l:=l.take k)
 rw[List.length_take]at this;omega
def innO (l:List Int) (v n0:Nat) (o:List ByteArray):Nat->List ByteArray
 |0=>o
 |k+1=>if l[k]? = some (v:Int) then (innO l v n0 o k).set k (bitsV (innN l v n0 k) v) else innO l v n0 o k
def outO (l:List Int):Nat->List ByteArray
 |0=>List.replicate l.length ⟨#[]⟩
 |v+1=>innO l (v+1) (2*outN l v) (outO l v) l.length
def codesV (l:List Int):List ByteArray:=outO l 12
def codesR (l:List Int):List ByteArray:=if right l=true then codesV l else []
theorem innO_length (l:List Int) (v n0:Nat) (o:List ByteArray):∀ k,(innO l v n0 o k).length=o.length:=by
 intro k
 induction k with
 |zero=>rfl
 |succ k ih =>
  simp only[innO]
  split
  ·rw[List.length_set,ih]
  ·exact ih
theorem outO_length (l:List Int):∀ v,(outO l v).length=l.length:=by
 intro v
 induction v with
 |zero=>simp[outO]
 |succ v ih=>simp only[outO];rw[innO_length,ih]
theorem codesV_length (l:List Int):(codesV l).length=l.length:=outO_length l 12
theorem innO_yes {l:List Int} {v n0 k:Nat} {o:List ByteArray} (h:k<l.length) (e:l[k]=(v:Int)):innO l v n0 o (k+1)=(innO l v n0 o k).set k (bitsV (innN l v n0 k) v):=by
 simp only[innO];rw[if_pos (by rw[List.getElem?_eq_getElem h,e])]
theorem innO_no {l:List Int} {v n0 k:Nat} {o:List ByteArray} (h:k<l.length) (e:¬l[k]=(v:Int)):innO l v n0 o (k+1)=innO l v n0 o k:=by
 simp only[innO];rw[if_neg (by rw[List.getElem?_eq_getElem h];simp;exact e)]
end Bi
namespace Bi
open Sh (bt strF)
theorem innO_get (l:List Int) (v n0:Nat) (o:List ByteArray) (i:Nat) (hi:i<l.length) (ho:o.length=l.length):∀ k,k<=l.length ->
  (innO l v n0 o k)[i]? = if i<k/\l[i]=(v:Int) then some (bitsV (innN l v n0 i) v) else o[i]?:=by
 intro k
 induction k with
 |zero=>intro _;simp[innO]
 |succ k ih =>
  intro hk;by_cases e:l[k]=(v:Int)
  ·rw[innO_yes (by omega) e,List.getElem?_set]
   by_cases hik:k=i
   ·subst hik
    rw[if_pos rfl,if_pos (by rw[innO_length,ho];exact hi),if_pos ⟨by omega,e⟩]
   ·rw[if_neg hik,ih (by omega)]
    have:(i<k+1/\l[i]=(v:Int))=(i<k/\l[i]=(v:Int)):=propext ⟨fun h=>⟨by omega,h.2⟩,fun h=>⟨by omega,h.2⟩⟩
    simp only[this]
  ·rw[innO_no (by omega) e,ih (by omega)]
   by_cases hik:k=i
   ·subst hik
    rw[if_neg (fun h=>e h.2),if_neg (fun h=>e h.2)]
   ·have:(i<k+1/\l[i]=(v:Int))=(i<k/\l[i]=(v:Int)):=propext ⟨fun h=>⟨by omega,h.2⟩,fun h=>⟨by omega,h.2⟩⟩
    simp only[this]
def cnum (l:List Int) (i:Nat):Nat:=innN l (l.getD i 0).toNat (2*outN l ((l.getD i 0).toNat-1)) i
def codeOf (l:List Int) (i:Nat):ByteArray:=if 0<l.getD i 0 then bitsV (cnum l i) (l.getD i 0).toNat else ⟨#[]⟩
theorem outO_get (l:List Int) (i:Nat) (hi:i<l.length):∀ v,v<=12->(outO l v)[i]? = some (if 0<l[i]/\l[i]<=(v:Int) then codeOf l i else ⟨#[]⟩):=by
 have hg:l.getD i 0=l[i]:=by rw[List.getD_eq_getElem?_getD,List.getElem?_eq_getElem hi];rfl
 intro v
 induction v with
 |zero =>
  intro _;rw[if_neg (by omega)];simp[outO,hi]
 |succ v ih =>
  intro hv;simp only[outO];rw[innO_get l (v+1) _ _ i hi (outO_length l v) l.length (Nat.le_refl _),ih (by omega)];by_cases e:l[i]=((v+1:Nat):Int)
  ·rw[if_pos ⟨hi,e⟩,if_pos (by omega)]
   unfold codeOf cnum;rw[hg,if_pos (by omega),e];simp
  ·rw[if_neg (fun h=>e h.2)]
   have:(0<l[i]/\l[i]<=((v+1:Nat):Int))=(0<l[i]/\l[i]<=(v:Int)):=propext ⟨fun h=>⟨h.1,by omega⟩,fun h=>⟨h.1,by omega⟩⟩
   simp only[this]
theorem codes_get (l:List Int) (h:∀ x∈l,0<=x/\x<=12) (i:Nat) (hi:i<(codesV l).length):(codesV l)[i]=codeOf l i:=by
 have hi':i<l.length:=by rw[codesV_length]at hi;exact hi
 have h1:=outO_get l i hi' 12 (Nat.le_refl _);have h2:=h _ (List.getElem_mem hi')
 have hg:l.getD i 0=l[i]:=by rw[List.getD_eq_getElem?_getD,List.getElem?_eq_getElem hi'];rfl
 have h3:(codesV l)[i]? = some (codesV l)[i]:=List.getElem?_eq_getElem hi;have h4:(codesV l)[i]? = (outO l 12)[i]?:=rfl;rw[h3,h1]at h4;have h5:=Option.some.inj h4;rw[h5];by_cases hp:0<l[i]
 ·rw[if_pos ⟨hp,by omega⟩]
 ·rw[if_neg (fun x=>hp x.1)]
  unfold codeOf;rw[hg,if_neg hp]
theorem codeOf_size (l:List Int) (i:Nat):(codeOf l i).size=(l.getD i 0).toNat:=by
 unfold codeOf
 split
 ·exact bitsV_size _ _
 ·have:(l.getD i 0).toNat=0:=by omega
  rw[this];rfl
theorem codeOf_le (l:List Int) (h:∀ x∈l,0<=x/\x<=12) (i:Nat):(codeOf l i).size<=12:=by
 rw[codeOf_size];by_cases hi:i<l.length
 ·have hg:l.getD i 0=l[i]:=by rw[List.getD_eq_getElem?_getD,List.getElem?_eq_getElem hi];rfl
  have:=h _ (List.getElem_mem hi)
  rw[hg];omega
 ·rw[List.getD_eq_getElem?_getD,List.getElem?_eq_none (by omega)]
  decide
theorem codeOf_none (l:List Int) (i:Nat) (h:¬0<l.getD i 0):codeOf l i=⟨#[]⟩:=if_neg h
def okS (l:List Int) (x:Int):Prop:=0<=x/\x<l.length/\0<l.getD x.toNat 0
instance (l:List Int) (x:Int):Decidable (okS l x):=inferInstanceAs (Decidable (_/\_/\_))
def putL (l:List Int) (s:List Int):List UInt8:=s.flatMap fun x=>(codeOf l x.toNat).data.toList
def putR (l s:List Int):ByteArray:=if 400<s.length∨whole l=false∨¬(∀ x∈s,okS l x) then ⟨#[]⟩ else ⟨(putL l s).toArray⟩
theorem putR_no {l s:List Int} (h:400<s.length∨whole l=false):putR l s=⟨#[]⟩:=if_pos (by rcases h with h|h;exact Or.inl h;exact Or.inr (Or.inl h))
theorem putR_bad {l s:List Int} {j:Nat} (hj:j<s.length) (h:¬okS l s[j]):putR l s=⟨#[]⟩:=if_pos (Or.inr (Or.inr fun g=>h (g _ (List.getElem_mem hj))))
theorem putR_yes {l s:List Int} (h1:¬400<s.length) (h2:whole l=true) (h3:∀ x∈s,okS l x):putR l s=⟨(putL l s).toArray⟩:=if_neg (by
 rintro (h|h|h)
 ·exact h1 h
 ·rw[h2]at h;cases h
 ·exact h h3)
theorem putL_snoc (l s:List Int) (x:Int):putL l (s++[x])=putL l s++(codeOf l x.toNat).data.toList:=by simp[putL]
theorem putL_more {l s:List Int} {k:Nat} (h:k<s.length):putL l (s.take (k+1))=putL l (s.take k)++(codeOf l s[k].toNat).data.toList:=by
 rw[take_more h,putL_snoc]
theorem putL_le (l:List Int) (h:∀ x∈l,0<=x/\x<=12) (s:List Int):(putL l s).length<=12*s.length:=by
 induction s with
 |nil=>simp[putL]
 |cons x s ih =>
  have h1:=codeOf_le l h x.toNat
  have h2:(codeOf l x.toNat).data.toList.length=(codeOf l x.toNat).size:=by simp
  simp only[putL,List.flatMap_cons,List.length_append,List.length_cons]at ih ⊢;omega
theorem whole_right {l:List Int} (h:whole l=true):right l=true:=by
 unfold whole at h;rw[Bool.and_eq_true]at h;exact h.1
theorem whole_ok {l:List Int} (h:whole l=true):∀ x∈l,0<=x/\x<=12:=(within_yes (right_yes (whole_right h)).1).2
theorem whole_len {l:List Int} (h:whole l=true):l.length<=257:=(within_yes (right_yes (whole_right h)).1).1
end Bi
namespace Bi
open Sh (bt strF bt_strF strF_size strF_bt strF_congr bt_lt)
def wd (l:List Int) (i:Nat):Nat:=(l.getD i 0).toNat
theorem getD_lt {l:List Int} {i:Nat} (hi:i<l.length):l.getD i 0=l[i]:=by rw[List.getD_eq_getElem?_getD,List.getElem?_eq_getElem hi];rfl
def start (l:List Int) (i:Nat):Nat:=cnum l i*2 ^ (12-wd l i)
theorem start_eq (l:List Int) (i:Nat) (h1:1<=wd l i) (h2:wd l i<=12):start l i=low l (wd l i-1)+cnt (l.take i) (wd l i:Nat)*2 ^ (12-wd l i):=by
 have h3:=outN_low l (wd l i-1) (by omega);unfold start cnum innN;rw[<-h3]
 show (2*outN l (wd l i-1)+cnt (l.take i) ((wd l i:Nat):Int))*2 ^ (12-wd l i)=_
 rw[Nat.add_mul,show 12-(wd l i-1)=12-wd l i+1 by omega,Nat.pow_succ,Nat.mul_comm 2 (outN l (wd l i-1)),Nat.mul_assoc,Nat.mul_comm 2]
theorem wd_int {l:List Int} {i:Nat} (h:0<l.getD i 0):l.getD i 0=((wd l i:Nat):Int):=by unfold wd;omega
theorem low_mono (l:List Int) (a b:Nat) (h:a<=b):low l a<=low l b:=by
 induction b with
 |zero=>rw[show a=0 by omega];exact Nat.le_refl _
 |succ b ih =>
  by_cases e:a=b+1
  ·rw[e];exact Nat.le_refl _
  ·have:=ih (by omega)
   have h2:=low_succ l b;omega
theorem start_end (l:List Int) (i:Nat) (hi:i<l.length) (h0:0<l.getD i 0) (h2:wd l i<=12):start l i+2 ^ (12-wd l i)<=low l (wd l i):=by
 have h1:1<=wd l i:=by unfold wd;omega
 have e:l[i]=((wd l i:Nat):Int):=by rw[<-getD_lt hi];exact wd_int h0
 have hc:=cnt_here hi e;have hl:=low_succ l (wd l i-1);rw[show wd l i-1+1=wd l i by omega]at hl;rw[start_eq l i h1 h2,hl]
 have:(cnt (l.take i) ((wd l i:Nat):Int)+1)*2 ^ (12-wd l i)<=cnt l ((wd l i:Nat):Int)*2 ^ (12-wd l i):=Nat.mul_le_mul_right _ hc
 rw[Nat.add_mul,Nat.one_mul]at this;omega
theorem start_apart (l:List Int) (i j:Nat) (hi:i<l.length) (h0:0<l.getD i 0) (h0':0<l.getD j 0) (h12:wd l i<=12) (h12':wd l j<=12) (h:wd l i<wd l j∨(wd l i=wd l j/\i<j)) (_hj:j<l.length) :
  start l i+2 ^ (12-wd l i)<=start l j:=by
 have h1':1<=wd l j:=by unfold wd;omega
 have h1:1<=wd l i:=by unfold wd;omega
 rcases h with h|⟨h,hij⟩
 ·have a1:=start_end l i hi h0 h12
  have a2:=low_mono l (wd l i) (wd l j-1) (by omega);have a3:=start_eq l j h1' h12';omega
 ·have e:l[i]=((wd l i:Nat):Int):=by rw[<-getD_lt hi];exact wd_int h0
  have c1:=cnt_more hi ((wd l i:Nat):Int);rw[if_pos e]at c1
  have c2:cnt (l.take (i+1)) ((wd l i:Nat):Int)<=cnt (l.take j) ((wd l i:Nat):Int):=by
   have:=cnt_take (l.take j) ((wd l i:Nat):Int) (i+1)
   rw[List.take_take,Nat.min_eq_left (by omega)]at this;exact this
  rw[start_eq l i h1 h12,start_eq l j h1' h12',<-h]
  have:(cnt (l.take i) ((wd l i:Nat):Int)+1)*2 ^ (12-wd l i)<=cnt (l.take j) ((wd l i:Nat):Int)*2 ^ (12-wd l i):=Nat.mul_le_mul_right _ (by omega)
  rw[Nat.add_mul,Nat.one_mul]at this;omega
theorem bt_extract (t:ByteArray) (a b j:Nat) (hj:a+j<b) (_hb:b<=t.size):bt (t.extract a b) j=bt t (a+j):=by
 unfold bt
 have h1:(t.extract a b).data.toList=(t.data.toList.take b).drop a:=by
  rw[ByteArray.data_extract,Array.toList_extract];simp[List.extract_eq_take_drop,List.drop_take]
 rw[h1,List.getD_eq_getElem?_getD,List.getD_eq_getElem?_getD,List.getElem?_drop,List.getElem?_take_of_lt hj]
def val (t:ByteArray):Nat->Nat
 |0=>0
 |r+1=>2*val t r+(bt t r-48)
theorem val_of (t:ByteArray) (n v:Nat) (hn:n<2 ^ v) (h:∀ j,j<v->bt t j=bitB n (v-1-j)):∀ r,r<=v->val t r=n/2 ^ (v-r):=by
 intro r
 induction r with
 |zero=>intro _;rw[Nat.sub_zero,Nat.div_eq_of_lt hn];rfl
 |succ r ih =>
  intro hr;simp only[val];rw[ih (by omega),h r (by omega)];unfold bitB;rw[show v-r=v-(r+1)+1 by omega,Nat.pow_succ,<-Nat.div_div_eq_div_mul,show v-1-r=v-(r+1) by omega];omega
def mt (l:List Int) (t:ByteArray) (i:Nat):Prop:=i<l.length/\0<l.getD i 0/\wd l i<=t.size/\t.extract 0 (wd l i)=codeOf l i
theorem cnum_fits {l:List Int} (hr:csum l<=4096) {i:Nat} (hi:i<l.length) (h0:0<l.getD i 0) (h2:wd l i<=12):cnum l i<2 ^ wd l i:=by
 have h1:1<=wd l i:=by unfold wd;omega
 have e:l[i]=((wd l i-1+1:Nat):Int):=by rw[show wd l i-1+1=wd l i by omega,<-getD_lt hi];exact wd_int h0
 have:=inn_fits hr (v:=wd l i-1) (by omega) hi e
 rw[show wd l i-1+1=wd l i by omega]at this;exact this
theorem mt_val {l:List Int} (hr:csum l<=4096) {t:ByteArray} {i:Nat} (h:mt l t i) (h12:wd l i<=12):∀ r,r<=wd l i->val t r=cnum l i/2 ^ (wd l i-r):=by
 obtain⟨hi,h0,hs,he⟩:=h;refine val_of t (cnum l i) (wd l i) (cnum_fits hr hi h0 h12) fun j hj=>?_;have h1:=bt_extract t 0 (wd l i) j (by omega) hs;rw[Nat.zero_add,he]at h1;rw[<-h1];unfold codeOf;rw[if_pos h0];exact bt_strF _ _ j hj (bitB_lt _ _)
theorem mt_start {l:List Int} (hr:csum l<=4096) {t:ByteArray} {i j:Nat} (hi:mt l t i) (hj:mt l t j) (h12:wd l i<=12) (h12':wd l j<=12) (h:wd l i<=wd l j):start l j<start l i+2 ^ (12-wd l i):=by
 have a1:=mt_val hr hi h12 (wd l i) (Nat.le_refl _);have a2:=mt_val hr hj h12' (wd l i) h;rw[Nat.sub_self,Nat.pow_zero,Nat.div_one]at a1;rw[a1]at a2
 have a3:cnum l j<(cnum l i+1)*2 ^ (wd l j-wd l i):=by
  rw[a2];exact Nat.lt_mul_of_div_lt (Nat.lt_succ_self _) (Nat.pow_pos (by decide))
 unfold start;have a4:cnum l j*2 ^ (12-wd l j)<(cnum l i+1)*2 ^ (wd l j-wd l i)*2 ^ (12-wd l j):=Nat.mul_lt_mul_of_pos_right a3 (Nat.pow_pos (by decide));rw[Nat.mul_assoc,<-Nat.pow_add,show wd l j-wd l i+(12-wd l j)=12-wd l i by omega,Nat.add_mul,Nat.one_mul]at a4;exact a4
theorem mt_one {l:List Int} (hr:csum l<=4096) (hok:∀ x∈l,0<=x/\x<=12) {t:ByteArray} {i j:Nat} (hi:mt l t i) (hj:mt l t j):i=j:=by
 have w12:∀ k,k<l.length->wd l k<=12:=fun k hk=>by
  have:=hok _ (List.getElem_mem hk)
  unfold wd;rw[getD_lt hk];omega
 have hi12:=w12 i hi.1;have hj12:=w12 j hj.1
 rcases Nat.lt_trichotomy (wd l i) (wd l j) with h|h|h
 ·have b1:=start_apart l i j hi.1 hi.2.1 hj.2.1 hi12 hj12 (Or.inl h) hj.1
  have b2:=mt_start hr hi hj hi12 hj12 (by omega);omega
 ·rcases Nat.lt_trichotomy i j with h'|h'|h'
  ·have b1:=start_apart l i j hi.1 hi.2.1 hj.2.1 hi12 hj12 (Or.inr ⟨h,h'⟩) hj.1
   have b2:=mt_start hr hi hj hi12 hj12 (by omega);omega
  ·exact h'
  ·have b1:=start_apart l j i hj.1 hj.2.1 hi.2.1 hj12 hi12 (Or.inr ⟨h.symm,h'⟩) hi.1
   have b2:=mt_start hr hj hi hj12 hi12 (by omega);omega
 ·have b1:=start_apart l j i hj.1 hj.2.1 hi.2.1 hj12 hi12 (Or.inl h) hi.1
  have b2:=mt_start hr hj hi hj12 hi12 (by omega);omega
instance (l:List Int) (t:ByteArray) (i:Nat):Decidable (mt l t i):=inferInstanceAs (Decidable (_/\_/\_/\_))
def sym (l:List Int) (t:ByteArray):Option Nat:=(List.range l.length).find? fun i=>decide (mt l t i)
def wth (l:List Int) (t:ByteArray):Bool:=(List.range l.length).any fun i=>decide (0<l.getD i 0) && Lib.hasPrefix (codeOf l i).data.toList t.data.toList
theorem sym_mt {l:List Int} {t:ByteArray} {i:Nat} (h:sym l t=some i):mt l t i:=by
 unfold sym at h
 have:=List.find?_some h
 simpa using this
theorem sym_of {l:List Int} (hr:csum l<=4096) (hok:∀ x∈l,0<=x/\x<=12) {t:ByteArray} {i:Nat} (h:mt l t i):sym l t=some i:=by
 cases hs:sym l t with
 |none =>
  have:=List.find?_eq_none.1 hs i (List.mem_range.2 h.1)
  simp[h]at this
 |some j=>rw[mt_one hr hok (sym_mt hs) h]
theorem sym_none {l:List Int} {t:ByteArray} (h:∀ i,¬mt l t i):sym l t=none:=by
 cases hs:sym l t with
 |none=>rfl
 |some j=>exact absurd (sym_mt hs) (h j)
theorem wth_of {l:List Int} {t:ByteArray} {i:Nat} (hi:i<l.length) (h0:0<l.getD i 0) (hp:Lib.hasPrefix (codeOf l i).data.toList t.data.toList=true):wth l t=true:=by
 unfold wth;rw[List.any_eq_true];exact⟨i,List.mem_range.2 hi,by rw[decide_eq_true h0,hp];rfl⟩
theorem wth_yes {l:List Int} {t:ByteArray} (h:wth l t=true):∃ i,i<l.length/\0<l.getD i 0/\Lib.hasPrefix (codeOf l i).data.toList t.data.toList=true:=by
 unfold wth at h;rw[List.any_eq_true]at h;obtain⟨i,hi,hb⟩:=h;rw[Bool.and_eq_true]at hb;exact⟨i,List.mem_range.1 hi,of_decide_eq_true hb.1,hb.2⟩
def rst (t:ByteArray) (at_:Nat):ByteArray:=t.extract at_ t.size
theorem rst_size (t:ByteArray) (at_:Nat):(rst t at_).size=t.size-at_:=by unfold rst;rw[ByteArray.size_extract];omega
def why (l:List Int) (t:ByteArray):Int:=if wth l t=true then 4 else 3
def st (l:List Int) (t:ByteArray):Nat->Int ⊕ (List Int × Nat)
 |0=>.inr ([],0)
 |k+1=>match st l t k with
  |.inl e=>.inl e
  |.inr (xs,p)=>match sym l (rst t p) with
   |some i=>.inr (xs++[(i:Int)],p+wd l i)
   |none=>.inl (why l (rst t p))
theorem st_more {l:List Int} {t:ByteArray} {k p i:Nat} {xs:List Int} (h:st l t k=.inr (xs,p)) (hs:sym l (rst t p)=some i):st l t (k+1)=.inr (xs++[(i:Int)],p+wd l i):=by
 simp only[st,h,hs]
theorem st_bad {l:List Int} {t:ByteArray} {k p:Nat} {xs:List Int} (h:st l t k=.inr (xs,p)) (hs:sym l (rst t p)=none):st l t (k+1)=.inl (why l (rst t p)):=by
 simp only[st,h,hs]
theorem st_stay {l:List Int} {t:ByteArray} {k:Nat} {e:Int} (h:st l t k=.inl e):∀ d,st l t (k+d)=.inl e:=by
 intro d
 induction d with
 |zero=>exact h
 |succ d ih =>
  rw[<-Nat.add_assoc];simp only[st,ih]
theorem st_facts {l:List Int} {t:ByteArray}:∀ (k p:Nat) (xs:List Int),st l t k=.inr (xs,p)->p<=t.size/\xs.length=k:=by
 intro k
 induction k with
 |zero =>
  intro p xs h;simp only[st,Sum.inr.injEq,Prod.mk.injEq]at h;rw[<-h.1,<-h.2];simp
 |succ k ih =>
  intro p xs h
  cases hk:st l t k with
  |inl e=>simp only[st,hk]at h;cases h
  |inr q =>
   obtain⟨ys,r⟩:=q;obtain⟨h1,h2⟩:=ih r ys hk
   cases hs:sym l (rst t r) with
   |none=>rw[st_bad hk hs]at h;cases h
   |some i =>
    rw[st_more hk hs]at h;simp only[Sum.inr.injEq,Prod.mk.injEq]at h;have hm:=(sym_mt hs).2.2.1;rw[rst_size]at hm;rw[<-h.1,<-h.2];simp[h2];omega
def outS (x:Int ⊕ (List Int × Nat)):List Int × Int × Int:=match x with
 |.inl e=>([],0,e)
 |.inr (xs,p)=>(xs,(p:Int),0)
def getR (l:List Int) (t:ByteArray) (m:Int):List Int × Int × Int :=
 if 400<l.length∨8000<t.size then ([],0,2)
 else if whole l=false∨good t=false∨m<0∨400<m then ([],0,1)
 else outS (st l t m.toNat)
theorem getR_size {l:List Int} {t:ByteArray} {m:Int} (h:400<l.length∨8000<t.size):getR l t m=([],0,2):=if_pos h
theorem getR_form {l:List Int} {t:ByteArray} {m:Int} (h:¬(400<l.length∨8000<t.size)) (h2:whole l=false∨good t=false∨m<0∨400<m):getR l t m=([],0,1):=by
 unfold getR;rw[if_neg h,if_pos h2]
theorem getR_in {l:List Int} {t:ByteArray} {m:Nat} (h:¬(400<l.length∨8000<t.size)) (h2:whole l=true) (h3:good t=true) (h4:m<=400):getR l t m=outS (st l t m):=by
 unfold getR;rw[if_neg h,if_neg (by rw[h2,h3];simp;omega)];rfl
theorem getR_length (l:List Int) (t:ByteArray) (m:Int):(getR l t m).1.length<=400:=by
 unfold getR
 split
 ·simp
 ·split
  ·simp
  ·rename_i h
   cases hs:st l t m.toNat with
   |inl e=>simp[outS]
   |inr q =>
    obtain⟨xs,p⟩:=q
    have:=(st_facts _ _ _ hs).2
    simp only[outS];have hm:¬400<m:=fun x=>h (Or.inr (Or.inr (Or.inr x)));omega
end Bi
namespace Nm2
open Nu Go.Proofs.YtbdcffjcogglbaaGreatDoor.Gn
theorem unz_zz (n:Int):unz (zz n)=n:=by
 unfold zz
 split
 ·rw[unz_odd _ (by omega)];omega
 ·rw[unz_even _ (by omega)];omega
theorem pow_eq (k:Nat):2 ^ (7*k)=128 ^ k:=by rw[Nat.pow_mul]
theorem cnt_spec (U:Nat) (hU:U<18446744073709551616):cnt 9 U<=9/\(∀ j,j<cnt 9 U->128<=U/128 ^ j)/\U/128 ^ cnt 9 U<128:=by
 have key:∀ f u,u/128 ^ f<128->(∀ j,j<cnt f u->128<=u/128 ^ j)/\u/128 ^ cnt f u<128:=by
  intro f
  induction f with
  |zero=>intro u h;exact⟨fun j hj=>absurd hj (Nat.not_lt_zero j),by simpa [cnt] using h⟩
  |succ f ih =>
   intro u h;unfold cnt
   split
   ·rename_i hlt
    exact⟨fun j hj=>absurd hj (Nat.not_lt_zero j),by simpa using hlt⟩
   ·rename_i hge
    rw[div_pow]at h;obtain⟨h1,h2⟩:=ih (u/128) h;refine⟨fun j hj=>?_,by rw[div_pow];exact h2⟩
    match j with
    |0=>simpa using (by omega:128<=u)
    |j+1=>rw[div_pow];exact h1 j (by omega)
 refine⟨cnt_le 9 U,key 9 U ?_⟩
 have e:(128:Nat) ^ 9=9223372036854775808:=by decide
 rw[e];omega
theorem mod_next (U k:Nat):U%128 ^ k+U/128 ^ k%128*128 ^ k=U%128 ^ (k+1):=by
 rw[Nat.pow_succ,Nat.mod_mul,Nat.mul_comm (128 ^ k)]
theorem dec (s:ByteArray) (U p0 K:Nat) (hU:U<18446744073709551616) (hK:K<=9) (hall:∀ j,j<K->128<=U/128 ^ j) (hlast:U/128 ^ K<128)
  (hsz:p0+K<s.size) (hb:∀ j,j<K->byteN s (p0+j)=U/128 ^ j%128+128) (hbl:byteN s (p0+K)=U/128 ^ K) :
  ∀ d k,K-k=d->k<=K->run s (10-k) k (p0+k) (U%128 ^ k)=(U,p0+K+1,0):=by
 intro d
 induction d with
 |zero =>
  intro k hd hk
  obtain rfl:k=K:=by omega
  obtain⟨f,hf⟩:∃ f,10-k=f+1:=⟨9-k,by omega⟩;have e:=byteN_eq s (p0+k) hsz;rw[hbl]at e
  have h9:¬(k=9/\1<s[p0+k].toNat):=by
   rintro⟨rfl,h⟩;rw[e,show (128:Nat) ^ 9=9223372036854775808 from by decide]at h;omega
  have hz:¬(s[p0+k].toNat=0/\0<k):=by
   rintro⟨h,hk0⟩;have h1:=hall (k-1) (by omega);rw[e,show k=(k-1)+1 from by omega,pow_div]at h;omega
  rw[hf,run_last s f k (p0+k) _ hsz h9 (by rw[e];exact hlast) hz,e,pow_eq,Nat.mod_eq_of_lt hlast]
  have hm:U%128 ^ k+U/128 ^ k*128 ^ k=U:=by rw[Nat.mul_comm];exact Nat.mod_add_div U (128 ^ k)
  rw[hm]
 |succ d ih =>
  intro k hd hk
  have hlt:k<K:=by omega
  obtain⟨f,hf⟩:∃ f,10-k=f+1:=⟨9-k,by omega⟩
  have hp:p0+k<s.size:=by omega
  have e:=byteN_eq s (p0+k) hp;rw[hb k hlt]at e;rw[hf,run_more s f k (p0+k) _ hp (by omega) (by omega),e,pow_eq,Nat.add_mod_right,Nat.mod_mod,mod_next,show f=10-(k+1) from by omega];exact ih (k+1) (by omega) (by omega)
end Nm2
namespace Ze
open Bi (upTo_impl ret_boolB)
open In (Ints OwnI one_newI one_cellI app_one)
open In.Tryz (infoI2)
theorem OwnI.alloc {w:World} {base:Nat} {v:Value} {l:List Int} (h:OwnI w base v l) (o:Obj):OwnI (w.alloc o) base v l :=
 h.below ((Below.refl _ _).alloc (Nat.le_refl _) o)
theorem putZeros_any (l:List Int) (r base:Nat) (v:Value) (w:World) (ho:OwnI w base v l) (hb:base<=w.heap.size) (hs:l.length+r<=1048576) :
  Calls prog 125 #[v,.int .i64 r] w fun e w'=>∃ v',e=.returned v'/\OwnI w' base v' (l++zrun r)/\Below base w w':=by
 obtain⟨i0,hi0,hz0,hz1,hz2⟩:=info_parts infoI2;have HO:=hideZ ho;obtain⟨a,cap,rfl,_,_⟩:=ho.ints;clear ho;generalize hln:l.length=n at hs HO;have HLN:=hideZ hln;clear hln;go_enter func125,ntmps125
 go_wp2_with fail
 go_loopw [0,1] (fun u m wr=>∃ (l':List Int) (r':Nat),m=.int .i64 r'/\OwnI wr base u l'/\l'++zrun r'=l++zrun r/\l'.length+r'<=1048576/\Below base w wr) (fun _ m _=>(intOf m).toNat)
 case atStart=>exact⟨l,r,rfl,HO.o,rfl,by have:=HLN.o;omega,Below.refl _ _⟩
 case round =>
  obtain⟨l',r',rfl,hown,he,hs',hbel⟩:=hrel;have G1:=hideZ hown;have GB:=hideZ hbel;have HE:=hideZ he;have hz:=hbel.size;have HS:=hideZ hs'
  have hs2:r'<=1048576:=by omega
  clear he hbel hs';obtain⟨a',cap',rfl,_,_⟩:=hown.ints;clear hown;by_cases h0:0<r'
  ·by_cases h1:r' % 2=1
   ·have hq:(r':Int).tmod 2=1:=by rw[Int.tmod_eq_emod_of_nonneg (by omega)];omega
    have hd:((r':Int)-1).tdiv 2=(((r' - 1)/2:Nat):Int):=by rw[Int.tdiv_eq_ediv_of_nonneg (by omega)];omega
    have HZ:Hid (l'++([0]++zrun ((r' - 1)/2))=l++zrun r):=by
     unfold Hid;rw[<-HE.o,zrun_odd h1];rfl
    go_wp2_with (at_builtin;refine wpList_append_own _ rfl (.tmp 10) (.tmp 11) 69 rfl base 2 i0 (.int .i64 0) 1 8 underlying69 hi0 hz0 hz1 hz2 rfl (by decide) _ _ _ rfl (OwnI.alloc G1.o _) ⟨wr.heap.size,0,none⟩ 1 1 [.int .i64 0] rfl rfl (one_newI _ _ _) (one_cellI _) (by unfold maxLen;have:=HS.o;omega) (by have:=HS.o;omega) (by simp;omega) ?_)
    intro v' w5 hown' hgrow _;have N5:=hideZ (OwnI.snoc hown');have b5:=hideZ (app_one GB.o (by omega) (Nat.le_refl _) G1.o hgrow);clear hown' hgrow;(go_wp2_with fail)
    go_roundw
    case rel=>exact⟨l'++[0],(r' - 1)/2,by go_num,N5.o,by rw[List.append_assoc];exact HZ.o,by have:=HS.o;simp;omega,b5.o⟩
    case measure=>simp[intOf];omega
   ·have hq:(r':Int).tmod 2=0:=by rw[Int.tmod_eq_emod_of_nonneg (by omega)];omega
    have hd:((r':Int)-2).tdiv 2=(((r' - 2)/2:Nat):Int):=by rw[Int.tdiv_eq_ediv_of_nonneg (by omega)];omega
    have HZ:Hid (l'++([1]++zrun ((r' - 2)/2))=l++zrun r):=by
     unfold Hid;rw[<-HE.o,zrun_even h0 h1];rfl
    go_wp2_with (at_builtin;refine wpList_append_own _ rfl (.tmp 16) (.tmp 17) 69 rfl base 2 i0 (.int .i64 0) 1 8 underlying69 hi0 hz0 hz1 hz2 rfl (by decide) _ _ _ rfl (OwnI.alloc G1.o _) ⟨wr.heap.size,0,none⟩ 1 1 [.int .i64 1] rfl rfl (one_newI _ _ _) (one_cellI _) (by unfold maxLen;have:=HS.o;omega) (by have:=HS.o;omega) (by simp;omega) ?_)
    intro v' w5 hown' hgrow _;have N5:=hideZ (OwnI.snoc hown');have b5:=hideZ (app_one GB.o (by omega) (Nat.le_refl _) G1.o hgrow);clear hown' hgrow;(go_wp2_with fail)
    go_roundw
    case rel=>exact⟨l'++[1],(r' - 2)/2,by go_num,N5.o,by rw[List.append_assoc];exact HZ.o,by have:=HS.o;simp;omega,b5.o⟩
    case measure=>simp[intOf];omega
  ·obtain rfl:r'=0:=by omega
   have HZ:Hid (l'=l++zrun r):=by
    unfold Hid;rw[<-HE.o,zrun_zero,List.append_nil]
   go_wp2_with fail
   go_ret;exact⟨_,rfl,by rw[<-HZ.o];exact G1.o,GB.o⟩
end Ze
namespace Ze
open Bi (upTo_impl ret_boolB is_yes is_no)
open In (Ints OwnI one_newI one_cellI app_one)
open In.Tryz (infoI2)
theorem OwnI.empty (w:World):OwnI (w.alloc (.cells #[] 2)) w.heap.size (.slice (some ⟨w.heap.size,0,none⟩) 0 0) [] :=
 ⟨rfl,.inr ⟨w.heap.size,0,#[],rfl,Nat.le_refl _,heap_alloc_last w _,Nat.le_refl _,by decide,rfl,rfl⟩⟩
theorem zerosOf_impl (l:List Int) (a:Option Addr) (cap B:Nat) (w:World) (hi:Ints w B a l) (hB:B<=w.heap.size) (hn:l.length<=1048576) :
  Calls prog 87 #[.slice a l.length cap] w fun e w'=>∃ v,e=.returned v/\OwnI w' w.heap.size v (zerosR l)/\Below w.heap.size w w':=by
 obtain⟨i0,hi0,hz0,hz1,hz2⟩:=info_parts infoI2;by_cases hlong:400<l.length
 ·rw[zerosR_no (numsR_long hlong)]
  clear hi;generalize l.length=n at hlong hn ⊢;go_enter func87,ntmps87
  go_wp2_with fail
  go_ret;exact⟨_,rfl,OwnI.nil _ _,Below.refl _ _⟩
 ·have HU:=hideZ (upTo_impl l 255 a cap B w hi hn)
  cases hu:upTo l 255 with
  |false =>
   rw[zerosR_no ((numsR_of (by omega)).trans hu)];rw[hu]at HU;clear hi hu;generalize l.length=n at HU hlong hn ⊢;have hd:decide (400<(n:Int))=false:=decide_eq_false (by omega);go_enter func87,ntmps87
   go_wp2_with fail
   refine HU.o.mono ?_;rintro e w' ⟨rfl,hw⟩;subst w'
   go_wp2_with fail
   go_ret;exact⟨_,rfl,OwnI.nil _ _,Below.refl _ _⟩
  |true =>
   rw[zerosR_yes ((numsR_of (by omega)).trans hu)];have HUP:=hideZ (upTo_yes hu);rw[hu]at HU;have HS:=hideZ (hi.mono hB);clear hi hu;obtain⟨n,hln⟩:∃ n,n=l.length:=⟨_,rfl⟩;have HLN:=hideZ hln;rw[<-hln]at HU hlong ⊢;clear hln hn;have hd:decide (400<(n:Int))=false:=decide_eq_false (by omega);go_enter func87,ntmps87
   go_wp2_with fail
   refine HU.o.mono ?_;rintro e w' ⟨rfl,hw⟩;subst w'
   go_wp2_with fail
   go_loopw [17,3,4] (fun i u m wr=>∃ k z:Nat,i=.int .i64 k/\m=.int .i64 z/\k<=n/\z=(zst (l.take k)).2/\OwnI wr w.heap.size u (zst (l.take k)).1/\Below w.heap.size w wr) (fun i _ _ _=>n-(intOf i).toNat)
   case atStart=>exact⟨0,0,rfl,rfl,Nat.zero_le _,rfl,OwnI.nil _ _,Below.refl _ _⟩
   case round =>
    obtain⟨k,z,rfl,rfl,hk,hz,hown,hbel⟩:=hrel;have hzl:=zst_len (l.take k);rw[List.length_take]at hzl;have hzk:(zst (l.take k)).1.length+z<=k:=(by omega);have G1:=hideZ hown;have GB:=hideZ hbel;have HZ:=hideZ hz;have hsz:=hbel.size;clear hzl;obtain⟨a',cap',rfl,_,_⟩:=hown.ints;generalize hnl:(zst (l.take k)).1.length=nl at hzk G1;have HNL:=hideZ hnl;clear hz hown hbel hnl;by_cases hlt:k<n
    ·have hkl:k<l.length:=by rw[<-HLN.o];exact hlt
     obtain⟨b,off,rfl,hb,hc⟩:=(HS.o.below GB.o).some (by omega);have ci:=hc k hkl;have hx255:=HUP.o _ (List.getElem_mem hkl);obtain⟨x,hx⟩:∃ x,x=l[k]:=⟨_,rfl⟩;have HX:=hideZ hx;rw[<-hx]at ci hx255;clear hc hx;by_cases h0:x=0
     ·have HZ1:Hid (zst (l.take (k+1))=((zst (l.take k)).1,z+1)):=by
       unfold Hid;rw[zst_zero hkl (by rw[<-HX.o];exact h0),HZ.o]
      have hbx:(x==0)=true:=beq_iff_eq.2 h0;clear h0;(go_wp2_with fail)
      go_roundw
      case rel=>exact⟨k+1,z+1,by go_num,by go_num,by omega,by rw[HZ1.o],by rw[HZ1.o];exact G1.o,GB.o⟩
      case measure=>simp[intOf];omega
     ·have HZ1:Hid (zst (l.take (k+1))=((zst (l.take k)).1++zrun z++[x+1],0)):=by
       unfold Hid;rw[zst_other hkl (by rw[<-HX.o];exact h0),HZ.o,HX.o]
      have hbx:(x==0)=false:=beq_eq_false_iff_ne.2 h0;have HPZ:=hideZ (putZeros_any (zst (l.take k)).1 z w.heap.size (.slice a' nl cap') wr G1.o (by omega) (by have:=HNL.o;omega));have hrl:=zrun_len z;clear h0;(go_wp2_with fail);refine HPZ.o.mono ?_;rintro e w4 ⟨v4,rfl,hown4,hbel4⟩
      have HL4:Hid (((zst (l.take k)).1++zrun z).length<=400):=by
       unfold Hid;rw[List.length_append,HNL.o];omega
      obtain⟨l4,hl4⟩:∃ l4,l4=(zst (l.take k)).1++zrun z:=⟨_,rfl⟩;rw[<-hl4]at hown4 HZ1 HL4;have G4:=hideZ hown4;have B4:=hideZ (GB.o.trans hbel4);have z4:=hbel4.size;obtain⟨a4,cap4,rfl,_,_⟩:=hown4.ints;clear hown4 hbel4 hl4
      go_wp2_with (at_builtin;refine wpList_append_own _ rfl (.tmp 27) (.tmp 30) 69 rfl w.heap.size 2 i0 (.int .i64 0) 1 8 underlying69 hi0 hz0 hz1 hz2 rfl (by decide) _ _ _ rfl (OwnI.alloc G4.o _) ⟨w4.heap.size,0,none⟩ 1 1 [.int .i64 (x+1)] rfl rfl (one_newI _ _ _) (one_cellI _) (by unfold maxLen;have:=HL4.o;omega) (by have:=HL4.o;omega) (by simp;omega) ?_)
      intro v' w5 hown' hgrow _;have N5:=hideZ (OwnI.snoc hown');have b5:=hideZ (app_one B4.o (by omega) (Nat.le_refl _) G4.o hgrow);clear hown' hgrow;(go_wp2_with fail)
      go_roundw
      case rel=>exact⟨k+1,0,by go_num,rfl,by omega,by rw[HZ1.o],by rw[HZ1.o];exact N5.o,b5.o⟩
      case measure=>simp[intOf];omega
    ·have hkn:k=l.length:=by have:=HLN.o;omega
     have HT:Hid (l.take k=l):=by
      unfold Hid;rw[hkn,List.take_length]
     have HPZ:=hideZ (putZeros_any (zst (l.take k)).1 z w.heap.size (.slice a' nl cap') wr G1.o (by omega) (by have:=HNL.o;omega));rw[HT.o]at HPZ HZ;rw[HZ.o]at HPZ ⊢;clear hkn HZ;(go_wp2_with fail);refine HPZ.o.mono ?_;rintro e w4 ⟨v4,rfl,hown4,hbel4⟩;have G4:=hideZ hown4;have B4:=hideZ (GB.o.trans hbel4);clear hown4 hbel4;(go_wp2_with fail);go_ret;exact⟨_,rfl,G4.o,B4.o⟩
end Ze
namespace Ze
open Bi (ret_boolB is_yes is_no)
open In (Ints OwnI IsO one_newI one_cellI app_one)
open In.Tryz (infoI2)
theorem nums_spec (l:List Int) (m:Int) (a:Option Addr) (cap B:Nat) (w:World) (hi:Ints w B a l) (hn:l.length<=1048576) :
  Calls prog 135 #[.slice a l.length cap,.int .i64 m] w fun e w'=>e=.returned (.bool (numsR l m))/\w'=w:=by
 have HS:=hideZ hi;clear hi;obtain⟨n,hln⟩:∃ n,n=l.length:=⟨_,rfl⟩;have HLN:=hideZ hln;rw[<-hln]at hn ⊢;clear hln;go_enter func135,ntmps135
 go_wp2_with fail
 go_loopw [5] (fun i wr=>∃ k:Nat,i=.int .i64 k/\k<=n/\(∀ j (hj:j<l.length),j<k->0<=l[j]/\l[j]<=m)/\wr=w) (fun i _=>n-(intOf i).toNat)
 case atStart=>exact⟨0,rfl,Nat.zero_le _,fun j hj h0=>absurd h0 (Nat.not_lt_zero j),rfl⟩
 case round =>
  obtain⟨k,rfl,hk,hall,hw⟩:=hrel;subst hw;have HA:=hideZ hall;clear hall;by_cases hlt:k<n
  ·have hkl:k<l.length:=by rw[<-HLN.o];exact hlt
   obtain⟨b,off,rfl,hb,hc⟩:=HS.o.some (by omega);have ci:=hc k hkl;obtain⟨x,hx⟩:∃ x,x=l[k]:=⟨_,rfl⟩;have HX:=hideZ hx;rw[<-hx]at ci;clear hc hx;by_cases h0:x<0∨m<x
   ·have HE:Hid (numsR l m=false):=by
     have:=upTo_bad (m:=m) hkl (by rw[<-HX.o];exact h0)
     unfold Hid numsR;rw[this,Bool.and_false]
    have HI:=hideZ (is_no x 0 m wr h0);clear h0;(go_wp2_with fail);refine HI.o.mono ?_;rintro e w' ⟨rfl,hw⟩;subst w';(go_wp2_with fail);go_ret;exact⟨ret_boolB HE.o.symm,rfl⟩
   ·have HI:=hideZ (is_yes x 0 m wr (by omega) (by omega))
    have HX2:Hid (0<=x/\x<=m):=by
     unfold Hid;omega
    clear h0;(go_wp2_with fail);refine HI.o.mono ?_;rintro e w' ⟨rfl,hw⟩;subst w';(go_wp2_with fail)
    go_roundw
    case rel =>
     refine⟨k+1,by go_num,by omega,fun j hj hjk=>?_,trivial⟩;by_cases e:j=k
     ·subst e
      rw[<-HX.o];exact HX2.o
     ·exact HA.o j hj (by omega)
    case measure=>simp[intOf];omega
  ·have HU:Hid (upTo l m=true):=upTo_of (fun x hx=>by
    obtain⟨j,hj,rfl⟩:=List.getElem_of_mem hx
    exact HA.o j hj (by have:=HLN.o;omega))
   by_cases h4:n<=400
   ·have HE:Hid (numsR l m=true):=by
     unfold Hid;rw[numsR_of (by have:=HLN.o;omega)];exact HU.o
    have h4':(n:Int)<=400:=by omega
    (go_wp2_with fail);go_ret;exact⟨ret_boolB HE.o.symm,rfl⟩
   ·have HE:Hid (numsR l m=false):=numsR_long (by have:=HLN.o;omega)
    have h4':decide ((n:Int)<=400)=false:=decide_eq_false (by omega);(go_wp2_with fail);go_ret;exact⟨ret_boolB HE.o.symm,rfl⟩
theorem run_spec (r:Nat) (w:World) (hs:r<=1048576) :
  Calls prog 136 #[.int .i64 r] w fun e w'=>∃ v,e=.returned v/\OwnI w' w.heap.size v (zrun r)/\v≠.slice none 0 0/\Below w.heap.size w w':=by
 obtain⟨i0,hi0,hz0,hz1,hz2⟩:=info_parts infoI2;have HW:=hideZ (OwnI.empty w);go_enter func136,ntmps136
 go_wp2_with fail
 go_loopw [3,0] (fun u m wr=>∃ (l':List Int) (r':Nat),m=.int .i64 r'/\OwnI wr w.heap.size u l'/\u≠.slice none 0 0/\l'++zrun r'=zrun r/\l'.length+r'<=1048576/\Below w.heap.size w wr) (fun _ m _=>(intOf m).toNat)
 case atStart=>exact⟨[],r,rfl,HW.o,by simp,rfl,by simpa using hs,(Below.refl _ _).alloc (Nat.le_refl _) _⟩
 case round =>
  obtain⟨l',r',rfl,hown,hne,he,hs',hbel⟩:=hrel;have G1:=hideZ hown;have GB:=hideZ hbel;have HE:=hideZ he;have hz:=hbel.size;have HS:=hideZ hs'
  have hs2:r'<=1048576:=by omega
  clear he hbel hs';obtain⟨a',cap',rfl,_,_⟩:=hown.ints;have HNE:=hideZ hne;clear hown hne;by_cases h0:0<r'
  ·by_cases h1:r' % 2=1
   ·have hq:(r':Int).tmod 2=1:=by rw[Int.tmod_eq_emod_of_nonneg (by omega)];omega
    have hd:((r':Int)-1).tdiv 2=(((r' - 1)/2:Nat):Int):=by rw[Int.tdiv_eq_ediv_of_nonneg (by omega)];omega
    have HZ:Hid (l'++([0]++zrun ((r' - 1)/2))=zrun r):=by
     unfold Hid;rw[<-HE.o,zrun_odd h1];rfl
    go_wp2_with (at_builtin;refine wpList_append_own _ rfl (.tmp 10) (.tmp 11) 69 rfl w.heap.size 2 i0 (.int .i64 0) 1 8 underlying69 hi0 hz0 hz1 hz2 rfl (by decide) _ _ _ rfl (OwnI.alloc G1.o _) ⟨wr.heap.size,0,none⟩ 1 1 [.int .i64 0] rfl rfl (one_newI _ _ _) (one_cellI _) (by unfold maxLen;have:=HS.o;omega) (by have:=HS.o;omega) (by simp;omega) ?_)
    intro v' w5 hown' hgrow hnn;have N5:=hideZ (OwnI.snoc hown');have b5:=hideZ (app_one GB.o (by omega) (Nat.le_refl _) G1.o hgrow);have HN5:Hid (v'≠.slice none 0 0):=hnn;clear hown' hgrow hnn;(go_wp2_with fail)
    go_roundw
    case rel=>exact⟨l'++[0],(r' - 1)/2,by go_num,N5.o,HN5.o,by rw[List.append_assoc];exact HZ.o,by have:=HS.o;simp;omega,b5.o⟩
    case measure=>simp[intOf];omega
   ·have hq:(r':Int).tmod 2=0:=by rw[Int.tmod_eq_emod_of_nonneg (by omega)];omega
    have hd:((r':Int)-2).tdiv 2=(((r' - 2)/2:Nat):Int):=by rw[Int.tdiv_eq_ediv_of_nonneg (by omega)];omega
    have HZ:Hid (l'++([1]++zrun ((r' - 2)/2))=zrun r):=by
     unfold Hid;rw[<-HE.o,zrun_even h0 h1];rfl
    go_wp2_with (at_builtin;refine wpList_append_own _ rfl (.tmp 16) (.tmp 17) 69 rfl w.heap.size 2 i0 (.int .i64 0) 1 8 underlying69 hi0 hz0 hz1 hz2 rfl (by decide) _ _ _ rfl (OwnI.alloc G1.o _) ⟨wr.heap.size,0,none⟩ 1 1 [.int .i64 1] rfl rfl (one_newI _ _ _) (one_cellI _) (by unfold maxLen;have:=HS.o;omega) (by have:=HS.o;omega) (by simp;omega) ?_)
    intro v' w5 hown' hgrow hnn;have N5:=hideZ (OwnI.snoc hown');have b5:=hideZ (app_one GB.o (by omega) (Nat.le_refl _) G1.o hgrow);have HN5:Hid (v'≠.slice none 0 0):=hnn;clear hown' hgrow hnn;(go_wp2_with fail)
    go_roundw
    case rel=>exact⟨l'++[1],(r' - 2)/2,by go_num,N5.o,HN5.o,by rw[List.append_assoc];exact HZ.o,by have:=HS.o;simp;omega,b5.o⟩
    case measure=>simp[intOf];omega
  ·obtain rfl:r'=0:=by omega
   have HZ:Hid (l'=zrun r):=by
    unfold Hid;rw[<-HE.o,zrun_zero,List.append_nil]
   go_wp2_with fail
   go_ret;exact⟨_,rfl,by rw[<-HZ.o];exact G1.o,HNE.o,GB.o⟩
theorem own_some {w:World} {base:Nat} {v:Value} {l:List Int} (h:OwnI w base v l) (hn:v≠.slice none 0 0) :
  ∃ g cap,v=.slice (some ⟨g,0,none⟩) l.length cap/\base<=g/\g<w.heap.size/\IsO w g 2 l:=by
 rcases h.split with⟨rfl,_⟩|⟨g,cap,rfl,hg,_,ho⟩
 ·exact absurd rfl hn
 ·exact⟨g,cap,rfl,hg,ho.lt,ho⟩
theorem own_news {w:World} {g:Nat} {l:List Int} (h:IsO w g 2 l):∀ (j:Nat) (u:Value),(l.map (Value.int .i64))[j]? = some u->w.cell? ((⟨g,0,none⟩:Addr).add j)=some u:=by
 intro j u hj;rw[List.getElem?_map]at hj
 cases hl:l[j]? with
 |none=>rw[hl]at hj;cases hj
 |some x =>
  rw[hl]at hj;obtain⟨hlt,hx⟩:=List.getElem?_eq_some_iff.1 hl
  have hadd:(⟨g,0,none⟩:Addr).add j=⟨g,j,none⟩:=by unfold Addr.add;split<;>simp_all
  rw[hadd,h.cell hlt,hx];exact hj
theorem own_cells (l:List Int):∀ u∈l.map (Value.int .i64),u.oneCell'=true:=by
 intro u hu;obtain⟨x,_,rfl⟩:=List.mem_map.1 hu;rfl
theorem OwnI.joined {w:World} {base:Nat} {v:Value} {l p:List Int} (h:w.ownsRow base 2 1 v (l.length+p.length) (l.map (Value.int .i64)++p.map (Value.int .i64))):OwnI w base v (l++p):=by
 unfold OwnI;rw[List.length_append,List.map_append];exact h
theorem app_row {B base:Nat} {e:TypeId} {w0 w w1:World} {v:Value} {n size:Nat} {xs:List Value} (hbel:Below B w0 w) (hB:B<=w.heap.size) (hBb:B<=base)
  (hown:w.ownsRow base e size v n xs) (hgrow:w.grownBy w1 v.ownBlock):Below B w0 w1:=by
 refine hbel.grown hgrow hB ?_;intro k hk;exact Nat.le_trans hBb (hown.lt k hk).1
end Ze
namespace Ze
open Bi (upTo_impl)
open In (Ints OwnI IsO one_newI one_cellI app_one)
open In.Tryz (infoI2)
theorem OwnI.zeros {w:World} {base:Nat} {v:Value} {l:List Int} {m:Nat} (h:w.ownsRow base 2 1 v (l.length+m) (l.map (Value.int .i64)++List.replicate m (.int .i64 0))):OwnI w base v (l++List.replicate m 0):=by
 unfold OwnI;rw[List.length_append,List.map_append,List.length_replicate,List.map_replicate];exact h
theorem zerosBack_impl (l:List Int) (a:Option Addr) (cap B:Nat) (w:World) (hi:Ints w B a l) (hB:B<=w.heap.size) (hn:l.length<=1048576) :
  Calls prog 184 #[.slice a l.length cap] w fun e w'=>∃ v,e=.returned v/\OwnI w' w.heap.size v (backR l)/\Below w.heap.size w w':=by
 obtain⟨i0,hi0,hz0,hz1,hz2⟩:=info_parts infoI2;by_cases hlong:400<l.length
 ·rw[backR_no (numsR_long hlong)]
  clear hi;generalize l.length=n at hlong hn ⊢;go_enter func184,ntmps184
  go_wp2_with fail
  go_ret;exact⟨_,rfl,OwnI.nil _ _,Below.refl _ _⟩
 ·have HU:=hideZ (upTo_impl l 256 a cap B w hi hn)
  cases hu:upTo l 256 with
  |false =>
   rw[backR_no ((numsR_of (by omega)).trans hu)];rw[hu]at HU;clear hi hu;generalize l.length=n at HU hlong hn ⊢;have hd:decide (400<(n:Int))=false:=decide_eq_false (by omega);go_enter func184,ntmps184
   go_wp2_with fail
   refine HU.o.mono ?_;rintro e w' ⟨rfl,hw⟩;subst w'
   go_wp2_with fail
   go_ret;exact⟨_,rfl,OwnI.nil _ _,Below.refl _ _⟩
  |true =>
   have HNR:=hideZ ((numsR_of (by omega)).trans hu);have HUP:=hideZ (upTo_yes hu);rw[hu]at HU;have HS:=hideZ (hi.mono hB);clear hi hu;obtain⟨n,hln⟩:∃ n,n=l.length:=⟨_,rfl⟩;have HLN:=hideZ hln;rw[<-hln]at HU hlong ⊢;clear hln hn;have hd:decide (400<(n:Int))=false:=decide_eq_false (by omega);go_enter func184,ntmps184
   go_wp2_with fail
   refine HU.o.mono ?_;rintro e w' ⟨rfl,hw⟩;subst w'
   go_wp2_with fail
   go_loopw [17,3,4] (fun i u m wr=>∃ k q:Nat,i=.int .i64 k/\m=.int .i64 q/\k<=n/\q=(bst (l.take k)).2/\(bst (l.take k)).1.length<=400/\OwnI wr w.heap.size u (bst (l.take k)).1/\Below w.heap.size w wr) (fun i _ _ _=>n-(intOf i).toNat)
   case atStart=>exact⟨0,1,rfl,rfl,Nat.zero_le _,rfl,by simp[bst],OwnI.nil _ _,Below.refl _ _⟩
   case round =>
    obtain⟨k,q,rfl,rfl,hk,hq,h400,hown,hbel⟩:=hrel;have hwo:=(bst_worth l k (by have:=HLN.o;omega)).2;rw[<-hq]at hwo;have hq4:q<=401:=(by omega);have GB:=hideZ hbel;have HQ:=hideZ hq;have hsz:=hbel.size;obtain⟨a',cap',rfl,_,_⟩:=hown.ints;obtain⟨lk,hlk⟩:∃ lk,lk=(bst (l.take k)).1:=⟨_,rfl⟩;rw[<-hlk]at hown h400 ⊢;have G1:=hideZ hown;have HLK:=hideZ hlk;clear hq hown hbel hlk hwo;by_cases hlt:k<n
    ·have hkl:k<l.length:=by rw[<-HLN.o];exact hlt
     obtain⟨b,off,rfl,hb,hc⟩:=(HS.o.below GB.o).some (by omega);have ci:=hc k hkl;have hx256:=HUP.o _ (List.getElem_mem hkl);obtain⟨x,hx⟩:∃ x,x=l[k]:=⟨_,rfl⟩;have HX:=hideZ hx;rw[<-hx]at ci hx256;clear hc hx;by_cases h0:1<x
     ·have HZ1:Hid (bst (l.take (k+1))=(lk++[x-1],1)):=by
       unfold Hid;rw[bst_one hkl (by rw[<-HX.o];exact h0),HX.o,HLK.o]
      go_wp2_with (at_builtin;refine wpList_append_own _ rfl (.tmp 23) (.tmp 26) 69 rfl w.heap.size 2 i0 (.int .i64 0) 1 8 underlying69 hi0 hz0 hz1 hz2 rfl (by decide) _ _ _ rfl (OwnI.alloc G1.o _) ⟨wr.heap.size,0,none⟩ 1 1 [.int .i64 (x-1)] rfl rfl (one_newI _ _ _) (one_cellI _) (by unfold maxLen;omega) (by omega) (by simp;omega) ?_)
      intro v' w6 hown' hgrow _;have hown6:=OwnI.snoc hown';have b6:=hideZ (app_one GB.o (by omega) (Nat.le_refl _) G1.o hgrow);obtain⟨l6,hl6⟩:∃ l6,l6=lk++[x-1]:=⟨_,rfl⟩;rw[<-hl6]at hown6 HZ1;have N6:=hideZ hown6;obtain⟨a6,cap6,rfl,_,_⟩:=hown6.ints;clear hown' hgrow hown6 hl6;by_cases h4:400<l6.length
      ·have HE:Hid (backR l=[]):=backR_long (k:=k+1) (by have:=HLN.o;omega) (by rw[HZ1.o];exact h4)
       have h4':(400:Int)<(l6.length:Int):=by omega
       (go_wp2_with fail);go_ret;exact⟨_,rfl,by rw[HE.o];exact OwnI.nil _ _,b6.o⟩
      ·have h4':¬(400:Int)<(l6.length:Int):=by omega
       (go_wp2_with fail)
       go_roundw
       case rel=>exact⟨k+1,1,by go_num,rfl,by omega,by rw[HZ1.o],by rw[HZ1.o];simp only;omega,by rw[HZ1.o];exact N6.o,b6.o⟩
       case measure=>simp[intOf];omega
     ·have HZ1:Hid (bst (l.take (k+1))=(lk++List.replicate ((x.toNat+1)*q) 0,q*2)):=by
       unfold Hid;rw[bst_zeros hkl (by rw[<-HX.o];exact h0),HQ.o,HX.o,HLK.o]
      obtain⟨xn,rfl⟩:∃ xn:Nat,x=xn:=⟨x.toNat,by omega⟩;obtain⟨mm,hmm⟩:∃ mm,mm=(xn+1)*q:=⟨_,rfl⟩
      have hm8:mm<=802:=by
       have:xn=0∨xn=1:=by omega
       rcases this with rfl|rfl<;>omega
      have hmul:((xn:Int)+1)*(q:Int)=(mm:Int):=by rw[hmm];simp
      rw[Int.toNat_natCast,<-hmm]at HZ1;clear hmm
      go_wp2_with (at_builtin;refine wpList_append_zeros _ rfl (.tmp 28) (.tmp 32) 69 2 rfl w.heap.size 2 i0 underlying69 underlying2 hi0 hz0 hz1 hz2 _ _ _ rfl G1.o mm rfl (by omega) (by omega) ?_)
      intro v' w6 hown' hgrow;have hown6:=OwnI.zeros hown';have b6:=hideZ (app_row GB.o (by omega) (Nat.le_refl _) G1.o hgrow);obtain⟨l6,hl6⟩:∃ l6,l6=lk++List.replicate mm 0:=⟨_,rfl⟩;rw[<-hl6]at hown6 HZ1;have N6:=hideZ hown6;obtain⟨a6,cap6,rfl,_,_⟩:=hown6.ints;clear hown' hgrow hown6 hl6;by_cases h4:400<l6.length
      ·have HE:Hid (backR l=[]):=backR_long (k:=k+1) (by have:=HLN.o;omega) (by rw[HZ1.o];exact h4)
       have h4':(400:Int)<(l6.length:Int):=by omega
       (go_wp2_with fail);go_ret;exact⟨_,rfl,by rw[HE.o];exact OwnI.nil _ _,b6.o⟩
      ·have h4':¬(400:Int)<(l6.length:Int):=by omega
       (go_wp2_with fail)
       go_roundw
       case rel=>exact⟨k+1,q*2,by go_num,by go_num,by omega,by rw[HZ1.o],by rw[HZ1.o];simp only;omega,by rw[HZ1.o];exact N6.o,b6.o⟩
       case measure=>simp[intOf];omega
    ·have hkn:k=l.length:=by have:=HLN.o;omega
     have HT:Hid (l.take k=l):=by
      unfold Hid;rw[hkn,List.take_length]
     have HE:Hid (backR l=lk):=by
      unfold Hid;rw[HLK.o,HT.o,backR_yes HNR.o (by rw[<-HT.o,<-HLK.o];exact h400)]
     clear hkn;(go_wp2_with fail);go_ret;exact⟨_,rfl,by rw[HE.o];exact G1.o,GB.o⟩
end Ze
namespace St
end St
end Go.Proofs.YtbdcffjcogglbaaGreatDoor
