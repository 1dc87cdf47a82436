import Derived.Test.YtaejgfdkfcmjeaaGreatDoorMz45
set_option maxRecDepth 100000
set_option maxHeartbeats 8000000
namespace Go.Proofs.YtaejgfdkfcmjeaaGreatDoor
open Go.RowKit
open Go.Proofs.Tryz
namespace Dr
open St (OwnS Strs)
open Kp (hideK lt_rowK)
open Ls (cells3)
open Tr (wpList_append_opt)
theorem ownS_setD {W:World} {base g n cap k:Nat} {l:List ByteArray} (h:OwnS W base (.slice (some ⟨g,0,none⟩) n cap) l) (s:ByteArray):OwnS (W.setCell ⟨g,k,none⟩ (.string s)) base (.slice (some ⟨g,0,none⟩) n cap) (l.set k s):=by
 obtain⟨hl,h⟩:=h
 rcases h with⟨h,_⟩|⟨g',cap',cur,hv,hg,hb,h1,h2,h3,h4⟩
 ·cases h
 ·obtain⟨rfl,hln,rfl⟩:g=g'/\n=l.length/\cap=cap':=by simp at hv;exact hv
  refine⟨by rw[List.length_map,Nat.mul_one],.inr ⟨g,cap,cur.setIfInBounds k (.string s),by rw[List.length_set,hln],hg,heap_setCell_same W g k _ _ _ hb,by rw[List.length_set];exact h1,h2,by rw[Array.size_setIfInBounds];exact h3,?_⟩⟩;rw[Array.toList_setIfInBounds,List.length_set,List.map_set,<-h4,List.take_set]
structure Fs (B:Nat) (a:Option Addr) (len cap base:Nat) (v:Value) (p:List ByteArray) (L:List (Nat × Obj)) (w W:World):Prop where
 src:Src W B a len cap
 own:OwnS W base v p
 dx:Dx B w W L
theorem Fs.call {B:Nat} {a:Option Addr} {len cap base:Nat} {v:Value} {p:List ByteArray} {L:List (Nat × Obj)} {w W W':World} (h:Fs B a len cap base v p L w W) (hb:Below W.heap.size W W'):Fs B a len cap base v p L w W':=⟨h.src.below hb,h.own.below hb,h.dx.call hb⟩
theorem Fs.alloc {B:Nat} {a:Option Addr} {len cap base:Nat} {v:Value} {p:List ByteArray} {L:List (Nat × Obj)} {w W:World} (h:Fs B a len cap base v p L w W) (o:Obj):Fs B a len cap base v p L w (W.alloc o):=h.call ((Below.refl _ _).alloc nl o)
theorem Fs.drew {B:Nat} {a:Option Addr} {len cap base:Nat} {v:Value} {p:List ByteArray} {L:List (Nat × Obj)} {w W:World} (h:Fs B a len cap base v p L w W):Fs B a len cap base v p L w W.drew:=h.call (Below.refl _ _).drew
theorem Fs.draw {B:Nat} {a:Option Addr} {len cap base:Nat} {v:Value} {p:List ByteArray} {L:List (Nat × Obj)} {w W W':World} (h:Fs B a len cap base v p L w W) (hs:Src W' B a len cap) (ha:Aft B W W') (hB:B<base) (hne:∀ x∈L,x.1≠B):Fs B a len cap base v p L w W':=⟨hs,ownS_aftD h.own ha hB,h.dx.draw ha hne⟩
theorem own_cellD {W:World} {base g n cap k:Nat} {l:List ByteArray} (h:OwnS W base (.slice (some ⟨g,0,none⟩) n cap) l) (hk:k<l.length):W.cell? ⟨g,k,none⟩=some (.string l[k])/\W.frozen? ⟨g,k,none⟩=false/\g<W.heap.size/\base<=g:=by
 rcases h.split with⟨hv,hq⟩|⟨g',c',hv,hg,hc,ho⟩
 ·cases hv
 ·obtain⟨rfl,_,_⟩:g=g'/\n=l.length/\cap=c':=by simp at hv;exact hv
  exact⟨ho.cell hk,ho.frozen k,ho.lt,hg⟩
def FileDraw (w:World) (e:Ending) (w':World):Prop:=∃ (z b:Int) (r:ByteArray) (v:Value) (p:List ByteArray),e=.returned (.tuple #[.agg #[.int .i64 z,.int .i64 b,.string r],v])/\r.size<=32/\OwnS w' w.heap.size v p/\p.length<=64/\(∀ s∈p,s.size<=1048576)/\Below w.heap.size w w'
def PkC:Prop:=∀ (W:World) (t:ByteArray),t.size<=48->Calls prog 39 #[.string t] W fun e w'=>(∃ r:ByteArray,r.size<=53/\e=.returned (.string r))/\Below W.heap.size W w'
def v3 (x y z:ByteArray) (j:Nat):ByteArray:=if j=0 then x else if j=1 then y else z
theorem new3D (W:World) (x y z:ByteArray) (t:TypeId) (j:Nat) (hj:j<3):(W.alloc (.cells #[.string x,.string y,.string z] t)).cell? ⟨W.heap.size,j,none⟩=some (.string (v3 x y z j)):=by
 have h:=heap_alloc_new W (.cells #[.string x,.string y,.string z] t)
 have hj3:j=0∨j=1∨j=2:=by omega
 rcases hj3 with rfl|rfl|rfl
 ·exact cell_of_row _ _ 0 _ _ _ h
 ·exact cell_of_row _ _ 1 _ _ _ h
 ·exact cell_of_row _ _ 2 _ _ _ h
theorem v3_size {x y z:ByteArray} {j m:Nat} (hx:x.size<=m) (hy:y.size<=m) (hz:z.size<=m):(v3 x y z j).size<=m:=by
 unfold v3
 split
 ·exact hx
 ·split
  ·exact hy
  ·exact hz
theorem set_sizes {p:List ByteArray} {k m:Nat} {s:ByteArray} (h:∀ x∈p,x.size<=m) (hs:s.size<=m):∀ x∈p.set k s,x.size<=m:=fun x hx=>by
 rcases List.mem_or_eq_of_mem_set hx with h1|h1
 ·exact h x h1
 ·rw[h1];exact hs
theorem drawFile_any (a:Option Addr) (len cap:Nat) (w:World) (hl:len<=1048576) (hr:Row w w.heap.size a len) (hof:OfC) (hpc:PcC) (hpk:PkC) :
  Calls prog 10 #[.slice a len cap] w fun e w'=>FileDraw w e w':=by
 obtain⟨i0,hi0,hz0,hz1,hz2⟩:=info_parts Tryz.infoTW;have HC:=hideK (fun B W (h:Src W B a len cap)=>case7_any B a len cap W hl h hof hpc);have HPK:=hideK (fun W=>hpk W ⟨#[111,116,104,101,114]⟩ (by decide));have C0:Hid ((w.alloc (.cells #[.int .i64 0,.int .i64 0,.string ⟨#[]⟩] 26)).heap[w.heap.size]? = some (.cells #[.int .i64 0,.int .i64 0,.string ⟨#[]⟩] 26 (0,0))):=heap_alloc_new w _;have B0:Hid (Below w.heap.size w (w.alloc (.cells #[.int .i64 0,.int .i64 0,.string ⟨#[]⟩] 26))):=(Below.refl _ _).alloc nl _;have HSO:Hid (Calls _ _ _ _ _):=source_any a len cap (w.alloc (.cells #[.int .i64 0,.int .i64 0,.string ⟨#[]⟩] 26)) hl ((hr.below B0.o).mono B0.o.size)
 have hz0':(w.alloc (.cells #[.int .i64 0,.int .i64 0,.string ⟨#[]⟩] 26)).heap.size=w.heap.size+1:=by simp
 have HZ0:=hideK hz0';clear hz0' hr hof hpc hpk;go_enter func10,ntmps10
 go_wp2_with fail
 generalize w.alloc (.cells #[.int .i64 0,.int .i64 0,.string ⟨#[]⟩] 26)=W0 at C0 B0 HSO HZ0 ⊢;generalize hB:W0.heap.size=B at HSO HZ0 ⊢;have HB:=hideK hB;clear hB;refine HSO.o.mono ?_;rintro e w1 ⟨rfl,hs1,hb1,hz1⟩;have S1:=hideK hs1;have X1:=hideK ((hb1.block _ (by have:=HZ0.o;omega)).trans C0.o);have B1:=hideK (B0.o.trans (hb1.mono (by have:=HZ0.o;omega)));have hBl:=hs1.lt;clear hs1 hb1 hz1 C0 B0 HSO
 go_wp2_with fail
 refine(HC.o _ _ S1.o).mono ?_;rintro e w2 ⟨t2,z2,b2,r2,v2,l2,rfl,hr2,ho2,hl2,hs2,hsr2,ha2⟩
 have F2:Hid (Fs B a len cap w1.heap.size v2 l2 [(w2.heap.size,.cells #[.int .i64 z2,.int .i64 b2,.string r2] 26),(w.heap.size,.cells #[.int .i64 0,.int .i64 0,.string ⟨#[]⟩] 26)] w1 (w2.alloc (.cells #[.int .i64 z2,.int .i64 b2,.string r2] 26))) :=
  ⟨src_alloc hsr2 _,ownS_allocD ho2 _,Dx.new ⟨ha2,fun x hx=>by rw[List.mem_singleton.1 hx];exact(ha2.block _ (lt_rowK X1.o) (by show w.heap.size≠B;have:=HZ0.o;omega)).trans X1.o⟩ _⟩
 have hz2w:w.heap.size<w2.heap.size:=by have:=HZ0.o;have:=ha2.size;omega
 have hz2b:B<w2.heap.size:=by have:=ha2.size;omega
 obtain⟨av2,cv2,hv2,hcv2,hst2⟩:=ho2.strs;subst hv2;have HSZ:=hideK hs2;clear ha2 hsr2 ho2 S1 X1 hst2 hs2
 go_upto_region 3 with fail
 generalize w2.alloc _=W2 at F2 ⊢;generalize w2.heap.size=g at F2 hz2w hz2b ⊢;generalize hbs:w1.heap.size=bs at F2 hBl;have HBS:=hideK hbs;clear hbs;generalize hln:l2.length=n at hl2 hcv2 F2 ⊢;have HLN:=hideK hln;clear hln
 have hwB:¬w.heap.size=B:=by have:=HZ0.o;omega
 have HNE:Hid (∀ x∈[((g:Nat),(.cells #[.int .i64 z2,.int .i64 b2,.string r2] 26:Obj)),(w.heap.size,.cells #[.int .i64 0,.int .i64 0,.string ⟨#[]⟩] 26)],x.1≠B):=fun x hx=>by
  rcases List.mem_cons.1 hx with rfl|hx
  ·show g≠B;omega
  ·rw[List.mem_singleton.1 hx];exact hwB
 have HEND:Hid (∀ (W:World) (v:Value) (p:List ByteArray),Fs B a len cap bs v p [(g,.cells #[.int .i64 z2,.int .i64 b2,.string r2] 26),(w.heap.size,.cells #[.int .i64 0,.int .i64 0,.string ⟨#[]⟩] 26)] w1 W ->
   OwnS (((W.setCell ⟨w.heap.size,0,none⟩ (.int .i64 z2)).setCell ⟨w.heap.size,1,none⟩ (.int .i64 b2)).setCell ⟨w.heap.size,2,none⟩ (.string r2)) w.heap.size v p/\Below w.heap.size w (((W.setCell ⟨w.heap.size,0,none⟩ (.int .i64 z2)).setCell ⟨w.heap.size,1,none⟩ (.int .i64 b2)).setCell ⟨w.heap.size,2,none⟩ (.string r2))):=fun W v p h=>by
  refine⟨(ownS_set3 h.own (h.dx.get 1 rfl) (by decide) _ _ _).mono (by have:=HZ0.o;have:=HBS.o;omega),?_⟩;have hbw:Below w.heap.size w W:=h.dx.aft.below B1.o (by have:=HZ0.o;omega) (by have:=HZ0.o;have:=HBS.o;omega);exact((hbw.setCell (p:=⟨w.heap.size,0,none⟩) nl (.int .i64 z2)).setCell (p:=⟨w.heap.size,1,none⟩) nl (.int .i64 b2)).setCell (p:=⟨w.heap.size,2,none⟩) nl (.string r2)
 clear B1
 go_wp2_with fail
 refine(one_any B a len cap 3 _ hl (by omega) F2.o.src).mono ?_;rintro e w3 ⟨q3,rfl,hs3,ho3⟩;have F3:=hideK (F2.o.draw hs3 ho3.aft hBl HNE.o);clear hs3 ho3 F2
 have HFIN:Hid (∀ x∈l2,x.size<=1048576):=fun x hx=>by have:=HSZ.o x hx;omega
 by_cases hq:q3=true/\0<n
 ·obtain⟨rfl,hn0⟩:=hq
  have hn0i:(0:Int)<(n:Int):=by omega
  have hn0d:decide ((0:Int)<(n:Int))=true:=by simp;omega
  go_wp2_with fail
  refine(n_any B a len cap (n:Int) _ hl (by omega) F3.o.src).mono ?_;rintro e w4 ⟨q4,rfl,p0,p1,hs4,ho4⟩;obtain⟨k,rfl⟩:=Int.eq_ofNat_of_zero_le p0
  have hk:k<n:=by omega
  have hki:(k:Int)<(n:Int):=by omega
  have F4:=hideK (F3.o.draw hs4 ho4.aft hBl HNE.o);clear hs4 ho4 F3 p0 p1
  have hln0:0<l2.length:=by rw[HLN.o];exact hn0
  have hkl:k<l2.length:=by rw[HLN.o];exact hk
  obtain⟨gp,hap,hgp⟩:∃ gp,av2=some ⟨gp,0,none⟩/\bs<=gp:=by
   rcases F4.o.own.split with⟨_,h⟩|⟨g',c',hv,hg,_,ho⟩
   ·rw[h]at hln0;simp at hln0
   ·simp at hv;exact⟨g',hv.1,hg⟩
  subst hap;have L4:=hideK (ownS_litD w4);have B4:Hid (Below w4.heap.size w4 (w4.alloc (.cells #[] 9))):=(Below.refl _ _).alloc nl _
  have ST4:Hid (Strs (w4.alloc (.cells #[] 9)) (w4.alloc (.cells #[] 9)).heap.size (some ⟨gp,0,none⟩) l2):=by
   obtain⟨av,cv,hv,_,hst⟩:=(ownS_allocD F4.o.own (.cells #[] 9)).strs;simp at hv;rw[hv.1];exact hst
  have hz4:w4.heap.size<=(w4.alloc (.cells #[] 9)).heap.size:=B4.o.size
  have hbs4:bs<=w4.heap.size:=by have h:=F4.o.dx.aft.size;rw[HBS.o]at h;exact h
  go_upto_region 5 with fail
  have q1:0+n<=maxLen:=by unfold maxLen;omega
  have q2:(0+n)*16<=140737488355328:=by omega
  have q3:(l2.map Value.string).length=n*1:=by rw[List.length_map,HLN.o,Nat.mul_one]
  have q4:=strs_news ST4.o;have q5:=strs_oneD l2;have q6:(w4.alloc (.cells #[] 9)).ownsRow w4.heap.size 9 1 (.slice (some ⟨w4.heap.size,0,none⟩) 0 0) 0 []:=L4.o
  go_wp2_with (at_builtin;refine wpList_append_opt _ rfl (.tmp 28) (.tmp 29) 34 rfl w4.heap.size 9 i0 (.string ⟨#[]⟩) 1 16 underlying34 hi0 hz0 hz1 hz2 rfl (by decide) (.slice (some ⟨w4.heap.size,0,none⟩) 0 0) 0 [] rfl q6 (some ⟨gp,0,none⟩) n cv2 (fun h=>nomatch h) (l2.map Value.string) rfl q3 q4 q5 q1 q2 hz4 ?_)
  intro v5 w5 hown5 hgrow5 _
  have O5:Hid (OwnS w5 bs v5 l2):=by
   have h5:OwnS w5 w4.heap.size v5 l2:=by
    unfold OwnS;rw[HLN.o]
    simpa using hown5
   exact h5.mono hbs4
  have B5:Hid (Below w4.heap.size w4 w5):=B4.o.grown hgrow5 hz4 (fun g hg=>by simp[Value.ownBlock]at hg;omega);have F5:=hideK (show Fs B a len cap bs v5 l2 _ w1 w5 from ⟨(F4.o.call B5.o).src,O5.o,(F4.o.call B5.o).dx⟩);clear hown5 hgrow5 B5 O5 F4 ST4 B4 L4 hz4 hbs4
  obtain⟨g5,c5,hv5,hg5,hc5k⟩:∃ g5 c5,v5=.slice (some ⟨g5,0,none⟩) n c5/\bs<=g5/\n<=c5:=by
   rcases F5.o.own.split with⟨_,h⟩|⟨g',c',hv,hg,hc,ho⟩
   ·rw[h]at hln0;simp at hln0
   ·exact⟨g',c',by rw[hv,HLN.o],hg,by rw[<-HLN.o];exact hc⟩
  subst hv5
  have HSET:Hid (∀ W s,Fs B a len cap bs (.slice (some ⟨g5,0,none⟩) n c5) l2 [(g,.cells #[.int .i64 z2,.int .i64 b2,.string r2] 26),(w.heap.size,.cells #[.int .i64 0,.int .i64 0,.string ⟨#[]⟩] 26)] w1 W->Fs B a len cap bs (.slice (some ⟨g5,0,none⟩) n c5) (l2.set k s) [(g,.cells #[.int .i64 z2,.int .i64 b2,.string r2] 26),(w.heap.size,.cells #[.int .i64 0,.int .i64 0,.string ⟨#[]⟩] 26)] w1 (W.setCell ⟨g5,k,none⟩ (.string s))):=fun W s h=>by
   have hne:∀ x∈[((g:Nat),(.cells #[.int .i64 z2,.int .i64 b2,.string r2] 26:Obj)),(w.heap.size,.cells #[.int .i64 0,.int .i64 0,.string ⟨#[]⟩] 26)],x.1≠g5:=fun x hx e=>by
    rcases h.own.split with⟨hv,_⟩|⟨g',c',hv,_,_,cur,ho,_⟩
    ·cases hv
    ·simp at hv
     rw[<-hv.1,<-e,h.dx.blk x hx]at ho
     rcases List.mem_cons.1 hx with rfl|hx
     ·simp at ho
     ·rw[List.mem_singleton.1 hx]at ho;simp at ho
   exact⟨src_set' h.src (by omega) _,ownS_setD h.own s,⟨aft_set h.dx.aft (by rw[HBS.o];exact hg5) _,fun x hx=>(heap_setCell_other W _ x.1 _ (hne x hx)).trans (h.dx.blk x hx)⟩⟩
  have hts:=HSZ.o l2[k] (List.getElem_mem hkl);have HCELL:Hid (∀ W,Fs B a len cap bs (.slice (some ⟨g5,0,none⟩) n c5) l2 [(g,.cells #[.int .i64 z2,.int .i64 b2,.string r2] 26),(w.heap.size,.cells #[.int .i64 0,.int .i64 0,.string ⟨#[]⟩] 26)] w1 W->W.cell? ⟨g5,k,none⟩=some (.string l2[k])/\W.frozen? ⟨g5,k,none⟩=false):=fun W h=>⟨(own_cellD h.own hkl).1,(own_cellD h.own hkl).2.1⟩;have HREST:Hid (∀ W p,Fs B a len cap bs (.slice (some ⟨g5,0,none⟩) n c5) p [(g,.cells #[.int .i64 z2,.int .i64 b2,.string r2] 26),(w.heap.size,.cells #[.int .i64 0,.int .i64 0,.string ⟨#[]⟩] 26)] w1 W->W.heap[g]? = some (.cells #[.int .i64 z2,.int .i64 b2,.string r2] 26)/\W.heap[w.heap.size]? = some (.cells #[.int .i64 0,.int .i64 0,.string ⟨#[]⟩] 26)):=fun W p h=>⟨h.dx.get 0 rfl,h.dx.get 1 rfl⟩;generalize [((g:Nat),(.cells #[.int .i64 z2,.int .i64 b2,.string r2] 26:Obj)),(w.heap.size,.cells #[.int .i64 0,.int .i64 0,.string ⟨#[]⟩] 26)]=LL at F5 HNE HSET HCELL HREST HEND;generalize l2[k]=tk at hts HCELL;obtain⟨c0,f0⟩:=HCELL.o _ F5.o;have hB5:=F5.o.src.lt
  go_upto_region 6 with fail
  go_region_with (first|(go_at_call 39;(with_reducible refine(HPK.o _).mono ?_);rintro e v6 ⟨⟨x6,hx6,rfl⟩,hb6⟩;have F6:=hideK ((show Fs B a len cap bs (.slice (some ⟨g5,0,none⟩) n c5) l2 LL w1 _ from (by repeat (first|exact F5.o|refine Fs.alloc ?_ _|refine Fs.drew ?_))).call hb6);obtain⟨c6,f6⟩:=HCELL.o _ F6.o;clear hb6)|(go_at_call 35;(with_reducible refine(spoil_any B a len cap tk _ hl (by omega) ?_).mono ?_);(· repeat (first|exact F6.o.src|refine src_alloc ?_ _|refine src_drew ?_));rintro e v7 ⟨x7,hx7,rfl,hs7,ha7⟩;have F7:=hideK (Fs.draw (show Fs B a len cap bs (.slice (some ⟨g5,0,none⟩) n c5) l2 LL w1 _ from (by repeat (first|exact F6.o|refine Fs.alloc ?_ _|refine Fs.drew ?_))) hs7 ha7 hBl HNE.o);obtain⟨c7,f7⟩:=HCELL.o _ F7.o;have hv7:¬v7.heap.size=B:=(by have:=F7.o.src.lt;omega);have hv7':¬B=v7.heap.size:=(by have:=F7.o.src.lt;omega);have hg7:¬g5=v7.heap.size:=(by have:=(own_cellD F7.o.own hkl).2.2.1;omega);clear hs7 ha7)|(go_at_call 34;(with_reducible refine(n_any B a len cap 3 (v7.alloc _) hl (by omega) ?_).mono ?_);(· exact src_alloc F7.o.src _);rintro e v8 ⟨r8,rfl,p0,p1,hs8,ho8⟩;obtain⟨j8,rfl⟩:=Int.eq_ofNat_of_zero_le p0;have hj8:j8<3:=(by omega);have hi8:(j8:Int)<3:=(by omega);have F8:=hideK (Fs.draw (show Fs B a len cap bs (.slice (some ⟨g5,0,none⟩) n c5) l2 LL w1 _ from (by repeat (first|exact F7.o|refine Fs.alloc ?_ _|refine Fs.drew ?_))) hs8 ho8.aft hBl HNE.o);obtain⟨c8,f8⟩:=HCELL.o _ F8.o;have hg8:¬g5=v8.heap.size:=(by have:=(own_cellD F8.o.own hkl).2.2.1;omega);have hg8l:g5<v8.heap.size:=(by have:=(own_cellD F8.o.own hkl).2.2.1;omega);have n8:=((only_cell ho8 v7.heap.size j8 hv7).trans (new3D v7 ⟨#[]⟩ x6 x7 9 j8 hj8));clear hs8 ho8 p0 p1)|(go_at_call 34;(with_reducible refine(n_any B a len cap 3 v7 hl (by omega) ?_).mono ?_);(· exact F7.o.src);rintro e v8 ⟨r8,rfl,p0,p1,hs8,ho8⟩;obtain⟨j8,rfl⟩:=Int.eq_ofNat_of_zero_le p0;have hj8:j8<3:=(by omega);have hi8:(j8:Int)<3:=(by omega);have F8:=hideK (Fs.draw (show Fs B a len cap bs (.slice (some ⟨g5,0,none⟩) n c5) l2 LL w1 _ from (by repeat (first|exact F7.o|refine Fs.alloc ?_ _|refine Fs.drew ?_))) hs8 ho8.aft hBl HNE.o);obtain⟨c8,f8⟩:=HCELL.o _ F8.o;have hg8:¬g5=v8.heap.size:=(by have:=(own_cellD F8.o.own hkl).2.2.1;omega);have hg8l:g5<v8.heap.size:=(by have:=(own_cellD F8.o.own hkl).2.2.1;omega);have n8:=(new3D v8 ⟨#[]⟩ x6 x7 9 j8 hj8);have c8a:=(fun o=>(HCELL.o _ (F8.o.alloc o)).1);have f8a:=(fun o=>(HCELL.o _ (F8.o.alloc o)).2);clear hs8 ho8 p0 p1))
  all_goals (try go_upto_region 7 with fail)
  all_goals (
   first|(obtain⟨W9,hW9⟩:∃ W9,W9=(v8.setCell ⟨g5,k,none⟩ (.string (v3 ⟨#[]⟩ x6 x7 j8))).alloc (.cells #[.string ⟨#[]⟩,.string x6,.string x7] 9):=⟨_,rfl⟩;rw[<-hW9])|(obtain⟨W9,hW9⟩:∃ W9,W9=v8.setCell ⟨g5,k,none⟩ (.string (v3 ⟨#[]⟩ x6 x7 j8)):=⟨_,rfl⟩;rw[<-hW9])
   have F9:=hideK (show Fs B a len cap bs (.slice (some ⟨g5,0,none⟩) n c5) (l2.set k (v3 ⟨#[]⟩ x6 x7 j8)) LL w1 W9 from (by rw[hW9];first|(refine HSET.o _ _ ?_;repeat (first|exact F8.o|refine Fs.alloc ?_ _|refine Fs.drew ?_))|(refine Fs.alloc ?_ _;refine HSET.o _ _ ?_;repeat (first|exact F8.o|refine Fs.alloc ?_ _|refine Fs.drew ?_))));have HX0:=hideK (HREST.o _ _ F9.o).2;have HX6:=hideK (HREST.o _ _ F9.o).1;clear hW9 c8 f8 n8 c0 f0 c6 f6 c7 f7;obtain⟨a0,a1,a2⟩:=cells3 HX0.o;obtain⟨d0,d1,d2⟩:=cells3 HX6.o;have ff:=fun o=>frozen_of_row W9 w.heap.size o _ _ HX0.o;have s3:=set3_allD HX0.o (.int .i64 z2) (.int .i64 b2) (.string r2);have H9:=hideK (HEND.o _ _ _ F9.o);have H8:Hid ((v3 ⟨#[]⟩ x6 x7 j8).size<=1048576):=v3_size (by decide) (by omega) (by omega)
   go_wp2_with fail
   exact bodyPost_ret (v:=.tuple #[.agg #[.int .i64 z2,.int .i64 b2,.string r2],.slice (some ⟨g5,0,none⟩) n c5]) (by simp[results,results10,go_sem,s3.1,s3.2.1,s3.2.2]) rfl ⟨z2,b2,r2,_,_,rfl,hr2,H9.o.1,by rw[List.length_set,HLN.o];exact hl2,set_sizes HFIN.o H8.o,H9.o.2⟩)
 ·have hq':(q3 && decide ((0:Int)<(n:Int)))=false:=by
   cases q3 with
   |false=>rfl
   |true =>
    have:¬0<n:=fun h=>hq ⟨rfl,h⟩
    simp;omega
  obtain⟨x0,x1,x2⟩:=cells3 (F3.o.dx.get 1 rfl);obtain⟨y0,y1,y2⟩:=cells3 (F3.o.dx.get 0 rfl);have ff:=fun o=>frozen_of_row w3 w.heap.size o _ _ (F3.o.dx.get 1 rfl);have s3:=set3_allD (F3.o.dx.get 1 rfl) (.int .i64 z2) (.int .i64 b2) (.string r2);have H4:=hideK (HEND.o _ _ _ F3.o)
  cases q3 with
  |false =>
   go_wp2_with fail
   exact bodyPost_ret (v:=.tuple #[.agg #[.int .i64 z2,.int .i64 b2,.string r2],.slice av2 n cv2]) (by simp[results,results10,go_sem,s3.1,s3.2.1,s3.2.2]) rfl ⟨z2,b2,r2,_,l2,rfl,hr2,H4.o.1,by rw[HLN.o];exact hl2,HFIN.o,H4.o.2⟩
  |true =>
   have hn0:n=0:=by simp at hq;omega
   subst hn0
   go_wp2_with fail
   exact bodyPost_ret (v:=.tuple #[.agg #[.int .i64 z2,.int .i64 b2,.string r2],.slice av2 0 cv2]) (by simp[results,results10,go_sem,s3.1,s3.2.1,s3.2.2]) rfl ⟨z2,b2,r2,_,l2,rfl,hr2,H4.o.1,by rw[HLN.o];exact hl2,HFIN.o,H4.o.2⟩
end Dr
end Go.Proofs.YtaejgfdkfcmjeaaGreatDoor
