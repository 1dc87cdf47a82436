/- Texts put together: IntMark, IntOwn, PkCat, JoinWalks, TextWalks, NamePlain, CrcPlain, CrcWalks, SealWalks, UnsealWalks. -/
import Derived.Test.YtpddanmnlkcdpaaGreatDoorMz29
import Derived.Test.YtpddanmnlkcdpaaGreatDoorMz11
import Derived.Laws.AppendOwn
import Derived.Test.YtpddanmnlkcdpaaGreatDoorMz18
import Derived.Test.YtpddanmnlkcdpaaGreatDoorMz19
import Derived.Test.YtpddanmnlkcdpaaGreatDoorMz12
import Derived.Test.YtpddanmnlkcdpaaGreatDoorMz6
import Derived.Laws.BitsAllLaws
import Derived.Test.YtpddanmnlkcdpaaGreatDoorChecked
import Derived.WalkKit
import Derived.WalkSpells
import Derived.WalkLawsBesides
import Derived.Test.YtpddanmnlkcdpaaGreatDoorMz9
import Derived.Deep.RegionWith
set_option maxRecDepth 100000
set_option maxHeartbeats 8000000
/- The laws' marks in rows of numbers: written, and found again. -/
namespace Go.Proofs.YtpddanmnlkcdpaaGreatDoor.In
open Go.RowKit
open St (Aft)
def IsO (w:World) (g t:Nat) (l:List Int):Prop:=∃ cur:Array Value,w.heap[g]? = some (.cells cur t (0,0))/\∀ j (h:j<l.length),cur[j]? = some (.int .i64 l[j])
theorem IsO.cell {w:World} {g t:Nat} {l:List Int} (h:IsO w g t l) {j:Nat} (hj:j<l.length):w.cell? ⟨g,j,none⟩=some (.int .i64 l[j]):=by
 obtain⟨cur,hb,hc⟩:=h
 rw[cell_of_row w g j _ t (0,0) hb,hc j hj]
theorem IsO.frozen {w:World} {g t:Nat} {l:List Int} (h:IsO w g t l) (j:Nat):w.frozen? ⟨g,j,none⟩=false:=by
 obtain⟨cur,hb,_⟩:=h
 exact frozen_of_row w g j _ t hb
theorem IsO.set {w:World} {g t:Nat} {l:List Int} (h:IsO w g t l) (i:Nat) (s:Int):IsO (w.setCell ⟨g,i,none⟩ (.int .i64 s)) g t (l.set i s):=by
 obtain⟨cur,hb,hc⟩:=h
 refine⟨_,heap_setCell_same w g i _ t _ hb,fun j hj=>?_⟩
 rw[List.length_set]at hj
 rw[Array.getElem?_setIfInBounds,List.getElem_set]
 have hlt:j<cur.size:=(Array.getElem?_eq_some_iff.1 (hc j hj)).1
 by_cases e:i=j
 ·subst e
  simp[hlt]
 ·simp[e,hc j hj]
theorem IsO.lt {w:World} {g t:Nat} {l:List Int} (h:IsO w g t l):g<w.heap.size:=by
 obtain⟨cur,hb,_⟩:=h
 exact(Array.getElem?_eq_some_iff.1 hb).1
theorem IsO.of_heap {w w':World} {g t:Nat} {l:List Int} (h:IsO w g t l) (e:w'.heap[g]? = w.heap[g]?):IsO w' g t l:=by
 obtain⟨cur,hb,hc⟩:=h
 exact⟨cur,by rw[e];exact hb,hc⟩
theorem IsO.below {w w':World} {g t B:Nat} {l:List Int} (h:IsO w g t l) (b:Below B w w') (hg:g<B):IsO w' g t l:=h.of_heap (b.block g hg)
theorem IsO.ints {w:World} {g t B:Nat} {l:List Int} (h:IsO w g t l) (hB:g<B):Ints w B (some ⟨g,0,none⟩) l :=
 .inr ⟨g,0,rfl,hB,fun j hj=>by rw[Nat.zero_add];exact h.cell hj⟩
theorem IsI.own {w:World} {g t:Nat} {l:List Int} (h:IsI w g t l):IsO w g t l:=⟨irow l,h,fun j hj=>irow_get l j hj⟩
def marks (k n:Nat):List Int:=(List.range n).map fun j=>((k+j:Nat):Int)
theorem marks_length (k n:Nat):(marks k n).length=n:=by simp[marks]
theorem marks_get (k n j:Nat) (h:j<(marks k n).length):(marks k n)[j]=((k+j:Nat):Int):=by simp[marks]
def mmid (l:List Int) (k i:Nat):List Int:=marks k i++l.drop i
theorem mmid_length (l:List Int) (k i:Nat) (h:i<=l.length):(mmid l k i).length=l.length:=by simp[mmid,marks_length];omega
theorem mmid_zero (l:List Int) (k:Nat):mmid l k 0=l:=by simp[mmid,marks]
theorem mmid_all (l:List Int) (k:Nat):mmid l k l.length=marks k l.length:=by simp[mmid]
theorem mmid_next (l:List Int) (k i:Nat) (h:i<l.length):(mmid l k i).set i (((k+i:Nat):Int))=mmid l k (i+1):=by
 unfold mmid
 rw[List.set_append,if_neg (by rw[marks_length];omega),marks_length,Nat.sub_self]
 have:marks k (i+1)=marks k i++[((k+i:Nat):Int)]:=by simp[marks,List.range_succ]
 rw[this,List.append_assoc]
 congr 1
 rw[List.drop_eq_getElem_cons h]
 rfl
end Go.Proofs.YtpddanmnlkcdpaaGreatDoor.In


/- Rows of numbers that a call has made and owns: nil, or a block of its own whose head they are. -/
namespace Go.Proofs.YtpddanmnlkcdpaaGreatDoor.In
open Go.RowKit
open St (Aft)
def OwnI (w:World) (base:Nat) (v:Value) (l:List Int):Prop:=w.ownsRow base 2 1 v l.length (l.map (Value.int .i64))
theorem OwnI.nil (w:World) (base:Nat):OwnI w base (.slice none 0 0) []:=World.ownsRow_nil w base _ _
theorem OwnI.split {w:World} {base:Nat} {v:Value} {l:List Int} (h:OwnI w base v l) :
  (v=.slice none 0 0/\l=[])∨∃ g cap,v=.slice (some ⟨g,0,none⟩) l.length cap/\base<=g/\l.length<=cap/\IsO w g 2 l:=by
 obtain⟨_,h⟩:=h
 rcases h with⟨h,h0⟩|⟨g,cap,cur,hv,hg,hb,hnc,_,hsz,htk⟩
 ·exact .inl ⟨h,List.eq_nil_of_length_eq_zero h0⟩
 ·refine .inr ⟨g,cap,hv,hg,hnc,cur,hb,fun j hj=>?_⟩
  rw[<-Array.getElem?_toList]
  have h1:cur.toList[j]? = (cur.toList.take (l.length*1))[j]?:=by rw[List.getElem?_take_of_lt (by omega)]
  rw[h1,htk]
  simp[hj]
theorem OwnI.below {w w':World} {base:Nat} {v:Value} {l:List Int} (h:OwnI w base v l) (b:Below w.heap.size w w'):OwnI w' base v l:=by
 obtain⟨hl,h⟩:=h
 refine⟨hl,?_⟩
 rcases h with h|⟨g,cap,cur,hv,hg,hb,rest⟩
 ·exact .inl h
 ·exact .inr ⟨g,cap,cur,hv,hg,by rw[b.block g (Array.getElem?_eq_some_iff.1 hb).1];exact hb,rest⟩
theorem OwnI.mono {w:World} {base base':Nat} {v:Value} {l:List Int} (h:OwnI w base v l) (hb:base'<=base):OwnI w base' v l:=by
 obtain⟨hl,h⟩:=h
 refine⟨hl,?_⟩
 rcases h with h|⟨g,cap,cur,hv,hg,rest⟩
 ·exact .inl h
 ·exact .inr ⟨g,cap,cur,hv,Nat.le_trans hb hg,rest⟩
theorem OwnI.ints {w:World} {base:Nat} {v:Value} {l:List Int} (h:OwnI w base v l):∃ a cap,v=.slice a l.length cap/\l.length<=cap/\Ints w w.heap.size a l:=by
 rcases h.split with⟨rfl,rfl⟩|⟨g,cap,rfl,_,hc,ho⟩
 ·exact⟨none,0,rfl,Nat.le_refl _,.inl rfl⟩
 ·exact⟨_,cap,rfl,hc,ho.ints ho.lt⟩
theorem one_newI (W:World) (s:Int) (t:TypeId):∀ (j:Nat) (u:Value),[(Value.int .i64) s][j]? = some u->(W.alloc (.cells #[.int .i64 s] t)).cell? ((⟨W.heap.size,0,none⟩:Addr).add j)=some u:=by
 intro j u hj
 match j,hj with
 |0,hj=>simp at hj;subst hj;simp[Addr.add]
theorem one_cellI (s:Int):∀ u∈[(Value.int .i64) s],u.oneCell'=true:=by
 intro u hu
 simp at hu
 subst hu
 rfl
theorem OwnI.snoc {w:World} {base:Nat} {v:Value} {l:List Int} {s:Int} (h:w.ownsRow base 2 1 v (l.length+1) (l.map (Value.int .i64)++[.int .i64 s])):OwnI w base v (l++[s]):=by
 unfold OwnI
 rw[List.length_append,List.map_append]
 exact h
theorem app_one {B base:Nat} {e:TypeId} {w0 w w1:World} {v:Value} {n size:Nat} {xs:List Value} {o:Obj} (hbel:Below B w0 w) (hB:B<=w.heap.size) (hBb:B<=base)
  (hown:w.ownsRow base e size v n xs) (hgrow:(w.alloc o).grownBy w1 v.ownBlock):Below B w0 w1:=by
 refine(hbel.alloc hB o).grown hgrow (by simp;omega) ?_
 intro k hk
 exact Nat.le_trans hBb (hown.lt k hk).1
end Go.Proofs.YtpddanmnlkcdpaaGreatDoor.In


namespace Go.Proofs.YtpddanmnlkcdpaaGreatDoor.Pk
open Go.RowKit
open St (Strs IsS)
open In (Ints IsI OwnI made_ints)
open Nu (putS)
theorem hideP {p:Prop} (h:p):Hid p:=h
def cat (l:List ByteArray):List UInt8:=l.flatMap fun s=>s.data.toList
theorem cat_next (l:List ByteArray) (k:Nat) (h:k<l.length):cat (l.take (k+1))=cat (l.take k)++l[k].data.toList:=by
 rw[List.take_add_one,List.getElem?_eq_getElem h]
 unfold cat
 rw[List.flatMap_append]
 simp
theorem cat_take_le (l:List ByteArray) (k:Nat):(cat (l.take k)).length<=(cat l).length:=by
  have:cat l=cat (l.take k)++cat (l.drop k):=by
   unfold cat
   rw[<-List.flatMap_append,List.take_append_drop]
  rw[this,List.length_append]
  omega
theorem join_any (l:List ByteArray) (a:Option Addr) (cap n:Nat) (w:World) (h:Strs w w.heap.size a l) (hn:l.length=n) (hn2:n<=1048576) (hc:(cat l).length<=1048576) :
  Calls Tryz.prog 204 #[.slice a n cap] w fun e w'=>e=.returned (.string ⟨(cat l).toArray⟩)/\Below w.heap.size w w':=by
 have HN:=hideP hn
 have HS:=hideP h
 have HC:=hideP (fun k=>Nat.le_trans (cat_take_le l k) hc)
 clear h hn hc
 go_enter Tryz.func204,Tryz.ntmps204
 go_wp2_with fail
 go_loopw [8,5] (fun i _ wr=>∃ k:Nat,i=.int .i64 k/\k<=n/\Lib.IsBuilder 276 5 w.heap.size w.heap.size (Lib.byteCells (cat (l.take k))) wr/\Below w.heap.size w wr/\w.heap.size<=wr.heap.size) (fun i _ _=>n-(intOf i).toNat)
 case atStart=>exact⟨0,rfl,Nat.zero_le _,Lib.fresh_isBuilder _ _ w,(Below.refl _ _).alloc (Nat.le_refl _) _,by simp⟩
 case round =>
  obtain⟨k,rfl,hk,hbu,hbel,hbz⟩:=hrel
  have HBU:=hideP hbu
  have GB:=hideP hbel
  clear hbu hbel
  by_cases hlt:k<n
  ·have hkl:k<l.length:=by rw[HN.out];exact hlt
   obtain⟨b,off,rfl,hb,hcl⟩:∃ b off,a=some ⟨b,off,none⟩/\b<w.heap.size/\∀ j (h:j<l.length),wr.cell? ⟨b,off+j,none⟩=some (.string l[j]):=by
    rcases HS.out.below GB.out with h0|h
    ·subst h0
     simp at hkl
    ·exact h
   have ci:=hcl k hkl
   have HNX:=hideP (cat_next l k hkl)
   have h1:=HC.out (k+1)
   rw[HNX.out,List.length_append]at h1
   generalize l[k]=s at ci HNX h1
   have hss:s.data.toList.length=s.size:=by simp
   have HLE:Hid ((Lib.byteCells (cat (l.take k))).length+s.size<=140737488355328):=by
    unfold Hid
    rw[Lib.byteCells_length]
    omega
   have HNC:Hid (Lib.byteCells (cat (l.take k))++Lib.strCells s=Lib.byteCells (cat (l.take (k+1)))):=by
    unfold Hid
    rw[HNX.out,Lib.byteCells_append,Lib.strCells_eq]
   have HWR:=hideP (Sb.write_any w.heap.size w.heap.size _ s wr HBU.out HLE.out hbz)
   clear hcl h1 hss hkl
   go_wp2_with fail
   refine HWR.out.mono ?_
   rintro e w2 ⟨rfl,hbt,hb2⟩
   rw[HNC.out]at hbt
   have HBT:=hideP hbt
   have B2:=hideP (GB.out.trans hb2)
   have z2:=hb2.size
   clear hbt hb2
   go_wp2_with fail
   go_roundw
   case rel=>exact⟨k+1,by go_num,by omega,Or.inr HBT.out,B2.out,by omega⟩
   case measure=>simp[intOf];omega
  ·obtain rfl:k=n:=by omega
   have HE:Hid (cat (l.take k)=cat l):=by
    unfold Hid
    rw[List.take_of_length_le (by rw[HN.out];exact Nat.le_refl _)]
   have HST:=hideP (Sb.string_any w.heap.size w.heap.size _ wr HBU.out hbz)
   rw[HE.out]at HST
   go_wp2_with fail
   refine HST.out.mono ?_
   rintro e w2 ⟨rfl,hb2⟩
   have B2:=hideP (GB.out.trans hb2)
   clear hb2
   go_wp2_with fail
   go_ret
   exact⟨rfl,B2.out⟩
def numsL (l:List Int):List UInt8:=l.flatMap fun x=>(putS x).data.toList
def putsN (l:List Int) (k:Nat):List ByteArray:=(l.take k).map putS++List.replicate (l.length-k) ⟨#[]⟩
theorem putS_size (n:Int):(putS n).size<=10:=by
 show (Nu.numB (Nu.zz n)).toArray.size<=10
 rw[List.size_toArray]
 unfold Nu.numB
 rw[Nu.numL_length]
 have:=Nu.cnt_le 9 (Nu.zz n)
 omega
end Go.Proofs.YtpddanmnlkcdpaaGreatDoor.Pk


namespace Go.Proofs.YtpddanmnlkcdpaaGreatDoor.Nu
open Go.RowKit
theorem join_some (a b:ByteArray) (w:World) (h:a.size+b.size<=1099511627776) (hb:¬b=ByteArray.empty) :
  Calls Tryz.prog 196 #[.string a,.string b] w fun e w'=>e=.returned (.string (a++b))/\Below w.heap.size w w':=by
 obtain⟨i0,hi,hz0,hz1,hz2⟩:=info_parts Tryz.infoJ5
 go_enter Tryz.func196,Tryz.ntmps196
 go_wp2_with (at_make;refine wpList_make_full _ rfl (.tmp 10) (.tmp 10) 168 rfl w.heap.size 5 i0 (.int .u8 0) 1 Tryz.underlying168 hi hz0 hz1 .i64 .i64 _ _ (a.size+b.size) rfl rfl (by simp) (by simp) (by rw[hz2];omega) (by unfold maxLen;omega) (Nat.le_refl _) ?_;intro w1 hown1 hgrow1;obtain⟨cur,hblk,hlen⟩:=made_block hown1;have hbel1:=(Below.refl w.heap.size w).grown hgrow1 (Nat.le_refl _) (by simp);obtain⟨w2,w3,c1,c2,c3,hb3⟩:=join_facts (P:=Tryz.prog) (ty:=3) (sT:=9) (a:=a) (b:=b) (dp:=some ⟨w.heap.size,a.size,none⟩) (dLen:=b.size) (dCap:=b.size) Tryz.underlying168 Tryz.underlying5 Tryz.underlying9 Tryz.sizeJ5 hblk hlen rfl hbel1 (fun _=>rfl) (Nat.le_refl _);clear hown1 hgrow1 hblk hlen hbel1)
 go_ret
 exact⟨rfl,by assumption⟩
theorem join_none (a:ByteArray) (w:World) (h:a.size<=1099511627776) :
  Calls Tryz.prog 196 #[.string a,.string ByteArray.empty] w fun e w'=>e=.returned (.string (a++ByteArray.empty))/\Below w.heap.size w w':=by
 obtain⟨i0,hi,hz0,hz1,hz2⟩:=info_parts Tryz.infoJ5
 go_enter Tryz.func196,Tryz.ntmps196
 go_wp2_with (at_make;refine wpList_make_full _ rfl (.tmp 10) (.tmp 10) 168 rfl w.heap.size 5 i0 (.int .u8 0) 1 Tryz.underlying168 hi hz0 hz1 .i64 .i64 _ _ a.size rfl rfl (by simp) (by simp) (by rw[hz2];omega) (by unfold maxLen;omega) (Nat.le_refl _) ?_;intro w1 hown1 hgrow1;obtain⟨cur,hblk,hlen⟩:=made_block hown1;have hbel1:=(Below.refl w.heap.size w).grown hgrow1 (Nat.le_refl _) (by simp);obtain⟨w2,w3,c1,c2,c3,hb3⟩:=join_facts (P:=Tryz.prog) (ty:=3) (sT:=9) (a:=a) (b:=ByteArray.empty) (dp:=some ⟨w.heap.size,0,none⟩) (dLen:=0) (dCap:=0) Tryz.underlying168 Tryz.underlying5 Tryz.underlying9 Tryz.sizeJ5 hblk hlen (by simp) hbel1 (by simp) (by simp);clear hown1 hgrow1 hblk hlen hbel1)
 go_ret
 exact⟨ret_strJ (by simp),by assumption⟩
theorem join_any (a b:ByteArray) (w:World) (h:a.size+b.size<=1099511627776) :
  Calls Tryz.prog 196 #[.string a,.string b] w fun e w'=>e=.returned (.string (a++b))/\Below w.heap.size w w':=by
 by_cases hb:b=ByteArray.empty
 ·subst hb
  exact join_none a w (by omega)
 ·exact join_some a b w h hb
end Go.Proofs.YtpddanmnlkcdpaaGreatDoor.Nu


namespace Go.Proofs.YtpddanmnlkcdpaaGreatDoor.Nu
open Go.RowKit
def putT (t:ByteArray):ByteArray:=if t.size<=8000 then putS (t.size:Int)++t else ⟨#[]⟩
theorem putS_size (n:Int):(putS n).size<=10:=by
 have:=(numB_length (zz n)).1
 simpa [putS,ByteArray.size] using this
theorem text_spec (t:ByteArray) (w:World) (ht:t.size<=maxLen) :
  Calls Tryz.prog 183 #[.string t] w fun e w'=>e=.returned (.string (putT t))/\Below w.heap.size w w':=by
 unfold maxLen at ht
 by_cases h:8000<t.size
 ·have HP:=hide (show putT t=⟨#[]⟩ by unfold putT;rw[if_neg (by omega)])
  go_enter Tryz.func183,Tryz.ntmps183
  go_wp2
  go_ret
  exact⟨ret_str HP.out.symm,Below.refl _ _⟩
 ·have HP:=hide (show putT t=putS (t.size:Int)++t by unfold putT;rw[if_pos (by omega)])
  have hps:=putS_size (t.size:Int)
  go_enter Tryz.func183,Tryz.ntmps183
  go_wp2_with fail
  refine(put_spec _ _ (by omega) (by omega)).mono ?_
  rintro e w1 ⟨rfl,hb1⟩
  go_wp2
  go_ret
  exact⟨ret_str HP.out.symm,hb1⟩
theorem text_impl (t:ByteArray) (w:World) (ht:t.size<=maxLen) :
  Calls Tryz.prog 227 #[.string t] w fun e w'=>e=.returned (.string (putT t))/\Below w.heap.size w w':=by
 unfold maxLen at ht
 by_cases h:8000<t.size
 ·have HP:=hide (show putT t=⟨#[]⟩ by unfold putT;rw[if_neg (by omega)])
  go_enter Tryz.func227,Tryz.ntmps227
  go_wp2
  go_ret
  exact⟨ret_str HP.out.symm,Below.refl _ _⟩
 ·have HP:=hide (show putT t=putS (t.size:Int)++t by unfold putT;rw[if_pos (by omega)])
  have hps:=putS_size (t.size:Int)
  go_enter Tryz.func227,Tryz.ntmps227
  go_wp2_with fail
  refine(put_impl _ _ (by omega) (by omega)).mono ?_
  rintro e w1 ⟨rfl,hb1⟩
  go_wp2_with fail
  refine(join_any _ _ _ (by omega)).mono ?_
  rintro e w2 ⟨rfl,hb2⟩
  go_wp2
  go_ret
  exact⟨ret_str HP.out.symm,hb1.trans (hb2.mono hb1.size)⟩
end Go.Proofs.YtpddanmnlkcdpaaGreatDoor.Nu


/- Plain mathematics of names: which texts are names, byte by byte. -/
namespace Go.Proofs.YtpddanmnlkcdpaaGreatDoor.Nm
def letB (c:Int):Bool:=decide (97<=c) && decide (c<=122)
def digB (c:Int):Bool:=decide (48<=c) && decide (c<=57)
def byteAt (s:ByteArray) (i:Nat):Int:=((s.data.toList.getD i 0).toNat:Int)
def okAt (s:ByteArray) (i:Nat):Bool:=letB (byteAt s i) || (decide (0<i) && (digB (byteAt s i) || decide (byteAt s i=95)))
def nameB (s:ByteArray):Bool:=decide (1<=s.size) && (decide (s.size<=20) && (List.range s.size).all (okAt s))
theorem byteAt_eq (s:ByteArray) (i:Nat) (h:i<s.size):byteAt s i=(s[i].toNat:Int):=by
 have h':i<s.data.toList.length:=by simpa using h
 unfold byteAt
 rw[List.getD_eq_getElem?_getD,List.getElem?_eq_getElem h']
 rfl
theorem name_true (s:ByteArray) (h1:1<=s.size) (h2:s.size<=20) (h:∀ j,j<s.size->okAt s j=true):nameB s=true:=by
 simp only[nameB,h1,h2,decide_true,Bool.true_and,List.all_eq_true,List.mem_range]
 exact h
theorem name_short (s:ByteArray) (h1:s.size<1):nameB s=false:=by
 have:¬1<=s.size:=by omega
 simp[nameB,this]
theorem name_long (s:ByteArray) (h1:20<s.size):nameB s=false:=by
 have:¬s.size<=20:=by omega
 simp[nameB,this]
theorem name_bad (s:ByteArray) (k:Nat) (hk:k<s.size) (h:okAt s k=false):nameB s=false:=by
 cases e:nameB s with
 |false=>rfl
 |true =>
  simp only[nameB,Bool.and_eq_true,List.all_eq_true,List.mem_range]at e
  have:=e.2.2 k hk
  rw[h]at this
  exact absurd this (by decide)
theorem ok_of (s:ByteArray) (k:Nat) (hlt:k<s.size)
  (h:((97:Int)<=s[k].toNat/\(s[k].toNat:Int)<=122)∨(0<k/\(((48:Int)<=s[k].toNat/\(s[k].toNat:Int)<=57)∨(s[k].toNat:Int)=95))):okAt s k=true:=by
 unfold okAt letB digB
 rw[byteAt_eq s k hlt]
 simp only[Bool.or_eq_true,Bool.and_eq_true,decide_eq_true_eq]
 exact h
theorem no_of (s:ByteArray) (k:Nat) (hlt:k<s.size)
  (h:¬(((97:Int)<=s[k].toNat/\(s[k].toNat:Int)<=122)∨(0<k/\(((48:Int)<=s[k].toNat/\(s[k].toNat:Int)<=57)∨(s[k].toNat:Int)=95)))):nameB s=false:=by
 refine name_bad s k hlt ?_
 cases e:okAt s k with
 |false=>rfl
 |true =>
  exfalso
  apply h
  unfold okAt letB digB at e
  rw[byteAt_eq s k hlt]at e
  simp only[Bool.or_eq_true,Bool.and_eq_true,decide_eq_true_eq]at e
  exact e
theorem ok_more (s:ByteArray) (k:Nat) (hall:∀ j,j<k->okAt s j=true) (h:okAt s k=true):∀ j,j<k+1->okAt s j=true:=by
 intro j hj
 by_cases e:j=k
 ·rw[e];exact h
 ·exact hall j (by omega)
end Go.Proofs.YtpddanmnlkcdpaaGreatDoor.Nm


/- Plain mathematics of the CRC: one bit's step of the register, one byte's, a text's; and how the model's operations on 32 bits say the same. -/
namespace Go.Proofs.YtpddanmnlkcdpaaGreatDoor.Cr
def step (x:Nat):Nat:=if x%2=1 then (x/2) ^^^ 3988292384 else x/2
def stepN:Nat->Nat->Nat
 |0,x=>x
 |k+1,x=>step (stepN k x)
def crc8 (r c:Nat):Nat:=stepN 8 (r ^^^ c)
def crcL (r:Nat) (l:List UInt8):Nat:=l.foldl (fun r b=>crc8 r b.toNat) r
def fin (r:Nat):Nat:=r ^^^ 4294967295
theorem xor_lt {a b:Nat} (ha:a<4294967296) (hb:b<4294967296):a ^^^ b<4294967296 :=
 Nat.xor_lt_two_pow (n:=32) ha hb
theorem step_lt {x:Nat} (h:x<4294967296):step x<4294967296:=by
 unfold step
 split
 ·exact xor_lt (by omega) (by decide)
 ·omega
theorem stepN_lt {x:Nat} (h:x<4294967296) (k:Nat):stepN k x<4294967296:=by
 induction k with
 |zero=>exact h
 |succ k ih=>exact step_lt ih
theorem crc8_lt {r c:Nat} (h:r<4294967296) (hc:c<256):crc8 r c<4294967296 :=
 stepN_lt (xor_lt h (by omega)) 8
theorem crcL_lt (l:List UInt8):∀ r,r<4294967296->crcL r l<4294967296:=by
 induction l with
 |nil=>intro r h;exact h
 |cons b l ih=>intro r h;exact ih _ (crc8_lt h b.toNat_lt)
theorem crcL_snoc (r:Nat) (l:List UInt8) (b:UInt8):crcL r (l++[b])=crc8 (crcL r l) b.toNat:=by
 simp[crcL,List.foldl_append]
theorem take_snoc (s:ByteArray) (k:Nat) (h:k<s.size):s.data.toList.take (k+1)=s.data.toList.take k++[s[k]]:=by
 rw[List.take_succ_eq_append_getElem (by simpa using h)];rfl
theorem crcL_take (r:Nat) (s:ByteArray) (k:Nat) (h:k<s.size):crcL r (s.data.toList.take (k+1))=crc8 (crcL r (s.data.toList.take k)) (s[k]).toNat:=by
 rw[take_snoc s k h,crcL_snoc]
theorem fin_lt {r:Nat} (h:r<4294967296):fin r<4294967296:=xor_lt h (by decide)
def implS (x c k:Nat):Nat:=if (x ^^^ c/2 ^ k)%2=1 then (x/2) ^^^ 3988292384 else x/2
theorem inv_step (x c k:Nat):implS x c k ^^^ (c/2 ^ (k+1))=step (x ^^^ c/2 ^ k):=by
 have e:c/2 ^ (k+1)=(c/2 ^ k)/2:=by rw[Nat.pow_succ,Nat.div_div_eq_div_mul]
 unfold implS step
 rw[e,Nat.xor_div_two]
 split
 ·rw[Nat.xor_assoc,Nat.xor_assoc,Nat.xor_comm 3988292384]
 ·rfl
theorem implS_lt {x:Nat} (c k:Nat) (h:x<4294967296):implS x c k<4294967296:=by
 unfold implS
 split
 ·exact xor_lt (by omega) (by decide)
 ·omega
/-! the walk's own spellings -/
theorem nat_pow_cast (c k:Nat):((c:Int)/2 ^ k)=((c/2 ^ k:Nat):Int):=by
 rw[Int.natCast_ediv,Int.natCast_pow];rfl
theorem turned_eq (x c k:Nat) (hx:x<4294967296) (hc:c<256) :
  bits BinOp.and IntKind.u32 (bits BinOp.xor IntKind.u32 (x:Int) ((c:Int)/2 ^ k%4294967296)) 1=(((x ^^^ c/2 ^ k)%2:Nat):Int):=by
 have h1:c/2 ^ k<4294967296:=Nat.lt_of_le_of_lt (Nat.div_le_self _ _) (by omega)
 have e:((c:Int)/2 ^ k%4294967296)=((c/2 ^ k:Nat):Int):=by
  rw[nat_pow_cast]
  generalize c/2 ^ k=q at h1 ⊢
  omega
 rw[e,u32_xor_nat _ _ hx h1]
 have:=u32_and_nat (x ^^^ c/2 ^ k) 1 (xor_lt hx h1) (by decide)
 rw[nat_mask1]at this
 exact this
theorem half_xor (x:Nat) (hx:x<4294967296):bits BinOp.xor IntKind.u32 ((x:Int)/2) 3988292384=(((x/2) ^^^ 3988292384:Nat):Int):=by
 have e:((x:Int)/2)=((x/2:Nat):Int):=by omega
 rw[e]
 exact u32_xor_nat (x/2) 3988292384 (by omega) (by decide)
theorem low_eq (x:Nat) (hx:x<4294967296):bits BinOp.and IntKind.u32 (x:Int) 1=((x%2:Nat):Int):=by
 have:=u32_and_nat x 1 hx (by decide)
 rw[nat_mask1]at this
 exact this
theorem not_eq (x:Nat) (hx:x<4294967296):bits BinOp.xor IntKind.u32 (x:Int) 4294967295=((fin x:Nat):Int) :=
 u32_xor_nat x 4294967295 hx (by decide)
theorem not_eq' (x:Nat) (hx:x<4294967296):bits BinOp.xor IntKind.u32 IntKind.u32.max (x:Int)=((fin x:Nat):Int):=by
 rw[fin,Nat.xor_comm,show IntKind.u32.max=((4294967295:Nat):Int) from rfl]
 exact u32_xor_nat 4294967295 x (by decide) hx
end Go.Proofs.YtpddanmnlkcdpaaGreatDoor.Cr


namespace Go.Proofs.YtpddanmnlkcdpaaGreatDoor.Cr
open Go.RowKit
theorem ret_int {k:IntKind} {a b:Int} (h:a=b):Ending.returned (.int k a)=.returned (.int k b):=by rw[h]
theorem byte_any (r c:Nat) (w:World) (hr:r<4294967296) (hc:c<256) :
  Calls Tryz.prog 239 #[.int .u32 r,.int .u8 c] w fun e w'=>e=.returned (.int .u32 (crc8 r c:Nat))/\w'=w:=by
 go_enter Tryz.func239,Tryz.ntmps239
 go_wp2
 go_loop [0,5,6,7] (fun a _ _ i=>∃ k x:Nat,k<=8/\i=.int .i64 k/\x<4294967296/\a=.int .u32 x/\x ^^^ c/2 ^ k=stepN k (r ^^^ c)) (fun _ _ _ i=>8-(intOf i).toNat)
 case atStart=>exact⟨0,r,by omega,rfl,hr,rfl,by simp[stepN]⟩
 case round =>
  obtain⟨k,x,hk,rfl,hx,rfl,hinv⟩:=hrel
  have HI:Hid (x ^^^ c/2 ^ k=stepN k (r ^^^ c)):=hinv
  clear hinv
  by_cases hlt:k<8
  ·have ht:=turned_eq x c k hx hc
   by_cases hb:(x ^^^ c/2 ^ k)%2=1
   ·have hB:(bits BinOp.and IntKind.u32 (bits BinOp.xor IntKind.u32 (x:Int) ((c:Int)/2 ^ k%4294967296)) 1==1)=true:=by rw[ht,hb];rfl
    have HS:Hid (implS x c k=(x/2) ^^^ 3988292384):=by unfold Hid implS;rw[if_pos hb]
    clear ht hb
    go_wp2
    go_round
    case rel=>exact⟨k+1,implS x c k,by omega,by go_num,implS_lt c k hx,by rw[HS.out,half_xor x hx],by rw[inv_step,HI.out];rfl⟩
    case measure=>simp[intOf];omega
   ·have hB:(bits BinOp.and IntKind.u32 (bits BinOp.xor IntKind.u32 (x:Int) ((c:Int)/2 ^ k%4294967296)) 1==1)=false:=by rw[ht];simp;omega
    have HS:Hid (implS x c k=x/2):=by unfold Hid implS;rw[if_neg hb]
    clear ht hb
    go_wp2
    go_round
    case rel=>exact⟨k+1,implS x c k,by omega,by go_num,implS_lt c k hx,by rw[HS.out];go_num,by rw[inv_step,HI.out];rfl⟩
    case measure=>simp[intOf];omega
  ·have HX:Hid (x=crc8 r c):=by
    have h:=HI.out
    have e8:k=8:=by omega
    rw[e8,Nat.div_eq_of_lt (by omega),Nat.xor_zero]at h
    exact h
   go_wp2
   go_ret
   exact⟨ret_int (by rw[HX.out]),rfl⟩
theorem more_any (n:Nat) (s:ByteArray) (w:World) (hs:s.size<=8000) (hn:n<4294967296) :
  Calls Tryz.prog 231 #[.int .i64 n,.string s] w fun e w'=>e=.returned (.int .i64 (fin (crcL (fin n) s.data.toList):Nat))/\w'=w:=by
 have hn1:¬(4294967295:Int)<n:=by omega
 have HN:Hid (bits BinOp.xor IntKind.u32 IntKind.u32.max (n:Int)=((fin n:Nat):Int)):=not_eq' n hn
 have HF:Hid (fin n<4294967296):=fin_lt hn
 go_enter Tryz.func231,Tryz.ntmps231
 go_wp2
 go_loop [5,6,23] (fun a _ i=>∃ k x:Nat,k<=s.size/\i=.int .i64 k/\x<4294967296/\a=.int .u32 x/\x=crcL (fin n) (s.data.toList.take k)) (fun _ _ i=>s.size-(intOf i).toNat)
 case atStart=>exact⟨0,fin n,Nat.zero_le _,rfl,HF.out,by rw[HN.out],rfl⟩
 case round =>
  obtain⟨k,x,hk,rfl,hx,rfl,hinv⟩:=hrel
  have HI:Hid (x=crcL (fin n) (s.data.toList.take k)):=hinv
  clear hinv
  by_cases hlt:k<s.size
  ·have hb:s[k].toNat<256:=s[k].toNat_lt
   have HT:Hid (crc8 x s[k].toNat=crcL (fin n) (s.data.toList.take (k+1))):=by
    unfold Hid
    rw[crcL_take _ _ _ hlt,<-HI.out]
   have HL:Hid (crc8 x s[k].toNat<4294967296):=crc8_lt hx hb
   go_wp2_with (go_at_call 239;refine(byte_any _ _ _ hx hb).mono ?_;rintro e w' ⟨rfl,rfl⟩)
   go_round
   case rel=>exact⟨k+1,crc8 x s[k].toNat,by omega,by go_num,HL.out,rfl,HT.out⟩
   case measure=>simp[intOf];omega
  ·have HX:Hid (x=crcL (fin n) s.data.toList):=by
    have h:=HI.out
    rw[List.take_of_length_le (by simp;omega)]at h
    exact h
   have HE:Hid (bits BinOp.xor IntKind.u32 IntKind.u32.max (x:Int)=((fin x:Nat):Int)):=not_eq' x hx
   have HG:Hid (fin x<4294967296):=fin_lt hx
   go_wp2
   go_ret
   have e1:=HE.out
   have e2:=HX.out
   have e3:=HG.out
   rw[e2]at e3
   exact⟨ret_int (by rw[e1,e2];simp[wrap64];omega),rfl⟩
theorem crc_spec (n:Nat) (s:ByteArray) (w:World) (hs:s.size<=8000) (hn:n<4294967296) :
  Calls Tryz.prog 164 #[.int .i64 n,.string s] w fun e w'=>e=.returned (.int .i64 (fin (crcL (fin n) s.data.toList):Nat))/\w'=w:=by
 have HN:Hid (bits BinOp.xor IntKind.u32 (n:Int) 4294967295=((fin n:Nat):Int)):=not_eq n hn
 have HF:Hid (fin n<4294967296):=fin_lt hn
 go_enter Tryz.func164,Tryz.ntmps164
 go_wp2
 go_loop [5,6,7] (fun a i _=>∃ k x:Nat,k<=s.size/\i=.int .i64 k/\x<4294967296/\a=.int .u32 x/\x=crcL (fin n) (s.data.toList.take k)) (fun _ i _=>s.size-(intOf i).toNat)
 case atStart=>exact⟨0,fin n,Nat.zero_le _,rfl,HF.out,by rw[HN.out],rfl⟩
 case round =>
  obtain⟨k,x,hk,rfl,hx,rfl,hinv⟩:=hrel
  have HI:Hid (x=crcL (fin n) (s.data.toList.take k)):=hinv
  clear hinv
  by_cases hlt:k<s.size
  ·have hb:s[k].toNat<256:=s[k].toNat_lt
   have HT:Hid (crc8 x s[k].toNat=crcL (fin n) (s.data.toList.take (k+1))):=by
    unfold Hid
    rw[crcL_take _ _ _ hlt,<-HI.out]
   have HL:Hid (crc8 x s[k].toNat<4294967296):=crc8_lt hx hb
   have HXL:Hid (x ^^^ s[k].toNat<4294967296):=xor_lt hx (by omega)
   have HXE:Hid (bits BinOp.xor IntKind.u32 (x:Int) (s[k].toNat:Int)=((x ^^^ s[k].toNat:Nat):Int)):=u32_xor_nat _ _ hx (by omega)
   go_wp2
   go_loop [5,7] (fun a i=>∃ j y:Nat,j<=8/\i=.int .i64 j/\y<4294967296/\a=.int .u32 y/\y=stepN j (x ^^^ s[k].toNat)) (fun _ i=>8-(intOf i).toNat)
   case atStart=>exact⟨0,x ^^^ s[k].toNat,Nat.zero_le _,rfl,HXL.out,by rw[HXE.out],rfl⟩
   case round =>
    obtain⟨j,y,hj,rfl,hy,rfl,hinv⟩:=hrel
    have HJ:Hid (y=stepN j (x ^^^ s[k].toNat)):=hinv
    clear hinv
    by_cases hjl:j<8
    ·have ht:=low_eq y hy
     by_cases hb:y%2=1
     ·have hB:(bits BinOp.and IntKind.u32 (y:Int) 1==1)=true:=by rw[ht,hb];rfl
      have HS:Hid (step y=(y/2) ^^^ 3988292384):=by unfold Hid step;rw[if_pos hb]
      clear ht hb
      go_wp2
      go_round
      case rel=>exact⟨j+1,step y,by omega,by go_num,step_lt hy,by rw[HS.out,half_xor y hy],by rw[HJ.out];rfl⟩
      case measure=>simp[intOf];omega
     ·have hB:(bits BinOp.and IntKind.u32 (y:Int) 1==1)=false:=by rw[ht];simp;omega
      have HS:Hid (step y=y/2):=by unfold Hid step;rw[if_neg hb]
      clear ht hb
      go_wp2
      go_round
      case rel=>exact⟨j+1,step y,by omega,by go_num,step_lt hy,by rw[HS.out];go_num,by rw[HJ.out];rfl⟩
      case measure=>simp[intOf];omega
    ·have HY:Hid (y=crcL (fin n) (s.data.toList.take (k+1))):=by
      have h:=HJ.out
      have e8:j=8:=by omega
      rw[e8]at h
      exact h.trans HT.out
     go_wp2
     go_round
     case rel=>exact⟨k+1,y,by omega,by go_num,hy,rfl,HY.out⟩
     case measure=>simp[intOf];omega
  ·have HX:Hid (x=crcL (fin n) s.data.toList):=by
    have h:=HI.out
    rw[List.take_of_length_le (by simp;omega)]at h
    exact h
   have HE:Hid (bits BinOp.xor IntKind.u32 (x:Int) 4294967295=((fin x:Nat):Int)):=not_eq x hx
   have HG:Hid (fin x<4294967296):=fin_lt hx
   go_wp2
   go_ret
   have e1:=HE.out
   have e2:=HX.out
   have e3:=HG.out
   rw[e2]at e3
   exact⟨ret_int (by rw[e1,e2];simp[wrap64];omega),rfl⟩
def moreV (c:Int) (s:ByteArray):Int:=if s.size<=8000/\0<=c/\c<=4294967295 then (fin (crcL (fin c.toNat) s.data.toList):Nat) else 0
theorem moreV_yes (n:Nat) (s:ByteArray) (hs:s.size<=8000) (hn:n<4294967296):moreV n s=(fin (crcL (fin n) s.data.toList):Nat):=by
 unfold moreV
 rw[if_pos ⟨hs,by omega,by omega⟩,Int.toNat_natCast]
theorem moreV_no (c:Int) (s:ByteArray) (h:¬(s.size<=8000/\0<=c/\c<=4294967295)):moreV c s=0:=by
 unfold moreV
 rw[if_neg h]
theorem more_impl (c:Int) (s:ByteArray) (w:World) (hs:s.size<=maxLen) :
  Calls Tryz.prog 231 #[.int .i64 c,.string s] w fun e w'=>e=.returned (.int .i64 (moreV c s))/\w'=w:=by
 unfold maxLen at hs
 by_cases h1:8000<s.size
 ·go_enter Tryz.func231,Tryz.ntmps231
  go_wp2
  go_ret
  exact⟨ret_int (moreV_no c s (by omega)).symm,rfl⟩
 ·by_cases h2:c<0
  ·go_enter Tryz.func231,Tryz.ntmps231
   go_wp2
   go_ret
   exact⟨ret_int (moreV_no c s (by omega)).symm,rfl⟩
  ·by_cases h3:4294967295<c
   ·go_enter Tryz.func231,Tryz.ntmps231
    go_wp2
    go_ret
    exact⟨ret_int (moreV_no c s (by omega)).symm,rfl⟩
   ·obtain⟨n,rfl⟩:=Int.eq_ofNat_of_zero_le (show 0<=c from by omega)
    rw[moreV_yes n s (by omega) (by omega)]
    exact more_any n s w (by omega) (by omega)
theorem crc_impl0 (s:ByteArray) (w:World) (hs:s.size<=maxLen) :
  Calls Tryz.prog 216 #[.string s] w fun e w'=>e=.returned (.int .i64 (moreV 0 s))/\w'=w:=by
 go_enter Tryz.func216,Tryz.ntmps216
 go_wp2_with fail
 refine(more_impl 0 s _ hs).mono ?_
 rintro e w' ⟨rfl,rfl⟩
 go_wp2
 go_ret
 exact⟨rfl,rfl⟩
end Go.Proofs.YtpddanmnlkcdpaaGreatDoor.Cr


namespace Go.Proofs.YtpddanmnlkcdpaaGreatDoor.Se
open Go.RowKit
open Nu (bv arr_string ret_strJ hideJ)
def crcOf (s:ByteArray):Nat:=Cr.fin (Cr.crcL (Cr.fin 0) s.data.toList)
def fourL (n:Nat):List UInt8:=[UInt8.ofNat (n%256),UInt8.ofNat (n/256%256),UInt8.ofNat (n/65536%256),UInt8.ofNat (n/16777216)]
def fourS (n:Nat):ByteArray:=⟨(fourL n).toArray⟩
def sealV (t:ByteArray):ByteArray:=if t.size<=7996 then t++fourS (crcOf t) else ⟨#[]⟩
theorem crcOf_lt (s:ByteArray):crcOf s<4294967296:=Cr.fin_lt (Cr.crcL_lt _ _ (Cr.fin_lt (by decide)))
theorem fourS_size (n:Nat):(fourS n).size=4:=rfl
theorem moreV_crc (s:ByteArray) (h:s.size<=8000):Cr.moreV 0 s=(crcOf s:Nat):=Cr.moreV_yes 0 s h (by decide)
theorem bv_of (q:Nat) (x:Int) (hq:(q:Int)=x) (h:q<256):bv (UInt8.ofNat q)=.int .u8 x:=by
 unfold bv
 rw[UInt8.toNat_ofNat',Nat.mod_eq_of_lt (by omega),hq]
theorem four_cells (n:Nat) (h:n<4294967296) :
  (#[.int .u8 ((n:Int)%256),.int .u8 ((n:Int)/256%256),.int .u8 ((n:Int)/65536%256),.int .u8 ((n:Int)/16777216)]:Array Value).toList=(fourL n).map bv:=by
 simp only[fourL,List.map_cons,List.map_nil]
 rw[bv_of (n%256) ((n:Int)%256) (by omega) (by omega),bv_of (n/256%256) ((n:Int)/256%256) (by omega) (by omega),
  bv_of (n/65536%256) ((n:Int)/65536%256) (by omega) (by omega),bv_of (n/16777216) ((n:Int)/16777216) (by omega) (by omega)]
theorem four_conv {P:Program} {src dst e:TypeId} (t:TypeId) (u:World) (n:Nat) (h:n<4294967296) (hs:P.underlying src=some (.slice e)) (he:P.underlying e=some (.int .u8)) (hd:P.underlying dst=some .string) :
  (convert src dst (.slice (some ⟨u.heap.size,0,none⟩) 4 4)).run P (u.alloc (.cells #[.int .u8 ((n:Int)%256),.int .u8 ((n:Int)/256%256),.int .u8 ((n:Int)/65536%256),.int .u8 ((n:Int)/16777216)] t)) =
   .ok (.string (fourS n)) (u.alloc (.cells #[.int .u8 ((n:Int)%256),.int .u8 ((n:Int)/256%256),.int .u8 ((n:Int)/65536%256),.int .u8 ((n:Int)/16777216)] t)) :=
 arr_string (P:=P) (fourL n) 4 (heap_alloc_new u _) (by rw[four_cells n h];rfl) hs he hd
theorem four_any (n:Nat) (w:World) (hn:n<4294967296) :
  Calls Tryz.prog 163 #[.int .i64 n] w fun e w'=>e=.returned (.string (fourS n))/\Below w.heap.size w w':=by
 have hcv:=four_conv (P:=Tryz.prog) 5 w n hn Tryz.underlying168 Tryz.underlying5 Tryz.underlying9
 go_enter Tryz.func163,Tryz.ntmps163
 go_wp2
 go_ret
 exact⟨rfl,(Below.refl _ _).alloc (Nat.le_refl _) _⟩
theorem sum_any (s:ByteArray) (w:World) (hs:s.size<=8000) :
  Calls Tryz.prog 197 #[.string s] w fun e w'=>e=.returned (.string (fourS (crcOf s)))/\Below w.heap.size w w':=by
 have HV:=hideJ (moreV_crc s hs)
 have hn:=crcOf_lt s
 generalize crcOf s=n at HV hn ⊢
 have hcv:=four_conv (P:=Tryz.prog) 269 w n hn Tryz.underlying168 Tryz.underlying5 Tryz.underlying9
 go_enter Tryz.func197,Tryz.ntmps197
 go_wp2_with fail
 refine(Cr.crc_impl0 s _ (by unfold maxLen;omega)).mono ?_
 rw[HV.out]
 rintro e w' ⟨rfl,hw⟩
 subst w'
 go_wp2
 refine wp_loop_rounds 5 ?_
 rw[rounds_succ];go_wp2
 rw[rounds_succ];go_wp2
 rw[rounds_succ];go_wp2
 rw[rounds_succ];go_wp2
 rw[rounds_succ];go_wp2
 go_ret
 exact⟨rfl,(Below.refl _ _).alloc (Nat.le_refl _) _⟩
theorem seal_impl (t:ByteArray) (w:World) (ht:t.size<=maxLen) :
  Calls Tryz.prog 171 #[.string t] w fun e w'=>e=.returned (.string (sealV t))/\Below w.heap.size w w':=by
 unfold maxLen at ht
 by_cases h:7996<t.size
 ·have HP:=hideJ (show sealV t=⟨#[]⟩ by unfold sealV;rw[if_neg (by omega)])
  go_enter Tryz.func171,Tryz.ntmps171
  go_wp2
  go_ret
  exact⟨ret_strJ HP.out.symm,Below.refl _ _⟩
 ·have HP:=hideJ (show sealV t=t++fourS (crcOf t) by unfold sealV;rw[if_pos (by omega)])
  have HF:=hideJ (fourS_size (crcOf t))
  go_enter Tryz.func171,Tryz.ntmps171
  go_wp2_with fail
  refine(sum_any t _ (by omega)).mono ?_
  rintro e w1 ⟨rfl,hb1⟩
  go_wp2_with fail
  refine(Nu.join_any _ _ _ (by rw[HF.out];omega)).mono ?_
  rintro e w2 ⟨rfl,hb2⟩
  go_wp2
  go_ret
  exact⟨ret_strJ HP.out.symm,hb1.trans (hb2.mono hb1.size)⟩
end Go.Proofs.YtpddanmnlkcdpaaGreatDoor.Se


namespace Go.Proofs.YtpddanmnlkcdpaaGreatDoor.Se
open Go.RowKit
open Nu (bv arr_string ret_strJ hideJ)
def outV (t:ByteArray) (at_ code:Int):Value:=.agg #[.string t,.int .i64 at_,.int .i64 code]
def unsealV (s:ByteArray):Value :=
 if 8000<s.size then outV ⟨#[]⟩ 0 2 else if s.size<4 then outV ⟨#[]⟩ 0 4
 else if sealV (s.extract 0 (s.size-4))=s then outV (s.extract 0 (s.size-4)) 0 0 else outV ⟨#[]⟩ 0 5
theorem bcell {W w1:World} (hb:Below W.heap.size W w1):(∀ b o,b<W.heap.size->w1.cell? ⟨b,o,none⟩=W.cell? ⟨b,o,none⟩)/\(∀ b o,b<W.heap.size->w1.frozen? ⟨b,o,none⟩=W.frozen? ⟨b,o,none⟩) :=
 ⟨fun b o h=>hb.cell (p:=⟨b,o,none⟩) h,fun b o h=>hb.frozen (p:=⟨b,o,none⟩) h⟩
theorem below3 {w wa wb:World} {o:Obj} (h1:Below (w.alloc o).heap.size (w.alloc o) wa) (h2:Below (w.alloc o).heap.size wa wb):Below w.heap.size w wb :=
 ((Below.refl w.heap.size w).alloc (Nat.le_refl _) o).trans ((h1.trans h2).mono (by simp))
theorem below2d {w wa:World} {o:Obj} (h1:Below (w.alloc o).drew.heap.size (w.alloc o).drew wa):Below w.heap.size w wa :=
 ((Below.refl w.heap.size w).alloc (Nat.le_refl _) o).drew.trans (h1.mono (by simp))
theorem list_eq_iff (a b:ByteArray):(a.toList==b.toList)=decide (a=b):=by
 by_cases h:a=b
 ·rw[h];simp
 ·rw[decide_eq_false h,beq_eq_false_iff_ne]
  intro e
  apply h
  rw[ByteArray.toList_eq,ByteArray.toList_eq]at e
  have e2:a.data=b.data:=by rw[<-Array.toArray_toList (xs:=a.data),e,Array.toArray_toList]
  cases a;cases b;simpa using e2
theorem unsealV_yes (s t:ByteArray) (h1:¬8000<s.size) (h2:¬s.size<4) (ht:t=s.extract 0 (s.size-4)) (h:sealV t=s):unsealV s=outV t 0 0:=by
 unfold unsealV
 rw[if_neg h1,if_neg h2,<-ht,if_pos h]
theorem unsealV_no (s t:ByteArray) (h1:¬8000<s.size) (h2:¬s.size<4) (ht:t=s.extract 0 (s.size-4)) (h:¬sealV t=s):unsealV s=outV ⟨#[]⟩ 0 5:=by
 unfold unsealV
 rw[if_neg h1,if_neg h2,<-ht,if_neg h]
theorem unseal_impl (s:ByteArray) (w:World) (hs:s.size<=maxLen) :
  Calls Tryz.prog 136 #[.string s] w fun e w'=>e=.returned (unsealV s)/\Below w.heap.size w w':=by
 unfold maxLen at hs
 by_cases h1:8000<s.size
 ·have HV:=hideJ (show unsealV s=outV ⟨#[]⟩ 0 2 by unfold unsealV;rw[if_pos h1])
  go_enter Tryz.func136,Tryz.ntmps136
  go_wp2
  refine bodyPost_ret (v:=outV ⟨#[]⟩ 0 2) (by simp[results,outV,Tryz.results136,go_sem]) rfl ⟨by rw[HV.out],?_⟩
  exact(Below.refl _ _).alloc (Nat.le_refl _) _
 ·by_cases h2:s.size<4
  ·have HV:=hideJ (show unsealV s=outV ⟨#[]⟩ 0 4 by unfold unsealV;rw[if_neg h1,if_pos h2])
   go_enter Tryz.func136,Tryz.ntmps136
   go_wp2
   refine bodyPost_ret (v:=outV ⟨#[]⟩ 0 4) (by simp[results,outV,Tryz.results136,go_sem]) rfl ⟨by rw[HV.out],?_⟩
   exact(Below.refl _ _).alloc (Nat.le_refl _) _
  ·obtain⟨t,ht⟩:∃ t,t=s.extract 0 (s.size-4):=⟨_,rfl⟩
   have hts:t.size<=7996:=by rw[ht];simp;omega
   have HT:=hideJ ht
   by_cases hq:sealV t=s
   ·have HV:=hideJ (unsealV_yes s t h1 h2 ht hq)
    have hB:((sealV t).toList==s.toList)=true:=by rw[list_eq_iff];exact decide_eq_true hq
    clear ht hq
    go_enter Tryz.func136,Tryz.ntmps136
    go_wp2_with fail
    rw[show ((s.size:Int)-4)=((s.size-4:Nat):Int) from by omega]
    refine(Nu.cut_any s 0 (s.size-4) _ (by omega) (by omega) (by omega)).mono ?_
    rw[<-HT.out]
    rintro e wa ⟨rfl,hb1⟩
    obtain⟨hc1,hf1⟩:=bcell hb1
    have hz1:w.heap.size+1<=wa.heap.size:=by have:=hb1.size;simpa using this
    go_wp2_with fail
    refine(seal_impl t _ (by unfold maxLen;omega)).mono ?_
    rintro e wb ⟨rfl,hb2⟩
    obtain⟨hc2,hf2⟩:=bcell hb2
    have hz2:wa.heap.size<=wb.heap.size:=hb2.size
    have hlt:w.heap.size<wa.heap.size:=by omega
    go_wp2
    refine bodyPost_ret (v:=outV t 0 0) (by simp[results,outV,Tryz.results136,go_sem,hc2,hc1,hlt]) rfl ⟨by rw[HV.out],?_⟩
    exact((below3 hb1 (hb2.mono (by simpa using hz1))).setCell (Nat.le_refl _) _ |>.setCell (Nat.le_refl _) _).setCell (Nat.le_refl _) _
   ·have HV:=hideJ (unsealV_no s t h1 h2 ht hq)
    have hB:((sealV t).toList==s.toList)=false:=by rw[list_eq_iff];exact decide_eq_false hq
    clear ht hq
    go_enter Tryz.func136,Tryz.ntmps136
    go_wp2_with fail
    rw[show ((s.size:Int)-4)=((s.size-4:Nat):Int) from by omega]
    refine(Nu.cut_any s 0 (s.size-4) _ (by omega) (by omega) (by omega)).mono ?_
    rw[<-HT.out]
    rintro e wa ⟨rfl,hb1⟩
    obtain⟨hc1,hf1⟩:=bcell hb1
    have hz1:w.heap.size+1<=wa.heap.size:=by have:=hb1.size;simpa using this
    go_wp2_with fail
    refine(seal_impl t _ (by unfold maxLen;omega)).mono ?_
    rintro e wb ⟨rfl,hb2⟩
    obtain⟨hc2,hf2⟩:=bcell hb2
    have hz2:wa.heap.size<=wb.heap.size:=hb2.size
    have hlt:w.heap.size<wa.heap.size:=by omega
    go_wp2
    refine bodyPost_ret (v:=outV ⟨#[]⟩ 0 5) (by simp[results,outV,Tryz.results136,go_sem,hc2,hc1,hlt]) rfl ⟨by rw[HV.out],?_⟩
    exact((below3 hb1 (hb2.mono (by simpa using hz1))).setCell (Nat.le_refl _) _ |>.setCell (Nat.le_refl _) _).setCell (Nat.le_refl _) _
end Go.Proofs.YtpddanmnlkcdpaaGreatDoor.Se

