/- Texts put together: PkCat, JoinWalks, TextWalks, LsBytes. -/
import Derived.Test.YtikiihjabbmkcaaGreatDoorHz23
import Derived.Test.YtikiihjabbmkcaaGreatDoorHz24
import Derived.Test.YtikiihjabbmkcaaGreatDoorHz25
import Derived.Test.YtikiihjabbmkcaaGreatDoorHz15
import Derived.Test.YtikiihjabbmkcaaGreatDoorHz7
import Derived.Test.YtikiihjabbmkcaaGreatDoorHz20
import Derived.Lib.QuietBelow
import Derived.Deep.RegionHeld3
import Derived.Deep.CutRange
set_option maxRecDepth 100000
set_option maxHeartbeats 8000000
namespace Go.Proofs.YtikiihjabbmkcaaGreatDoor.Pk
open Go.RowKit
open St (Strs IsS)
open In (Ints IsI OwnI)
open Nu (putS)
theorem hideP {p:Prop} (h:p):Hid p:=h
def cat (l:List ByteArray):List UInt8:=l.flatMap fun s=>s.data.toList
theorem cat_next (l:List ByteArray) (k:Nat) (h:k<l.length):cat (l.take (k+1))=cat (l.take k)++l[k].data.toList:=by
 rw[List.take_add_one,List.getElem?_eq_getElem h]
 unfold cat
 rw[List.flatMap_append]
 simp
theorem cat_take_le (l:List ByteArray) (k:Nat):(cat (l.take k)).length<=(cat l).length:=by
  have:cat l=cat (l.take k)++cat (l.drop k):=by
   unfold cat
   rw[<-List.flatMap_append,List.take_append_drop]
  rw[this,List.length_append]
  omega
theorem join_any (l:List ByteArray) (a:Option Addr) (cap n:Nat) (w:World) (h:Strs w w.heap.size a l) (hn:l.length=n) (hn2:n<=1048576) (hc:(cat l).length<=1048576) :
  Calls Tryz.prog 229 #[.slice a n cap] w fun e w'=>e=.returned (.string ⟨(cat l).toArray⟩)/\Below w.heap.size w w':=by
 have HN:=hideP hn
 have HS:=hideP h
 have HC:=hideP (fun k=>Nat.le_trans (cat_take_le l k) hc)
 clear h hn hc
 go_enter Tryz.func229,Tryz.ntmps229
 go_wp2_with fail
 go_loopw [8,5] (fun i _ wr=>∃ k:Nat,i=.int .i64 k/\k<=n/\Lib.IsBuilder 298 5 w.heap.size w.heap.size (Lib.byteCells (cat (l.take k))) wr/\Below w.heap.size w wr/\w.heap.size<=wr.heap.size) (fun i _ _=>n-(intOf i).toNat)
 case atStart=>exact⟨0,rfl,Nat.zero_le _,Lib.fresh_isBuilder _ _ w,(Below.refl _ _).alloc (Nat.le_refl _) _,by simp⟩
 case round =>
  obtain⟨k,rfl,hk,hbu,hbel,hbz⟩:=hrel
  have HBU:=hideP hbu
  have GB:=hideP hbel
  clear hbu hbel
  by_cases hlt:k<n
  ·have hkl:k<l.length:=by rw[HN.out];exact hlt
   obtain⟨b,off,rfl,hb,hcl⟩:∃ b off,a=some ⟨b,off,none⟩/\b<w.heap.size/\∀ j (h:j<l.length),wr.cell? ⟨b,off+j,none⟩=some (.string l[j]):=by
    rcases HS.out.below GB.out with h0|h
    ·subst h0
     simp at hkl
    ·exact h
   have ci:=hcl k hkl
   have HNX:=hideP (cat_next l k hkl)
   have h1:=HC.out (k+1)
   rw[HNX.out,List.length_append]at h1
   generalize l[k]=s at ci HNX h1
   have hss:s.data.toList.length=s.size:=by simp
   have HLE:Hid ((Lib.byteCells (cat (l.take k))).length+s.size<=140737488355328):=by
    unfold Hid
    rw[Lib.byteCells_length]
    omega
   have HNC:Hid (Lib.byteCells (cat (l.take k))++Lib.strCells s=Lib.byteCells (cat (l.take (k+1)))):=by
    unfold Hid
    rw[HNX.out,Lib.byteCells_append,Lib.strCells_eq]
   have HWR:=hideP (Sb.write_any w.heap.size w.heap.size _ s wr HBU.out HLE.out hbz)
   clear hcl h1 hss hkl
   go_wp2_with fail
   refine HWR.out.mono ?_
   rintro e w2 ⟨rfl,hbt,hb2⟩
   rw[HNC.out]at hbt
   have HBT:=hideP hbt
   have B2:=hideP (GB.out.trans hb2)
   have z2:=hb2.size
   clear hbt hb2
   go_wp2_with fail
   go_roundw
   case rel=>exact⟨k+1,by go_num,by omega,Or.inr HBT.out,B2.out,by omega⟩
   case measure=>simp[intOf];omega
  ·obtain rfl:k=n:=by omega
   have HE:Hid (cat (l.take k)=cat l):=by
    unfold Hid
    rw[List.take_of_length_le (by rw[HN.out];exact Nat.le_refl _)]
   have HST:=hideP (Sb.string_any w.heap.size w.heap.size _ wr HBU.out hbz)
   rw[HE.out]at HST
   go_wp2_with fail
   refine HST.out.mono ?_
   rintro e w2 ⟨rfl,hb2⟩
   have B2:=hideP (GB.out.trans hb2)
   clear hb2
   go_wp2_with fail
   go_ret
   exact⟨rfl,B2.out⟩
def numsL (l:List Int):List UInt8:=l.flatMap fun x=>(putS x).data.toList
def putsN (l:List Int) (k:Nat):List ByteArray:=(l.take k).map putS++List.replicate (l.length-k) ⟨#[]⟩
theorem putS_size (n:Int):(putS n).size<=10:=by
 show (Nu.numB (Nu.zz n)).toArray.size<=10
 rw[List.size_toArray]
 unfold Nu.numB
 rw[Nu.numL_length]
 have:=Nu.cnt_le 9 (Nu.zz n)
 omega
end Go.Proofs.YtikiihjabbmkcaaGreatDoor.Pk


namespace Go.Proofs.YtikiihjabbmkcaaGreatDoor.Nu
open Go.RowKit
theorem join_some (a b:ByteArray) (w:World) (h:a.size+b.size<=1099511627776) (hb:¬b=ByteArray.empty) :
  Calls Tryz.prog 189 #[.string a,.string b] w fun e w'=>e=.returned (.string (a++b))/\Below w.heap.size w w':=by
 obtain⟨i0,hi,hz0,hz1,hz2⟩:=info_parts Tryz.infoJ5
 go_enter Tryz.func189,Tryz.ntmps189
 go_wp2_with (at_make;refine wpList_make_full _ rfl (.tmp 10) (.tmp 10) 168 rfl w.heap.size 5 i0 (.int .u8 0) 1 Tryz.underlying168 hi hz0 hz1 .i64 .i64 _ _ (a.size+b.size) rfl rfl (by simp) (by simp) (by rw[hz2];omega) (by unfold maxLen;omega) (Nat.le_refl _) ?_;intro w1 hown1 hgrow1;obtain⟨cur,hblk,hlen⟩:=made_block hown1;have hbel1:=(Below.refl w.heap.size w).grown hgrow1 (Nat.le_refl _) (by simp);obtain⟨w2,w3,c1,c2,c3,hb3⟩:=join_facts (P:=Tryz.prog) (ty:=3) (sT:=9) (a:=a) (b:=b) (dp:=some ⟨w.heap.size,a.size,none⟩) (dLen:=b.size) (dCap:=b.size) Tryz.underlying168 Tryz.underlying5 Tryz.underlying9 Tryz.sizeJ5 hblk hlen rfl hbel1 (fun _=>rfl) (Nat.le_refl _);clear hown1 hgrow1 hblk hlen hbel1)
 go_ret
 exact⟨rfl,by assumption⟩
theorem join_none (a:ByteArray) (w:World) (h:a.size<=1099511627776) :
  Calls Tryz.prog 189 #[.string a,.string ByteArray.empty] w fun e w'=>e=.returned (.string (a++ByteArray.empty))/\Below w.heap.size w w':=by
 obtain⟨i0,hi,hz0,hz1,hz2⟩:=info_parts Tryz.infoJ5
 go_enter Tryz.func189,Tryz.ntmps189
 go_wp2_with (at_make;refine wpList_make_full _ rfl (.tmp 10) (.tmp 10) 168 rfl w.heap.size 5 i0 (.int .u8 0) 1 Tryz.underlying168 hi hz0 hz1 .i64 .i64 _ _ a.size rfl rfl (by simp) (by simp) (by rw[hz2];omega) (by unfold maxLen;omega) (Nat.le_refl _) ?_;intro w1 hown1 hgrow1;obtain⟨cur,hblk,hlen⟩:=made_block hown1;have hbel1:=(Below.refl w.heap.size w).grown hgrow1 (Nat.le_refl _) (by simp);obtain⟨w2,w3,c1,c2,c3,hb3⟩:=join_facts (P:=Tryz.prog) (ty:=3) (sT:=9) (a:=a) (b:=ByteArray.empty) (dp:=some ⟨w.heap.size,0,none⟩) (dLen:=0) (dCap:=0) Tryz.underlying168 Tryz.underlying5 Tryz.underlying9 Tryz.sizeJ5 hblk hlen (by simp) hbel1 (by simp) (by simp);clear hown1 hgrow1 hblk hlen hbel1)
 go_ret
 exact⟨ret_strJ (by simp),by assumption⟩
theorem join_any (a b:ByteArray) (w:World) (h:a.size+b.size<=1099511627776) :
  Calls Tryz.prog 189 #[.string a,.string b] w fun e w'=>e=.returned (.string (a++b))/\Below w.heap.size w w':=by
 by_cases hb:b=ByteArray.empty
 ·subst hb
  exact join_none a w (by omega)
 ·exact join_some a b w h hb
end Go.Proofs.YtikiihjabbmkcaaGreatDoor.Nu


namespace Go.Proofs.YtikiihjabbmkcaaGreatDoor.Nu
open Go.RowKit
def putT (t:ByteArray):ByteArray:=if t.size<=8000 then putS (t.size:Int)++t else ⟨#[]⟩
theorem putS_size (n:Int):(putS n).size<=10:=by
 have:=(numB_length (zz n)).1
 simpa [putS,ByteArray.size] using this
theorem text_spec (t:ByteArray) (w:World) (ht:t.size<=maxLen) :
  Calls Tryz.prog 201 #[.string t] w fun e w'=>e=.returned (.string (putT t))/\Below w.heap.size w w':=by
 unfold maxLen at ht
 by_cases h:8000<t.size
 ·have HP:=hide (show putT t=⟨#[]⟩ by unfold putT;rw[if_neg (by omega)])
  go_enter Tryz.func201,Tryz.ntmps201
  go_wp2
  go_ret
  exact⟨ret_str HP.out.symm,Below.refl _ _⟩
 ·have HP:=hide (show putT t=putS (t.size:Int)++t by unfold putT;rw[if_pos (by omega)])
  have hps:=putS_size (t.size:Int)
  go_enter Tryz.func201,Tryz.ntmps201
  go_wp2_with fail
  refine(put_spec _ _ (by omega) (by omega)).mono ?_
  rintro e w1 ⟨rfl,hb1⟩
  go_wp2
  go_ret
  exact⟨ret_str HP.out.symm,hb1⟩
theorem text_impl (t:ByteArray) (w:World) (ht:t.size<=maxLen) :
  Calls Tryz.prog 245 #[.string t] w fun e w'=>e=.returned (.string (putT t))/\Below w.heap.size w w':=by
 unfold maxLen at ht
 by_cases h:8000<t.size
 ·have HP:=hide (show putT t=⟨#[]⟩ by unfold putT;rw[if_neg (by omega)])
  go_enter Tryz.func245,Tryz.ntmps245
  go_wp2
  go_ret
  exact⟨ret_str HP.out.symm,Below.refl _ _⟩
 ·have HP:=hide (show putT t=putS (t.size:Int)++t by unfold putT;rw[if_pos (by omega)])
  have hps:=putS_size (t.size:Int)
  go_enter Tryz.func245,Tryz.ntmps245
  go_wp2_with fail
  refine(put_impl _ _ (by omega) (by omega)).mono ?_
  rintro e w1 ⟨rfl,hb1⟩
  go_wp2_with fail
  refine(join_any _ _ _ (by omega)).mono ?_
  rintro e w2 ⟨rfl,hb2⟩
  go_wp2
  go_ret
  exact⟨ret_str HP.out.symm,hb1.trans (hb2.mono hb1.size)⟩
end Go.Proofs.YtikiihjabbmkcaaGreatDoor.Nu


/- The bytes of a List: what both sides answer. -/
namespace Go.Proofs.YtikiihjabbmkcaaGreatDoor.Ls
open Go.RowKit
open Pk (cat numsL join_any)
open St (Strs)
open In (Ints)
open Nu (putS putT put_spec text_spec text_impl putS_size)
def bytesA (z b:Int) (r:ByteArray):ByteArray:=putS z++putS b++putT r
def bytesL (z b:Int) (r:ByteArray):ByteArray:=if rightB z b r=true then bytesA z b r else ⟨#[]⟩
theorem mixed:Tryz.prog.follows .mixedOrders=true:=by kernel_rfl
end Go.Proofs.YtikiihjabbmkcaaGreatDoor.Ls

