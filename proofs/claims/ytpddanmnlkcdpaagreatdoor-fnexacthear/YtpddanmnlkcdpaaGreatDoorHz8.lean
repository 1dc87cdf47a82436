/- Texts put together: ShaBytes. -/
import Derived.Test.YtpddanmnlkcdpaaGreatDoorHz2
import Derived.Test.YtpddanmnlkcdpaaGreatDoorHz7
/- Rows of bytes in memory and texts, told by a plain function from places to numbers. -/
namespace Go.Proofs.YtpddanmnlkcdpaaGreatDoor.Sh
open Go.RowKit
open Nu (bv arr_string)
def bt (t:ByteArray) (j:Nat):Nat:=(t.data.toList.getD j 0).toNat
theorem bt_lt (t:ByteArray) (j:Nat):bt t j<256:=(t.data.toList.getD j 0).toNat_lt
def strF (n:Nat) (f:Nat->Nat):ByteArray:=⟨((List.range n).map fun j=>UInt8.ofNat (f j)).toArray⟩
theorem strF_size (n:Nat) (f:Nat->Nat):(strF n f).size=n:=by
 show ((List.range n).map fun j=>UInt8.ofNat (f j)).toArray.size=n
 simp
theorem bt_strF (n:Nat) (f:Nat->Nat) (j:Nat) (hj:j<n) (h:f j<256):bt (strF n f) j=f j:=by
 unfold bt strF
 simp[List.getD,hj]
 omega
theorem strF_congr (n:Nat) (f g:Nat->Nat) (h:∀ j,j<n->f j=g j):strF n f=strF n g:=by
 unfold strF
 congr 2
 apply List.map_congr_left
 intro j hj
 rw[h j (List.mem_range.1 hj)]
theorem bt_get (t:ByteArray) (j:Nat) (h:j<t.size):(t[j]).toNat=bt t j:=by
 have h':j<t.data.toList.length:=by simpa using h
 unfold bt
 rw[List.getD_eq_getElem?_getD,List.getElem?_eq_getElem h']
 rfl
theorem made_zeros (n:Nat):(madeCells (Value.int .u8 0).cells (n*1)).toList=(rowF .u8 n (fun _=>0)).toList:=by
 apply List.ext_getElem?
 intro i
 by_cases hi:i<n
 ·simp[madeCells,rowF,hi,Value.cells,Nat.mod_one]
 ·simp[madeCells,rowF,hi,Value.cells]
theorem made_row {w:World} {base e g n:Nat} (h:w.ownsRow base e 1 (.slice (some ⟨g,0,none⟩) n n) n (madeCells (Value.int .u8 0).cells (n*1)).toList):IsB w g e .u8 n (fun _=>0):=by
 obtain⟨_,h⟩:=h
 rcases h with⟨h,_⟩|⟨g',cap,cur,hv,_,hb,_,_,hsz,htk⟩
 ·simp at h
 ·simp at hv
  obtain⟨rfl,rfl⟩:=hv
  rw[made_zeros,List.take_of_length_le (by simp[hsz])]at htk
  have:cur=rowF .u8 n (fun _=>0):=by simpa using htk
  rw[this]at hb
  exact hb
theorem splice_row (n:Nat) (f:Nat->Int) (t:ByteArray) (h:t.size<=n) :
  (splice (rowF .u8 n f).toList 0 (t.data.toList.map bv)).toArray=rowF .u8 n (fun j=>if j<t.size then (bt t j:Nat) else f j):=by
 apply Array.ext_getElem?
 intro i
 by_cases hi:i<n
 ·rw[rowF_get _ _ _ _ hi]
  simp only[splice,List.take_zero,List.nil_append,List.getElem?_toArray,List.length_map,Nat.zero_add]
  by_cases ht:i<t.size
  ·have h':i<t.data.toList.length:=by simpa using ht
   rw[List.getElem?_append_left (by simpa using ht),if_pos ht]
   simp[bv,bt,List.getD,ht]
  ·rw[List.getElem?_append_right (by simpa using Nat.le_of_not_lt ht),if_neg ht,List.getElem?_drop]
   simp only[List.length_map,Array.length_toList]
   have e:t.data.size+(i-t.data.size)=i:=by
    have:t.data.size=t.size:=rfl
    omega
   rw[e]
   simp[rowF,hi]
 ·have h1:(rowF .u8 n (fun j=>if j<t.size then ((bt t j:Nat):Int) else f j))[i]? = none:=by simp[rowF,hi]
  rw[h1]
  have hl:(splice (rowF .u8 n f).toList 0 (t.data.toList.map bv)).length=n:=by
   rw[length_splice _ _ _ (by simp[rowF_size];exact h)]
   simp[rowF_size]
  simp only[List.getElem?_toArray]
  exact List.getElem?_eq_none (by omega)
theorem IsB.str {P:Program} {w:World} {g:Nat} {t src dst e:TypeId} {n:Nat} {f:Nat->Nat} (h:IsB w g t .u8 n (fun j=>(f j:Nat))) (m cap:Nat) (hm:m<=n) (hf:∀ j,j<m->f j<256)
  (hs:P.underlying src=some (.slice e)) (he:P.underlying e=some (.int .u8)) (hd:P.underlying dst=some .string) :
  (convert src dst (.slice (some ⟨g,0,none⟩) m cap)).run P w=.ok (.string (strF m f)) w:=by
 have hl:((List.range m).map fun j=>UInt8.ofNat (f j)).length=m:=by simp
 have:=arr_string (P:=P) (src:=src) (dst:=dst) ((List.range m).map fun j=>UInt8.ofNat (f j)) cap h (by
  rw[hl]
  apply List.ext_getElem?
  intro i
  by_cases hi:i<m
  ·have h3:=hf i hi
   simp[rowF,hi,Nat.lt_of_lt_of_le hi hm,bv]
   omega
  ·simp[hi,List.getElem?_take]) hs he hd
 rw[hl]at this
 exact this
end Go.Proofs.YtpddanmnlkcdpaaGreatDoor.Sh

