/- Texts put together: NumPlain. -/
import Derived.Laws.BitsAllLaws
import Derived.Laws.BytesArg
import Derived.Laws.IdiomStrings
import Derived.Laws.AppendOwn
import Derived.Below
/- Plain mathematics of numbers as bytes: the folded number, its bytes seven bits each, and how many there are. -/
namespace Go.Proofs.YtpddanmnlkcdpaaGreatDoor.Nu
open Go.RowKit
def zz (n:Int):Nat:=if n<0 then (-(2*n)-1).toNat else (2*n).toNat
def numH (u k:Nat):List UInt8:=(List.range k).map fun j=>UInt8.ofNat (u/128 ^ j%128+128)
def numL (u k:Nat):List UInt8:=numH u k++[UInt8.ofNat (u/128 ^ k)]
def cnt:Nat->Nat->Nat
 |0,_=>0
 |f+1,u=>if u<128 then 0 else cnt f (u/128)+1
def numB (u:Nat):List UInt8:=numL u (cnt 9 u)
def putS (n:Int):ByteArray:=⟨(numB (zz n)).toArray⟩
def bv (b:UInt8):Value:=.int .u8 (b.toNat:Int)
theorem own_string {P:Program} {w:World} {base e src dst:TypeId} {v:Value} (l:List UInt8) (h:w.ownsRow base e 1 v l.length (l.map bv))
  (hs:P.underlying src=some (.slice e)) (he:P.underlying e=some (.int .u8)) (hd:P.underlying dst=some .string) :
  (convert src dst v).run P w=.ok (.string ⟨l.toArray⟩) w:=by
 obtain⟨_,h⟩:=h
 rcases h with⟨rfl,hn⟩|⟨g,cap,cur,rfl,_,hb,hle,_,hsz,ht⟩
 ·have:l=[]:=List.length_eq_zero_iff.1 hn
  subst this
  exact run_convert_bytes_nil w src e hs he 0 0 dst hd
 ·refine run_convert_bytes_back w src dst e ⟨g,0,none⟩ cap l hs he hd ?_
  intro j hj
  have e1:(⟨g,0,none⟩:Addr).add j=⟨g,j,none⟩:=by unfold Addr.add;split<;>simp_all
  rw[e1]
  have e2:w.cell? ⟨g,j,none⟩=cur[j]?:=by simp[World.cell?,hb]
  rw[e2]
  have e3:=congrArg (fun l:List Value=>l[j]?) ht
  simp only[Nat.mul_one]at e3
  rw[List.getElem?_take_of_lt hj]at e3
  rw[<-Array.getElem?_toList,e3]
  simp[List.getElem?_map,List.getElem?_eq_getElem hj,bv]
theorem app_below {B:Nat} {e:TypeId} {w wr w1:World} {v:Value} {n size:Nat} {xs:List Value} {o:Obj} (hbel:Below B w wr) (hB:B<=w.heap.size)
  (hown:wr.ownsRow B e size v n xs) (hgrow:(wr.alloc o).grownBy w1 v.ownBlock):Below B w w1:=by
 have hs:B<=wr.heap.size:=Nat.le_trans hB hbel.size
 refine(hbel.alloc hs o).grown hgrow (by simp;omega) ?_
 intro k hk
 exact(hown.lt k hk).1
theorem arr_string {P:Program} {w:World} {g e t src dst:TypeId} {cs:Array Value} (l:List UInt8) (cap:Nat) (hb:w.heap[g]? = some (.cells cs t (0,0))) (hl:cs.toList.take l.length=l.map bv)
  (hs:P.underlying src=some (.slice e)) (he:P.underlying e=some (.int .u8)) (hd:P.underlying dst=some .string) :
  (convert src dst (.slice (some ⟨g,0,none⟩) l.length cap)).run P w=.ok (.string ⟨l.toArray⟩) w:=by
 refine run_convert_bytes_back w src dst e ⟨g,0,none⟩ cap l hs he hd ?_
 intro j hj
 have e1:(⟨g,0,none⟩:Addr).add j=⟨g,j,none⟩:=by unfold Addr.add;split<;>simp_all
 rw[e1]
 have e2:w.cell? ⟨g,j,none⟩=cs[j]?:=by simp[World.cell?,hb]
 rw[e2]
 have e3:=congrArg (fun l:List Value=>l[j]?) hl
 rw[List.getElem?_take_of_lt hj]at e3
 rw[<-Array.getElem?_toList,e3]
 simp[List.getElem?_map,List.getElem?_eq_getElem hj,bv]
end Go.Proofs.YtpddanmnlkcdpaaGreatDoor.Nu

