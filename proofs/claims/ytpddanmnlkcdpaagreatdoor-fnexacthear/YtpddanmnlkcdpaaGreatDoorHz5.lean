/- Texts put together: NumPlain. -/
import Derived.Laws.BitsAllLaws
import Derived.Laws.BytesArg
import Derived.Laws.IdiomStrings
import Derived.Laws.AppendOwn
import Derived.Below
/- Plain mathematics of numbers as bytes: the folded number, its bytes seven bits each, and how many there are. -/
namespace Go.Proofs.YtpddanmnlkcdpaaGreatDoor.Nu
open Go.RowKit
def zz (n:Int):Nat:=if n<0 then (-(2*n)-1).toNat else (2*n).toNat
theorem zz_lt (n:Int) (h1:-9223372036854775808<=n) (h2:n<=9223372036854775807):zz n<18446744073709551616:=by
 unfold zz;split<;>omega
theorem zz_neg (n:Int) (h:n<0):(zz n:Int)=2 * -(n+1)+1:=by unfold zz;rw[if_pos h];omega
theorem zz_pos (n:Int) (h:¬n<0):(zz n:Int)=2*n:=by unfold zz;rw[if_neg h];omega
theorem zz_pos' (n:Int) (h:¬n<0):(zz n:Int)=n*2:=by rw[zz_pos n h];omega
theorem not64 (x:Nat) (h:x<18446744073709551616):18446744073709551615 ^^^ x=18446744073709551615-x:=by
 have e:=congrArg BitVec.toNat (BitVec.allOnes_xor (x:=BitVec.ofNat 64 x))
 rw[BitVec.toNat_xor,BitVec.toNat_not,BitVec.toNat_allOnes,BitVec.toNat_ofNat,Nat.mod_eq_of_lt (by omega)]at e
 exact e
theorem fold_not (n:Int) (h1:-9223372036854775808<=n) (h:n<0) :
  bits BinOp.xor IntKind.u64 IntKind.u64.max (IntKind.u64.wrap (IntKind.u64.wrap n*2))=(zz n:Int):=by
 have e:IntKind.u64.wrap (IntKind.u64.wrap n*2)=((2*n+18446744073709551616).toNat:Int):=by
  rw[IntKind.wrap_u64,IntKind.wrap_u64];omega
 rw[e,show IntKind.u64.max=((18446744073709551615:Nat):Int) from rfl,u64_xor_nat _ _ (by decide) (by omega),not64 _ (by omega),zz_neg n h]
 omega
def numH (u k:Nat):List UInt8:=(List.range k).map fun j=>UInt8.ofNat (u/128 ^ j%128+128)
def numL (u k:Nat):List UInt8:=numH u k++[UInt8.ofNat (u/128 ^ k)]
def cnt:Nat->Nat->Nat
 |0,_=>0
 |f+1,u=>if u<128 then 0 else cnt f (u/128)+1
def numB (u:Nat):List UInt8:=numL u (cnt 9 u)
def putS (n:Int):ByteArray:=⟨(numB (zz n)).toArray⟩
theorem numH_succ (u k:Nat):numH u (k+1)=numH u k++[UInt8.ofNat (u/128 ^ k%128+128)]:=by
 simp[numH,List.range_succ]
theorem numH_length (u k:Nat):(numH u k).length=k:=by simp[numH]
theorem numL_length (u k:Nat):(numL u k).length=k+1:=by simp[numL,numH_length]
theorem pow_div (u k:Nat):u/128 ^ (k+1)=u/128 ^ k/128:=by rw[Nat.pow_succ,Nat.div_div_eq_div_mul]
theorem div_pow (u k:Nat):u/128 ^ (k+1)=u/128/128 ^ k:=by rw[Nat.pow_succ,Nat.mul_comm,Nat.div_div_eq_div_mul]
theorem cnt_of (f : Nat) : ∀ u k, k ≤ f → (∀ j, j < k → 128 ≤ u / 128 ^ j) → u / 128 ^ k < 128 → cnt f u = k := by
  induction f with
  | zero => intro u k hk _ _; have : k = 0 := by omega
            rw [this]; rfl
  | succ f ih =>
    intro u k hk hall hlast
    match k with
    | 0 =>
      simp at hlast
      unfold cnt; rw [if_pos hlast]
    | k + 1 =>
      have h0 : 128 ≤ u := by simpa using hall 0 (by omega)
      unfold cnt
      rw [if_neg (by omega), ih (u / 128) k (by omega) (fun j hj => by have := hall (j + 1) (by omega); rw [div_pow] at this; exact this) (by rw [← div_pow]; exact hlast)]
theorem cnt_le (f:Nat):∀ u,cnt f u<=f:=by
 induction f with
 |zero=>intro u;exact Nat.le_refl 0
 |succ f ih =>
  intro u
  unfold cnt
  split
  ·omega
  ·have:=ih (u/128);omega
theorem few (u k:Nat) (hu:u<18446744073709551616) (h:128<=u/128 ^ k):k<9:=by
 rcases Nat.lt_or_ge k 9 with h9|h9
 ·exact h9
 ·exfalso
  have e:128 ^ 9<=128 ^ k:=Nat.pow_le_pow_right (by decide) h9
  have:u/128 ^ k<=u/128 ^ 9:=Nat.div_le_div_left e (by decide)
  have h2:(128:Nat) ^ 9=9223372036854775808:=by decide
  rw[h2]at this
  omega
theorem numB_of (u k:Nat) (hk:k<=9) (hall:∀ j,j<k->128<=u/128 ^ j) (hlast:u/128 ^ k<128):numB u=numL u k:=by
 unfold numB;rw[cnt_of 9 u k hk hall hlast]
theorem numB_length (u:Nat):(numB u).length<=10/\1<=(numB u).length:=by
 have:=cnt_le 9 u
 unfold numB;rw[numL_length];omega
theorem all_more (u k:Nat) (hall:∀ j,j<k->128<=u/128 ^ j) (h:128<=u/128 ^ k):∀ j,j<k+1->128<=u/128 ^ j:=by
 intro j hj
 by_cases e:j=k
 ·rw[e];exact h
 ·exact hall j (by omega)
def bv (b:UInt8):Value:=.int .u8 (b.toNat:Int)
theorem own_string {P:Program} {w:World} {base e src dst:TypeId} {v:Value} (l:List UInt8) (h:w.ownsRow base e 1 v l.length (l.map bv))
  (hs:P.underlying src=some (.slice e)) (he:P.underlying e=some (.int .u8)) (hd:P.underlying dst=some .string) :
  (convert src dst v).run P w=.ok (.string ⟨l.toArray⟩) w:=by
 obtain⟨_,h⟩:=h
 rcases h with⟨rfl,hn⟩|⟨g,cap,cur,rfl,_,hb,hle,_,hsz,ht⟩
 ·have:l=[]:=List.length_eq_zero_iff.1 hn
  subst this
  exact run_convert_bytes_nil w src e hs he 0 0 dst hd
 ·refine run_convert_bytes_back w src dst e ⟨g,0,none⟩ cap l hs he hd ?_
  intro j hj
  have e1:(⟨g,0,none⟩:Addr).add j=⟨g,j,none⟩:=by unfold Addr.add;split<;>simp_all
  rw[e1]
  have e2:w.cell? ⟨g,j,none⟩=cur[j]?:=by simp[World.cell?,hb]
  rw[e2]
  have e3:=congrArg (fun l:List Value=>l[j]?) ht
  simp only[Nat.mul_one]at e3
  rw[List.getElem?_take_of_lt hj]at e3
  rw[<-Array.getElem?_toList,e3]
  simp[List.getElem?_map,List.getElem?_eq_getElem hj,bv]
theorem bv_hi (q:Nat):bv (UInt8.ofNat (q%128+128))=.int .u8 ((q:Int)%128+128):=by
 unfold bv
 rw[UInt8.toNat_ofNat',Nat.mod_eq_of_lt (by omega)]
 congr 1
theorem bv_lo (q:Nat) (h:q<128):bv (UInt8.ofNat q)=.int .u8 (q:Int):=by
 unfold bv
 rw[UInt8.toNat_ofNat',Nat.mod_eq_of_lt (by omega)]
theorem app_below {B:Nat} {e:TypeId} {w wr w1:World} {v:Value} {n size:Nat} {xs:List Value} {o:Obj} (hbel:Below B w wr) (hB:B<=w.heap.size)
  (hown:wr.ownsRow B e size v n xs) (hgrow:(wr.alloc o).grownBy w1 v.ownBlock):Below B w w1:=by
 have hs:B<=wr.heap.size:=Nat.le_trans hB hbel.size
 refine(hbel.alloc hs o).grown hgrow (by simp;omega) ?_
 intro k hk
 exact(hown.lt k hk).1
theorem hi_row {w1:World} {B k U q:Nat} {e:TypeId} {v':Value} (hq:q=U/128 ^ k)
  (h:w1.ownsRow B e 1 v' (k+1) ((numH U k).map bv++[.int .u8 ((q:Int)%128+128)])):w1.ownsRow B e 1 v' (k+1) ((numH U (k+1)).map bv):=by
 rw[numH_succ,List.map_append,List.map_singleton,<-hq,bv_hi]
 exact h
theorem lo_row {w1:World} {B k U q:Nat} {e:TypeId} {v':Value} (hq:q=U/128 ^ k) (hlo:q<128)
  (h:w1.ownsRow B e 1 v' (k+1) ((numH U k).map bv++[.int .u8 (q:Int)])):w1.ownsRow B e 1 v' (numL U k).length ((numL U k).map bv):=by
 rw[numL_length]
 unfold numL
 rw[List.map_append,List.map_singleton,<-hq,bv_lo q hlo]
 exact h
theorem or_hi (q:Nat) (h:q<=18446744073709551615):bits BinOp.or IntKind.u8 (IntKind.u8.wrap (bits BinOp.and IntKind.u64 (q:Int) 127)) 128=(q:Int)%128+128:=by
 have e1:bits BinOp.and IntKind.u64 (q:Int) 127=((q%128:Nat):Int):=by
  have:=u64_and_nat q 127 (by omega) (by decide)
  rw[nat_mask7]at this
  exact this
 have e2:IntKind.u8.wrap ((q%128:Nat):Int)=((q%128:Nat):Int):=by rw[IntKind.wrap_u8'];omega
 rw[e1,e2]
 have e3:=u8_or_nat (q%128) 128 (by omega) (by decide)
 rw[Nat.or_comm,nat_join 7 128 (q%128) (by decide) (by omega)]at e3
 refine Eq.trans e3 ?_
 omega
theorem take_set {cs:Array Value} {l:List Value} {k:Nat} (hk:k<cs.size) (h:cs.toList.take k=l) (v:Value):(cs.setIfInBounds k v).toList.take (k+1)=l++[v]:=by
 subst h
 rw[Array.toList_setIfInBounds,List.take_succ_eq_append_getElem (by simpa using hk)]
 congr 1
 ·rw[List.take_set_of_le (Nat.le_refl k)]
 ·simp
theorem arr_string {P:Program} {w:World} {g e t src dst:TypeId} {cs:Array Value} (l:List UInt8) (cap:Nat) (hb:w.heap[g]? = some (.cells cs t (0,0))) (hl:cs.toList.take l.length=l.map bv)
  (hs:P.underlying src=some (.slice e)) (he:P.underlying e=some (.int .u8)) (hd:P.underlying dst=some .string) :
  (convert src dst (.slice (some ⟨g,0,none⟩) l.length cap)).run P w=.ok (.string ⟨l.toArray⟩) w:=by
 refine run_convert_bytes_back w src dst e ⟨g,0,none⟩ cap l hs he hd ?_
 intro j hj
 have e1:(⟨g,0,none⟩:Addr).add j=⟨g,j,none⟩:=by unfold Addr.add;split<;>simp_all
 rw[e1]
 have e2:w.cell? ⟨g,j,none⟩=cs[j]?:=by simp[World.cell?,hb]
 rw[e2]
 have e3:=congrArg (fun l:List Value=>l[j]?) hl
 rw[List.getElem?_take_of_lt hj]at e3
 rw[<-Array.getElem?_toList,e3]
 simp[List.getElem?_map,List.getElem?_eq_getElem hj,bv]
theorem or_hi' (q:Nat) (h:q<=18446744073709551615):bits BinOp.or IntKind.u8 (bits BinOp.and IntKind.u64 (q:Int) 127%256) 128=(q:Int)%128+128:=by
 have:=or_hi q h
 rw[IntKind.wrap_u8']at this
 exact this
theorem impl_hi {wr:World} {B k U q:Nat} {cs:Array Value} {t:TypeId} (hq:q=U/128 ^ k) (hqb:q<=18446744073709551615) (hblk:wr.heap[B]? = some (.cells cs t (0,0))) (hsz:cs.size=10) (hk:k<9)
  (htk:cs.toList.take k=(numH U k).map bv) :
  ∃ cs',(wr.setCell ⟨B,k,none⟩ (.int .u8 (bits BinOp.or IntKind.u8 (bits BinOp.and IntKind.u64 (q:Int) 127%256) 128))).heap[B]? = some (.cells cs' t (0,0))/\cs'.size=10/\cs'.toList.take (k+1)=(numH U (k+1)).map bv:=by
 rw[or_hi' q hqb]
 refine⟨_,heap_setCell_same wr B k cs t _ hblk,by simpa using hsz,?_⟩
 rw[take_set (by omega) htk,numH_succ,List.map_append,List.map_singleton,<-hq,bv_hi]
theorem impl_lo {wr:World} {B k U q:Nat} {cs:Array Value} {t:TypeId} (hq:q=U/128 ^ k) (hlo:q<128) (hblk:wr.heap[B]? = some (.cells cs t (0,0))) (hsz:cs.size=10) (hk:k<=9)
  (htk:cs.toList.take k=(numH U k).map bv) :
  ∃ cs',(wr.setCell ⟨B,k,none⟩ (.int .u8 (q:Int))).heap[B]? = some (.cells cs' t (0,0))/\cs'.toList.take (numL U k).length=(numL U k).map bv:=by
 refine⟨_,heap_setCell_same wr B k cs t _ hblk,?_⟩
 rw[numL_length,take_set (by omega) htk]
 unfold numL
 rw[List.map_append,List.map_singleton,<-hq,bv_lo q hlo]
end Go.Proofs.YtpddanmnlkcdpaaGreatDoor.Nu

