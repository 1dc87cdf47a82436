/- Texts put together: ShaTop, NodeTop, TreePlain, TreeHalf, OnesPlain. -/
import Derived.Test.YtikiihjabbmkcaaGreatDoorBz9
import Derived.Test.YtikiihjabbmkcaaGreatDoorBz36
import Derived.Test.YtikiihjabbmkcaaGreatDoorBz26
import Derived.Test.YtikiihjabbmkcaaGreatDoorBz13
import Derived.Laws.BitsAllLaws
/- What both Digest answer, and the law on it. -/
namespace Go.Proofs.YtikiihjabbmkcaaGreatDoor.Sh
open Go.RowKit
theorem all_any (t:ByteArray) (w:World) (ht:t.size<=1048576) :
  Calls Tryz.prog 152 #[.string t] w fun e w'=>e=.returned (.string (sha t))/\Below w.heap.size w w' :=
 all_of (fun s gs c t w h1 h2 h3 h4=>block_any s gs c t w h1 h2 h3 h4) t w ht
def digestV (t:ByteArray):ByteArray:=if t.size<=8000 then sha t else ⟨#[]⟩
theorem digest_impl (t:ByteArray) (w:World) (ht:t.size<=maxLen) (hV:Vars w) :
  Calls Tryz.prog 193 #[.string t] w fun e w'=>e=.returned (.string (digestV t))/\Below w.heap.size w w':=by
 unfold maxLen at ht
 have HV:=hideS hV
 clear hV
 by_cases h:8000<t.size
 ·have HP:=hideS (show digestV t=⟨#[]⟩ by unfold digestV;rw[if_neg (by omega)])
  go_enter Tryz.func193,Tryz.ntmps193
  go_wp2_with fail
  go_ret
  exact⟨Nu.ret_strJ HP.out.symm,Below.refl _ _⟩
 ·have HP:=hideS (show digestV t=sha t by unfold digestV;rw[if_pos (by omega)])
  go_enter Tryz.func193,Tryz.ntmps193
  go_wp2_with fail
  refine(digestOf_any t w (by omega) HV.out).mono ?_
  rintro e w1 ⟨rfl,hb1⟩
  go_wp2_with fail
  go_ret
  exact⟨Nu.ret_strJ HP.out.symm,hb1⟩
end Go.Proofs.YtikiihjabbmkcaaGreatDoor.Sh


/- What both LeafHash and both NodeHash answer. -/
namespace Go.Proofs.YtikiihjabbmkcaaGreatDoor.Sh
open Go.RowKit
theorem below3 {w w1 w2 w3:World} (h1:Below w.heap.size w w1) (h2:Below w1.heap.size w1 w2) (h3:Below w2.heap.size w2 w3):Below w.heap.size w w3 :=
 have a:=h1.trans (h2.mono h1.size)
 a.trans (h3.mono a.size)
def leafV (t:ByteArray):ByteArray:=sha (⟨#[0]⟩++t)
def nodeV (a b:ByteArray):ByteArray:=sha (⟨#[1]⟩++a++b)
theorem nodeV_size (a b:ByteArray):(nodeV a b).size=32:=sha_size _
theorem mark0_size (t:ByteArray):((⟨#[0]⟩:ByteArray)++t).size=1+t.size:=by
 rw[ByteArray.size_append]
 rfl
theorem mark1_size (t:ByteArray):((⟨#[1]⟩:ByteArray)++t).size=1+t.size:=by
 rw[ByteArray.size_append]
 rfl
theorem l03Leaf_any (t:ByteArray) (w:World) (ht:t.size<=8000) :
  Calls Tryz.prog 124 #[.string t] w fun e w'=>e=.returned (.string (leafV t))/\Below w.heap.size w w':=by
 go_enter Tryz.func124,Tryz.ntmps124
 go_wp2_with fail
 refine(all_any _ w (by rw[mark0_size];omega)).mono ?_
 rintro e w1 ⟨rfl,hb1⟩
 go_wp2_with fail
 go_ret
 exact⟨rfl,hb1⟩
theorem l03Node_any (a b:ByteArray) (w:World) (ha:a.size<=8000) (hb:b.size<=8000) :
  Calls Tryz.prog 151 #[.string a,.string b] w fun e w'=>e=.returned (.string (nodeV a b))/\Below w.heap.size w w':=by
 go_enter Tryz.func151,Tryz.ntmps151
 go_wp2_with fail
 refine(all_any _ w (by rw[ByteArray.size_append,mark1_size];omega)).mono ?_
 rintro e w1 ⟨rfl,hb1⟩
 go_wp2_with fail
 go_ret
 exact⟨rfl,hb1⟩
def leafR (t:ByteArray):ByteArray:=if 100<t.size then ⟨#[]⟩ else leafV t
theorem leafR_no (t:ByteArray) (h:100<t.size):leafR t=⟨#[]⟩:=if_pos h
theorem leafR_yes (t:ByteArray) (h:¬100<t.size):leafR t=leafV t:=if_neg h
def nodeR (a b:ByteArray):ByteArray:=if a.size=32/\b.size=32 then nodeV a b else ⟨#[]⟩
theorem nodeR_no (a b:ByteArray) (h:¬(a.size=32/\b.size=32)):nodeR a b=⟨#[]⟩:=if_neg h
theorem nodeR_yes (a b:ByteArray) (h:a.size=32) (h':b.size=32):nodeR a b=nodeV a b:=if_pos ⟨h,h'⟩
theorem leaf_impl (t:ByteArray) (w:World) (ht:t.size<=maxLen) (hV:Vars w) :
  Calls Tryz.prog 160 #[.string t] w fun e w'=>e=.returned (.string (leafR t))/\Below w.heap.size w w':=by
 have HT:=hideS ht
 unfold maxLen at ht
 have HV:=hideS hV
 have h2:=hV.two
 clear hV
 by_cases h:100<t.size
 ·have HP:=hideS (leafR_no t h)
  go_enter Tryz.func160,Tryz.ntmps160
  go_wp2_with fail
  go_ret
  exact⟨Nu.ret_strJ HP.out.symm,Below.refl _ _⟩
 ·have HP:=hideS (leafR_yes t h)
  have HD:=hideS (show digestV (⟨#[0]⟩++t)=leafV t by unfold digestV leafV;rw[if_pos (by rw[mark0_size];omega)])
  go_enter Tryz.func160,Tryz.ntmps160
  go_wp2_with fail
  refine(Nu.join_any ⟨#[0]⟩ t w (by rw[show (⟨#[0]⟩:ByteArray).size=1 from rfl];omega)).mono ?_
  rintro e w1 ⟨rfl,hb1⟩
  go_wp2_with fail
  refine(digest_impl _ _ (by rw[mark0_size];unfold maxLen;omega) (HV.out.below hb1 h2)).mono ?_
  rintro e w2 ⟨rfl,hb2⟩
  have HB:=hideS (hb1.trans (hb2.mono hb1.size))
  clear hb1 hb2
  go_wp2_with fail
  go_ret
  exact⟨Nu.ret_strJ (HD.out.trans HP.out.symm),HB.out⟩
theorem node_impl (a b:ByteArray) (w:World) (hV:Vars w) :
  Calls Tryz.prog 237 #[.string a,.string b] w fun e w'=>e=.returned (.string (nodeR a b))/\Below w.heap.size w w':=by
 have HV:=hideS hV
 have h2:=hV.two
 clear hV
 by_cases h:a.size=32
 ·by_cases h':b.size=32
  ·have HP:=hideS (nodeR_yes a b h h')
   have HD:=hideS (show digestV (⟨#[1]⟩++(a++b))=nodeV a b by unfold digestV nodeV;rw[if_pos (by rw[mark1_size,ByteArray.size_append];omega),ByteArray.append_assoc])
   go_enter Tryz.func237,Tryz.ntmps237
   go_wp2_with fail
   refine(Nu.join_any a b w (by omega)).mono ?_
   rintro e w1 ⟨rfl,hb1⟩
   go_wp2_with fail
   refine(Nu.join_any ⟨#[1]⟩ (a++b) _ (by rw[show (⟨#[1]⟩:ByteArray).size=1 from rfl,ByteArray.size_append];omega)).mono ?_
   rintro e w2 ⟨rfl,hb2⟩
   go_wp2_with fail
   refine(digest_impl _ _ (by rw[mark1_size,ByteArray.size_append];unfold maxLen;omega) ((HV.out.below hb1 h2).below hb2 (by have:=hb1.size;omega))).mono ?_
   rintro e w3 ⟨rfl,hb3⟩
   have HB:=hideS (below3 hb1 hb2 hb3)
   clear hb1 hb2 hb3
   go_wp2_with fail
   go_ret
   exact⟨Nu.ret_strJ (HD.out.trans HP.out.symm),HB.out⟩
  ·have HP:=hideS (nodeR_no a b (fun x=>h' x.2))
   go_enter Tryz.func237,Tryz.ntmps237
   go_wp2_with fail
   go_ret
   exact⟨Nu.ret_strJ HP.out.symm,Below.refl _ _⟩
 ·have HP:=hideS (nodeR_no a b (fun x=>h x.1))
  go_enter Tryz.func237,Tryz.ntmps237
  go_wp2_with fail
  go_ret
  exact⟨Nu.ret_strJ HP.out.symm,Below.refl _ _⟩
end Go.Proofs.YtikiihjabbmkcaaGreatDoor.Sh


/- Plain mathematics of trees of digests: where a list is cut, the tree of a list of texts. -/
namespace Go.Proofs.YtikiihjabbmkcaaGreatDoor.Tr
open Sh (sha sha_size leafV nodeV nodeV_size)
def half (n:Nat):Nat:=2 ^ Nat.log2 (n-1)
theorem half_pos (n:Nat):1<=half n:=Nat.one_le_two_pow
theorem half_lt (n:Nat) (h:2<=n):half n<n:=by
 have:=Nat.log2_self_le (n:=n-1) (by omega)
 unfold half
 omega
theorem half_two (n:Nat) (h:2<=n):n<=2*half n:=by
 have:=Nat.lt_log2_self (n:=n-1)
 unfold half
 rw[Nat.pow_succ]at this
 omega
def tree (l:List ByteArray):ByteArray :=
 if h0:l.length=0 then sha ⟨#[]⟩
 else if h1:l.length=1 then leafV (l[0]'(by omega))
 else nodeV (tree (l.take (half l.length))) (tree (l.drop (half l.length)))
termination_by l.length
decreasing_by
 ·have:=half_lt l.length (by omega)
  simp
  omega
 ·have:=half_pos l.length
  simp
  omega
def right (l:List ByteArray):Bool:=decide (l.length<=64) && l.all (fun s=>decide (s.size<=100))
theorem right_yes (l:List ByteArray):right l=true↔l.length<=64/\∀ j (h:j<l.length),l[j].size<=100:=by
 unfold right
 simp only[Bool.and_eq_true,decide_eq_true_eq,List.all_eq_true]
 constructor
 ·rintro⟨h1,h2⟩
  exact⟨h1,fun j hj=>h2 _ (List.getElem_mem hj)⟩
 ·rintro⟨h1,h2⟩
  refine⟨h1,fun s hs=>?_⟩
  obtain⟨j,hj,rfl⟩:=List.getElem_of_mem hs
  exact h2 j hj
theorem right_long (l:List ByteArray) (h:64<l.length):right l=false:=by
 cases e:right l with
 |false=>rfl
 |true=>have:=((right_yes l).1 e).1;omega
theorem right_bad (l:List ByteArray) (j:Nat) (hj:j<l.length) (h:100<l[j].size):right l=false:=by
 cases e:right l with
 |false=>rfl
 |true=>have:=((right_yes l).1 e).2 j hj;omega
def treeR (l:List ByteArray):ByteArray:=if right l=true then tree l else ⟨#[]⟩
end Go.Proofs.YtikiihjabbmkcaaGreatDoor.Tr


/- Where a list is cut: spec.l03Half by doubling, impl.firstPart by the number of bits (math/bits.Len64). -/
namespace Go.Proofs.YtikiihjabbmkcaaGreatDoor.Tr
open Go.RowKit
open St (hideT)
theorem ret_int {a b:Int} (h:a=b):Ending.returned (.int .i64 a)=.returned (.int .i64 b):=by rw[h]
def len (x:Nat):Nat:=if x=0 then 0 else Nat.log2 x+1
end Go.Proofs.YtikiihjabbmkcaaGreatDoor.Tr


/- Plain mathematics: how many bits of a number are 1, put together byte by byte. -/
namespace Go.Proofs.YtikiihjabbmkcaaGreatDoor.Tr
def ones (n:Nat):Nat:=if _h:n=0 then 0 else n%2+ones (n/2)
termination_by n
decreasing_by omega
def f1 (a:Nat):Nat:=(a/2 &&& 85)+(a &&& 85)
def f2 (a:Nat):Nat:=(a/4 &&& 51)+(a &&& 51)
theorem t1:∀ (a:Fin 256) (e:Fin 2),((a.val/2+128*e.val) &&& 85)=(a.val/2 &&& 85)/\f1 a.val<256/\(a.val/2 &&& 85)<256/\(a.val &&& 85)<256:=by decide +kernel
theorem t2:∀ (a:Fin 256) (e:Fin 4),((a.val/4+64*e.val) &&& 51)=(a.val/4 &&& 51)/\(a.val/4 &&& 51)<256/\(a.val &&& 51)<256:=by decide +kernel
theorem t3:∀ a:Fin 256,f2 (f1 a.val)/16<=4/\f2 (f1 a.val)%16<=4/\f2 (f1 a.val)/16+f2 (f1 a.val)%16<=8:=by decide +kernel
def ones8 (a:Nat):Nat:=a%2+(a/2%2+(a/4%2+(a/8%2+(a/16%2+(a/32%2+(a/64%2+a/128%2))))))
theorem t4:∀ a:Fin 256,f2 (f1 a.val)/16+f2 (f1 a.val)%16=ones8 a.val:=by decide +kernel
end Go.Proofs.YtikiihjabbmkcaaGreatDoor.Tr

