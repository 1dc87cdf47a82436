/- Texts put together: PathPlain, PathWalks, PathSpec, PathTop, OnesPlain, OnesWalks, RangeRight, RangeRoot, AddPlain. -/
import Derived.Test.YtjfdllgodijibaaGreatDoorWz11
import Derived.Test.YtjfdllgodijibaaGreatDoorWz18
import Derived.Test.YtjfdllgodijibaaGreatDoorWz9
import Derived.Test.YtjfdllgodijibaaGreatDoorWz12
import Derived.Test.YtjfdllgodijibaaGreatDoorWz16
import Derived.Laws.BitsAllLaws
import Derived.BigQuiet
import Derived.Deep.QuietTactic
import Derived.Deep.RegionWith
import Derived.ArgAppend
set_option maxRecDepth 100000
set_option maxHeartbeats 8000000
/- Plain mathematics of paths. -/
namespace Go.Proofs.YtjfdllgodijibaaGreatDoor.Tr
def path (l:List ByteArray) (i:Nat):List ByteArray :=
 if _h:l.length<=1 then []
 else if i<half l.length then path (l.take (half l.length)) i++[tree (l.drop (half l.length))]
 else path (l.drop (half l.length)) (i-half l.length)++[tree (l.take (half l.length))]
termination_by l.length
decreasing_by
 ·have:=half_lt l.length (by omega)
  simp
  omega
 ·have:=half_pos l.length
  simp
  omega
theorem path_one (l:List ByteArray) (i:Nat) (h:l.length<=1):path l i=[]:=by rw[path,dif_pos h]
theorem path_left (l:List ByteArray) (i:Nat) (h:2<=l.length) (hi:i<half l.length):path l i=path (l.take (half l.length)) i++[tree (l.drop (half l.length))]:=by
 rw[path,dif_neg (by omega),if_pos hi]
theorem path_right (l:List ByteArray) (i:Nat) (h:2<=l.length) (hi:¬i<half l.length):path l i=path (l.drop (half l.length)) (i-half l.length)++[tree (l.take (half l.length))]:=by
 rw[path,dif_neg (by omega),if_neg hi]
theorem path_length:∀ (m:Nat) (l:List ByteArray) (i:Nat),l.length<=m->(path l i).length<=l.length
 |0,l,i,h=>by
  rw[path_one l i (by omega)]
  simp
 |m+1,l,i,h=>by
  by_cases h1:l.length<=1
  ·rw[path_one l i h1]
   simp
  ·have h2:=half_lt l.length (by omega)
   have h3:=half_pos l.length
   by_cases hi:i<half l.length
   ·rw[path_left l i (by omega) hi]
    have:=path_length m (l.take (half l.length)) i (by simp;omega)
    simp at this ⊢
    omega
   ·rw[path_right l i (by omega) hi]
    have:=path_length m (l.drop (half l.length)) (i-half l.length) (by simp;omega)
    simp at this ⊢
    omega
def pathR (l:List ByteArray) (i:Int):List ByteArray:=if right l=true/\0<=i/\i<l.length then path l i.toNat else []
end Go.Proofs.YtjfdllgodijibaaGreatDoor.Tr


/- The walk of impl.pathIn: the path of one of right entries, in memory of its own. -/
namespace Go.Proofs.YtjfdllgodijibaaGreatDoor.Tr
open Go.RowKit
open St
open Sh (Vars)
end Go.Proofs.YtjfdllgodijibaaGreatDoor.Tr


namespace Go.Proofs.YtjfdllgodijibaaGreatDoor.Tr
open Go.RowKit
open St
open Sh (step_append_own own_empty)
theorem path_spec:∀ (m n i:Nat) (l:List ByteArray) (a:Option Addr) (cap B:Nat) (w:World),n<=m->l.length=n->1<=n->i<n->n<=cap->n<=64->(∀ j (h:j<l.length),l[j].size<=100)->Strs w B a l->B<=w.heap.size ->
  Calls Tryz.prog 50 #[.slice a n cap,.int .i64 i] w fun e w'=>∃ v,e=.returned v/\OwnS w' w.heap.size v (path l i)/\Below w.heap.size w w':=by
 intro m
 induction m with
 |zero =>
  intro n i l a cap B w hm hln h1
  omega
 |succ m ih =>
  intro n i l a cap B w hm hln h1 hi hcap h64 hr hs hB
  obtain⟨b,off,rfl,hb,hc⟩:=hs.some (by omega)
  obtain⟨i0,hif,hz0,hz1,hz2⟩:=info_parts Tryz.infoS9
  clear hs
  by_cases hn1:n=1
  ·have HP:=hideT (path_one l i (by omega))
   subst hn1
   clear hc hr ih
   go_enter Tryz.func50,Tryz.ntmps50
   go_wp2_with fail
   go_ret
   exact⟨_,rfl,by rw[HP.out];exact own_empty _ _ _ (Nat.le_refl _),(Below.refl _ _).alloc (Nat.le_refl _) _⟩
  ·have hp:=half_pos n
   have hl:=half_lt n (by omega)
   have HPL:=hideT (path_left l i (by omega))
   have HPR:=hideT (path_right l i (by omega))
   have HLE:=hideT (path_length m)
   obtain⟨k,hk⟩:∃ k,k=half n:=⟨_,rfl⟩
   have HH:=hideT (half_spec n w (by omega) (by omega))
   rw[hln,<-hk]at HPL HPR
   rw[<-hk]at hp hl HH
   have TL:Hid (∀ W:World,Below w.heap.size w W->Calls Tryz.prog 67 #[.slice (some ⟨b,off,none⟩) k cap] W fun e w'=>e=.returned (.string (tree (l.take k)))/\Below W.heap.size W w'):=fun W hW =>
    tree_spec k k (l.take k) (some ⟨b,off,none⟩) cap B W (Nat.le_refl _) (by rw[List.length_take];omega) (by omega) (by omega) (fun j hj=>by rw[List.getElem_take];exact hr j _) ((Strs.take hb hc).after hW hB) (Nat.le_trans hB hW.size)
   have TR:Hid (∀ W:World,Below w.heap.size w W->Calls Tryz.prog 67 #[.slice (some ⟨b,off+k,none⟩) (n-k) (cap-k)] W fun e w'=>e=.returned (.string (tree (l.drop k)))/\Below W.heap.size W w'):=fun W hW =>
    tree_spec (n-k) (n-k) (l.drop k) (some ⟨b,off+k,none⟩) (cap-k) B W (Nat.le_refl _) (by rw[List.length_drop];omega) (by omega) (by omega) (fun j hj=>by rw[List.getElem_drop];exact hr _ _) ((Strs.drop hb hc).after hW hB) (Nat.le_trans hB hW.size)
   have PL:Hid (i<k->∀ W:World,Below w.heap.size w W->Calls Tryz.prog 50 #[.slice (some ⟨b,off,none⟩) k cap,.int .i64 i] W fun e w'=>∃ v,e=.returned v/\OwnS w' W.heap.size v (path (l.take k) i)/\Below W.heap.size W w'):=fun hik W hW =>
    ih k i (l.take k) (some ⟨b,off,none⟩) cap B W (by omega) (by rw[List.length_take];omega) (by omega) hik (by omega) (by omega) (fun j hj=>by rw[List.getElem_take];exact hr j _) ((Strs.take hb hc).after hW hB) (Nat.le_trans hB hW.size)
   have PR:Hid (¬i<k->∀ W:World,Below w.heap.size w W->Calls Tryz.prog 50 #[.slice (some ⟨b,off+k,none⟩) (n-k) (cap-k),.int .i64 ((i:Int)-k)] W fun e w'=>∃ v,e=.returned v/\OwnS w' W.heap.size v (path (l.drop k) (i-k))/\Below W.heap.size W w'):=fun hik W hW=>by
    have:=ih (n-k) (i-k) (l.drop k) (some ⟨b,off+k,none⟩) (cap-k) B W (by omega) (by rw[List.length_drop];omega) (by omega) (by omega) (by omega) (by omega) (fun j hj=>by rw[List.getElem_drop];exact hr _ _) ((Strs.drop hb hc).after hW hB) (Nat.le_trans hB hW.size)
    rw[show ((i-k:Nat):Int)=(i:Int)-k by omega]at this
    exact this
   have i1:¬(n:Int)=1:=by omega
   have g1:(k:Int)<=cap:=by omega
   have g2:(k:Int)<=n:=by omega
   have g4:¬cap=k:=by omega
   have g5:IntKind.i64.wrap ((i:Int)-k)=(i:Int)-k:=by simp[IntKind.wrap,IntKind.bits,IntKind.signed];omega
   clear hc hr ih hk
   by_cases hik:i<k
   ·have HE:=hideT (HPL.out hik)
    have hn3:(path (l.take k) i).length+1<=65:=by have:=HLE.out (l.take k) i (by rw[List.length_take];omega);rw[List.length_take]at this;omega
    have HPC:=hideT (PL.out hik)
    go_enter Tryz.func50,Tryz.ntmps50
    go_wp2_with fail
    refine HH.out.mono ?_
    rintro e w1 ⟨rfl,hw⟩
    subst w1
    go_wp2_with fail
    go_region_law (first|(refine step_append_own rfl (.tmp 20) (.tmp 25) 23 rfl w.heap.size 9 i0 (.string ⟨#[]⟩) 1 16 Tryz.underlying23 hif hz0 hz1 hz2 rfl (by decide) v (path (l.take k) i).length ((path (l.take k) i).map Value.string) rfl (HO3.out.alloc _) ⟨w3.heap.size,0,none⟩ 1 1 [.string (tree (l.drop k))] rfl rfl (one_newS w3 _ _) (one_cellS _) (by unfold maxLen;omega) (by omega) (by have:=HB3.out.size;simp;omega) ?_;intro v' w4 hown4 hgrow;have HB4:=hideT (app_one HB3.out HB3.out.size (Nat.le_refl _) HO3.out hgrow);have HO4:=hideT (OwnS.snoc hown4);clear hown4 hgrow)|(go_simp;go_at_call 50;(with_reducible refine(HPC.out _ ?_).mono ?_);(· exact(Below.refl _ _).drew);rintro e w2 ⟨v,rfl,ho2,hb2⟩;have HB2:=hideT (show Below w.heap.size w w2 from ⟨hb2.os,hb2.tape,hb2.output,hb2.size,hb2.block⟩);have HO2:=hideT (show OwnS w2 w.heap.size v (path (l.take k) i) from ho2);clear hb2 ho2)|(go_simp;go_at_call 67;(with_reducible refine(TR.out w2 HB2.out).mono ?_);rintro e w3 ⟨rfl,hb3⟩;have HB3:=hideT (HB2.out.trans (hb3.mono HB2.out.size));have HO3:=hideT (HO2.out.below hb3);clear hb3))
    all_goals (try go_wp2_with fail)
    all_goals go_ret
    all_goals exact⟨_,rfl,by rw[HE.out];exact HO4.out,HB4.out⟩
   ·have HE:=hideT (HPR.out hik)
    have hn3:(path (l.drop k) (i-k)).length+1<=65:=by have:=HLE.out (l.drop k) (i-k) (by rw[List.length_drop];omega);rw[List.length_drop]at this;omega
    have HPC:=hideT (PR.out hik)
    go_enter Tryz.func50,Tryz.ntmps50
    go_wp2_with fail
    refine HH.out.mono ?_
    rintro e w1 ⟨rfl,hw⟩
    subst w1
    go_wp2_with fail
    go_region_law (first|(refine step_append_own rfl (.tmp 33) (.tmp 38) 23 rfl w.heap.size 9 i0 (.string ⟨#[]⟩) 1 16 Tryz.underlying23 hif hz0 hz1 hz2 rfl (by decide) v (path (l.drop k) (i-k)).length ((path (l.drop k) (i-k)).map Value.string) rfl (HO3.out.alloc _) ⟨w3.heap.size,0,none⟩ 1 1 [.string (tree (l.take k))] rfl rfl (one_newS w3 _ _) (one_cellS _) (by unfold maxLen;omega) (by omega) (by have:=HB3.out.size;simp;omega) ?_;intro v' w4 hown4 hgrow;have HB4:=hideT (app_one HB3.out HB3.out.size (Nat.le_refl _) HO3.out hgrow);have HO4:=hideT (OwnS.snoc hown4);clear hown4 hgrow)|(go_simp;go_at_call 50;(with_reducible refine(HPC.out _ ?_).mono ?_);(· exact(Below.refl _ _).drew);rintro e w2 ⟨v,rfl,ho2,hb2⟩;have HB2:=hideT (show Below w.heap.size w w2 from ⟨hb2.os,hb2.tape,hb2.output,hb2.size,hb2.block⟩);have HO2:=hideT (show OwnS w2 w.heap.size v (path (l.drop k) (i-k)) from ho2);clear hb2 ho2)|(go_simp;go_at_call 67;(with_reducible refine(TL.out w2 HB2.out).mono ?_);rintro e w3 ⟨rfl,hb3⟩;have HB3:=hideT (HB2.out.trans (hb3.mono HB2.out.size));have HO3:=hideT (HO2.out.below hb3);clear hb3))
    all_goals (try go_wp2_with fail)
    all_goals go_ret
    all_goals exact⟨_,rfl,by rw[HE.out];exact HO4.out,HB4.out⟩
end Go.Proofs.YtjfdllgodijibaaGreatDoor.Tr


namespace Go.Proofs.YtjfdllgodijibaaGreatDoor.Tr
open Go.RowKit
open St
open Sh (Vars own_empty)
theorem pathR_yes (l:List ByteArray) (i:Nat) (h:right l=true) (hi:i<l.length):pathR l i=path l i:=by
 unfold pathR
 rw[if_pos ⟨h,by omega,by omega⟩]
 rfl
theorem pathR_no (l:List ByteArray) (i:Int) (h:¬(right l=true/\0<=i/\i<l.length)):pathR l i=[]:=if_neg h
theorem pathR_length (l:List ByteArray) (i:Int):(pathR l i).length<=l.length:=by
 unfold pathR
 split
 ·exact path_length _ l _ (Nat.le_refl _)
 ·simp
theorem pathOf_spec (l:List ByteArray) (n:Nat) (i:Int) (a:Option Addr) (cap B:Nat) (w:World) (hln:l.length=n) (hcap:n<=cap) (hn:n<=1048576) (hs:Strs w B a l) (hB:B<=w.heap.size) :
  Calls Tryz.prog 32 #[.slice a n cap,.int .i64 i] w fun e w'=>∃ v,e=.returned v/\OwnS w' w.heap.size v (pathR l i)/\Below w.heap.size w w':=by
 have HR:=hideT (right_spec a cap l w B hs (by omega))
 rw[hln]at HR
 have HS:=hideT hs
 clear hs
 by_cases h400:400<n
 ·have HT:=hideT (pathR_no l i (fun h=>by have:=((right_yes l).1 h.1).1;omega))
  go_enter Tryz.func32,Tryz.ntmps32
  go_wp2_with fail
  go_ret
  exact⟨_,rfl,by rw[HT.out];exact own_empty _ _ _ (Nat.le_refl _),(Below.refl _ _).alloc (Nat.le_refl _) _⟩
 ·cases hr:right l with
  |false =>
   have HT:=hideT (pathR_no l i (fun h=>by rw[hr]at h;cases h.1))
   rw[hr]at HR
   go_enter Tryz.func32,Tryz.ntmps32
   go_wp2_with fail
   refine HR.out.mono ?_
   rintro e w1 ⟨rfl,hw⟩
   subst w1
   go_wp2_with fail
   go_ret
   exact⟨_,rfl,by rw[HT.out];exact own_empty _ _ _ (Nat.le_refl _),(Below.refl _ _).alloc (Nat.le_refl _) _⟩
  |true =>
   have HY:=hideT ((right_yes l).1 hr)
   rw[hr]at HR
   by_cases h0:i<0
   ·have HT:=hideT (pathR_no l i (fun h=>by omega))
    go_enter Tryz.func32,Tryz.ntmps32
    go_wp2_with fail
    refine HR.out.mono ?_
    rintro e w1 ⟨rfl,hw⟩
    subst w1
    go_wp2_with fail
    go_ret
    exact⟨_,rfl,by rw[HT.out];exact own_empty _ _ _ (Nat.le_refl _),(Below.refl _ _).alloc (Nat.le_refl _) _⟩
   ·by_cases h1:(n:Int)<=i
    ·have HT:=hideT (pathR_no l i (fun h=>by omega))
     go_enter Tryz.func32,Tryz.ntmps32
     go_wp2_with fail
     refine HR.out.mono ?_
     rintro e w1 ⟨rfl,hw⟩
     subst w1
     go_wp2_with fail
     go_ret
     exact⟨_,rfl,by rw[HT.out];exact own_empty _ _ _ (Nat.le_refl _),(Below.refl _ _).alloc (Nat.le_refl _) _⟩
    ·obtain⟨k,rfl⟩:∃ k:Nat,i=k:=⟨i.toNat,by omega⟩
     have HT:=hideT (pathR_yes l k hr (by omega))
     go_enter Tryz.func32,Tryz.ntmps32
     go_wp2_with fail
     refine HR.out.mono ?_
     rintro e w1 ⟨rfl,hw⟩
     subst w1
     go_wp2_with fail
     refine(path_spec n n k l a cap B _ (Nat.le_refl _) hln (by omega) (by omega) hcap (by have:=HY.out.1;omega) HY.out.2 HS.out hB).mono ?_
     rintro e w2 ⟨v,rfl,ho2,hb2⟩
     have HO2:=hideT ho2
     clear ho2
     go_wp2_with fail
     go_ret
     exact⟨_,rfl,by rw[HT.out];exact HO2.out,hb2⟩
end Go.Proofs.YtjfdllgodijibaaGreatDoor.Tr


/- Plain mathematics: how many bits of a number are 1, put together byte by byte. -/
namespace Go.Proofs.YtjfdllgodijibaaGreatDoor.Tr
def ones (n:Nat):Nat:=if _h:n=0 then 0 else n%2+ones (n/2)
termination_by n
decreasing_by omega
def f1 (a:Nat):Nat:=(a/2 &&& 85)+(a &&& 85)
def f2 (a:Nat):Nat:=(a/4 &&& 51)+(a &&& 51)
theorem t1:∀ (a:Fin 256) (e:Fin 2),((a.val/2+128*e.val) &&& 85)=(a.val/2 &&& 85)/\f1 a.val<256/\(a.val/2 &&& 85)<256/\(a.val &&& 85)<256:=by decide +kernel
theorem t2:∀ (a:Fin 256) (e:Fin 4),((a.val/4+64*e.val) &&& 51)=(a.val/4 &&& 51)/\(a.val/4 &&& 51)<256/\(a.val &&& 51)<256:=by decide +kernel
theorem t3:∀ a:Fin 256,f2 (f1 a.val)/16<=4/\f2 (f1 a.val)%16<=4/\f2 (f1 a.val)/16+f2 (f1 a.val)%16<=8:=by decide +kernel
def ones8 (a:Nat):Nat:=a%2+(a/2%2+(a/4%2+(a/8%2+(a/16%2+(a/32%2+(a/64%2+a/128%2))))))
end Go.Proofs.YtjfdllgodijibaaGreatDoor.Tr


/- The walks of math/bits.OnesCount64 (for small numbers) and spec.l03Ones. -/
namespace Go.Proofs.YtjfdllgodijibaaGreatDoor.Tr
open Go.RowKit
open St (hideT)
end Go.Proofs.YtjfdllgodijibaaGreatDoor.Tr


/- Whether a range is right: impl.rangeRight and spec.l03Range. -/
namespace Go.Proofs.YtjfdllgodijibaaGreatDoor.Tr
open Go.RowKit
open St
def rngB (n:Int) (p:List ByteArray):Bool:=decide (0<=n) && decide (n<=1000000) && decide (p.length=ones n.toNat) && wide p
end Go.Proofs.YtjfdllgodijibaaGreatDoor.Tr


/- What both RangeRoot answer. -/
namespace Go.Proofs.YtjfdllgodijibaaGreatDoor.Tr
open Go.RowKit
open St
open Sh (Vars nodeV nodeV_size nodeR nodeR_yes node_impl digest_impl all_any l03Node_any sha)
def fold (p:List ByteArray):Nat->ByteArray->ByteArray
 |0,h=>h
 |m+1,h=>fold p m (nodeV (p.getD m ⟨#[]⟩) h)
def rootR (n:Int) (p:List ByteArray):ByteArray :=
 if rngB n p=true then (if n=0 then sha ⟨#[]⟩ else fold p (p.length-1) (p.getD (p.length-1) ⟨#[]⟩)) else ⟨#[]⟩
end Go.Proofs.YtjfdllgodijibaaGreatDoor.Tr


/- What RangeAdd answers; rows that are cut, and append onto them. -/
namespace Go.Proofs.YtjfdllgodijibaaGreatDoor.Tr
open Go.RowKit
open St
open Sh (Vars leafV nodeV nodeV_size)
def carry (p:List ByteArray):Nat->Nat->ByteArray->List ByteArray
 |0,_,h=>[h]
 |j+1,low,h=>if low%2=1 then carry p j (low/2) (nodeV (p.getD j ⟨#[]⟩) h) else p.take (j+1)++[h]
def addOk (n:Int) (p:List ByteArray) (t:ByteArray):Bool:=rngB n p && decide (n<1000000) && decide (t.size<=100)
def addN (n:Int) (p:List ByteArray) (t:ByteArray):Int:=if 8000<t.size then 0 else if addOk n p t=true then n+1 else n
def addR (n:Int) (p:List ByteArray) (t:ByteArray):List ByteArray:=if 8000<t.size then [] else if addOk n p t=true then carry p p.length n.toNat (leafV t) else p
def Rw (w:World) (base:Nat) (v:Value) (l:List ByteArray):Prop :=
 OwnS w base v l∨∃ g,v=.slice (some ⟨g,0,none⟩) l.length l.length/\base<=g/\∀ j (h:j<l.length),w.cell? ⟨g,j,none⟩=some (.string l[j])
theorem Rw.below {w w':World} {base:Nat} {v:Value} {l:List ByteArray} (h:Rw w base v l) (b:Below w.heap.size w w'):Rw w' base v l:=by
 rcases h with h|⟨g,hv,hg,hc⟩
 ·exact .inl (h.below b)
 ·exact .inr ⟨g,hv,hg,fun j hj=>(b.cell (p:=⟨g,j,none⟩) (World.block_lt_of_cell? w _ (hc j hj))).trans (hc j hj)⟩
theorem Rw.slice {w:World} {base:Nat} {v:Value} {l:List ByteArray} (h:Rw w base v l) (hl:0<l.length):∃ g cap,v=.slice (some ⟨g,0,none⟩) l.length cap/\base<=g/\l.length<=cap/\∀ j (h:j<l.length),w.cell? ⟨g,j,none⟩=some (.string l[j]):=by
 rcases h with h|⟨g,hv,hg,hc⟩
 ·rcases h.split with⟨_,h0⟩|⟨g,cap,hv,hg,hn,ho⟩
  ·subst h0
   simp at hl
  ·exact⟨g,cap,hv,hg,hn,fun j hj=>ho.cell hj⟩
 ·exact⟨g,l.length,hv,hg,Nat.le_refl _,hc⟩
end Go.Proofs.YtjfdllgodijibaaGreatDoor.Tr

