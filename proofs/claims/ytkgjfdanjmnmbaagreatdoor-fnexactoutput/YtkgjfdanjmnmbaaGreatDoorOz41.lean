/- Texts put together: UnsealWalks, ShaSpecA, ShaStill, ShaAppend, UnsealSpec, SealMath, UnsealTop. -/
import Derived.Test.YtkgjfdanjmnmbaaGreatDoorOz31
import Derived.Test.YtkgjfdanjmnmbaaGreatDoorOz10
import Derived.Deep.RegionWith
import Derived.Test.YtkgjfdanjmnmbaaGreatDoorOz0
import Derived.Test.YtkgjfdanjmnmbaaGreatDoorOz39
import Derived.Test.YtkgjfdanjmnmbaaGreatDoorOz3
import Derived.StillTailTactics
import Derived.Deep.RegionLaw
set_option maxRecDepth 100000
set_option maxHeartbeats 8000000
namespace Go.Proofs.YtkgjfdanjmnmbaaGreatDoor.Se
open Go.RowKit
open Nu (bv arr_string ret_strJ hideJ)
def outV (t:ByteArray) (at_ code:Int):Value:=.agg #[.string t,.int .i64 at_,.int .i64 code]
def unsealV (s:ByteArray):Value :=
 if 8000<s.size then outV ⟨#[]⟩ 0 2 else if s.size<4 then outV ⟨#[]⟩ 0 4
 else if sealV (s.extract 0 (s.size-4))=s then outV (s.extract 0 (s.size-4)) 0 0 else outV ⟨#[]⟩ 0 5
theorem bcell {W w1:World} (hb:Below W.heap.size W w1):(∀ b o,b<W.heap.size->w1.cell? ⟨b,o,none⟩=W.cell? ⟨b,o,none⟩)/\(∀ b o,b<W.heap.size->w1.frozen? ⟨b,o,none⟩=W.frozen? ⟨b,o,none⟩) :=
 ⟨fun b o h=>hb.cell (p:=⟨b,o,none⟩) h,fun b o h=>hb.frozen (p:=⟨b,o,none⟩) h⟩
theorem below3 {w wa wb:World} {o:Obj} (h1:Below (w.alloc o).heap.size (w.alloc o) wa) (h2:Below (w.alloc o).heap.size wa wb):Below w.heap.size w wb :=
 ((Below.refl w.heap.size w).alloc (Nat.le_refl _) o).trans ((h1.trans h2).mono (by simp))
theorem below2d {w wa:World} {o:Obj} (h1:Below (w.alloc o).drew.heap.size (w.alloc o).drew wa):Below w.heap.size w wa :=
 ((Below.refl w.heap.size w).alloc (Nat.le_refl _) o).drew.trans (h1.mono (by simp))
theorem list_eq_iff (a b:ByteArray):(a.toList==b.toList)=decide (a=b):=by
 by_cases h:a=b
 ·rw[h];simp
 ·rw[decide_eq_false h,beq_eq_false_iff_ne]
  intro e
  apply h
  rw[ByteArray.toList_eq,ByteArray.toList_eq]at e
  have e2:a.data=b.data:=by rw[<-Array.toArray_toList (xs:=a.data),e,Array.toArray_toList]
  cases a;cases b;simpa using e2
theorem unsealV_yes (s t:ByteArray) (h1:¬8000<s.size) (h2:¬s.size<4) (ht:t=s.extract 0 (s.size-4)) (h:sealV t=s):unsealV s=outV t 0 0:=by
 unfold unsealV
 rw[if_neg h1,if_neg h2,<-ht,if_pos h]
theorem unsealV_no (s t:ByteArray) (h1:¬8000<s.size) (h2:¬s.size<4) (ht:t=s.extract 0 (s.size-4)) (h:¬sealV t=s):unsealV s=outV ⟨#[]⟩ 0 5:=by
 unfold unsealV
 rw[if_neg h1,if_neg h2,<-ht,if_neg h]
theorem unseal_impl (s:ByteArray) (w:World) (hs:s.size<=maxLen) :
  Calls Tryz.prog 42 #[.string s] w fun e w'=>e=.returned (unsealV s)/\Below w.heap.size w w':=by
 unfold maxLen at hs
 by_cases h1:8000<s.size
 ·have HV:=hideJ (show unsealV s=outV ⟨#[]⟩ 0 2 by unfold unsealV;rw[if_pos h1])
  go_enter Tryz.func42,Tryz.ntmps42
  go_wp2
  refine bodyPost_ret (v:=outV ⟨#[]⟩ 0 2) (by simp[results,outV,Tryz.results42,go_sem]) rfl ⟨by rw[HV.out],?_⟩
  exact(Below.refl _ _).alloc (Nat.le_refl _) _
 ·by_cases h2:s.size<4
  ·have HV:=hideJ (show unsealV s=outV ⟨#[]⟩ 0 4 by unfold unsealV;rw[if_neg h1,if_pos h2])
   go_enter Tryz.func42,Tryz.ntmps42
   go_wp2
   refine bodyPost_ret (v:=outV ⟨#[]⟩ 0 4) (by simp[results,outV,Tryz.results42,go_sem]) rfl ⟨by rw[HV.out],?_⟩
   exact(Below.refl _ _).alloc (Nat.le_refl _) _
  ·obtain⟨t,ht⟩:∃ t,t=s.extract 0 (s.size-4):=⟨_,rfl⟩
   have hts:t.size<=7996:=by rw[ht];simp;omega
   have HT:=hideJ ht
   by_cases hq:sealV t=s
   ·have HV:=hideJ (unsealV_yes s t h1 h2 ht hq)
    have hB:((sealV t).toList==s.toList)=true:=by rw[list_eq_iff];exact decide_eq_true hq
    clear ht hq
    go_enter Tryz.func42,Tryz.ntmps42
    go_wp2_with fail
    rw[show ((s.size:Int)-4)=((s.size-4:Nat):Int) from by omega]
    refine(Nu.cut_any s 0 (s.size-4) _ (by omega) (by omega) (by omega)).mono ?_
    rw[<-HT.out]
    rintro e wa ⟨rfl,hb1⟩
    obtain⟨hc1,hf1⟩:=bcell hb1
    have hz1:w.heap.size+1<=wa.heap.size:=by have:=hb1.size;simpa using this
    go_wp2_with fail
    refine(seal_impl t _ (by unfold maxLen;omega)).mono ?_
    rintro e wb ⟨rfl,hb2⟩
    obtain⟨hc2,hf2⟩:=bcell hb2
    have hz2:wa.heap.size<=wb.heap.size:=hb2.size
    have hlt:w.heap.size<wa.heap.size:=by omega
    go_wp2
    refine bodyPost_ret (v:=outV t 0 0) (by simp[results,outV,Tryz.results42,go_sem,hc2,hc1,hlt]) rfl ⟨by rw[HV.out],?_⟩
    exact((below3 hb1 (hb2.mono (by simpa using hz1))).setCell (Nat.le_refl _) _ |>.setCell (Nat.le_refl _) _).setCell (Nat.le_refl _) _
   ·have HV:=hideJ (unsealV_no s t h1 h2 ht hq)
    have hB:((sealV t).toList==s.toList)=false:=by rw[list_eq_iff];exact decide_eq_false hq
    clear ht hq
    go_enter Tryz.func42,Tryz.ntmps42
    go_wp2_with fail
    rw[show ((s.size:Int)-4)=((s.size-4:Nat):Int) from by omega]
    refine(Nu.cut_any s 0 (s.size-4) _ (by omega) (by omega) (by omega)).mono ?_
    rw[<-HT.out]
    rintro e wa ⟨rfl,hb1⟩
    obtain⟨hc1,hf1⟩:=bcell hb1
    have hz1:w.heap.size+1<=wa.heap.size:=by have:=hb1.size;simpa using this
    go_wp2_with fail
    refine(seal_impl t _ (by unfold maxLen;omega)).mono ?_
    rintro e wb ⟨rfl,hb2⟩
    obtain⟨hc2,hf2⟩:=bcell hb2
    have hz2:wa.heap.size<=wb.heap.size:=hb2.size
    have hlt:w.heap.size<wa.heap.size:=by omega
    go_wp2
    refine bodyPost_ret (v:=outV ⟨#[]⟩ 0 5) (by simp[results,outV,Tryz.results42,go_sem,hc2,hc1,hlt]) rfl ⟨by rw[HV.out],?_⟩
    exact((below3 hb1 (hb2.mono (by simpa using hz1))).setCell (Nat.le_refl _) _ |>.setCell (Nat.le_refl _) _).setCell (Nat.le_refl _) _
end Go.Proofs.YtkgjfdanjmnmbaaGreatDoor.Se


namespace Go.Proofs.YtkgjfdanjmnmbaaGreatDoor.Sh
open Go.RowKit
theorem keys_any (w:World):Calls Tryz.prog 105 #[] w fun e w'=>e=.returned (.slice (some ⟨w.heap.size,0,none⟩) 64 64)/\w'=w.alloc (.cells (rowF .u32 64 keyF) 113):=by
 go_enter Tryz.func105,Tryz.ntmps105
 go_wp2
 go_ret
 exact⟨rfl,rfl⟩
theorem start_any (w:World):Calls Tryz.prog 73 #[] w fun e w'=>e=.returned (.slice (some ⟨w.heap.size,0,none⟩) 8 8)/\w'=w.alloc (.cells (rowF .i64 8 firstF) 2):=by
 go_enter Tryz.func73,Tryz.ntmps73
 go_wp2
 go_ret
 exact⟨rfl,rfl⟩
end Go.Proofs.YtkgjfdanjmnmbaaGreatDoor.Sh


/- Two laws of the library on regions that draw their order and only read, the world spelled as a walk spells it. -/
namespace Go.Proofs.YtkgjfdanjmnmbaaGreatDoor.Sh
theorem still_lit {P:Program} {id:Nat} {Q:Exit->Act->World->Prop} {a:Act} {w:World} {l:List Oper} (hm:P.follows .mixedOrders=true) (hB:Region.lexB .any l.toArray=true)
  (h:wpStill P l.toArray w.drew (fun a'=>Q .normal a' w.drew) l a):(Code.region id l.toArray true).wp P Q a w :=
 wp_region_still_lit hm hB h
theorem still_tail {P:Program} {id:Nat} {Q:Exit->Act->World->Prop} {a:Act} {w:World} {l:List Oper} (n:Nat) (hm:P.follows .mixedOrders=true) (hB:Region.lexTailB .any l.toArray n=true)
  (h:wpStill P l.toArray w.drew (fun a'=>wpList P l.toArray Q (l.drop n) a' w.drew) (l.take n) a):(Code.region id l.toArray true).wp P Q a w :=
 wp_region_still_tail n hm hB h
end Go.Proofs.YtkgjfdanjmnmbaaGreatDoor.Sh


/- append onto a row that the call owns, as one step of a region that draws its order. -/
namespace Go.Proofs.YtkgjfdanjmnmbaaGreatDoor.Sh
open Go.RowKit
theorem step_append_own {P:Program} {ops:Array Oper} {o:Oper} {a:Act} {w:World} {K:Act->World->Prop} {Q:Exit->Act->World->Prop} {E:Prop}
  (hg:o.guard=none) (s x:Operand) (t:TypeId) (ho:o.op=.call { callee:=.builtin .append,args:=#[s,x],argTypes:=#[t,t] })
  (base:Nat) (e:TypeId) (i:TypeInfo) (z:Value) (size bytes:Nat) (ht:P.underlying t=some (.slice e)) (hi:P.info? e=some i) (hz:i.zero=some z)
  (hsize:i.size=size) (hby:i.bytes=bytes) (hzs:z.cells.size=size) (hsz:0<size)
  (v:Value) (n:Nat) (xs:List Value) (hs:a.eval s=v) (hown:w.ownsRow base e size v n xs)
  (ad:Addr) (m c:Nat) (news:List Value) (hx:a.eval x=.slice (some ad) m c) (hl:news.length=m*size) (hnews:∀ j u,news[j]? = some u->w.cell? (ad.add j)=some u) (h1:∀ u∈news,u.oneCell'=true)
  (h63:n+m<=maxLen) (hbytes:(n+m)*bytes<=140737488355328) (hbase:base<=w.heap.size)
  (h:∀ v' w',w'.ownsRow base e size v' (n+m) (xs++news)->w.grownBy w' v.ownBlock->K (a.put o.dst v') w') :
  if Region.wanted o (yielded ops a.tmps)=true then Oper.wp P o a w K Q else E:=by
 have hw:Region.wanted o (yielded ops a.tmps)=true:=by simp[Region.wanted,hg]
 rw[if_pos hw]
 exact wp_append_own w s x t ho base e i z size bytes ht hi hz hsize hby hzs hsz v n xs hs hown ad m c news hx hl hnews h1 h63 hbytes hbase fun v' w' h2 h3 _=>h v' w' h2 h3
theorem one_new (W:World) (x:Value) (t:TypeId):∀ (j:Nat) (u:Value),[x][j]? = some u->(W.alloc (.cells #[x] t)).cell? ((⟨W.heap.size,0,none⟩:Addr).add j)=some u:=by
 intro j u hj
 match j,hj with
 |0,hj=>simp at hj;subst hj;simp[Addr.add]
theorem one_cell (k:IntKind) (x:Int):∀ u∈[Value.int k x],u.oneCell'=true:=by
 intro u hu
 simp at hu
 subst hu
 rfl
theorem own_empty (W:World) (base t:Nat) (h:base<=W.heap.size):(W.alloc (.cells #[] t)).ownsRow base t 1 (.slice (some ⟨W.heap.size,0,none⟩) 0 0) 0 [] :=
 ⟨rfl,Or.inr ⟨W.heap.size,0,#[],rfl,h,heap_alloc_last W _,Nat.le_refl _,by decide,rfl,rfl⟩⟩
theorem app_low {B:Nat} {e:TypeId} {w wr w1:World} {v:Value} {n size:Nat} {xs:List Value} {o:Obj} (hbel:Below B w wr) (hB:B<=wr.heap.size)
  (hown:wr.ownsRow B e size v n xs) (hgrow:(wr.drew.alloc o).grownBy w1 v.ownBlock):Below B w w1:=by
 refine(hbel.drew.alloc hB o).grown hgrow (by simp;omega) ?_
 intro k hk
 exact(hown.lt k hk).1
end Go.Proofs.YtkgjfdanjmnmbaaGreatDoor.Sh


namespace Go.Proofs.YtkgjfdanjmnmbaaGreatDoor.Se
open Go.RowKit
open Nu (bv arr_string ret_strJ hideJ)
theorem seal_split (s t:ByteArray) (ht:t=s.extract 0 (s.size-4)) (hts:t.size<=7996):sealV t=s↔fourS (crcOf t)=s.extract (s.size-4) s.size:=by
 have e:t++s.extract (s.size-4) s.size=s:=by
  rw[ht,ByteArray.extract_append_extract];simp[Nat.max_eq_right]
 unfold sealV
 rw[if_pos hts]
 constructor
 ·intro h
  rw[<-e]at h
  generalize s.extract (s.size-4) s.size=r at h e ⊢
  have h':t++fourS (crcOf t)=t++r:=by
   rw[e]at h
   rw[e]
   exact h
  exact(ByteArray.append_right_inj t).1 h'
 ·intro h
  rw[h]
  exact e
theorem unseal_spec (s:ByteArray) (w:World) (hs:s.size<=maxLen) :
  Calls Tryz.prog 35 #[.string s] w fun e w'=>e=.returned (unsealV s)/\Below w.heap.size w w':=by
 unfold maxLen at hs
 by_cases h1:8000<s.size
 ·have HV:=hideJ (show unsealV s=outV ⟨#[]⟩ 0 2 by unfold unsealV;rw[if_pos h1])
  go_enter Tryz.func35,Tryz.ntmps35
  go_wp2
  refine bodyPost_ret (v:=outV ⟨#[]⟩ 0 2) (by simp[results,outV,Tryz.results35,go_sem]) rfl ⟨by rw[HV.out],?_⟩
  exact(Below.refl _ _).alloc (Nat.le_refl _) _
 ·by_cases h2:s.size<4
  ·have HV:=hideJ (show unsealV s=outV ⟨#[]⟩ 0 4 by unfold unsealV;rw[if_neg h1,if_pos h2])
   go_enter Tryz.func35,Tryz.ntmps35
   go_wp2
   refine bodyPost_ret (v:=outV ⟨#[]⟩ 0 4) (by simp[results,outV,Tryz.results35,go_sem]) rfl ⟨by rw[HV.out],?_⟩
   exact(Below.refl _ _).alloc (Nat.le_refl _) _
  ·obtain⟨t,ht⟩:∃ t,t=s.extract 0 (s.size-4):=⟨_,rfl⟩
   have hts:t.size<=7996:=by rw[ht];simp;omega
   by_cases hq:sealV t=s
   ·have HV:=hideJ (unsealV_yes s t h1 h2 ht hq)
    have hB:((fourS (crcOf t)).toList==(s.extract (s.size-4) s.size).toList)=true:=by rw[list_eq_iff];exact decide_eq_true ((seal_split s t ht hts).1 hq)
    have hB2:((fourS (crcOf t)).toList==(s.extract ((s.size:Int)-4).toNat s.size).toList)=true:=by rw[show ((s.size:Int)-4).toNat=s.size-4 from by omega];exact hB
    have HT:=hideJ ht
    clear ht hq
    have g1:(0:Int)<=(s.size:Int)-4:=by omega
    have g2:(s.size:Int)-4<=(s.size:Int):=by omega
    have hwr:IntKind.i64.wrap ((s.size:Int)-4)=(s.size:Int)-4:=by rw[IntKind.wrap_i64];omega
    go_enter Tryz.func35,Tryz.ntmps35
    go_wp2
    rw[<-HT.out]
    go_region_with (first|(go_at_call 52;refine(Cr.crc_spec 0 t _ (by omega) (by omega)).mono ?_;rintro e w' ⟨rfl,hw⟩;subst w')|(go_at_call 51;refine(four_any (crcOf t) _ (crcOf_lt t)).mono ?_;rintro e wa ⟨rfl,hb1⟩))
    obtain⟨hc1,hf1⟩:=bcell hb1
    have hz1:w.heap.size+1<=wa.heap.size:=by have:=hb1.size;simpa using this
    go_wp2
    refine bodyPost_ret (v:=outV t 0 0) (by simp[results,outV,Tryz.results35,go_sem,hc1]) rfl ⟨by rw[HV.out],?_⟩
    exact((below2d hb1).setCell (Nat.le_refl _) _ |>.setCell (Nat.le_refl _) _).setCell (Nat.le_refl _) _
   ·have HV:=hideJ (unsealV_no s t h1 h2 ht hq)
    have hB:((fourS (crcOf t)).toList==(s.extract (s.size-4) s.size).toList)=false:=by rw[list_eq_iff];exact decide_eq_false (fun h=>hq ((seal_split s t ht hts).2 h))
    have hB2:((fourS (crcOf t)).toList==(s.extract ((s.size:Int)-4).toNat s.size).toList)=false:=by rw[show ((s.size:Int)-4).toNat=s.size-4 from by omega];exact hB
    have HT:=hideJ ht
    clear ht hq
    have g1:(0:Int)<=(s.size:Int)-4:=by omega
    have g2:(s.size:Int)-4<=(s.size:Int):=by omega
    have hwr:IntKind.i64.wrap ((s.size:Int)-4)=(s.size:Int)-4:=by rw[IntKind.wrap_i64];omega
    go_enter Tryz.func35,Tryz.ntmps35
    go_wp2
    rw[<-HT.out]
    go_region_with (first|(go_at_call 52;refine(Cr.crc_spec 0 t _ (by omega) (by omega)).mono ?_;rintro e w' ⟨rfl,hw⟩;subst w')|(go_at_call 51;refine(four_any (crcOf t) _ (crcOf_lt t)).mono ?_;rintro e wa ⟨rfl,hb1⟩))
    obtain⟨hc1,hf1⟩:=bcell hb1
    have hz1:w.heap.size+1<=wa.heap.size:=by have:=hb1.size;simpa using this
    go_wp2
    refine bodyPost_ret (v:=outV ⟨#[]⟩ 0 5) (by simp[results,outV,Tryz.results35,go_sem,hc1]) rfl ⟨by rw[HV.out],?_⟩
    exact((below2d hb1).setCell (Nat.le_refl _) _ |>.setCell (Nat.le_refl _) _).setCell (Nat.le_refl _) _
end Go.Proofs.YtkgjfdanjmnmbaaGreatDoor.Se


/- Plain mathematics of seals: the register's steps lose nothing, so that a text with one byte turned has another CRC; and a CRC goes on from text to text. -/
namespace Go.Proofs.YtkgjfdanjmnmbaaGreatDoor.Se
def sealL (l:List UInt8):List UInt8:=l++fourL (Cr.fin (Cr.crcL (Cr.fin 0) l))
theorem unseal_back (t:ByteArray) (ht:t.size<=7996):unsealV (sealV t)=outV t 0 0:=by
 have hs:sealV t=t++fourS (crcOf t):=by unfold sealV;rw[if_pos ht]
 have hz:(sealV t).size=t.size+4:=by rw[hs];simp[ByteArray.size_append,fourS_size]
 have hx:(sealV t).extract 0 ((sealV t).size-4)=t:=by
  rw[hz,hs,Nat.add_sub_cancel]
  exact ByteArray.extract_append_eq_left rfl
 unfold unsealV
 rw[if_neg (by omega),if_neg (by omega),hx,if_pos rfl]
end Go.Proofs.YtkgjfdanjmnmbaaGreatDoor.Se


namespace Go.Proofs.YtkgjfdanjmnmbaaGreatDoor.Se
open Go.RowKit
theorem unsealV_form (s:ByteArray):∃ t c,unsealV s=.agg #[.string t,.int .i64 0,.int .i64 c]:=by
 unfold unsealV outV
 split
 ·exact⟨_,_,rfl⟩
 ·split
  ·exact⟨_,_,rfl⟩
  ·split<;>exact⟨_,_,rfl⟩
end Go.Proofs.YtkgjfdanjmnmbaaGreatDoor.Se
namespace Go.Proofs.YtkgjfdanjmnmbaaGreatDoor.fnExactUnseal
open Go.RowKit
end Go.Proofs.YtkgjfdanjmnmbaaGreatDoor.fnExactUnseal

