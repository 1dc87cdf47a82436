/- Texts put together: LsRight, LsArg, AsWalks. -/
import Derived.Test.YtpddanmnlkcdpaaGreatDoorMz16
import Derived.Test.YtpddanmnlkcdpaaGreatDoorMz21
set_option maxRecDepth 100000
set_option maxHeartbeats 8000000
namespace Go.Proofs.YtpddanmnlkcdpaaGreatDoor.Ls
open Go.RowKit
open Bk (cnt cnt_le count_any)
open Bi (is_yes is_no)
theorem hideL {p:Prop} (h:p):Hid p:=h
def rightB (z b:Int) (r:ByteArray):Bool:=decide (0<=z/\z<=1000/\1<=b/\b<=48/\r.size=32/\z<=b*64)
def lV (z b:Int) (r:ByteArray):Value:=.agg #[.int .i64 z,.int .i64 b,.string r]
def countN (z b:Int) (r:ByteArray):Nat:=if rightB z b r=true then cnt z.toNat b.toNat else 0
theorem rightB_yes {z b:Int} {r:ByteArray} (h:rightB z b r=true):0<=z/\z<=1000/\1<=b/\b<=48/\r.size=32/\z<=b*64:=of_decide_eq_true h
theorem countN_yes {p k:Nat} {r:ByteArray} (h:rightB p k r=true):countN p k r=cnt p k/\cnt p k<=64:=by
 have h1:=rightB_yes h
 unfold countN
 rw[if_pos h]
 refine⟨rfl,(cnt_le (by omega)).2 (by omega)⟩
theorem countN_no {z b:Int} {r:ByteArray} (h:rightB z b r=false):countN z b r=0:=by
 unfold countN
 rw[h]
 rfl
theorem countN_le (z b:Int) (r:ByteArray):countN z b r<=64:=by
 cases h:rightB z b r with
 |false=>rw[countN_no h];omega
 |true =>
  have h1:=rightB_yes h
  obtain⟨p,rfl⟩:=Int.eq_ofNat_of_zero_le h1.1
  obtain⟨k,rfl⟩:=Int.eq_ofNat_of_zero_le (show 0<=b by omega)
  have:=countN_yes h
  omega
theorem right_impl (z b:Int) (r:ByteArray) (w:World) :
  Calls Tryz.prog 112 #[lV z b r] w fun e w'=>e=.returned (.bool (rightB z b r))/\Below w.heap.size w w':=by
 unfold lV
 by_cases h1:z<0
 ·have HF:Hid (rightB z b r=false):=by unfold Hid rightB;simp;omega
  rw[HF.out]
  go_enter Tryz.func112,Tryz.ntmps112
  go_wp2_with fail
  go_ret
  exact⟨rfl,(Below.refl _ _).alloc (Nat.le_refl _) _⟩
 ·by_cases h2:1000<z
  ·have HF:Hid (rightB z b r=false):=by unfold Hid rightB;simp;omega
   rw[HF.out]
   go_enter Tryz.func112,Tryz.ntmps112
   go_wp2_with fail
   go_ret
   exact⟨rfl,(Below.refl _ _).alloc (Nat.le_refl _) _⟩
  ·by_cases h3:b<1
   ·have HF:Hid (rightB z b r=false):=by unfold Hid rightB;simp;omega
    rw[HF.out]
    go_enter Tryz.func112,Tryz.ntmps112
    go_wp2_with fail
    go_ret
    exact⟨rfl,(Below.refl _ _).alloc (Nat.le_refl _) _⟩
   ·by_cases h4:48<b
    ·have HF:Hid (rightB z b r=false):=by unfold Hid rightB;simp;omega
     rw[HF.out]
     go_enter Tryz.func112,Tryz.ntmps112
     go_wp2_with fail
     go_ret
     exact⟨rfl,(Below.refl _ _).alloc (Nat.le_refl _) _⟩
    ·by_cases h5:r.size=32
     ·have HF:Hid (rightB z b r=decide (z<=b*64)):=by unfold Hid rightB;rw[decide_eq_decide];omega
      rw[HF.out]
      have h5':((r.size:Int)==32)=true:=by rw[h5];rfl
      have H5:=hideL h5
      clear h5
      have hw:IntKind.i64.wrap (b*64)=b*64:=by rw[IntKind.wrap_i64];omega
      go_enter Tryz.func112,Tryz.ntmps112
      go_wp2_with fail
      go_ret
      exact⟨rfl,(Below.refl _ _).alloc (Nat.le_refl _) _⟩
     ·have HF:Hid (rightB z b r=false):=by unfold Hid rightB;simp;omega
      rw[HF.out]
      have h5':((r.size:Int)==32)=false:=beq_eq_false_iff_ne.2 (by omega)
      go_enter Tryz.func112,Tryz.ntmps112
      go_wp2_with fail
      go_ret
      exact⟨rfl,(Below.refl _ _).alloc (Nat.le_refl _) _⟩
theorem right_spec (z b:Int) (r:ByteArray) (w:World) :
  Calls Tryz.prog 101 #[lV z b r] w fun e w'=>e=.returned (.bool (rightB z b r))/\Below w.heap.size w w':=by
 unfold lV
 have hbl:∀ o,Below w.heap.size w (w.alloc o):=fun o=>(Below.refl _ _).alloc (Nat.le_refl _) _
 by_cases h1:0<=z/\z<=1000
 ·have H1:=hideL (fun W=>is_yes z 0 1000 W h1.1 h1.2)
  obtain⟨p,rfl⟩:=Int.eq_ofNat_of_zero_le h1.1
  by_cases h2:1<=b/\b<=48
  ·have H2:=hideL (fun W=>is_yes b 1 48 W h2.1 h2.2)
   obtain⟨k,rfl⟩:=Int.eq_ofNat_of_zero_le (show 0<=b by omega)
   by_cases h5:r.size=32
   ·have h5':((r.size:Int)==32)=true:=by rw[h5];rfl
    have HC:=hideL (fun W=>count_any p k W (by omega) (by omega) (by omega))
    have HE:=hideL (cnt_le (p:=p) (k:=k) (by omega))
    have H12:=hideL (And.intro h1 h2)
    have H5:=hideL h5
    clear h1 h2 h5
    by_cases h6:cnt p k<=64
    ·have HF:Hid (rightB p k r=true):=by unfold Hid rightB;have:=HE.out.1 h6;have:=H12.out;have:=H5.out;simp;omega
     have h6':((cnt p k:Nat):Int)<=64:=by omega
     rw[HF.out]
     generalize cnt p k=c at HC h6'
     clear h6 HE HF H12 H5
     go_enter Tryz.func101,Tryz.ntmps101
     go_wp2_with fail
     refine(H1.out _).mono ?_
     rintro e w1 ⟨rfl,hw⟩
     subst w1
     go_wp2_with fail
     refine(H2.out _).mono ?_
     rintro e w1 ⟨rfl,hw⟩
     subst w1
     go_wp2_with fail
     refine(HC.out _).mono ?_
     rintro e w1 ⟨rfl,hw⟩
     subst w1
     go_wp2_with fail
     go_ret
     exact⟨rfl,hbl _⟩
    ·have HF:Hid (rightB p k r=false):=by unfold Hid rightB;have:=HE.out.2;have:=H12.out;have:=H5.out;simp;omega
     have h6':decide (((cnt p k:Nat):Int)<=64)=false:=by simp;omega
     rw[HF.out]
     generalize cnt p k=c at HC h6'
     clear h6 HE HF H12 H5
     go_enter Tryz.func101,Tryz.ntmps101
     go_wp2_with fail
     refine(H1.out _).mono ?_
     rintro e w1 ⟨rfl,hw⟩
     subst w1
     go_wp2_with fail
     refine(H2.out _).mono ?_
     rintro e w1 ⟨rfl,hw⟩
     subst w1
     go_wp2_with fail
     refine(HC.out _).mono ?_
     rintro e w1 ⟨rfl,hw⟩
     subst w1
     go_wp2_with fail
     go_ret
     exact⟨rfl,hbl _⟩
   ·have HF:Hid (rightB p k r=false):=by unfold Hid rightB;simp;omega
    rw[HF.out]
    have h5':((r.size:Int)==32)=false:=beq_eq_false_iff_ne.2 (by omega)
    clear HF
    go_enter Tryz.func101,Tryz.ntmps101
    go_wp2_with fail
    refine(H1.out _).mono ?_
    rintro e w1 ⟨rfl,hw⟩
    subst w1
    go_wp2_with fail
    refine(H2.out _).mono ?_
    rintro e w1 ⟨rfl,hw⟩
    subst w1
    go_wp2_with fail
    go_ret
    exact⟨rfl,hbl _⟩
  ·have H2:=hideL (fun W=>is_no b 1 48 W (by omega))
   have HF:Hid (rightB p b r=false):=by unfold Hid rightB;simp;omega
   rw[HF.out]
   clear HF h2
   go_enter Tryz.func101,Tryz.ntmps101
   go_wp2_with fail
   refine(H1.out _).mono ?_
   rintro e w1 ⟨rfl,hw⟩
   subst w1
   go_wp2_with fail
   refine(H2.out _).mono ?_
   rintro e w1 ⟨rfl,hw⟩
   subst w1
   go_wp2_with fail
   go_ret
   exact⟨rfl,hbl _⟩
 ·have H1:=hideL (fun W=>is_no z 0 1000 W (by omega))
  have HF:Hid (rightB z b r=false):=by unfold Hid rightB;simp;omega
  rw[HF.out]
  clear HF h1
  go_enter Tryz.func101,Tryz.ntmps101
  go_wp2_with fail
  refine(H1.out _).mono ?_
  rintro e w1 ⟨rfl,hw⟩
  subst w1
  go_wp2_with fail
  go_ret
  exact⟨rfl,hbl _⟩
theorem count_impl (z b:Int) (r:ByteArray) (w:World) :
  Calls Tryz.prog 68 #[lV z b r] w fun e w'=>e=.returned (.int .i64 (countN z b r:Nat))/\Below w.heap.size w w':=by
 have HR:=hideL (fun W=>right_impl z b r W)
 cases hc:rightB z b r with
 |false =>
  have HF:=hideL (countN_no hc)
  rw[hc]at HR
  rw[HF.out]
  clear HF hc
  unfold lV at HR ⊢
  go_enter Tryz.func68,Tryz.ntmps68
  go_wp2_with fail
  refine(HR.out _).mono ?_
  rintro e w1 ⟨rfl,hb1⟩
  have HB1:=hideL (((Below.refl w.heap.size w).alloc (Nat.le_refl _) _).trans (hb1.mono (by simp)))
  clear hb1
  go_wp2_with fail
  go_ret
  exact⟨rfl,HB1.out⟩
 |true =>
  have h1:=rightB_yes hc
  obtain⟨p,rfl⟩:=Int.eq_ofNat_of_zero_le h1.1
  obtain⟨k,rfl⟩:=Int.eq_ofNat_of_zero_le (show 0<=b by omega)
  obtain⟨HF,hcb⟩:=countN_yes hc
  have HF:=hideL HF
  rw[HF.out]
  have hq:((p:Int)+k-1).tdiv k=((cnt p k:Nat):Int):=by
   unfold cnt
   rw[Int.tdiv_eq_ediv_of_nonneg (by omega),Int.natCast_ediv]
   congr 1
   omega
  have hk0:((k:Int)==0)=false:=by simp;omega
  rw[hc]at HR
  clear HF hc
  generalize cnt p k=c at hq hcb ⊢
  obtain⟨v,hv⟩:∃ v,v=lV p k r:=⟨_,rfl⟩
  unfold lV at HR ⊢
  go_enter Tryz.func68,Tryz.ntmps68
  go_wp2_with fail
  have HX:Hid ((w.alloc (.cells #[.int .i64 p,.int .i64 k,.string r] 30)).heap[w.heap.size]? = some (.cells #[.int .i64 p,.int .i64 k,.string r] 30 (0,0))):=heap_alloc_new w _
  refine(HR.out _).mono ?_
  rintro e w1 ⟨rfl,hb1⟩
  have HB1:=hideL (((Below.refl w.heap.size w).alloc (Nat.le_refl _) _).trans (hb1.mono (by simp)))
  have HX1:=hideL ((hb1.block _ (by simp)).trans HX.out)
  clear hb1 HX
  have c0:w1.cell? ⟨w.heap.size,0,none⟩=some (.int .i64 p):=cell_of_row w1 _ 0 _ _ _ HX1.out
  have c1:w1.cell? ⟨w.heap.size,1,none⟩=some (.int .i64 k):=cell_of_row w1 _ 1 _ _ _ HX1.out
  go_wp2_with fail
  go_ret
  exact⟨rfl,HB1.out⟩
theorem count_spec (z b:Int) (r:ByteArray) (w:World) :
  Calls Tryz.prog 59 #[lV z b r] w fun e w'=>e=.returned (.int .i64 (countN z b r:Nat))/\Below w.heap.size w w':=by
 have HR:=hideL (fun W=>right_spec z b r W)
 cases hc:rightB z b r with
 |false =>
  have HF:=hideL (countN_no hc)
  rw[hc]at HR
  rw[HF.out]
  clear HF hc
  unfold lV at HR ⊢
  go_enter Tryz.func59,Tryz.ntmps59
  go_wp2_with fail
  refine(HR.out _).mono ?_
  rintro e w1 ⟨rfl,hb1⟩
  have HB1:=hideL (((Below.refl w.heap.size w).alloc (Nat.le_refl _) _).trans (hb1.mono (by simp)))
  clear hb1
  go_wp2_with fail
  go_ret
  exact⟨rfl,HB1.out⟩
 |true =>
  have h1:=rightB_yes hc
  obtain⟨p,rfl⟩:=Int.eq_ofNat_of_zero_le h1.1
  obtain⟨k,rfl⟩:=Int.eq_ofNat_of_zero_le (show 0<=b by omega)
  obtain⟨HF,hcb⟩:=countN_yes hc
  have HF:=hideL HF
  rw[HF.out]
  have HC:=hideL (fun W=>count_any p k W (by omega) (by omega) (by omega))
  rw[hc]at HR
  clear HF hc
  generalize cnt p k=c at hcb HC ⊢
  unfold lV at HR ⊢
  go_enter Tryz.func59,Tryz.ntmps59
  go_wp2_with fail
  have HX:Hid ((w.alloc (.cells #[.int .i64 p,.int .i64 k,.string r] 30)).heap[w.heap.size]? = some (.cells #[.int .i64 p,.int .i64 k,.string r] 30 (0,0))):=heap_alloc_new w _
  refine(HR.out _).mono ?_
  rintro e w1 ⟨rfl,hb1⟩
  have HB1:=hideL (((Below.refl w.heap.size w).alloc (Nat.le_refl _) _).trans (hb1.mono (by simp)))
  have HX1:=hideL ((hb1.block _ (by simp)).trans HX.out)
  clear hb1 HX
  have c0:w1.cell? ⟨w.heap.size,0,none⟩=some (.int .i64 p):=cell_of_row w1 _ 0 _ _ _ HX1.out
  have c1:w1.cell? ⟨w.heap.size,1,none⟩=some (.int .i64 k):=cell_of_row w1 _ 1 _ _ _ HX1.out
  go_wp2_with fail
  refine(HC.out _).mono ?_
  rintro e w2 ⟨rfl,hw⟩
  subst w2
  go_wp2_with fail
  go_ret
  exact⟨rfl,HB1.out⟩
end Go.Proofs.YtpddanmnlkcdpaaGreatDoor.Ls


namespace Go.Proofs.YtpddanmnlkcdpaaGreatDoor.Ls
open Go.RowKit
theorem sz_yes (z b:Int) (r:ByteArray) (w:World) (h:r.size<=1048576) :
  Calls Tryz.prog 56 #[lV z b r,.int .i64 1048576] w fun e w'=>e=.returned (.int .i64 (1048576-(r.size:Int)))/\Below w.heap.size w w':=by
 unfold lV
 have hwr:IntKind.i64.wrap (1048576-(r.size:Int))=1048576-(r.size:Int):=by rw[IntKind.wrap_i64];omega
 have h1:¬(1048576-(r.size:Int))<0:=by omega
 have h2:decide ((1048576-(r.size:Int))<0)=false:=by simp;omega
 go_enter Tryz.func56,Tryz.ntmps56
 go_wp2_with fail
 go_ret
 exact⟨rfl,(Below.refl _ _).alloc (Nat.le_refl _) _⟩
theorem sz_no (z b:Int) (r:ByteArray) (w:World) (hr:r.size<=9223372036854775807) (h:1048576<r.size) :
  Calls Tryz.prog 56 #[lV z b r,.int .i64 1048576] w fun e w'=>e=.returned (.int .i64 (-1))/\Below w.heap.size w w':=by
 unfold lV
 have hwr:IntKind.i64.wrap (1048576-(r.size:Int))=1048576-(r.size:Int):=by rw[IntKind.wrap_i64];omega
 have h1:(1048576-(r.size:Int))<0:=by omega
 go_enter Tryz.func56,Tryz.ntmps56
 go_wp2_with fail
 go_ret
 exact⟨rfl,(Below.refl _ _).alloc (Nat.le_refl _) _⟩
theorem to_any (z b:Int) (r:ByteArray) (w:World) :
  Calls Tryz.prog 63 #[lV z b r] w fun e w'=>e=.returned (lV z b r)/\Below w.heap.size w w':=by
 unfold lV
 go_enter Tryz.func63,Tryz.ntmps63
 go_wp2
 refine bodyPost_ret (v:=.agg #[.int .i64 z,.int .i64 b,.string r]) (by simp[results,Tryz.results63,go_sem]) rfl ⟨rfl,?_⟩
 exact(((Below.refl _ _).alloc (Nat.le_refl _) _).alloc (by simp) _).alloc (by simp;omega) _
theorem blkL {w w':World} {g:Nat} {x:Obj} (h:w.heap[g]? = some x) (hb:Below w.heap.size w w'):w'.heap[g]? = some x:=(hb.block g (Array.getElem?_eq_some_iff.1 h).1).trans h
theorem lowL {w0 w w':World} (h:Below w0.heap.size w0 w) (hb:Below w.heap.size w w'):Below w0.heap.size w0 w':=h.trans (hb.mono h.size)
theorem cells3 {W:World} {g:Nat} {x y z:Value} {t:TypeId} (h:W.heap[g]? = some (.cells #[x,y,z] t (0,0))):W.cell? ⟨g,0,none⟩=some x/\W.cell? ⟨g,1,none⟩=some y/\W.cell? ⟨g,2,none⟩=some z :=
 ⟨cell_of_row W g 0 _ _ _ h,cell_of_row W g 1 _ _ _ h,cell_of_row W g 2 _ _ _ h⟩
end Go.Proofs.YtpddanmnlkcdpaaGreatDoor.Ls


namespace Go.Proofs.YtpddanmnlkcdpaaGreatDoor
open Go.RowKit Go.Extern.Stop Go.Stop Go.Extern
theorem Tryz.setD (ta b:Addr) (c:Int) (old:Value) (W:World) (hb:W.cell? b=some (.int .i64 c)) (ht:W.cell? ta=some old) (hf:W.frozen? ta=false) :
  (ReflectliteValue.set #[.agg #[.pointer (some ⟨4,235,none⟩),.pointer (some ta),.int .u64 409],.agg #[.pointer (some ⟨4,235,none⟩),.pointer (some b),.int .u64 153]]).run Tryz.prog W
   = .ok (.tuple #[]) (W.setCell ta (.int .i64 c)):=by
 refine Eq.trans (b:=(Bind.bind (ReflectliteValue.parts (.agg #[.pointer (some ⟨4,235,none⟩),.pointer (some ta),.int .u64 409])) _).run Tryz.prog W) rfl ?_
 simp only[Sem.run_bind,Tryz.partsDa,Result.andThen]
 erw[Tryz.partsD b W]
 simp[ReflectliteValue.flagAddr,loadVar,isAgg,underlying,Tryz.underlying235,Result.andThen,Tryz.directD,storeVar,Value.cells,storeCells,Addr.add]
 have hl:=run_loadCells_list (P:=Tryz.prog) W b [.int .i64 c] (by
  intro j v hj
  match j,hj with
  |0,hj=>simp at hj;subst hj;simpa [Addr.add] using hb)
 have hl':(loadCells b 1).run Tryz.prog W=.ok #[.int .i64 c] W:=hl
 rw[hl']
 simp[storeCells,Addr.add]
 rw[run_store Tryz.prog W ta _ _ (by rfl)]
 simp[ht,hf]
/-- a fault of the program's own type,asked for with errors.As: it is taken into the variable at t;four blocks are new -/
theorem as_hit (c:Int) (t:Addr) (old:Value) (w:World) (hg:w.cell? ⟨1,0,none⟩=some (.iface 280 (.agg #[.pointer (some ⟨4,213,none⟩)]))) (ht0:w.cell? t=some old) (hf0:w.frozen? t=false) :
  Calls Tryz.prog 195 #[.iface 235 (.agg #[.int .i64 c]),.iface 237 (.pointer (some t))] w fun ev w'=>ev=.returned (.bool true)/\w'=((((w.alloc (.cells #[.pointer (some t)] 237)).alloc (.cells #[.pointer (some ⟨4,237,none⟩),.pointer (some ⟨w.heap.size,0,none⟩),.int .u64 150] 259)).alloc (.cells #[.pointer (some ⟨4,237,none⟩),.pointer (some ⟨w.heap.size,0,none⟩),.int .u64 150] 259)).alloc (.cells #[.int .i64 c] 235)).setCell t (.int .i64 c):=by
 have hA:=@run_callFunc_extern Tryz.prog 212 _ (fun args=>ReflectliteValue.unpack (args.getD 0 (.tuple #[]))) Tryz.func212 (by kernel_rfl) (by kernel_rfl) (by kernel_rfl) (by kernel_rfl)
 have hB:=@run_callFunc_extern Tryz.prog 213 _ (ReflectliteValue.methodAny (ReflectliteValue.valueError "reflectlite.Value.Type" 0) (fun t _ _ _=>ReflectliteType.toType t)) Tryz.func213 (by kernel_rfl) (by kernel_rfl) (by kernel_rfl) (by kernel_rfl)
 have hC:=@run_callFunc_extern Tryz.prog 214 _ (ReflectliteValue.method (ReflectliteValue.valueError "reflectlite.Value.IsNil" 0) ReflectliteValue.isNil) Tryz.func214 (by kernel_rfl) (by kernel_rfl) (by kernel_rfl) (by kernel_rfl)
 have hD:=@run_callFunc_extern Tryz.prog 258 _ (ReflectliteType.abiMethod fun t=>do pure (.int .u8 (<-Rtype.kind t))) Tryz.func258 (by kernel_rfl) (by kernel_rfl) (by kernel_rfl) (by kernel_rfl)
 have hE:=@run_callFunc_extern Tryz.prog 269 _ (ReflectliteType.method ReflectliteType.elem) Tryz.func269 (by kernel_rfl) (by kernel_rfl) (by kernel_rfl) (by kernel_rfl)
 have hF:=@run_callFunc_extern Tryz.prog 270 _ (ReflectliteType.relation "Implements" ReflectliteType.implements_) Tryz.func270 (by kernel_rfl) (by kernel_rfl) (by kernel_rfl) (by kernel_rfl)
 have hG:=@run_callFunc_extern Tryz.prog 228 _ ReflectliteType.typeOf Tryz.func228 (by kernel_rfl) (by kernel_rfl) (by kernel_rfl) (by kernel_rfl)
 have hH:=@run_callFunc_extern Tryz.prog 267 _ (ReflectliteType.relation "AssignableTo" ReflectliteType.assignableTo) Tryz.func267 (by kernel_rfl) (by kernel_rfl) (by kernel_rfl) (by kernel_rfl)
 have hI:=@run_callFunc_extern Tryz.prog 229 _ (ReflectliteValue.method (ReflectliteValue.valueError "reflectlite.Value.Elem" 0) ReflectliteValue.elem) Tryz.func229 (by kernel_rfl) (by kernel_rfl) (by kernel_rfl) (by kernel_rfl)
 have hJ:=@run_callFunc_extern Tryz.prog 230 _ ReflectliteValue.set Tryz.func230 (by kernel_rfl) (by kernel_rfl) (by kernel_rfl) (by kernel_rfl)
 have f1:=Tryz.typeOfD
 have f2:=Tryz.methodAssignableTo
 have f3:=Tryz.assignableD
 have f4:=Tryz.valueOfD
 have f5:=Tryz.valueOfP
 have f6:=Tryz.typeP
 have f7:=Tryz.methodKind
 have f8:=Tryz.methodElem
 have f9:=Tryz.methodImplements
 have f10:=Tryz.kindP
 have f11:=Tryz.kindD
 have f12:=Tryz.elemP
 have f13:=Tryz.implementsD
 obtain⟨vb,hvb⟩:∃ vb,vb=Obj.cells #[.pointer (some ⟨4,237,none⟩),.pointer (some ⟨w.heap.size,0,none⟩),.int .u64 150] 259:=⟨_,rfl⟩
 have n8:=Tryz.isNilP ⟨w.heap.size,0,none⟩ t ((w.alloc (.cells #[.pointer (some t)] 237)).alloc vb) (by rw[hvb];simp)
 have hlt:1 < w.heap.size:=by
  rcases Nat.lt_or_ge 1 w.heap.size with h|h
  ·exact h
  ·simp[World.cell?,Array.getElem?_eq_none h]at hg
 have hg2:((w.alloc (.cells #[.pointer (some t)] 237)).alloc vb).cell? ⟨1,0,none⟩=some (.iface 280 (.agg #[.pointer (some ⟨4,213,none⟩)])):=by
  rw[World.cell?_alloc_lt _ _ ⟨1,0,none⟩ (Nat.lt_of_lt_of_le hlt (by simp)),World.cell?_alloc_lt _ _ ⟨1,0,none⟩ hlt];exact hg
 have htl:t.block<w.heap.size:=by
  rcases Nat.lt_or_ge t.block w.heap.size with h|h
  ·exact h
  ·simp[World.cell?,Array.getElem?_eq_none h]at ht0
 have el:=Tryz.elemVP ⟨w.heap.size,0,none⟩ t (((w.alloc (.cells #[.pointer (some t)] 237)).alloc vb).alloc vb) (by rw[World.cell?_alloc_lt _ _ ⟨w.heap.size,0,none⟩ (by simp;omega),hvb];simp)
 have st:=Tryz.setD t ⟨w.heap.size+1+1+1,0,none⟩ c old ((((w.alloc (.cells #[.pointer (some t)] 237)).alloc vb).alloc vb).alloc (.cells #[.int .i64 c] 235))
  (by rw[World.cell?_alloc_at _ _ _ _ (by simp)];rfl)
  (by rw[World.cell?_alloc_lt _ _ t (by simp;omega),World.cell?_alloc_lt _ _ t (by simp;omega),World.cell?_alloc_lt _ _ t (by simp;omega),World.cell?_alloc_lt _ _ t htl];exact ht0)
  (by rw[World.frozen?_alloc_old _ _ t (by simp;omega),World.frozen?_alloc_old _ _ t (by simp;omega),World.frozen?_alloc_old _ _ t (by simp;omega),World.frozen?_alloc_old _ _ t (Nat.ne_of_lt htl)];exact hf0)
 subst hvb
 go_enter Tryz.func195,Tryz.ntmps195
 go_wp2
 refine wp_loop_rounds 1 ?_
 rw[rounds_succ]
 go_wp2
 go_ret
 exact⟨rfl,rfl⟩
end Go.Proofs.YtpddanmnlkcdpaaGreatDoor

