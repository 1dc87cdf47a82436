/- Texts put together: KpArg. -/
import Derived.Test.YtikiihjabbmkcaaGreatDoorBz20
set_option maxRecDepth 100000
set_option maxHeartbeats 8000000
namespace Go.Proofs.YtikiihjabbmkcaaGreatDoor.Kp
open Go.RowKit
open Ls (lV sz_yes sz_no to_any eqL_same cells3)
def lkB (z b:Int) (r s:ByteArray) (y:Int):Obj:=.cells #[.int .i64 z,.int .i64 b,.string r,.string s,.int .i64 y] 25
theorem lk_cells {W:World} {g:Nat} {z b:Int} {r s:ByteArray} {y:Int} (h:W.heap[g]? = some (lkB z b r s y)):W.cell? ⟨g,0,none⟩=some (.int .i64 z)/\W.cell? ⟨g,1,none⟩=some (.int .i64 b)/\W.cell? ⟨g,2,none⟩=some (.string r)/\W.cell? ⟨g,3,none⟩=some (.string s)/\W.cell? ⟨g,4,none⟩=some (.int .i64 y) :=
 ⟨cell_of_row W g 0 _ _ _ h,cell_of_row W g 1 _ _ _ h,cell_of_row W g 2 _ _ _ h,cell_of_row W g 3 _ _ _ h,cell_of_row W g 4 _ _ _ h⟩
theorem szK_yes (z b:Int) (r s:ByteArray) (y:Int) (w:World) (h:r.size+s.size<=1048576) :
  Calls Tryz.prog 9 #[kV z b r s y,.int .i64 1048576] w fun e w'=>e=.returned (.int .i64 (1048576-(r.size:Int)-(s.size:Int)))/\Below w.heap.size w w':=by
 have HZ:=hideK (fun W=>sz_yes z b r W (by omega))
 have C0:=hideK ((Cx.nil w).new (lkB z b r s y))
 have hw1:IntKind.i64.wrap (1048576-(r.size:Int)-(s.size:Int))=1048576-(r.size:Int)-(s.size:Int):=by rw[IntKind.wrap_i64];omega
 have h1:¬(1048576-(r.size:Int))<0:=by omega
 have h2:decide ((1048576-(r.size:Int))<0)=false:=by simp;omega
 have h3:¬(1048576-(r.size:Int)-(s.size:Int))<0:=by omega
 have h4:decide ((1048576-(r.size:Int)-(s.size:Int))<0)=false:=by simp;omega
 unfold kV
 unfold lkB at C0
 unfold lV at HZ
 go_enter Tryz.func9,Tryz.ntmps9
 go_wp2_with fail
 refine(HZ.out _).mono ?_
 rintro e w1 ⟨rfl,hb⟩
 have C1:=hideK (C0.out.call hb)
 clear hb C0
 obtain⟨l0,l1,l2,l3,l4⟩:=lk_cells (C1.out.get 0 rfl)
 go_wp2_with fail
 go_ret
 exact⟨rfl,C1.out.low⟩
theorem szK_no (z b:Int) (r s:ByteArray) (y:Int) (w:World) (hr:r.size<=9223372036854775807) (hs:s.size<=9223372036854775807) (h:¬r.size+s.size<=1048576) :
  Calls Tryz.prog 9 #[kV z b r s y,.int .i64 1048576] w fun e w'=>e=.returned (.int .i64 (-1))/\Below w.heap.size w w':=by
 have C0:=hideK ((Cx.nil w).new (lkB z b r s y))
 unfold kV
 unfold lkB at C0
 by_cases h0:r.size<=1048576
 ·have HZ:=hideK (fun W=>sz_yes z b r W h0)
  have hw1:IntKind.i64.wrap (1048576-(r.size:Int)-(s.size:Int))=1048576-(r.size:Int)-(s.size:Int):=by rw[IntKind.wrap_i64];omega
  have h1:¬(1048576-(r.size:Int))<0:=by omega
  have h2:decide ((1048576-(r.size:Int))<0)=false:=by simp;omega
  have h3:(1048576-(r.size:Int)-(s.size:Int))<0:=by omega
  unfold lV at HZ
  go_enter Tryz.func9,Tryz.ntmps9
  go_wp2_with fail
  refine(HZ.out _).mono ?_
  rintro e w1 ⟨rfl,hb⟩
  have C1:=hideK (C0.out.call hb)
  clear hb C0
  obtain⟨l0,l1,l2,l3,l4⟩:=lk_cells (C1.out.get 0 rfl)
  go_wp2_with fail
  go_ret
  exact⟨rfl,C1.out.low⟩
 ·have HZ:=hideK (fun W=>sz_no z b r W hr (by omega))
  unfold lV at HZ
  go_enter Tryz.func9,Tryz.ntmps9
  go_wp2_with fail
  refine(HZ.out _).mono ?_
  rintro e w1 ⟨rfl,hb⟩
  have C1:=hideK (C0.out.call hb)
  clear hb C0
  go_wp2_with fail
  go_ret
  exact⟨rfl,C1.out.low⟩
theorem toK_any (z b:Int) (r s:ByteArray) (y:Int) (w:World) :
  Calls Tryz.prog 11 #[kV z b r s y] w fun e w'=>e=.returned (kV z b r s y)/\Below w.heap.size w w':=by
 have HT:=hideK (fun W=>to_any z b r W)
 have C0:=hideK ((((Cx.nil w).new (lkB z b r s y)).new kZ).new kZ)
 simp only[World.size_alloc]at C0
 unfold kV
 unfold lV at HT
 unfold lkB kZ at C0
 go_enter Tryz.func11,Tryz.ntmps11
 go_wp2_with fail
 generalize ((w.alloc _).alloc _).alloc _=W0 at C0 ⊢
 refine(HT.out _).mono ?_
 rintro e w1 ⟨rfl,hb⟩
 have C1:=hideK (C0.out.call hb)
 clear hb C0
 obtain⟨l0,l1,l2,l3,l4⟩:=lk_cells (C1.out.get 2 rfl)
 obtain⟨k0,k1,k2,k3,k4⟩:=cells5 (C1.out.get 0 rfl)
 have ff:=fun o=>frozen_of_row w1 (w.heap.size+1+1) o _ _ (C1.out.get 0 rfl)
 have X5:=hideK (set5 (C1.out.get 0 rfl) (.int .i64 z) (.int .i64 b) (.string r) (.string s) (.int .i64 y))
 have D1:Hid (Cx w w1 [(w.heap.size+1,.cells #[.int .i64 0,.int .i64 0,.string ⟨#[]⟩,.string ⟨#[]⟩,.int .i64 0] 31)]):=⟨C1.out.low,fun x hx=>C1.out.blk x (by rw[List.mem_singleton.1 hx];simp)⟩
 have ne:∀ x∈[(w.heap.size+1,Obj.cells #[.int .i64 0,.int .i64 0,.string ⟨#[]⟩,.string ⟨#[]⟩,.int .i64 0] 31)],x.1≠w.heap.size+1+1:=fun x hx=>by rw[List.mem_singleton.1 hx];show w.heap.size+1≠w.heap.size+1+1;omega
 have D5:=hideK (((((D1.out.set (g:=w.heap.size+1+1) (by omega) ne 0 (.int .i64 z)).set (g:=w.heap.size+1+1) (by omega) ne 1 (.int .i64 b)).set (g:=w.heap.size+1+1) (by omega) ne 2 (.string r)).set (g:=w.heap.size+1+1) (by omega) ne 3 (.string s)).set (g:=w.heap.size+1+1) (by omega) ne 4 (.int .i64 y))
 clear C1 D1 ne
 go_upto_region 5 with fail
 generalize ((((w1.setCell _ _).setCell _ _).setCell _ _).setCell _ _).setCell _ _=W5 at X5 D5 ⊢
 clear l0 l1 l2 l3 l4 k0 k1 k2 k3 k4 ff
 obtain⟨k0,k1,k2,k3,k4⟩:=cells5 X5.out
 obtain⟨q0,q1,q2,q3,q4⟩:=cells5 (D5.out.get 0 rfl)
 have ff:=fun o=>frozen_of_row W5 (w.heap.size+1) o _ _ (D5.out.get 0 rfl)
 have HF:=hideK (ans5 (D5.out.get 0 rfl) D5.out.low (Nat.le_succ _) (.int .i64 z) (.int .i64 b) (.string r) (.string s) (.int .i64 y))
 have s5:=cells5 HF.out.2
 go_wp2_with fail
 exact bodyPost_ret (v:=.agg #[.int .i64 z,.int .i64 b,.string r,.string s,.int .i64 y]) (by simp[results,Tryz.results11,go_sem,s5.1,s5.2.1,s5.2.2.1,s5.2.2.2.1,s5.2.2.2.2]) rfl ⟨rfl,HF.out.1⟩
theorem eqK_same (z b:Int) (r s:ByteArray) (y:Int) (w:World) :
  Calls Tryz.prog 53 #[kV z b r s y,kV z b r s y] w fun e w'=>e=.returned (.bool true)/\Below w.heap.size w w':=by
 have HL:=hideK (fun W=>eqL_same z b r W)
 have h1:(y != y)=false:=by simp
 have C0:=hideK (((Cx.nil w).new (kB z b r s y)).new (kB z b r s y))
 simp only[World.size_alloc]at C0
 unfold kV
 unfold kB at C0
 go_enter Tryz.func53,Tryz.ntmps53
 go_wp2_with fail
 generalize (w.alloc _).alloc _=W0 at C0 ⊢
 refine(HL.out _).mono ?_
 rintro e w1 ⟨rfl,hb⟩
 have C1:=hideK (C0.out.call hb)
 clear hb C0
 obtain⟨l0,l1,l2,l3,l4⟩:=k_cells (C1.out.get 0 rfl)
 obtain⟨k0,k1,k2,k3,k4⟩:=k_cells (C1.out.get 1 rfl)
 go_wp2_with fail
 go_ret
 exact⟨rfl,C1.out.low⟩
end Go.Proofs.YtikiihjabbmkcaaGreatDoor.Kp

