import Derived.Test.YtbdcffjcogglbaaGreatDoorOzNl
import Derived.Test.YtbdcffjcogglbaaGreatDoorProg
import Derived.WalkKit
import Derived.WalkSpells
import Derived.LaidEql
import Derived.Stop.Asserts
import Derived.RowKitTokens
import Derived.Test.YtbdcffjcogglbaaGreatDoorChecked
import Derived.WalkLawsBesides
import Derived.BigRegion
import Derived.Deep.QuietTactic
import Derived.BigQuiet
import Derived.Laws.BitsAllLaws
set_option maxRecDepth 100000
set_option maxHeartbeats 8000000
namespace Go.Proofs.YtbdcffjcogglbaaGreatDoor
open Go.RowKit
open Go.Proofs.Tryz
open Go.RowKit Go.Extern.Stop Go.Stop Go.Extern
theorem Tryz.valueOfP (t:Addr) (w:World):(ReflectliteValue.unpack (.iface 173 (.pointer (some t)))).run prog w
  = .ok (.agg #[.pointer (some ⟨4,173,none⟩),.pointer (some ⟨w.heap.size,0,none⟩),.int .u64 150]) (w.alloc (.cells #[.pointer (some t)] 173)):=by kernel_rfl
theorem Tryz.typeP (a:Addr) (w:World):(ReflectliteValue.methodAny (ReflectliteValue.valueError "reflectlite.Value.Type" 0) (fun t _ _ _=>ReflectliteType.toType t) #[.agg #[.pointer (some ⟨4,173,none⟩),.pointer (some a),.int .u64 150]]).run prog w
  = .ok (.iface 182 (.agg #[.pointer (some ⟨4,173,none⟩)])) w:=by kernel_rfl
theorem Tryz.methodKind (h:Value) (w:World):(Go.method 396 182 (.agg #[h]) "Kind").run prog w=.ok (233,h) w:=by kernel_rfl
theorem Tryz.kindP (w:World):((ReflectliteType.abiMethod fun t=>(fun a:Nat=>Value.int IntKind.u8 (a:Int)) <$> Rtype.kind t) #[.pointer (some ⟨4,173,none⟩)]).run prog w=.ok (.int .u8 22) w:=by kernel_rfl
theorem Tryz.kindD (w:World):((ReflectliteType.abiMethod fun t=>(fun a:Nat=>Value.int IntKind.u8 (a:Int)) <$> Rtype.kind t) #[.pointer (some ⟨4,171,none⟩)]).run prog w=.ok (.int .u8 25) w:=by kernel_rfl
theorem Tryz.partsP (a:Addr) (w:World):(ReflectliteValue.parts (.agg #[.pointer (some ⟨4,173,none⟩),.pointer (some a),.int .u64 150])).run prog w=.ok (some (173,a,150)) w:=by kernel_rfl
theorem Tryz.isNilP (a p:Addr) (W:World) (ha:W.cell? a=some (.pointer (some p))) :
  (ReflectliteValue.method (ReflectliteValue.valueError "reflectlite.Value.IsNil" 0) ReflectliteValue.isNil #[.agg #[.pointer (some ⟨4,173,none⟩),.pointer (some a),.int .u64 150]]).run prog W=.ok (.bool false) W:=by
 refine Eq.trans (b:=(Bind.bind (ReflectliteValue.parts (.agg #[.pointer (some ⟨4,173,none⟩),.pointer (some a),.int .u64 150])) _).run prog W) rfl ?_;simp only[Sem.run_bind,Tryz.partsP,Result.andThen];simp[ReflectliteValue.isNil,loadVar,isAgg,underlying,underlying173,ha,Result.andThen]
theorem Tryz.methodElem (h:Value) (w:World):(Go.method 396 182 (.agg #[h]) "Elem").run prog w=.ok (242,.agg #[h]) w:=by kernel_rfl
theorem Tryz.methodImplements (h:Value) (w:World):(Go.method 396 182 (.agg #[h]) "Implements").run prog w=.ok (243,.agg #[h]) w:=by kernel_rfl
theorem Tryz.methodAssignableTo (h:Value) (w:World):(Go.method 396 182 (.agg #[h]) "AssignableTo").run prog w=.ok (240,.agg #[h]) w:=by kernel_rfl
theorem Tryz.elemP (w:World):(ReflectliteType.method ReflectliteType.elem #[.agg #[.pointer (some ⟨4,173,none⟩)]]).run prog w=.ok (.iface 182 (.agg #[.pointer (some ⟨4,171,none⟩)])) w:=by kernel_rfl
theorem Tryz.implementsD (w:World):(ReflectliteType.relation "Implements" ReflectliteType.implements_ #[.agg #[.pointer (some ⟨4,171,none⟩)],.iface 182 (.agg #[.pointer (some ⟨4,85,none⟩)])]).run prog w=.ok (.bool true) w:=by kernel_rfl
theorem Tryz.typeOfD (v:Value) (w:World):(ReflectliteType.typeOf #[.iface 171 v]).run prog w=.ok (.iface 182 (.agg #[.pointer (some ⟨4,171,none⟩)])) w:=by kernel_rfl
theorem Tryz.assignableD (w:World):(ReflectliteType.relation "AssignableTo" ReflectliteType.assignableTo #[.agg #[.pointer (some ⟨4,171,none⟩)],.iface 182 (.agg #[.pointer (some ⟨4,171,none⟩)])]).run prog w=.ok (.bool true) w:=by kernel_rfl
theorem Tryz.valueOfD (c:Int) (w:World):(ReflectliteValue.unpack (.iface 171 (.agg #[.int .i64 c]))).run prog w
  = .ok (.agg #[.pointer (some ⟨4,171,none⟩),.pointer (some ⟨w.heap.size,0,none⟩),.int .u64 153]) (w.alloc (.cells #[.int .i64 c] 171)):=by kernel_rfl
theorem Tryz.elemOfP (w:World):(Rtype.elem? 173).run prog w=.ok (some 171) w:=by kernel_rfl
theorem Tryz.mkD (p:Addr) (w:World):(ReflectliteValue.mk 171 p ReflectliteValue.flagAddr).run prog w=.ok (.agg #[.pointer (some ⟨4,171,none⟩),.pointer (some p),.int .u64 409]) w:=by kernel_rfl
theorem Tryz.elemVP (a p:Addr) (W:World) (ha:W.cell? a=some (.pointer (some p))) :
  (ReflectliteValue.method (ReflectliteValue.valueError "reflectlite.Value.Elem" 0) ReflectliteValue.elem #[.agg #[.pointer (some ⟨4,173,none⟩),.pointer (some a),.int .u64 150]]).run prog W
   = .ok (.agg #[.pointer (some ⟨4,171,none⟩),.pointer (some p),.int .u64 409]) W:=by
 refine Eq.trans (b:=(Bind.bind (ReflectliteValue.parts (.agg #[.pointer (some ⟨4,173,none⟩),.pointer (some a),.int .u64 150])) _).run prog W) rfl ?_;simp only[Sem.run_bind,Tryz.partsP,Result.andThen];simp[ReflectliteValue.elem,loadVar,isAgg,underlying,underlying173,ha,Result.andThen,Tryz.elemOfP,Tryz.mkD]
theorem Tryz.partsDa (a:Addr) (w:World):(ReflectliteValue.parts (.agg #[.pointer (some ⟨4,171,none⟩),.pointer (some a),.int .u64 409])).run prog w=.ok (some (171,a,409)) w:=by kernel_rfl
theorem Tryz.partsD (a:Addr) (w:World):(ReflectliteValue.parts (.agg #[.pointer (some ⟨4,171,none⟩),.pointer (some a),.int .u64 153])).run prog w=.ok (some (171,a,153)) w:=by kernel_rfl
theorem Tryz.directD (w:World):(Rtype.directlyAssignable 171 171).run prog w=.ok true w:=by kernel_rfl
open Go.RowKit Go.Extern.Stop Go.Stop Go.Extern
theorem Tryz.setD (ta b:Addr) (c:Int) (old:Value) (W:World) (hb:W.cell? b=some (.int .i64 c)) (ht:W.cell? ta=some old) (hf:W.frozen? ta=false) :
  (ReflectliteValue.set #[.agg #[.pointer (some ⟨4,171,none⟩),.pointer (some ta),.int .u64 409],.agg #[.pointer (some ⟨4,171,none⟩),.pointer (some b),.int .u64 153]]).run prog W
   = .ok (.tuple #[]) (W.setCell ta (.int .i64 c)):=by
 refine Eq.trans (b:=(Bind.bind (ReflectliteValue.parts (.agg #[.pointer (some ⟨4,171,none⟩),.pointer (some ta),.int .u64 409])) _).run prog W) rfl ?_;simp only[Sem.run_bind,Tryz.partsDa,Result.andThen]
 erw[Tryz.partsD b W]
 simp[ReflectliteValue.flagAddr,loadVar,isAgg,underlying,underlying171,Result.andThen,Tryz.directD,storeVar,Value.cells,storeCells,Addr.add]
 have hl:=run_loadCells_list (P:=prog) W b [.int .i64 c] (by
  intro j v hj
  match j,hj with
  |0,hj=>simp at hj;subst hj;simpa [Addr.add] using hb)
 have hl':(loadCells b 1).run prog W=.ok #[.int .i64 c] W:=hl;rw[hl'];simp[storeCells,Addr.add];rw[run_store prog W ta _ _ (by rfl)];simp[ht,hf]
/-- a fault of the program's own type,asked for with errors.As: it is taken into the variable at t;four blocks are new -/
theorem as_hit (c:Int) (t:Addr) (old:Value) (w:World) (hg:w.cell? ⟨3,0,none⟩=some (.iface 182 (.agg #[.pointer (some ⟨4,85,none⟩)]))) (ht0:w.cell? t=some old) (hf0:w.frozen? t=false) :
  Calls prog 144 #[.iface 171 (.agg #[.int .i64 c]),.iface 173 (.pointer (some t))] w fun ev w'=>ev=.returned (.bool true)/\w'=((((w.alloc (.cells #[.pointer (some t)] 173)).alloc (.cells #[.pointer (some ⟨4,173,none⟩),.pointer (some ⟨w.heap.size,0,none⟩),.int .u64 150] 221)).alloc (.cells #[.pointer (some ⟨4,173,none⟩),.pointer (some ⟨w.heap.size,0,none⟩),.int .u64 150] 221)).alloc (.cells #[.int .i64 c] 171)).setCell t (.int .i64 c):=by
 have hA:=@run_callFunc_extern prog 174 _ (fun args=>ReflectliteValue.unpack (args.getD 0 (.tuple #[]))) func174 (by kernel_rfl) (by kernel_rfl) (by kernel_rfl) (by kernel_rfl);have hB:=@run_callFunc_extern prog 175 _ (ReflectliteValue.methodAny (ReflectliteValue.valueError "reflectlite.Value.Type" 0) (fun t _ _ _=>ReflectliteType.toType t)) func175 (by kernel_rfl) (by kernel_rfl) (by kernel_rfl) (by kernel_rfl);have hC:=@run_callFunc_extern prog 176 _ (ReflectliteValue.method (ReflectliteValue.valueError "reflectlite.Value.IsNil" 0) ReflectliteValue.isNil) func176 (by kernel_rfl) (by kernel_rfl) (by kernel_rfl) (by kernel_rfl);have hD:=@run_callFunc_extern prog 233 _ (ReflectliteType.abiMethod fun t=>do pure (.int .u8 (<-Rtype.kind t))) func233 (by kernel_rfl) (by kernel_rfl) (by kernel_rfl) (by kernel_rfl);have hE:=@run_callFunc_extern prog 242 _ (ReflectliteType.method ReflectliteType.elem) func242 (by kernel_rfl) (by kernel_rfl) (by kernel_rfl) (by kernel_rfl);have hF:=@run_callFunc_extern prog 243 _ (ReflectliteType.relation "Implements" ReflectliteType.implements_) func243 (by kernel_rfl) (by kernel_rfl) (by kernel_rfl) (by kernel_rfl);have hG:=@run_callFunc_extern prog 118 _ ReflectliteType.typeOf func118 (by kernel_rfl) (by kernel_rfl) (by kernel_rfl) (by kernel_rfl);have hH:=@run_callFunc_extern prog 240 _ (ReflectliteType.relation "AssignableTo" ReflectliteType.assignableTo) func240 (by kernel_rfl) (by kernel_rfl) (by kernel_rfl) (by kernel_rfl);have hI:=@run_callFunc_extern prog 197 _ (ReflectliteValue.method (ReflectliteValue.valueError "reflectlite.Value.Elem" 0) ReflectliteValue.elem) func197 (by kernel_rfl) (by kernel_rfl) (by kernel_rfl) (by kernel_rfl);have hJ:=@run_callFunc_extern prog 198 _ ReflectliteValue.set func198 (by kernel_rfl) (by kernel_rfl) (by kernel_rfl) (by kernel_rfl);have f1:=Tryz.typeOfD;have f2:=Tryz.methodAssignableTo;have f3:=Tryz.assignableD;have f4:=Tryz.valueOfD;have f5:=Tryz.valueOfP;have f6:=Tryz.typeP;have f7:=Tryz.methodKind;have f8:=Tryz.methodElem;have f9:=Tryz.methodImplements;have f10:=Tryz.kindP;have f11:=Tryz.kindD;have f12:=Tryz.elemP;have f13:=Tryz.implementsD;obtain⟨vb,hvb⟩:∃ vb,vb=Obj.cells #[.pointer (some ⟨4,173,none⟩),.pointer (some ⟨w.heap.size,0,none⟩),.int .u64 150] 221:=⟨_,rfl⟩;have n8:=Tryz.isNilP ⟨w.heap.size,0,none⟩ t ((w.alloc (.cells #[.pointer (some t)] 173)).alloc vb) (by rw[hvb];simp)
 have hlt:3 < w.heap.size:=by
  rcases Nat.lt_or_ge 3 w.heap.size with h|h
  ·exact h
  ·simp[World.cell?,Array.getElem?_eq_none h]at hg
 have hg2:((w.alloc (.cells #[.pointer (some t)] 173)).alloc vb).cell? ⟨3,0,none⟩=some (.iface 182 (.agg #[.pointer (some ⟨4,85,none⟩)])):=by
  rw[World.cell?_alloc_lt _ _ ⟨3,0,none⟩ (Nat.lt_of_lt_of_le hlt (by simp)),World.cell?_alloc_lt _ _ ⟨3,0,none⟩ hlt];exact hg
 have htl:t.block<w.heap.size:=by
  rcases Nat.lt_or_ge t.block w.heap.size with h|h
  ·exact h
  ·simp[World.cell?,Array.getElem?_eq_none h]at ht0
 have el:=Tryz.elemVP ⟨w.heap.size,0,none⟩ t (((w.alloc (.cells #[.pointer (some t)] 173)).alloc vb).alloc vb) (by rw[World.cell?_alloc_lt _ _ ⟨w.heap.size,0,none⟩ (by simp;omega),hvb];simp)
 have st:=Tryz.setD t ⟨w.heap.size+1+1+1,0,none⟩ c old ((((w.alloc (.cells #[.pointer (some t)] 173)).alloc vb).alloc vb).alloc (.cells #[.int .i64 c] 171))
  (by rw[World.cell?_alloc_at _ _ _ _ (by simp)];rfl)
  (by rw[World.cell?_alloc_lt _ _ t (by simp;omega),World.cell?_alloc_lt _ _ t (by simp;omega),World.cell?_alloc_lt _ _ t (by simp;omega),World.cell?_alloc_lt _ _ t htl];exact ht0)
  (by rw[World.frozen?_alloc_old _ _ t (by simp;omega),World.frozen?_alloc_old _ _ t (by simp;omega),World.frozen?_alloc_old _ _ t (by simp;omega),World.frozen?_alloc_old _ _ t (Nat.ne_of_lt htl)];exact hf0)
 subst hvb;go_enter func144,ntmps144
 go_wp2
 refine wp_loop_rounds 1 ?_;rw[rounds_succ]
 go_wp2
 go_ret;exact⟨rfl,rfl⟩
namespace Dr
theorem hideD {p:Prop} (h:p):Hid p:=h
def Row (w:World) (B:Nat) (a:Option Addr) (len:Nat):Prop :=
 len=0∨∃ b off,a=some ⟨b,off,none⟩/\b<B/\∀ i,i<len->∃ z:Int,w.cell? ⟨b,off+i,none⟩=some (.int .u8 z)/\0<=z/\z<=255
def Src (w:World) (B:Nat) (a:Option Addr) (len cap:Nat):Prop :=
 Row w B a len/\∃ at_ mix size:Int,w.heap[B]? = some (.cells #[.slice a len cap,.int .i64 at_,.int .u64 mix,.int .i64 size] 67 (0,0)) /\
  0<=at_/\at_<=len/\0<=mix/\mix<=18446744073709551615/\0<=size/\size<=12
theorem wrap64_bd (x:Int):0<=IntKind.u64.wrap x/\IntKind.u64.wrap x<=18446744073709551615:=by rw[IntKind.wrap_u64];omega
theorem xor_bd (x y:Int) (h0:0<=x) (h1:x<=18446744073709551615) (h2:0<=y) (h3:y<=18446744073709551615) :
  0<=bits BinOp.xor IntKind.u64 x y/\bits BinOp.xor IntKind.u64 x y<=18446744073709551615:=by
 obtain⟨m,rfl⟩:=Int.eq_ofNat_of_zero_le h0;obtain⟨n,rfl⟩:=Int.eq_ofNat_of_zero_le h2;rw[u64_xor_nat m n (by omega) (by omega)]
 have:=Nat.xor_lt_two_pow (n:=64) (x:=m) (y:=n) (by omega) (by omega)
 omega
theorem sc1 {W:World} {p:Addr} {x:Value} (h:W.cell? p=some x) (v:Value):(W.setCell p v).cell? p=some v:=by
 exact World.cell?_setCell_same W p v h
theorem sc2 {W:World} {p:Addr} {x:Value} (h:W.cell? p=some x) (v v2:Value):((W.setCell p v).setCell p v2).cell? p=some v2:=sc1 (sc1 h v) v2
theorem sc3 {W:World} {p:Addr} {x:Value} (h:W.cell? p=some x) (v v2 v3:Value):(((W.setCell p v).setCell p v2).setCell p v3).cell? p=some v3:=sc1 (sc2 h v v2) v3
def Only (B:Nat) (w w':World):Prop:=w'.os=w.os/\w'.tape=w.tape/\w'.output=w.output/\w'.heap.size=w.heap.size/\∀ k,k≠B->w'.heap[k]? = w.heap[k]?
theorem Only.refl (B:Nat) (w:World):Only B w w:=⟨rfl,rfl,rfl,rfl,fun _ _=>rfl⟩
theorem Only.drew {B:Nat} {w w':World} (h:Only B w w'):Only B w w'.drew:=h
theorem Only.drewN {B:Nat} (w:World) (n:Nat):Only B w (w.drewN n):=⟨rfl,rfl,rfl,rfl,fun _ _=>rfl⟩
theorem Only.set {B:Nat} {w w':World} (h:Only B w w') (o:Nat) (v:Value):Only B w (w'.setCell ⟨B,o,none⟩ v) :=
 ⟨h.1,h.2.1,h.2.2.1,by simpa [World.setCell] using h.2.2.2.1,fun k hk=>(heap_setCell_other w' ⟨B,o,none⟩ k v hk).trans (h.2.2.2.2 k hk)⟩
theorem Only.trans {B:Nat} {a b c:World} (h:Only B a b) (k:Only B b c):Only B a c :=
 ⟨k.1.trans h.1,k.2.1.trans h.2.1,k.2.2.1.trans h.2.2.1,k.2.2.2.1.trans h.2.2.2.1,fun i hi=>(k.2.2.2.2 i hi).trans (h.2.2.2.2 i hi)⟩
theorem Only.below {B C:Nat} {w0 w w':World} (hb:Below C w0 w) (h:Only B w w') (hC:C<=B):Below C w0 w' :=
 hb.trans ⟨h.1,h.2.1,h.2.2.1,by rw[h.2.2.2.1];exact nl,fun k hk=>h.2.2.2.2 k (by omega)⟩
theorem Only.row {B:Nat} {w w':World} {a:Option Addr} {len:Nat} (h:Only B w w') (hr:Row w B a len):Row w' B a len:=by
 rcases hr with h0|⟨b,off,rfl,hb,hc⟩
 ·exact .inl h0
 ·refine .inr ⟨b,off,rfl,hb,fun i hi=>?_⟩
  obtain⟨z,hz,h1,h2⟩:=hc i hi;exact⟨z,(World.cell?_of_block (w:=w) (a:=⟨b,off+i,none⟩) (h.2.2.2.2 b (Nat.ne_of_lt hb))).trans hz,h1,h2⟩
theorem rem_bd (y most:Int) (h0:0<=y) (h1:1<most) (h2:most<=9223372036854775807):0<=wrap64 (y.tmod most)/\wrap64 (y.tmod most)<most:=by
 rw[Int.tmod_eq_emod_of_nonneg h0];have a1:=Int.emod_nonneg y (show most≠0 by omega);have a2:=Int.emod_lt_of_pos y (show 0<most by omega);simp only[wrap64];omega
theorem src_set {w w':World} {B:Nat} {a:Option Addr} {len cap:Nat} {at_ mix size:Int} (hr:Row w B a len) (ho:Only B w w')
  (hb:w'.heap[B]? = some (.cells #[.slice a len cap,.int .i64 at_,.int .u64 mix,.int .i64 size] 67 (0,0)))
  (h1:0<=at_) (h2:at_<=len) (h3:0<=mix/\mix<=18446744073709551615) (h4:0<=size) (h5:size<=12):Src w' B a len cap :=
 ⟨ho.row hr,at_,mix,size,hb,h1,h2,h3.1,h3.2,h4,h5⟩
theorem blk_set {W:World} {B:Nat} {x0 x1 x2 x3:Value} {T:TypeId} (h:W.heap[B]? = some (.cells #[x0,x1,x2,x3] T (0,0))) (v:Value) :
  (W.setCell ⟨B,2,none⟩ v).heap[B]? = some (.cells #[x0,x1,v,x3] T (0,0)):=by
 rw[heap_setCell_same W B 2 _ T v h];rfl
theorem blk_set1 {W:World} {B:Nat} {x0 x1 x2 x3:Value} {T:TypeId} (h:W.heap[B]? = some (.cells #[x0,x1,x2,x3] T (0,0))) (v:Value) :
  (W.setCell ⟨B,1,none⟩ v).heap[B]? = some (.cells #[x0,v,x2,x3] T (0,0)):=by
 rw[heap_setCell_same W B 1 _ T v h];rfl
theorem step1 (m:Int) (h:0<=m/\m<=18446744073709551615) (y:Int):0<=bits BinOp.xor IntKind.u64 m (IntKind.u64.wrap y)/\bits BinOp.xor IntKind.u64 m (IntKind.u64.wrap y)<=18446744073709551615 :=
 xor_bd m _ h.1 h.2 (wrap64_bd y).1 (wrap64_bd y).2
theorem step2 (m:Int) (h:0<=m/\m<=18446744073709551615):0<=bits BinOp.xor IntKind.u64 m (m/128)/\bits BinOp.xor IntKind.u64 m (m/128)<=18446744073709551615 :=
 xor_bd m _ h.1 h.2 (by omega) (by omega)
theorem n_past (B:Nat) (a:Option Addr) (len cap:Nat) (most at_ mix size:Int) (w:World) (hm:1<most) (hm2:most<=9223372036854775807) (hr:Row w B a len)
  (hb:w.heap[B]? = some (.cells #[.slice a len cap,.int .i64 at_,.int .u64 mix,.int .i64 size] 67 (0,0)))
  (h0:0<=at_) (h1:¬at_<len) (h1':at_<=len) (h2:0<=mix) (h3:mix<=18446744073709551615) (h4:0<=size) (h5:size<=12) :
  Calls prog 34 #[.pointer (some ⟨B,0,none⟩),.int .i64 most] w fun e w'=>∃ r,e=.returned (.int .i64 r)/\0<=r/\r<most/\Src w' B a len cap/\Only B w w':=by
 have c0:w.cell? ⟨B,0,none⟩=some (.slice a len cap):=by rw[cell_of_row w B 0 _ _ _ hb];rfl
 have c1:w.cell? ⟨B,1,none⟩=some (.int .i64 at_):=by rw[cell_of_row w B 1 _ _ _ hb];rfl
 have c2:w.cell? ⟨B,2,none⟩=some (.int .u64 mix):=by rw[cell_of_row w B 2 _ _ _ hb];rfl
 have f:=fun o=>frozen_of_row w B o _ _ hb;have HB:=hideD hb;have HR:=hideD hr;clear hb hr;have s1:=fun n=>sc1 (W:=w.drewN n) (p:=⟨B,2,none⟩) (x:=.int .u64 mix) (by simpa using c2);have s2:=fun n=>sc2 (W:=w.drewN n) (p:=⟨B,2,none⟩) (x:=.int .u64 mix) (by simpa using c2);have s3:=fun n=>sc3 (W:=w.drewN n) (p:=⟨B,2,none⟩) (x:=.int .u64 mix) (by simpa using c2);go_enter func34,ntmps34
 go_wp2
 go_quiet (fail)
 go_wp2
 go_region
 go_wp2
 go_region
 go_wp2
 go_region
 go_wp2
 go_ret;have k1:=step1 mix ⟨h2,h3⟩ (mix*8192);have k2:=step2 _ k1;have k3:=step1 _ k2 (bits BinOp.xor IntKind.u64 (bits BinOp.xor IntKind.u64 mix (IntKind.u64.wrap (mix*8192))) (bits BinOp.xor IntKind.u64 mix (IntKind.u64.wrap (mix*8192))/128)*131072)
 exact⟨_,rfl,(rem_bd _ most (wrap64_bd _).1 hm hm2).1,(rem_bd _ most (wrap64_bd _).1 hm hm2).2,
  src_set HR.o ((((Only.drewN w _).set 2 _).set 2 _).set 2 _).drew.drew (blk_set (blk_set (blk_set (W:=w.drewN _) HB.o _) _) _) h0 h1' k3 h4 h5,((((Only.drewN w _).set 2 _).set 2 _).set 2 _).drew.drew⟩
theorem c1_other {W:World} {B:Nat} {x:Value} (h:W.cell? ⟨B,2,none⟩=some x) (v:Value):(W.setCell ⟨B,1,none⟩ v).cell? ⟨B,2,none⟩=some x :=
 (World.cell?_setCell_other W _ _ _ (by simp)).trans h
theorem n_within (B b off i:Nat) (len cap:Nat) (most z mix size:Int) (w:World) (hl:len<=1048576) (hm:1<most) (hm2:most<=9223372036854775807) (hr:Row w B (some ⟨b,off,none⟩) len)
  (hb:w.heap[B]? = some (.cells #[.slice (some ⟨b,off,none⟩) len cap,.int .i64 (i:Int),.int .u64 mix,.int .i64 size] 67 (0,0)))
  (h1:i<len) (h2:0<=mix) (h3:mix<=18446744073709551615) (h4:0<=size) (h5:size<=12) (hc:w.cell? ⟨b,off+i,none⟩=some (.int .u8 z)) (hz1:0<=z) (hz2:z<=255) :
  Calls prog 34 #[.pointer (some ⟨B,0,none⟩),.int .i64 most] w fun e w'=>∃ r,e=.returned (.int .i64 r)/\0<=r/\r<most/\Src w' B (some ⟨b,off,none⟩) len cap/\Only B w w':=by
 have c0:w.cell? ⟨B,0,none⟩=some (.slice (some ⟨b,off,none⟩) len cap):=by rw[cell_of_row w B 0 _ _ _ hb];rfl
 have c1:w.cell? ⟨B,1,none⟩=some (.int .i64 (i:Int)):=by rw[cell_of_row w B 1 _ _ _ hb];rfl
 have c2:w.cell? ⟨B,2,none⟩=some (.int .u64 mix):=by rw[cell_of_row w B 2 _ _ _ hb];rfl
 have f:=fun o=>frozen_of_row w B o _ _ hb;have HB:=hideD hb;have HR:=hideD hr;clear hb hr
 have g1:(i:Int)<(len:Int):=by omega
 go_enter func34,ntmps34
 go_wp2
 go_quiet (fail)
 obtain⟨q1,rfl⟩:∃ q,q=nq:=⟨_,rfl⟩
 go_wp2
 go_quiet (fail)
 go_wp2
 have e2:((w.drewN (q1+nq)).setCell ⟨B,1,none⟩ (.int .i64 ((i:Int)+1))).cell? ⟨B,2,none⟩=some (.int .u64 mix):=c1_other (by simpa using c2) _;have ef:∀ o,((w.drewN (q1+nq)).setCell ⟨B,1,none⟩ (.int .i64 ((i:Int)+1))).frozen? ⟨B,o,none⟩=false:=fun o=>frozen_of_row _ B o _ _ (blk_set1 (W:=w.drewN _) HB.o _);have EB:=hideD (blk_set1 (W:=w.drewN (q1+nq)) HB.o (.int .i64 ((i:Int)+1)));have EO:=hideD ((Only.drewN (B:=B) w (q1+nq)).set 1 (.int .i64 ((i:Int)+1)));generalize (w.drewN (q1+nq)).setCell ⟨B,1,none⟩ (.int .i64 ((i:Int)+1))=W1 at e2 ef EB EO ⊢;clear c0 c1 c2 f hc;have s1:=sc1 (W:=W1) (p:=⟨B,2,none⟩) (x:=.int .u64 mix) e2;have s2:=sc2 (W:=W1) (p:=⟨B,2,none⟩) (x:=.int .u64 mix) e2;have s3:=sc3 (W:=W1) (p:=⟨B,2,none⟩) (x:=.int .u64 mix) e2
 go_region
 go_wp2
 go_region
 go_wp2
 go_region
 go_wp2
 go_ret;have k1:=step1 mix ⟨h2,h3⟩ (mix*8192);have k2:=step2 _ k1;have k3:=step1 _ k2 (bits BinOp.xor IntKind.u64 (bits BinOp.xor IntKind.u64 mix (IntKind.u64.wrap (mix*8192))) (bits BinOp.xor IntKind.u64 mix (IntKind.u64.wrap (mix*8192))/128)*131072)
 exact⟨_,rfl,(rem_bd _ most (wrap64_bd _).1 hm hm2).1,(rem_bd _ most (wrap64_bd _).1 hm hm2).2,
  src_set HR.o (((EO.o.set 2 _).set 2 _).set 2 _).drew.drew.drew (blk_set (blk_set (blk_set EB.o _) _) _) (by omega) (by omega) k3 h4 h5,(((EO.o.set 2 _).set 2 _).set 2 _).drew.drew.drew⟩
theorem n_any (B:Nat) (a:Option Addr) (len cap:Nat) (most:Int) (w:World) (hl:len<=1048576) (hm2:most<=9223372036854775807) (hs:Src w B a len cap) :
  Calls prog 34 #[.pointer (some ⟨B,0,none⟩),.int .i64 most] w fun e w'=>∃ r,e=.returned (.int .i64 r)/\0<=r/\(r<most∨r=0)/\Src w' B a len cap/\Only B w w':=by
 by_cases hm:1<most
 ·obtain⟨hr,at_,mix,size,hb,h0,h1,h2,h3,h4,h5⟩:=hs
  by_cases hlt:at_<len
  ·obtain⟨i,rfl⟩:=Int.eq_ofNat_of_zero_le h0
   rcases hr with h|⟨b,off,rfl,hne,hc⟩
   ·exfalso;omega
   ·obtain⟨z,hz,z1,z2⟩:=hc i (by omega)
    exact(n_within B b off i len cap most z mix size w hl hm hm2 (.inr ⟨b,off,rfl,hne,hc⟩) hb (by omega) h2 h3 h4 h5 hz z1 z2).mono fun e w' ⟨r,e1,e2,e3,e4,e5⟩=>⟨r,e1,e2,.inl e3,e4,e5⟩
  ·exact(n_past B a len cap most at_ mix size w hm hm2 hr hb h0 hlt h1 h2 h3 h4 h5).mono fun e w' ⟨r,e1,e2,e3,e4,e5⟩=>⟨r,e1,e2,.inl e3,e4,e5⟩
 ·have HS:=hideD hs
  clear hs;go_enter func34,ntmps34
  go_wp2
  go_ret;exact⟨0,rfl,Int.le_refl _,.inr rfl,HS.o,Only.refl _ _⟩
end Dr
end Go.Proofs.YtbdcffjcogglbaaGreatDoor
