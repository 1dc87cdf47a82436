/- Texts put together: AsFacts. -/
import Derived.Test.YtpddanmnlkcdpaaGreatDoorProg
import Derived.WalkKit
import Derived.WalkSpells
import Derived.LaidEql
import Derived.Stop.Asserts
import Derived.RowKitTokens
/- Closed facts on what errors.As reads of the types that it meets here, each reckoned by the kernel, and three small laws on reflected values. -/
namespace Go.Proofs.YtpddanmnlkcdpaaGreatDoor
open Go.RowKit Go.Extern.Stop Go.Stop Go.Extern
theorem Tryz.valueOfP (t:Addr) (w:World):(ReflectliteValue.unpack (.iface 237 (.pointer (some t)))).run Tryz.prog w
  = .ok (.agg #[.pointer (some ⟨4,237,none⟩),.pointer (some ⟨w.heap.size,0,none⟩),.int .u64 150]) (w.alloc (.cells #[.pointer (some t)] 237)):=by kernel_rfl
theorem Tryz.typeP (a:Addr) (w:World):(ReflectliteValue.methodAny (ReflectliteValue.valueError "reflectlite.Value.Type" 0) (fun t _ _ _=>ReflectliteType.toType t) #[.agg #[.pointer (some ⟨4,237,none⟩),.pointer (some a),.int .u64 150]]).run Tryz.prog w
  = .ok (.iface 280 (.agg #[.pointer (some ⟨4,237,none⟩)])) w:=by kernel_rfl
theorem Tryz.methodKind (h:Value) (w:World):(Go.method 431 280 (.agg #[h]) "Kind").run Tryz.prog w=.ok (258,h) w:=by kernel_rfl
theorem Tryz.kindP (w:World):((ReflectliteType.abiMethod fun t=>(fun a:Nat=>Value.int IntKind.u8 (a:Int)) <$> Rtype.kind t) #[.pointer (some ⟨4,237,none⟩)]).run Tryz.prog w=.ok (.int .u8 22) w:=by kernel_rfl
theorem Tryz.kindD (w:World):((ReflectliteType.abiMethod fun t=>(fun a:Nat=>Value.int IntKind.u8 (a:Int)) <$> Rtype.kind t) #[.pointer (some ⟨4,235,none⟩)]).run Tryz.prog w=.ok (.int .u8 25) w:=by kernel_rfl
theorem Tryz.partsP (a:Addr) (w:World):(ReflectliteValue.parts (.agg #[.pointer (some ⟨4,237,none⟩),.pointer (some a),.int .u64 150])).run Tryz.prog w=.ok (some (237,a,150)) w:=by kernel_rfl
theorem Tryz.isNilP (a p:Addr) (W:World) (ha:W.cell? a=some (.pointer (some p))) :
  (ReflectliteValue.method (ReflectliteValue.valueError "reflectlite.Value.IsNil" 0) ReflectliteValue.isNil #[.agg #[.pointer (some ⟨4,237,none⟩),.pointer (some a),.int .u64 150]]).run Tryz.prog W=.ok (.bool false) W:=by
 refine Eq.trans (b:=(Bind.bind (ReflectliteValue.parts (.agg #[.pointer (some ⟨4,237,none⟩),.pointer (some a),.int .u64 150])) _).run Tryz.prog W) rfl ?_
 simp only[Sem.run_bind,Tryz.partsP,Result.andThen]
 simp[ReflectliteValue.isNil,loadVar,isAgg,underlying,Tryz.underlying237,ha,Result.andThen]
theorem Tryz.methodElem (h:Value) (w:World):(Go.method 431 280 (.agg #[h]) "Elem").run Tryz.prog w=.ok (269,.agg #[h]) w:=by kernel_rfl
theorem Tryz.methodImplements (h:Value) (w:World):(Go.method 431 280 (.agg #[h]) "Implements").run Tryz.prog w=.ok (270,.agg #[h]) w:=by kernel_rfl
theorem Tryz.methodAssignableTo (h:Value) (w:World):(Go.method 431 280 (.agg #[h]) "AssignableTo").run Tryz.prog w=.ok (267,.agg #[h]) w:=by kernel_rfl
theorem Tryz.elemP (w:World):(ReflectliteType.method ReflectliteType.elem #[.agg #[.pointer (some ⟨4,237,none⟩)]]).run Tryz.prog w=.ok (.iface 280 (.agg #[.pointer (some ⟨4,235,none⟩)])) w:=by kernel_rfl
theorem Tryz.implementsD (w:World):(ReflectliteType.relation "Implements" ReflectliteType.implements_ #[.agg #[.pointer (some ⟨4,235,none⟩)],.iface 280 (.agg #[.pointer (some ⟨4,213,none⟩)])]).run Tryz.prog w=.ok (.bool true) w:=by kernel_rfl
theorem Tryz.typeOfD (v:Value) (w:World):(ReflectliteType.typeOf #[.iface 235 v]).run Tryz.prog w=.ok (.iface 280 (.agg #[.pointer (some ⟨4,235,none⟩)])) w:=by kernel_rfl
theorem Tryz.assignableD (w:World):(ReflectliteType.relation "AssignableTo" ReflectliteType.assignableTo #[.agg #[.pointer (some ⟨4,235,none⟩)],.iface 280 (.agg #[.pointer (some ⟨4,235,none⟩)])]).run Tryz.prog w=.ok (.bool true) w:=by kernel_rfl
theorem Tryz.valueOfD (c:Int) (w:World):(ReflectliteValue.unpack (.iface 235 (.agg #[.int .i64 c]))).run Tryz.prog w
  = .ok (.agg #[.pointer (some ⟨4,235,none⟩),.pointer (some ⟨w.heap.size,0,none⟩),.int .u64 153]) (w.alloc (.cells #[.int .i64 c] 235)):=by kernel_rfl
theorem Tryz.elemOfP (w:World):(Rtype.elem? 237).run Tryz.prog w=.ok (some 235) w:=by kernel_rfl
theorem Tryz.mkD (p:Addr) (w:World):(ReflectliteValue.mk 235 p ReflectliteValue.flagAddr).run Tryz.prog w=.ok (.agg #[.pointer (some ⟨4,235,none⟩),.pointer (some p),.int .u64 409]) w:=by kernel_rfl
theorem Tryz.elemVP (a p:Addr) (W:World) (ha:W.cell? a=some (.pointer (some p))) :
  (ReflectliteValue.method (ReflectliteValue.valueError "reflectlite.Value.Elem" 0) ReflectliteValue.elem #[.agg #[.pointer (some ⟨4,237,none⟩),.pointer (some a),.int .u64 150]]).run Tryz.prog W
   = .ok (.agg #[.pointer (some ⟨4,235,none⟩),.pointer (some p),.int .u64 409]) W:=by
 refine Eq.trans (b:=(Bind.bind (ReflectliteValue.parts (.agg #[.pointer (some ⟨4,237,none⟩),.pointer (some a),.int .u64 150])) _).run Tryz.prog W) rfl ?_
 simp only[Sem.run_bind,Tryz.partsP,Result.andThen]
 simp[ReflectliteValue.elem,loadVar,isAgg,underlying,Tryz.underlying237,ha,Result.andThen,Tryz.elemOfP,Tryz.mkD]
theorem Tryz.partsDa (a:Addr) (w:World):(ReflectliteValue.parts (.agg #[.pointer (some ⟨4,235,none⟩),.pointer (some a),.int .u64 409])).run Tryz.prog w=.ok (some (235,a,409)) w:=by kernel_rfl
theorem Tryz.partsD (a:Addr) (w:World):(ReflectliteValue.parts (.agg #[.pointer (some ⟨4,235,none⟩),.pointer (some a),.int .u64 153])).run Tryz.prog w=.ok (some (235,a,153)) w:=by kernel_rfl
theorem Tryz.directD (w:World):(Rtype.directlyAssignable 235 235).run Tryz.prog w=.ok true w:=by kernel_rfl
end Go.Proofs.YtpddanmnlkcdpaaGreatDoor

