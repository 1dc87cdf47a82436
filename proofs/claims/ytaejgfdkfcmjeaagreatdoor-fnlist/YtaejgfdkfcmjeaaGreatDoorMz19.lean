import Derived.Test.YtaejgfdkfcmjeaaGreatDoorProg
import Derived.LaidEql
import Derived.Stop.Asserts
import Derived.RowKitTokens
import Derived.Test.YtaejgfdkfcmjeaaGreatDoorMz23
set_option maxRecDepth 100000
set_option maxHeartbeats 8000000
namespace Go.Proofs.YtaejgfdkfcmjeaaGreatDoor
open Go.Proofs.Tryz
open Go.RowKit Go.Extern.Stop Go.Stop Go.Extern
theorem Tryz.valueOfP (t:Addr) (w:World):(ReflectliteValue.unpack (.iface 139 (.pointer (some t)))).run prog w
  = .ok (.agg #[.pointer (some ⟨4,139,none⟩),.pointer (some ⟨w.heap.size,0,none⟩),.int .u64 150]) (w.alloc (.cells #[.pointer (some t)] 139)):=by kernel_rfl
theorem Tryz.typeP (a:Addr) (w:World):(ReflectliteValue.methodAny (ReflectliteValue.valueError "reflectlite.Value.Type" 0) (fun t _ _ _=>ReflectliteType.toType t) #[.agg #[.pointer (some ⟨4,139,none⟩),.pointer (some a),.int .u64 150]]).run prog w
  = .ok (.iface 144 (.agg #[.pointer (some ⟨4,139,none⟩)])) w:=by kernel_rfl
theorem Tryz.methodKind (h:Value) (w:World):(Go.method 390 144 (.agg #[h]) "Kind").run prog w=.ok (258,h) w:=by kernel_rfl
theorem Tryz.kindP (w:World):((ReflectliteType.abiMethod fun t=>(fun a:Nat=>Value.int IntKind.u8 (a:Int)) <$> Rtype.kind t) #[.pointer (some ⟨4,139,none⟩)]).run prog w=.ok (.int .u8 22) w:=by kernel_rfl
theorem Tryz.kindD (w:World):((ReflectliteType.abiMethod fun t=>(fun a:Nat=>Value.int IntKind.u8 (a:Int)) <$> Rtype.kind t) #[.pointer (some ⟨4,137,none⟩)]).run prog w=.ok (.int .u8 25) w:=by kernel_rfl
theorem Tryz.partsP (a:Addr) (w:World):(ReflectliteValue.parts (.agg #[.pointer (some ⟨4,139,none⟩),.pointer (some a),.int .u64 150])).run prog w=.ok (some (139,a,150)) w:=by kernel_rfl
theorem Tryz.isNilP (a p:Addr) (W:World) (ha:W.cell? a=some (.pointer (some p))) :
  (ReflectliteValue.method (ReflectliteValue.valueError "reflectlite.Value.IsNil" 0) ReflectliteValue.isNil #[.agg #[.pointer (some ⟨4,139,none⟩),.pointer (some a),.int .u64 150]]).run prog W=.ok (.bool false) W:=by
 refine Eq.trans (b:=(Bind.bind (ReflectliteValue.parts (.agg #[.pointer (some ⟨4,139,none⟩),.pointer (some a),.int .u64 150])) _).run prog W) rfl ?_;simp only[Sem.run_bind,Tryz.partsP,Result.andThen];simp[ReflectliteValue.isNil,loadVar,isAgg,underlying,underlying139,ha,Result.andThen]
theorem Tryz.methodElem (h:Value) (w:World):(Go.method 390 144 (.agg #[h]) "Elem").run prog w=.ok (267,.agg #[h]) w:=by kernel_rfl
theorem Tryz.methodImplements (h:Value) (w:World):(Go.method 390 144 (.agg #[h]) "Implements").run prog w=.ok (268,.agg #[h]) w:=by kernel_rfl
theorem Tryz.methodAssignableTo (h:Value) (w:World):(Go.method 390 144 (.agg #[h]) "AssignableTo").run prog w=.ok (265,.agg #[h]) w:=by kernel_rfl
theorem Tryz.elemP (w:World):(ReflectliteType.method ReflectliteType.elem #[.agg #[.pointer (some ⟨4,139,none⟩)]]).run prog w=.ok (.iface 144 (.agg #[.pointer (some ⟨4,137,none⟩)])) w:=by kernel_rfl
theorem Tryz.implementsD (w:World):(ReflectliteType.relation "Implements" ReflectliteType.implements_ #[.agg #[.pointer (some ⟨4,137,none⟩)],.iface 144 (.agg #[.pointer (some ⟨4,85,none⟩)])]).run prog w=.ok (.bool true) w:=by kernel_rfl
theorem Tryz.typeOfD (v:Value) (w:World):(ReflectliteType.typeOf #[.iface 137 v]).run prog w=.ok (.iface 144 (.agg #[.pointer (some ⟨4,137,none⟩)])) w:=by kernel_rfl
theorem Tryz.assignableD (w:World):(ReflectliteType.relation "AssignableTo" ReflectliteType.assignableTo #[.agg #[.pointer (some ⟨4,137,none⟩)],.iface 144 (.agg #[.pointer (some ⟨4,137,none⟩)])]).run prog w=.ok (.bool true) w:=by kernel_rfl
theorem Tryz.valueOfD (c:Int) (w:World):(ReflectliteValue.unpack (.iface 137 (.agg #[.int .i64 c]))).run prog w
  = .ok (.agg #[.pointer (some ⟨4,137,none⟩),.pointer (some ⟨w.heap.size,0,none⟩),.int .u64 153]) (w.alloc (.cells #[.int .i64 c] 137)):=by kernel_rfl
theorem Tryz.elemOfP (w:World):(Rtype.elem? 139).run prog w=.ok (some 137) w:=by kernel_rfl
theorem Tryz.mkD (p:Addr) (w:World):(ReflectliteValue.mk 137 p ReflectliteValue.flagAddr).run prog w=.ok (.agg #[.pointer (some ⟨4,137,none⟩),.pointer (some p),.int .u64 409]) w:=by kernel_rfl
theorem Tryz.elemVP (a p:Addr) (W:World) (ha:W.cell? a=some (.pointer (some p))) :
  (ReflectliteValue.method (ReflectliteValue.valueError "reflectlite.Value.Elem" 0) ReflectliteValue.elem #[.agg #[.pointer (some ⟨4,139,none⟩),.pointer (some a),.int .u64 150]]).run prog W
   = .ok (.agg #[.pointer (some ⟨4,137,none⟩),.pointer (some p),.int .u64 409]) W:=by
 refine Eq.trans (b:=(Bind.bind (ReflectliteValue.parts (.agg #[.pointer (some ⟨4,139,none⟩),.pointer (some a),.int .u64 150])) _).run prog W) rfl ?_;simp only[Sem.run_bind,Tryz.partsP,Result.andThen];simp[ReflectliteValue.elem,loadVar,isAgg,underlying,underlying139,ha,Result.andThen,Tryz.elemOfP,Tryz.mkD]
theorem Tryz.partsDa (a:Addr) (w:World):(ReflectliteValue.parts (.agg #[.pointer (some ⟨4,137,none⟩),.pointer (some a),.int .u64 409])).run prog w=.ok (some (137,a,409)) w:=by kernel_rfl
theorem Tryz.partsD (a:Addr) (w:World):(ReflectliteValue.parts (.agg #[.pointer (some ⟨4,137,none⟩),.pointer (some a),.int .u64 153])).run prog w=.ok (some (137,a,153)) w:=by kernel_rfl
theorem Tryz.directD (w:World):(Rtype.directlyAssignable 137 137).run prog w=.ok true w:=by kernel_rfl
open Go.RowKit Go.Extern.Stop Go.Stop Go.Extern
theorem Tryz.setD (ta b:Addr) (c:Int) (old:Value) (W:World) (hb:W.cell? b=some (.int .i64 c)) (ht:W.cell? ta=some old) (hf:W.frozen? ta=false) :
  (ReflectliteValue.set #[.agg #[.pointer (some ⟨4,137,none⟩),.pointer (some ta),.int .u64 409],.agg #[.pointer (some ⟨4,137,none⟩),.pointer (some b),.int .u64 153]]).run prog W
   = .ok (.tuple #[]) (W.setCell ta (.int .i64 c)):=by
 refine Eq.trans (b:=(Bind.bind (ReflectliteValue.parts (.agg #[.pointer (some ⟨4,137,none⟩),.pointer (some ta),.int .u64 409])) _).run prog W) rfl ?_;simp only[Sem.run_bind,Tryz.partsDa,Result.andThen]
 erw[Tryz.partsD b W]
 simp[ReflectliteValue.flagAddr,loadVar,isAgg,underlying,underlying137,Result.andThen,Tryz.directD,storeVar,Value.cells,storeCells,Addr.add]
 have hl:=run_loadCells_list (P:=prog) W b [.int .i64 c] (by
  intro j v hj
  match j,hj with
  |0,hj=>simp at hj;subst hj;simpa [Addr.add] using hb)
 have hl':(loadCells b 1).run prog W=.ok #[.int .i64 c] W:=hl;rw[hl'];simp[storeCells,Addr.add];rw[run_store prog W ta _ _ (by rfl)];simp[ht,hf]
/-- a fault of the program's own type,asked for with errors.As: it is taken into the variable at t;four blocks are new -/
theorem as_hit (c:Int) (t:Addr) (old:Value) (w:World) (hg:w.cell? ⟨2,0,none⟩=some (.iface 144 (.agg #[.pointer (some ⟨4,85,none⟩)]))) (ht0:w.cell? t=some old) (hf0:w.frozen? t=false) :
  Calls prog 131 #[.iface 137 (.agg #[.int .i64 c]),.iface 139 (.pointer (some t))] w fun ev w'=>ev=.returned (.bool true)/\w'=((((w.alloc (.cells #[.pointer (some t)] 139)).alloc (.cells #[.pointer (some ⟨4,139,none⟩),.pointer (some ⟨w.heap.size,0,none⟩),.int .u64 150] 185)).alloc (.cells #[.pointer (some ⟨4,139,none⟩),.pointer (some ⟨w.heap.size,0,none⟩),.int .u64 150] 185)).alloc (.cells #[.int .i64 c] 137)).setCell t (.int .i64 c):=by
 have hA:=@run_callFunc_extern prog 168 _ (fun args=>ReflectliteValue.unpack (args.getD 0 (.tuple #[]))) func168 (by kernel_rfl) (by kernel_rfl) (by kernel_rfl) (by kernel_rfl);have hB:=@run_callFunc_extern prog 169 _ (ReflectliteValue.methodAny (ReflectliteValue.valueError "reflectlite.Value.Type" 0) (fun t _ _ _=>ReflectliteType.toType t)) func169 (by kernel_rfl) (by kernel_rfl) (by kernel_rfl) (by kernel_rfl);have hC:=@run_callFunc_extern prog 170 _ (ReflectliteValue.method (ReflectliteValue.valueError "reflectlite.Value.IsNil" 0) ReflectliteValue.isNil) func170 (by kernel_rfl) (by kernel_rfl) (by kernel_rfl) (by kernel_rfl);have hD:=@run_callFunc_extern prog 258 _ (ReflectliteType.abiMethod fun t=>do pure (.int .u8 (<-Rtype.kind t))) func258 (by kernel_rfl) (by kernel_rfl) (by kernel_rfl) (by kernel_rfl);have hE:=@run_callFunc_extern prog 267 _ (ReflectliteType.method ReflectliteType.elem) func267 (by kernel_rfl) (by kernel_rfl) (by kernel_rfl) (by kernel_rfl);have hF:=@run_callFunc_extern prog 268 _ (ReflectliteType.relation "Implements" ReflectliteType.implements_) func268 (by kernel_rfl) (by kernel_rfl) (by kernel_rfl) (by kernel_rfl);have hG:=@run_callFunc_extern prog 104 _ ReflectliteType.typeOf func104 (by kernel_rfl) (by kernel_rfl) (by kernel_rfl) (by kernel_rfl);have hH:=@run_callFunc_extern prog 265 _ (ReflectliteType.relation "AssignableTo" ReflectliteType.assignableTo) func265 (by kernel_rfl) (by kernel_rfl) (by kernel_rfl) (by kernel_rfl);have hI:=@run_callFunc_extern prog 203 _ (ReflectliteValue.method (ReflectliteValue.valueError "reflectlite.Value.Elem" 0) ReflectliteValue.elem) func203 (by kernel_rfl) (by kernel_rfl) (by kernel_rfl) (by kernel_rfl);have hJ:=@run_callFunc_extern prog 204 _ ReflectliteValue.set func204 (by kernel_rfl) (by kernel_rfl) (by kernel_rfl) (by kernel_rfl);have f1:=Tryz.typeOfD;have f2:=Tryz.methodAssignableTo;have f3:=Tryz.assignableD;have f4:=Tryz.valueOfD;have f5:=Tryz.valueOfP;have f6:=Tryz.typeP;have f7:=Tryz.methodKind;have f8:=Tryz.methodElem;have f9:=Tryz.methodImplements;have f10:=Tryz.kindP;have f11:=Tryz.kindD;have f12:=Tryz.elemP;have f13:=Tryz.implementsD;obtain⟨vb,hvb⟩:∃ vb,vb=Obj.cells #[.pointer (some ⟨4,139,none⟩),.pointer (some ⟨w.heap.size,0,none⟩),.int .u64 150] 185:=⟨_,rfl⟩;have n8:=Tryz.isNilP ⟨w.heap.size,0,none⟩ t ((w.alloc (.cells #[.pointer (some t)] 139)).alloc vb) (by rw[hvb];simp)
 have hlt:2 < w.heap.size:=by
  rcases Nat.lt_or_ge 2 w.heap.size with h|h
  ·exact h
  ·simp[World.cell?,Array.getElem?_eq_none h]at hg
 have hg2:((w.alloc (.cells #[.pointer (some t)] 139)).alloc vb).cell? ⟨2,0,none⟩=some (.iface 144 (.agg #[.pointer (some ⟨4,85,none⟩)])):=by
  rw[World.cell?_alloc_lt _ _ ⟨2,0,none⟩ (Nat.lt_of_lt_of_le hlt (by simp)),World.cell?_alloc_lt _ _ ⟨2,0,none⟩ hlt];exact hg
 have htl:t.block<w.heap.size:=by
  rcases Nat.lt_or_ge t.block w.heap.size with h|h
  ·exact h
  ·simp[World.cell?,Array.getElem?_eq_none h]at ht0
 have el:=Tryz.elemVP ⟨w.heap.size,0,none⟩ t (((w.alloc (.cells #[.pointer (some t)] 139)).alloc vb).alloc vb) (by rw[World.cell?_alloc_lt _ _ ⟨w.heap.size,0,none⟩ (by simp;omega),hvb];simp)
 have st:=Tryz.setD t ⟨w.heap.size+1+1+1,0,none⟩ c old ((((w.alloc (.cells #[.pointer (some t)] 139)).alloc vb).alloc vb).alloc (.cells #[.int .i64 c] 137))
  (by rw[World.cell?_alloc_at _ _ _ _ (by simp)];rfl)
  (by rw[World.cell?_alloc_lt _ _ t (by simp;omega),World.cell?_alloc_lt _ _ t (by simp;omega),World.cell?_alloc_lt _ _ t (by simp;omega),World.cell?_alloc_lt _ _ t htl];exact ht0)
  (by rw[World.frozen?_alloc_old _ _ t (by simp;omega),World.frozen?_alloc_old _ _ t (by simp;omega),World.frozen?_alloc_old _ _ t (by simp;omega),World.frozen?_alloc_old _ _ t (Nat.ne_of_lt htl)];exact hf0)
 subst hvb;go_enter func131,ntmps131
 go_wp2
 refine wp_loop_rounds 1 ?_;rw[rounds_succ]
 go_wp2
 go_ret;exact⟨rfl,rfl⟩
namespace So
open Go.RowKit Go.Sort Go.Proofs
def cvT:Value:=.func (.func 194) #[] #[]
theorem insertion_T (T:Nat->ByteArray) (blk cap a b:Nat) (d:Array Nat) (w:World) (hH:HoldsK (encT T) 2 w blk 0 d) (hblk:blk<w.heap.size) (hab:a<=b) (hb:b<=d.size) (hsz:d.size<=1048576)
  (hrise:∀ i j,a<=i->i<j->j<b->dF d i<dF d j) :
  Calls prog 230 #[.slice (some ⟨blk,0,none⟩) d.size cap,.int .i64 a,.int .i64 b,.func (.func 194) #[] #[]] w fun e w' =>
   e=.returned (.tuple #[])/\∃ n d' os,w'=sortWorldK (encT T) 2 w blk 0 n d' os/\d'.size=d.size/\PermF a b (dF d) (dF d')/\Ris (clT T) a b (dF d'):=by
 have mixed:=mixed;have HST:=hideO (world_self hH);have HH:=hideO hH;have HRI:=hideO hrise;clear hH hrise;obtain⟨z,hz⟩:∃ z,z=d.size:=⟨_,rfl⟩;have HZ:=hideO hz;rw[<-hz]at hb hsz ⊢;clear hz;by_cases hE:a=b
 ·subst hE
  go_enter func230,ntmps230
  go_wp2_with fail
  go_loopw [8] (fun i wr=>i=.int .i64 ((a:Int)+1)/\wr=w) (fun _ _=>0)
  case atStart=>exact⟨by go_num,rfl⟩
  case round =>
   obtain⟨rfl,rfl⟩:=hrel
   go_wp2_with fail
   refine bodyPost_end (v:=.tuple #[]) (by simp[results,results230,go_sem]) rfl ⟨rfl,0,d,#[],HST.o,HZ.o.symm,PermF.refl _ _ _,fun i j h1 h2 h3=>absurd h3 (by omega)⟩
 ·have hlt0:a<b:=by omega
  clear hE hab;go_enter func230,ntmps230
  go_wp2_with fail
  go_loopw [8] (fun vi wr=>∃ (i n:Nat) (dk:Array Nat) (os:Array Obj),vi=.int .i64 i/\a<i/\i<=b/\dk.size=z/\PermF a i (dF d) (dF dk)/\Ris (clT T) a i (dF dk)/\wr=sortWorldK (encT T) 2 w blk 0 n dk os) (fun vi _=>b-(intOf vi).toNat)
  case atStart=>exact⟨a+1,0,d,#[],by go_num,by omega,by omega,HZ.o.symm,PermF.refl _ _ _,fun i j h1 h2 h3=>absurd h3 (by omega),HST.o⟩
  case round =>
   obtain⟨i,n,dk,os,rfl,hai,hib,hsk,hperm,hris,hwr⟩:=hrel;have HSK:=hideO hsk;have HPM:=hideO hperm;have HRS:=hideO hris;have HW:=hideO hwr;clear hsk hperm hris hwr;by_cases hlt:i<b
   ·obtain⟨f,hf⟩:∃ f,f=dF dk:=⟨_,rfl⟩
    rw[<-hf]at HPM HRS;have HFD:=hideO hf
    have HPL:Hid (∀ k,a<=k->k<i->f k<f i):=fun k h1 h2=>by
     have e:f i=dF d i:=HPM.o.2 i (Or.inr nl);rw[e];exact HPM.o.all (p:=fun v=>v<dF d i) (fun j h3 h4=>HRI.o j i h3 h4 hlt) k h1 h2
    clear hf;(go_wp2_with fail)
    go_loopw [9] (fun vj wr2=>∃ (j m:Nat) (dj:Array Nat) (oj:Array Obj),vj=.int .i64 j/\a<=j/\j<=i/\dj.size=z/\dF dj=rotF j i (i+1) f/\(∀ k,j<=k->k<i->clT T (f i) (f k)=true)/\wr2=sortWorldK (encT T) 2 w blk 0 m dj oj) (fun vj _=>(intOf vj).toNat)
    case atStart=>exact⟨i,n,dk,os,rfl,by omega,nl,HSK.o,by rw[rot_down0];exact HFD.o.symm,fun k h1 h2=>absurd h2 (by omega),HW.o⟩
    case round =>
     obtain⟨j,m,dj,oj,rfl,haj,hji,hsj,hfj,hcl,hwr⟩:=hrel;have HSJ:=hideO hsj;have HFJ:=hideO hfj;have HCL:=hideO hcl;have HWJ:=hideO hwr
     -- the end of the inner loop
     have OUT:Hid ((∀ k,a<=k->k<j->lx (clT T) (f k) (f i))->PermF a (i+1) (dF d) (dF dj)/\Ris (clT T) a (i+1) (dF dj)):=fun hlo=>by
      rw[HFJ.o];refine⟨?_,?_⟩
      ·have h1:=HPM.o.mono (Nat.le_refl a) (Nat.le_of_lt hai) (Nat.le_succ i)
       exact h1.trans ((rot_perm f hji (Nat.le_succ i)).mono haj (by omega) nl)
      ·exact down_ris (clT_weak T) HRS.o haj hji hlo (fun k h1 h2=>lx_yes (HCL.o k h1 h2))
     clear hsj hfj hcl;by_cases hja:a<j
     ·obtain⟨jp,hjp⟩:∃ jp,j=jp+1:=⟨j-1,by omega⟩
      have HJP:=hideO hjp;have hHj:HoldsK (encT T) 2 wr blk 0 dj:=(by rw[hwr];exact world_holds HH.o hblk m dj oj (HSJ.o.trans HZ.o));have hbw:blk<wr.heap.size:=(by rw[hwr];exact Nat.lt_of_lt_of_le hblk (world_size m dj oj));obtain⟨x0c,x0f,x1c,x1f⟩:=cells_T hHj (i:=j) (by have:=HSJ.o;omega);obtain⟨y0c,y0f,y1c,y1f⟩:=cells_T hHj (i:=jp) (by have:=HSJ.o;omega)
      have ex:dj[j]! = f i:=by
       have:dF dj j=f i:=by
        rw[HFJ.o,rot_first f j nl (by omega)]
        congr 1
        omega
       exact this
      have ey:dj[jp]! = f jp:=by
       have:dF dj jp=f jp:=by rw[HFJ.o,rot_out f jp (Or.inl (by omega)) hji (Nat.le_succ i)]
       exact this
      rw[ex]at x0c x1c;rw[ey]at y0c y1c;obtain⟨x,hx⟩:∃ x,x=f i:=⟨_,rfl⟩;obtain⟨y,hy⟩:∃ y,y=f jp:=⟨_,rfl⟩;have HXY:Hid (x=f i/\y=f jp):=⟨hx,hy⟩;rw[<-hx]at x0c x1c;rw[<-hy]at y0c y1c;have g0:=fun n' os'=>cell_grown (a:=⟨blk,j*2,none⟩) hbw x0c n' os';have g1:=fun n' os'=>cell_grown (a:=⟨blk,j*2+1,none⟩) hbw x1c n' os';have g2:=fun n' os'=>cell_grown (a:=⟨blk,jp*2,none⟩) hbw y0c n' os';have g3:=fun n' os'=>cell_grown (a:=⟨blk,jp*2+1,none⟩) hbw y1c n' os';have HCM:Hid (∀ W,Calls prog 194 #[.agg #[.int .i64 x,.string (T x)],.agg #[.int .i64 y,.string (T y)]] W fun e w'=>e=.returned (.int .i64 (cfT T x y))/\∃ q os',w'=grow (W.drewN q) os'):=fun W=>cmp_T T x y W;have hneg:=cfT_neg T x y;obtain⟨r,hr⟩:∃ r,r=cfT T x y:=⟨_,rfl⟩;rw[<-hr]at hneg HCM;have e1:(j:Int)-1=(jp:Int):=(by omega);have hwp:IntKind.i64.wrap (jp:Int)=(jp:Int):=(by rw[IntKind.wrap_i64];omega);have jz:(j:Int)<(z:Int):=(by omega);have jz1:(jp:Int)<(z:Int):=(by omega);have hjaz:(a:Int)<(j:Int):=(by omega);have hjad:decide ((a:Int)<(j:Int))=true:=decide_eq_true hjaz;have HCLS:=hideO (fun n' os'=>sortWorldK_grown_c (encT T) 2 w blk 0 m n' dj oj os');rw[<-hwr]at HCLS;clear hr ex ey hx hy hjp hwr
      cases hcb:clT T x y with
      |true =>
       rw[hcb]at hneg;have hlv:r<0:=of_decide_eq_true hneg;clear hneg;(go_wp2_with fail)
       go_quiet_grown (first|(go_at_call 194;refine Calls.grown_of (HCM.o _)))
       have hW2:grow (wr.drewN nq) osq=sortWorldK (encT T) 2 w blk 0 (m+nq) dj (oj++osq):=HCLS.o nq osq;dsimp only;clear g0 g1 g2 g3 x0c x0f x1c x1f y0c y0f y1c y1f hHj hbw;generalize grow (wr.drewN nq) osq=W2 at hW2 ⊢;have hH2:HoldsK (encT T) 2 W2 blk 0 dj:=(by rw[hW2];exact world_holds HH.o hblk (m+nq) dj (oj++osq) (HSJ.o.trans HZ.o));obtain⟨x0c,x0f,x1c,x1f⟩:=cells_T hH2 (i:=j) (by have:=HSJ.o;omega);obtain⟨y0c,y0f,y1c,y1f⟩:=cells_T hH2 (i:=jp) (by have:=HSJ.o;omega)
       have ex:dj[j]! = x:=by
        have:dF dj j=x:=by
         rw[HXY.o.1,HFJ.o,rot_first f j nl (by omega)]
         congr 1
         omega
        exact this
       have ey:dj[jp]! = y:=by
        have:dF dj jp=y:=by rw[HXY.o.2,HFJ.o,rot_out f jp (Or.inl (by have:=HJP.o;omega)) hji (Nat.le_succ i)]
        exact this
       have hsw:=sortWorldK_swp_c (encT T) 2 w blk 0 (encT_len T) (m+nq) dj (oj++osq) hblk j jp (by have:=HSJ.o;omega) (by have:=HSJ.o;omega);rw[ex,ey,<-hW2,Nat.zero_add,Nat.zero_add]at hsw;rw[ex]at x0c x1c;rw[ey]at y0c y1c;have HSW:=hideO hsw;have hjne:jp<j:=(by have:=HJP.o;omega)
       have HROT:Hid (So.swp (rotF j i (i+1) f) j jp=rotF jp i (i+1) f):=by
        unfold Hid;rw[HJP.o];exact rot_down jp i f (by have:=HJP.o;omega)
       clear hW2 hH2 ex ey hsw;(go_wp2_with fail)
       go_region
       all_goals (try go_wp2_with fail)
       all_goals go_roundw
       case rel =>
        refine⟨jp,m+nq+1,Go.Sort.swp dj j jp,oj++osq,rfl,by have:=HJP.o;omega,by omega,by rw[Go.Sort.size_swp];exact HSJ.o,?_,fun k h1 h2=>?_,HSW.o⟩
        ·rw[dF_swp dj j jp (by have:=HSJ.o;omega) (by have:=HSJ.o;omega),HFJ.o]
         exact HROT.o
        ·rcases Nat.eq_or_lt_of_le h1 with e|e
         ·rw[<-e,<-HXY.o.1,<-HXY.o.2]
          exact hcb
         ·exact HCL.o k (by have:=HJP.o;omega) h2
       case measure=>have:=HJP.o;simp[intOf];omega
      |false =>
       rw[hcb]at hneg;have hlv:¬r<0:=of_decide_eq_false hneg
       have HO:=hideO (OUT.o (fun k h1 h2=>by
        have hjx:lx (clT T) (f jp) (f i):=by
         rw[<-HXY.o.1,<-HXY.o.2];refine lx_no hcb ?_;rw[HXY.o.1,HXY.o.2];exact HPL.o jp (by have:=HJP.o;omega) (by have:=HJP.o;omega)
        exact HRS.o.le h1 (show k<=jp by have:=HJP.o;omega) (by have:=HJP.o;omega) (clT_weak T) hjx))
       clear hneg;(go_wp2_with fail)
       go_quiet_grown (first|(go_at_call 194;refine Calls.grown_of (HCM.o _)))
       have HW2:Hid (grow (wr.drewN nq) osq=sortWorldK (encT T) 2 w blk 0 (m+nq) dj (oj++osq)):=HCLS.o nq osq;dsimp only;clear g0 g1 g2 g3 x0c x0f x1c x1f y0c y0f y1c y1f hHj hbw;(go_wp2_with fail)
       go_roundw
       case rel=>exact⟨i+1,m+nq,dj,oj++osq,by go_num,by omega,by omega,HSJ.o,HO.o.1,HO.o.2,HW2.o⟩
       case measure=>simp[intOf];omega
     ·have hjad:decide ((a:Int)<(j:Int))=false:=decide_eq_false (by omega)
      have hjaz:¬(a:Int)<(j:Int):=by omega
      have HO:=hideO (OUT.o (fun k h1 h2=>absurd h2 (by omega)))
      have HDR:Hid (wr.drew=sortWorldK (encT T) 2 w blk 0 (m+1) dj oj):=by
       unfold Hid;rw[hwr];rfl
      clear hwr;(go_wp2_with fail)
      go_region
      all_goals (try go_wp2_with fail)
      all_goals go_roundw
      case rel=>exact⟨i+1,m+1,dj,oj,by go_num,by omega,by omega,HSJ.o,HO.o.1,HO.o.2,HDR.o⟩
      case measure=>simp[intOf];omega
   ·obtain rfl:i=b:=by omega
    (go_wp2_with fail);refine bodyPost_end (v:=.tuple #[]) (by simp[results,results230,go_sem]) rfl ⟨rfl,n,dk,os,HW.o,HSK.o,HPM.o,HRS.o⟩
end So
end Go.Proofs.YtaejgfdkfcmjeaaGreatDoor
