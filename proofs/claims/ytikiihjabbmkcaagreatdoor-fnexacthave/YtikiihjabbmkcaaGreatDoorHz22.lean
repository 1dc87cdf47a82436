/- Texts put together: KpIn. -/
import Derived.Test.YtikiihjabbmkcaaGreatDoorHz21
import Derived.WalkKit
import Derived.ProofKit
import Derived.OpenShut
import Derived.ShutString
import Derived.ChangeOld
import Derived.Below
import Derived.ChangeSame
import Derived.Lib.SmallJoins
set_option maxRecDepth 100000
set_option maxHeartbeats 8000000
namespace Go.Proofs.YtikiihjabbmkcaaGreatDoor.Kp
open Go.RowKit Go.ChangeShapes Go.WideShapes Go.ChangeAt Go.Deep
theorem array5 {α:Type} {cs:Array α} (h:cs.size=5):∃ c0 c1 c2 c3 c4,cs=#[c0,c1,c2,c3,c4]:=by
 obtain⟨l⟩:=cs
 match l,h with
 |[c0,c1,c2,c3,c4],_=>exact⟨c0,c1,c2,c3,c4,rfl⟩
theorem cellsList:Tryz.prog.cellsOf 23=3:=by kernel_rfl
theorem cellsStr:Tryz.prog.cellsOf 9=1:=by kernel_rfl
theorem cellsI64:Tryz.prog.cellsOf 2=1:=by kernel_rfl
theorem cellsKeep:Tryz.prog.cellsOf 25=5:=by kernel_rfl
theorem open_keep {H:Type} {enc:TypeId × Value->H} {W:World} {rc:Reach} {b0 base:Nat} {sp:Nat->Bool} {held:Bool} {v:Value} {d:DataW H} {p:List MemPlace}
  (hv:Value.okWide Tryz.prog W rc b0 25 v) (h:DataW.Trod enc Tryz.prog W base sp held 25 v d p) :
  ∃ (z b:Int) (r s:ByteArray) (y:Int),v=kV z b r s y/\(Lit.int .i64 z).wf=true/\(Lit.int .i64 b).wf=true/\r.size<=maxLen/\s.size<=maxLen/\(Lit.int .i64 y).wf=true:=by
 obtain⟨cs,rfl,hsz⟩:=okWide_struct Tryz.underlying25 hv
 obtain⟨c0,c1,c2,c3,c4,rfl⟩:=array5 (hsz.trans cellsKeep)
 obtain⟨fuel,hf⟩:=h
 obtain⟨y0,y1,y2,n,_,_,h0,h1,h2⟩:=trod_struct3 Tryz.underlying25 hf
 simp only[cellsList,cellsStr,cellsI64,Value.cells,List.drop_succ_cons,List.drop_zero,List.take_succ_cons,List.take_zero]at h0 h1 h2
 obtain⟨x0,x1,x2,m,_,_,k0,k1,k2⟩:=trod_struct3 Tryz.underlying23 h0
 simp only[cellsStr,cellsI64,List.drop_succ_cons,List.drop_zero,List.take_succ_cons,List.take_zero]at k0 k1 k2
 obtain⟨z,hz,_,wz⟩:=DataW.trod_int Tryz.underlying2 k0
 obtain⟨b,hb,_,wb⟩:=DataW.trod_int Tryz.underlying2 k1
 obtain⟨r,hr,_,wr⟩:=DataW.trod_string Tryz.underlying9 k2
 obtain⟨s,hs,_,ws⟩:=DataW.trod_string Tryz.underlying9 h1
 obtain⟨y,hy,_,wy⟩:=DataW.trod_int Tryz.underlying2 h2
 simp at hz hb hr hs hy
 subst hz hb hr hs hy
 exact⟨z,b,r,s,y,rfl,wz,wb,wr,ws,wy⟩
end Go.Proofs.YtikiihjabbmkcaaGreatDoor.Kp

