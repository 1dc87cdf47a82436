import Derived.Test.YtoojegpaofdbfaaGreatDoorKz48
import Derived.Test.YtoojegpaofdbfaaGreatDoorCards
import Derived.Test.YtoojegpaofdbfaaGreatDoorTie
import Derived.ChangeVars
import Derived.JoinedOf
import Derived.SliceStrings
import Derived.Stop.Joined
import Derived.SevenTiedAt
set_option maxRecDepth 100000
set_option maxHeartbeats 8000000
set_option linter.unusedSimpArgs false
namespace Go.Proofs.YtoojegpaofdbfaaGreatDoor
open Go.RowKit
namespace fnKeep
open Dr (zrt zmd)
theorem walk(e:Option Addr)(a c:Nat)(n:List Int){w:zW}(w0:zmd .u8 w e a c n)(f:Option Addr)(b d:Nat)(o:List Int)(w1:zmd .u8 w f b d o)(i:Ls.HH w)(h:Sh.JU w)(j:Addr)(g:Up.zem w (.iface 320 (.pointer (some j)))): Calls Tryz.prog 3 #[.slice e a c,.slice f b d] w (zB w (.bool true)):=by by_cases l:a<=1048576;{by_cases m:b<=1048576;{exact zwe w e a c f b d (zrt w0) (zrt w1) l m j ⟨i,h,g⟩};{clear w0 w1 g i h;have k:(a:Int)<=1048576:=by{omega};have g1:(1048576:Int)<b:=by{omega};go_enter Tryz.func3,Tryz.ntmps3;go_wp2;go_ret;exact⟨rfl,Eb _ _⟩}};{clear w0 w1 g i h;have k:(1048576:Int)<a:=by{omega};go_enter Tryz.func3,Tryz.ntmps3;go_wp2;go_ret;exact⟨rfl,Eb _ _⟩}
end fnKeep
namespace fnKeep
open Go.ChangeShapes Go.WideShapes Go.ChangeAt Go.RowKit
open Go.ChangeMaps (open_string shut_string)
open Dr (zmd)
set_option linter.unusedVariables false
theorem own:ownKnob Tryz.prog.godebug=none:=by kernel_rfl
theorem laidOut:laidOutB Tryz.prog=true:=by kernel_rfl
theorem zzp:varsRowed Tryz.prog Rows.fnKeepSpec.vars=true:=by kernel_rfl
theorem zte(os:Os)(args:Array Value):laidMetH Tryz.prog Rows.fnKeepRow.laid ((World.doorLaid Tryz.prog 400 os).forCall (fun _ _=>0) ⟨#[],args,[]⟩).memory :=
 laidMetH_of_parts3 (fuel:=8) (laidMet_of_run' 8 (by kernel_rfl) (by kernel_rfl)) (by kernel_rfl) (by kernel_rfl)
theorem lifted(os:Os)(g:os.Started)(H:Type)(enc:TypeId × Value->H): ReturnsInHanded {} Tryz.checked os 3 .any (fun w args=>(Rows.fnKeepSpec.pre enc Tryz.prog Tryz.f3 [] false w args/\laidMetH Tryz.prog Rows.fnKeepRow.laid w)/\sizedMet enc Tryz.prog Tryz.f3 (OpenSpec.ofChange Rows.fnKeepSpec) false w args) (Rows.fnKeepSpec.post enc Tryz.prog Tryz.f3 false true false false):=by refine returnsInHanded_of_change_and (C:=Tryz.checked) (X:=fun w _=>laidMetH Tryz.prog Rows.fnKeepRow.laid w) (fun _ _ _ G h=>h.of_heap G) own g (by kernel_rfl) Tryz.func3 (ChangeSpec.witness_shaped (enc:=enc) (C:=Tryz.checked) (os:=os) (X:=fun w _=>laidMetH Tryz.prog Rows.fnKeepRow.laid w) false (World.doorLaid Tryz.prog 400 os) #[.slice none 0 0,.slice none 0 0] 8 rfl (World.shaped_of_RefB (by kernel_rfl) (by kernel_rfl)) (by kernel_rfl) (by kernel_rfl) (by kernel_rfl) (zte os _)) ?_;intro W base args ds gs z f V _ _ hL _;have d:∀(j:Nat) t v,Tryz.f3.params[j]?=some t->args[j]?=some v->Value.okWide Tryz.prog W .any base t v:=f;have B:=V;obtain⟨p,q,y,U,rfl,ac,ad⟩:=V;have S:DataW.TrodAll enc Tryz.prog W 0 (fun _=>true) true Tryz.f3.params.toList args.toList ds p:=y;rw[Tryz.params3]at S d;obtain⟨Z,ae,d0,aa,p0,q0,D,rfl,rfl,Q,r0⟩:=trodAll_cons S;obtain⟨v1,af,d1,ab,p1,q1,rfl,rfl,rfl,R,r1⟩:=trodAll_cons r0;obtain⟨rfl,rfl,rfl⟩:=trodAll_nil r1;obtain rfl:args=#[Z,v1]:=by{cases args;simp_all};obtain⟨d7,d8,d9,F⟩:=Up.zzG (Up.zbE (show DataW.TrodVars enc Tryz.prog W (fun _=>true) ["loop.example/g00550/impl.firstState","loop.example/g00550/impl.roundNumbers","loop.example/g00550/impl.errNoBlock"] gs q from U));subst F;obtain⟨O,o,k,rfl⟩:=okWide_slice Tryz.underlying22 (d 0 22 Z rfl rfl);have k0:=Q;have L:∀x∈p0,x.block<W.heap.size:=by{obtain⟨m,s⟩:=k0;exact DataW.trod_lt m _ _ _ s};obtain⟨z0,w0⟩:∃zs,zmd .u8 W O o k zs:=by{obtain⟨fuel,E⟩:=Q;rcases open_ints Tryz.underlying22 Tryz.underlying5 (by kernel_rfl) E with⟨a,_⟩|⟨x,l,c,zs,a,_,I,s,K,_,b,u⟩;{simp[Value.cells]at a;obtain⟨rfl,rfl,rfl⟩:=a;exact⟨[],.inl ⟨rfl,rfl,rfl,rfl⟩⟩};{simp[Value.cells]at a;obtain⟨rfl,rfl,rfl⟩:=a;exact⟨zs,.inr ⟨_,rfl,I,s,by simpa using K,b,u⟩⟩}};obtain⟨P,r,n,rfl⟩:=okWide_slice Tryz.underlying22 (d 1 22 v1 rfl rfl);have Y:=R;have M:∀x∈p1,x.block<W.heap.size:=by{obtain⟨m,s⟩:=Y;exact DataW.trod_lt m _ _ _ s};obtain⟨z1,w1⟩:∃zs,zmd .u8 W P r n zs:=by{obtain⟨fuel,E⟩:=R;rcases open_ints Tryz.underlying22 Tryz.underlying5 (by kernel_rfl) E with⟨a,_⟩|⟨x,l,c,zs,a,_,I,s,K,_,b,u⟩;{simp[Value.cells]at a;obtain⟨rfl,rfl,rfl⟩:=a;exact⟨[],.inl ⟨rfl,rfl,rfl,rfl⟩⟩};{simp[Value.cells]at a;obtain⟨rfl,rfl,rfl⟩:=a;exact⟨zs,.inr ⟨_,rfl,I,s,by simpa using K,b,u⟩⟩}};obtain⟨G,hg,ga,hG⟩:=Kp.zle hL;clear y f;refine(walk O o k z0 w0 P r n z1 w1 G hg ga hG).mono fun e W' ⟨he,i⟩=>?_;subst he;exact⟨_,rfl,_,_,_,[],_,_,B,trodAll_mk1 (shut_bool Tryz.underlying4 _),(trodAll_cons_mk (Below.trod laidOut (by kernel_rfl) (Fh (by kernel_rfl)) k0 i L) (trodAll_cons_mk (Below.trod laidOut (by kernel_rfl) (Fh (by kernel_rfl)) Y i M) trodAll_mk0)),Below.trodVars laidOut i zzp U,i.frame _,fun h=>by cases h⟩
end fnKeep
end Go.Proofs.YtoojegpaofdbfaaGreatDoor
