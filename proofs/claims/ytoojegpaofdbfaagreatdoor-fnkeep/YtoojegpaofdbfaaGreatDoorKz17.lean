import Derived.Test.YtoojegpaofdbfaaGreatDoorKz0
import Derived.Shelf.Strings.Builder1
import Derived.Test.YtoojegpaofdbfaaGreatDoorChecked
set_option maxRecDepth 100000
set_option maxHeartbeats 8000000
set_option linter.unusedSimpArgs false
namespace Go.Proofs.YtoojegpaofdbfaaGreatDoor
open Go.Proofs.Tryz
namespace Sb
open Go.Shelf Go.RowKit
def zga:Go.Shelf.Ren:=⟨fun|169=>70|n=>n,fun|70=>101|9=>9|0=>0|72=>103|37=>22|127=>128|3=>3|5=>5|n=>n,fun|n=>n⟩
theorem zwD:Go.Proofs.Lays.n169 prog zga:={
 mixed:=by kernel_rfl
 f169:=func70.trans (Mn some (by kernel_rfl))
 t0:=underlying0
 a0:=Tryz.isAgg0
 z0:=Tryz.sizeOf0
 v0:=Tryz.zeroValue0
 t3:=underlying3
 a3:=Tryz.isAgg3
 z3:=Tryz.sizeOf3
 v3:=Tryz.zeroValue3
 t9:=underlying9
 a9:=Tryz.isAgg9
 z9:=Tryz.sizeOf9
 v9:=Tryz.zeroValue9
 t37:=underlying22
 a37:=Tryz.isAgg22
 z37:=Tryz.sizeOf22
 v37:=Tryz.zeroValue22
 t70:=underlying101
 a70:=Tryz.isAgg101
 z70:=Tryz.sizeOf101
 v70:=Tryz.zeroValue101
 t72:=underlying103
 a72:=Tryz.isAgg103
 z72:=Tryz.sizeOf103
 v72:=Tryz.zeroValue103
 t127:=underlying128
 a127:=Tryz.isAgg128
 z127:=Tryz.sizeOf128
 v127:=Tryz.zeroValue128 }
theorem zaJ:Builder.Extra prog zga:={
 sizeBuilder:=by kernel_rfl
 liesBuilder:=by kernel_rfl
 t5:=underlying5
 a5:=Tryz.isAgg5
 z5:=Tryz.sizeOf5
 v5:=Tryz.zeroValue5
 infoByte:=by kernel_rfl
 cellsByte:=by kernel_rfl
 sizeByte:=by kernel_rfl
 neB5:=by decide }
theorem zhg(B b:Nat)(l:List UInt8)(w:zW)(h:Lib.IsBuilder 103 5 B b (Lib.byteCells l) w)(a:B<=w.heap.size):
  Calls prog 70 #[.pointer (some ⟨b,0,none⟩)] w fun e w'=>e=.returned (.string ⟨l.toArray⟩)/\Below B w w':=Any.Builder_String_any zwD zaJ B b l w h a
theorem zn3(b:Nat)(w:zW)(c:w.cell? ⟨b,0,none⟩=some (.pointer (some ⟨b,0,none⟩))): Calls prog 94 #[.pointer (some ⟨b,0,none⟩)] w fun e w'=>e=.returned (.tuple #[])/\w'=w:=by obtain⟨j,a,_⟩:=Ns.1 zaJ.sizeBuilder;go_enter func94,ntmps94;go_wp2;rw[Lib.run_neq_ptr_same w _ underlying101 a];go_wp2;go_end0;exact⟨rfl,rfl⟩
theorem zlR(b:Nat)(w:zW)(g:w.cell? ⟨b,0,none⟩=some (.pointer none))(a:w.shape? b=some (103,2))(f:w.frozen? ⟨b,0,none⟩=false): Calls prog 94 #[.pointer (some ⟨b,0,none⟩)] w fun e w'=>e=.returned (.tuple #[])/\w'=w.setCell ⟨b,0,none⟩ (.pointer (some ⟨b,0,none⟩)):=by obtain⟨j,d,c⟩:=Ns.1 zaJ.sizeBuilder;go_enter func94,ntmps94;go_wp2;rw[Lib.run_to_unsafe w ⟨b,0,none⟩ underlying101 underlying152 d (by rw[c];decide) a (Nat.zero_lt_succ 1)];simp only[Result.andThen];rw[Um];go_wp2;rw[Kt func126 (by kernel_rfl) (by kernel_rfl) (by kernel_rfl) (e:=Extern.AbiNoEscape.same) (by kernel_rfl)];rw[Lib.run_noEscape];simp only[Result.andThen];rw[Um];go_wp2;rw[Lib.run_from_unsafe w ⟨b,0,none⟩ underlying152 underlying101 d a zaJ.liesBuilder];simp only[Result.andThen];rw[Um];go_wp2;go_end0;exact⟨rfl,rfl⟩
theorem zrg(B b:Nat)(a:List Value)(w:zW)(h:Lib.IsBuilder 103 5 B b a w): Calls prog 94 #[.pointer (some ⟨b,0,none⟩)] w fun e w'=>e=.returned (.tuple #[])/\(Lib.BuilderAt 103 5 B b (.pointer (some ⟨b,0,none⟩)) a w'/\Below B w w'):=by rcases h with h|h;{refine(zlR b w h.cell0 h.shape h.frozen0).mono ?_;rintro e w' ⟨rfl,rfl⟩;exact⟨rfl,h.used _,(Eb B w).setCell (p:=⟨b,0,none⟩) h.1 _⟩};{refine(zn3 b w h.cell0).mono ?_;rintro e w' ⟨rfl,rfl⟩;exact⟨rfl,h,Eb B _⟩}
/-- a text written behind what it holds -/
theorem zi5(B b:Nat)(m:List Value)(s:zY)(w:zW)(h:Lib.IsBuilder 103 5 B b m w)(D:m.length+s.size<=140737488355328)(H:B<=w.heap.size): Calls prog 69 #[.pointer (some ⟨b,0,none⟩),.string s] w fun e w'=>e=.returned (.tuple #[.int .i64 s.size,.nilIface])/\(Lib.BuilderAt 103 5 B b (.pointer (some ⟨b,0,none⟩)) (m++Lib.strCells s) w'/\Below B w w'):=by obtain⟨L,I,u,x,y⟩:=E4 zaJ.infoByte;go_enter func69,ntmps69;(go_wp2_with fail);refine(zrg B b m _ h).mono ?_;rintro e w1 ⟨rfl,G,l⟩;obtain⟨C,v,f,i,r⟩:=G;have c0:w1.cell? ⟨b,0,none⟩=some (.pointer (some ⟨b,0,none⟩)):=by{rw[Lib.cell_of_heap f];rfl};have c1:w1.cell? ⟨b,1,none⟩=some v:=by{rw[Lib.cell_of_heap f];rfl};(go_wp2_with (at_builtin;refine Lib.wpList_append_own_string _ rfl _ _ 22 9 rfl B 5 L underlying22 underlying9 I u x y _ _ _ rfl i s rfl ?c3 ?c4 ?c5 ?_));(case c3=>unfold maxLen;omega);(case c4=>omega);(case c5=>have:=l.size;omega);intro v' n c a _;have q:b<w1.heap.size:=by{rcases Ky b w1.heap.size with o|o;{exact o};{simp[Kz o]at f}};have d:n.heap[b]?=some (.cells #[.pointer (some ⟨b,0,none⟩),v] 103 (0,0)):=by{rw[a.block b q (fun e=>r e.symm)];exact f};have M:n.cell? ⟨b,0,none⟩=some (.pointer (some ⟨b,0,none⟩)):=by{rw[Lib.cell_of_heap d];rfl};have O:n.cell? ⟨b,1,none⟩=some v:=by{rw[Lib.cell_of_heap d];rfl};have f1:n.frozen? ⟨b,1,none⟩=false:=Lib.frozen_of_heap d 1;obtain⟨z,E,j,rfl⟩:∃z E j,v'=.slice z E j:=by{rcases c.2 with⟨t,_⟩|⟨g,j,F,t,_⟩;{exact⟨_,_,_,t⟩};{exact⟨_,_,_,t⟩}};(go_wp2_with fail);go_ret2;refine⟨rfl,?_,?_⟩;{exact Lib.BuilderAt.put (T:=103) (e:=5) C d (bs':=m++Lib.strCells s) (by simpa [Lib.strCells_length] using c) zaJ.neB5};{exact(l.grown a (by have:=l.size;omega) (fun k K=>(i.lt k K).1)).setCell (p:=⟨b,1,none⟩) C _}
end Sb
end Go.Proofs.YtoojegpaofdbfaaGreatDoor
