import Derived.Test.YthhacleplhaihaaGreatDoorPv0
import Derived.Shelf.Strings.Builder1
import Derived.Test.YthhacleplhaihaaGreatDoorChecked
set_option maxRecDepth 100000
set_option maxHeartbeats 8000000
set_option linter.unusedSimpArgs false
set_option linter.defProp false
namespace Go.Proofs.YthhacleplhaihaaGreatDoor
open Go.Proofs.Tryz
open Go.Shelf Go.RowKit
def zfE:Go.Shelf.Ren:=⟨fun|169=>232|n=>n,fun|70=>273|9=>9|0=>0|72=>275|37=>22|127=>300|3=>3|5=>5|n=>n,fun|n=>n⟩
def zxU:Go.Proofs.Lays.n169 prog zfE:={
 mixed:=by kernel_rfl
 f169:=func232.trans (Kv some (by kernel_rfl))
 t0:=underlying0
 a0:=Tryz.isAgg0
 z0:=Tryz.sizeOf0
 v0:=Tryz.zeroValue0
 t3:=underlying3
 a3:=Tryz.isAgg3
 z3:=Tryz.sizeOf3
 v3:=Tryz.zeroValue3
 t9:=underlying9
 a9:=Tryz.isAgg9
 z9:=Tryz.sizeOf9
 v9:=Tryz.zeroValue9
 t37:=underlying22
 a37:=Tryz.isAgg22
 z37:=Tryz.sizeOf22
 v37:=Tryz.zeroValue22
 t70:=underlying273
 a70:=Tryz.isAgg273
 z70:=Tryz.sizeOf273
 v70:=Tryz.zeroValue273
 t72:=underlying275
 a72:=Tryz.isAgg275
 z72:=Tryz.sizeOf275
 v72:=Tryz.zeroValue275
 t127:=underlying300
 a127:=Tryz.isAgg300
 z127:=Tryz.sizeOf300
 v127:=Tryz.zeroValue300 }
def za0:Builder.Extra prog zfE:={
 sizeBuilder:=by kernel_rfl
 liesBuilder:=by kernel_rfl
 t5:=underlying5
 a5:=Tryz.isAgg5
 z5:=Tryz.sizeOf5
 v5:=Tryz.zeroValue5
 infoByte:=by kernel_rfl
 cellsByte:=by kernel_rfl
 sizeByte:=by kernel_rfl
 neB5:=by decide }
def zon(B b:Nat)(l:List UInt8)(w:zW)(h:Lib.IsBuilder 275 5 B b (Lib.byteCells l) w)(a:B<=w.heap.size):
  Calls prog 232 #[.pointer (zx b)] w fun e w'=>e=.returned (.string ⟨l.toArray⟩)/\Below B w w':=Any.Builder_String_any zxU za0 B b l w h a
def zop(b:Nat)(w:zW)(c:w.cell? (zA b 0)=some (.pointer (zx b))): Calls prog 250 #[.pointer (zx b)] w fun e w'=>e=.returned (.tuple #[])/\w'=w:=by have⟨j,a,_⟩:=Oy.1 za0.sizeBuilder;go_enter func250,ntmps250;go_wp2;rw[Lib.run_neq_ptr_same w _ underlying273 a];go_wp2;go_end0;exact⟨rfl,rfl⟩
def zls(b:Nat)(w:zW)(g:w.cell? (zA b 0)=some (.pointer none))(a:w.shape? b=some (275,2))(f:w.frozen? (zA b 0)=false): Calls prog 250 #[.pointer (zx b)] w fun e w'=>e=.returned (.tuple #[])/\w'=(zw w b 0 (.pointer (zx b))):=by have⟨j,d,c⟩:=Oy.1 za0.sizeBuilder;go_enter func250,ntmps250;go_wp2;rw[Lib.run_to_unsafe w (zA b 0) underlying273 underlying256 d (by rw[c];decide) a (Nat.zero_lt_succ 1)];simp only[Result.andThen];rw[U3];go_wp2;rw[Kz func263 (by kernel_rfl) (by kernel_rfl) (by kernel_rfl) (e:=Extern.AbiNoEscape.same) (by kernel_rfl)];rw[Lib.run_noEscape];simp only[Result.andThen];rw[U3];go_wp2;rw[Lib.run_from_unsafe w (zA b 0) underlying256 underlying273 d a za0.liesBuilder];simp only[Result.andThen];rw[U3];go_wp2;go_end0;exact⟨rfl,rfl⟩
def zq0(B b:Nat)(a:List Value)(w:zW)(h:Lib.IsBuilder 275 5 B b a w): Calls prog 250 #[.pointer (zx b)] w fun e w'=>e=.returned (.tuple #[])/\(Lib.BuilderAt 275 5 B b (.pointer (zx b)) a w'/\Below B w w'):=by rcases h with h|h;{refine(zls b w h.cell0 h.shape h.frozen0).mono ?_;rintro e w' ⟨rfl,rfl⟩;exact⟨rfl,h.used _,(Eb B w).setCell (p:=zA b 0) h.1 _⟩};{refine(zop b w h.cell0).mono ?_;rintro e w' ⟨rfl,rfl⟩;exact⟨rfl,h,Eb B _⟩}
def zqi(B b:Nat)(m:List Value)(s:zY)(w:zW)(h:Lib.IsBuilder 275 5 B b m w)(D:m.length+s.size<=140737488355328)(H:B<=w.heap.size): Calls prog 231 #[.pointer (zx b),.string s] w fun e w'=>e=.returned (.tuple #[zI s.size,.nilIface])/\(Lib.BuilderAt 275 5 B b (.pointer (zx b)) (m++Lib.strCells s) w'/\Below B w w'):=by have⟨L,I,u,x,y⟩:=Fp za0.infoByte;go_enter func231,ntmps231;go_wp2_with fail;refine(zq0 B b m _ h).mono ?_;rintro e w1 ⟨rfl,G,l⟩;obtain⟨C,v,f,i,r⟩:=G;have M:w1.cell? (zA b 0)=some (.pointer (zx b)):=by{rw[Lib.cell_of_heap f];rfl};have O:w1.cell? (zA b 1)=some v:=by{rw[Lib.cell_of_heap f];rfl};(go_wp2_with (at_builtin;refine Lib.wpList_append_own_string _ rfl _ _ 22 9 rfl B 5 L underlying22 underlying9 I u x y _ _ _ rfl i s rfl ?c3 ?c4 ?c5 ?_));(case c3=>unfold maxLen;omega);(case c4=>omega);(case c5=>have:=l.size;omega);intro v' n c a _;have q:b<w1.heap.size:=by{rcases Nv b w1.heap.size with o|o;{exact o};{simp[Mm o]at f}};have d:n.heap[b]?=some (.cells #[.pointer (zx b),v] 275 (0,0)):=by{rw[a.block b q (fun e=>r e.symm)];exact f};have P:n.cell? (zA b 0)=some (.pointer (zx b)):=by{rw[Lib.cell_of_heap d];rfl};have Q:n.cell? (zA b 1)=some v:=by{rw[Lib.cell_of_heap d];rfl};have f1:n.frozen? (zA b 1)=false:=Lib.frozen_of_heap d 1;obtain⟨z,E,j,rfl⟩:∃z E j,v'=.slice z E j:=by{rcases c.2 with⟨t,_⟩|⟨g,j,F,t,_⟩;{exact⟨_,_,_,t⟩};{exact⟨_,_,_,t⟩}};go_wp2_with fail;go_ret2;refine⟨rfl,?_,?_⟩;{exact Lib.BuilderAt.put (T:=275) (e:=5) C d (bs':=m++Lib.strCells s) (by simpa [Lib.strCells_length] using c) za0.neB5};{exact(l.grown a (by have:=l.size;omega) (fun k K=>(i.lt k K).1)).setCell (p:=zA b 1) C _}
