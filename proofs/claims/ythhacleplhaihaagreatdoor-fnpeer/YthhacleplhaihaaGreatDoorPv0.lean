import Derived.Test.YthhacleplhaihaaGreatDoorPvAl
namespace Go.Proofs.YthhacleplhaihaaGreatDoor
abbrev zK (a:Int) (b:Int) (c:zY) (d:zY) (e:Int):Obj:=.cells #[.int .i64 a,.int .i64 b,.string c,.string d,.int .i64 e] 26
abbrev zT (a:zY) (b:Int) (c:Int):Obj:=.cells #[.string a,.int .i64 b,.int .i64 c] 184
abbrev zL (a:Int) (b:Int) (c:zY):Obj:=.cells #[.int .i64 a,.int .i64 b,.string c] 24
abbrev zR (a:Int) (b:zY) (c:Value):Obj:=.cells #[.int .i64 a,.string b,c] 151
abbrev zS (a:Int) (b:zY) (c:Value):Obj:=.cells #[.int .i64 a,.string b,c] 139
abbrev zM (a:Int) (b:Int) (c:Int):Obj:=.cells #[.int .i64 a,.int .i64 b,.int .i64 c] 196
abbrev zP (a:Int) (b:Int) (c:zY) (d:zY) (e:Int) (f:Int):Obj:=.cells #[.int .i64 a,.int .i64 b,.string c,.string d,.int .i64 e,.int .i64 f] 158
abbrev zQ (a:Int) (b:Int) (c:zY) (d:Int):Obj:=.cells #[.int .i64 a,.int .i64 b,.string c,.int .i64 d] 168
abbrev vK (a:Int) (b:Int) (c:zY) (d:zY) (e:Int):Value:=.agg #[.int .i64 a,.int .i64 b,.string c,.string d,.int .i64 e]
abbrev vT (a:zY) (b:Int) (c:Int):Value:=.agg #[.string a,.int .i64 b,.int .i64 c]
abbrev vL (a:Int) (b:Int) (c:zY):Value:=.agg #[.int .i64 a,.int .i64 b,.string c]
abbrev vR (a:Int) (b:zY) (c:Value):Value:=.agg #[.int .i64 a,.string b,c]
abbrev vN (a:Value) (b:Int) (c:Int):Value:=.agg #[a,.int .i64 b,.int .i64 c]
abbrev vM (a:Int) (b:Int) (c:Int):Value:=.agg #[.int .i64 a,.int .i64 b,.int .i64 c]
abbrev vP (a:Int) (b:Int) (c:zY) (d:zY) (e:Int) (f:Int):Value:=.agg #[.int .i64 a,.int .i64 b,.string c,.string d,.int .i64 e,.int .i64 f]
abbrev vQ (a:Int) (b:Int) (c:zY) (d:Int):Value:=.agg #[.int .i64 a,.int .i64 b,.string c,.int .i64 d]
abbrev zU(w u:zW):Prop:=RowKit.Below w.heap.size w u
abbrev zI(a:Int):Value:=.int .i64 a
abbrev zB(w:zW)(v:Value):Ending->zW->Prop:=fun e u=>e=.returned v/\RowKit.Below w.heap.size w u
abbrev zA(g i:Nat):Addr:=⟨g,i,none⟩
abbrev zx(g:Nat):Option Addr:=some ⟨g,0,none⟩
abbrev zw(W:zW)(g i:Nat)(v:Value):zW:=W.setCell ⟨g,i,none⟩ v
abbrev zc(W:zW)(g i:Nat)(v:Value):Prop:=W.cell? ⟨g,i,none⟩=some v
