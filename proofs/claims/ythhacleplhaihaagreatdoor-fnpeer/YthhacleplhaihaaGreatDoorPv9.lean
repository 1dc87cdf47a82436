import Derived.Test.YthhacleplhaihaaGreatDoorPv6
set_option maxRecDepth 100000
set_option maxHeartbeats 8000000
set_option linter.defProp false
namespace Go.Proofs.YthhacleplhaihaaGreatDoor
open Go.RowKit
open Go.Proofs.Tryz
def zim(s:zY)(i j:Nat)(w:zW)(u:s.size<=1048576)(o:i<=j)(t:j<=s.size): Calls prog 174 #[.string s,zI i,zI j] w (zB w (.string (s.extract i j))):=by have⟨p,n,g,h,k⟩:=Fp Tryz.infoJ5;go_enter func174,ntmps174;(go_wp2_with (at_make;refine Lu _ rfl (.tmp 10) (.tmp 10) 22 rfl w.heap.size 5 p (.int .u8 0) 1 underlying22 n g h .i64 .i64 _ _ (j-i) rfl rfl (by omega) (by omega) (by rw[k];omega) (by unfold maxLen;omega) (Ea _) ?_;intro w1 d b;have⟨l,e,f⟩:=zed d;have c:=(Eb w.heap.size w).grown b (Ea _) (by simp);have⟨v,q,r,m⟩:=zqh (P:=prog) (ty:=3) (sT:=9) (a:=s.extract i j) underlying22 underlying5 underlying9 Tryz.sizeJ5 e f (by simp;omega) c;clear d b e f c));go_ret;exact⟨rfl,by assumption⟩
