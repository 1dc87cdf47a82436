import Derived.Test.YtoojegpaofdbfaaGreatDoorKz6
set_option maxRecDepth 100000
set_option maxHeartbeats 8000000
namespace Go.Proofs.YtoojegpaofdbfaaGreatDoor
open Go.RowKit
open Go.Proofs.Tryz
namespace Nu
theorem zcM(s:zY)(i j:Nat)(w:zW)(r:s.size<=1048576)(o:i<=j)(q:j<=s.size): Calls prog 74 #[.string s,.int .i64 i,.int .i64 j] w (zB w (.string (s.extract i j))):=by obtain⟨p,n,g,h,k⟩:=E4 Tryz.infoJ5;go_enter func74,ntmps74;(go_wp2_with (at_make;refine Fi _ rfl (.tmp 10) (.tmp 10) 22 rfl w.heap.size 5 p (.int .u8 0) 1 underlying22 n g h .i64 .i64 _ _ (j-i) rfl rfl (by omega) (by omega) (by rw[k];omega) (by unfold maxLen;omega) (Ea _) ?_;intro w1 d b;obtain⟨l,e,f⟩:=zd6 d;have c:=(Eb w.heap.size w).grown b (Ea _) (by simp);obtain⟨t,c1,c2,m⟩:=zqA (P:=prog) (ty:=3) (sT:=9) (a:=s.extract i j) underlying22 underlying5 underlying9 Tryz.sizeJ5 e f (by simp;omega) c;clear d b e f c));go_ret;exact⟨rfl,by assumption⟩
end Nu
end Go.Proofs.YtoojegpaofdbfaaGreatDoor
