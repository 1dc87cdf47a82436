import Derived.Test.YtbdcffjcogglbaaGreatDoorOz6
set_option maxRecDepth 100000
set_option maxHeartbeats 8000000
namespace Go.Proofs.YtbdcffjcogglbaaGreatDoor
open Go.RowKit
open Go.Proofs.Tryz
namespace Nu
theorem cut_any (s:ByteArray) (i j:Nat) (w:World) (hs:s.size<=1048576) (hij:i<=j) (hj:j<=s.size) :
  Calls prog 66 #[.string s,.int .i64 i,.int .i64 j] w fun e w'=>e=.returned (.string (s.extract i j))/\Below w.heap.size w w':=by
 obtain⟨i0,hi,hz0,hz1,hz2⟩:=info_parts Tryz.infoJ5;go_enter func66,ntmps66
 go_wp2_with (at_make;refine wpList_make_full _ rfl (.tmp 10) (.tmp 10) 22 rfl w.heap.size 5 i0 (.int .u8 0) 1 underlying22 hi hz0 hz1 .i64 .i64 _ _ (j-i) rfl rfl (by omega) (by omega) (by rw[hz2];omega) (by unfold maxLen;omega) nl ?_;intro w1 hown1 hgrow1;obtain⟨cur,hblk,hlen⟩:=made_block hown1;have hbel1:=(Below.refl w.heap.size w).grown hgrow1 nl (by simp);obtain⟨w2,c1,c2,hb2⟩:=cut_facts (P:=prog) (ty:=3) (sT:=9) (a:=s.extract i j) underlying22 underlying5 underlying9 Tryz.sizeJ5 hblk hlen (by simp;omega) hbel1;clear hown1 hgrow1 hblk hlen hbel1)
 go_ret;exact⟨rfl,by assumption⟩
end Nu
end Go.Proofs.YtbdcffjcogglbaaGreatDoor
