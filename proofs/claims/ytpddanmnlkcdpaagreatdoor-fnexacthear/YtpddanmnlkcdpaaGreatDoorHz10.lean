/- Texts put together: CutWalks. -/
import Derived.Test.YtpddanmnlkcdpaaGreatDoorHz7
set_option maxRecDepth 100000
set_option maxHeartbeats 8000000
namespace Go.Proofs.YtpddanmnlkcdpaaGreatDoor.Nu
open Go.RowKit
theorem cut_any (s:ByteArray) (i j:Nat) (w:World) (hs:s.size<=1048576) (hij:i<=j) (hj:j<=s.size) :
  Calls Tryz.prog 170 #[.string s,.int .i64 i,.int .i64 j] w fun e w'=>e=.returned (.string (s.extract i j))/\Below w.heap.size w w':=by
 obtain⟨i0,hi,hz0,hz1,hz2⟩:=info_parts Tryz.infoJ5
 go_enter Tryz.func170,Tryz.ntmps170
 go_wp2_with (at_make;refine wpList_make_full _ rfl (.tmp 10) (.tmp 10) 168 rfl w.heap.size 5 i0 (.int .u8 0) 1 Tryz.underlying168 hi hz0 hz1 .i64 .i64 _ _ (j-i) rfl rfl (by omega) (by omega) (by rw[hz2];omega) (by unfold maxLen;omega) (Nat.le_refl _) ?_;intro w1 hown1 hgrow1;obtain⟨cur,hblk,hlen⟩:=made_block hown1;have hbel1:=(Below.refl w.heap.size w).grown hgrow1 (Nat.le_refl _) (by simp);obtain⟨w2,c1,c2,hb2⟩:=cut_facts (P:=Tryz.prog) (ty:=3) (sT:=9) (a:=s.extract i j) Tryz.underlying168 Tryz.underlying5 Tryz.underlying9 Tryz.sizeJ5 hblk hlen (by simp;omega) hbel1;clear hown1 hgrow1 hblk hlen hbel1)
 go_ret
 exact⟨rfl,by assumption⟩
end Go.Proofs.YtpddanmnlkcdpaaGreatDoor.Nu

