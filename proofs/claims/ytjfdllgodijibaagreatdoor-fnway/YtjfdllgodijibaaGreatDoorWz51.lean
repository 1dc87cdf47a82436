/- Texts put together: WyWalk. -/
import Derived.Test.YtjfdllgodijibaaGreatDoorWz50
set_option maxRecDepth 100000
set_option maxHeartbeats 8000000
namespace Go.Proofs.YtjfdllgodijibaaGreatDoor.fnWay
open Go.RowKit
open Dr (row_of IsRow)
open Sh (Vars)
theorem walk (a0:Option Addr) (len0 cap0:Nat) (z0:List Int) {w:World} (w0:IsRow .u8 w a0 len0 cap0 z0) (hV:Vars w) :
  Calls Tryz.prog 3 #[.slice a0 len0 cap0] w fun e w'=>e=.returned (.bool true)/\Below w.heap.size w w':=by
 by_cases h0:len0<=1048576
 ·exact walk_in w a0 len0 cap0 (row_of w0) h0 hV
 ·clear w0 hV
  have g0:(1048576:Int)<len0:=by omega
  go_enter Tryz.func3,Tryz.ntmps3
  go_wp2
  go_ret
  exact⟨rfl,Below.refl _ _⟩
end Go.Proofs.YtjfdllgodijibaaGreatDoor.fnWay

