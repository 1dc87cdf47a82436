/- The law FnCode, whatever bytes it draws from. -/
import Derived.Test.YtmkpakhpjgocjaaCzCdLaw
import Derived.Test.YtmkpakhpjgocjaaCzDrawBo
namespace Go.Proofs.Ytmkpakhpjgocjaa.fnCode
open Go.RowKit
open Go.Proofs.Ytmkpakhpjgocjaa.Dr (row_of IsRow)

set_option maxRecDepth 100000 in
theorem walk (a0 : Option Addr) (len0 cap0 : Nat) (z0 : List Int) {w : World} (w0 : IsRow .u8 w a0 len0 cap0 z0) (a1 : Option Addr) (len1 cap1 : Nat) (z1 : List Int) (w1 : IsRow .u8 w a1 len1 cap1 z1) :
    Calls Try.prog 3 #[.slice a0 len0 cap0, .slice a1 len1 cap1] w fun e w' => e = .returned (.bool true) ∧ Below w.heap.size w w' := by
  by_cases h0 : len0 ≤ 1048576
  · by_cases h1 : len1 ≤ 1048576
    · exact walk_in (hideC Dr.drawBits_any) w a0 len0 cap0 a1 len1 cap1 (row_of w0) (row_of w1) h0 h1
    · clear w0 w1
      have g0 : (len0 : Int) ≤ 1048576 := by omega
      have g1 : (1048576 : Int) < len1 := by omega
      go_enter Try.func3, Try.ntmps3
      go_wp2
      go_ret
      exact ⟨rfl, Below.refl _ _⟩
  · clear w0 w1
    have g0 : (1048576 : Int) < len0 := by omega
    go_enter Try.func3, Try.ntmps3
    go_wp2
    go_ret
    exact ⟨rfl, Below.refl _ _⟩
end Go.Proofs.Ytmkpakhpjgocjaa.fnCode
