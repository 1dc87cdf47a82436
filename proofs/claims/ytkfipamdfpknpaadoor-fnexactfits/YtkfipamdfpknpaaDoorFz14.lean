/- Texts put together: BitPlain, BitWalks. -/
import Derived.Test.YtkfipamdfpknpaaDoorFz7
import Derived.Test.YtkfipamdfpknpaaDoorChecked
/- Plain mathematics of bits: a number in bits. -/
namespace Go.Proofs.YtkfipamdfpknpaaDoor.Bi
open Go.RowKit
open Go.Proofs.YtkfipamdfpknpaaDoor.Sh
def bitB (n p : Nat) : Nat := 48 + n / 2 ^ p % 2
def bitsV (n w : Nat) : ByteArray := strF w (fun j => bitB n (w - 1 - j))
def bitsR (n w : Int) : ByteArray := if w < 1 ∨ 20 < w ∨ n < 0 ∨ 2 ^ w.toNat ≤ n then ⟨#[]⟩ else bitsV n.toNat w.toNat
def upK (n w k j : Nat) : Nat := if j < k then bitB n (w - 1 - j) else 0
def dnK (n w k j : Nat) : Nat := if w ≤ j + k then bitB n (w - 1 - j) else 0
end Go.Proofs.YtkfipamdfpknpaaDoor.Bi


/- The walks of both BitsOf. -/
namespace Go.Proofs.YtkfipamdfpknpaaDoor.Bi
open Go.RowKit
open Go.Proofs.YtkfipamdfpknpaaDoor.Sh
open Go.Proofs.YtkfipamdfpknpaaDoor.Nu (ret_strJ)
theorem is_yes (n a b : Int) (w : World) (h1 : a ≤ n) (h2 : n ≤ b) :
    Calls Tryd.prog 30 #[.int .i64 n, .int .i64 a, .int .i64 b] w fun e w' => e = .returned (.bool true) ∧ w' = w := by
  go_enter Tryd.func30, Tryd.ntmps30
  go_wp2_with fail
  go_ret
  exact ⟨rfl, rfl⟩
theorem is_no (n a b : Int) (w : World) (h : n < a ∨ b < n) :
    Calls Tryd.prog 30 #[.int .i64 n, .int .i64 a, .int .i64 b] w fun e w' => e = .returned (.bool false) ∧ w' = w := by
  by_cases h1 : a ≤ n
  · have h2 : ¬ n ≤ b := by omega
    clear h
    go_enter Tryd.func30, Tryd.ntmps30
    go_wp2_with fail
    go_ret
    exact ⟨rfl, rfl⟩
  · clear h
    go_enter Tryd.func30, Tryd.ntmps30
    go_wp2_with fail
    go_ret
    exact ⟨rfl, rfl⟩
end Go.Proofs.YtkfipamdfpknpaaDoor.Bi

