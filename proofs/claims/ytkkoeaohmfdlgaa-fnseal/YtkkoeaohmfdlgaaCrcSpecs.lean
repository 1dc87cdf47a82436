/- The walks of spec.CrcMore and spec.Crc: each answers Cr.moreV of its number and text, and turns nothing. -/
import Derived.Test.YtkkoeaohmfdlgaaCrcWalks
namespace Go.Proofs.Ytkkoeaohmfdlgaa.Cr
open Go.RowKit

theorem more_spec (c : Int) (s : ByteArray) (w : World) (hs : s.size ≤ maxLen) :
    Calls Try.prog 11 #[.int .i64 c, .string s] w fun e w' => e = .returned (.int .i64 (moreV c s)) ∧ w' = w := by
  unfold maxLen at hs
  by_cases h1 : 8000 < s.size
  · go_enter Try.func11, Try.ntmps11
    go_wp2
    go_ret
    exact ⟨ret_int (moreV_no c s (by omega)).symm, rfl⟩
  · by_cases h2 : c < 0
    · go_enter Try.func11, Try.ntmps11
      go_wp2
      go_ret
      exact ⟨ret_int (moreV_no c s (by omega)).symm, rfl⟩
    · by_cases h3 : 4294967295 < c
      · go_enter Try.func11, Try.ntmps11
        go_wp2
        go_ret
        exact ⟨ret_int (moreV_no c s (by omega)).symm, rfl⟩
      · obtain ⟨n, rfl⟩ := Int.eq_ofNat_of_zero_le (show 0 ≤ c from by omega)
        have HM : Hid (moreV n s = (fin (crcL (fin n) s.data.toList) : Nat)) := moreV_yes n s (by omega) (by omega)
        have h3' : ¬ (4294967295 : Int) < n := h3
        go_enter Try.func11, Try.ntmps11
        go_wp2_with fail
        refine (crc_spec n s _ (by omega) (by omega)).mono ?_
        rintro e w' ⟨rfl, rfl⟩
        go_wp2
        go_ret
        exact ⟨ret_int HM.out.symm, rfl⟩

theorem crc_spec0 (s : ByteArray) (w : World) (hs : s.size ≤ maxLen) :
    Calls Try.prog 23 #[.string s] w fun e w' => e = .returned (.int .i64 (moreV 0 s)) ∧ w' = w := by
  unfold maxLen at hs
  by_cases h1 : 8000 < s.size
  · go_enter Try.func23, Try.ntmps23
    go_wp2
    go_ret
    exact ⟨ret_int (moreV_no 0 s (by omega)).symm, rfl⟩
  · have HM : Hid (moreV (0 : Nat) s = (fin (crcL (fin 0) s.data.toList) : Nat)) := moreV_yes 0 s (by omega) (by omega)
    go_enter Try.func23, Try.ntmps23
    go_wp2_with fail
    refine (crc_spec 0 s _ (by omega) (by omega)).mono ?_
    rintro e w' ⟨rfl, rfl⟩
    go_wp2
    go_ret
    exact ⟨ret_int HM.out.symm, rfl⟩
end Go.Proofs.Ytkkoeaohmfdlgaa.Cr
