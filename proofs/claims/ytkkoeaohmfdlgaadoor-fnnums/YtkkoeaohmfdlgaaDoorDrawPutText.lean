/- The drawn text of the law on numbers and texts: some text; nothing that was there turns. -/
import Derived.Test.YtkkoeaohmfdlgaaDoorDrawRow
namespace Go.Proofs.YtkkoeaohmfdlgaaDoor.Dr
open Go.RowKit

set_option maxRecDepth 100000 in
set_option maxHeartbeats 2000000 in
theorem drawPutText_any (a : Option Addr) (len cap : Nat) (w : World) (hl : len ≤ 1048576) (hr : Row w w.heap.size a len) :
    Calls Tryd.prog 8 #[.slice a len cap] w fun e w' => ∃ t : ByteArray, t.size ≤ 30000 ∧ e = .returned (.string t) ∧ Below w.heap.size w w' := by
  obtain ⟨i0, hi, hz0, hz1, hz2⟩ := info_parts Tryd.infoD5
  have HR := hideD hr
  clear hr
  go_enter Tryd.func8, Tryd.ntmps8
  go_wp2_with fail
  refine (source_any a len cap _ hl HR.out).mono ?_
  rintro e w1 ⟨rfl, hs1, hb1, hz⟩
  have HB1 := hideD hb1
  clear hb1
  go_wp2_with fail
  refine (one_any w.heap.size a len cap 8 _ hl (by omega) hs1).mono ?_
  rintro e w2 ⟨c, rfl, hs2, ho2⟩
  have HB2 := hideD (ho2.below HB1.out (Nat.le_refl _))
  have HSZ := hideD ho2.2.2.2.1
  clear ho2 hs1
  cases c
  · go_wp2_with fail
    refine (n_any w.heap.size a len cap 20 _ hl (by omega) hs2).mono ?_
    rintro e w3 ⟨r, rfl, r0, r1, hs3, ho3⟩
    obtain ⟨m, rfl⟩ := Int.eq_ofNat_of_zero_le r0
    have HB3 := hideD (ho3.below HB2.out (Nat.le_refl _))
    have hz3 : w.heap.size ≤ w3.heap.size := HB3.out.size
    clear ho3 hs2
    go_wp2_with fail
    refine (bytes_any w.heap.size a len cap m _ hl (by omega) hs3).mono ?_
    rintro e w4 ⟨l, hl4, rfl, hs4, ha4⟩
    have HB4 := hideD (ha4.below HB3.out (Nat.le_refl _) hz3)
    clear ha4 hs4 hs3
    go_wp2
    go_ret
    exact ⟨⟨l.toArray⟩, by show l.toArray.size ≤ 30000; simp; omega, rfl, HB4.out⟩
  · go_wp2_with fail
    refine (n_any w.heap.size a len cap 3 _ hl (by omega) hs2).mono ?_
    rintro e w3 ⟨r, rfl, r0, r1, hs3, ho3⟩
    obtain ⟨m, rfl⟩ := Int.eq_ofNat_of_zero_le r0
    have hm : m ≤ 3 := by omega
    have HB3 := hideD (ho3.below HB2.out (Nat.le_refl _))
    have hz3 : w.heap.size ≤ w3.heap.size := HB3.out.size
    clear ho3 hs2 hs3
    go_wp2_with (at_make; refine wpList_make_full _ rfl (.tmp 10) (.tmp 10) 22 rfl w.heap.size 5 i0 (.int .u8 0) 1 Tryd.underlying22 hi hz0 hz1 .i64 .i64 _ _ (19999 + m) rfl rfl (by omega) (by omega) (by rw [hz2]; omega) (by unfold maxLen; omega) hz3 ?_; intro w4 hown4 hgrow4; have hb4 := HB3.out.grown hgrow4 hz3 (by simp); have hconv := zero_string (P := Tryd.prog) (src := 22) (dst := 9) (19999 + m) (by simpa using hown4) Tryd.underlying22 Tryd.underlying5 Tryd.underlying9; clear hown4 hgrow4)
    go_ret
    exact ⟨zeroS (19999 + m), by rw [zeroS_size]; omega, rfl, by assumption⟩
end Go.Proofs.YtkkoeaohmfdlgaaDoor.Dr
