/- The walks of the functions that seal a text: each answers Se.sealV of its text, and writes nothing that was there. -/
import Derived.Test.YtkkoeaohmfdlgaaCrcWalks
import Derived.Test.YtkkoeaohmfdlgaaJoinWalks
namespace Go.Proofs.Ytkkoeaohmfdlgaa.Se
open Go.RowKit
open Go.Proofs.Ytkkoeaohmfdlgaa.Nu (bv arr_string ret_strJ hideJ)

def crcOf (s : ByteArray) : Nat := Cr.fin (Cr.crcL (Cr.fin 0) s.data.toList)
def fourL (n : Nat) : List UInt8 := [UInt8.ofNat (n % 256), UInt8.ofNat (n / 256 % 256), UInt8.ofNat (n / 65536 % 256), UInt8.ofNat (n / 16777216)]
def fourS (n : Nat) : ByteArray := ⟨(fourL n).toArray⟩
def sealV (t : ByteArray) : ByteArray := if t.size ≤ 7996 then t ++ fourS (crcOf t) else ⟨#[]⟩

theorem crcOf_lt (s : ByteArray) : crcOf s < 4294967296 := Cr.fin_lt (Cr.crcL_lt _ _ (Cr.fin_lt (by decide)))
theorem fourS_size (n : Nat) : (fourS n).size = 4 := rfl
theorem moreV_crc (s : ByteArray) (h : s.size ≤ 8000) : Cr.moreV 0 s = (crcOf s : Nat) := Cr.moreV_yes 0 s h (by decide)

theorem bv_of (q : Nat) (x : Int) (hq : (q : Int) = x) (h : q < 256) : bv (UInt8.ofNat q) = .int .u8 x := by
  unfold bv
  rw [UInt8.toNat_ofNat', Nat.mod_eq_of_lt (by omega), hq]

theorem four_cells (n : Nat) (h : n < 4294967296) :
    (#[.int .u8 ((n : Int) % 256), .int .u8 ((n : Int) / 256 % 256), .int .u8 ((n : Int) / 65536 % 256), .int .u8 ((n : Int) / 16777216)] : Array Value).toList = (fourL n).map bv := by
  simp only [fourL, List.map_cons, List.map_nil]
  rw [bv_of (n % 256) ((n : Int) % 256) (by omega) (by omega), bv_of (n / 256 % 256) ((n : Int) / 256 % 256) (by omega) (by omega),
    bv_of (n / 65536 % 256) ((n : Int) / 65536 % 256) (by omega) (by omega), bv_of (n / 16777216) ((n : Int) / 16777216) (by omega) (by omega)]

theorem four_conv {P : Program} {src dst e : TypeId} (t : TypeId) (u : World) (n : Nat) (h : n < 4294967296) (hs : P.underlying src = some (.slice e)) (he : P.underlying e = some (.int .u8)) (hd : P.underlying dst = some .string) :
    (convert src dst (.slice (some ⟨u.heap.size, 0, none⟩) 4 4)).run P (u.alloc (.cells #[.int .u8 ((n : Int) % 256), .int .u8 ((n : Int) / 256 % 256), .int .u8 ((n : Int) / 65536 % 256), .int .u8 ((n : Int) / 16777216)] t)) =
      .ok (.string (fourS n)) (u.alloc (.cells #[.int .u8 ((n : Int) % 256), .int .u8 ((n : Int) / 256 % 256), .int .u8 ((n : Int) / 65536 % 256), .int .u8 ((n : Int) / 16777216)] t)) :=
  arr_string (P := P) (fourL n) 4 (heap_alloc_new u _) (by rw [four_cells n h]; rfl) hs he hd

set_option maxHeartbeats 400000 in
theorem four_any (n : Nat) (w : World) (hn : n < 4294967296) :
    Calls Try.prog 19 #[.int .i64 n] w fun e w' => e = .returned (.string (fourS n)) ∧ Below w.heap.size w w' := by
  have hcv := four_conv (P := Try.prog) 5 w n hn Try.underlying22 Try.underlying5 Try.underlying9
  go_enter Try.func19, Try.ntmps19
  go_wp2
  go_ret
  exact ⟨rfl, (Below.refl _ _).alloc (Nat.le_refl _) _⟩

set_option maxHeartbeats 400000 in
theorem sum_any (s : ByteArray) (w : World) (hs : s.size ≤ 8000) :
    Calls Try.prog 18 #[.string s] w fun e w' => e = .returned (.string (fourS (crcOf s))) ∧ Below w.heap.size w w' := by
  have HV := hideJ (moreV_crc s hs)
  have hn := crcOf_lt s
  generalize crcOf s = n at HV hn ⊢
  have hcv := four_conv (P := Try.prog) 48 w n hn Try.underlying22 Try.underlying5 Try.underlying9
  go_enter Try.func18, Try.ntmps18
  go_wp2_with fail
  refine (Cr.crc_impl0 s _ (by unfold maxLen; omega)).mono ?_
  rw [HV.out]
  rintro e w' ⟨rfl, hw⟩
  subst w'
  go_wp2
  refine wp_loop_rounds 5 ?_
  rw [rounds_succ]; go_wp2
  rw [rounds_succ]; go_wp2
  rw [rounds_succ]; go_wp2
  rw [rounds_succ]; go_wp2
  rw [rounds_succ]; go_wp2
  go_ret
  exact ⟨rfl, (Below.refl _ _).alloc (Nat.le_refl _) _⟩

set_option maxHeartbeats 400000 in
theorem seal_spec (t : ByteArray) (w : World) (ht : t.size ≤ maxLen) :
    Calls Try.prog 6 #[.string t] w fun e w' => e = .returned (.string (sealV t)) ∧ Below w.heap.size w w' := by
  unfold maxLen at ht
  by_cases h : 7996 < t.size
  · have HP := hideJ (show sealV t = ⟨#[]⟩ by unfold sealV; rw [if_neg (by omega)])
    go_enter Try.func6, Try.ntmps6
    go_wp2
    go_ret
    exact ⟨ret_strJ HP.out.symm, Below.refl _ _⟩
  · have HP := hideJ (show sealV t = t ++ fourS (crcOf t) by unfold sealV; rw [if_pos (by omega)])
    have hc := crcOf_lt t
    have hf := fourS_size (crcOf t)
    have HF := hideJ hf
    clear hf
    have hf4 : (fourS (crcOf t)).size ≤ 4 := by rw [HF.out]; omega
    go_enter Try.func6, Try.ntmps6
    go_wp2_with fail
    refine (Cr.crc_spec 0 t _ (by omega) (by omega)).mono ?_
    rintro e w' ⟨rfl, hw⟩
    subst w'
    go_wp2_with fail
    refine (four_any (crcOf t) _ hc).mono ?_
    rintro e w1 ⟨rfl, hb1⟩
    go_wp2
    go_ret
    exact ⟨ret_strJ HP.out.symm, hb1⟩

set_option maxHeartbeats 400000 in
theorem seal_impl (t : ByteArray) (w : World) (ht : t.size ≤ maxLen) :
    Calls Try.prog 5 #[.string t] w fun e w' => e = .returned (.string (sealV t)) ∧ Below w.heap.size w w' := by
  unfold maxLen at ht
  by_cases h : 7996 < t.size
  · have HP := hideJ (show sealV t = ⟨#[]⟩ by unfold sealV; rw [if_neg (by omega)])
    go_enter Try.func5, Try.ntmps5
    go_wp2
    go_ret
    exact ⟨ret_strJ HP.out.symm, Below.refl _ _⟩
  · have HP := hideJ (show sealV t = t ++ fourS (crcOf t) by unfold sealV; rw [if_pos (by omega)])
    have HF := hideJ (fourS_size (crcOf t))
    go_enter Try.func5, Try.ntmps5
    go_wp2_with fail
    refine (sum_any t _ (by omega)).mono ?_
    rintro e w1 ⟨rfl, hb1⟩
    go_wp2_with fail
    refine (Nu.join_any _ _ _ (by rw [HF.out]; omega)).mono ?_
    rintro e w2 ⟨rfl, hb2⟩
    go_wp2
    go_ret
    exact ⟨ret_strJ HP.out.symm, hb1.trans (hb2.mono hb1.size)⟩
end Go.Proofs.Ytkkoeaohmfdlgaa.Se
