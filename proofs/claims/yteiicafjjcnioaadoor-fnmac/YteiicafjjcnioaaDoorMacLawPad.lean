/- The walk of laws.lwPad: a key at its full width, each byte put together with one. -/
import Derived.Test.YteiicafjjcnioaaDoorMacPlain
import Derived.Test.YteiicafjjcnioaaDoorShaFill
namespace Go.Proofs.YteiicafjjcnioaaDoor.Sh
open Go.RowKit
open Go.Proofs.YteiicafjjcnioaaDoor.Nu (bv hideJ run_copy_string)

set_option maxRecDepth 100000 in
set_option maxHeartbeats 1000000 in
theorem lwPad_any (t : ByteArray) (c : Nat) (w : World) (ht : t.size ≤ 64) (hc : c < 256) :
    Calls Tryd.prog 20 #[.string t, .int .u8 c] w fun e w' => e = .returned (.string (padV t c)) ∧ Below w.heap.size w w' := by
  obtain ⟨i0, hi, hz0, hz1, hz2⟩ := info_parts Nu.Tryd.infoJ5
  go_enter Tryd.func20, Tryd.ntmps20
  go_wp2_with (at_make; refine wpList_make_full _ rfl (.const (.int .i64 64)) (.const (.int .i64 64)) 22 rfl w.heap.size 5 i0 (.int .u8 0) 1 Tryd.underlying22 hi hz0 hz1 .i64 .i64 _ _ 64 rfl rfl (by simp) (by simp) (by rw [hz2]; omega) (by unfold maxLen; omega) (Nat.le_refl _) ?_; intro w1 hown1 hgrow1; have hrow := made_row hown1; have hbel1 := (Below.refl w.heap.size w).grown hgrow1 (Nat.le_refl _) (by simp); obtain ⟨w2, c1, hrow2, k1, k2, k3, k4, k5⟩ := run_copy_string (P := Tryd.prog) w1 22 9 3 5 (some ⟨w.heap.size, 0, none⟩) w.heap.size 0 64 64 t (rowF .u8 64 (fun _ => 0)).toList 5 Tryd.underlying22 Nu.Tryd.sizeJ5 (by unfold IsB at hrow; simpa using hrow) (fun _ => rfl) (by omega) (by simp [rowF_size]; omega); rw [splice_row _ _ _ (by omega)] at hrow2; have HB := hideJ (show IsB w2 w.heap.size 5 .u8 64 (fun j => if j < t.size then (bt t j : Nat) else 0) from hrow2); have HL := hideJ (Nu.copy_below hbel1 k1 k2 k3 k4 k5); clear hown1 hgrow1 hrow hbel1 k1 k2 k3 k4 k5 hrow2)
  go_loopw [6] (fun i wr => ∃ k : Nat, i = .int .i64 k ∧ k ≤ 64 ∧ IsB wr w.heap.size 5 .u8 64 (fun j => (xorK t c k j : Nat)) ∧ Below w.heap.size w wr) (fun i _ => 64 - (intOf i).toNat)
  case atStart =>
    exact ⟨0, rfl, by omega, IsB.congr HB.out (fun j _ => by rw [xorK_zero]; exact bt_of_copy t j), HL.out⟩
  case round =>
    obtain ⟨k, rfl, hk, h1, hbel⟩ := hrel
    have G1 := hideJ h1
    by_cases hlt : k < 64
    · have ce := h1.cell (j := k) (by omega)
      have cf := h1.frozen k
      have HV := hideJ (xor_byte t c k hc)
      clear h1
      go_wp2_with fail
      go_roundw
      case rel =>
        exact ⟨k + 1, by go_num, by omega, IsB.congr (G1.out.set k _) (fun j hj => xorK_next t c k j _ HV.out), hbel.setCell (Nat.le_refl _) _⟩
      case measure => simp [intOf]; omega
    · obtain rfl : k = 64 := by omega
      have hcv := h1.str (P := Tryd.prog) (src := 22) (dst := 9) 64 64 (Nat.le_refl _) (fun j _ => xorK_lt _ _ _ _ hc) Tryd.underlying22 Tryd.underlying5 Tryd.underlying9
      have HR := hideJ (xorK_all t c)
      clear h1
      go_wp2_with fail
      go_ret
      exact ⟨Nu.ret_strJ HR.out, hbel⟩

end Go.Proofs.YteiicafjjcnioaaDoor.Sh
