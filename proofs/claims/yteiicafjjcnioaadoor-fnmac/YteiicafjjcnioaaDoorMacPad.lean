/- The walk of impl.padKey: a key at its full width, each byte put together with one. -/
import Derived.Test.YteiicafjjcnioaaDoorMacPlain
import Derived.Test.YteiicafjjcnioaaDoorShaDigest
namespace Go.Proofs.YteiicafjjcnioaaDoor.Sh
open Go.RowKit
open Go.Proofs.YteiicafjjcnioaaDoor.Nu (bv hideJ run_copy_string)

theorem zeroB64 : (#[.int .u8 0, .int .u8 0, .int .u8 0, .int .u8 0, .int .u8 0, .int .u8 0, .int .u8 0, .int .u8 0, .int .u8 0, .int .u8 0, .int .u8 0, .int .u8 0, .int .u8 0, .int .u8 0, .int .u8 0, .int .u8 0, .int .u8 0, .int .u8 0, .int .u8 0, .int .u8 0, .int .u8 0, .int .u8 0, .int .u8 0, .int .u8 0, .int .u8 0, .int .u8 0, .int .u8 0, .int .u8 0, .int .u8 0, .int .u8 0, .int .u8 0, .int .u8 0, .int .u8 0, .int .u8 0, .int .u8 0, .int .u8 0, .int .u8 0, .int .u8 0, .int .u8 0, .int .u8 0, .int .u8 0, .int .u8 0, .int .u8 0, .int .u8 0, .int .u8 0, .int .u8 0, .int .u8 0, .int .u8 0, .int .u8 0, .int .u8 0, .int .u8 0, .int .u8 0, .int .u8 0, .int .u8 0, .int .u8 0, .int .u8 0, .int .u8 0, .int .u8 0, .int .u8 0, .int .u8 0, .int .u8 0, .int .u8 0, .int .u8 0, .int .u8 0] : Array Value) = rowF .u8 64 (fun _ => 0) := by rfl

set_option maxRecDepth 100000 in
set_option maxHeartbeats 1000000 in
theorem pad_short (t : ByteArray) (c : Nat) (w : World) (ht : ¬ 64 < t.size) (hc : c < 256) :
    Calls Tryd.prog 69 #[.string t, .int .u8 c] w fun e w' => e = .returned (.string (padV t c)) ∧ Below w.heap.size w w' := by
  obtain ⟨w1, hw1⟩ : ∃ w1, w1 = w.alloc (.cells (rowF .u8 64 (fun _ => 0)) 94) := ⟨_, rfl⟩
  have hrow : IsB w1 w.heap.size 94 .u8 64 (fun _ => 0) := by rw [hw1]; exact IsB.new _ _ _ _ _
  have hbel1 : Below w.heap.size w w1 := by rw [hw1]; exact (Below.refl _ _).alloc (Nat.le_refl _) _
  obtain ⟨w2, c1, hrow2, k1, k2, k3, k4, k5⟩ := run_copy_string (P := Tryd.prog) w1 22 9 3 5 (some ⟨w.heap.size, 0, none⟩) w.heap.size 0 64 64 t (rowF .u8 64 (fun _ => 0)).toList 94 Tryd.underlying22 Nu.Tryd.sizeJ5 (by unfold IsB at hrow; simpa using hrow) (fun _ => rfl) (by omega) (by simp [rowF_size]; omega)
  rw [splice_row _ _ _ (by omega)] at hrow2
  have HB := hideJ (show IsB w2 w.heap.size 94 .u8 64 (fun j => if j < t.size then (bt t j : Nat) else 0) from hrow2)
  have HL := hideJ (Nu.copy_below hbel1 k1 k2 k3 k4 k5)
  clear hrow hbel1 k1 k2 k3 k4 k5 hrow2
  subst hw1
  go_enter Tryd.func69, Tryd.ntmps69
  go_wp2_with fail
  rw [zeroB64, c1]
  go_wp2_with fail
  go_loopw [15] (fun i wr => ∃ k : Nat, i = .int .i64 k ∧ k ≤ 64 ∧ IsB wr w.heap.size 94 .u8 64 (fun j => (xorK t c k j : Nat)) ∧ Below w.heap.size w wr) (fun i _ => 64 - (intOf i).toNat)
  case atStart =>
    exact ⟨0, rfl, by omega, IsB.congr HB.out (fun j _ => by rw [xorK_zero]; exact bt_of_copy t j), HL.out⟩
  case round =>
    obtain ⟨k, rfl, hk, h1, hbel⟩ := hrel
    have G1 := hideJ h1
    by_cases hlt : k < 64
    · have ce := h1.cell (j := k) (by omega)
      have cf := h1.frozen k
      have HV := hideJ (xor_byte t c k hc)
      clear h1
      go_wp2_with fail
      go_roundw
      case rel =>
        exact ⟨k + 1, by go_num, by omega, IsB.congr (G1.out.set k _) (fun j hj => xorK_next t c k j _ HV.out), hbel.setCell (Nat.le_refl _) _⟩
      case measure => simp [intOf]; omega
    · obtain rfl : k = 64 := by omega
      have hcv := h1.str (P := Tryd.prog) (src := 22) (dst := 9) 64 64 (Nat.le_refl _) (fun j _ => xorK_lt _ _ _ _ hc) Tryd.underlying22 Tryd.underlying5 Tryd.underlying9
      have HR := hideJ (xorK_all t c)
      clear h1
      go_wp2_with fail
      go_ret
      exact ⟨Nu.ret_strJ HR.out, hbel⟩

set_option maxRecDepth 100000 in
set_option maxHeartbeats 1000000 in
theorem pad_long (s : ByteArray) (c : Nat) (w : World) (hs : 64 < s.size) (hs2 : s.size ≤ 1048576) (hc : c < 256) (hV : Vars w) :
    Calls Tryd.prog 69 #[.string s, .int .u8 c] w fun e w' => e = .returned (.string (padV (sha s) c)) ∧ Below w.heap.size w w' := by
  go_enter Tryd.func69, Tryd.ntmps69
  go_wp2_with fail
  refine (digestOf_any s w hs2 hV).mono ?_
  rintro e w0 ⟨rfl, hb0⟩
  have HZ0 := hideJ hb0
  have ht : (sha s).size ≤ 64 := by rw [sha_size]; decide
  obtain ⟨t, hte⟩ : ∃ t, t = sha s := ⟨_, rfl⟩
  rw [← hte] at ht ⊢
  have HTE := hideJ hte
  clear hte
  clear hb0 hV
  obtain ⟨w1, hw1⟩ : ∃ w1, w1 = w0.alloc (.cells (rowF .u8 64 (fun _ => 0)) 94) := ⟨_, rfl⟩
  have hrow : IsB w1 w0.heap.size 94 .u8 64 (fun _ => 0) := by rw [hw1]; exact IsB.new _ _ _ _ _
  have hbel1 : Below w0.heap.size w0 w1 := by rw [hw1]; exact (Below.refl _ _).alloc (Nat.le_refl _) _
  obtain ⟨w2, c1, hrow2, k1, k2, k3, k4, k5⟩ := run_copy_string (P := Tryd.prog) w1 22 9 3 5 (some ⟨w0.heap.size, 0, none⟩) w0.heap.size 0 64 64 t (rowF .u8 64 (fun _ => 0)).toList 94 Tryd.underlying22 Nu.Tryd.sizeJ5 (by unfold IsB at hrow; simpa using hrow) (fun _ => rfl) (by omega) (by simp [rowF_size]; omega)
  rw [splice_row _ _ _ (by omega)] at hrow2
  have HB := hideJ (show IsB w2 w0.heap.size 94 .u8 64 (fun j => if j < t.size then (bt t j : Nat) else 0) from hrow2)
  have HL := hideJ (Nu.copy_below hbel1 k1 k2 k3 k4 k5)
  clear hrow hbel1 k1 k2 k3 k4 k5 hrow2
  subst hw1
  go_wp2_with fail
  rw [zeroB64, c1]
  go_wp2_with fail
  go_loopw [15] (fun i wr => ∃ k : Nat, i = .int .i64 k ∧ k ≤ 64 ∧ IsB wr w0.heap.size 94 .u8 64 (fun j => (xorK t c k j : Nat)) ∧ Below w0.heap.size w0 wr) (fun i _ => 64 - (intOf i).toNat)
  case atStart =>
    exact ⟨0, rfl, by omega, IsB.congr HB.out (fun j _ => by rw [xorK_zero]; exact bt_of_copy t j), HL.out⟩
  case round =>
    obtain ⟨k, rfl, hk, h1, hbel⟩ := hrel
    have G1 := hideJ h1
    by_cases hlt : k < 64
    · have ce := h1.cell (j := k) (by omega)
      have cf := h1.frozen k
      have HV := hideJ (xor_byte t c k hc)
      clear h1
      go_wp2_with fail
      go_roundw
      case rel =>
        exact ⟨k + 1, by go_num, by omega, IsB.congr (G1.out.set k _) (fun j hj => xorK_next t c k j _ HV.out), hbel.setCell (Nat.le_refl _) _⟩
      case measure => simp [intOf]; omega
    · obtain rfl : k = 64 := by omega
      have hcv := h1.str (P := Tryd.prog) (src := 22) (dst := 9) 64 64 (Nat.le_refl _) (fun j _ => xorK_lt _ _ _ _ hc) Tryd.underlying22 Tryd.underlying5 Tryd.underlying9
      have HR := hideJ (xorK_all t c)
      clear h1
      go_wp2_with fail
      go_ret
      exact ⟨Nu.ret_strJ (by rw [← HTE.out]; exact HR.out), HZ0.out.trans (hbel.mono HZ0.out.size)⟩

theorem pad_any (t : ByteArray) (c : Nat) (w : World) (ht : t.size ≤ 1048576) (hc : c < 256) (hV : Vars w) :
    Calls Tryd.prog 69 #[.string t, .int .u8 c] w fun e w' => e = .returned (.string (padV (keyV t) c)) ∧ Below w.heap.size w w' := by
  by_cases h : 64 < t.size
  · rw [keyV_long t h]
    exact pad_long t c w h ht hc hV
  · rw [keyV_short t h]
    exact pad_short t c w h hc
end Go.Proofs.YteiicafjjcnioaaDoor.Sh
