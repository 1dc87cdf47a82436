/- The walk of impl.fillText: the text filled up to whole blocks, in a new row of bytes. -/
import Derived.Test.YtghghkfhcpldhaaDoorShaPad
namespace Go.Proofs.YtghghkfhcpldhaaDoor.Sh
open Go.RowKit
open Go.Proofs.YtghghkfhcpldhaaDoor.Nu (bv hideJ run_copy_string)

set_option maxRecDepth 100000 in
set_option maxHeartbeats 1000000 in
theorem fill_any (t : ByteArray) (w : World) (ht : t.size ≤ 1048576) :
    Calls Tryd.prog 75 #[.string t] w fun e w' => e = .returned (.slice (some ⟨w.heap.size, 0, none⟩) (chunks t.size * 64) (chunks t.size * 64)) ∧
      IsB w' w.heap.size 5 .u8 (chunks t.size * 64) (fun j => (pad t j : Nat)) ∧ Below w.heap.size w w' := by
  obtain ⟨i0, hi, hz0, hz1, hz2⟩ := info_parts Nu.Tryd.infoJ5
  obtain ⟨ch, hch⟩ : ∃ c, c = chunks t.size := ⟨_, rfl⟩
  have hr := chunks_room t.size
  have hti := chunks_tight t.size
  have hc : ((t.size : Int) + 1 + 8 + 64 - 1) / 64 = (ch : Int) := by rw [hch]; unfold chunks; omega
  have hcw : ((ch : Int) * 64).toNat = ch * 64 := by omega
  rw [← hch] at hr hti ⊢
  have HCH := hideJ hch
  clear hch
  go_enter Tryd.func75, Tryd.ntmps75
  go_wp2_with (at_make; refine wpList_make_full _ rfl (.tmp 15) (.tmp 15) 22 rfl w.heap.size 5 i0 (.int .u8 0) 1 Tryd.underlying22 hi hz0 hz1 .i64 .i64 _ _ (ch * 64) rfl rfl (by simp) (by simp) (by rw [hz2]; omega) (by unfold maxLen; omega) (Nat.le_refl _) ?_; intro w1 hown1 hgrow1; have hrow := made_row hown1; have hbel1 := (Below.refl w.heap.size w).grown hgrow1 (Nat.le_refl _) (by simp); obtain ⟨w2, c1, hrow2, k1, k2, k3, k4, k5⟩ := run_copy_string (P := Tryd.prog) w1 22 9 3 5 (some ⟨w.heap.size, 0, none⟩) w.heap.size 0 (ch * 64) (ch * 64) t (rowF .u8 (ch * 64) (fun _ => 0)).toList 5 Tryd.underlying22 Nu.Tryd.sizeJ5 (by unfold IsB at hrow; simpa using hrow) (fun _ => rfl) (by omega) (by simp [rowF_size]; omega); rw [splice_row _ _ _ (by omega)] at hrow2; have hrow3 : IsB w2 w.heap.size 5 .u8 (ch * 64) (fun j => if j < t.size then (bt t j : Nat) else 0) := hrow2; have HB := hideJ hrow3; have HL := hideJ (Nu.copy_below hbel1 k1 k2 k3 k4 k5); have hce := hrow3.cell (j := t.size) (by omega); have hfz := hrow3.frozen t.size; clear hown1 hgrow1 hrow hbel1 k1 k2 k3 k4 k5 hrow2 hrow3)
  go_loopw [28] (fun i wr => ∃ k : Nat, i = .int .i64 k ∧ k ≤ 8 ∧ IsB wr w.heap.size 5 .u8 (ch * 64) (fun j => (padK t k j : Nat)) ∧ Below w.heap.size w wr) (fun i _ => 8 - (intOf i).toNat)
  case atStart =>
    refine ⟨0, rfl, by omega, IsB.congr (HB.out.set t.size 128) (fun j hj => pad_start t j (by rw [← HCH.out]; exact hj)), HL.out.setCell (Nat.le_refl _) _⟩
  case round =>
    obtain ⟨k, rfl, hk, h1, hbel⟩ := hrel
    have G1 := hideJ h1
    by_cases hlt : k < 8
    · have e1 : ((ch : Int) * 64 - 1 - (k : Int)).toNat = ch * 64 - 1 - k := by omega
      have ce := h1.cell (j := ch * 64 - 1 - k) (by omega)
      have cf := h1.frozen (ch * 64 - 1 - k)
      have HV : Hid (((t.size : Int) * 8 / 2 ^ (8 * k)) % 256 = ((t.size * 8 / 2 ^ (8 * k) % 256 : Nat) : Int)) := by
        unfold Hid
        simp
      clear h1
      go_wp2_with fail
      go_roundw
      case rel =>
        refine ⟨k + 1, by go_num, by omega, IsB.congr (G1.out.set (ch * 64 - 1 - k) _) (fun j hj => ?_), hbel.setCell (Nat.le_refl _) _⟩
        rw [HCH.out] at hj ⊢
        exact pad_next t k hlt _ HV.out j hj
      case measure => simp [intOf]; omega
    · obtain rfl : k = 8 := by omega
      clear h1
      go_wp2_with fail
      go_ret
      exact ⟨rfl, G1.out, hbel⟩
end Go.Proofs.YtghghkfhcpldhaaDoor.Sh
