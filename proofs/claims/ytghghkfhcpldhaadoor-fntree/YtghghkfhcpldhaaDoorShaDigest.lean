/- The walk of impl.digestOf: it answers the digest of its text, and writes nothing that was there. -/
import Derived.Test.YtghghkfhcpldhaaDoorShaTake
import Derived.Test.YtghghkfhcpldhaaDoorShaFill
import Derived.Test.YtghghkfhcpldhaaDoorShaSum
import Derived.Test.YtghghkfhcpldhaaDoorShaLaws2
namespace Go.Proofs.YtghghkfhcpldhaaDoor.Sh
open Go.RowKit

/-- the two variables as the program lays them -/
def Vars (w : World) : Prop := IsV w 0 .u32 8 firstF ∧ IsV w 1 .u32 64 keyF
theorem Vars.below {w w' : World} {B : Nat} (h : Vars w) (b : Below B w w') (hB : 2 ≤ B) : Vars w' := ⟨h.1.below b (by omega), h.2.below b (by omega)⟩
theorem Vars.two {w : World} (h : Vars w) : 2 ≤ w.heap.size := h.2.lt

theorem zero8 : (#[.int .u32 0, .int .u32 0, .int .u32 0, .int .u32 0, .int .u32 0, .int .u32 0, .int .u32 0, .int .u32 0] : Array Value) = rowF .u32 8 (fun _ => 0) := by rfl

set_option maxRecDepth 100000 in
set_option maxHeartbeats 1000000 in
theorem digestOf_any (t : ByteArray) (w : World) (ht : t.size ≤ 1048576) (hV : Vars w) :
    Calls Tryd.prog 67 #[.string t] w fun e w' => e = .returned (.string (sha t)) ∧ Below w.heap.size w w' := by
  have HV := hideS hV
  have HF := hideS hV.1
  have HK := hideS hV.2
  have h2 := hV.two
  clear hV
  go_enter Tryd.func67, Tryd.ntmps67
  go_wp2_with (first | ((with_reducible refine wpList_load_var HF.out Tryd.underlying81 Tryd.size81 ?_ ?_); (· rfl)) | ((with_reducible refine wpList_store_row' (IsB.of_list w 81 .u32 8 (fun _ => 0) _ zero8) Tryd.size81 firstF ?_ ?_ ?_); (· rfl); (· rfl); intro w2 hi2 hB2 hz2 ho2; have HS2 := hideS hi2; have HZ2 := hideS (show w2.heap.size = w.heap.size + 1 by rw [hz2]; simp); have HW2 := hideS (((Below.refl w.heap.size w).alloc (Nat.le_refl _) _).trans (hB2 _ (Nat.le_refl _))); clear hi2 hB2 hz2 ho2))
  have hz := HZ2.out
  obtain ⟨ch, hch⟩ : ∃ c, c = chunks t.size := ⟨_, rfl⟩
  have hr := chunks_room t.size
  have hti := chunks_tight t.size
  refine (fill_any t w2 ht).mono ?_
  rw [hz, ← hch]
  rw [← hch] at hr hti
  rintro e w3 ⟨rfl, hp3, hb3⟩
  have HCH := hideS hch
  have HP3 := hideS hp3
  have HS3 := hideS (HS2.out.below hb3 (by omega))
  have HW3 := hideS (HW2.out.trans (hb3.mono (by omega)))
  have HZ3 := hideS (show w.heap.size + 2 ≤ w3.heap.size from hp3.lt)
  clear hp3 hb3 hch hz HS2 HW2
  go_wp2_with fail
  go_loopw [5] (fun i wr => ∃ k : Nat, i = .int .i64 (64 * (k : Int)) ∧ k ≤ ch ∧ IsB wr w.heap.size 81 .u32 8 (shaS t k) ∧ IsB wr (w.heap.size + 1) 5 .u8 (ch * 64) (fun j => (pad t j : Nat)) ∧ Below w.heap.size w wr ∧ w.heap.size + 2 ≤ wr.heap.size) (fun i _ => ch * 64 - (intOf i).toNat)
  case atStart => exact ⟨0, rfl, Nat.zero_le _, HS3.out, HP3.out, HW3.out, HZ3.out⟩
  case round =>
    obtain ⟨k, rfl, hk, h1, hp, hbel, hsz⟩ := hrel
    have G1 := hideS h1
    have GP := hideS hp
    have GW := hideS hbel
    have GK := hideS (HK.out.below hbel (by omega))
    clear h1 hp hbel
    by_cases hlt : k < ch
    · have e1 : 64 * (k : Int) < (ch : Int) * 64 := by omega
      have e2 : (64 * (k : Int)).toNat = 64 * k := by omega
      have e3 : (64 * (k : Int) + 64).toNat = 64 * k + 64 := by omega
      have e4 : 64 * k + 64 - 64 * k = 64 := by omega
      have e5 : IntKind.i64.wrap (64 * (k : Int) + 64) = 64 * (k : Int) + 64 := by simp [IntKind.wrap, IntKind.bits, IntKind.signed]; omega
      have e6 : 64 * (k : Int) + 64 ≤ (ch : Int) * 64 := by omega
      have e7 : 0 ≤ 64 * (k : Int) + 64 := by omega
      have e8 : 0 ≤ 64 * (k : Int) := by omega
      have e9 : 64 * (k : Int) ≤ 64 * (k : Int) + 64 := by omega
      have e10 : ¬ ch * 64 = 64 * k := by omega
      have HC : Hid (∀ j, j < 64 → wr.cell? ⟨w.heap.size + 1, 64 * k + j, none⟩ = some (.int .u8 (blkB t k j : Nat))) := fun j hj => GP.out.cell (by omega)
      go_wp2_with fail
      refine wp_region_still_tail 6 Tryd.checked.mixed (by kernel_rfl) ?_
      simp only [List.take_succ_cons, List.take_zero, List.drop_succ_cons, List.drop_zero]
      refine wpStill_load_row (show IsB _ w.heap.size 81 .u32 8 (shaS t k) from G1.out) Tryd.underlying81 Tryd.size81 rfl ?_
      repeat still_step
      refine wpStill_nil ?_
      go_wp2_with fail
      refine (take_any (shaS t k) (w.heap.size + 1) (64 * k) (ch * 64 - 64 * k) (blkB t k) wr.drew (blkB_lt t k) (show w.heap.size + 1 < wr.heap.size by omega) HC.out (by omega) (show IsV wr 1 _ _ _ from GK.out)).mono ?_
      rintro e w4 ⟨rfl, hb4⟩
      have hb5 : Below wr.heap.size wr w4 := ⟨hb4.os, hb4.tape, hb4.output, hb4.size, hb4.block⟩
      have J1 := hideS (G1.out.below hb5 (by omega))
      have JP := hideS (GP.out.below hb5 (by omega))
      have JW := hideS (GW.out.trans (hb5.mono (by omega)))
      have hsz4 : w.heap.size + 2 ≤ w4.heap.size := by have := hb5.size; omega
      clear hb4 hb5
      go_wp2_with ((with_reducible refine wpList_store_row' J1.out Tryd.size81 (blk (blkB t k) (shaS t k)) ?_ ?_ ?_); (· rfl); (· rfl); intro w5 hi5 hB5 hz5 ho5; have L1 := hideS hi5; have LP := hideS (JP.out.of_heap (ho5 _ (by omega))); have LW := hideS (JW.out.trans (hB5 _ (Nat.le_refl _))); have LZ := hideS (show w.heap.size + 2 ≤ w5.heap.size by omega); clear hi5 hB5 hz5 ho5)
      go_roundw
      case rel => exact ⟨k + 1, by go_num, by omega, L1.out, LP.out, LW.out, LZ.out⟩
      case measure => simp [intOf]; omega
    · have HS : Hid (shaS t k = shaS t (chunks t.size)) := by
        unfold Hid
        rw [← HCH.out]
        congr 1
        omega
      have e1 : ¬ 64 * (k : Int) < (ch : Int) * 64 := by omega
      go_wp2_with fail
      go_loopw [24] (fun i wo => ∃ m : Nat, i = .int .i64 m ∧ m ≤ 32 ∧ IsB wo wr.heap.size 84 .u8 32 (fun j => (outK (shaS t k) m j : Nat)) ∧ IsB wo w.heap.size 81 .u32 8 (shaS t k) ∧ Below w.heap.size w wo) (fun i _ => 32 - (intOf i).toNat)
      case atStart => exact ⟨0, rfl, by omega, IsB.of_list wr 84 .u8 32 _ _ (by rfl), G1.out.alloc _, GW.out.alloc (by omega) _⟩
      case round =>
        obtain ⟨m, rfl, hm, o1, o2, o3⟩ := hrel
        have O1 := hideS o1
        have O2 := hideS o2
        by_cases hl32 : m < 32
        · obtain ⟨x, hx⟩ : ∃ x, x = shaS t k (m / 4) := ⟨_, rfl⟩
          have HV : Hid (x / 2 ^ (24 - 8 * (m % 4)) % 256 = ((outF (shaS t k) m : Nat) : Int)) := by
            unfold Hid
            rw [hx]
            exact outF_cast _ _
          have d1 : ((m : Int) / 4).toNat = m / 4 := by omega
          have d2 : (24 - 8 * ((m : Int) % 4)).toNat = 24 - 8 * (m % 4) := by omega
          have d3 : 0 ≤ 24 - 8 * ((m : Int) % 4) := by omega
          have d4 : (m : Int) / 4 < 8 := by omega
          have d5 : 0 ≤ (m : Int) / 4 := by omega
          have cs : wr.cell? ⟨w.heap.size, m / 4, none⟩ = some (.int .u32 x) := by rw [o2.cell (by omega), hx]
          have co := o1.cell hl32
          have cf := o1.frozen m
          clear o1 o2 hx
          go_wp2_with fail
          go_roundw
          case rel =>
            rw [HV.out]
            exact ⟨m + 1, by go_num, by omega, IsB.congr (O1.out.set m _) (fun j _ => outK_next _ m j _ rfl), O2.out.set_other _ _ (by simp; omega), o3.setCell (by simp; omega) _⟩
          case measure => simp [intOf]; omega
        · obtain rfl : m = 32 := by omega
          have hcv := o1.str (P := Tryd.prog) (src := 22) (dst := 9) 32 32 (Nat.le_refl _) (fun j _ => outK_lt _ _ _) Tryd.underlying22 Tryd.underlying5 Tryd.underlying9
          have HR := hideS (outK_all (shaS t k))
          clear o1 o2
          go_wp2_with fail
          go_ret
          refine ⟨Nu.ret_strJ ?_, o3⟩
          rw [HR.out, HS.out]
          rfl
end Go.Proofs.YtghghkfhcpldhaaDoor.Sh
