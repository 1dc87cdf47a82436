/- The making of a source of draws: it lies in a new block, and draws from the bytes that it was handed. -/
import Derived.Test.YtghghkfhcpldhaaDoorDrawN
namespace Go.Proofs.YtghghkfhcpldhaaDoor.Dr
open Go.RowKit

theorem blk_set3 {W : World} {B : Nat} {x0 x1 x2 x3 : Value} {T : TypeId} (h : W.heap[B]? = some (.cells #[x0, x1, x2, x3] T (0, 0))) (v : Value) :
    (W.setCell ⟨B, 3, none⟩ v).heap[B]? = some (.cells #[x0, x1, x2, v] T (0, 0)) := by
  rw [heap_setCell_same W B 3 _ T v h]; rfl

def sobj (a : Option Addr) (len cap : Nat) (mix size : Int) : Obj := .cells #[.slice a len cap, .int .i64 0, .int .u64 mix, .int .i64 size] 74 (0, 0)

theorem src_of {w wr : World} {a : Option Addr} {len cap : Nat} {mix size : Int} (hr : Row w w.heap.size a len) (ho : Only w.heap.size (w.alloc (sobj a len cap 88172645463325252 0)) wr)
    (hb : wr.heap[w.heap.size]? = some (sobj a len cap mix size)) (h1 : 0 ≤ mix) (h2 : mix ≤ 18446744073709551615) (h3 : 0 ≤ size) (h4 : size ≤ 12) : Src wr w.heap.size a len cap := by
  refine ⟨ho.row ?_, 0, mix, size, hb, Int.le_refl _, by omega, h1, h2, h3, h4⟩
  rcases hr with h0 | ⟨b, off, rfl, hne, hc⟩
  · exact .inl h0
  · refine .inr ⟨b, off, rfl, hne, fun i hi => ?_⟩
    obtain ⟨z, hz, z1, z2⟩ := hc i hi
    exact ⟨z, (World.cell?_alloc_lt _ _ ⟨b, off + i, none⟩ (World.block_lt_of_cell? w _ hz)).trans hz, z1, z2⟩

set_option maxRecDepth 100000 in
set_option maxHeartbeats 2000000 in
theorem source_any (a : Option Addr) (len cap : Nat) (w : World) (hl : len ≤ 1048576) (hr : Row w w.heap.size a len) :
    Calls Tryd.prog 35 #[.slice a len cap] w fun e w' => e = .returned (.pointer (some ⟨w.heap.size, 0, none⟩)) ∧ Src w' w.heap.size a len cap ∧ Below w.heap.size w w' ∧ w'.heap.size = w.heap.size + 1 := by
  have HR := hideD hr
  clear hr
  go_enter Tryd.func35, Tryd.ntmps35
  go_wp2
  go_loopw [4] (fun i wr => ∃ (k : Nat) (mix : Int), i = .int .i64 k ∧ k ≤ len ∧ 0 ≤ mix ∧ mix ≤ 18446744073709551615 ∧ wr.heap[w.heap.size]? = some (sobj a len cap mix 0) ∧ Only w.heap.size (w.alloc (sobj a len cap 88172645463325252 0)) wr) (fun i _ => len - (intOf i).toNat)
  case atStart => exact ⟨0, 88172645463325252, rfl, Nat.zero_le _, by decide, by decide, heap_alloc_new _ _, Only.refl _ _⟩
  case round =>
    obtain ⟨k, mix, rfl, hk, h2, h3, hb, ho⟩ := hrel
    have c2 : wr.cell? ⟨w.heap.size, 2, none⟩ = some (.int .u64 mix) := by rw [cell_of_row wr _ 2 _ _ _ hb]; rfl
    have c3 : wr.cell? ⟨w.heap.size, 3, none⟩ = some (.int .i64 0) := by rw [cell_of_row wr _ 3 _ _ _ hb]; rfl
    have f := fun o => frozen_of_row wr w.heap.size o _ _ hb
    have HB := hideD hb
    have HO := hideD ho
    clear hb ho
    by_cases hlt : k < len
    · by_cases h64 : k < 64
      · rcases HR.out with h0 | ⟨b, off, rfl, hne, hc⟩
        · exfalso; omega
        · obtain ⟨z, hz, z1, z2⟩ := hc k hlt
          have hzr : wr.cell? ⟨b, off + k, none⟩ = some (.int .u8 z) := (World.cell?_of_block (w := w.alloc _) (a := ⟨b, off + k, none⟩) (HO.out.2.2.2.2 b (Nat.ne_of_lt hne))).trans ((World.cell?_alloc_lt _ _ ⟨b, off + k, none⟩ hne).trans hz)
          clear hc hz
          have g1 : (k : Int) < (len : Int) := by omega
          go_wp2
          go_region
          go_wp2
          go_roundw
          case rel => exact ⟨k + 1, _, by go_num, by omega, (wrap64_bd _).1, (wrap64_bd _).2, blk_set HB.out _, (HO.out.set 2 _).drew⟩
          case measure => simp [intOf]; omega
      · have hd : decide ((k : Int) < 64) = false := decide_eq_false (by omega)
        have g1 : (k : Int) < (len : Int) := by omega
        have s3 := fun v => sc1 (W := wr) (p := ⟨w.heap.size, 3, none⟩) (x := .int .i64 0) c3 v
        by_cases hbig : (12 : Int) < (len : Int) / 20
        · go_wp2
          go_ret
          refine ⟨rfl, src_of HR.out ((HO.out.set 3 _).set 3 _) (blk_set3 (blk_set3 HB.out _) _) h2 h3 (by omega) (by omega), ?_, ?_⟩
          · exact ((HO.out.set 3 _).set 3 _).below ((Below.refl _ _).alloc (Nat.le_refl _) _) (Nat.le_refl _)
          · have := ((HO.out.set 3 (.int .i64 0)).set 3 (.int .i64 0)).2.2.2.1
            simpa [World.setCell] using this
        · go_wp2
          go_ret
          refine ⟨rfl, src_of HR.out (HO.out.set 3 _) (blk_set3 HB.out _) h2 h3 (by omega) (by omega), ?_, ?_⟩
          · exact (HO.out.set 3 _).below ((Below.refl _ _).alloc (Nat.le_refl _) _) (Nat.le_refl _)
          · have := (HO.out.set 3 (.int .i64 0)).2.2.2.1
            simpa [World.setCell] using this
    · have hd : decide ((k : Int) < (len : Int)) = false := decide_eq_false (by omega)
      have s3 := fun v => sc1 (W := wr) (p := ⟨w.heap.size, 3, none⟩) (x := .int .i64 0) c3 v
      by_cases hbig : (12 : Int) < (len : Int) / 20
      · go_wp2
        go_ret
        refine ⟨rfl, src_of HR.out ((HO.out.set 3 _).set 3 _) (blk_set3 (blk_set3 HB.out _) _) h2 h3 (by omega) (by omega), ?_, ?_⟩
        · exact ((HO.out.set 3 _).set 3 _).below ((Below.refl _ _).alloc (Nat.le_refl _) _) (Nat.le_refl _)
        · have := ((HO.out.set 3 (.int .i64 0)).set 3 (.int .i64 0)).2.2.2.1
          simpa [World.setCell] using this
      · go_wp2
        go_ret
        refine ⟨rfl, src_of HR.out (HO.out.set 3 _) (blk_set3 HB.out _) h2 h3 (by omega) (by omega), ?_, ?_⟩
        · exact (HO.out.set 3 _).below ((Below.refl _ _).alloc (Nat.le_refl _) _) (Nat.le_refl _)
        · have := (HO.out.set 3 (.int .i64 0)).2.2.2.1
          simpa [World.setCell] using this
end Go.Proofs.YtghghkfhcpldhaaDoor.Dr
