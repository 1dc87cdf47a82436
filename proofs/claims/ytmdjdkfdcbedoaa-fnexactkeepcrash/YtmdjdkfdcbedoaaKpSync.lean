/- syncedRight, cutKeep. -/
import Derived.Test.YtmdjdkfdcbedoaaKpCx
import Derived.Test.YtmdjdkfdcbedoaaCutWalks
namespace Go.Proofs.Ytmdjdkfdcbedoaa.Kp
open Go.RowKit
open Go.Proofs.Ytmdjdkfdcbedoaa.Ls (blkL lowL)

def spanB (s : ByteArray) (y : Int) : Bool := decide (0 ≤ y) && decide (y ≤ s.size)
set_option maxRecDepth 100000 in
set_option maxHeartbeats 1000000 in
theorem synced_any (z b : Int) (r s : ByteArray) (y : Int) (w : World) :
    Calls Try.prog 19 #[kV z b r s y] w fun e w' => e = .returned (.bool (spanB s y)) ∧ Below w.heap.size w w' := by
  have HB : Hid (Below w.heap.size w (w.alloc (kB z b r s y))) := (Below.refl _ _).alloc (Nat.le_refl _) _
  unfold kV
  unfold kB at HB
  by_cases h0 : 0 ≤ y
  · have HM : Hid (spanB s y = decide (y ≤ ((s.size : Nat) : Int))) := by unfold Hid spanB; rw [decide_eq_true h0, Bool.true_and]
    rw [HM.out]
    go_enter Try.func19, Try.ntmps19
    go_wp2_with fail
    go_ret
    exact ⟨rfl, HB.out⟩
  · have HM : Hid (spanB s y = false) := by unfold Hid spanB; rw [decide_eq_false h0, Bool.false_and]
    rw [HM.out]
    have h0' : decide (0 ≤ y) = false := decide_eq_false h0
    go_enter Try.func19, Try.ntmps19
    go_wp2_with fail
    go_ret
    exact ⟨rfl, HB.out⟩
set_option maxRecDepth 100000 in
set_option maxHeartbeats 2000000 in
theorem cutKeep_any (z b : Int) (r s : ByteArray) (y : Int) (e : Nat) (w : World) (hs : s.size ≤ 1048576) (he : e ≤ s.size) :
    Calls Try.prog 20 #[kV z b r s y, .int .i64 e] w fun q w' => q = .returned (kV z b r (s.extract 0 e) e) ∧ Below w.heap.size w w' := by
  have HC : Hid (∀ W, Calls Try.prog 22 #[.string s, .int .i64 0, .int .i64 e] W fun q w' => q = .returned (.string (s.extract 0 e)) ∧ Below W.heap.size W w') := fun W => Nu.cut_any s 0 e W hs (Nat.zero_le _) he
  have C0 := hideK (((Cx.nil w).new (kB z b r s y)).new kZ)
  simp only [World.size_alloc] at C0
  unfold kV
  unfold kB kZ at C0
  generalize s.extract 0 e = t at HC ⊢
  go_enter Try.func20, Try.ntmps20
  go_upto_region 1 with fail
  generalize (w.alloc _).alloc _ = W0 at C0 ⊢
  generalize hgk : w.heap.size = gk at C0 ⊢
  have HGK := hideK hgk
  clear hgk
  have CX : Hid (∀ W, Below W0.heap.size W0 W → W.cell? ⟨gk, 0, none⟩ = some (.int .i64 z) ∧ W.cell? ⟨gk, 1, none⟩ = some (.int .i64 b) ∧ W.cell? ⟨gk, 2, none⟩ = some (.string r) ∧ W.cell? ⟨gk, 3, none⟩ = some (.string s)) := fun W h => by
    obtain ⟨h0, h1, h2, h3, _⟩ := k_cells (blkL (C0.out.get 1 rfl) h)
    exact ⟨h0, h1, h2, h3⟩
  have CR : Hid (∀ W, Below W0.heap.size W0 W → (W.cell? ⟨gk + 1, 0, none⟩ = some (.int .i64 0) ∧ W.cell? ⟨gk + 1, 1, none⟩ = some (.int .i64 0) ∧ W.cell? ⟨gk + 1, 2, none⟩ = some (.string ⟨#[]⟩) ∧ W.cell? ⟨gk + 1, 3, none⟩ = some (.string ⟨#[]⟩) ∧ W.cell? ⟨gk + 1, 4, none⟩ = some (.int .i64 0)) ∧ W.frozen? ⟨gk + 1, 0, none⟩ = false ∧ W.frozen? ⟨gk + 1, 1, none⟩ = false ∧ W.frozen? ⟨gk + 1, 2, none⟩ = false ∧ W.frozen? ⟨gk + 1, 3, none⟩ = false ∧ W.frozen? ⟨gk + 1, 4, none⟩ = false) := fun W h => five_of (blkL (C0.out.get 0 rfl) h)
  have K0 : Hid (Below W0.heap.size W0 W0.drew) := (Below.refl _ _).drew
  have HFIN : Hid (∀ W, Below W0.heap.size W0 W → Below w.heap.size w (((((W.setCell ⟨gk + 1, 0, none⟩ (.int .i64 z)).setCell ⟨gk + 1, 1, none⟩ (.int .i64 b)).setCell ⟨gk + 1, 2, none⟩ (.string r)).setCell ⟨gk + 1, 3, none⟩ (.string t)).setCell ⟨gk + 1, 4, none⟩ (.int .i64 e)) ∧ (((((W.setCell ⟨gk + 1, 0, none⟩ (.int .i64 z)).setCell ⟨gk + 1, 1, none⟩ (.int .i64 b)).setCell ⟨gk + 1, 2, none⟩ (.string r)).setCell ⟨gk + 1, 3, none⟩ (.string t)).setCell ⟨gk + 1, 4, none⟩ (.int .i64 e)).heap[gk + 1]? = some (.cells #[.int .i64 z, .int .i64 b, .string r, .string t, .int .i64 e] 27 (0, 0))) := fun W h =>
    ⟨set5_low (lowL C0.out.low h) (by have := HGK.out; omega) _ _ _ _ _, set5 (blkL (C0.out.get 0 rfl) h) _ _ _ _ _⟩
  clear C0
  obtain ⟨k0, k1, k2, k3⟩ := CX.out _ (Below.refl _ _)
  go_region_with (go_at_call 22; (with_reducible refine (HC.out _).mono ?_); rintro q v1 ⟨rfl, hb⟩; have K1 := hideK (lowL K0.out hb); obtain ⟨m0, m1, m2, m3⟩ := CX.out _ K1.out; obtain ⟨⟨n0, n1, n2, n3, n4⟩, f0, f1, f2, f3, f4⟩ := CR.out _ K1.out; clear hb)
  all_goals (try go_wp2_with fail)
  all_goals (
    obtain ⟨HF1, HF2⟩ := HFIN.out _ K1.out
    have s5 := cells5 HF2
    exact bodyPost_ret (v := .agg #[.int .i64 z, .int .i64 b, .string r, .string t, .int .i64 e]) (by simp [results, Try.results20, go_sem, s5.1, s5.2.1, s5.2.2.1, s5.2.2.2.1, s5.2.2.2.2]) rfl ⟨rfl, HF1⟩)
end Go.Proofs.Ytmdjdkfdcbedoaa.Kp
