/- KeepCrash: both sides. -/
import Derived.Test.YtmdjdkfdcbedoaaKpSync
import Derived.Test.YtmdjdkfdcbedoaaBlkSpec
namespace Go.Proofs.Ytmdjdkfdcbedoaa.Kp
open Go.RowKit
open Go.Proofs.Ytmdjdkfdcbedoaa.Ls (lowL blkL cells3)
open Go.Proofs.Ytmdjdkfdcbedoaa.Bi (is_yes is_no)
open Go.Proofs.Ytmdjdkfdcbedoaa.Bk (minS_any)

def crashN (s : ByteArray) (y k : Int) : Nat := y.toNat + min k.toNat (s.size - y.toNat)
def crashV (z b : Int) (r s : ByteArray) (y k : Int) : Value := if spanB s y = true then kV z b r (s.extract 0 (crashN s y k)) (crashN s y k) else kV z b r s y
theorem k_set2 {W : World} {g : Nat} {z b : Int} {r s : ByteArray} {y : Int} (h : W.heap[g]? = some (kB z b r s y)) (t : ByteArray) (x : Int) : ((W.setCell ⟨g, 3, none⟩ (.string t)).setCell ⟨g, 4, none⟩ (.int .i64 x)).heap[g]? = some (kB z b r t x) := by
  unfold kB at h ⊢
  have h3 : (W.setCell ⟨g, 3, none⟩ (.string t)).heap[g]? = some (.cells #[.int .i64 z, .int .i64 b, .string r, .string t, .int .i64 y] 27 (0, 0)) := by rw [heap_setCell_same W g 3 _ _ _ h]; rfl
  rw [heap_setCell_same _ g 4 _ _ _ h3]
  rfl
theorem crashN_le {s : ByteArray} {y k : Int} (h : spanB s y = true) : crashN s y k ≤ s.size := by
  unfold spanB at h
  simp only [Bool.and_eq_true, decide_eq_true_eq] at h
  unfold crashN
  omega

set_option maxRecDepth 100000 in
set_option maxHeartbeats 2000000 in
theorem keepCrash_impl (z b : Int) (r s : ByteArray) (y k : Int) (w : World) (hs : s.size ≤ 1048576) (hk : k ≤ 9223372036854775807) :
    Calls Try.prog 13 #[kV z b r s y, .int .i64 k] w fun e w' => e = .returned (crashV z b r s y k) ∧ Below w.heap.size w w' := by
  have HSY := hideK (fun W => synced_any z b r s y W)
  have HCK := hideK (fun e W he => cutKeep_any z b r s y e W hs he)
  have C0 := hideK (((Cx.nil w).new (kB z b r s y)).new kZ)
  simp only [World.size_alloc] at C0
  have HY : Hid (spanB s y = true → crashV z b r s y k = kV z b r (s.extract 0 (crashN s y k)) (crashN s y k)) := fun h => if_pos h
  have HN : Hid (spanB s y = false → crashV z b r s y k = kV z b r s y) := fun h => if_neg (by rw [h]; exact Bool.false_ne_true)
  generalize crashV z b r s y k = A at HY HN ⊢
  unfold kV at HSY HCK HY HN ⊢
  unfold kB kZ at C0
  go_enter Try.func13, Try.ntmps13
  go_wp2_with fail
  generalize (w.alloc _).alloc _ = W0 at C0 ⊢
  generalize hgk : w.heap.size = gk at C0 ⊢
  have HGK := hideK hgk
  clear hgk
  refine (HSY.out _).mono ?_
  rintro e w2 ⟨rfl, hb⟩
  have C2 := hideK (C0.out.call hb)
  clear hb C0 HSY
  obtain ⟨k0, k1, k2, k3, k4⟩ := k_cells (C2.out.get 1 rfl)
  cases hsp : spanB s y with
  | false =>
    have HE := hideK (HN.out hsp)
    obtain ⟨q0, q1, q2, q3, q4⟩ := cells5 (C2.out.get 0 rfl)
    have ff := fun o => frozen_of_row w2 (gk + 1) o _ _ (C2.out.get 0 rfl)
    clear hsp HY HN HCK
    have HF := hideK (ans5 (C2.out.get 0 rfl) C2.out.low (by have := HGK.out; omega) (.int .i64 z) (.int .i64 b) (.string r) (.string s) (.int .i64 y))
    have s5 := cells5 HF.out.2
    go_wp2_with fail
    exact bodyPost_ret (v := .agg #[.int .i64 z, .int .i64 b, .string r, .string s, .int .i64 y]) (by simp [results, Try.results13, go_sem, s5.1, s5.2.1, s5.2.2.1, s5.2.2.2.1, s5.2.2.2.2]) rfl ⟨by rw [HE.out], HF.out.1⟩
  | true =>
    have HE := hideK (HY.out hsp)
    have HCL := hideK (crashN_le (k := k) hsp)
    have hsp2 : 0 ≤ y ∧ y ≤ s.size := by
      unfold spanB at hsp
      simpa using hsp
    obtain ⟨p, rfl⟩ := Int.eq_ofNat_of_zero_le hsp2.1
    have hps : p ≤ s.size := by omega
    clear hsp HY HN hsp2
    have hsub : IntKind.i64.wrap ((s.size : Int) - (p : Int)) = (s.size : Int) - (p : Int) := by rw [IntKind.wrap_i64]; omega
    have HFIN : Hid (∀ x : Int, x = (crashN s p k : Nat) → ∀ W, Calls Try.prog 20 #[.agg #[.int .i64 z, .int .i64 b, .string r, .string s, .int .i64 p], .int .i64 x] W fun q w' => q = .returned (.agg #[.int .i64 z, .int .i64 b, .string r, .string (s.extract 0 (crashN s p k)), .int .i64 (crashN s p k : Nat)]) ∧ Below W.heap.size W w') := fun x hx W => by
      subst hx
      exact HCK.out _ W HCL.out
    clear HCK
    have HNE : Hid (crashN s p k = p + min k.toNat (s.size - p)) := rfl
    have HAFT : Hid (∀ w3, Below w2.heap.size w2 w3 → Cx w w3 [(gk + 1, .cells #[.int .i64 0, .int .i64 0, .string ⟨#[]⟩, .string ⟨#[]⟩, .int .i64 0] 27)]) := fun w3 hb => ⟨(C2.out.call hb).low, fun x hx => (C2.out.call hb).blk x (by rw [List.mem_singleton.1 hx]; exact List.mem_cons_self)⟩
    generalize s.extract 0 (crashN s p k) = t at HE HFIN
    generalize crashN s p k = n at HE HFIN HNE
    clear C2 HCL
    by_cases h1 : k ≤ 0
    · have h1' : ¬ 0 < k := by omega
      go_wp2_with fail
      all_goals (
        refine (HFIN.out _ (by have := HNE.out; omega) _).mono ?_
        rintro e w3 ⟨rfl, hb⟩
        have D3 := hideK (HAFT.out _ hb)
        clear hb HAFT k0 k1 k2 k3 k4
        obtain ⟨q0, q1, q2, q3, q4⟩ := cells5 (D3.out.get 0 rfl)
        have ff := fun o => frozen_of_row w3 (gk + 1) o _ _ (D3.out.get 0 rfl)
        have HF := hideK (ans5 (D3.out.get 0 rfl) D3.out.low (by have := HGK.out; omega) (.int .i64 z) (.int .i64 b) (.string r) (.string t) (.int .i64 n))
        have s5 := cells5 HF.out.2
        go_wp2_with fail
        exact bodyPost_ret (v := .agg #[.int .i64 z, .int .i64 b, .string r, .string t, .int .i64 n]) (by simp [results, Try.results13, go_sem, s5.1, s5.2.1, s5.2.2.1, s5.2.2.2.1, s5.2.2.2.2]) rfl ⟨by rw [HE.out], HF.out.1⟩)
    · have h1' : 0 < k := by omega
      by_cases h2 : k < (s.size : Int) - (p : Int)
      · go_wp2_with fail
        all_goals (
          refine (HFIN.out _ (by have := HNE.out; omega) _).mono ?_
          rintro e w3 ⟨rfl, hb⟩
          have D3 := hideK (HAFT.out _ hb)
          clear hb HAFT k0 k1 k2 k3 k4
          obtain ⟨q0, q1, q2, q3, q4⟩ := cells5 (D3.out.get 0 rfl)
          have ff := fun o => frozen_of_row w3 (gk + 1) o _ _ (D3.out.get 0 rfl)
          have HF := hideK (ans5 (D3.out.get 0 rfl) D3.out.low (by have := HGK.out; omega) (.int .i64 z) (.int .i64 b) (.string r) (.string t) (.int .i64 n))
          have s5 := cells5 HF.out.2
          go_wp2_with fail
          exact bodyPost_ret (v := .agg #[.int .i64 z, .int .i64 b, .string r, .string t, .int .i64 n]) (by simp [results, Try.results13, go_sem, s5.1, s5.2.1, s5.2.2.1, s5.2.2.2.1, s5.2.2.2.2]) rfl ⟨by rw [HE.out], HF.out.1⟩)
      · go_wp2_with fail
        all_goals (
          refine (HFIN.out _ (by have := HNE.out; omega) _).mono ?_
          rintro e w3 ⟨rfl, hb⟩
          have D3 := hideK (HAFT.out _ hb)
          clear hb HAFT k0 k1 k2 k3 k4
          obtain ⟨q0, q1, q2, q3, q4⟩ := cells5 (D3.out.get 0 rfl)
          have ff := fun o => frozen_of_row w3 (gk + 1) o _ _ (D3.out.get 0 rfl)
          have HF := hideK (ans5 (D3.out.get 0 rfl) D3.out.low (by have := HGK.out; omega) (.int .i64 z) (.int .i64 b) (.string r) (.string t) (.int .i64 n))
          have s5 := cells5 HF.out.2
          go_wp2_with fail
          exact bodyPost_ret (v := .agg #[.int .i64 z, .int .i64 b, .string r, .string t, .int .i64 n]) (by simp [results, Try.results13, go_sem, s5.1, s5.2.1, s5.2.2.1, s5.2.2.2.1, s5.2.2.2.2]) rfl ⟨by rw [HE.out], HF.out.1⟩)

set_option maxRecDepth 100000 in
set_option maxHeartbeats 2000000 in
theorem keepCrash_spec (z b : Int) (r s : ByteArray) (y k : Int) (w : World) (hs : s.size ≤ 1048576) (hk : k ≤ 9223372036854775807) :
    Calls Try.prog 11 #[kV z b r s y, .int .i64 k] w fun e w' => e = .returned (crashV z b r s y k) ∧ Below w.heap.size w w' := by
  have C0 := hideK (((Cx.nil w).new (kB z b r s y)).new kZ)
  simp only [World.size_alloc] at C0
  have HY : Hid (spanB s y = true → crashV z b r s y k = kV z b r (s.extract 0 (crashN s y k)) (crashN s y k)) := fun h => if_pos h
  have HN : Hid (spanB s y = false → crashV z b r s y k = kV z b r s y) := fun h => if_neg (by rw [h]; exact Bool.false_ne_true)
  generalize crashV z b r s y k = A at HY HN ⊢
  unfold kV at HY HN ⊢
  unfold kB kZ at C0
  by_cases hsp : 0 ≤ y ∧ y ≤ s.size
  · have hsB : spanB s y = true := by unfold spanB; simp; exact hsp
    have HE := hideK (HY.out hsB)
    have HCL := crashN_le (k := k) hsB
    have HIS := hideK (fun W => is_yes y 0 s.size W hsp.1 hsp.2)
    obtain ⟨p, rfl⟩ := Int.eq_ofNat_of_zero_le hsp.1
    have hps : p ≤ s.size := by omega
    clear hsB HY HN hsp
    have hsub : IntKind.i64.wrap ((s.size : Int) - (p : Int)) = ((s.size - p : Nat) : Int) := by rw [IntKind.wrap_i64]; omega
    have HNE : Hid (crashN s p k = p + min k.toNat (s.size - p)) := rfl
    generalize crashN s p k = n at HE HNE HCL
    go_enter Try.func11, Try.ntmps11
    go_wp2_with fail
    generalize (w.alloc _).alloc _ = W0 at C0 ⊢
    generalize hgk : w.heap.size = gk at C0 ⊢
    have HGK := hideK hgk
    clear hgk
    refine (HIS.out _).mono ?_
    rintro e w2 ⟨rfl, hw⟩
    subst w2
    obtain ⟨k0, k1, k2, k3, k4⟩ := k_cells (C0.out.get 1 rfl)
    have fk := fun o => frozen_of_row W0 gk o _ _ (C0.out.get 1 rfl)
    have X4 := hideK (k_set2 (C0.out.get 1 rfl) (s.extract 0 n) n)
    have C4 : Hid (Cx w ((W0.setCell ⟨gk, 3, none⟩ (.string (s.extract 0 n))).setCell ⟨gk, 4, none⟩ (.int .i64 n)) [(gk + 1, .cells #[.int .i64 0, .int .i64 0, .string ⟨#[]⟩, .string ⟨#[]⟩, .int .i64 0] 27)]) := Cx.set (Cx.set ⟨C0.out.low, fun x hx => C0.out.blk x (by rw [List.mem_singleton.1 hx]; exact List.mem_cons_self)⟩ (by have := HGK.out; omega) (fun x hx => by rw [List.mem_singleton.1 hx]; show gk + 1 ≠ gk; omega) 3 _) (by have := HGK.out; omega) (fun x hx => by rw [List.mem_singleton.1 hx]; show gk + 1 ≠ gk; omega) 4 _
    by_cases h1 : 0 < k
    · obtain ⟨q, rfl⟩ := Int.eq_ofNat_of_zero_le (show 0 ≤ k by omega)
      have HM := hideK (fun W => minS_any q (s.size - p) W)
      have hmn : min q (s.size - p) = n - p := by have := HNE.out; omega
      have hpn : p ≤ n := by have := HNE.out; omega
      rw [hmn] at HM
      have hadd : IntKind.i64.wrap ((p : Int) + ((n - p : Nat) : Int)) = (n : Int) := by rw [IntKind.wrap_i64]; omega
      go_wp2_with fail
      refine (HM.out _).mono ?_
      rintro e w2 ⟨rfl, hw⟩
      subst w2
      go_upto_region 8 with fail
      generalize (W0.setCell ⟨gk, 3, none⟩ (.string (s.extract 0 n))).setCell ⟨gk, 4, none⟩ (.int .i64 n) = W4 at X4 C4 ⊢
      generalize s.extract 0 n = t at X4 HE ⊢
      clear k0 k1 k2 k3 k4 fk
      obtain ⟨k0, k1, k2, k3, k4⟩ := k_cells X4.out
      obtain ⟨q0, q1, q2, q3, q4⟩ := cells5 (C4.out.get 0 rfl)
      have ff := fun o => frozen_of_row W4 (gk + 1) o _ _ (C4.out.get 0 rfl)
      have HF := hideK (ans5 (C4.out.get 0 rfl) C4.out.low (by have := HGK.out; omega) (.int .i64 z) (.int .i64 b) (.string r) (.string t) (.int .i64 n))
      have s5 := cells5 HF.out.2
      go_wp2_with fail
      exact bodyPost_ret (v := .agg #[.int .i64 z, .int .i64 b, .string r, .string t, .int .i64 n]) (by simp [results, Try.results11, go_sem, s5.1, s5.2.1, s5.2.2.1, s5.2.2.2.1, s5.2.2.2.2]) rfl ⟨by rw [HE.out], HF.out.1⟩
    · have h1' : decide (0 < k) = false := decide_eq_false h1
      have hnp : n = p := by have := HNE.out; omega
      subst hnp
      go_upto_region 8 with fail
      generalize (W0.setCell ⟨gk, 3, none⟩ (.string (s.extract 0 n))).setCell ⟨gk, 4, none⟩ (.int .i64 n) = W4 at X4 C4 ⊢
      generalize s.extract 0 n = t at X4 HE ⊢
      clear k0 k1 k2 k3 k4 fk
      obtain ⟨k0, k1, k2, k3, k4⟩ := k_cells X4.out
      obtain ⟨q0, q1, q2, q3, q4⟩ := cells5 (C4.out.get 0 rfl)
      have ff := fun o => frozen_of_row W4 (gk + 1) o _ _ (C4.out.get 0 rfl)
      have HF := hideK (ans5 (C4.out.get 0 rfl) C4.out.low (by have := HGK.out; omega) (.int .i64 z) (.int .i64 b) (.string r) (.string t) (.int .i64 n))
      have s5 := cells5 HF.out.2
      go_wp2_with fail
      exact bodyPost_ret (v := .agg #[.int .i64 z, .int .i64 b, .string r, .string t, .int .i64 n]) (by simp [results, Try.results11, go_sem, s5.1, s5.2.1, s5.2.2.1, s5.2.2.2.1, s5.2.2.2.2]) rfl ⟨by rw [HE.out], HF.out.1⟩
  · have hsB : spanB s y = false := by unfold spanB; simp; omega
    have HE := hideK (HN.out hsB)
    have HIS := hideK (fun W => is_no y 0 s.size W (by omega))
    clear hsB HY HN hsp
    go_enter Try.func11, Try.ntmps11
    go_wp2_with fail
    generalize (w.alloc _).alloc _ = W0 at C0 ⊢
    generalize hgk : w.heap.size = gk at C0 ⊢
    have HGK := hideK hgk
    clear hgk
    refine (HIS.out _).mono ?_
    rintro e w2 ⟨rfl, hw⟩
    subst w2
    obtain ⟨k0, k1, k2, k3, k4⟩ := k_cells (C0.out.get 1 rfl)
    obtain ⟨q0, q1, q2, q3, q4⟩ := cells5 (C0.out.get 0 rfl)
    have ff := fun o => frozen_of_row W0 (gk + 1) o _ _ (C0.out.get 0 rfl)
    have HF := hideK (ans5 (C0.out.get 0 rfl) C0.out.low (by have := HGK.out; omega) (.int .i64 z) (.int .i64 b) (.string r) (.string s) (.int .i64 y))
    have s5 := cells5 HF.out.2
    go_wp2_with fail
    exact bodyPost_ret (v := .agg #[.int .i64 z, .int .i64 b, .string r, .string s, .int .i64 y]) (by simp [results, Try.results11, go_sem, s5.1, s5.2.1, s5.2.2.1, s5.2.2.2.1, s5.2.2.2.2]) rfl ⟨by rw [HE.out], HF.out.1⟩
end Go.Proofs.Ytmdjdkfdcbedoaa.Kp
