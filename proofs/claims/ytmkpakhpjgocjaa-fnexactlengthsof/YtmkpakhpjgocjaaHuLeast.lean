/- The walks of weightOf and leastAt. -/
import Derived.Test.YtmkpakhpjgocjaaHuRow
import Derived.Deep.RegionWith
import Derived.BigQuiet
import Derived.Shelf.Abstract
namespace Go.Proofs.Ytmkpakhpjgocjaa.Hf
open Go.RowKit

set_option maxHeartbeats 400000 in
theorem weight_any (n : Int) (v : Value) (w : World) : Calls Try.prog 146 #[.agg #[.int .i64 n, v]] w fun e w' => e = .returned (.int .i64 n) ∧ Below w.heap.size w w' := by
  go_enter Try.func146, Try.ntmps146
  go_wp2_with fail
  go_ret
  exact ⟨rfl, (Below.refl _ _).alloc (Nat.le_refl _) _⟩
theorem weight_enters : ∀ args w, (callFunc 146 args).run Try.prog w = .ok (.enter 146 args) w := enters_of Try.func146 (by kernel_rfl) rfl
theorem least_next (m : List MT) (i : Nat) (hi : i < m.length) (hl : least (mt m) i < m.length) : least (mt m) (i + 1) = if m[i].1.1 < m[least (mt m) i].1.1 then i else least (mt m) i := by
  rw [least, wt_mt m i hi, wt_mt m _ hl]

set_option maxRecDepth 100000 in
set_option maxHeartbeats 1000000 in
theorem least_any (g n cap : Nat) (m : List MT) (cur : Array Value) (t : TypeId) (w : World) (hn : m.length = n) (h0 : 0 < n) (h257 : n ≤ 257) (hb : w.heap[g]? = some (.cells cur t (0, 0))) (ht : cur.toList.take (m.length * 2) = cells m) :
    Calls Try.prog 145 #[.slice (some ⟨g, 0, none⟩) n cap, .func (.func 146) #[] #[]] w fun e w' => e = .returned (.int .i64 (least (mt m) n : Nat)) ∧ Below w.heap.size w w' := by
  have he := weight_enters
  have HN := hideH hn
  have hg := lt_row hb
  have HC := hideH (fun (W : World) (hW : Below w.heap.size w W) i hi => row_at (m := m) ((hW.block g hg).trans hb) ht i hi)
  have HL := hideH (least_le (mt m))
  clear hn hb ht
  go_enter Try.func145, Try.ntmps145
  go_wp2_with fail
  go_loopw [9, 5] (fun iv kv wr => ∃ i k : Nat, iv = .int .i64 i ∧ kv = .int .i64 k ∧ i ≤ n ∧ k = least (mt m) i ∧ Below w.heap.size w wr) (fun iv _ _ => n - (intOf iv).toNat)
  case atStart => exact ⟨0, 0, rfl, rfl, Nat.zero_le _, rfl, Below.refl _ _⟩
  case round =>
    obtain ⟨i, k, rfl, rfl, hi, hk, hbw⟩ := hrel
    have HK := hideH hk
    have BW := hideH hbw
    clear hk hbw
    by_cases hlt : i < n
    · have hkn : k < n := by have h1 := HL.out i; have h2 := HK.out; omega
      have hi' : i < m.length := by rw [HN.out]; exact hlt
      have hk' : k < m.length := by rw [HN.out]; exact hkn
      obtain ⟨ci0, ci1⟩ := HC.out _ BW.out i hi'
      obtain ⟨ck0, ck1⟩ := HC.out _ BW.out k hk'
      have HCI := hideH (fun W hW => HC.out W hW i hi')
      have HCK := hideH (fun W hW => HC.out W hW k hk')
      have HNX := hideH (least_next m i hi' (by rw [← HK.out]; exact hk'))
      have HNX2 : Hid (least (mt m) (i + 1) = if m[i].1.1 < m[k].1.1 then i else k) := by
        have := HNX.out
        simp only [← HK.out] at this
        exact this
      clear HNX
      generalize m[i] = x at ci0 ci1 HCI HNX2
      generalize m[k] = y at ck0 ck1 HCK HNX2
      obtain ⟨⟨xw, xs⟩, xv⟩ := x
      obtain ⟨⟨yw, ys⟩, yv⟩ := y
      simp only at ci0 ci1 ck0 ck1 HCI HCK HNX2
      clear hi' hk'
      go_wp2_with fail
      go_region_with (first | (go_at_call_of 146 (Value.int IntKind.i64 (xw : Int)); (with_reducible refine (weight_any _ _ _).mono ?_); rintro e w2 ⟨rfl, hb2⟩; have B2 := hideH (BW.out.drew.trans (hb2.mono BW.out.drew.size)); obtain ⟨di0, di1⟩ := HCI.out _ B2.out; obtain ⟨dk0, dk1⟩ := HCK.out _ B2.out; clear hb2) | (go_at_call_of 146 (Value.int IntKind.i64 (yw : Int)); (with_reducible refine (weight_any _ _ _).mono ?_); rintro e w3 ⟨rfl, hb3⟩; have B3 := hideH (B2.out.trans (hb3.mono B2.out.size)); clear hb3))
      all_goals (
        by_cases hxy : xw < yw
        · have hxy' : (xw : Int) < (yw : Int) := by omega
          rw [if_pos hxy] at HNX2
          go_wp2_with fail
          go_roundw
          case rel => exact ⟨i + 1, i, by go_num, rfl, by omega, HNX2.out.symm, B3.out⟩
          case measure => simp [intOf]; omega
        · have hxy' : decide ((xw : Int) < (yw : Int)) = false := by simp; omega
          rw [if_neg hxy] at HNX2
          go_wp2_with fail
          go_roundw
          case rel => exact ⟨i + 1, k, by go_num, rfl, by omega, HNX2.out.symm, B3.out⟩
          case measure => simp [intOf]; omega)
    · obtain rfl : i = n := by omega
      go_wp2_with fail
      go_ret
      exact ⟨by rw [HK.out]; rfl, BW.out⟩
end Go.Proofs.Ytmkpakhpjgocjaa.Hf
