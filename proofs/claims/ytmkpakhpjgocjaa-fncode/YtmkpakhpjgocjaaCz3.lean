/- Texts put together: HuLeastS, HuLeast, HuDel. -/
import Derived.Test.YtmkpakhpjgocjaaCzHuLeastB
import Derived.Test.YtmkpakhpjgocjaaCz2
import Derived.Deep.RegionWith
import Derived.BigQuiet
import Derived.Shelf.Abstract
import Derived.Deep.RegionLaw
import Derived.Lib.SliceRun
import Derived.Deep.Upon
/- For the walk of l04Least: the least but one, step by step. -/
namespace Go.Proofs.Ytmkpakhpjgocjaa.Hf
open Go.RowKit

def oi : Option Nat → Int
  | none => -1
  | some k => (k : Int)
theorem lb_lt (l : List Tree) (a : Nat) : ∀ i k, lb l a i = some k → k < i
  | 0, k, h => by cases h
  | i + 1, k, h => by
    rw [lb] at h
    split at h
    · have := lb_lt l a i k h
      omega
    · split at h
      · simp at h
        omega
      · rename_i k' hk'
        have := lb_lt l a i k' hk'
        split at h <;> simp at h <;> omega
theorem lb_none {l : List Tree} {a i : Nat} (h : lb l a i = none) (hia : ¬ i = a) : lb l a (i + 1) = some i := by
  rw [lb, if_neg hia, h]
theorem lb_some {l : List Tree} {a i k : Nat} (h : lb l a i = some k) (hia : ¬ i = a) : lb l a (i + 1) = if wt l i < wt l k then some i else some k := by
  rw [lb, if_neg hia, h]
theorem drewN_two (w : World) (d e : Nat) : (w.drewN d).drewN e = w.drewN (d + e) := by simp [World.drewN, Nat.add_assoc]
end Go.Proofs.Ytmkpakhpjgocjaa.Hf

/- The walks of weightOf and leastAt. -/
namespace Go.Proofs.Ytmkpakhpjgocjaa.Hf
open Go.RowKit

set_option maxHeartbeats 400000 in
theorem weight_any (n : Int) (v : Value) (w : World) : Calls Try.prog 146 #[.agg #[.int .i64 n, v]] w fun e w' => e = .returned (.int .i64 n) ∧ Below w.heap.size w w' := by
  go_enter Try.func146, Try.ntmps146
  go_wp2_with fail
  go_ret
  exact ⟨rfl, (Below.refl _ _).alloc (Nat.le_refl _) _⟩
theorem weight_enters : ∀ args w, (callFunc 146 args).run Try.prog w = .ok (.enter 146 args) w := enters_of Try.func146 (by kernel_rfl) rfl
theorem least_next (m : List MT) (i : Nat) (hi : i < m.length) (hl : least (mt m) i < m.length) : least (mt m) (i + 1) = if m[i].1.1 < m[least (mt m) i].1.1 then i else least (mt m) i := by
  rw [least, wt_mt m i hi, wt_mt m _ hl]

set_option maxRecDepth 100000 in
set_option maxHeartbeats 1000000 in
theorem least_any (g n cap : Nat) (m : List MT) (cur : Array Value) (t : TypeId) (w : World) (hn : m.length = n) (h0 : 0 < n) (h257 : n ≤ 257) (hb : w.heap[g]? = some (.cells cur t (0, 0))) (ht : cur.toList.take (m.length * 2) = cells m) :
    Calls Try.prog 145 #[.slice (some ⟨g, 0, none⟩) n cap, .func (.func 146) #[] #[]] w fun e w' => e = .returned (.int .i64 (least (mt m) n : Nat)) ∧ Below w.heap.size w w' := by
  have he := weight_enters
  have HN := hideH hn
  have hg := lt_row hb
  have HC := hideH (fun (W : World) (hW : Below w.heap.size w W) i hi => row_at (m := m) ((hW.block g hg).trans hb) ht i hi)
  have HL := hideH (least_le (mt m))
  clear hn hb ht
  go_enter Try.func145, Try.ntmps145
  go_wp2_with fail
  go_loopw [9, 5] (fun iv kv wr => ∃ i k : Nat, iv = .int .i64 i ∧ kv = .int .i64 k ∧ i ≤ n ∧ k = least (mt m) i ∧ Below w.heap.size w wr) (fun iv _ _ => n - (intOf iv).toNat)
  case atStart => exact ⟨0, 0, rfl, rfl, Nat.zero_le _, rfl, Below.refl _ _⟩
  case round =>
    obtain ⟨i, k, rfl, rfl, hi, hk, hbw⟩ := hrel
    have HK := hideH hk
    have BW := hideH hbw
    clear hk hbw
    by_cases hlt : i < n
    · have hkn : k < n := by have h1 := HL.out i; have h2 := HK.out; omega
      have hi' : i < m.length := by rw [HN.out]; exact hlt
      have hk' : k < m.length := by rw [HN.out]; exact hkn
      obtain ⟨ci0, ci1⟩ := HC.out _ BW.out i hi'
      obtain ⟨ck0, ck1⟩ := HC.out _ BW.out k hk'
      have HCI := hideH (fun W hW => HC.out W hW i hi')
      have HCK := hideH (fun W hW => HC.out W hW k hk')
      have HNX := hideH (least_next m i hi' (by rw [← HK.out]; exact hk'))
      have HNX2 : Hid (least (mt m) (i + 1) = if m[i].1.1 < m[k].1.1 then i else k) := by
        have := HNX.out
        simp only [← HK.out] at this
        exact this
      clear HNX
      generalize m[i] = x at ci0 ci1 HCI HNX2
      generalize m[k] = y at ck0 ck1 HCK HNX2
      obtain ⟨⟨xw, xs⟩, xv⟩ := x
      obtain ⟨⟨yw, ys⟩, yv⟩ := y
      simp only at ci0 ci1 ck0 ck1 HCI HCK HNX2
      clear hi' hk'
      go_wp2_with fail
      go_region_with (first | (go_at_call_of 146 (Value.int IntKind.i64 (xw : Int)); (with_reducible refine (weight_any _ _ _).mono ?_); rintro e w2 ⟨rfl, hb2⟩; have B2 := hideH (BW.out.drew.trans (hb2.mono BW.out.drew.size)); obtain ⟨di0, di1⟩ := HCI.out _ B2.out; obtain ⟨dk0, dk1⟩ := HCK.out _ B2.out; clear hb2) | (go_at_call_of 146 (Value.int IntKind.i64 (yw : Int)); (with_reducible refine (weight_any _ _ _).mono ?_); rintro e w3 ⟨rfl, hb3⟩; have B3 := hideH (B2.out.trans (hb3.mono B2.out.size)); clear hb3))
      all_goals (
        by_cases hxy : xw < yw
        · have hxy' : (xw : Int) < (yw : Int) := by omega
          rw [if_pos hxy] at HNX2
          go_wp2_with fail
          go_roundw
          case rel => exact ⟨i + 1, i, by go_num, rfl, by omega, HNX2.out.symm, B3.out⟩
          case measure => simp [intOf]; omega
        · have hxy' : decide ((xw : Int) < (yw : Int)) = false := by simp; omega
          rw [if_neg hxy] at HNX2
          go_wp2_with fail
          go_roundw
          case rel => exact ⟨i + 1, k, by go_num, rfl, by omega, HNX2.out.symm, B3.out⟩
          case measure => simp [intOf]; omega)
    · obtain rfl : i = n := by omega
      go_wp2_with fail
      go_ret
      exact ⟨by rw [HK.out]; rfl, BW.out⟩
end Go.Proofs.Ytmkpakhpjgocjaa.Hf

/- The walk of slices.Delete of one tree. -/
namespace Go.Proofs.Ytmkpakhpjgocjaa.Hf
open Go.RowKit

def lays (cur : Array Value) : Nat → List Value → Array Value
  | _, [] => cur
  | o, v :: r => lays (cur.setIfInBounds o v) (o + 1) r
theorem lays_size : ∀ (vs : List Value) (o : Nat) (cur : Array Value), (lays cur o vs).size = cur.size
  | [], _, _ => rfl
  | v :: r, o, cur => by rw [lays, lays_size r, Array.size_setIfInBounds]
theorem lays_heap (g : Nat) (t : TypeId) : ∀ (vs : List Value) (o : Nat) (cur : Array Value) (w : World), w.heap[g]? = some (.cells cur t (0, 0)) → (w.setCells g o vs).heap[g]? = some (.cells (lays cur o vs) t (0, 0))
  | [], _, _, _, h => h
  | v :: r, o, _, w, h => lays_heap g t r (o + 1) _ _ (heap_setCell_same w g o _ _ v h)
theorem lays_list : ∀ (vs : List Value) (o : Nat) (cur : Array Value), o + vs.length ≤ cur.size → (lays cur o vs).toList = cur.toList.take o ++ vs ++ cur.toList.drop (o + vs.length)
  | [], o, cur, _ => by
    rw [lays, List.append_nil, List.length_nil, Nat.add_zero, List.take_append_drop]
  | v :: r, o, cur, h => by
    rw [List.length_cons] at h
    rw [lays, lays_list r (o + 1) _ (by rw [Array.size_setIfInBounds]; omega), Array.toList_setIfInBounds, List.length_cons]
    have h1 : (cur.toList.set o v).take (o + 1) = cur.toList.take o ++ [v] := by
      rw [List.take_add_one, List.take_set_of_le (Nat.le_refl _), List.getElem?_set_self (by rw [Array.length_toList]; omega)]
      rfl
    rw [h1, List.drop_set_of_lt (by omega), show o + 1 + r.length = o + (r.length + 1) by omega, List.append_assoc, List.append_assoc, List.append_assoc]
    rfl
theorem cells_take : ∀ (m : List MT) (i : Nat), cells (m.take i) = (cells m).take (i * 2)
  | [], i => by simp [cells]
  | x :: m, 0 => by simp [cells]
  | x :: m, i + 1 => by
    rw [List.take_succ_cons, cells, cells, cells_take m i, show (i + 1) * 2 = i * 2 + 1 + 1 by omega, List.take_succ_cons, List.take_succ_cons]
theorem cells_drop : ∀ (m : List MT) (i : Nat), cells (m.drop i) = (cells m).drop (i * 2)
  | [], i => by simp [cells]
  | x :: m, 0 => by simp
  | x :: m, i + 1 => by
    rw [List.drop_succ_cons, cells, cells_drop m i, show (i + 1) * 2 = i * 2 + 1 + 1 by omega, List.drop_succ_cons, List.drop_succ_cons]
theorem cells_one (m : List MT) (h : ∀ x ∈ m, x.2.oneCell' = true) : ∀ u ∈ cells m, u.oneCell' = true := by
  induction m with
  | nil => intro u hu; cases hu
  | cons x m ih =>
    intro u hu
    rw [cells] at hu
    rcases List.mem_cons.1 hu with rfl | hu
    · rfl
    · rcases List.mem_cons.1 hu with rfl | hu
      · exact h x (List.mem_cons_self ..)
      · exact ih (fun y hy => h y (List.mem_cons_of_mem _ hy)) u hu
/-- what is left when one is taken out -/
theorem gone_list (cur : Array Value) (m : List MT) (n cap i : Nat) (hn : m.length = n) (hi : i < n) (hc : n ≤ cap) (hs : cur.size = cap * 2) (ht : cur.toList.take (n * 2) = cells m) (x y : Value) :
    (lays (lays cur (i * 2) (cells (m.drop (i + 1)))) ((n - 1) * 2) [x, y]).toList.take ((m.eraseIdx i).length * 2) = cells (m.eraseIdx i) := by
  have hl : (cells (m.drop (i + 1))).length = (n - (i + 1)) * 2 := by rw [cells_length, List.length_drop, hn]
  have he : (m.eraseIdx i).length = n - 1 := by rw [List.length_eraseIdx, if_pos (by omega), hn]
  have h1 : cur.toList.take (i * 2) = cells (m.take i) := by
    rw [cells_take, ← ht, List.take_take, Nat.min_eq_left (by omega)]
  rw [he, lays_list _ _ _ (by rw [lays_size, List.length_cons, List.length_cons, List.length_nil, hs]; omega), List.append_assoc, List.take_append_of_le_length (by rw [List.length_take, Array.length_toList, lays_size, hs]; omega), List.take_take, Nat.min_self, lays_list _ _ _ (by rw [hl, hs]; omega), h1]
  have hl1 : (cells (m.take i)).length = i * 2 := by rw [cells_length, List.length_take, hn]; omega
  rw [List.take_append_of_le_length (by rw [List.length_append, hl1, hl]; omega), List.take_of_length_le (by rw [List.length_append, hl1, hl]; omega), ← cells_append, ← List.eraseIdx_eq_take_drop_succ]
theorem Try.infoTree : (Try.prog.info? 109).map (fun i => (i.zero, i.size, i.bytes)) = some (some (.agg #[.int .i64 0, .slice none 0 0]), 2, 32) := by kernel_rfl
theorem clear_one (w : World) (t e ty : TypeId) (ht : Try.prog.underlying t = some (.slice e)) (hv : ∀ w, (zeroValue e).run Try.prog w = .ok (.agg #[.int .i64 0, .slice none 0 0]) w) (b o c : Nat)
    (hc : ∀ j, j < 2 → (w.cell? ⟨b, o + j, none⟩).isSome = true) (hf : ∀ j, j < 2 → w.frozen? ⟨b, o + j, none⟩ = false) :
    (Builtin.clear_ #[t] ty #[.slice (some ⟨b, o, none⟩) 1 c]).run Try.prog w = .ok (.tuple #[]) (w.setCells b o [.int .i64 0, .slice none 0 0]) := by
  have hzc : (Builtin.zeroCells (Value.agg #[.int .i64 0, .slice none 0 0]).cells 1).toList = [.int .i64 0, .slice none 0 0] := by kernel_rfl
  have hst := run_storeCells_cells (P := Try.prog) b o [.int .i64 0, .slice none 0 0] 0 w (by simpa using hc) (by simpa using hf) (by intro v hv'; simp at hv'; rcases hv' with rfl | rfl <;> rfl)
  simp only [Nat.add_zero] at hst
  simp [Builtin.clear_, run_underlying ht, hv, hzc, hst]

theorem zero_tree (w : World) : (zeroValue 109).run Try.prog w = .ok (.agg #[.int .i64 0, .slice none 0 0]) w := by
  simp [zeroValue, go_sem]
  rfl

set_option maxRecDepth 100000 in
set_option maxHeartbeats 1000000 in
theorem delete_any (g k cap i : Nat) (m : List MT) (cur : Array Value) (w : World) (hn : m.length = k + 1) (hi : i ≤ k) (hc : k + 1 ≤ cap) (h257 : k ≤ 257) (hb : w.heap[g]? = some (.cells cur 109 (0, 0))) (hs : cur.size = cap * 2) (ht : cur.toList.take ((k + 1) * 2) = cells m) (h1 : ∀ x ∈ m, x.2.oneCell' = true) :
    Calls Try.prog 147 #[.slice (some ⟨g, 0, none⟩) (k + 1) cap, .int .i64 i, .int .i64 ((i : Int) + 1)] w fun e w' => e = .returned (.slice (some ⟨g, 0, none⟩) k cap) ∧ w' = (w.drew.setCells g (0 + i * 2) (cells (m.drop (i + 1)))).setCells g (k * 2) [.int .i64 0, .slice none 0 0] := by
  obtain ⟨i0, hi0, hz0, hz1, hz2⟩ := info_parts Try.infoTree
  have hic : i ≤ cap := by omega
  have hjc : i + 1 ≤ cap := by omega
  have g1 : (i : Int) + 1 ≤ (k : Int) + 1 := by omega
  have g2 : (i : Int) + 1 ≤ cap := by omega
  have g3 : (k : Int) + 1 ≤ cap := by omega
  have g4 : ((i : Int) == (i : Int) + 1) = false := by simp; omega
  have g5 : (0 : Int) ≤ (i : Int) + 1 := by omega
  have hL : i + (k - i) = k := by omega
  have hlen : (cells (m.drop (i + 1))).length = (k - i) * 2 := by rw [cells_length, List.length_drop, hn]; omega
  obtain ⟨A, hA, hsrc⟩ : ∃ A : Addr, (if cap = i + 1 then some (⟨g, 0, none⟩ : Addr) else some ⟨g, (i + 1) * 2, none⟩) = some A ∧ Hid (∀ t u, (cells (m.drop (i + 1)))[t]? = some u → w.drew.cell? (A.add t) = some u) := by
    by_cases h : cap = i + 1
    · refine ⟨⟨g, 0, none⟩, by simp [h], fun t u hu => ?_⟩
      have h0 : (cells (m.drop (i + 1))).length = 0 := by rw [hlen]; omega
      rw [List.length_eq_zero_iff.1 h0] at hu
      simp at hu
    · refine ⟨⟨g, (i + 1) * 2, none⟩, by simp [h], fun t u hu => ?_⟩
      have ht' : t < (k - i) * 2 := by
        have := (List.getElem?_eq_some_iff.1 hu).1
        rwa [hlen] at this
      rw [Addr.add_lit]
      refine (cell_of_row w g _ _ _ _ hb).trans ?_
      rw [cells_drop, List.getElem?_drop, ← ht, List.getElem?_take_of_lt (by omega), Array.getElem?_toList] at hu
      exact hu
  have s1 : Hid ((cells (m.drop (i + 1))).length = (k - i) * 2) := hlen
  have s2 : Hid (∀ u ∈ cells (m.drop (i + 1)), u.oneCell' = true) := cells_one _ fun x hx => h1 x (List.mem_of_mem_drop hx)
  have hcz : ∀ j, j < cap * 2 → (w.cell? ⟨g, j, none⟩).isSome = true := fun j hj => by
    rw [cell_of_row w g j _ _ _ hb, Array.getElem?_eq_getElem (by omega)]
    rfl
  have s3 : Hid (∀ t, t < (cells (m.drop (i + 1))).length → (w.drew.cell? ⟨g, 0 + i * 2 + t, none⟩).isSome = true ∧ w.drew.frozen? ⟨g, 0 + i * 2 + t, none⟩ = false) := fun t ht' => by
    rw [hlen] at ht'
    exact ⟨hcz _ (by omega), frozen_of_row w g _ _ _ hb⟩
  obtain ⟨W1, hW1⟩ : ∃ W1, W1 = w.drew.setCells g (0 + i * 2) (cells (m.drop (i + 1))) := ⟨_, rfl⟩
  have hb1 : W1.heap[g]? = some (.cells (lays cur (0 + i * 2) (cells (m.drop (i + 1)))) 109 (0, 0)) := by
    rw [hW1]
    exact lays_heap g _ _ _ _ _ hb
  have hcl : ∀ ty, (Builtin.clear_ #[105] ty #[.slice (some ⟨g, k * 2, none⟩) 1 (cap - k)]).run Try.prog W1 = .ok (.tuple #[]) (W1.setCells g (k * 2) [.int .i64 0, .slice none 0 0]) := fun ty =>
    clear_one W1 _ _ ty Try.underlying105 zero_tree g _ _ (fun j hj => by
      rw [cell_of_row W1 g _ _ _ _ hb1, Array.getElem?_eq_getElem (by rw [lays_size]; omega)]
      rfl) (fun j hj => frozen_of_row W1 g _ _ _ hb1)
  have hW : Hid (W1 = w.drew.setCells g (0 + i * 2) (cells (m.drop (i + 1)))) := hW1
  rw [← hW1]
  generalize cells (m.drop (i + 1)) = news at hsrc s1 s2 s3 hW
  clear hlen hb1 hcz hb ht hs hW1
  go_enter Try.func147, Try.ntmps147
  go_wp2_with fail
  go_region_law (refine step_append_room rfl (.tmp 22) (.tmp 25) 105 rfl 109 i0 2 Try.underlying105 hi0 hz1 g 0 i cap (by simp [Act.eval, Act.put]) A (k - i) (cap - (i + 1)) news (by simp [Act.eval, Act.put]) s1.out hsrc.out s2.out (by omega) s3.out ?_; rw [← hW.out])
  go_wp2_with fail
  go_ret
  exact ⟨rfl, rfl⟩
end Go.Proofs.Ytmkpakhpjgocjaa.Hf
