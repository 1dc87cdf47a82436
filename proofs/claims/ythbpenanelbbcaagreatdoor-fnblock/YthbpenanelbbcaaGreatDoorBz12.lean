/- Texts put together: HuLeast, HuDel, HuTake. -/
import Derived.Test.YthbpenanelbbcaaGreatDoorBz11
import Derived.Deep.RegionWith
import Derived.BigQuiet
import Derived.Shelf.Abstract
import Derived.Deep.RegionLaw
import Derived.Lib.SliceRun
import Derived.Deep.Upon
/- The walks of weightOf and leastAt. -/
namespace Go.Proofs.YthbpenanelbbcaaGreatDoor.Hf
open Go.RowKit
set_option maxHeartbeats 400000 in
theorem weight_any (n : Int) (v : Value) (w : World) : Calls Tryz.prog 138 #[.agg #[.int .i64 n, v]] w fun e w' => e = .returned (.int .i64 n) ∧ Below w.heap.size w w' := by
 go_enter Tryz.func138, Tryz.ntmps138
 go_wp2_with fail
 go_ret
 exact ⟨rfl, (Below.refl _ _).alloc (Nat.le_refl _) _⟩
theorem weight_enters : ∀ args w, (callFunc 138 args).run Tryz.prog w = .ok (.enter 138 args) w := enters_of Tryz.func138 (by kernel_rfl) rfl
theorem least_next (m : List MT) (i : Nat) (hi : i < m.length) (hl : least (mt m) i < m.length) : least (mt m) (i + 1) = if m[i].1.1 < m[least (mt m) i].1.1 then i else least (mt m) i := by
 rw [least, wt_mt m i hi, wt_mt m _ hl]
set_option maxRecDepth 100000 in
set_option maxHeartbeats 1000000 in
theorem least_any (g n cap : Nat) (m : List MT) (cur : Array Value) (t : TypeId) (w : World) (hn : m.length = n) (h0 : 0 < n) (h257 : n ≤ 257) (hb : w.heap[g]? = some (.cells cur t (0, 0))) (ht : cur.toList.take (m.length * 2) = cells m) :
  Calls Tryz.prog 137 #[.slice (some ⟨g, 0, none⟩) n cap, .func (.func 138) #[] #[]] w fun e w' => e = .returned (.int .i64 (least (mt m) n : Nat)) ∧ Below w.heap.size w w' := by
 have he := weight_enters
 have HN := hideH hn
 have hg := lt_row hb
 have HC := hideH (fun (W : World) (hW : Below w.heap.size w W) i hi => row_at (m := m) ((hW.block g hg).trans hb) ht i hi)
 have HL := hideH (least_le (mt m))
 clear hn hb ht
 go_enter Tryz.func137, Tryz.ntmps137
 go_wp2_with fail
 go_loopw [9, 5] (fun iv kv wr => ∃ i k : Nat, iv = .int .i64 i ∧ kv = .int .i64 k ∧ i ≤ n ∧ k = least (mt m) i ∧ Below w.heap.size w wr) (fun iv _ _ => n - (intOf iv).toNat)
 case atStart => exact ⟨0, 0, rfl, rfl, Nat.zero_le _, rfl, Below.refl _ _⟩
 case round =>
  obtain ⟨i, k, rfl, rfl, hi, hk, hbw⟩ := hrel
  have HK := hideH hk
  have BW := hideH hbw
  clear hk hbw
  by_cases hlt : i < n
  ·have hkn : k < n := by have h1 := HL.out i; have h2 := HK.out; omega
   have hi' : i < m.length := by rw [HN.out]; exact hlt
   have hk' : k < m.length := by rw [HN.out]; exact hkn
   obtain ⟨ci0, ci1⟩ := HC.out _ BW.out i hi'
   obtain ⟨ck0, ck1⟩ := HC.out _ BW.out k hk'
   have HCI := hideH (fun W hW => HC.out W hW i hi')
   have HCK := hideH (fun W hW => HC.out W hW k hk')
   have HNX := hideH (least_next m i hi' (by rw [← HK.out]; exact hk'))
   have HNX2 : Hid (least (mt m) (i + 1) = if m[i].1.1 < m[k].1.1 then i else k) := by
    have := HNX.out
    simp only [← HK.out] at this
    exact this
   clear HNX
   generalize m[i] = x at ci0 ci1 HCI HNX2
   generalize m[k] = y at ck0 ck1 HCK HNX2
   obtain ⟨⟨xw, xs⟩, xv⟩ := x
   obtain ⟨⟨yw, ys⟩, yv⟩ := y
   simp only at ci0 ci1 ck0 ck1 HCI HCK HNX2
   clear hi' hk'
   go_wp2_with fail
   go_region_with (first | (go_at_call_of 138 (Value.int IntKind.i64 (xw : Int)); (with_reducible refine (weight_any _ _ _).mono ?_); rintro e w2 ⟨rfl, hb2⟩; have B2 := hideH (BW.out.drew.trans (hb2.mono BW.out.drew.size)); obtain ⟨di0, di1⟩ := HCI.out _ B2.out; obtain ⟨dk0, dk1⟩ := HCK.out _ B2.out; clear hb2) | (go_at_call_of 138 (Value.int IntKind.i64 (yw : Int)); (with_reducible refine (weight_any _ _ _).mono ?_); rintro e w3 ⟨rfl, hb3⟩; have B3 := hideH (B2.out.trans (hb3.mono B2.out.size)); clear hb3))
   all_goals (
    by_cases hxy : xw < yw
    ·have hxy' : (xw : Int) < (yw : Int) := by omega
     rw [if_pos hxy] at HNX2
     go_wp2_with fail
     go_roundw
     case rel => exact ⟨i + 1, i, by go_num, rfl, by omega, HNX2.out.symm, B3.out⟩
     case measure => simp [intOf]; omega
    ·have hxy' : decide ((xw : Int) < (yw : Int)) = false := by simp; omega
     rw [if_neg hxy] at HNX2
     go_wp2_with fail
     go_roundw
     case rel => exact ⟨i + 1, k, by go_num, rfl, by omega, HNX2.out.symm, B3.out⟩
     case measure => simp [intOf]; omega)
  ·obtain rfl : i = n := by omega
   go_wp2_with fail
   go_ret
   exact ⟨by rw [HK.out]; rfl, BW.out⟩
end Go.Proofs.YthbpenanelbbcaaGreatDoor.Hf


/- The walk of slices.Delete of one tree. -/
namespace Go.Proofs.YthbpenanelbbcaaGreatDoor.Hf
open Go.RowKit
def lays (cur : Array Value) : Nat → List Value → Array Value
 | _, [] => cur
 | o, v :: r => lays (cur.setIfInBounds o v) (o + 1) r
theorem lays_size : ∀ (vs : List Value) (o : Nat) (cur : Array Value), (lays cur o vs).size = cur.size
 | [], _, _ => rfl
 | v :: r, o, cur => by rw [lays, lays_size r, Array.size_setIfInBounds]
theorem lays_heap (g : Nat) (t : TypeId) : ∀ (vs : List Value) (o : Nat) (cur : Array Value) (w : World), w.heap[g]? = some (.cells cur t (0, 0)) → (w.setCells g o vs).heap[g]? = some (.cells (lays cur o vs) t (0, 0))
 | [], _, _, _, h => h
 | v :: r, o, _, w, h => lays_heap g t r (o + 1) _ _ (heap_setCell_same w g o _ _ v h)
theorem lays_list : ∀ (vs : List Value) (o : Nat) (cur : Array Value), o + vs.length ≤ cur.size → (lays cur o vs).toList = cur.toList.take o ++ vs ++ cur.toList.drop (o + vs.length)
 | [], o, cur, _ => by
  rw [lays, List.append_nil, List.length_nil, Nat.add_zero, List.take_append_drop]
 | v :: r, o, cur, h => by
  rw [List.length_cons] at h
  rw [lays, lays_list r (o + 1) _ (by rw [Array.size_setIfInBounds]; omega), Array.toList_setIfInBounds, List.length_cons]
  have h1 : (cur.toList.set o v).take (o + 1) = cur.toList.take o ++ [v] := by
   rw [List.take_add_one, List.take_set_of_le (Nat.le_refl _), List.getElem?_set_self (by rw [Array.length_toList]; omega)]
   rfl
  rw [h1, List.drop_set_of_lt (by omega), show o + 1 + r.length = o + (r.length + 1) by omega, List.append_assoc, List.append_assoc, List.append_assoc]
  rfl
theorem cells_take : ∀ (m : List MT) (i : Nat), cells (m.take i) = (cells m).take (i * 2)
 | [], i => by simp [cells]
 | x :: m, 0 => by simp [cells]
 | x :: m, i + 1 => by
  rw [List.take_succ_cons, cells, cells, cells_take m i, show (i + 1) * 2 = i * 2 + 1 + 1 by omega, List.take_succ_cons, List.take_succ_cons]
theorem cells_drop : ∀ (m : List MT) (i : Nat), cells (m.drop i) = (cells m).drop (i * 2)
 | [], i => by simp [cells]
 | x :: m, 0 => by simp
 | x :: m, i + 1 => by
  rw [List.drop_succ_cons, cells, cells_drop m i, show (i + 1) * 2 = i * 2 + 1 + 1 by omega, List.drop_succ_cons, List.drop_succ_cons]
theorem cells_one (m : List MT) (h : ∀ x ∈ m, x.2.oneCell' = true) : ∀ u ∈ cells m, u.oneCell' = true := by
 induction m with
 | nil => intro u hu; cases hu
 | cons x m ih =>
  intro u hu
  rw [cells] at hu
  rcases List.mem_cons.1 hu with rfl | hu
  ·rfl
  ·rcases List.mem_cons.1 hu with rfl | hu
   ·exact h x (List.mem_cons_self ..)
   ·exact ih (fun y hy => h y (List.mem_cons_of_mem _ hy)) u hu
theorem gone_list (cur : Array Value) (m : List MT) (n cap i : Nat) (hn : m.length = n) (hi : i < n) (hc : n ≤ cap) (hs : cur.size = cap * 2) (ht : cur.toList.take (n * 2) = cells m) (x y : Value) :
  (lays (lays cur (i * 2) (cells (m.drop (i + 1)))) ((n - 1) * 2) [x, y]).toList.take ((m.eraseIdx i).length * 2) = cells (m.eraseIdx i) := by
 have hl : (cells (m.drop (i + 1))).length = (n - (i + 1)) * 2 := by rw [cells_length, List.length_drop, hn]
 have he : (m.eraseIdx i).length = n - 1 := by rw [List.length_eraseIdx, if_pos (by omega), hn]
 have h1 : cur.toList.take (i * 2) = cells (m.take i) := by
  rw [cells_take, ← ht, List.take_take, Nat.min_eq_left (by omega)]
 rw [he, lays_list _ _ _ (by rw [lays_size, List.length_cons, List.length_cons, List.length_nil, hs]; omega), List.append_assoc, List.take_append_of_le_length (by rw [List.length_take, Array.length_toList, lays_size, hs]; omega), List.take_take, Nat.min_self, lays_list _ _ _ (by rw [hl, hs]; omega), h1]
 have hl1 : (cells (m.take i)).length = i * 2 := by rw [cells_length, List.length_take, hn]; omega
 rw [List.take_append_of_le_length (by rw [List.length_append, hl1, hl]; omega), List.take_of_length_le (by rw [List.length_append, hl1, hl]; omega), ← cells_append, ← List.eraseIdx_eq_take_drop_succ]
theorem Tryz.infoTree : (Tryz.prog.info? 137).map (fun i => (i.zero, i.size, i.bytes)) = some (some (.agg #[.int .i64 0, .slice none 0 0]), 2, 32) := by kernel_rfl
theorem clear_one (w : World) (t e ty : TypeId) (ht : Tryz.prog.underlying t = some (.slice e)) (hv : ∀ w, (zeroValue e).run Tryz.prog w = .ok (.agg #[.int .i64 0, .slice none 0 0]) w) (b o c : Nat)
  (hc : ∀ j, j < 2 → (w.cell? ⟨b, o + j, none⟩).isSome = true) (hf : ∀ j, j < 2 → w.frozen? ⟨b, o + j, none⟩ = false) :
  (Builtin.clear_ #[t] ty #[.slice (some ⟨b, o, none⟩) 1 c]).run Tryz.prog w = .ok (.tuple #[]) (w.setCells b o [.int .i64 0, .slice none 0 0]) := by
 have hzc : (Builtin.zeroCells (Value.agg #[.int .i64 0, .slice none 0 0]).cells 1).toList = [.int .i64 0, .slice none 0 0] := by kernel_rfl
 have hst := run_storeCells_cells (P := Tryz.prog) b o [.int .i64 0, .slice none 0 0] 0 w (by simpa using hc) (by simpa using hf) (by intro v hv'; simp at hv'; rcases hv' with rfl | rfl <;> rfl)
 simp only [Nat.add_zero] at hst
 simp [Builtin.clear_, run_underlying ht, hv, hzc, hst]
theorem zero_tree (w : World) : (zeroValue 137).run Tryz.prog w = .ok (.agg #[.int .i64 0, .slice none 0 0]) w := by
 simp [zeroValue, go_sem]
 rfl
set_option maxRecDepth 100000 in
set_option maxHeartbeats 1000000 in
theorem delete_any (g k cap i : Nat) (m : List MT) (cur : Array Value) (w : World) (hn : m.length = k + 1) (hi : i ≤ k) (hc : k + 1 ≤ cap) (h257 : k ≤ 257) (hb : w.heap[g]? = some (.cells cur 137 (0, 0))) (hs : cur.size = cap * 2) (ht : cur.toList.take ((k + 1) * 2) = cells m) (h1 : ∀ x ∈ m, x.2.oneCell' = true) :
  Calls Tryz.prog 139 #[.slice (some ⟨g, 0, none⟩) (k + 1) cap, .int .i64 i, .int .i64 ((i : Int) + 1)] w fun e w' => e = .returned (.slice (some ⟨g, 0, none⟩) k cap) ∧ w' = (w.drew.setCells g (0 + i * 2) (cells (m.drop (i + 1)))).setCells g (k * 2) [.int .i64 0, .slice none 0 0] := by
 obtain ⟨i0, hi0, hz0, hz1, hz2⟩ := info_parts Tryz.infoTree
 have hic : i ≤ cap := by omega
 have hjc : i + 1 ≤ cap := by omega
 have g1 : (i : Int) + 1 ≤ (k : Int) + 1 := by omega
 have g2 : (i : Int) + 1 ≤ cap := by omega
 have g3 : (k : Int) + 1 ≤ cap := by omega
 have g4 : ((i : Int) == (i : Int) + 1) = false := by simp; omega
 have g5 : (0 : Int) ≤ (i : Int) + 1 := by omega
 have hL : i + (k - i) = k := by omega
 have hlen : (cells (m.drop (i + 1))).length = (k - i) * 2 := by rw [cells_length, List.length_drop, hn]; omega
 obtain ⟨A, hA, hsrc⟩ : ∃ A : Addr, (if cap = i + 1 then some (⟨g, 0, none⟩ : Addr) else some ⟨g, (i + 1) * 2, none⟩) = some A ∧ Hid (∀ t u, (cells (m.drop (i + 1)))[t]? = some u → w.drew.cell? (A.add t) = some u) := by
  by_cases h : cap = i + 1
  ·refine ⟨⟨g, 0, none⟩, by simp [h], fun t u hu => ?_⟩
   have h0 : (cells (m.drop (i + 1))).length = 0 := by rw [hlen]; omega
   rw [List.length_eq_zero_iff.1 h0] at hu
   simp at hu
  ·refine ⟨⟨g, (i + 1) * 2, none⟩, by simp [h], fun t u hu => ?_⟩
   have ht' : t < (k - i) * 2 := by
    have := (List.getElem?_eq_some_iff.1 hu).1
    rwa [hlen] at this
   rw [Addr.add_lit]
   refine (cell_of_row w g _ _ _ _ hb).trans ?_
   rw [cells_drop, List.getElem?_drop, ← ht, List.getElem?_take_of_lt (by omega), Array.getElem?_toList] at hu
   exact hu
 have s1 : Hid ((cells (m.drop (i + 1))).length = (k - i) * 2) := hlen
 have s2 : Hid (∀ u ∈ cells (m.drop (i + 1)), u.oneCell' = true) := cells_one _ fun x hx => h1 x (List.mem_of_mem_drop hx)
 have hcz : ∀ j, j < cap * 2 → (w.cell? ⟨g, j, none⟩).isSome = true := fun j hj => by
  rw [cell_of_row w g j _ _ _ hb, Array.getElem?_eq_getElem (by omega)]
  rfl
 have s3 : Hid (∀ t, t < (cells (m.drop (i + 1))).length → (w.drew.cell? ⟨g, 0 + i * 2 + t, none⟩).isSome = true ∧ w.drew.frozen? ⟨g, 0 + i * 2 + t, none⟩ = false) := fun t ht' => by
  rw [hlen] at ht'
  exact ⟨hcz _ (by omega), frozen_of_row w g _ _ _ hb⟩
 obtain ⟨W1, hW1⟩ : ∃ W1, W1 = w.drew.setCells g (0 + i * 2) (cells (m.drop (i + 1))) := ⟨_, rfl⟩
 have hb1 : W1.heap[g]? = some (.cells (lays cur (0 + i * 2) (cells (m.drop (i + 1)))) 137 (0, 0)) := by
  rw [hW1]
  exact lays_heap g _ _ _ _ _ hb
 have hcl : ∀ ty, (Builtin.clear_ #[133] ty #[.slice (some ⟨g, k * 2, none⟩) 1 (cap - k)]).run Tryz.prog W1 = .ok (.tuple #[]) (W1.setCells g (k * 2) [.int .i64 0, .slice none 0 0]) := fun ty =>
  clear_one W1 _ _ ty Tryz.underlying133 zero_tree g _ _ (fun j hj => by
   rw [cell_of_row W1 g _ _ _ _ hb1, Array.getElem?_eq_getElem (by rw [lays_size]; omega)]
   rfl) (fun j hj => frozen_of_row W1 g _ _ _ hb1)
 have hW : Hid (W1 = w.drew.setCells g (0 + i * 2) (cells (m.drop (i + 1)))) := hW1
 rw [← hW1]
 generalize cells (m.drop (i + 1)) = news at hsrc s1 s2 s3 hW
 clear hlen hb1 hcz hb ht hs hW1
 go_enter Tryz.func139, Tryz.ntmps139
 go_wp2_with fail
 go_region_law (refine step_append_room rfl (.tmp 22) (.tmp 25) 133 rfl 137 i0 2 Tryz.underlying133 hi0 hz1 g 0 i cap (by simp [Act.eval, Act.put]) A (k - i) (cap - (i + 1)) news (by simp [Act.eval, Act.put]) s1.out hsrc.out s2.out (by omega) s3.out ?_; rw [← hW.out])
 go_wp2_with fail
 go_ret
 exact ⟨rfl, rfl⟩
end Go.Proofs.YthbpenanelbbcaaGreatDoor.Hf


/- The walk of takeLeast. -/
namespace Go.Proofs.YthbpenanelbbcaaGreatDoor.Hf
open Go.RowKit
open Go.Proofs.YthbpenanelbbcaaGreatDoor.In (IsI irow)
structure Wr (g gl : Nat) (w w' : World) : Prop where
 os : w'.os = w.os
 tape : w'.tape = w.tape
 output : w'.output = w.output
 size : w.heap.size ≤ w'.heap.size
 block : ∀ k, k < w.heap.size → k ≠ g → k ≠ gl → w'.heap[k]? = w.heap[k]?
theorem Wr.refl (g gl : Nat) (w : World) : Wr g gl w w := ⟨rfl, rfl, rfl, Nat.le_refl _, fun _ _ _ _ => rfl⟩
theorem Wr.trans {g gl : Nat} {a b c : World} (h : Wr g gl a b) (k : Wr g gl b c) : Wr g gl a c :=
 ⟨k.os.trans h.os, k.tape.trans h.tape, k.output.trans h.output, Nat.le_trans h.size k.size, fun i hi h1 h2 => (k.block i (Nat.lt_of_lt_of_le hi h.size) h1 h2).trans (h.block i hi h1 h2)⟩
theorem Wr.of {g gl : Nat} {a b : World} (h : Below a.heap.size a b) : Wr g gl a b := ⟨h.os, h.tape, h.output, h.size, fun k hk _ _ => h.block k hk⟩
theorem Wr.more {g gl : Nat} {a b c : World} (h : Wr g gl a b) (k : Below b.heap.size b c) : Wr g gl a c := h.trans (Wr.of k)
theorem Wr.setg {g gl : Nat} {a b : World} (h : Wr g gl a b) (o : Nat) (vs : List Value) : Wr g gl a (b.setCells g o vs) := by
 have hk := World.keptBut_setCells g (may := fun _ => True) vs o b (fun _ _ => trivial)
 induction vs generalizing o b with
 | nil => exact h
 | cons v r ih =>
  refine ih (b := b.setCell ⟨g, o, none⟩ v) ⟨?_, ?_, ?_, ?_, ?_⟩ (o + 1) (World.keptBut_setCells g (may := fun _ => True) r (o + 1) _ (fun _ _ => trivial))
  ·exact h.os
  ·exact h.tape
  ·exact h.output
  ·show a.heap.size ≤ (b.setCell ⟨g, o, none⟩ v).heap.size
   simpa [World.setCell] using h.size
  ·intro k hk h1 h2
   rw [heap_setCell_other b _ k v h1]
   exact h.block k hk h1 h2
theorem Wr.setl {g gl : Nat} {a b : World} (h : Wr g gl a b) (o : Nat) (v : Value) : Wr g gl a (b.setCell ⟨gl, o, none⟩ v) :=
 ⟨h.os, h.tape, h.output, by simpa [World.setCell] using h.size, fun k hk h1 h2 => by
  rw [heap_setCell_other b _ k v h2]
  exact h.block k hk h1 h2⟩
theorem Wr.new {g gl : Nat} {a b : World} (h : Wr g gl a b) {z : Nat} (hz : a.heap.size ≤ z) (o : Nat) (v : Value) : Wr g gl a (b.setCell ⟨z, o, none⟩ v) :=
 ⟨h.os, h.tape, h.output, by simpa [World.setCell] using h.size, fun k hk h1 h2 => by
  rw [heap_setCell_other b _ k v (by show k ≠ z; omega)]
  exact h.block k hk h1 h2⟩
def up (d : List Nat) : List Int := d.map fun (x : Nat) => (x : Int)
theorem up_length (d : List Nat) : (up d).length = d.length := List.length_map ..
theorem up_at (d : List Nat) (k : Nat) (h : k < d.length) : (up d)[k]'(by rw [up_length]; exact h) = ((d.getD k 0 : Nat) : Int) := by
 unfold up
 rw [List.getElem_map, List.getD_eq_getElem?_getD, List.getElem?_eq_getElem h]
 rfl
theorem up_set (d : List Nat) (k v : Nat) : (up d).set k (v : Int) = up (d.set k v) := by
 unfold up
 rw [List.map_set]
theorem incs_next (d s : List Nat) (j : Nat) (h : j < s.length) : incs d (s.take (j + 1)) = (incs d (s.take j)).set s[j] ((incs d (s.take j)).getD s[j] 0 + 1) := by
 rw [List.take_add_one, List.getElem?_eq_getElem h]
 unfold incs
 rw [List.foldl_append]
 rfl
theorem incs_le (s : List Nat) : ∀ (d : List Nat) (j : Nat), (∀ k ∈ s, k < d.length) → (incs d s).getD j 0 ≤ d.getD j 0 + s.length := by
 unfold incs
 induction s with
 | nil => intro d j _; exact Nat.le_refl _
 | cons k s ih =>
  intro d j hk
  rw [List.foldl_cons]
  have h1 := ih (d.set k (d.getD k 0 + 1)) j (fun x hx => by rw [List.length_set]; exact hk x (List.mem_cons_of_mem _ hx))
  rw [getD_set _ _ _ _ (hk k (List.mem_cons_self ..))] at h1
  rw [List.length_cons]
  split at h1
  ·rename_i e
   subst e
   omega
  ·omega
theorem sym_one {W : World} {v : Value} {s : List Nat} (h : Sym W v s) : v.oneCell' = true := by
 obtain ⟨g, cap, _, rfl, _⟩ := h
 rfl
theorem first_mt (m : List MT) (hl : least (mt m) m.length < m.length) : (m[least (mt m) m.length]).1 = first (mt m) := by
 unfold first at0
 rw [mt_length, List.getD_eq_getElem?_getD]
 unfold mt
 rw [List.getElem?_map, List.getElem?_eq_getElem (by unfold mt at hl; exact hl)]
 rfl
theorem erase_map : ∀ (m : List MT) (i : Nat), (m.eraseIdx i).map (fun x => x.fst) = (m.map fun x => x.fst).eraseIdx i
 | [], _ => rfl
 | _ :: _, 0 => rfl
 | x :: m, i + 1 => by
  rw [List.eraseIdx_cons_succ, List.map_cons, List.map_cons, List.eraseIdx_cons_succ, erase_map m i]
theorem rest_mt (m : List MT) : mt (m.eraseIdx (least (mt m) m.length)) = rest1 (mt m) := by
 unfold rest1
 rw [mt_length]
 unfold mt
 rw [erase_map]
set_option maxRecDepth 100000 in
set_option maxHeartbeats 2000000 in
theorem take_any (g gl k cap n capl : Nat) (m : List MT) (d : List Nat) (cur : Array Value) (w : World) (hn : m.length = k + 1) (hc : k + 1 ≤ cap) (h257 : k ≤ 256) (hb : w.heap[g]? = some (.cells cur 137 (0, 0))) (hs : cur.size = cap * 2) (ht : cur.toList.take ((k + 1) * 2) = cells m)
  (hy : Syms w m) (hsl : ∀ x ∈ m, x.1.2.length ≤ 257) (hlt : ∀ x ∈ m, ∀ s ∈ x.1.2, s < d.length) (hd : IsI w gl 2 (up d)) (hdn : d.length = n) (hdm : ∀ j, d.getD j 0 ≤ 3000000) (x : MT) (hx : m[least (mt m) (k + 1)]? = some x) :
  Calls Tryz.prog 110 #[.slice (some ⟨g, 0, none⟩) (k + 1) cap, .slice (some ⟨gl, 0, none⟩) n capl] w fun e w' =>
   e = .returned (.tuple #[.agg #[.int .i64 (x.1.1 : Nat), x.2], .slice (some ⟨g, 0, none⟩) k cap]) ∧ (∃ cur' : Array Value, w'.heap[g]? = some (.cells cur' 137 (0, 0)) ∧ cur'.size = cap * 2 ∧ cur'.toList.take (k * 2) = cells (m.eraseIdx (least (mt m) (k + 1)))) ∧ IsI w' gl 2 (up (incs d x.1.2)) ∧ Wr g gl w w' := by
 have hgl : g ≠ gl := by
  rintro rfl
  have := hd
  unfold IsI at this
  rw [hb] at this
  simp at this
 obtain ⟨hal, hxe⟩ := List.getElem?_eq_some_iff.1 hx
 have hle := least_le (mt m) (k + 1)
 have HDL := hideH (fun (W : World) (cur' : Array Value) h1 h2 h3 h4 => delete_any g k cap (least (mt m) (k + 1)) m cur' W hn (by omega) hc (by omega) h1 h2 h3 h4)
 have HGO := hideH (fun (cur' : Array Value) h1 h2 => gone_list cur' m (k + 1) cap (least (mt m) (k + 1)) hn (by omega) hc h1 h2 (.int .i64 0) (.slice none 0 0))
 have HER : Hid ((m.eraseIdx (least (mt m) (k + 1))).length = k) := by
  unfold Hid
  rw [List.length_eraseIdx, if_pos hal, hn]
  omega
 have HLE := hideH (fun (W : World) (h : Below w.heap.size w W) => least_any g (k + 1) cap m cur _ W hn (by omega) (by omega) ((h.block g (lt_row hb)).trans hb) (by rw [hn]; exact ht))
 have HROW := hideH (fun (W : World) (h : W.heap[g]? = some (.cells cur 137 (0, 0))) => row_at (m := m) h (by rw [hn]; exact ht) _ hal)
 rw [hxe] at HROW
 have hxm : x ∈ m := by rw [← hxe]; exact List.getElem_mem hal
 have HO1 := hideH (fun (y : MT) (hy' : y ∈ m) => sym_one (hy y hy'))
 have hsx := hy x hxm
 have hxl := hsl x hxm
 have hxt := hlt x hxm
 have HHT := hideH ht
 have HHS := hideH hs
 generalize least (mt m) (k + 1) = at_ at HDL HGO HER HLE HROW hle ⊢
 clear hx hxe hal hxm hsl hlt hy ht hs hn
 obtain ⟨⟨xw, xs⟩, xv⟩ := x
 simp only at HROW hsx hxl hxt ⊢
 obtain ⟨gs, cs, sc, rfl, hgs, hsc, hsv⟩ := hsx
 have hgsl : gs ≠ gl := by
  rintro rfl
  have := hd
  unfold IsI at this
  rw [hgs] at this
  simp at this
 have hdl := hd.lt
 have hgsz := lt_row hgs
 have hgz := lt_row hb
 have HXT := hideH hxt
 have HDN := hideH hdn
 have HDM := hideH hdm
 have HIN := hideH (fun j => incs_le (xs.take j) d)
 have HSV := hideH hsv
 obtain ⟨sl, hsl⟩ : ∃ sl, sl = xs.length := ⟨_, rfl⟩
 have HSL := hideH hsl
 rw [← hsl] at hxl hsc HROW ⊢
 clear hsl hxt hdn hdm hsv
 go_enter Tryz.func110, Tryz.ntmps110
 go_wp2_with fail
 have HB0 := hideH ((Below.refl w.heap.size w).alloc (Nat.le_refl _) (.cells #[.int .i64 0, .slice none 0 0] 137))
 refine (HLE.out _ HB0.out).mono ?_
 rintro e w1 ⟨rfl, hb1⟩
 have hz1 : w.heap.size + 1 ≤ w1.heap.size := by have := hb1.size; simpa using this
 have HB1 := hideH (HB0.out.trans (hb1.mono (by simp)))
 have HR1 : Hid (w1.heap[w.heap.size]? = some (.cells #[.int .i64 0, .slice none 0 0] 137 (0, 0))) := (hb1.block w.heap.size (by simp)).trans (heap_alloc_new w _)
 have HG1 := hideH ((HB1.out.block g hgz).trans hb)
 obtain ⟨r0, r1⟩ := HROW.out w1 HG1.out
 have ga : (at_ : Int) < (k : Int) + 1 := by omega
 clear hb1
 go_wp2_with fail
 have HW2 := hideH (show Below w1.heap.size w1 (w1.alloc (.cells #[.int .i64 (xw : Nat), .slice (some ⟨gs, 0, none⟩) sl cs] 137)) from (Below.refl _ _).alloc (Nat.le_refl _) _)
 have HR2 := hideH ((HW2.out.block w.heap.size (by omega)).trans HR1.out)
 have HG2 := hideH ((HW2.out.block g (by omega)).trans HG1.out)
 have HV2 : Hid ((w1.alloc (.cells #[.int .i64 (xw : Nat), .slice (some ⟨gs, 0, none⟩) sl cs] 137)).heap[w1.heap.size]? = some (.cells #[.int .i64 (xw : Nat), .slice (some ⟨gs, 0, none⟩) sl cs] 137 (0, 0))) := heap_alloc_new w1 _
 have HS2 := hideH ((HW2.out.block gs (by omega)).trans ((HB1.out.block gs hgsz).trans hgs))
 have HD2 : Hid (IsI (w1.alloc (.cells #[.int .i64 (xw : Nat), .slice (some ⟨gs, 0, none⟩) sl cs] 137)) gl 2 (up d)) := (hd.below HB1.out hdl).below HW2.out (by omega)
 have HB2 := hideH (HB1.out.trans (HW2.out.mono (by omega)))
 have hz2 : (w1.alloc (.cells #[.int .i64 (xw : Nat), .slice (some ⟨gs, 0, none⟩) sl cs] 137)).heap.size = w1.heap.size + 1 := by simp
 generalize w1.alloc (.cells #[.int .i64 (xw : Nat), .slice (some ⟨gs, 0, none⟩) sl cs] 137) = w2 at HW2 HR2 HG2 HV2 HS2 HD2 HB2 hz2 ⊢
 have HD0 : Hid (IsI w2 gl 2 (up (incs d (xs.take 0)))) := HD2.out
 clear r0 r1 hd hb hgs HLE
 go_loopw [19, 9] (fun iv _ wr => ∃ j : Nat, iv = .int .i64 j ∧ j ≤ sl ∧ IsI wr gl 2 (up (incs d (xs.take j))) ∧ Wr gl gl w2 wr) (fun iv _ _ => sl - (intOf iv).toNat)
 case atStart => exact ⟨0, rfl, Nat.zero_le _, HD0.out, Wr.refl _ _ _⟩
 case round =>
  obtain ⟨j, rfl, hj, hdj, hwr⟩ := hrel
  have HDJ := hideH hdj
  have HWR := hideH hwr
  clear hdj hwr
  by_cases hlt : j < sl
  ·have hjx : j < xs.length := by rw [← HSL.out]; exact hlt
   have cs0 : wr.cell? ⟨gs, j, none⟩ = some (.int .i64 (xs[j] : Nat)) := (cell_of_row wr gs j _ _ _ ((HWR.out.block gs (by omega) hgsl hgsl).trans HS2.out)).trans (HSV.out j hjx)
   have hsy := HXT.out xs[j] (List.getElem_mem hjx)
   have HNX := hideH (incs_next d xs j hjx)
   have HBD := hideH (HIN.out j xs[j] (fun s hs => HXT.out s (List.mem_of_mem_take hs)))
   have HBM := hideH (HDM.out xs[j])
   generalize xs[j] = sy at cs0 hsy HNX HBD HBM
   have hlen : sy < (incs d (xs.take j)).length := by rw [incs_length]; exact hsy
   have cl0 : wr.cell? ⟨gl, sy, none⟩ = some (.int .i64 (((incs d (xs.take j)).getD sy 0 : Nat) : Int)) := by
    rw [HDJ.out.cell (j := sy) (by rw [up_length]; exact hlen), up_at _ _ hlen]
   have zl0 := HDJ.out.frozen sy
   have hsn : (sy : Int) < n := by have := HDN.out; omega
   have HTL : Hid ((xs.take j).length ≤ 257) := by
    unfold Hid
    rw [List.length_take]
    omega
   obtain ⟨dv, hdv⟩ : ∃ dv, dv = (incs d (xs.take j)).getD sy 0 := ⟨_, rfl⟩
   have hdvb : dv ≤ 3000257 := by have h1 := HBD.out; have h2 := HBM.out; have h3 := HTL.out; omega
   have HDV := hideH hdv
   rw [← hdv] at cl0
   clear hdv hjx hsy hlen HBD HBM HTL
   go_wp2_with fail
   go_roundw
   case rel =>
    refine ⟨j + 1, by go_num, by omega, ?_, HWR.out.setl _ _⟩
    have := HDJ.out.set sy ((dv : Int) + 1)
    rw [HNX.out, ← HDV.out, ← up_set]
    exact this
   case measure => simp [intOf]; omega
  ·obtain rfl : j = sl := by omega
   have HDE : Hid (IsI wr gl 2 (up (incs d xs))) := by
    have := HDJ.out
    rw [HSL.out, List.take_length] at this
    exact this
   have hzw := HWR.out.size
   have HV := hideH ((HWR.out.block w1.heap.size (by omega) (by omega) (by omega)).trans HV2.out)
   have HR := hideH ((HWR.out.block w.heap.size (by omega) (by omega) (by omega)).trans HR2.out)
   have HG := hideH ((HWR.out.block g (by omega) hgl hgl).trans HG2.out)
   have HWW : Hid (Wr g gl w wr) := ⟨HWR.out.os.trans HB2.out.os, HWR.out.tape.trans HB2.out.tape, HWR.out.output.trans HB2.out.output, by omega, fun b h1 h2 h3 => (HWR.out.block b (by omega) h3 h3).trans (HB2.out.block b h1)⟩
   have c70 : wr.cell? ⟨w1.heap.size, 0, none⟩ = some (.int .i64 (xw : Nat)) := cell_of_row wr _ 0 _ _ _ HV.out
   have c71 : wr.cell? ⟨w1.heap.size, 1, none⟩ = some (.slice (some ⟨gs, 0, none⟩) j cs) := cell_of_row wr _ 1 _ _ _ HV.out
   have HK : Hid (∀ w5 : World, w5 = (wr.drew.drew.setCells g (0 + at_ * 2) (cells (m.drop (at_ + 1)))).setCells g (k * 2) [.int .i64 0, .slice none 0 0] → Wr g gl wr w5 ∧ ∃ cur' : Array Value, w5.heap[g]? = some (.cells cur' 137 (0, 0)) ∧ cur'.size = cap * 2 ∧ cur'.toList.take (k * 2) = cells (m.eraseIdx at_)) := by
    rintro w5 rfl
    refine ⟨((Wr.of (show Below wr.heap.size wr wr.drew.drew from (Below.refl _ _).drew.drew)).setg _ _).setg _ _, _, lays_heap g _ _ _ _ _ (lays_heap g _ _ _ _ _ HG.out), by rw [lays_size, lays_size]; exact HHS.out, ?_⟩
    have := HGO.out cur HHS.out HHT.out
    rw [HER.out, Nat.add_sub_cancel] at this
    rw [Nat.zero_add]
    exact this
   have HKE : Hid (∀ w5 : World, Wr g gl wr w5 → w5.heap[w.heap.size]? = some (.cells #[.int .i64 0, .slice none 0 0] 137 (0, 0)) ∧ w5.heap[w1.heap.size]? = some (.cells #[.int .i64 (xw : Nat), .slice (some ⟨gs, 0, none⟩) j cs] 137 (0, 0))) := fun w5 h =>
    ⟨(h.block w.heap.size (by omega) (by omega) (by omega)).trans HR.out, (h.block w1.heap.size (by omega) (by omega) (by omega)).trans HV.out⟩
   have HDK : Hid (∀ w5 : World, Wr g g wr w5 → IsI w5 gl 2 (up (incs d xs))) := fun w5 h => by
    unfold IsI
    rw [h.block gl (by omega) (fun e => hgl e.symm) (fun e => hgl e.symm)]
    exact HDE.out
   have HKG : Hid (∀ w5 : World, w5 = (wr.drew.drew.setCells g (0 + at_ * 2) (cells (m.drop (at_ + 1)))).setCells g (k * 2) [.int .i64 0, .slice none 0 0] → Wr g g wr w5) := by
    rintro w5 rfl
    exact ((Wr.of (show Below wr.heap.size wr wr.drew.drew from (Below.refl _ _).drew.drew)).setg _ _).setg _ _
   have ga1 : IntKind.i64.wrap ((at_ : Int) + 1) = (at_ : Int) + 1 := by rw [IntKind.wrap_i64]; omega
   clear HDJ HGO HER HXT HIN HSV HROW HV2 HR2 HG2 HS2 HD2 HD0 HB0 HB1 HR1 HG1 HW2
   go_wp2_with fail
   go_region_with (first | (go_at_call 139; (with_reducible refine (HDL.out _ cur ?_ HHS.out HHT.out HO1.out).mono ?_); (· exact HG.out); rintro e w5 ⟨rfl, hw5⟩; obtain ⟨hw5a, cur', hg5, hs5, ht5⟩ := HK.out w5 hw5; have HWA := hideH hw5a; have HG5 := hideH hg5; have HS5 := hideH hs5; have HT5 := hideH ht5; have HD5 := hideH (HDK.out w5 (HKG.out w5 hw5)); obtain ⟨hr5, hv5⟩ := HKE.out w5 hw5a; have c00 := cell_of_row w5 _ 0 _ _ _ hr5; have c01 := cell_of_row w5 _ 1 _ _ _ hr5; have z00 := frozen_of_row w5 _ 0 _ _ hr5; have z01 := frozen_of_row w5 _ 1 _ _ hr5; have d70 := cell_of_row w5 _ 0 _ _ _ hv5; have d71 := cell_of_row w5 _ 1 _ _ _ hv5; simp at c00 c01 d70 d71; clear hw5 hw5a hg5 hs5 ht5 hr5 hv5))
   all_goals (try go_wp2_with fail)
   all_goals exact bodyPost_ret (v := .tuple #[.agg #[.int .i64 (xw : Nat), .slice (some ⟨gs, 0, none⟩) j cs], .slice (some ⟨g, 0, none⟩) k cap]) (by simp [results, Tryz.results110, go_sem, c00, c01]) rfl ⟨rfl, ⟨cur', by rw [heap_setCell_other _ _ _ _ (by show g ≠ w.heap.size; omega), heap_setCell_other _ _ _ _ (by show g ≠ w.heap.size; omega)]; exact HG5.out, HS5.out, HT5.out⟩, (HD5.out.set_other _ _ (by show gl ≠ w.heap.size; omega)).set_other _ _ (by show gl ≠ w.heap.size; omega), ((HWW.out.trans HWA.out).new (Nat.le_refl _) _ _).new (Nat.le_refl _) _ _⟩
end Go.Proofs.YthbpenanelbbcaaGreatDoor.Hf

