/- Texts put together: IntRow, IntLaws, IntMark, IntOwn. -/
import Derived.Test.YtmeohaiidmmgkaaGreatDoorKz7
import Derived.Test.YtmeohaiidmmgkaaGreatDoorKz1
import Derived.BigRegion
import Derived.BigQuiet
import Derived.Deep.QuietTactic
import Derived.Test.YtmeohaiidmmgkaaGreatDoorKz14
import Derived.Laws.AppendOwn
/- Rows of numbers in memory: as a slice that came in sees them, and as a block of the call's own. -/
namespace Go.Proofs.YtmeohaiidmmgkaaGreatDoor.In
open Go.RowKit
theorem hideI {p : Prop} (h : p) : Hid p := h
def Ints (w : World) (B : Nat) (a : Option Addr) (l : List Int) : Prop :=
 l = [] ∨ ∃ b off, a = some ⟨b, off, none⟩ ∧ b < B ∧ ∀ j (h : j < l.length), w.cell? ⟨b, off + j, none⟩ = some (.int .i64 l[j])
theorem Ints.below {w w' : World} {B : Nat} {a : Option Addr} {l : List Int} (h : Ints w B a l) (hb : Below B w w') : Ints w' B a l := by
 rcases h with h0 | ⟨b, off, rfl, hlt, hc⟩
 ·exact .inl h0
 ·exact .inr ⟨b, off, rfl, hlt, fun j hj => (hb.cell (p := ⟨b, off + j, none⟩) hlt).trans (hc j hj)⟩
theorem Ints.mono {w : World} {B C : Nat} {a : Option Addr} {l : List Int} (h : Ints w B a l) (hBC : B ≤ C) : Ints w C a l := by
 rcases h with h0 | ⟨b, off, rfl, hlt, hc⟩
 ·exact .inl h0
 ·exact .inr ⟨b, off, rfl, Nat.lt_of_lt_of_le hlt hBC, hc⟩
theorem Ints.after {w w' : World} {B C : Nat} {a : Option Addr} {l : List Int} (h : Ints w B a l) (hb : Below C w w') (hBC : B ≤ C) : Ints w' B a l := by
 rcases h with h0 | ⟨b, off, rfl, hlt, hc⟩
 ·exact .inl h0
 ·exact .inr ⟨b, off, rfl, hlt, fun j hj => (hb.cell (p := ⟨b, off + j, none⟩) (Nat.lt_of_lt_of_le hlt hBC)).trans (hc j hj)⟩
theorem Ints.some {w : World} {B : Nat} {a : Option Addr} {l : List Int} (h : Ints w B a l) (hl : 0 < l.length) :
  ∃ b off, a = .some ⟨b, off, none⟩ ∧ b < B ∧ ∀ j (h : j < l.length), w.cell? ⟨b, off + j, none⟩ = .some (.int .i64 l[j]) := by
 rcases h with h0 | h
 ·subst h0; simp at hl
 ·exact h
theorem Ints.take {w : World} {B b off k : Nat} {l : List Int} (hB : b < B) (hc : ∀ j (h : j < l.length), w.cell? ⟨b, off + j, none⟩ = .some (.int .i64 l[j])) : Ints w B (.some ⟨b, off, none⟩) (l.take k) :=
 .inr ⟨b, off, rfl, hB, fun j hj => by
  have h1 : j < l.length := Nat.lt_of_lt_of_le hj (List.length_take_le' k l)
  rw [hc j h1, List.getElem_take]⟩
theorem Ints.drop {w : World} {B b off k : Nat} {l : List Int} (hB : b < B) (hc : ∀ j (h : j < l.length), w.cell? ⟨b, off + j, none⟩ = .some (.int .i64 l[j])) : Ints w B (.some ⟨b, off + k, none⟩) (l.drop k) :=
 .inr ⟨b, off + k, rfl, hB, fun j hj => by
  rw [List.length_drop] at hj
  rw [List.getElem_drop, ← hc (k + j) (by omega)]
  congr 2
  omega⟩
def irow (l : List Int) : Array Value := (l.map (Value.int .i64)).toArray
def IsI (w : World) (g : Nat) (t : TypeId) (l : List Int) : Prop := w.heap[g]? = some (.cells (irow l) t (0, 0))
theorem irow_get (l : List Int) (j : Nat) (h : j < l.length) : (irow l)[j]? = some (.int .i64 l[j]) := by simp [irow, h]
theorem irow_set (l : List Int) (i : Nat) (s : Int) : (irow l).setIfInBounds i (.int .i64 s) = irow (l.set i s) := by
 simp [irow, List.map_set]
theorem IsI.cell {w : World} {g t : Nat} {l : List Int} (h : IsI w g t l) {j : Nat} (hj : j < l.length) : w.cell? ⟨g, j, none⟩ = some (.int .i64 l[j]) := by
 rw [cell_of_row w g j _ t (0, 0) h, irow_get l j hj]
theorem IsI.frozen {w : World} {g t : Nat} {l : List Int} (h : IsI w g t l) (j : Nat) : w.frozen? ⟨g, j, none⟩ = false := frozen_of_row w g j _ t h
theorem IsI.set {w : World} {g t : Nat} {l : List Int} (h : IsI w g t l) (i : Nat) (s : Int) : IsI (w.setCell ⟨g, i, none⟩ (.int .i64 s)) g t (l.set i s) := by
 unfold IsI
 rw [heap_setCell_same w g i _ t _ h, irow_set]
theorem IsI.lt {w : World} {g t : Nat} {l : List Int} (h : IsI w g t l) : g < w.heap.size := (Array.getElem?_eq_some_iff.1 h).1
theorem IsI.below {w w' : World} {g t B : Nat} {l : List Int} (h : IsI w g t l) (b : Below B w w') (hg : g < B) : IsI w' g t l := by
 unfold IsI
 rw [b.block g hg]
 exact h
def mid (l : List Int) (k : Nat) : List Int := l.take k ++ List.replicate (l.length - k) 0
theorem mid_length (l : List Int) (k : Nat) (h : k ≤ l.length) : (mid l k).length = l.length := by simp [mid]; omega
theorem mid_zero (l : List Int) : mid l 0 = List.replicate l.length 0 := by simp [mid]
theorem mid_all (l : List Int) : mid l l.length = l := by simp [mid]
theorem mid_next (l : List Int) (k : Nat) (h : k < l.length) : (mid l k).set k l[k] = mid l (k + 1) := by
 apply List.ext_getElem?
 intro i
 unfold mid
 rw [List.getElem?_set]
 have hl : (l.take k).length = k := by simp; omega
 have hl' : (l.take (k + 1)).length = k + 1 := by simp; omega
 by_cases e : k = i
 ·subst e
  rw [if_pos rfl, if_pos (by simp; omega), List.getElem?_append_left (by omega), List.getElem?_take_of_lt (by omega), List.getElem?_eq_getElem h]
 ·rw [if_neg e]
  by_cases hi : i < k
  ·rw [List.getElem?_append_left (by omega), List.getElem?_append_left (by omega), List.getElem?_take_of_lt hi, List.getElem?_take_of_lt (by omega)]
  ·rw [List.getElem?_append_right (by omega), List.getElem?_append_right (by omega), hl, hl', List.getElem?_replicate, List.getElem?_replicate]
   have : (i - k < l.length - k) = (i - (k + 1) < l.length - (k + 1)) := propext ⟨fun h => by omega, fun h => by omega⟩
   simp only [this]
end Go.Proofs.YtmeohaiidmmgkaaGreatDoor.In


/- The laws' own helpers on rows of numbers: the budget of their sizes, and whether two are alike. -/
namespace Go.Proofs.YtmeohaiidmmgkaaGreatDoor.In
open Go.RowKit
theorem ret_bool {a b : Bool} (h : a = b) : Ending.returned (.bool a) = .returned (.bool b) := by rw [h]
set_option maxRecDepth 100000 in
set_option maxHeartbeats 1000000 in
/-- two rows of the same numbers are alike -/
theorem eq_any (a b : Option Addr) (cap cap' : Nat) (l : List Int) (w : World) (B : Nat) (ha : Ints w B a l) (hb : Ints w B b l) (hn : l.length ≤ 1048576) :
  Calls Tryz.prog 26 #[.slice a l.length cap, .slice b l.length cap'] w fun e w' => e = .returned (.bool true) ∧ Below w.heap.size w w' := by
 have HA := hideI ha
 have HB := hideI hb
 clear ha hb
 obtain ⟨n, hln⟩ : ∃ n, n = l.length := ⟨_, rfl⟩
 have HLN := hideI hln
 rw [← hln] at hn ⊢
 clear hln
 go_enter Tryz.func26, Tryz.ntmps26
 go_wp2_with fail
 go_loopw [5] (fun i wr => ∃ k : Nat, i = .int .i64 k ∧ k ≤ n ∧ (∀ p : Addr, wr.cell? p = w.cell? p) ∧ Below w.heap.size w wr) (fun i _ => n - (intOf i).toNat)
 case atStart => exact ⟨0, rfl, by omega, fun _ => rfl, Below.refl _ _⟩
 case round =>
  obtain ⟨k, rfl, hk, hcell, hbel⟩ := hrel
  have HC := hideI hcell
  have GB := hideI hbel
  by_cases hlt : k < n
  ·have hkl : k < l.length := by rw [← HLN.out]; exact hlt
   obtain ⟨b1, off1, rfl, _, hc1⟩ := HA.out.some (by omega)
   obtain ⟨b2, off2, rfl, _, hc2⟩ := HB.out.some (by omega)
   have c1 := (hcell _).trans (hc1 k hkl)
   have c2 := (hcell _).trans (hc2 k hkl)
   obtain ⟨s, hs⟩ : ∃ s, s = l[k] := ⟨_, rfl⟩
   rw [← hs] at c1 c2
   clear hc1 hc2 hcell hbel hs
   go_wp2_with fail
   go_region
   all_goals (try go_wp2_with fail)
   all_goals go_roundw
   case rel => exact ⟨k + 1, by go_num, by omega, fun p => HC.out p, GB.out.drew⟩
   case measure => simp [intOf]; omega
  ·clear hcell hbel
   go_wp2_with fail
   go_ret
   exact ⟨rfl, GB.out⟩
end Go.Proofs.YtmeohaiidmmgkaaGreatDoor.In


/- The laws' marks in rows of numbers: written, and found again. -/
namespace Go.Proofs.YtmeohaiidmmgkaaGreatDoor.In
open Go.RowKit
open Go.Proofs.YtmeohaiidmmgkaaGreatDoor.St (Aft)
def IsO (w : World) (g t : Nat) (l : List Int) : Prop := ∃ cur : Array Value, w.heap[g]? = some (.cells cur t (0, 0)) ∧ ∀ j (h : j < l.length), cur[j]? = some (.int .i64 l[j])
theorem IsO.cell {w : World} {g t : Nat} {l : List Int} (h : IsO w g t l) {j : Nat} (hj : j < l.length) : w.cell? ⟨g, j, none⟩ = some (.int .i64 l[j]) := by
 obtain ⟨cur, hb, hc⟩ := h
 rw [cell_of_row w g j _ t (0, 0) hb, hc j hj]
theorem IsO.frozen {w : World} {g t : Nat} {l : List Int} (h : IsO w g t l) (j : Nat) : w.frozen? ⟨g, j, none⟩ = false := by
 obtain ⟨cur, hb, _⟩ := h
 exact frozen_of_row w g j _ t hb
theorem IsO.set {w : World} {g t : Nat} {l : List Int} (h : IsO w g t l) (i : Nat) (s : Int) : IsO (w.setCell ⟨g, i, none⟩ (.int .i64 s)) g t (l.set i s) := by
 obtain ⟨cur, hb, hc⟩ := h
 refine ⟨_, heap_setCell_same w g i _ t _ hb, fun j hj => ?_⟩
 rw [List.length_set] at hj
 rw [Array.getElem?_setIfInBounds, List.getElem_set]
 have hlt : j < cur.size := (Array.getElem?_eq_some_iff.1 (hc j hj)).1
 by_cases e : i = j
 ·subst e
  simp [hlt]
 ·simp [e, hc j hj]
theorem IsO.lt {w : World} {g t : Nat} {l : List Int} (h : IsO w g t l) : g < w.heap.size := by
 obtain ⟨cur, hb, _⟩ := h
 exact (Array.getElem?_eq_some_iff.1 hb).1
theorem IsO.of_heap {w w' : World} {g t : Nat} {l : List Int} (h : IsO w g t l) (e : w'.heap[g]? = w.heap[g]?) : IsO w' g t l := by
 obtain ⟨cur, hb, hc⟩ := h
 exact ⟨cur, by rw [e]; exact hb, hc⟩
theorem IsO.below {w w' : World} {g t B : Nat} {l : List Int} (h : IsO w g t l) (b : Below B w w') (hg : g < B) : IsO w' g t l := h.of_heap (b.block g hg)
theorem IsI.own {w : World} {g t : Nat} {l : List Int} (h : IsI w g t l) : IsO w g t l := ⟨irow l, h, fun j hj => irow_get l j hj⟩
def marks (k n : Nat) : List Int := (List.range n).map fun j => ((k + j : Nat) : Int)
def mmid (l : List Int) (k i : Nat) : List Int := marks k i ++ l.drop i
end Go.Proofs.YtmeohaiidmmgkaaGreatDoor.In


/- Rows of numbers that a call has made and owns: nil, or a block of its own whose head they are. -/
namespace Go.Proofs.YtmeohaiidmmgkaaGreatDoor.In
open Go.RowKit
open Go.Proofs.YtmeohaiidmmgkaaGreatDoor.St (Aft)
def OwnI (w : World) (base : Nat) (v : Value) (l : List Int) : Prop := w.ownsRow base 2 1 v l.length (l.map (Value.int .i64))
theorem OwnI.nil (w : World) (base : Nat) : OwnI w base (.slice none 0 0) [] := World.ownsRow_nil w base _ _
theorem OwnI.split {w : World} {base : Nat} {v : Value} {l : List Int} (h : OwnI w base v l) :
  (v = .slice none 0 0 ∧ l = []) ∨ ∃ g cap, v = .slice (some ⟨g, 0, none⟩) l.length cap ∧ base ≤ g ∧ l.length ≤ cap ∧ IsO w g 2 l := by
 obtain ⟨_, h⟩ := h
 rcases h with ⟨h, h0⟩ | ⟨g, cap, cur, hv, hg, hb, hnc, _, hsz, htk⟩
 ·exact .inl ⟨h, List.eq_nil_of_length_eq_zero h0⟩
 ·refine .inr ⟨g, cap, hv, hg, hnc, cur, hb, fun j hj => ?_⟩
  rw [← Array.getElem?_toList]
  have h1 : cur.toList[j]? = (cur.toList.take (l.length * 1))[j]? := by rw [List.getElem?_take_of_lt (by omega)]
  rw [h1, htk]
  simp [hj]
theorem OwnI.below {w w' : World} {base : Nat} {v : Value} {l : List Int} (h : OwnI w base v l) (b : Below w.heap.size w w') : OwnI w' base v l := by
 obtain ⟨hl, h⟩ := h
 refine ⟨hl, ?_⟩
 rcases h with h | ⟨g, cap, cur, hv, hg, hb, rest⟩
 ·exact .inl h
 ·exact .inr ⟨g, cap, cur, hv, hg, by rw [b.block g (Array.getElem?_eq_some_iff.1 hb).1]; exact hb, rest⟩
theorem OwnI.mono {w : World} {base base' : Nat} {v : Value} {l : List Int} (h : OwnI w base v l) (hb : base' ≤ base) : OwnI w base' v l := by
 obtain ⟨hl, h⟩ := h
 refine ⟨hl, ?_⟩
 rcases h with h | ⟨g, cap, cur, hv, hg, rest⟩
 ·exact .inl h
 ·exact .inr ⟨g, cap, cur, hv, Nat.le_trans hb hg, rest⟩
theorem OwnI.snoc {w : World} {base : Nat} {v : Value} {l : List Int} {s : Int} (h : w.ownsRow base 2 1 v (l.length + 1) (l.map (Value.int .i64) ++ [.int .i64 s])) : OwnI w base v (l ++ [s]) := by
 unfold OwnI
 rw [List.length_append, List.map_append]
 exact h
theorem app_one {B base : Nat} {e : TypeId} {w0 w w1 : World} {v : Value} {n size : Nat} {xs : List Value} {o : Obj} (hbel : Below B w0 w) (hB : B ≤ w.heap.size) (hBb : B ≤ base)
  (hown : w.ownsRow base e size v n xs) (hgrow : (w.alloc o).grownBy w1 v.ownBlock) : Below B w0 w1 := by
 refine (hbel.alloc hB o).grown hgrow (by simp; omega) ?_
 intro k hk
 exact Nat.le_trans hBb (hown.lt k hk).1
end Go.Proofs.YtmeohaiidmmgkaaGreatDoor.In

