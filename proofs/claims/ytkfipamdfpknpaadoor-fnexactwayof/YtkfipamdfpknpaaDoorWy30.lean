/- Texts put together: IntRow, IntLaws. -/
import Derived.Test.YtkfipamdfpknpaaDoorWy9
import Derived.Test.YtkfipamdfpknpaaDoorWy1
import Derived.BigRegion
import Derived.BigQuiet
import Derived.Deep.QuietTactic
/- Rows of numbers in memory: as a slice that came in sees them, and as a block of the call's own. -/
namespace Go.Proofs.YtkfipamdfpknpaaDoor.In
open Go.RowKit
theorem hideI {p : Prop} (h : p) : Hid p := h
def Ints (w : World) (B : Nat) (a : Option Addr) (l : List Int) : Prop :=
 l = [] ∨ ∃ b off, a = some ⟨b, off, none⟩ ∧ b < B ∧ ∀ j (h : j < l.length), w.cell? ⟨b, off + j, none⟩ = some (.int .i64 l[j])
theorem Ints.below {w w' : World} {B : Nat} {a : Option Addr} {l : List Int} (h : Ints w B a l) (hb : Below B w w') : Ints w' B a l := by
 rcases h with h0 | ⟨b, off, rfl, hlt, hc⟩
 ·exact .inl h0
 ·exact .inr ⟨b, off, rfl, hlt, fun j hj => (hb.cell (p := ⟨b, off + j, none⟩) hlt).trans (hc j hj)⟩
theorem Ints.mono {w : World} {B C : Nat} {a : Option Addr} {l : List Int} (h : Ints w B a l) (hBC : B ≤ C) : Ints w C a l := by
 rcases h with h0 | ⟨b, off, rfl, hlt, hc⟩
 ·exact .inl h0
 ·exact .inr ⟨b, off, rfl, Nat.lt_of_lt_of_le hlt hBC, hc⟩
theorem Ints.after {w w' : World} {B C : Nat} {a : Option Addr} {l : List Int} (h : Ints w B a l) (hb : Below C w w') (hBC : B ≤ C) : Ints w' B a l := by
 rcases h with h0 | ⟨b, off, rfl, hlt, hc⟩
 ·exact .inl h0
 ·exact .inr ⟨b, off, rfl, hlt, fun j hj => (hb.cell (p := ⟨b, off + j, none⟩) (Nat.lt_of_lt_of_le hlt hBC)).trans (hc j hj)⟩
theorem Ints.some {w : World} {B : Nat} {a : Option Addr} {l : List Int} (h : Ints w B a l) (hl : 0 < l.length) :
  ∃ b off, a = .some ⟨b, off, none⟩ ∧ b < B ∧ ∀ j (h : j < l.length), w.cell? ⟨b, off + j, none⟩ = .some (.int .i64 l[j]) := by
 rcases h with h0 | h
 ·subst h0; simp at hl
 ·exact h
theorem Ints.take {w : World} {B b off k : Nat} {l : List Int} (hB : b < B) (hc : ∀ j (h : j < l.length), w.cell? ⟨b, off + j, none⟩ = .some (.int .i64 l[j])) : Ints w B (.some ⟨b, off, none⟩) (l.take k) :=
 .inr ⟨b, off, rfl, hB, fun j hj => by
  have h1 : j < l.length := Nat.lt_of_lt_of_le hj (List.length_take_le' k l)
  rw [hc j h1, List.getElem_take]⟩
theorem Ints.drop {w : World} {B b off k : Nat} {l : List Int} (hB : b < B) (hc : ∀ j (h : j < l.length), w.cell? ⟨b, off + j, none⟩ = .some (.int .i64 l[j])) : Ints w B (.some ⟨b, off + k, none⟩) (l.drop k) :=
 .inr ⟨b, off + k, rfl, hB, fun j hj => by
  rw [List.length_drop] at hj
  rw [List.getElem_drop, ← hc (k + j) (by omega)]
  congr 2
  omega⟩
def irow (l : List Int) : Array Value := (l.map (Value.int .i64)).toArray
def IsI (w : World) (g : Nat) (t : TypeId) (l : List Int) : Prop := w.heap[g]? = some (.cells (irow l) t (0, 0))
theorem irow_get (l : List Int) (j : Nat) (h : j < l.length) : (irow l)[j]? = some (.int .i64 l[j]) := by simp [irow, h]
theorem irow_set (l : List Int) (i : Nat) (s : Int) : (irow l).setIfInBounds i (.int .i64 s) = irow (l.set i s) := by
 simp [irow, List.map_set]
theorem IsI.cell {w : World} {g t : Nat} {l : List Int} (h : IsI w g t l) {j : Nat} (hj : j < l.length) : w.cell? ⟨g, j, none⟩ = some (.int .i64 l[j]) := by
 rw [cell_of_row w g j _ t (0, 0) h, irow_get l j hj]
theorem IsI.frozen {w : World} {g t : Nat} {l : List Int} (h : IsI w g t l) (j : Nat) : w.frozen? ⟨g, j, none⟩ = false := frozen_of_row w g j _ t h
theorem IsI.set {w : World} {g t : Nat} {l : List Int} (h : IsI w g t l) (i : Nat) (s : Int) : IsI (w.setCell ⟨g, i, none⟩ (.int .i64 s)) g t (l.set i s) := by
 unfold IsI
 rw [heap_setCell_same w g i _ t _ h, irow_set]
theorem IsI.lt {w : World} {g t : Nat} {l : List Int} (h : IsI w g t l) : g < w.heap.size := (Array.getElem?_eq_some_iff.1 h).1
theorem IsI.below {w w' : World} {g t B : Nat} {l : List Int} (h : IsI w g t l) (b : Below B w w') (hg : g < B) : IsI w' g t l := by
 unfold IsI
 rw [b.block g hg]
 exact h
def mid (l : List Int) (k : Nat) : List Int := l.take k ++ List.replicate (l.length - k) 0
theorem mid_length (l : List Int) (k : Nat) (h : k ≤ l.length) : (mid l k).length = l.length := by simp [mid]; omega
theorem mid_zero (l : List Int) : mid l 0 = List.replicate l.length 0 := by simp [mid]
theorem mid_all (l : List Int) : mid l l.length = l := by simp [mid]
theorem mid_next (l : List Int) (k : Nat) (h : k < l.length) : (mid l k).set k l[k] = mid l (k + 1) := by
 apply List.ext_getElem?
 intro i
 unfold mid
 rw [List.getElem?_set]
 have hl : (l.take k).length = k := by simp; omega
 have hl' : (l.take (k + 1)).length = k + 1 := by simp; omega
 by_cases e : k = i
 ·subst e
  rw [if_pos rfl, if_pos (by simp; omega), List.getElem?_append_left (by omega), List.getElem?_take_of_lt (by omega), List.getElem?_eq_getElem h]
 ·rw [if_neg e]
  by_cases hi : i < k
  ·rw [List.getElem?_append_left (by omega), List.getElem?_append_left (by omega), List.getElem?_take_of_lt hi, List.getElem?_take_of_lt (by omega)]
  ·rw [List.getElem?_append_right (by omega), List.getElem?_append_right (by omega), hl, hl', List.getElem?_replicate, List.getElem?_replicate]
   have : (i - k < l.length - k) = (i - (k + 1) < l.length - (k + 1)) := propext ⟨fun h => by omega, fun h => by omega⟩
   simp only [this]
end Go.Proofs.YtkfipamdfpknpaaDoor.In


/- The laws' own helpers on rows of numbers: the budget of their sizes, and whether two are alike. -/
namespace Go.Proofs.YtkfipamdfpknpaaDoor.In
open Go.RowKit
end Go.Proofs.YtkfipamdfpknpaaDoor.In

