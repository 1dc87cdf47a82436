/- Texts put together: StrO, IntMark. -/
import Derived.Test.YtmkpakhpjgocjaaFs12
/- Blocks whose head is a row of texts; worlds in which one block alone has turned. -/
namespace Go.Proofs.Ytmkpakhpjgocjaa.St
open Go.RowKit

/-- a block whose head is a row of texts -/
def IsO (w : World) (g t : Nat) (l : List ByteArray) : Prop := ∃ cur : Array Value, w.heap[g]? = some (.cells cur t (0, 0)) ∧ ∀ j (h : j < l.length), cur[j]? = some (.string l[j])
theorem IsO.cell {w : World} {g t : Nat} {l : List ByteArray} (h : IsO w g t l) {j : Nat} (hj : j < l.length) : w.cell? ⟨g, j, none⟩ = some (.string l[j]) := by
  obtain ⟨cur, hb, hc⟩ := h
  rw [cell_of_row w g j _ t (0, 0) hb, hc j hj]
theorem IsO.frozen {w : World} {g t : Nat} {l : List ByteArray} (h : IsO w g t l) (j : Nat) : w.frozen? ⟨g, j, none⟩ = false := by
  obtain ⟨cur, hb, _⟩ := h
  exact frozen_of_row w g j _ t hb
theorem IsO.set {w : World} {g t : Nat} {l : List ByteArray} (h : IsO w g t l) (i : Nat) (s : ByteArray) : IsO (w.setCell ⟨g, i, none⟩ (.string s)) g t (l.set i s) := by
  obtain ⟨cur, hb, hc⟩ := h
  refine ⟨_, heap_setCell_same w g i _ t _ hb, fun j hj => ?_⟩
  rw [List.length_set] at hj
  rw [Array.getElem?_setIfInBounds, List.getElem_set]
  have hlt : j < cur.size := (Array.getElem?_eq_some_iff.1 (hc j hj)).1
  by_cases e : i = j
  · subst e
    simp [hlt]
  · simp [e, hc j hj]
theorem IsO.lt {w : World} {g t : Nat} {l : List ByteArray} (h : IsO w g t l) : g < w.heap.size := by
  obtain ⟨cur, hb, _⟩ := h
  exact (Array.getElem?_eq_some_iff.1 hb).1
theorem IsO.of_heap {w w' : World} {g t : Nat} {l : List ByteArray} (h : IsO w g t l) (e : w'.heap[g]? = w.heap[g]?) : IsO w' g t l := by
  obtain ⟨cur, hb, hc⟩ := h
  exact ⟨cur, by rw [e]; exact hb, hc⟩
theorem IsO.below {w w' : World} {g t B : Nat} {l : List ByteArray} (h : IsO w g t l) (b : Below B w w') (hg : g < B) : IsO w' g t l := h.of_heap (b.block g hg)
theorem IsO.strs {w : World} {g t B : Nat} {l : List ByteArray} (h : IsO w g t l) (hB : g < B) : Strs w B (some ⟨g, 0, none⟩) l :=
  .inr ⟨g, 0, rfl, hB, fun j hj => by rw [Nat.zero_add]; exact h.cell hj⟩
theorem IsS.own {w : World} {g t : Nat} {l : List ByteArray} (h : IsS w g t l) : IsO w g t l := ⟨srow l, h, fun j hj => srow_get l j hj⟩

/-- only one old block has turned -/
def Aft (g : Nat) (w w' : World) : Prop := w'.os = w.os ∧ w'.tape = w.tape ∧ w'.output = w.output ∧ w.heap.size ≤ w'.heap.size ∧ ∀ k, k < w.heap.size → k ≠ g → w'.heap[k]? = w.heap[k]?
theorem Aft.refl (g : Nat) (w : World) : Aft g w w := ⟨rfl, rfl, rfl, Nat.le_refl _, fun _ _ _ => rfl⟩
theorem Aft.below {B g : Nat} {w0 w w' : World} (hb : Below B w0 w) (h : Aft g w w') (hg : B ≤ g) (hB : B ≤ w.heap.size) : Below B w0 w' :=
  ⟨h.1.trans hb.os, h.2.1.trans hb.tape, h.2.2.1.trans hb.output, Nat.le_trans hb.size h.2.2.2.1, fun k hk => (h.2.2.2.2 k (by omega) (by omega)).trans (hb.block k hk)⟩
theorem Aft.more {g : Nat} {w w1 w2 : World} (h : Aft g w w1) (hb : Below w1.heap.size w1 w2) : Aft g w w2 :=
  ⟨hb.os.trans h.1, hb.tape.trans h.2.1, hb.output.trans h.2.2.1, Nat.le_trans h.2.2.2.1 hb.size, fun k hk hg => (hb.block k (Nat.lt_of_lt_of_le hk h.2.2.2.1)).trans (h.2.2.2.2 k hk hg)⟩
theorem Aft.set {g : Nat} {w w1 : World} (h : Aft g w w1) (i : Nat) (v : Value) : Aft g w (w1.setCell ⟨g, i, none⟩ v) :=
  ⟨h.1, h.2.1, h.2.2.1, by simpa [World.setCell] using h.2.2.2.1, fun k hk hg => (heap_setCell_other w1 ⟨g, i, none⟩ k v hg).trans (h.2.2.2.2 k hk hg)⟩
end Go.Proofs.Ytmkpakhpjgocjaa.St

/- The laws' marks in rows of numbers: written, and found again. -/
namespace Go.Proofs.Ytmkpakhpjgocjaa.In
open Go.RowKit
open Go.Proofs.Ytmkpakhpjgocjaa.St (Aft)

/-- a block whose head is a row of numbers -/
def IsO (w : World) (g t : Nat) (l : List Int) : Prop := ∃ cur : Array Value, w.heap[g]? = some (.cells cur t (0, 0)) ∧ ∀ j (h : j < l.length), cur[j]? = some (.int .i64 l[j])
theorem IsO.cell {w : World} {g t : Nat} {l : List Int} (h : IsO w g t l) {j : Nat} (hj : j < l.length) : w.cell? ⟨g, j, none⟩ = some (.int .i64 l[j]) := by
  obtain ⟨cur, hb, hc⟩ := h
  rw [cell_of_row w g j _ t (0, 0) hb, hc j hj]
theorem IsO.frozen {w : World} {g t : Nat} {l : List Int} (h : IsO w g t l) (j : Nat) : w.frozen? ⟨g, j, none⟩ = false := by
  obtain ⟨cur, hb, _⟩ := h
  exact frozen_of_row w g j _ t hb
theorem IsO.set {w : World} {g t : Nat} {l : List Int} (h : IsO w g t l) (i : Nat) (s : Int) : IsO (w.setCell ⟨g, i, none⟩ (.int .i64 s)) g t (l.set i s) := by
  obtain ⟨cur, hb, hc⟩ := h
  refine ⟨_, heap_setCell_same w g i _ t _ hb, fun j hj => ?_⟩
  rw [List.length_set] at hj
  rw [Array.getElem?_setIfInBounds, List.getElem_set]
  have hlt : j < cur.size := (Array.getElem?_eq_some_iff.1 (hc j hj)).1
  by_cases e : i = j
  · subst e
    simp [hlt]
  · simp [e, hc j hj]
theorem IsO.lt {w : World} {g t : Nat} {l : List Int} (h : IsO w g t l) : g < w.heap.size := by
  obtain ⟨cur, hb, _⟩ := h
  exact (Array.getElem?_eq_some_iff.1 hb).1
theorem IsO.of_heap {w w' : World} {g t : Nat} {l : List Int} (h : IsO w g t l) (e : w'.heap[g]? = w.heap[g]?) : IsO w' g t l := by
  obtain ⟨cur, hb, hc⟩ := h
  exact ⟨cur, by rw [e]; exact hb, hc⟩
theorem IsO.below {w w' : World} {g t B : Nat} {l : List Int} (h : IsO w g t l) (b : Below B w w') (hg : g < B) : IsO w' g t l := h.of_heap (b.block g hg)
theorem IsO.ints {w : World} {g t B : Nat} {l : List Int} (h : IsO w g t l) (hB : g < B) : Ints w B (some ⟨g, 0, none⟩) l :=
  .inr ⟨g, 0, rfl, hB, fun j hj => by rw [Nat.zero_add]; exact h.cell hj⟩
theorem IsI.own {w : World} {g t : Nat} {l : List Int} (h : IsI w g t l) : IsO w g t l := ⟨irow l, h, fun j hj => irow_get l j hj⟩

def marks (k n : Nat) : List Int := (List.range n).map fun j => ((k + j : Nat) : Int)
theorem marks_length (k n : Nat) : (marks k n).length = n := by simp [marks]
theorem marks_get (k n j : Nat) (h : j < (marks k n).length) : (marks k n)[j] = ((k + j : Nat) : Int) := by simp [marks]
/-- a row of numbers, the first i marked -/
def mmid (l : List Int) (k i : Nat) : List Int := marks k i ++ l.drop i
theorem mmid_length (l : List Int) (k i : Nat) (h : i ≤ l.length) : (mmid l k i).length = l.length := by simp [mmid, marks_length]; omega
theorem mmid_zero (l : List Int) (k : Nat) : mmid l k 0 = l := by simp [mmid, marks]
theorem mmid_all (l : List Int) (k : Nat) : mmid l k l.length = marks k l.length := by simp [mmid]
theorem mmid_next (l : List Int) (k i : Nat) (h : i < l.length) : (mmid l k i).set i (((k + i : Nat) : Int)) = mmid l k (i + 1) := by
  unfold mmid
  rw [List.set_append, if_neg (by rw [marks_length]; omega), marks_length, Nat.sub_self]
  have : marks k (i + 1) = marks k i ++ [((k + i : Nat) : Int)] := by simp [marks, List.range_succ]
  rw [this, List.append_assoc]
  congr 1
  rw [List.drop_eq_getElem_cons h]
  rfl

theorem mark_eq {w : World} {g t k : Nat} {l : List Int} (h : IsO w g t (l.set k (1 + (k : Int)))) : IsO w g t (l.set k ((1 + k : Nat) : Int)) := by
  rw [show ((1 + k : Nat) : Int) = 1 + (k : Int) by omega]
  exact h

set_option maxRecDepth 100000 in
set_option maxHeartbeats 1000000 in
theorem mark_any (g t c : Nat) (l : List Int) (w : World) (h : IsO w g t l) (hn : l.length ≤ 1048576) :
    Calls Try.prog 55 #[.slice (some ⟨g, 0, none⟩) l.length c, .int .i64 1] w fun e w' => e = .returned (.int .i64 (1 + l.length)) ∧ IsO w' g t (marks 1 l.length) ∧ Aft g w w' := by
  have HS := hideI h
  have hgl := h.lt
  clear h
  obtain ⟨n, hln⟩ : ∃ n, n = l.length := ⟨_, rfl⟩
  have HLN := hideI hln
  rw [← hln] at hn ⊢
  clear hln
  go_enter Try.func55, Try.ntmps55
  go_wp2_with fail
  go_loopw [5, 1] (fun i kv wr => ∃ k : Nat, i = .int .i64 k ∧ kv = .int .i64 (1 + k) ∧ k ≤ n ∧ IsO wr g t (mmid l 1 k) ∧ Aft g w wr) (fun i _ _ => n - (intOf i).toNat)
  case atStart => exact ⟨0, rfl, rfl, by omega, by rw [mmid_zero]; exact HS.out, Aft.refl _ _⟩
  case round =>
    obtain ⟨k, rfl, rfl, hk, h1, ha⟩ := hrel
    have G1 := hideI h1
    have GA := hideI ha
    by_cases hlt : k < n
    · have hkl : k < l.length := by rw [← HLN.out]; exact hlt
      have HM := hideI (mmid_next l 1 k hkl)
      have HL := hideI (mmid_length l 1 k (by omega))
      have cf := h1.frozen k
      obtain ⟨v0, ce⟩ : ∃ v, wr.cell? ⟨g, k, none⟩ = some (.int .i64 v) := ⟨_, h1.cell (j := k) (by rw [HL.out]; exact hkl)⟩
      clear h1 ha
      go_wp2_with fail
      go_roundw
      case rel => exact ⟨k + 1, by go_num, by go_num, by omega, by rw [← HM.out]; exact mark_eq (G1.out.set k _), GA.out.set k _⟩
      case measure => simp [intOf]; omega
    · have HE : Hid (mmid l 1 k = marks 1 n) := by
        unfold Hid
        rw [show k = l.length by have := HLN.out; omega, HLN.out]
        exact mmid_all l 1
      obtain ⟨k', hk'⟩ : ∃ k' : Nat, k' = k := ⟨_, rfl⟩
      have HKN : Hid ((1 : Int) + k = 1 + n) := by
        unfold Hid
        omega
      clear h1 ha
      go_wp2_with fail
      go_ret
      exact ⟨by rw [← HKN.out]; rfl, by rw [← HE.out]; exact G1.out, GA.out⟩
end Go.Proofs.Ytmkpakhpjgocjaa.In
