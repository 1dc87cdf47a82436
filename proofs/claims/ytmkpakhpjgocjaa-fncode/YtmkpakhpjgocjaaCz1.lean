/- Texts put together: IntRow, IntLaws. -/
import Derived.Test.YtmkpakhpjgocjaaMemBase
import Derived.Test.YtmkpakhpjgocjaaShaRow
import Derived.BigRegion
import Derived.BigQuiet
import Derived.Deep.QuietTactic
/- Rows of numbers in memory: as a slice that came in sees them, and as a block of the call's own. -/
namespace Go.Proofs.Ytmkpakhpjgocjaa.In
open Go.RowKit

theorem hideI {p : Prop} (h : p) : Hid p := h
/-- the numbers that a slice sees -/
def Ints (w : World) (B : Nat) (a : Option Addr) (l : List Int) : Prop :=
  l = [] ∨ ∃ b off, a = some ⟨b, off, none⟩ ∧ b < B ∧ ∀ j (h : j < l.length), w.cell? ⟨b, off + j, none⟩ = some (.int .i64 l[j])
theorem Ints.below {w w' : World} {B : Nat} {a : Option Addr} {l : List Int} (h : Ints w B a l) (hb : Below B w w') : Ints w' B a l := by
  rcases h with h0 | ⟨b, off, rfl, hlt, hc⟩
  · exact .inl h0
  · exact .inr ⟨b, off, rfl, hlt, fun j hj => (hb.cell (p := ⟨b, off + j, none⟩) hlt).trans (hc j hj)⟩
theorem Ints.mono {w : World} {B C : Nat} {a : Option Addr} {l : List Int} (h : Ints w B a l) (hBC : B ≤ C) : Ints w C a l := by
  rcases h with h0 | ⟨b, off, rfl, hlt, hc⟩
  · exact .inl h0
  · exact .inr ⟨b, off, rfl, Nat.lt_of_lt_of_le hlt hBC, hc⟩
theorem Ints.after {w w' : World} {B C : Nat} {a : Option Addr} {l : List Int} (h : Ints w B a l) (hb : Below C w w') (hBC : B ≤ C) : Ints w' B a l := by
  rcases h with h0 | ⟨b, off, rfl, hlt, hc⟩
  · exact .inl h0
  · exact .inr ⟨b, off, rfl, hlt, fun j hj => (hb.cell (p := ⟨b, off + j, none⟩) (Nat.lt_of_lt_of_le hlt hBC)).trans (hc j hj)⟩
theorem Ints.some {w : World} {B : Nat} {a : Option Addr} {l : List Int} (h : Ints w B a l) (hl : 0 < l.length) :
    ∃ b off, a = .some ⟨b, off, none⟩ ∧ b < B ∧ ∀ j (h : j < l.length), w.cell? ⟨b, off + j, none⟩ = .some (.int .i64 l[j]) := by
  rcases h with h0 | h
  · subst h0; simp at hl
  · exact h
theorem Ints.take {w : World} {B b off k : Nat} {l : List Int} (hB : b < B) (hc : ∀ j (h : j < l.length), w.cell? ⟨b, off + j, none⟩ = .some (.int .i64 l[j])) : Ints w B (.some ⟨b, off, none⟩) (l.take k) :=
  .inr ⟨b, off, rfl, hB, fun j hj => by
    have h1 : j < l.length := Nat.lt_of_lt_of_le hj (List.length_take_le' k l)
    rw [hc j h1, List.getElem_take]⟩
theorem Ints.drop {w : World} {B b off k : Nat} {l : List Int} (hB : b < B) (hc : ∀ j (h : j < l.length), w.cell? ⟨b, off + j, none⟩ = .some (.int .i64 l[j])) : Ints w B (.some ⟨b, off + k, none⟩) (l.drop k) :=
  .inr ⟨b, off + k, rfl, hB, fun j hj => by
    rw [List.length_drop] at hj
    rw [List.getElem_drop, ← hc (k + j) (by omega)]
    congr 2
    omega⟩

/-- a block that holds a row of numbers -/
def irow (l : List Int) : Array Value := (l.map (Value.int .i64)).toArray
def IsI (w : World) (g : Nat) (t : TypeId) (l : List Int) : Prop := w.heap[g]? = some (.cells (irow l) t (0, 0))
theorem irow_size (l : List Int) : (irow l).size = l.length := by simp [irow]
theorem irow_get (l : List Int) (j : Nat) (h : j < l.length) : (irow l)[j]? = some (.int .i64 l[j]) := by simp [irow, h]
theorem irow_set (l : List Int) (i : Nat) (s : Int) : (irow l).setIfInBounds i (.int .i64 s) = irow (l.set i s) := by
  simp [irow, List.map_set]
theorem IsI.cell {w : World} {g t : Nat} {l : List Int} (h : IsI w g t l) {j : Nat} (hj : j < l.length) : w.cell? ⟨g, j, none⟩ = some (.int .i64 l[j]) := by
  rw [cell_of_row w g j _ t (0, 0) h, irow_get l j hj]
theorem IsI.frozen {w : World} {g t : Nat} {l : List Int} (h : IsI w g t l) (j : Nat) : w.frozen? ⟨g, j, none⟩ = false := frozen_of_row w g j _ t h
theorem IsI.set {w : World} {g t : Nat} {l : List Int} (h : IsI w g t l) (i : Nat) (s : Int) : IsI (w.setCell ⟨g, i, none⟩ (.int .i64 s)) g t (l.set i s) := by
  unfold IsI
  rw [heap_setCell_same w g i _ t _ h, irow_set]
theorem IsI.set_other {w : World} {g t : Nat} {l : List Int} (h : IsI w g t l) (a : Addr) (v : Value) (ha : g ≠ a.block) : IsI (w.setCell a v) g t l := by
  unfold IsI
  rw [heap_setCell_other w a g v ha]
  exact h
theorem IsI.lt {w : World} {g t : Nat} {l : List Int} (h : IsI w g t l) : g < w.heap.size := (Array.getElem?_eq_some_iff.1 h).1
theorem IsI.below {w w' : World} {g t B : Nat} {l : List Int} (h : IsI w g t l) (b : Below B w w') (hg : g < B) : IsI w' g t l := by
  unfold IsI
  rw [b.block g hg]
  exact h
theorem IsI.ints {w : World} {g t B : Nat} {l : List Int} (h : IsI w g t l) (hB : g < B) : Ints w B (some ⟨g, 0, none⟩) l :=
  .inr ⟨g, 0, rfl, hB, fun j hj => by rw [Nat.zero_add]; exact h.cell hj⟩

/-- a row of numbers, its first k copied -/
def mid (l : List Int) (k : Nat) : List Int := l.take k ++ List.replicate (l.length - k) 0
theorem mid_length (l : List Int) (k : Nat) (h : k ≤ l.length) : (mid l k).length = l.length := by simp [mid]; omega
theorem mid_zero (l : List Int) : mid l 0 = List.replicate l.length 0 := by simp [mid]
theorem mid_all (l : List Int) : mid l l.length = l := by simp [mid]
theorem mid_next (l : List Int) (k : Nat) (h : k < l.length) : (mid l k).set k l[k] = mid l (k + 1) := by
  apply List.ext_getElem?
  intro i
  unfold mid
  rw [List.getElem?_set]
  have hl : (l.take k).length = k := by simp; omega
  have hl' : (l.take (k + 1)).length = k + 1 := by simp; omega
  by_cases e : k = i
  · subst e
    rw [if_pos rfl, if_pos (by simp; omega), List.getElem?_append_left (by omega), List.getElem?_take_of_lt (by omega), List.getElem?_eq_getElem h]
  · rw [if_neg e]
    by_cases hi : i < k
    · rw [List.getElem?_append_left (by omega), List.getElem?_append_left (by omega), List.getElem?_take_of_lt hi, List.getElem?_take_of_lt (by omega)]
    · rw [List.getElem?_append_right (by omega), List.getElem?_append_right (by omega), hl, hl', List.getElem?_replicate, List.getElem?_replicate]
      have : (i - k < l.length - k) = (i - (k + 1) < l.length - (k + 1)) := propext ⟨fun h => by omega, fun h => by omega⟩
      simp only [this]
/-- a row of numbers that make has just made -/
theorem made_ints {w : World} {base e g n : Nat} (h : w.ownsRow base e 1 (.slice (some ⟨g, 0, none⟩) n n) n (madeCells (Value.int .i64 0).cells (n * 1)).toList) : IsI w g e (List.replicate n 0) := by
  obtain ⟨_, h⟩ := h
  rcases h with ⟨h, _⟩ | ⟨g', cap, cur, hv, _, hb, _, _, hsz, htk⟩
  · simp at h
  · simp at hv
    obtain ⟨rfl, rfl⟩ := hv
    have hm : (madeCells (Value.int .i64 0).cells (n * 1)).toList = (irow (List.replicate n 0)).toList := by
      rw [Nat.mul_one]
      have := toList_madeCells_one (.int .i64 0) n
      simp only [irow, List.map_replicate]
      exact this
    rw [hm, List.take_of_length_le (by simp [hsz])] at htk
    have : cur = irow (List.replicate n 0) := by simpa using htk
    rw [this] at hb
    exact hb
theorem Try.infoI2 : (Try.prog.info? 2).map (fun i => (i.zero, i.size, i.bytes)) = some (some (.int .i64 0), 1, 8) := by kernel_rfl
theorem ret_slice {a b : Option Addr} {n m c d : Nat} (h1 : a = b) (h2 : n = m) (h3 : c = d) : Ending.returned (.slice a n c) = .returned (.slice b m d) := by rw [h1, h2, h3]

set_option maxRecDepth 100000 in
set_option maxHeartbeats 1000000 in
theorem toInt_any (a : Option Addr) (cap : Nat) (l : List Int) (w : World) (h : Ints w w.heap.size a l) (hn : l.length ≤ 1048576) :
    Calls Try.prog 53 #[.slice a l.length cap] w fun e w' => e = .returned (.slice (some ⟨w.heap.size, 0, none⟩) l.length l.length) ∧ IsI w' w.heap.size 2 l ∧ Below w.heap.size w w' := by
  obtain ⟨i0, hi, hz0, hz1, hz2⟩ := info_parts Try.infoI2
  have HS := hideI h
  clear h
  obtain ⟨n, hln⟩ : ∃ n, n = l.length := ⟨_, rfl⟩
  have HLN := hideI hln
  rw [← hln] at hn ⊢
  clear hln
  go_enter Try.func53, Try.ntmps53
  go_wp2_with (at_make; refine wpList_make_full _ rfl (.tmp 6) (.tmp 6) 23 rfl w.heap.size 2 i0 (.int .i64 0) 1 Try.underlying23 hi hz0 hz1 .i64 .i64 _ _ n rfl rfl (by simp) (by simp) (by rw [hz2]; omega) (by unfold maxLen; omega) (Nat.le_refl _) ?_; intro w1 hown1 hgrow1; have HR := hideI (made_ints hown1); have HB := hideI ((Below.refl w.heap.size w).grown hgrow1 (Nat.le_refl _) (by simp)); clear hown1 hgrow1)
  go_loopw [4] (fun i wr => ∃ k : Nat, i = .int .i64 k ∧ k ≤ n ∧ IsI wr w.heap.size 2 (mid l k) ∧ Below w.heap.size w wr) (fun i _ => n - (intOf i).toNat)
  case atStart => exact ⟨0, rfl, by omega, by rw [mid_zero, ← HLN.out]; exact HR.out, HB.out⟩
  case round =>
    obtain ⟨k, rfl, hk, h1, hbel⟩ := hrel
    have G1 := hideI h1
    have GB := hideI hbel
    by_cases hlt : k < n
    · have hkl : k < l.length := by rw [← HLN.out]; exact hlt
      obtain ⟨b, off, rfl, hb, hc⟩ := (HS.out.below hbel).some (by omega)
      have ci := hc k hkl
      have HM := hideI (mid_next l k hkl)
      have cf := h1.frozen k
      have ce : ∃ v, wr.cell? ⟨w.heap.size, k, none⟩ = some (.int .i64 v) := ⟨_, h1.cell (j := k) (by rw [mid_length l k (by omega)]; exact hkl)⟩
      obtain ⟨v0, ce⟩ := ce
      obtain ⟨s, hs⟩ : ∃ s, s = l[k] := ⟨_, rfl⟩
      have HSE := hideI hs
      rw [← hs] at ci
      clear h1 hbel hc hs
      go_wp2_with fail
      go_roundw
      case rel => exact ⟨k + 1, by go_num, by omega, by rw [← HM.out, ← HSE.out]; exact G1.out.set k s, GB.out.setCell (Nat.le_refl _) _⟩
      case measure => simp [intOf]; omega
    · have HE : Hid (mid l k = l) := by
        unfold Hid
        rw [show k = l.length by have := HLN.out; omega]
        exact mid_all l
      clear h1 hbel
      go_wp2_with fail
      go_ret
      exact ⟨rfl, by rw [← HE.out]; exact G1.out, GB.out⟩
end Go.Proofs.Ytmkpakhpjgocjaa.In

/- The laws' own helpers on rows of numbers: the budget of their sizes, and whether two are alike. -/
namespace Go.Proofs.Ytmkpakhpjgocjaa.In
open Go.RowKit

theorem ret_bool {a b : Bool} (h : a = b) : Ending.returned (.bool a) = .returned (.bool b) := by rw [h]

set_option maxRecDepth 100000 in
set_option maxHeartbeats 1000000 in
/-- two rows of the same numbers are alike -/
theorem eq_any (a b : Option Addr) (cap cap' : Nat) (l : List Int) (w : World) (B : Nat) (ha : Ints w B a l) (hb : Ints w B b l) (hn : l.length ≤ 1048576) :
    Calls Try.prog 54 #[.slice a l.length cap, .slice b l.length cap'] w fun e w' => e = .returned (.bool true) ∧ Below w.heap.size w w' := by
  have HA := hideI ha
  have HB := hideI hb
  clear ha hb
  obtain ⟨n, hln⟩ : ∃ n, n = l.length := ⟨_, rfl⟩
  have HLN := hideI hln
  rw [← hln] at hn ⊢
  clear hln
  go_enter Try.func54, Try.ntmps54
  go_wp2_with fail
  go_loopw [5] (fun i wr => ∃ k : Nat, i = .int .i64 k ∧ k ≤ n ∧ (∀ p : Addr, wr.cell? p = w.cell? p) ∧ Below w.heap.size w wr) (fun i _ => n - (intOf i).toNat)
  case atStart => exact ⟨0, rfl, by omega, fun _ => rfl, Below.refl _ _⟩
  case round =>
    obtain ⟨k, rfl, hk, hcell, hbel⟩ := hrel
    have HC := hideI hcell
    have GB := hideI hbel
    by_cases hlt : k < n
    · have hkl : k < l.length := by rw [← HLN.out]; exact hlt
      obtain ⟨b1, off1, rfl, _, hc1⟩ := HA.out.some (by omega)
      obtain ⟨b2, off2, rfl, _, hc2⟩ := HB.out.some (by omega)
      have c1 := (hcell _).trans (hc1 k hkl)
      have c2 := (hcell _).trans (hc2 k hkl)
      obtain ⟨s, hs⟩ : ∃ s, s = l[k] := ⟨_, rfl⟩
      rw [← hs] at c1 c2
      clear hc1 hc2 hcell hbel hs
      go_wp2_with fail
      go_region
      all_goals (try go_wp2_with fail)
      all_goals go_roundw
      case rel => exact ⟨k + 1, by go_num, by omega, fun p => HC.out p, GB.out.drew⟩
      case measure => simp [intOf]; omega
    · clear hcell hbel
      go_wp2_with fail
      go_ret
      exact ⟨rfl, GB.out⟩
end Go.Proofs.Ytmkpakhpjgocjaa.In
