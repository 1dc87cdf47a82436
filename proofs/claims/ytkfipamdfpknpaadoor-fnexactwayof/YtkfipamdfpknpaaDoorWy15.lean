/- Texts put together: StrArg, ShaMade. -/
import Derived.Test.YtkfipamdfpknpaaDoorWy14
import Derived.Test.YtkfipamdfpknpaaDoorWy10
import Derived.Test.YtkfipamdfpknpaaDoorWy3
/- A slice of texts that came in. -/
namespace Go.Proofs.YtkfipamdfpknpaaDoor.St
open Go.RowKit
def IsStrs (w : World) (a : Option Addr) (len cap : Nat) (ss : List ByteArray) : Prop :=
 (a = none ∧ len = 0 ∧ cap = 0 ∧ ss = []) ∨
 ∃ x, a = some x ∧ len ≤ cap ∧ cap ≤ maxLen ∧ ss.length = cap ∧ (∀ i, i < ss.length → w.cell? (x.add i) = some (.string (ss.getD i ByteArray.empty))) ∧ ∀ s ∈ ss, s.size ≤ maxLen
theorem strs_of {w : World} {a : Option Addr} {len cap : Nat} {ss : List ByteArray} (h : IsStrs w a len cap ss) :
  ∃ l : List ByteArray, l.length = len ∧ Strs w w.heap.size a l ∧ len ≤ maxLen ∧ len ≤ cap ∧ ∀ s ∈ l, s.size ≤ maxLen := by
 rcases h with ⟨_, rfl, rfl, _⟩ | ⟨x, rfl, hlc, hm, hz, hc, hw⟩
 ·exact ⟨[], rfl, .inl rfl, by decide, Nat.le_refl _, fun s hs => by cases hs⟩
 ·refine ⟨ss.take len, by rw [List.length_take]; omega, ?_, by omega, hlc, fun s hs => hw s (List.mem_of_mem_take hs)⟩
  rcases Nat.eq_zero_or_pos len with h0 | h0
  ·subst h0
   exact .inl rfl
  ·obtain ⟨b, off, spot⟩ := x
   have hc0 := hc 0 (by omega)
   have hspot : spot = none := by simpa [Addr.add] using World.cell?_spot hc0
   subst hspot
   have e : ∀ i, (⟨b, off, none⟩ : Addr).add i = ⟨b, off + i, none⟩ := fun i => by unfold Addr.add; split <;> simp_all
   have hlt := World.block_lt_of_cell? w _ hc0
   rw [e 0] at hlt
   refine .inr ⟨b, off, rfl, hlt, fun j hj => ?_⟩
   rw [List.length_take] at hj
   have hj' : j < ss.length := by omega
   rw [← e j, hc j hj', List.getElem_take, List.getD_eq_getElem?_getD, List.getElem?_eq_getElem hj']
   rfl
end Go.Proofs.YtkfipamdfpknpaaDoor.St


/- A row of numbers that make has just made. -/
namespace Go.Proofs.YtkfipamdfpknpaaDoor.Sh
open Go.RowKit
theorem made_zerosK (k : IntKind) (n : Nat) : (madeCells (Value.int k 0).cells (n * 1)).toList = (rowF k n (fun _ => 0)).toList := by
 apply List.ext_getElem?
 intro i
 by_cases hi : i < n
 ·simp [madeCells, rowF, hi, Value.cells, Nat.mod_one]
 ·simp [madeCells, rowF, hi, Value.cells]
theorem made_rowK {k : IntKind} {w : World} {base e g n : Nat} (h : w.ownsRow base e 1 (.slice (some ⟨g, 0, none⟩) n n) n (madeCells (Value.int k 0).cells (n * 1)).toList) : IsB w g e k n (fun _ => 0) := by
 obtain ⟨_, h⟩ := h
 rcases h with ⟨h, _⟩ | ⟨g', cap, cur, hv, _, hb, _, _, hsz, htk⟩
 ·simp at h
 ·simp at hv
  obtain ⟨rfl, rfl⟩ := hv
  rw [made_zerosK, List.take_of_length_le (by simp [hsz])] at htk
  have : cur = rowF k n (fun _ => 0) := by simpa using htk
  rw [this] at hb
  exact hb
theorem own_cells {w : World} {base e n : Nat} {v : Value} {k : IntKind} {f : Nat → Int} (hn : 0 < n) (h : w.ownsRow base e 1 v n (rowF k n f).toList) :
  ∃ g c, v = .slice (some ⟨g, 0, none⟩) n c ∧ base ≤ g ∧ g < w.heap.size ∧ ∀ j, j < n → w.cell? ⟨g, j, none⟩ = some (.int k (f j)) := by
 obtain ⟨_, h⟩ := h
 rcases h with ⟨_, h⟩ | ⟨g, cap, cur, hv, hg, hb, hnc, _, hsz, htk⟩
 ·omega
 ·refine ⟨g, cap, hv, hg, (Array.getElem?_eq_some_iff.1 hb).1, fun j hj => ?_⟩
  rw [cell_of_row w g j cur e (0, 0) hb]
  have h1 : cur.toList[j]? = (cur.toList.take (n * 1))[j]? := by rw [List.getElem?_take_of_lt (by omega)]
  rw [← Array.getElem?_toList, h1, htk, Array.getElem?_toList]
  exact rowF_get k n f j hj
theorem rowF_snoc (k : IntKind) (n : Nat) (f : Nat → Int) : (rowF k n f).toList ++ [.int k (f n)] = (rowF k (n + 1) f).toList := by
 simp [rowF, List.range_succ]
theorem byte_at (t : ByteArray) (j : Nat) (h : j < t.size) : ∃ y : UInt8, t[j] = y ∧ y.toNat = bt t j := ⟨t[j], rfl, bt_get t j h⟩
theorem word_spec (B : Nat → Nat) (k : Nat) (y0 y1 y2 y3 : Nat) (h0 : y0 = B (4 * k)) (h1 : y1 = B (4 * k + 1)) (h2 : y2 = B (4 * k + 2)) (h3 : y3 = B (4 * k + 3)) (hB : ∀ j, B j < 256) :
  bits BinOp.or IntKind.u32 (bits BinOp.or IntKind.u32 (bits BinOp.or IntKind.u32 ((y0 : Int) * 16777216) ((y1 : Int) * 65536))
   ((y2 : Int) * 256)) (y3 : Int) = ((word B k : Nat) : Int) := by
 have b0 := hB (4 * k)
 have b1 := hB (4 * k + 1)
 have b2 := hB (4 * k + 2)
 have b3 := hB (4 * k + 3)
 rw [← h0] at b0
 rw [← h1] at b1
 rw [← h2] at b2
 rw [← h3] at b3
 rw [show (y0 : Int) * 16777216 = ((y0 * 16777216 : Nat) : Int) by simp, show (y1 : Int) * 65536 = ((y1 * 65536 : Nat) : Int) by simp, show (y2 : Int) * 256 = ((y2 * 256 : Nat) : Int) by simp]
 rw [u32_or_nat _ _ (by omega) (by omega), nat_join 24 (y0 * 16777216) (y1 * 65536) (by omega) (by omega),
  u32_or_nat _ _ (by omega) (by omega), nat_join 16 (y0 * 16777216 + y1 * 65536) (y2 * 256) (by omega) (by omega),
  u32_or_nat _ _ (by omega) (by omega), nat_join 8 (y0 * 16777216 + y1 * 65536 + y2 * 256) y3 (by omega) (by omega)]
 simp only [word, part, Nat.add_zero, ← h0, ← h1, ← h2, ← h3]
 omega
end Go.Proofs.YtkfipamdfpknpaaDoor.Sh

