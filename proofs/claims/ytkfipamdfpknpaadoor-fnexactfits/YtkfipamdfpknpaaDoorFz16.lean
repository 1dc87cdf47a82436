/- Texts put together: LsArg, ShaMade. -/
import Derived.Test.YtkfipamdfpknpaaDoorFz15
import Derived.Test.YtkfipamdfpknpaaDoorFz7
import Derived.Test.YtkfipamdfpknpaaDoorFz2
/- A List handed to a law: its bytes counted, and the List of impl made of it. -/
namespace Go.Proofs.YtkfipamdfpknpaaDoor.Ls
open Go.RowKit
set_option maxRecDepth 100000 in
theorem sz_yes (z b : Int) (r : ByteArray) (w : World) (h : r.size ≤ 1048576) :
    Calls Tryd.prog 9 #[lV z b r, .int .i64 1048576] w fun e w' => e = .returned (.int .i64 (1048576 - (r.size : Int))) ∧ Below w.heap.size w w' := by
  unfold lV
  have hwr : IntKind.i64.wrap (1048576 - (r.size : Int)) = 1048576 - (r.size : Int) := by rw [IntKind.wrap_i64]; omega
  have h1 : ¬ (1048576 - (r.size : Int)) < 0 := by omega
  have h2 : decide ((1048576 - (r.size : Int)) < 0) = false := by simp; omega
  go_enter Tryd.func9, Tryd.ntmps9
  go_wp2_with fail
  go_ret
  exact ⟨rfl, (Below.refl _ _).alloc (Nat.le_refl _) _⟩
set_option maxRecDepth 100000 in
theorem sz_no (z b : Int) (r : ByteArray) (w : World) (hr : r.size ≤ 9223372036854775807) (h : 1048576 < r.size) :
    Calls Tryd.prog 9 #[lV z b r, .int .i64 1048576] w fun e w' => e = .returned (.int .i64 (-1)) ∧ Below w.heap.size w w' := by
  unfold lV
  have hwr : IntKind.i64.wrap (1048576 - (r.size : Int)) = 1048576 - (r.size : Int) := by rw [IntKind.wrap_i64]; omega
  have h1 : (1048576 - (r.size : Int)) < 0 := by omega
  go_enter Tryd.func9, Tryd.ntmps9
  go_wp2_with fail
  go_ret
  exact ⟨rfl, (Below.refl _ _).alloc (Nat.le_refl _) _⟩
set_option maxRecDepth 100000 in
set_option maxHeartbeats 1000000 in
theorem to_any (z b : Int) (r : ByteArray) (w : World) :
    Calls Tryd.prog 12 #[lV z b r] w fun e w' => e = .returned (lV z b r) ∧ Below w.heap.size w w' := by
  unfold lV
  go_enter Tryd.func12, Tryd.ntmps12
  go_wp2
  refine bodyPost_ret (v := .agg #[.int .i64 z, .int .i64 b, .string r]) (by simp [results, Tryd.results12, go_sem]) rfl ⟨rfl, ?_⟩
  exact (((Below.refl _ _).alloc (Nat.le_refl _) _).alloc (by simp) _).alloc (by simp; omega) _
theorem blkL {w w' : World} {g : Nat} {x : Obj} (h : w.heap[g]? = some x) (hb : Below w.heap.size w w') : w'.heap[g]? = some x := (hb.block g (Array.getElem?_eq_some_iff.1 h).1).trans h
theorem lowL {w0 w w' : World} (h : Below w0.heap.size w0 w) (hb : Below w.heap.size w w') : Below w0.heap.size w0 w' := h.trans (hb.mono h.size)
theorem cells3 {W : World} {g : Nat} {x y z : Value} {t : TypeId} (h : W.heap[g]? = some (.cells #[x, y, z] t (0, 0))) : W.cell? ⟨g, 0, none⟩ = some x ∧ W.cell? ⟨g, 1, none⟩ = some y ∧ W.cell? ⟨g, 2, none⟩ = some z :=
  ⟨cell_of_row W g 0 _ _ _ h, cell_of_row W g 1 _ _ _ h, cell_of_row W g 2 _ _ _ h⟩
end Go.Proofs.YtkfipamdfpknpaaDoor.Ls


/- A row of numbers that make has just made. -/
namespace Go.Proofs.YtkfipamdfpknpaaDoor.Sh
open Go.RowKit
theorem made_zerosK (k : IntKind) (n : Nat) : (madeCells (Value.int k 0).cells (n * 1)).toList = (rowF k n (fun _ => 0)).toList := by
  apply List.ext_getElem?
  intro i
  by_cases hi : i < n
  · simp [madeCells, rowF, hi, Value.cells, Nat.mod_one]
  · simp [madeCells, rowF, hi, Value.cells]
theorem made_rowK {k : IntKind} {w : World} {base e g n : Nat} (h : w.ownsRow base e 1 (.slice (some ⟨g, 0, none⟩) n n) n (madeCells (Value.int k 0).cells (n * 1)).toList) : IsB w g e k n (fun _ => 0) := by
  obtain ⟨_, h⟩ := h
  rcases h with ⟨h, _⟩ | ⟨g', cap, cur, hv, _, hb, _, _, hsz, htk⟩
  · simp at h
  · simp at hv
    obtain ⟨rfl, rfl⟩ := hv
    rw [made_zerosK, List.take_of_length_le (by simp [hsz])] at htk
    have : cur = rowF k n (fun _ => 0) := by simpa using htk
    rw [this] at hb
    exact hb
theorem own_cells {w : World} {base e n : Nat} {v : Value} {k : IntKind} {f : Nat → Int} (hn : 0 < n) (h : w.ownsRow base e 1 v n (rowF k n f).toList) :
    ∃ g c, v = .slice (some ⟨g, 0, none⟩) n c ∧ base ≤ g ∧ g < w.heap.size ∧ ∀ j, j < n → w.cell? ⟨g, j, none⟩ = some (.int k (f j)) := by
  obtain ⟨_, h⟩ := h
  rcases h with ⟨_, h⟩ | ⟨g, cap, cur, hv, hg, hb, hnc, _, hsz, htk⟩
  · omega
  · refine ⟨g, cap, hv, hg, (Array.getElem?_eq_some_iff.1 hb).1, fun j hj => ?_⟩
    rw [cell_of_row w g j cur e (0, 0) hb]
    have h1 : cur.toList[j]? = (cur.toList.take (n * 1))[j]? := by rw [List.getElem?_take_of_lt (by omega)]
    rw [← Array.getElem?_toList, h1, htk, Array.getElem?_toList]
    exact rowF_get k n f j hj
theorem rowF_snoc (k : IntKind) (n : Nat) (f : Nat → Int) : (rowF k n f).toList ++ [.int k (f n)] = (rowF k (n + 1) f).toList := by
  simp [rowF, List.range_succ]
theorem byte_at (t : ByteArray) (j : Nat) (h : j < t.size) : ∃ y : UInt8, t[j] = y ∧ y.toNat = bt t j := ⟨t[j], rfl, bt_get t j h⟩
theorem word_spec (B : Nat → Nat) (k : Nat) (y0 y1 y2 y3 : Nat) (h0 : y0 = B (4 * k)) (h1 : y1 = B (4 * k + 1)) (h2 : y2 = B (4 * k + 2)) (h3 : y3 = B (4 * k + 3)) (hB : ∀ j, B j < 256) :
    bits BinOp.or IntKind.u32 (bits BinOp.or IntKind.u32 (bits BinOp.or IntKind.u32 ((y0 : Int) * 16777216) ((y1 : Int) * 65536))
      ((y2 : Int) * 256)) (y3 : Int) = ((word B k : Nat) : Int) := by
  have b0 := hB (4 * k)
  have b1 := hB (4 * k + 1)
  have b2 := hB (4 * k + 2)
  have b3 := hB (4 * k + 3)
  rw [← h0] at b0
  rw [← h1] at b1
  rw [← h2] at b2
  rw [← h3] at b3
  rw [show (y0 : Int) * 16777216 = ((y0 * 16777216 : Nat) : Int) by simp, show (y1 : Int) * 65536 = ((y1 * 65536 : Nat) : Int) by simp, show (y2 : Int) * 256 = ((y2 * 256 : Nat) : Int) by simp]
  rw [u32_or_nat _ _ (by omega) (by omega), nat_join 24 (y0 * 16777216) (y1 * 65536) (by omega) (by omega),
    u32_or_nat _ _ (by omega) (by omega), nat_join 16 (y0 * 16777216 + y1 * 65536) (y2 * 256) (by omega) (by omega),
    u32_or_nat _ _ (by omega) (by omega), nat_join 8 (y0 * 16777216 + y1 * 65536 + y2 * 256) y3 (by omega) (by omega)]
  simp only [word, part, Nat.add_zero, ← h0, ← h1, ← h2, ← h3]
  omega
end Go.Proofs.YtkfipamdfpknpaaDoor.Sh

