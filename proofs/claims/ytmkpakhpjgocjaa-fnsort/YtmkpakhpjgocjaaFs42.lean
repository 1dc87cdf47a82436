/- Texts put together: ShaPlain2, ShaMade. -/
import Derived.Test.YtmkpakhpjgocjaaFs41
import Derived.Test.YtmkpakhpjgocjaaFs5
/- Plain mathematics of SHA-256: the numbers of a chunk, their spread over the rounds. -/
namespace Go.Proofs.Ytmkpakhpjgocjaa.Sh

def part (B : Nat → Nat) (i : Nat) : Nat → Nat
  | 0 => 0
  | j + 1 => part B i j * 256 + B (4 * i + j)
def word (B : Nat → Nat) (i : Nat) : Nat := part B i 4

theorem part_lt (B : Nat → Nat) (hB : ∀ j, B j < 256) (i : Nat) : ∀ j, part B i j < 256 ^ j
  | 0 => by simp [part]
  | j + 1 => by
    have h := part_lt B hB i j
    have h2 := hB (4 * i + j)
    simp only [part, Nat.pow_succ]
    omega
theorem part_lt24 (B : Nat → Nat) (hB : ∀ j, B j < 256) (i j : Nat) (hj : j < 4) : part B i j < 16777216 := by
  have h := part_lt B hB i j
  have : (256 : Nat) ^ j ≤ 256 ^ 3 := Nat.pow_le_pow_right (by decide) (by omega)
  omega
theorem or_step (x b : Nat) (hx : x < 16777216) (hb : b < 256) : bits BinOp.or IntKind.u32 ((x : Int) * 256) (b : Int) = ((x * 256 + b : Nat) : Int) := by
  have := u32_or_nat (x * 256) b (by omega) (by omega)
  rw [nat_join 8 (x * 256) b (by omega) (by omega)] at this
  rw [← this]
  simp

def sm0 (x : Int) : Int := bits BinOp.xor IntKind.u32 (bits BinOp.xor IntKind.u32 (rotI x 7) (rotI x 18)) (x / 8)
def sm1 (x : Int) : Int := bits BinOp.xor IntKind.u32 (bits BinOp.xor IntKind.u32 (rotI x 17) (rotI x 19)) (x / 1024)

/-- w i of the document -/
def wv (B : Nat → Nat) (i : Nat) : Int :=
  if i < 16 then (word B i : Nat)
  else (wv B (i - 16) + sm0 (wv B (i - 15)) + wv B (i - 7) + sm1 (wv B (i - 2))) % 4294967296
termination_by i
decreasing_by all_goals omega

theorem wv_lo (B : Nat → Nat) (i : Nat) (h : i < 16) : wv B i = (word B i : Nat) := by rw [wv, if_pos h]
theorem wv_hi (B : Nat → Nat) (i : Nat) (h : ¬ i < 16) : wv B i = (wv B (i - 16) + sm0 (wv B (i - 15)) + wv B (i - 7) + sm1 (wv B (i - 2))) % 4294967296 := by rw [wv, if_neg h]
end Go.Proofs.Ytmkpakhpjgocjaa.Sh

/- A row of numbers that make has just made. -/
namespace Go.Proofs.Ytmkpakhpjgocjaa.Sh
open Go.RowKit

theorem made_zerosK (k : IntKind) (n : Nat) : (madeCells (Value.int k 0).cells (n * 1)).toList = (rowF k n (fun _ => 0)).toList := by
  apply List.ext_getElem?
  intro i
  by_cases hi : i < n
  · simp [madeCells, rowF, hi, Value.cells, Nat.mod_one]
  · simp [madeCells, rowF, hi, Value.cells]

theorem made_rowK {k : IntKind} {w : World} {base e g n : Nat} (h : w.ownsRow base e 1 (.slice (some ⟨g, 0, none⟩) n n) n (madeCells (Value.int k 0).cells (n * 1)).toList) : IsB w g e k n (fun _ => 0) := by
  obtain ⟨_, h⟩ := h
  rcases h with ⟨h, _⟩ | ⟨g', cap, cur, hv, _, hb, _, _, hsz, htk⟩
  · simp at h
  · simp at hv
    obtain ⟨rfl, rfl⟩ := hv
    rw [made_zerosK, List.take_of_length_le (by simp [hsz])] at htk
    have : cur = rowF k n (fun _ => 0) := by simpa using htk
    rw [this] at hb
    exact hb

/-- a row that the call owns, element by element -/
theorem own_cells {w : World} {base e n : Nat} {v : Value} {k : IntKind} {f : Nat → Int} (hn : 0 < n) (h : w.ownsRow base e 1 v n (rowF k n f).toList) :
    ∃ g c, v = .slice (some ⟨g, 0, none⟩) n c ∧ base ≤ g ∧ g < w.heap.size ∧ ∀ j, j < n → w.cell? ⟨g, j, none⟩ = some (.int k (f j)) := by
  obtain ⟨_, h⟩ := h
  rcases h with ⟨_, h⟩ | ⟨g, cap, cur, hv, hg, hb, hnc, _, hsz, htk⟩
  · omega
  · refine ⟨g, cap, hv, hg, (Array.getElem?_eq_some_iff.1 hb).1, fun j hj => ?_⟩
    rw [cell_of_row w g j cur e (0, 0) hb]
    have h1 : cur.toList[j]? = (cur.toList.take (n * 1))[j]? := by rw [List.getElem?_take_of_lt (by omega)]
    rw [← Array.getElem?_toList, h1, htk, Array.getElem?_toList]
    exact rowF_get k n f j hj
theorem rowF_snoc (k : IntKind) (n : Nat) (f : Nat → Int) : (rowF k n f).toList ++ [.int k (f n)] = (rowF k (n + 1) f).toList := by
  simp [rowF, List.range_succ]
/-- a text's byte at a place, as a walk asks for it -/
theorem byte_at (t : ByteArray) (j : Nat) (h : j < t.size) : ∃ y : UInt8, t[j] = y ∧ y.toNat = bt t j := ⟨t[j], rfl, bt_get t j h⟩

/-- four bytes put together by shifts -/
theorem word_spec (B : Nat → Nat) (k : Nat) (y0 y1 y2 y3 : Nat) (h0 : y0 = B (4 * k)) (h1 : y1 = B (4 * k + 1)) (h2 : y2 = B (4 * k + 2)) (h3 : y3 = B (4 * k + 3)) (hB : ∀ j, B j < 256) :
    bits BinOp.or IntKind.u32 (bits BinOp.or IntKind.u32 (bits BinOp.or IntKind.u32 ((y0 : Int) * 16777216) ((y1 : Int) * 65536))
      ((y2 : Int) * 256)) (y3 : Int) = ((word B k : Nat) : Int) := by
  have b0 := hB (4 * k)
  have b1 := hB (4 * k + 1)
  have b2 := hB (4 * k + 2)
  have b3 := hB (4 * k + 3)
  rw [← h0] at b0
  rw [← h1] at b1
  rw [← h2] at b2
  rw [← h3] at b3
  rw [show (y0 : Int) * 16777216 = ((y0 * 16777216 : Nat) : Int) by simp, show (y1 : Int) * 65536 = ((y1 * 65536 : Nat) : Int) by simp, show (y2 : Int) * 256 = ((y2 * 256 : Nat) : Int) by simp]
  rw [u32_or_nat _ _ (by omega) (by omega), nat_join 24 (y0 * 16777216) (y1 * 65536) (by omega) (by omega),
    u32_or_nat _ _ (by omega) (by omega), nat_join 16 (y0 * 16777216 + y1 * 65536) (y2 * 256) (by omega) (by omega),
    u32_or_nat _ _ (by omega) (by omega), nat_join 8 (y0 * 16777216 + y1 * 65536 + y2 * 256) y3 (by omega) (by omega)]
  simp only [word, part, Nat.add_zero, ← h0, ← h1, ← h2, ← h3]
  omega
end Go.Proofs.Ytmkpakhpjgocjaa.Sh
