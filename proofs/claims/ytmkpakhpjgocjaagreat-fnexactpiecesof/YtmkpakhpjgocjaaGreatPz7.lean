/- Texts put together: ShaLaws, ShaBytes, BitPlain. -/
import Derived.Test.YtmkpakhpjgocjaaGreatPz3
import Derived.Test.YtmkpakhpjgocjaaGreatPz2
/- Two laws on a walk's single operations, over any program: a whole array of numbers loaded out of its block, and stored into one. -/
namespace Go.Proofs.YtmkpakhpjgocjaaGreat.Sh
open Go.RowKit

theorem wpList_load_row {P : Program} {w : World} {ops : Array Oper} {rest : List Oper} {a : Act} {Q : Exit → Act → World → Prop} {d : Tmp} {p : Operand} {ty tt : TypeId} {pos : String} {af : Array Edge}
    {g : Nat} {t : TypeId} {k : IntKind} {n : Nat} {f : Nat → Int} {e : TypeId} (hb : IsB w g t k n f) (hu : P.underlying ty = some (.array n e)) (hi : (P.info? ty).map (·.size) = some n)
    (hp : a.eval p = .pointer (some ⟨g, 0, none⟩)) (h : wpList P ops Q rest (a.put (some d) (.agg (rowF k n f))) w) :
    wpList P ops Q (⟨some d, .load ty p, tt, pos, af, none⟩ :: rest) a w := by
  refine wpList_plain rfl fun K hK => ?_
  have hl := hb.loadAt (P := P) ty e hu hi
  unfold Oper.wp
  simp [execOp, hp, hl, Result.andThen]
  exact hK _ _ h

theorem wpList_store_row {P : Program} {w : World} {ops : Array Oper} {rest : List Oper} {a : Act} {Q : Exit → Act → World → Prop} {p v : Operand} {ty tt : TypeId} {pos : String} {af : Array Edge}
    {g : Nat} {t : TypeId} {k : IntKind} {n : Nat} {f : Nat → Int} (hb : IsB w g t k n f) (hi : (P.info? ty).map (·.size) = some n) (f' : Nat → Int)
    (hp : a.eval p = .pointer (some ⟨g, 0, none⟩)) (hv : a.eval v = .agg (rowF k n f')) (h : wpList P ops Q rest a (w.setRow g (rowF k n f'))) :
    wpList P ops Q (⟨none, .store ty p v, tt, pos, af, none⟩ :: rest) a w := by
  refine wpList_plain rfl fun K hK => ?_
  have hl : (Instr.storeAt ty (.pointer (some ⟨g, 0, none⟩)) (.agg (rowF k n f'))).run P w = .ok () (w.setRow g (rowF k n f')) := by
    simp only [Instr.storeAt, Instr.sureAddr, Sem.run_bind, Sem.run_pure, Result.andThen]
    exact run_storeVar_row w g t ty _ _ hb (by rw [rowF_size]; exact hi) (by rw [rowF_size, rowF_size]) (rowF_one _ _ _)
  unfold Oper.wp
  simp [execOp, hp, hv, hl, Result.andThen]
  exact hK _ _ h

/-- the same, the world behind it named -/
theorem wpList_store_row' {P : Program} {w : World} {ops : Array Oper} {rest : List Oper} {a : Act} {Q : Exit → Act → World → Prop} {p v : Operand} {ty tt : TypeId} {pos : String} {af : Array Edge}
    {g : Nat} {t : TypeId} {k : IntKind} {n : Nat} {f : Nat → Int} (hb : IsB w g t k n f) (hi : (P.info? ty).map (·.size) = some n) (f' : Nat → Int)
    (hp : a.eval p = .pointer (some ⟨g, 0, none⟩)) (hv : a.eval v = .agg (rowF k n f'))
    (h : ∀ w', IsB w' g t k n f' → (∀ B, B ≤ g → Below B w w') → w'.heap.size = w.heap.size → (∀ j, j ≠ g → w'.heap[j]? = w.heap[j]?) → wpList P ops Q rest a w') :
    wpList P ops Q (⟨none, .store ty p v, tt, pos, af, none⟩ :: rest) a w :=
  wpList_store_row hb hi f' hp hv (h _ (hb.row f') (fun _ hB => below_row (Below.refl _ _) hB _) (row_size _ _ _) (fun j hj => setRow_other w g j _ hj))

theorem results_row {P : Program} {fn : Func} {p : Tmp} {ty e : TypeId} {w : World} {g : Nat} {t : TypeId} {k : IntKind} {n : Nat} {f : Nat → Int} (h : fn.results = #[.cell p ty]) (tmps : Array Value)
    (hp : tmps.getD p undef = .pointer (some ⟨g, 0, none⟩)) (hb : IsB w g t k n f) (hu : P.underlying ty = some (.array n e)) (hi : (P.info? ty).map (·.size) = some n) :
    (results fn tmps).run P w = .ok (.agg (rowF k n f)) w := by
  have hl := hb.loadVar (P := P) ty e hu hi
  simp only [results, h]
  simp only [Array.getD_eq_getD_getElem?] at hp
  simp [hp, asAddr, hl]
end Go.Proofs.YtmkpakhpjgocjaaGreat.Sh

/- Rows of bytes in memory and texts, told by a plain function from places to numbers. -/
namespace Go.Proofs.YtmkpakhpjgocjaaGreat.Sh
open Go.RowKit
open Go.Proofs.YtmkpakhpjgocjaaGreat.Nu (bv arr_string)

/-- the byte at a place of a text (0 behind its end) -/
def bt (t : ByteArray) (j : Nat) : Nat := (t.data.toList.getD j 0).toNat
theorem bt_lt (t : ByteArray) (j : Nat) : bt t j < 256 := (t.data.toList.getD j 0).toNat_lt
/-- the text of n bytes that a function tells -/
def strF (n : Nat) (f : Nat → Nat) : ByteArray := ⟨((List.range n).map fun j => UInt8.ofNat (f j)).toArray⟩
theorem strF_size (n : Nat) (f : Nat → Nat) : (strF n f).size = n := by
  show ((List.range n).map fun j => UInt8.ofNat (f j)).toArray.size = n
  simp
theorem bt_strF (n : Nat) (f : Nat → Nat) (j : Nat) (hj : j < n) (h : f j < 256) : bt (strF n f) j = f j := by
  unfold bt strF
  simp [List.getD, hj]
  omega
theorem strF_congr (n : Nat) (f g : Nat → Nat) (h : ∀ j, j < n → f j = g j) : strF n f = strF n g := by
  unfold strF
  congr 2
  apply List.map_congr_left
  intro j hj
  rw [h j (List.mem_range.1 hj)]
theorem bt_get (t : ByteArray) (j : Nat) (h : j < t.size) : (t[j]).toNat = bt t j := by
  have h' : j < t.data.toList.length := by simpa using h
  unfold bt
  rw [List.getD_eq_getElem?_getD, List.getElem?_eq_getElem h']
  rfl
theorem strF_bt (t : ByteArray) : strF t.size (bt t) = t := by
  unfold strF
  have : (List.range t.size).map (fun j => UInt8.ofNat (bt t j)) = t.data.toList := by
    apply List.ext_getElem?
    intro i
    by_cases hi : i < t.size
    · have h' : i < t.data.toList.length := by simpa using hi
      rw [List.getElem?_eq_getElem h']
      simp [hi, bt, List.getD]
    · have h1 : t.data.toList.length ≤ i := by simpa using Nat.le_of_not_lt hi
      rw [List.getElem?_eq_none h1]
      simp [Nat.le_of_not_lt hi]
  rw [this]

theorem made_zeros (n : Nat) : (madeCells (Value.int .u8 0).cells (n * 1)).toList = (rowF .u8 n (fun _ => 0)).toList := by
  apply List.ext_getElem?
  intro i
  by_cases hi : i < n
  · simp [madeCells, rowF, hi, Value.cells, Nat.mod_one]
  · simp [madeCells, rowF, hi, Value.cells]

/-- a row of n bytes that make has just made -/
theorem made_row {w : World} {base e g n : Nat} (h : w.ownsRow base e 1 (.slice (some ⟨g, 0, none⟩) n n) n (madeCells (Value.int .u8 0).cells (n * 1)).toList) : IsB w g e .u8 n (fun _ => 0) := by
  obtain ⟨_, h⟩ := h
  rcases h with ⟨h, _⟩ | ⟨g', cap, cur, hv, _, hb, _, _, hsz, htk⟩
  · simp at h
  · simp at hv
    obtain ⟨rfl, rfl⟩ := hv
    rw [made_zeros, List.take_of_length_le (by simp [hsz])] at htk
    have : cur = rowF .u8 n (fun _ => 0) := by simpa using htk
    rw [this] at hb
    exact hb

/-- a text copied to the head of a row -/
theorem splice_row (n : Nat) (f : Nat → Int) (t : ByteArray) (h : t.size ≤ n) :
    (splice (rowF .u8 n f).toList 0 (t.data.toList.map bv)).toArray = rowF .u8 n (fun j => if j < t.size then (bt t j : Nat) else f j) := by
  apply Array.ext_getElem?
  intro i
  by_cases hi : i < n
  · rw [rowF_get _ _ _ _ hi]
    simp only [splice, List.take_zero, List.nil_append, List.getElem?_toArray, List.length_map, Nat.zero_add]
    by_cases ht : i < t.size
    · have h' : i < t.data.toList.length := by simpa using ht
      rw [List.getElem?_append_left (by simpa using ht), if_pos ht]
      simp [bv, bt, List.getD, ht]
    · rw [List.getElem?_append_right (by simpa using Nat.le_of_not_lt ht), if_neg ht, List.getElem?_drop]
      simp only [List.length_map, Array.length_toList]
      have e : t.data.size + (i - t.data.size) = i := by
        have : t.data.size = t.size := rfl
        omega
      rw [e]
      simp [rowF, hi]
  · have h1 : (rowF .u8 n (fun j => if j < t.size then ((bt t j : Nat) : Int) else f j))[i]? = none := by simp [rowF, hi]
    rw [h1]
    have hl : (splice (rowF .u8 n f).toList 0 (t.data.toList.map bv)).length = n := by
      rw [length_splice _ _ _ (by simp [rowF_size]; exact h)]
      simp [rowF_size]
    simp only [List.getElem?_toArray]
    exact List.getElem?_eq_none (by omega)

/-- a row of bytes as a text -/
theorem IsB.str {P : Program} {w : World} {g : Nat} {t src dst e : TypeId} {n : Nat} {f : Nat → Nat} (h : IsB w g t .u8 n (fun j => (f j : Nat))) (m cap : Nat) (hm : m ≤ n) (hf : ∀ j, j < m → f j < 256)
    (hs : P.underlying src = some (.slice e)) (he : P.underlying e = some (.int .u8)) (hd : P.underlying dst = some .string) :
    (convert src dst (.slice (some ⟨g, 0, none⟩) m cap)).run P w = .ok (.string (strF m f)) w := by
  have hl : ((List.range m).map fun j => UInt8.ofNat (f j)).length = m := by simp
  have := arr_string (P := P) (src := src) (dst := dst) ((List.range m).map fun j => UInt8.ofNat (f j)) cap h (by
    rw [hl]
    apply List.ext_getElem?
    intro i
    by_cases hi : i < m
    · have h3 := hf i hi
      simp [rowF, hi, Nat.lt_of_lt_of_le hi hm, bv]
      omega
    · simp [hi, List.getElem?_take]) hs he hd
  rw [hl] at this
  exact this
end Go.Proofs.YtmkpakhpjgocjaaGreat.Sh

/- Plain mathematics of bits: a number in bits. -/
namespace Go.Proofs.YtmkpakhpjgocjaaGreat.Bi
open Go.RowKit
open Go.Proofs.YtmkpakhpjgocjaaGreat.Sh

theorem hideB {p : Prop} (h : p) : Hid p := h
/-- the bit of a number at a place, as a byte of a text -/
def bitB (n p : Nat) : Nat := 48 + n / 2 ^ p % 2
theorem bitB_lt (n p : Nat) : bitB n p < 256 := by unfold bitB; omega
theorem bitB_01 (n p : Nat) : bitB n p = 48 ∨ bitB n p = 49 := by unfold bitB; omega
/-- a number in so many bits -/
def bitsV (n w : Nat) : ByteArray := strF w (fun j => bitB n (w - 1 - j))
theorem bitsV_size (n w : Nat) : (bitsV n w).size = w := strF_size _ _
/-- what BitsOf answers -/
def bitsR (n w : Int) : ByteArray := if w < 1 ∨ 20 < w ∨ n < 0 ∨ 2 ^ w.toNat ≤ n then ⟨#[]⟩ else bitsV n.toNat w.toNat
theorem bitsR_no (n w : Int) (h : w < 1 ∨ 20 < w ∨ n < 0 ∨ 2 ^ w.toNat ≤ n) : bitsR n w = ⟨#[]⟩ := if_pos h
theorem bitsR_yes (n w : Nat) (h1 : 1 ≤ w) (h2 : w ≤ 20) (h3 : n < 2 ^ w) : bitsR n w = bitsV n w := by
  unfold bitsR
  have h4 : ¬ ((2 : Int) ^ w ≤ n) := by
    have : ((2 ^ w : Nat) : Int) = (2 : Int) ^ w := by simp
    omega
  rw [if_neg (by simp only [Int.toNat_natCast]; omega)]
  rfl

/-- the first k written -/
def upK (n w k j : Nat) : Nat := if j < k then bitB n (w - 1 - j) else 0
theorem upK_zero (n w j : Nat) : upK n w 0 j = 0 := by simp [upK]
theorem upK_next (n w k j : Nat) (v : Int) (hv : v = (bitB n (w - 1 - k) : Nat)) : upd (fun j => ((upK n w k j : Nat) : Int)) k v j = (upK n w (k + 1) j : Nat) := by
  subst hv
  unfold upd upK
  by_cases e : j = k
  · subst e; simp
  · have : (j < k + 1) = (j < k) := propext ⟨fun h => by omega, fun h => by omega⟩
    simp only [e, this, if_false]
theorem upK_all (n w : Nat) : strF w (fun j => upK n w w j) = bitsV n w := strF_congr _ _ _ fun j hj => by simp [upK, hj]
theorem upK_lt (n w k j : Nat) : upK n w k j < 256 := by
  unfold upK
  have := bitB_lt n (w - 1 - j)
  split <;> omega
/-- the last k written -/
def dnK (n w k j : Nat) : Nat := if w ≤ j + k then bitB n (w - 1 - j) else 0
theorem dnK_zero (n w j : Nat) (h : j < w) : dnK n w 0 j = 0 := by unfold dnK; rw [if_neg (by omega)]
theorem dnK_next (n w k j : Nat) (v : Int) (hk : k < w) (hj : j < w) (hv : v = (bitB n k : Nat)) : upd (fun j => ((dnK n w k j : Nat) : Int)) (w - 1 - k) v j = (dnK n w (k + 1) j : Nat) := by
  subst hv
  unfold upd dnK
  by_cases e : j = w - 1 - k
  · subst e
    rw [if_pos rfl, if_pos (by omega), show w - 1 - (w - 1 - k) = k by omega]
  · have : (w ≤ j + (k + 1)) = (w ≤ j + k) := propext ⟨fun h => by omega, fun h => by omega⟩
    simp only [e, this, if_false]
theorem dnK_all (n w : Nat) : strF w (fun j => dnK n w w j) = bitsV n w := strF_congr _ _ _ fun j hj => by unfold dnK; rw [if_pos (by omega)]
theorem dnK_lt (n w k j : Nat) : dnK n w k j < 256 := by
  unfold dnK
  have := bitB_lt n (w - 1 - j)
  split <;> omega
theorem half_pow (n k : Nat) : n / 2 ^ k / 2 = n / 2 ^ (k + 1) := by rw [Nat.pow_succ, Nat.div_div_eq_div_mul]
theorem pow20 (w : Nat) (h : w ≤ 20) : 2 ^ w ≤ 1048576 := by
  have := Nat.pow_le_pow_right (n := 2) (by decide) h
  simpa using this
end Go.Proofs.YtmkpakhpjgocjaaGreat.Bi
