/- Texts put together: MemBase, ShaRow, IntRow, IntLaws. -/
import Derived.Test.YtjdlgpnhkfdehaaGreatDoorChecked
import Derived.Test.YtjdlgpnhkfdehaaGreatDoorBu0
import Derived.WalkKit
import Derived.WalkSpells
import Derived.WalkLawsBesides
import Derived.Below
import Derived.Deep.WholeRow
import Derived.BigRegion
import Derived.BigQuiet
import Derived.Deep.QuietTactic
/- Small facts that the walks over texts in memory share: the row of the table of bytes, and how an answer is told. -/
namespace Go.Proofs.YtjdlgpnhkfdehaaGreatDoor.Nu
open Go.RowKit
theorem hideJ {p : Prop} (h : p) : Hid p := h
theorem ret_strJ {a b : ByteArray} (h : a = b) : Ending.returned (.string a) = .returned (.string b) := by rw [h]
theorem Tryz.infoJ5 : (Tryz.prog.info? 5).map (fun i => (i.zero, i.size, i.bytes)) = some (some (.int .u8 0), 1, 1) := by kernel_rfl
theorem Tryz.sizeJ5 : (Tryz.prog.info? 5).map (·.size) = some 1 := by kernel_rfl
end Go.Proofs.YtjdlgpnhkfdehaaGreatDoor.Nu


/- A row of numbers in a block of memory, told by a plain function from places to numbers: reading, writing, loading and storing it whole. -/
namespace Go.Proofs.YtjdlgpnhkfdehaaGreatDoor.Sh
open Go.RowKit
def rowF (k : IntKind) (n : Nat) (f : Nat → Int) : Array Value := ((List.range n).map fun j => Value.int k (f j)).toArray
def upd (f : Nat → Int) (i : Nat) (v : Int) : Nat → Int := fun j => if j = i then v else f j
def IsB (w : World) (g : Nat) (t : TypeId) (k : IntKind) (n : Nat) (f : Nat → Int) : Prop := w.heap[g]? = some (.cells (rowF k n f) t (0, 0))
theorem rowF_size (k : IntKind) (n : Nat) (f : Nat → Int) : (rowF k n f).size = n := by simp [rowF]
theorem rowF_get (k : IntKind) (n : Nat) (f : Nat → Int) (j : Nat) (h : j < n) : (rowF k n f)[j]? = some (.int k (f j)) := by
  simp [rowF, h]
theorem rowF_one (k : IntKind) (n : Nat) (f : Nat → Int) : (rowF k n f).all (·.oneCell') = true := by
  simp [rowF]
  intro a _
  rfl
theorem rowF_congr {k : IntKind} {n : Nat} {f g : Nat → Int} (h : ∀ j, j < n → f j = g j) : rowF k n f = rowF k n g := by
  unfold rowF
  congr 1
  apply List.map_congr_left
  intro j hj
  rw [h j (List.mem_range.1 hj)]
theorem rowF_set (k : IntKind) (n : Nat) (f : Nat → Int) (i : Nat) (v : Int) : (rowF k n f).setIfInBounds i (.int k v) = rowF k n (upd f i v) := by
  apply Array.ext
  · simp [rowF]
  · intro j h1 h2
    have hn : j < n := by simpa [rowF] using h2
    rw [Array.getElem_setIfInBounds (by rw [rowF_size]; exact hn)]
    by_cases e : i = j
    · subst e; simp [rowF, upd]
    · have e' : ¬ j = i := fun x => e x.symm
      simp [e, e', rowF, upd]
theorem IsB.cell {w : World} {g : Nat} {t : TypeId} {k : IntKind} {n : Nat} {f : Nat → Int} (h : IsB w g t k n f) {j : Nat} (hj : j < n) : w.cell? ⟨g, j, none⟩ = some (.int k (f j)) := by
  rw [cell_of_row w g j _ t (0, 0) h, rowF_get k n f j hj]
theorem IsB.frozen {w : World} {g : Nat} {t : TypeId} {k : IntKind} {n : Nat} {f : Nat → Int} (h : IsB w g t k n f) (j : Nat) : w.frozen? ⟨g, j, none⟩ = false :=
  frozen_of_row w g j _ t h
theorem IsB.set {w : World} {g : Nat} {t : TypeId} {k : IntKind} {n : Nat} {f : Nat → Int} (h : IsB w g t k n f) (i : Nat) (v : Int) : IsB (w.setCell ⟨g, i, none⟩ (.int k v)) g t k n (upd f i v) := by
  unfold IsB
  rw [heap_setCell_same w g i _ t _ h, rowF_set]
theorem IsB.set_other {w : World} {g : Nat} {t : TypeId} {k : IntKind} {n : Nat} {f : Nat → Int} (h : IsB w g t k n f) (a : Addr) (v : Value) (ha : g ≠ a.block) : IsB (w.setCell a v) g t k n f := by
  unfold IsB
  rw [heap_setCell_other w a g v ha]
  exact h
theorem IsB.congr {w : World} {g : Nat} {t : TypeId} {k : IntKind} {n : Nat} {f f' : Nat → Int} (h : IsB w g t k n f) (e : ∀ j, j < n → f j = f' j) : IsB w g t k n f' := by
  unfold IsB
  rw [← rowF_congr e]
  exact h
theorem IsB.lt {w : World} {g : Nat} {t : TypeId} {k : IntKind} {n : Nat} {f : Nat → Int} (h : IsB w g t k n f) : g < w.heap.size := by
  unfold IsB at h
  exact (Array.getElem?_eq_some_iff.1 h).1
theorem IsB.below {w w' : World} {g B : Nat} {t : TypeId} {k : IntKind} {n : Nat} {f : Nat → Int} (h : IsB w g t k n f) (b : Below B w w') (hg : g < B) : IsB w' g t k n f := by
  unfold IsB
  rw [b.block g hg]
  exact h
theorem IsB.of_heap {w w' : World} {g : Nat} {t : TypeId} {k : IntKind} {n : Nat} {f : Nat → Int} (h : IsB w g t k n f) (e : w'.heap[g]? = w.heap[g]?) : IsB w' g t k n f := by
  unfold IsB
  rw [e]
  exact h
theorem IsB.alloc {w : World} {g : Nat} {t : TypeId} {k : IntKind} {n : Nat} {f : Nat → Int} (h : IsB w g t k n f) (o : Obj) : IsB (w.alloc o) g t k n f := by
  unfold IsB
  rw [Below.heap_alloc w o g h.lt]
  exact h
theorem IsB.new (w : World) (t : TypeId) (k : IntKind) (n : Nat) (f : Nat → Int) : IsB (w.alloc (.cells (rowF k n f) t)) w.heap.size t k n f := by
  unfold IsB
  exact heap_alloc_last w _
/-! a whole row by value -/
theorem IsB.loadVar {P : Program} {w : World} {g : Nat} {t : TypeId} {k : IntKind} {n : Nat} {f : Nat → Int} (h : IsB w g t k n f) (ty e : TypeId) (hu : P.underlying ty = some (.array n e)) (hi : (P.info? ty).map (·.size) = some n) :
    (Go.loadVar ty ⟨g, 0, none⟩).run P w = .ok (.agg (rowF k n f)) w :=
  run_loadVar_row w g t ty _ (0, 0) _ h hu rfl (by rw [rowF_size]; exact hi)
theorem IsB.loadAt {P : Program} {w : World} {g : Nat} {t : TypeId} {k : IntKind} {n : Nat} {f : Nat → Int} (h : IsB w g t k n f) (ty e : TypeId) (hu : P.underlying ty = some (.array n e)) (hi : (P.info? ty).map (·.size) = some n) :
    (Instr.loadAt ty (.pointer (some ⟨g, 0, none⟩))).run P w = .ok (.agg (rowF k n f)) w := by
  simp only [Instr.loadAt, Instr.sureAddr, Sem.run_bind, Sem.run_pure, Result.andThen]
  exact h.loadVar ty e hu hi
theorem IsB.row {w : World} {g : Nat} {t : TypeId} {k : IntKind} {n : Nat} {f : Nat → Int} (h : IsB w g t k n f) (f' : Nat → Int) : IsB (w.setRow g (rowF k n f')) g t k n f' :=
  setRow_heap w g _ _ t _ h
theorem below_row {B : Nat} {w w' : World} (h : Below B w w') {g : Nat} (hB : B ≤ g) (c : Array Value) : Below B w (w'.setRow g c) :=
  h.trans ⟨rfl, rfl, rfl, by simp [World.setRow], fun j hj => setRow_other w' g j _ (by omega)⟩
theorem row_size (w : World) (g : Nat) (c : Array Value) : (w.setRow g c).heap.size = w.heap.size := by simp [World.setRow]
theorem IsB.storeAt {P : Program} {w : World} {g : Nat} {t : TypeId} {k : IntKind} {n : Nat} {f : Nat → Int} (h : IsB w g t k n f) (ty : TypeId) (hi : (P.info? ty).map (·.size) = some n) (f' : Nat → Int) :
    ∃ w', (Instr.storeAt ty (.pointer (some ⟨g, 0, none⟩)) (.agg (rowF k n f'))).run P w = .ok () w' ∧ IsB w' g t k n f' ∧ (∀ B, B ≤ g → Below B w w') ∧ w'.heap.size = w.heap.size ∧ ∀ j, j ≠ g → w'.heap[j]? = w.heap[j]? := by
  refine ⟨w.setRow g (rowF k n f'), ?_, ?_, ?_, by simp [World.setRow], fun j hj => setRow_other w g j _ hj⟩
  · simp only [Instr.storeAt, Instr.sureAddr, Sem.run_bind, Sem.run_pure, Result.andThen]
    exact run_storeVar_row w g t ty _ _ h (by rw [rowF_size]; exact hi) (by rw [rowF_size, rowF_size]) (rowF_one _ _ _)
  · exact setRow_heap w g _ _ t _ h
  · intro B hB
    exact ⟨rfl, rfl, rfl, by simp [World.setRow], fun j hj => setRow_other w g j _ (by omega)⟩
end Go.Proofs.YtjdlgpnhkfdehaaGreatDoor.Sh


/- Rows of numbers in memory: as a slice that came in sees them, and as a block of the call's own. -/
namespace Go.Proofs.YtjdlgpnhkfdehaaGreatDoor.In
open Go.RowKit
def Ints (w : World) (B : Nat) (a : Option Addr) (l : List Int) : Prop :=
  l = [] ∨ ∃ b off, a = some ⟨b, off, none⟩ ∧ b < B ∧ ∀ j (h : j < l.length), w.cell? ⟨b, off + j, none⟩ = some (.int .i64 l[j])
theorem Ints.below {w w' : World} {B : Nat} {a : Option Addr} {l : List Int} (h : Ints w B a l) (hb : Below B w w') : Ints w' B a l := by
  rcases h with h0 | ⟨b, off, rfl, hlt, hc⟩
  · exact .inl h0
  · exact .inr ⟨b, off, rfl, hlt, fun j hj => (hb.cell (p := ⟨b, off + j, none⟩) hlt).trans (hc j hj)⟩
theorem Ints.mono {w : World} {B C : Nat} {a : Option Addr} {l : List Int} (h : Ints w B a l) (hBC : B ≤ C) : Ints w C a l := by
  rcases h with h0 | ⟨b, off, rfl, hlt, hc⟩
  · exact .inl h0
  · exact .inr ⟨b, off, rfl, Nat.lt_of_lt_of_le hlt hBC, hc⟩
theorem Ints.some {w : World} {B : Nat} {a : Option Addr} {l : List Int} (h : Ints w B a l) (hl : 0 < l.length) :
    ∃ b off, a = .some ⟨b, off, none⟩ ∧ b < B ∧ ∀ j (h : j < l.length), w.cell? ⟨b, off + j, none⟩ = .some (.int .i64 l[j]) := by
  rcases h with h0 | h
  · subst h0; simp at hl
  · exact h
theorem Ints.take {w : World} {B b off k : Nat} {l : List Int} (hB : b < B) (hc : ∀ j (h : j < l.length), w.cell? ⟨b, off + j, none⟩ = .some (.int .i64 l[j])) : Ints w B (.some ⟨b, off, none⟩) (l.take k) :=
  .inr ⟨b, off, rfl, hB, fun j hj => by
    have h1 : j < l.length := Nat.lt_of_lt_of_le hj (List.length_take_le' k l)
    rw [hc j h1, List.getElem_take]⟩
theorem Ints.drop {w : World} {B b off k : Nat} {l : List Int} (hB : b < B) (hc : ∀ j (h : j < l.length), w.cell? ⟨b, off + j, none⟩ = .some (.int .i64 l[j])) : Ints w B (.some ⟨b, off + k, none⟩) (l.drop k) :=
  .inr ⟨b, off + k, rfl, hB, fun j hj => by
    rw [List.length_drop] at hj
    rw [List.getElem_drop, ← hc (k + j) (by omega)]
    congr 2
    omega⟩
def irow (l : List Int) : Array Value := (l.map (Value.int .i64)).toArray
def IsI (w : World) (g : Nat) (t : TypeId) (l : List Int) : Prop := w.heap[g]? = some (.cells (irow l) t (0, 0))
theorem irow_size (l : List Int) : (irow l).size = l.length := by simp [irow]
theorem irow_get (l : List Int) (j : Nat) (h : j < l.length) : (irow l)[j]? = some (.int .i64 l[j]) := by simp [irow, h]
theorem irow_set (l : List Int) (i : Nat) (s : Int) : (irow l).setIfInBounds i (.int .i64 s) = irow (l.set i s) := by
  simp [irow, List.map_set]
theorem IsI.cell {w : World} {g t : Nat} {l : List Int} (h : IsI w g t l) {j : Nat} (hj : j < l.length) : w.cell? ⟨g, j, none⟩ = some (.int .i64 l[j]) := by
  rw [cell_of_row w g j _ t (0, 0) h, irow_get l j hj]
theorem IsI.frozen {w : World} {g t : Nat} {l : List Int} (h : IsI w g t l) (j : Nat) : w.frozen? ⟨g, j, none⟩ = false := frozen_of_row w g j _ t h
theorem IsI.set {w : World} {g t : Nat} {l : List Int} (h : IsI w g t l) (i : Nat) (s : Int) : IsI (w.setCell ⟨g, i, none⟩ (.int .i64 s)) g t (l.set i s) := by
  unfold IsI
  rw [heap_setCell_same w g i _ t _ h, irow_set]
theorem IsI.set_other {w : World} {g t : Nat} {l : List Int} (h : IsI w g t l) (a : Addr) (v : Value) (ha : g ≠ a.block) : IsI (w.setCell a v) g t l := by
  unfold IsI
  rw [heap_setCell_other w a g v ha]
  exact h
theorem IsI.lt {w : World} {g t : Nat} {l : List Int} (h : IsI w g t l) : g < w.heap.size := (Array.getElem?_eq_some_iff.1 h).1
theorem IsI.below {w w' : World} {g t B : Nat} {l : List Int} (h : IsI w g t l) (b : Below B w w') (hg : g < B) : IsI w' g t l := by
  unfold IsI
  rw [b.block g hg]
  exact h
theorem IsI.ints {w : World} {g t B : Nat} {l : List Int} (h : IsI w g t l) (hB : g < B) : Ints w B (some ⟨g, 0, none⟩) l :=
  .inr ⟨g, 0, rfl, hB, fun j hj => by rw [Nat.zero_add]; exact h.cell hj⟩
def mid (l : List Int) (k : Nat) : List Int := l.take k ++ List.replicate (l.length - k) 0
theorem made_ints {w : World} {base e g n : Nat} (h : w.ownsRow base e 1 (.slice (some ⟨g, 0, none⟩) n n) n (madeCells (Value.int .i64 0).cells (n * 1)).toList) : IsI w g e (List.replicate n 0) := by
  obtain ⟨_, h⟩ := h
  rcases h with ⟨h, _⟩ | ⟨g', cap, cur, hv, _, hb, _, _, hsz, htk⟩
  · simp at h
  · simp at hv
    obtain ⟨rfl, rfl⟩ := hv
    have hm : (madeCells (Value.int .i64 0).cells (n * 1)).toList = (irow (List.replicate n 0)).toList := by
      rw [Nat.mul_one]
      have := toList_madeCells_one (.int .i64 0) n
      simp only [irow, List.map_replicate]
      exact this
    rw [hm, List.take_of_length_le (by simp [hsz])] at htk
    have : cur = irow (List.replicate n 0) := by simpa using htk
    rw [this] at hb
    exact hb
theorem Tryz.infoI2 : (Tryz.prog.info? 2).map (fun i => (i.zero, i.size, i.bytes)) = some (some (.int .i64 0), 1, 8) := by kernel_rfl
end Go.Proofs.YtjdlgpnhkfdehaaGreatDoor.In


/- The laws' own helpers on rows of numbers: the budget of their sizes, and whether two are alike. -/
namespace Go.Proofs.YtjdlgpnhkfdehaaGreatDoor.In
open Go.RowKit
end Go.Proofs.YtjdlgpnhkfdehaaGreatDoor.In

