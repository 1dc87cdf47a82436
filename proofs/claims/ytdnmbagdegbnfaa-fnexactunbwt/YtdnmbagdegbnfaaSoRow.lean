/- Rows of places in memory, as a sort in place passes through them; and the plain row that each is. -/
import Derived.Test.YtdnmbagdegbnfaaSortPlain
import Derived.Test.YtdnmbagdegbnfaaChecked
import Derived.Shelf.SlSortCmp.InsertionK
import Derived.WalkKit
import Derived.WalkSpells
import Derived.WalkLawsBesides
import Derived.BigRegion
import Derived.BigQuiet
import Derived.Deep.QuietTactic
namespace Go.Proofs.Ytdnmbagdegbnfaa.So
open Go.RowKit Go.Sort Go.Proofs

theorem hideO {p : Prop} (h : p) : Hid p := h
/-- the places of an array, as a plain row -/
def dF (d : Array Nat) : Nat → Nat := fun i => d[i]!
theorem dF_swp (d : Array Nat) (i j : Nat) (hi : i < d.size) (hj : j < d.size) : dF (Go.Sort.swp d i j) = So.swp (dF d) i j := by
  funext k
  unfold dF So.swp
  rw [Go.Sort.swp_get d hi hj]
theorem dF_out (d : Array Nat) (i : Nat) (h : d.size ≤ i) : dF d i = 0 := by
  unfold dF
  rw [getElem!_neg d i (by omega)]
  rfl
theorem mixed : Try.prog.follows .mixedOrders = true := by kernel_rfl

/-- a turn in memory: its place and its text -/
def encT (T : Nat → ByteArray) (x : Nat) : List Value := [.int .i64 x, .string (T x)]
theorem encT_len (T : Nat → ByteArray) : ∀ x, (encT T x).length = 2 := fun _ => rfl
theorem encT_one (T : Nat → ByteArray) : ∀ x, ∀ v ∈ encT T x, v.oneCell' = true := by
  intro x v hv
  simp [encT] at hv
  rcases hv with rfl | rfl <;> rfl
theorem cells_T {T : Nat → ByteArray} {w : World} {blk : Nat} {d : Array Nat} (h : HoldsK (encT T) 2 w blk 0 d) {i : Nat} (hi : i < d.size) :
    w.cell? ⟨blk, i * 2, none⟩ = some (.int .i64 (d[i]! : Nat)) ∧ w.frozen? ⟨blk, i * 2, none⟩ = false ∧ w.cell? ⟨blk, i * 2 + 1, none⟩ = some (.string (T d[i]!)) ∧ w.frozen? ⟨blk, i * 2 + 1, none⟩ = false := by
  have x0 := h.cell (i := i) (c := 0) hi (by omega)
  have x1 := h.cell (i := i) (c := 1) hi (by omega)
  rw [Nat.zero_add, Nat.add_zero] at x0
  rw [Nat.zero_add] at x1
  exact ⟨x0.1, x0.2, x1.1, x1.2⟩
/-- a place alone -/
def encI (x : Nat) : List Value := [.int .i64 x]
theorem encI_len : ∀ x, (encI x).length = 1 := fun _ => rfl

/-- a store in a region, its run laid ahead -/
theorem step_store {P : Program} {ops : Array Oper} {a : Act} {w : World} {K : Act → World → Prop} {Q : Exit → Act → World → Prop} {E : Prop} {ty tt : TypeId} {pos : String} {af : Array Edge} (p v : Operand)
    (w1 : World) (ad val : Value) (hp : a.eval p = ad) (hv : a.eval v = val) (hr : (Instr.storeAt ty ad val).run P w = .ok () w1) (h : K a w1) :
    if Region.wanted ⟨none, .store ty p v, tt, pos, af, none⟩ (yielded ops a.tmps) = true then Oper.wp P ⟨none, .store ty p v, tt, pos, af, none⟩ a w K Q else E := by
  have hw : Region.wanted ⟨none, .store ty p v, tt, pos, af, none⟩ (yielded ops a.tmps) = true := by simp [Region.wanted]
  rw [if_pos hw]
  unfold Oper.wp
  simp [execOp, hp, hv, hr, Result.andThen]
  exact h
theorem store_T (W : World) (blk p : Nat) (T : Nat → ByteArray) (y u : Nat) (U : ByteArray) (h0 : W.cell? ⟨blk, p * 2, none⟩ = some (.int .i64 u)) (h1 : W.cell? ⟨blk, p * 2 + 1, none⟩ = some (.string U)) (f0 : W.frozen? ⟨blk, p * 2, none⟩ = false) (f1 : W.frozen? ⟨blk, p * 2 + 1, none⟩ = false) :
   (Instr.storeAt 92 (.pointer (some ⟨blk, p * 2, none⟩)) (.agg #[.int .i64 y, .string (T y)])).run Try.prog W = .ok () (W.setCells blk (p * 2) (encT T y)) := by
  have e : W.setCells blk (p * 2) (encT T y) = (W.setCell ⟨blk, p * 2, none⟩ (.int .i64 y)).setCell ⟨blk, p * 2 + 1, none⟩ (.string (T y)) := rfl
  rw [e]
  clear e
  go_simp

section
variable {enc : Nat → List Value} {k : Nat} {w : World} {blk off : Nat} {d : Array Nat}
theorem world_self (h : HoldsK enc k w blk off d) : w = sortWorldK enc k w blk off 0 d #[] := by
  unfold sortWorldK
  rw [grow_empty]
  exact (putRowK_self enc k w blk off d h).symm
theorem world_holds (h : HoldsK enc k w blk off d) (hb : blk < w.heap.size) (m : Nat) (d' : Array Nat) (os : Array Obj) (hs : d'.size = d.size) : HoldsK enc k (sortWorldK enc k w blk off m d' os) blk off d' :=
  holdsK_sortWorldK_c enc k w blk off d d' m os h hb hs
theorem world_drew (m : Nat) (d' : Array Nat) (os : Array Obj) : (sortWorldK enc k w blk off m d' os).drew = sortWorldK enc k w blk off (m + 1) d' os := rfl
theorem world_size (m : Nat) (d' : Array Nat) (os : Array Obj) : w.heap.size ≤ (sortWorldK enc k w blk off m d' os).heap.size := size_sortWorldK_c enc k w blk off m d' os
/-- a world that the sort passes through, seen from another one -/
theorem world_world (m n : Nat) (d' d'' : Array Nat) (os os' : Array Obj) (hb : blk < w.heap.size) (hs : d''.size = d'.size) :
    sortWorldK enc k (sortWorldK enc k w blk off m d' os) blk off n d'' os' = sortWorldK enc k w blk off (m + n) d'' (os ++ os') := by
  unfold sortWorldK
  exact grow_step_growK enc k w os os' m n blk off d' d'' hb hs
/-- blocks other than the row stay -/
theorem world_block (m : Nat) (d' : Array Nat) (os : Array Obj) {j : Nat} (hj : j < w.heap.size) (hne : j ≠ blk) : (sortWorldK enc k w blk off m d' os).heap[j]? = w.heap[j]? := by
  unfold sortWorldK
  rw [heap_grow_old _ _ (by rw [size_putRowK]; exact hj)]
  unfold putRowK putRow mapBlock
  simp only [Array.getElem?_modify]
  rw [if_neg (fun h => hne h.symm)]
  rfl
theorem world_below (m : Nat) (d' : Array Nat) (os : Array Obj) {B : Nat} (hB : B ≤ blk) (hw : B ≤ w.heap.size) : Below B w (sortWorldK enc k w blk off m d' os) :=
  ⟨rfl, rfl, rfl, world_size m d' os, fun j hj => world_block m d' os (by omega) (by omega)⟩
theorem holds_block {w' : World} (h : HoldsK enc k w blk off d) (e : w'.heap[blk]? = w.heap[blk]?) : HoldsK enc k w' blk off d := by
  intro j hj
  have := h j hj
  simp only [World.cell?, World.frozen?] at this ⊢
  rw [e]
  exact this
end
end Go.Proofs.Ytdnmbagdegbnfaa.So
