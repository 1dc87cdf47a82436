/- Rows of trees in memory. -/
import Derived.Test.YtmkpakhpjgocjaaHuffOf
import Derived.Test.YtmkpakhpjgocjaaIntOwn
import Derived.Laws.OwnMore
namespace Go.Proofs.Ytmkpakhpjgocjaa.Hf
open Go.RowKit

theorem hideH {p : Prop} (h : p) : Hid p := h
/-- a tree with the slice of its symbols -/
abbrev MT := Tree × Value
def cells : List MT → List Value
  | [] => []
  | x :: m => .int .i64 (x.1.1 : Nat) :: x.2 :: cells m
theorem cells_length : ∀ m : List MT, (cells m).length = m.length * 2
  | [] => rfl
  | x :: m => by
    rw [cells, List.length_cons, List.length_cons, cells_length m, List.length_cons]
    omega
theorem cells_append : ∀ m k : List MT, cells (m ++ k) = cells m ++ cells k
  | [], k => rfl
  | x :: m, k => by
    rw [List.cons_append, cells, cells, cells_append m k]
    rfl
theorem cells_at : ∀ (m : List MT) (i : Nat) (h : i < m.length), (cells m)[i * 2]? = some (.int .i64 (m[i].1.1 : Nat)) ∧ (cells m)[i * 2 + 1]? = some m[i].2
  | x :: m, 0, _ => ⟨rfl, rfl⟩
  | x :: m, i + 1, h => by
    have := cells_at m i (Nat.lt_of_succ_lt_succ h)
    rw [cells, show (i + 1) * 2 = i * 2 + 2 by omega, show i * 2 + 2 + 1 = (i * 2 + 1) + 2 by omega]
    exact this
/-- the symbols that a slice holds -/
def Sym (W : World) (v : Value) (s : List Nat) : Prop :=
  ∃ g cap cur, v = .slice (some ⟨g, 0, none⟩) s.length cap ∧ W.heap[g]? = some (.cells cur 3 (0, 0)) ∧ s.length ≤ cap ∧ ∀ j (h : j < s.length), cur[j]? = some (.int .i64 (s[j] : Nat))
/-- no row of symbols turns -/
def Keeps (W W' : World) : Prop := ∀ (g : Nat) (cur : Array Value), W.heap[g]? = some (.cells cur 3 (0, 0)) → W'.heap[g]? = some (.cells cur 3 (0, 0))
theorem Keeps.refl (W : World) : Keeps W W := fun _ _ h => h
theorem Keeps.trans {W W' W'' : World} (h : Keeps W W') (k : Keeps W' W'') : Keeps W W'' := fun g cur e => k g cur (h g cur e)
theorem lt_row {w : World} {g : Nat} {o : Obj} (h : w.heap[g]? = some o) : g < w.heap.size := (Array.getElem?_eq_some_iff.1 h).1
theorem Keeps.below {W W' : World} (h : Below W.heap.size W W') : Keeps W W' := fun g _ e => (h.block g (lt_row e)).trans e
theorem Keeps.set {W : World} {g : Nat} {cs : Array Value} {e : TypeId} (hg : W.heap[g]? = some (.cells cs e (0, 0))) (he : e ≠ 3) (i : Nat) (v : Value) : Keeps W (W.setCell ⟨g, i, none⟩ v) := fun k cur h => by
  rw [heap_setCell_other W _ k v (by
    rintro rfl
    rw [hg] at h
    simp at h
    exact he h.2)]
  exact h
theorem Sym.keeps {W W' : World} {v : Value} {s : List Nat} (h : Sym W v s) (k : Keeps W W') : Sym W' v s := by
  obtain ⟨g, cap, cur, hv, hg, hc⟩ := h
  exact ⟨g, cap, cur, hv, k g cur hg, hc⟩
theorem Sym.cell {W : World} {v : Value} {s : List Nat} (h : Sym W v s) : ∃ g cap, v = .slice (some ⟨g, 0, none⟩) s.length cap ∧ g < W.heap.size ∧ s.length ≤ cap ∧ ∀ j (h : j < s.length), W.cell? ⟨g, j, none⟩ = some (.int .i64 (s[j] : Nat)) := by
  obtain ⟨g, cap, cur, hv, hg, hs, hc⟩ := h
  exact ⟨g, cap, hv, lt_row hg, hs, fun j hj => (cell_of_row W g j _ _ _ hg).trans (hc j hj)⟩
/-- a row of trees that a call owns -/
def OwnT (W : World) (e : TypeId) (base : Nat) (v : Value) (m : List MT) : Prop := W.ownsRow base e 2 v m.length (cells m)
def Syms (W : World) (m : List MT) : Prop := ∀ x ∈ m, Sym W x.2 x.1.2
theorem Syms.keeps {W W' : World} {m : List MT} (h : Syms W m) (k : Keeps W W') : Syms W' m := fun x hx => (h x hx).keeps k
theorem OwnT.slice {W : World} {e : TypeId} {base : Nat} {v : Value} {m : List MT} (h : OwnT W e base v m) (h0 : 0 < m.length) : ∃ g cap cur, v = .slice (some ⟨g, 0, none⟩) m.length cap ∧ base ≤ g ∧ m.length ≤ cap ∧ W.heap[g]? = some (.cells cur e (0, 0)) ∧ cur.size = cap * 2 ∧ cur.toList.take (m.length * 2) = cells m := by
  obtain ⟨_, h⟩ := h
  rcases h with ⟨_, h⟩ | ⟨g, cap, cur, hv, hg, hb, hn, _, hs, ht⟩
  · omega
  · exact ⟨g, cap, cur, hv, hg, hn, hb, hs, ht⟩
theorem row_at {W : World} {e : TypeId} {g : Nat} {cur : Array Value} {m : List MT} (hb : W.heap[g]? = some (.cells cur e (0, 0))) (ht : cur.toList.take (m.length * 2) = cells m) (i : Nat) (hi : i < m.length) :
    W.cell? ⟨g, i * 2, none⟩ = some (.int .i64 (m[i].1.1 : Nat)) ∧ W.cell? ⟨g, i * 2 + 1, none⟩ = some m[i].2 := by
  have hc := cells_at m i hi
  rw [← ht] at hc
  rw [List.getElem?_take_of_lt (by omega), List.getElem?_take_of_lt (by omega), Array.getElem?_toList, Array.getElem?_toList] at hc
  exact ⟨(cell_of_row W g _ _ _ _ hb).trans hc.1, (cell_of_row W g _ _ _ _ hb).trans hc.2⟩
def mt (m : List MT) : List Tree := m.map (·.1)
theorem mt_length (m : List MT) : (mt m).length = m.length := List.length_map ..
theorem wt_mt (m : List MT) (i : Nat) (h : i < m.length) : wt (mt m) i = m[i].1.1 := by
  unfold wt mt
  rw [List.getD_eq_getElem?_getD, List.getElem?_map, List.getElem?_eq_getElem h]
  rfl
end Go.Proofs.Ytmkpakhpjgocjaa.Hf
