/- Texts put together: IntMark, IntOwn, HuRow. -/
import Derived.Test.YtmkpakhpjgocjaaCz1
import Derived.Test.YtmkpakhpjgocjaaStrO
import Derived.Laws.AppendOwn
import Derived.Test.YtmkpakhpjgocjaaCz0
import Derived.Laws.OwnMore
/- The laws' marks in rows of numbers: written, and found again. -/
namespace Go.Proofs.Ytmkpakhpjgocjaa.In
open Go.RowKit
open Go.Proofs.Ytmkpakhpjgocjaa.St (Aft)

/-- a block whose head is a row of numbers -/
def IsO (w : World) (g t : Nat) (l : List Int) : Prop := ∃ cur : Array Value, w.heap[g]? = some (.cells cur t (0, 0)) ∧ ∀ j (h : j < l.length), cur[j]? = some (.int .i64 l[j])
theorem IsO.cell {w : World} {g t : Nat} {l : List Int} (h : IsO w g t l) {j : Nat} (hj : j < l.length) : w.cell? ⟨g, j, none⟩ = some (.int .i64 l[j]) := by
  obtain ⟨cur, hb, hc⟩ := h
  rw [cell_of_row w g j _ t (0, 0) hb, hc j hj]
theorem IsO.frozen {w : World} {g t : Nat} {l : List Int} (h : IsO w g t l) (j : Nat) : w.frozen? ⟨g, j, none⟩ = false := by
  obtain ⟨cur, hb, _⟩ := h
  exact frozen_of_row w g j _ t hb
theorem IsO.set {w : World} {g t : Nat} {l : List Int} (h : IsO w g t l) (i : Nat) (s : Int) : IsO (w.setCell ⟨g, i, none⟩ (.int .i64 s)) g t (l.set i s) := by
  obtain ⟨cur, hb, hc⟩ := h
  refine ⟨_, heap_setCell_same w g i _ t _ hb, fun j hj => ?_⟩
  rw [List.length_set] at hj
  rw [Array.getElem?_setIfInBounds, List.getElem_set]
  have hlt : j < cur.size := (Array.getElem?_eq_some_iff.1 (hc j hj)).1
  by_cases e : i = j
  · subst e
    simp [hlt]
  · simp [e, hc j hj]
theorem IsO.lt {w : World} {g t : Nat} {l : List Int} (h : IsO w g t l) : g < w.heap.size := by
  obtain ⟨cur, hb, _⟩ := h
  exact (Array.getElem?_eq_some_iff.1 hb).1
theorem IsO.of_heap {w w' : World} {g t : Nat} {l : List Int} (h : IsO w g t l) (e : w'.heap[g]? = w.heap[g]?) : IsO w' g t l := by
  obtain ⟨cur, hb, hc⟩ := h
  exact ⟨cur, by rw [e]; exact hb, hc⟩
theorem IsO.below {w w' : World} {g t B : Nat} {l : List Int} (h : IsO w g t l) (b : Below B w w') (hg : g < B) : IsO w' g t l := h.of_heap (b.block g hg)
theorem IsO.ints {w : World} {g t B : Nat} {l : List Int} (h : IsO w g t l) (hB : g < B) : Ints w B (some ⟨g, 0, none⟩) l :=
  .inr ⟨g, 0, rfl, hB, fun j hj => by rw [Nat.zero_add]; exact h.cell hj⟩
theorem IsI.own {w : World} {g t : Nat} {l : List Int} (h : IsI w g t l) : IsO w g t l := ⟨irow l, h, fun j hj => irow_get l j hj⟩

def marks (k n : Nat) : List Int := (List.range n).map fun j => ((k + j : Nat) : Int)
theorem marks_length (k n : Nat) : (marks k n).length = n := by simp [marks]
theorem marks_get (k n j : Nat) (h : j < (marks k n).length) : (marks k n)[j] = ((k + j : Nat) : Int) := by simp [marks]
/-- a row of numbers, the first i marked -/
def mmid (l : List Int) (k i : Nat) : List Int := marks k i ++ l.drop i
theorem mmid_length (l : List Int) (k i : Nat) (h : i ≤ l.length) : (mmid l k i).length = l.length := by simp [mmid, marks_length]; omega
theorem mmid_zero (l : List Int) (k : Nat) : mmid l k 0 = l := by simp [mmid, marks]
theorem mmid_all (l : List Int) (k : Nat) : mmid l k l.length = marks k l.length := by simp [mmid]
theorem mmid_next (l : List Int) (k i : Nat) (h : i < l.length) : (mmid l k i).set i (((k + i : Nat) : Int)) = mmid l k (i + 1) := by
  unfold mmid
  rw [List.set_append, if_neg (by rw [marks_length]; omega), marks_length, Nat.sub_self]
  have : marks k (i + 1) = marks k i ++ [((k + i : Nat) : Int)] := by simp [marks, List.range_succ]
  rw [this, List.append_assoc]
  congr 1
  rw [List.drop_eq_getElem_cons h]
  rfl

theorem mark_eq {w : World} {g t k : Nat} {l : List Int} (h : IsO w g t (l.set k (1 + (k : Int)))) : IsO w g t (l.set k ((1 + k : Nat) : Int)) := by
  rw [show ((1 + k : Nat) : Int) = 1 + (k : Int) by omega]
  exact h

set_option maxRecDepth 100000 in
set_option maxHeartbeats 1000000 in
theorem mark_any (g t c : Nat) (l : List Int) (w : World) (h : IsO w g t l) (hn : l.length ≤ 1048576) :
    Calls Try.prog 55 #[.slice (some ⟨g, 0, none⟩) l.length c, .int .i64 1] w fun e w' => e = .returned (.int .i64 (1 + l.length)) ∧ IsO w' g t (marks 1 l.length) ∧ Aft g w w' := by
  have HS := hideI h
  have hgl := h.lt
  clear h
  obtain ⟨n, hln⟩ : ∃ n, n = l.length := ⟨_, rfl⟩
  have HLN := hideI hln
  rw [← hln] at hn ⊢
  clear hln
  go_enter Try.func55, Try.ntmps55
  go_wp2_with fail
  go_loopw [5, 1] (fun i kv wr => ∃ k : Nat, i = .int .i64 k ∧ kv = .int .i64 (1 + k) ∧ k ≤ n ∧ IsO wr g t (mmid l 1 k) ∧ Aft g w wr) (fun i _ _ => n - (intOf i).toNat)
  case atStart => exact ⟨0, rfl, rfl, by omega, by rw [mmid_zero]; exact HS.out, Aft.refl _ _⟩
  case round =>
    obtain ⟨k, rfl, rfl, hk, h1, ha⟩ := hrel
    have G1 := hideI h1
    have GA := hideI ha
    by_cases hlt : k < n
    · have hkl : k < l.length := by rw [← HLN.out]; exact hlt
      have HM := hideI (mmid_next l 1 k hkl)
      have HL := hideI (mmid_length l 1 k (by omega))
      have cf := h1.frozen k
      obtain ⟨v0, ce⟩ : ∃ v, wr.cell? ⟨g, k, none⟩ = some (.int .i64 v) := ⟨_, h1.cell (j := k) (by rw [HL.out]; exact hkl)⟩
      clear h1 ha
      go_wp2_with fail
      go_roundw
      case rel => exact ⟨k + 1, by go_num, by go_num, by omega, by rw [← HM.out]; exact mark_eq (G1.out.set k _), GA.out.set k _⟩
      case measure => simp [intOf]; omega
    · have HE : Hid (mmid l 1 k = marks 1 n) := by
        unfold Hid
        rw [show k = l.length by have := HLN.out; omega, HLN.out]
        exact mmid_all l 1
      obtain ⟨k', hk'⟩ : ∃ k' : Nat, k' = k := ⟨_, rfl⟩
      have HKN : Hid ((1 : Int) + k = 1 + n) := by
        unfold Hid
        omega
      clear h1 ha
      go_wp2_with fail
      go_ret
      exact ⟨by rw [← HKN.out]; rfl, by rw [← HE.out]; exact G1.out, GA.out⟩
end Go.Proofs.Ytmkpakhpjgocjaa.In

/- Rows of numbers that a call has made and owns: nil, or a block of its own whose head they are. -/
namespace Go.Proofs.Ytmkpakhpjgocjaa.In
open Go.RowKit
open Go.Proofs.Ytmkpakhpjgocjaa.St (Aft)

def OwnI (w : World) (base : Nat) (v : Value) (l : List Int) : Prop := w.ownsRow base 2 1 v l.length (l.map (Value.int .i64))
theorem OwnI.nil (w : World) (base : Nat) : OwnI w base (.slice none 0 0) [] := World.ownsRow_nil w base _ _
theorem OwnI.split {w : World} {base : Nat} {v : Value} {l : List Int} (h : OwnI w base v l) :
    (v = .slice none 0 0 ∧ l = []) ∨ ∃ g cap, v = .slice (some ⟨g, 0, none⟩) l.length cap ∧ base ≤ g ∧ l.length ≤ cap ∧ IsO w g 2 l := by
  obtain ⟨_, h⟩ := h
  rcases h with ⟨h, h0⟩ | ⟨g, cap, cur, hv, hg, hb, hnc, _, hsz, htk⟩
  · exact .inl ⟨h, List.eq_nil_of_length_eq_zero h0⟩
  · refine .inr ⟨g, cap, hv, hg, hnc, cur, hb, fun j hj => ?_⟩
    rw [← Array.getElem?_toList]
    have h1 : cur.toList[j]? = (cur.toList.take (l.length * 1))[j]? := by rw [List.getElem?_take_of_lt (by omega)]
    rw [h1, htk]
    simp [hj]
theorem OwnI.below {w w' : World} {base : Nat} {v : Value} {l : List Int} (h : OwnI w base v l) (b : Below w.heap.size w w') : OwnI w' base v l := by
  obtain ⟨hl, h⟩ := h
  refine ⟨hl, ?_⟩
  rcases h with h | ⟨g, cap, cur, hv, hg, hb, rest⟩
  · exact .inl h
  · exact .inr ⟨g, cap, cur, hv, hg, by rw [b.block g (Array.getElem?_eq_some_iff.1 hb).1]; exact hb, rest⟩
theorem OwnI.mono {w : World} {base base' : Nat} {v : Value} {l : List Int} (h : OwnI w base v l) (hb : base' ≤ base) : OwnI w base' v l := by
  obtain ⟨hl, h⟩ := h
  refine ⟨hl, ?_⟩
  rcases h with h | ⟨g, cap, cur, hv, hg, rest⟩
  · exact .inl h
  · exact .inr ⟨g, cap, cur, hv, Nat.le_trans hb hg, rest⟩
/-- as any slice of numbers -/
theorem OwnI.ints {w : World} {base : Nat} {v : Value} {l : List Int} (h : OwnI w base v l) : ∃ a cap, v = .slice a l.length cap ∧ l.length ≤ cap ∧ Ints w w.heap.size a l := by
  rcases h.split with ⟨rfl, rfl⟩ | ⟨g, cap, rfl, _, hc, ho⟩
  · exact ⟨none, 0, rfl, Nat.le_refl _, .inl rfl⟩
  · exact ⟨_, cap, rfl, hc, ho.ints ho.lt⟩
theorem one_newI (W : World) (s : Int) (t : TypeId) : ∀ (j : Nat) (u : Value), [(Value.int .i64) s][j]? = some u → (W.alloc (.cells #[.int .i64 s] t)).cell? ((⟨W.heap.size, 0, none⟩ : Addr).add j) = some u := by
  intro j u hj
  match j, hj with
  | 0, hj => simp at hj; subst hj; simp [Addr.add]
theorem one_cellI (s : Int) : ∀ u ∈ [(Value.int .i64) s], u.oneCell' = true := by
  intro u hu
  simp at hu
  subst hu
  rfl
/-- behind an append of one text -/
theorem OwnI.snoc {w : World} {base : Nat} {v : Value} {l : List Int} {s : Int} (h : w.ownsRow base 2 1 v (l.length + 1) (l.map (Value.int .i64) ++ [.int .i64 s])) : OwnI w base v (l ++ [s]) := by
  unfold OwnI
  rw [List.length_append, List.map_append]
  exact h
theorem app_one {B base : Nat} {e : TypeId} {w0 w w1 : World} {v : Value} {n size : Nat} {xs : List Value} {o : Obj} (hbel : Below B w0 w) (hB : B ≤ w.heap.size) (hBb : B ≤ base)
    (hown : w.ownsRow base e size v n xs) (hgrow : (w.alloc o).grownBy w1 v.ownBlock) : Below B w0 w1 := by
  refine (hbel.alloc hB o).grown hgrow (by simp; omega) ?_
  intro k hk
  exact Nat.le_trans hBb (hown.lt k hk).1
end Go.Proofs.Ytmkpakhpjgocjaa.In

/- Rows of trees in memory. -/
namespace Go.Proofs.Ytmkpakhpjgocjaa.Hf
open Go.RowKit

theorem hideH {p : Prop} (h : p) : Hid p := h
/-- a tree with the slice of its symbols -/
abbrev MT := Tree × Value
def cells : List MT → List Value
  | [] => []
  | x :: m => .int .i64 (x.1.1 : Nat) :: x.2 :: cells m
theorem cells_length : ∀ m : List MT, (cells m).length = m.length * 2
  | [] => rfl
  | x :: m => by
    rw [cells, List.length_cons, List.length_cons, cells_length m, List.length_cons]
    omega
theorem cells_append : ∀ m k : List MT, cells (m ++ k) = cells m ++ cells k
  | [], k => rfl
  | x :: m, k => by
    rw [List.cons_append, cells, cells, cells_append m k]
    rfl
theorem cells_at : ∀ (m : List MT) (i : Nat) (h : i < m.length), (cells m)[i * 2]? = some (.int .i64 (m[i].1.1 : Nat)) ∧ (cells m)[i * 2 + 1]? = some m[i].2
  | x :: m, 0, _ => ⟨rfl, rfl⟩
  | x :: m, i + 1, h => by
    have := cells_at m i (Nat.lt_of_succ_lt_succ h)
    rw [cells, show (i + 1) * 2 = i * 2 + 2 by omega, show i * 2 + 2 + 1 = (i * 2 + 1) + 2 by omega]
    exact this
/-- the symbols that a slice holds -/
def Sym (W : World) (v : Value) (s : List Nat) : Prop :=
  ∃ g cap cur, v = .slice (some ⟨g, 0, none⟩) s.length cap ∧ W.heap[g]? = some (.cells cur 3 (0, 0)) ∧ s.length ≤ cap ∧ ∀ j (h : j < s.length), cur[j]? = some (.int .i64 (s[j] : Nat))
/-- no row of symbols turns -/
def Keeps (W W' : World) : Prop := ∀ (g : Nat) (cur : Array Value), W.heap[g]? = some (.cells cur 3 (0, 0)) → W'.heap[g]? = some (.cells cur 3 (0, 0))
theorem Keeps.refl (W : World) : Keeps W W := fun _ _ h => h
theorem Keeps.trans {W W' W'' : World} (h : Keeps W W') (k : Keeps W' W'') : Keeps W W'' := fun g cur e => k g cur (h g cur e)
theorem lt_row {w : World} {g : Nat} {o : Obj} (h : w.heap[g]? = some o) : g < w.heap.size := (Array.getElem?_eq_some_iff.1 h).1
theorem Keeps.below {W W' : World} (h : Below W.heap.size W W') : Keeps W W' := fun g _ e => (h.block g (lt_row e)).trans e
theorem Keeps.set {W : World} {g : Nat} {cs : Array Value} {e : TypeId} (hg : W.heap[g]? = some (.cells cs e (0, 0))) (he : e ≠ 3) (i : Nat) (v : Value) : Keeps W (W.setCell ⟨g, i, none⟩ v) := fun k cur h => by
  rw [heap_setCell_other W _ k v (by
    rintro rfl
    rw [hg] at h
    simp at h
    exact he h.2)]
  exact h
theorem Sym.keeps {W W' : World} {v : Value} {s : List Nat} (h : Sym W v s) (k : Keeps W W') : Sym W' v s := by
  obtain ⟨g, cap, cur, hv, hg, hc⟩ := h
  exact ⟨g, cap, cur, hv, k g cur hg, hc⟩
theorem Sym.cell {W : World} {v : Value} {s : List Nat} (h : Sym W v s) : ∃ g cap, v = .slice (some ⟨g, 0, none⟩) s.length cap ∧ g < W.heap.size ∧ s.length ≤ cap ∧ ∀ j (h : j < s.length), W.cell? ⟨g, j, none⟩ = some (.int .i64 (s[j] : Nat)) := by
  obtain ⟨g, cap, cur, hv, hg, hs, hc⟩ := h
  exact ⟨g, cap, hv, lt_row hg, hs, fun j hj => (cell_of_row W g j _ _ _ hg).trans (hc j hj)⟩
/-- a row of trees that a call owns -/
def OwnT (W : World) (e : TypeId) (base : Nat) (v : Value) (m : List MT) : Prop := W.ownsRow base e 2 v m.length (cells m)
def Syms (W : World) (m : List MT) : Prop := ∀ x ∈ m, Sym W x.2 x.1.2
theorem Syms.keeps {W W' : World} {m : List MT} (h : Syms W m) (k : Keeps W W') : Syms W' m := fun x hx => (h x hx).keeps k
theorem OwnT.slice {W : World} {e : TypeId} {base : Nat} {v : Value} {m : List MT} (h : OwnT W e base v m) (h0 : 0 < m.length) : ∃ g cap cur, v = .slice (some ⟨g, 0, none⟩) m.length cap ∧ base ≤ g ∧ m.length ≤ cap ∧ W.heap[g]? = some (.cells cur e (0, 0)) ∧ cur.size = cap * 2 ∧ cur.toList.take (m.length * 2) = cells m := by
  obtain ⟨_, h⟩ := h
  rcases h with ⟨_, h⟩ | ⟨g, cap, cur, hv, hg, hb, hn, _, hs, ht⟩
  · omega
  · exact ⟨g, cap, cur, hv, hg, hn, hb, hs, ht⟩
theorem row_at {W : World} {e : TypeId} {g : Nat} {cur : Array Value} {m : List MT} (hb : W.heap[g]? = some (.cells cur e (0, 0))) (ht : cur.toList.take (m.length * 2) = cells m) (i : Nat) (hi : i < m.length) :
    W.cell? ⟨g, i * 2, none⟩ = some (.int .i64 (m[i].1.1 : Nat)) ∧ W.cell? ⟨g, i * 2 + 1, none⟩ = some m[i].2 := by
  have hc := cells_at m i hi
  rw [← ht] at hc
  rw [List.getElem?_take_of_lt (by omega), List.getElem?_take_of_lt (by omega), Array.getElem?_toList, Array.getElem?_toList] at hc
  exact ⟨(cell_of_row W g _ _ _ _ hb).trans hc.1, (cell_of_row W g _ _ _ _ hb).trans hc.2⟩
def mt (m : List MT) : List Tree := m.map (·.1)
theorem mt_length (m : List MT) : (mt m).length = m.length := List.length_map ..
theorem wt_mt (m : List MT) (i : Nat) (h : i < m.length) : wt (mt m) i = m[i].1.1 := by
  unfold wt mt
  rw [List.getD_eq_getElem?_getD, List.getElem?_map, List.getElem?_eq_getElem h]
  rfl
end Go.Proofs.Ytmkpakhpjgocjaa.Hf
