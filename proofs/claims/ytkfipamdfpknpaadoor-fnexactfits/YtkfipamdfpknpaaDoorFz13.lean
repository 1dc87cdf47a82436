/- Texts put together: StrOwn, BlkImpl. -/
import Derived.Test.YtkfipamdfpknpaaDoorFz12
import Derived.Laws.AppendOwn
import Derived.Test.YtkfipamdfpknpaaDoorFz11
/- Rows of texts that a call has made and owns: nil, or a block of its own whose head they are. -/
namespace Go.Proofs.YtkfipamdfpknpaaDoor.St
open Go.RowKit
def OwnS (w : World) (base : Nat) (v : Value) (l : List ByteArray) : Prop := w.ownsRow base 9 1 v l.length (l.map Value.string)
theorem OwnS.nil (w : World) (base : Nat) : OwnS w base (.slice none 0 0) [] := World.ownsRow_nil w base _ _
theorem OwnS.split {w : World} {base : Nat} {v : Value} {l : List ByteArray} (h : OwnS w base v l) :
    (v = .slice none 0 0 ∧ l = []) ∨ ∃ g cap, v = .slice (some ⟨g, 0, none⟩) l.length cap ∧ base ≤ g ∧ l.length ≤ cap ∧ IsO w g 9 l := by
  obtain ⟨_, h⟩ := h
  rcases h with ⟨h, h0⟩ | ⟨g, cap, cur, hv, hg, hb, hnc, _, hsz, htk⟩
  · exact .inl ⟨h, List.eq_nil_of_length_eq_zero h0⟩
  · refine .inr ⟨g, cap, hv, hg, hnc, cur, hb, fun j hj => ?_⟩
    rw [← Array.getElem?_toList]
    have h1 : cur.toList[j]? = (cur.toList.take (l.length * 1))[j]? := by rw [List.getElem?_take_of_lt (by omega)]
    rw [h1, htk]
    simp [hj]
theorem OwnS.below {w w' : World} {base : Nat} {v : Value} {l : List ByteArray} (h : OwnS w base v l) (b : Below w.heap.size w w') : OwnS w' base v l := by
  obtain ⟨hl, h⟩ := h
  refine ⟨hl, ?_⟩
  rcases h with h | ⟨g, cap, cur, hv, hg, hb, rest⟩
  · exact .inl h
  · exact .inr ⟨g, cap, cur, hv, hg, by rw [b.block g (Array.getElem?_eq_some_iff.1 hb).1]; exact hb, rest⟩
theorem OwnS.mono {w : World} {base base' : Nat} {v : Value} {l : List ByteArray} (h : OwnS w base v l) (hb : base' ≤ base) : OwnS w base' v l := by
  obtain ⟨hl, h⟩ := h
  refine ⟨hl, ?_⟩
  rcases h with h | ⟨g, cap, cur, hv, hg, rest⟩
  · exact .inl h
  · exact .inr ⟨g, cap, cur, hv, Nat.le_trans hb hg, rest⟩
theorem OwnS.strs {w : World} {base : Nat} {v : Value} {l : List ByteArray} (h : OwnS w base v l) : ∃ a cap, v = .slice a l.length cap ∧ l.length ≤ cap ∧ Strs w w.heap.size a l := by
  rcases h.split with ⟨rfl, rfl⟩ | ⟨g, cap, rfl, _, hc, ho⟩
  · exact ⟨none, 0, rfl, Nat.le_refl _, .inl rfl⟩
  · exact ⟨_, cap, rfl, hc, ho.strs ho.lt⟩
end Go.Proofs.YtkfipamdfpknpaaDoor.St


/- The walk of impl.Blocks. -/
namespace Go.Proofs.YtkfipamdfpknpaaDoor.Bk
open Go.RowKit
open Go.Proofs.YtkfipamdfpknpaaDoor.St (OwnS)
end Go.Proofs.YtkfipamdfpknpaaDoor.Bk

