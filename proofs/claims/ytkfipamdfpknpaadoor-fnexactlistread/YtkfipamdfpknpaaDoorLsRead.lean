/- ListRead: what both sides answer. -/
import Derived.Test.YtkfipamdfpknpaaDoorLsBytes2
import Derived.Test.YtkfipamdfpknpaaDoorLsOut
import Derived.Test.YtkfipamdfpknpaaDoorGetTextWalks
import Derived.Test.YtkfipamdfpknpaaDoorGetTextSpec
namespace Go.Proofs.YtkfipamdfpknpaaDoor.Ls
open Go.RowKit
open Go.Proofs.YtkfipamdfpknpaaDoor.Gn (rd getV getV_rd outN handle rt outT textV numR run run_end handle_below rd_codes)

theorem num_all (s : ByteArray) (a : Int) : getV s a = .agg #[.int .i64 (rd s a).1, .int .i64 (rd s a).2.1, .int .i64 (rd s a).2.2] := by
  rw [getV_rd]
  rcases rd_codes s a with h | ⟨h, h1, h2⟩
  · rw [if_pos h, h]
    rfl
  · rw [if_neg h, h1, h2]
    rfl
theorem text_all (s : ByteArray) (a : Int) : textV s a = .agg #[.string (rt s a).1, .int .i64 (rt s a).2.1, .int .i64 (rt s a).2.2] := rfl
theorem eq_listL (a b : ByteArray) : (a.toList == b.toList) = decide (a = b) := by
  by_cases h : a = b
  · subst h
    simp
  · rw [decide_eq_false h, beq_eq_false_iff_ne]
    intro q
    refine h (bytes_extL ?_)
    rw [ByteArray.toList_eq, ByteArray.toList_eq] at q
    exact q
theorem rd_empty (s : ByteArray) (h : s.size = 0) : ¬ (rd s 0).2.2 = 0 := by
  unfold rd
  rw [if_neg (by omega), if_neg (by decide)]
  show ¬ (numR s 0).2.2 = 0
  unfold numR
  rw [run_end s 9 0 0 0 (by omega)]
  decide
theorem no_block {z b : Int} {r : ByteArray} (h : b = 0 ∨ r = ⟨#[]⟩) : bytesL z b r = ⟨#[]⟩ := by
  refine bytesL_no ?_
  unfold rightB
  refine decide_eq_false ?_
  rcases h with h | h
  · omega
  · rw [h]
    intro q
    exact absurd q.2.2.2.2.1 (by decide)
theorem bytes_some {z b : Int} {r s : ByteArray} (h : bytesL z b r = s) (hs : ¬ s.size = 0) : 1 ≤ b := by
  cases hr : rightB z b r with
  | false =>
    rw [bytesL_no hr] at h
    rw [← h] at hs
    exact absurd rfl hs
  | true => exact (rightB_yes hr).2.2.1
def zR (s : ByteArray) : Int := (rd s 0).1
def bR (s : ByteArray) : Int := (rd s (rd s 0).2.1).1
def rR (s : ByteArray) : ByteArray := (rt s (rd s (rd s 0).2.1).2.1).1
/-- what stands in a text, read as a list -/
def okR (s : ByteArray) : Prop := ¬ s.size = 0 ∧ bytesL (zR s) (bR s) (rR s) = s
noncomputable def readV (s : ByteArray) : Value := open Classical in if 8000 < s.size then oV 0 0 ⟨#[]⟩ 2 else if okR s then oV (zR s) (bR s) (rR s) 0 else oV 0 0 ⟨#[]⟩ 3
/-- a fault in reading leaves no list -/
theorem fault_no {s : ByteArray} (h : ¬ (rd s 0).2.2 = 0 ∨ ¬ (rd s (rd s 0).2.1).2.2 = 0 ∨ ¬ (rt s (rd s (rd s 0).2.1).2.1).2.2 = 0) : ¬ okR s := by
  rintro ⟨h0, hb⟩
  have hn : bytesL (zR s) (bR s) (rR s) = ⟨#[]⟩ := by
    refine no_block ?_
    rcases h with h | h | h
    · left
      unfold bR
      rcases rd_codes s 0 with q | ⟨q, q1, q2⟩
      · exact absurd q h
      · rw [q2]
        exact q1
    · left
      unfold bR
      rcases rd_codes s ((rd s 0).2.1 : Nat) with q | ⟨q, q1, q2⟩
      · exact absurd q h
      · exact q1
    · right
      exact (Gn.rt_codes s _ h).1
  rw [hn] at hb
  rw [← hb] at h0
  exact h0 rfl
theorem set_j3 {W : World} {g : Nat} {x y z : Value} {T : TypeId} (h : W.heap[g]? = some (.cells #[x, y, z] T (0, 0))) (v : Value) : (W.setCell ⟨g, 0, none⟩ v).heap[g]? = some (.cells #[v, y, z] T (0, 0)) ∧ (W.setCell ⟨g, 1, none⟩ v).heap[g]? = some (.cells #[x, v, z] T (0, 0)) ∧ (W.setCell ⟨g, 2, none⟩ v).heap[g]? = some (.cells #[x, y, v] T (0, 0)) := by
  refine ⟨?_, ?_, ?_⟩
  · rw [heap_setCell_same W g 0 _ T v h]; rfl
  · rw [heap_setCell_same W g 1 _ T v h]; rfl
  · rw [heap_setCell_same W g 2 _ T v h]; rfl
theorem set3_all {W : World} {g : Nat} {x y z : Value} {T : TypeId} (h : W.heap[g]? = some (.cells #[x, y, z] T (0, 0))) (a b c : Value) :
    (((W.setCell ⟨g, 0, none⟩ a).setCell ⟨g, 1, none⟩ b).setCell ⟨g, 2, none⟩ c).cell? ⟨g, 0, none⟩ = some a ∧ (((W.setCell ⟨g, 0, none⟩ a).setCell ⟨g, 1, none⟩ b).setCell ⟨g, 2, none⟩ c).cell? ⟨g, 1, none⟩ = some b ∧ (((W.setCell ⟨g, 0, none⟩ a).setCell ⟨g, 1, none⟩ b).setCell ⟨g, 2, none⟩ c).cell? ⟨g, 2, none⟩ = some c := cells3 (set_j3 (set_j3 (set_j3 h a).1 b).2.1 c).2.2
theorem set3_down {B : Nat} {w W : World} (h : Below B w W) (a b c : Value) : Below B w (((W.setCell ⟨B, 0, none⟩ a).setCell ⟨B, 1, none⟩ b).setCell ⟨B, 2, none⟩ c) := ((h.setCell (p := ⟨B, 0, none⟩) (Nat.le_refl _) a).setCell (p := ⟨B, 1, none⟩) (Nat.le_refl _) b).setCell (p := ⟨B, 2, none⟩) (Nat.le_refl _) c
end Go.Proofs.YtkfipamdfpknpaaDoor.Ls
