/- The walk of impl.joinTexts: it answers the two texts one behind the other, and writes nothing that was there. -/
import Derived.Test.YtkfipamdfpknpaaDoorMemBase
namespace Go.Proofs.YtkfipamdfpknpaaDoor.Nu
open Go.RowKit

set_option maxRecDepth 100000 in
set_option maxHeartbeats 1000000 in
theorem join_some (a b : ByteArray) (w : World) (h : a.size + b.size ≤ 1099511627776) (hb : ¬ b = ByteArray.empty) :
    Calls Tryd.prog 47 #[.string a, .string b] w fun e w' => e = .returned (.string (a ++ b)) ∧ Below w.heap.size w w' := by
  obtain ⟨i0, hi, hz0, hz1, hz2⟩ := info_parts Tryd.infoJ5
  go_enter Tryd.func47, Tryd.ntmps47
  go_wp2_with (at_make; refine wpList_make_full _ rfl (.tmp 10) (.tmp 10) 80 rfl w.heap.size 5 i0 (.int .u8 0) 1 Tryd.underlying80 hi hz0 hz1 .i64 .i64 _ _ (a.size + b.size) rfl rfl (by simp) (by simp) (by rw [hz2]; omega) (by unfold maxLen; omega) (Nat.le_refl _) ?_; intro w1 hown1 hgrow1; obtain ⟨cur, hblk, hlen⟩ := made_block hown1; have hbel1 := (Below.refl w.heap.size w).grown hgrow1 (Nat.le_refl _) (by simp); obtain ⟨w2, w3, c1, c2, c3, hb3⟩ := join_facts (P := Tryd.prog) (ty := 3) (sT := 9) (a := a) (b := b) (dp := some ⟨w.heap.size, a.size, none⟩) (dLen := b.size) (dCap := b.size) Tryd.underlying80 Tryd.underlying5 Tryd.underlying9 Tryd.sizeJ5 hblk hlen rfl hbel1 (fun _ => rfl) (Nat.le_refl _); clear hown1 hgrow1 hblk hlen hbel1)
  go_ret
  exact ⟨rfl, by assumption⟩

set_option maxRecDepth 100000 in
set_option maxHeartbeats 1000000 in
theorem join_none (a : ByteArray) (w : World) (h : a.size ≤ 1099511627776) :
    Calls Tryd.prog 47 #[.string a, .string ByteArray.empty] w fun e w' => e = .returned (.string (a ++ ByteArray.empty)) ∧ Below w.heap.size w w' := by
  obtain ⟨i0, hi, hz0, hz1, hz2⟩ := info_parts Tryd.infoJ5
  go_enter Tryd.func47, Tryd.ntmps47
  go_wp2_with (at_make; refine wpList_make_full _ rfl (.tmp 10) (.tmp 10) 80 rfl w.heap.size 5 i0 (.int .u8 0) 1 Tryd.underlying80 hi hz0 hz1 .i64 .i64 _ _ a.size rfl rfl (by simp) (by simp) (by rw [hz2]; omega) (by unfold maxLen; omega) (Nat.le_refl _) ?_; intro w1 hown1 hgrow1; obtain ⟨cur, hblk, hlen⟩ := made_block hown1; have hbel1 := (Below.refl w.heap.size w).grown hgrow1 (Nat.le_refl _) (by simp); obtain ⟨w2, w3, c1, c2, c3, hb3⟩ := join_facts (P := Tryd.prog) (ty := 3) (sT := 9) (a := a) (b := ByteArray.empty) (dp := some ⟨w.heap.size, 0, none⟩) (dLen := 0) (dCap := 0) Tryd.underlying80 Tryd.underlying5 Tryd.underlying9 Tryd.sizeJ5 hblk hlen (by simp) hbel1 (by simp) (by simp); clear hown1 hgrow1 hblk hlen hbel1)
  go_ret
  exact ⟨ret_strJ (by simp), by assumption⟩

theorem join_any (a b : ByteArray) (w : World) (h : a.size + b.size ≤ 1099511627776) :
    Calls Tryd.prog 47 #[.string a, .string b] w fun e w' => e = .returned (.string (a ++ b)) ∧ Below w.heap.size w w' := by
  by_cases hb : b = ByteArray.empty
  · subst hb
    exact join_none a w (by omega)
  · exact join_some a b w h hb
end Go.Proofs.YtkfipamdfpknpaaDoor.Nu
