/- Texts put together: ShaTop, JoinWalks. -/
import Derived.Test.YtkfipamdfpknpaaDoorWy13
import Derived.Test.YtkfipamdfpknpaaDoorWy18
import Derived.Test.YtkfipamdfpknpaaDoorWy20
import Derived.Test.YtkfipamdfpknpaaDoorWy9
/- What both Digest answer, and the law on it. -/
namespace Go.Proofs.YtkfipamdfpknpaaDoor.Sh
open Go.RowKit
theorem all_any (t : ByteArray) (w : World) (ht : t.size ≤ 1048576) :
  Calls Tryd.prog 49 #[.string t] w fun e w' => e = .returned (.string (sha t)) ∧ Below w.heap.size w w' :=
 all_of (fun s gs c t w h1 h2 h3 h4 => block_any s gs c t w h1 h2 h3 h4) t w ht
def digestV (t : ByteArray) : ByteArray := if t.size ≤ 8000 then sha t else ⟨#[]⟩
theorem digest_impl (t : ByteArray) (w : World) (ht : t.size ≤ maxLen) (hV : Vars w) :
  Calls Tryd.prog 46 #[.string t] w fun e w' => e = .returned (.string (digestV t)) ∧ Below w.heap.size w w' := by
 unfold maxLen at ht
 have HV := hideS hV
 clear hV
 by_cases h : 8000 < t.size
 ·have HP := hideS (show digestV t = ⟨#[]⟩ by unfold digestV; rw [if_neg (by omega)])
  go_enter Tryd.func46, Tryd.ntmps46
  go_wp2_with fail
  go_ret
  exact ⟨Nu.ret_strJ HP.out.symm, Below.refl _ _⟩
 ·have HP := hideS (show digestV t = sha t by unfold digestV; rw [if_pos (by omega)])
  go_enter Tryd.func46, Tryd.ntmps46
  go_wp2_with fail
  refine (digestOf_any t w (by omega) HV.out).mono ?_
  rintro e w1 ⟨rfl, hb1⟩
  go_wp2_with fail
  go_ret
  exact ⟨Nu.ret_strJ HP.out.symm, hb1⟩
end Go.Proofs.YtkfipamdfpknpaaDoor.Sh


/- The walk of impl.joinTexts: it answers the two texts one behind the other, and writes nothing that was there. -/
namespace Go.Proofs.YtkfipamdfpknpaaDoor.Nu
open Go.RowKit
set_option maxRecDepth 100000 in
set_option maxHeartbeats 1000000 in
theorem join_some (a b : ByteArray) (w : World) (h : a.size + b.size ≤ 1099511627776) (hb : ¬ b = ByteArray.empty) :
  Calls Tryd.prog 47 #[.string a, .string b] w fun e w' => e = .returned (.string (a ++ b)) ∧ Below w.heap.size w w' := by
 obtain ⟨i0, hi, hz0, hz1, hz2⟩ := info_parts Tryd.infoJ5
 go_enter Tryd.func47, Tryd.ntmps47
 go_wp2_with (at_make; refine wpList_make_full _ rfl (.tmp 10) (.tmp 10) 80 rfl w.heap.size 5 i0 (.int .u8 0) 1 Tryd.underlying80 hi hz0 hz1 .i64 .i64 _ _ (a.size + b.size) rfl rfl (by simp) (by simp) (by rw [hz2]; omega) (by unfold maxLen; omega) (Nat.le_refl _) ?_; intro w1 hown1 hgrow1; obtain ⟨cur, hblk, hlen⟩ := made_block hown1; have hbel1 := (Below.refl w.heap.size w).grown hgrow1 (Nat.le_refl _) (by simp); obtain ⟨w2, w3, c1, c2, c3, hb3⟩ := join_facts (P := Tryd.prog) (ty := 3) (sT := 9) (a := a) (b := b) (dp := some ⟨w.heap.size, a.size, none⟩) (dLen := b.size) (dCap := b.size) Tryd.underlying80 Tryd.underlying5 Tryd.underlying9 Tryd.sizeJ5 hblk hlen rfl hbel1 (fun _ => rfl) (Nat.le_refl _); clear hown1 hgrow1 hblk hlen hbel1)
 go_ret
 exact ⟨rfl, by assumption⟩
set_option maxRecDepth 100000 in
set_option maxHeartbeats 1000000 in
theorem join_none (a : ByteArray) (w : World) (h : a.size ≤ 1099511627776) :
  Calls Tryd.prog 47 #[.string a, .string ByteArray.empty] w fun e w' => e = .returned (.string (a ++ ByteArray.empty)) ∧ Below w.heap.size w w' := by
 obtain ⟨i0, hi, hz0, hz1, hz2⟩ := info_parts Tryd.infoJ5
 go_enter Tryd.func47, Tryd.ntmps47
 go_wp2_with (at_make; refine wpList_make_full _ rfl (.tmp 10) (.tmp 10) 80 rfl w.heap.size 5 i0 (.int .u8 0) 1 Tryd.underlying80 hi hz0 hz1 .i64 .i64 _ _ a.size rfl rfl (by simp) (by simp) (by rw [hz2]; omega) (by unfold maxLen; omega) (Nat.le_refl _) ?_; intro w1 hown1 hgrow1; obtain ⟨cur, hblk, hlen⟩ := made_block hown1; have hbel1 := (Below.refl w.heap.size w).grown hgrow1 (Nat.le_refl _) (by simp); obtain ⟨w2, w3, c1, c2, c3, hb3⟩ := join_facts (P := Tryd.prog) (ty := 3) (sT := 9) (a := a) (b := ByteArray.empty) (dp := some ⟨w.heap.size, 0, none⟩) (dLen := 0) (dCap := 0) Tryd.underlying80 Tryd.underlying5 Tryd.underlying9 Tryd.sizeJ5 hblk hlen (by simp) hbel1 (by simp) (by simp); clear hown1 hgrow1 hblk hlen hbel1)
 go_ret
 exact ⟨ret_strJ (by simp), by assumption⟩
theorem join_any (a b : ByteArray) (w : World) (h : a.size + b.size ≤ 1099511627776) :
  Calls Tryd.prog 47 #[.string a, .string b] w fun e w' => e = .returned (.string (a ++ b)) ∧ Below w.heap.size w w' := by
 by_cases hb : b = ByteArray.empty
 ·subst hb
  exact join_none a w (by omega)
 ·exact join_some a b w h hb
end Go.Proofs.YtkfipamdfpknpaaDoor.Nu

