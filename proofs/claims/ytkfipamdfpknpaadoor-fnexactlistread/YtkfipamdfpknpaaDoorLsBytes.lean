/- The bytes of a List: what both sides answer. -/
import Derived.Test.YtkfipamdfpknpaaDoorLsArg
import Derived.Test.YtkfipamdfpknpaaDoorPkCat
import Derived.Test.YtkfipamdfpknpaaDoorTextWalks
import Derived.Lib.QuietBelow
import Derived.Deep.RegionHeld3
import Derived.Deep.CutRange
namespace Go.Proofs.YtkfipamdfpknpaaDoor.Ls
open Go.RowKit
open Go.Proofs.YtkfipamdfpknpaaDoor.Pk (cat numsL join_any nums_any)
open Go.Proofs.YtkfipamdfpknpaaDoor.St (Strs)
open Go.Proofs.YtkfipamdfpknpaaDoor.In (Ints)
open Go.Proofs.YtkfipamdfpknpaaDoor.Nu (putS putT put_spec text_spec text_impl putS_size)

def bytesA (z b : Int) (r : ByteArray) : ByteArray := putS z ++ putS b ++ putT r
def bytesL (z b : Int) (r : ByteArray) : ByteArray := if rightB z b r = true then bytesA z b r else ⟨#[]⟩
theorem mixed : Tryd.prog.follows .mixedOrders = true := by kernel_rfl
theorem bytes_extL {a b : ByteArray} (h : a.data.toList = b.data.toList) : a = b := ByteArray.ext (by rw [← Array.toArray_toList (xs := a.data), h, Array.toArray_toList])
theorem ints_twoL {W : World} {g : Nat} {a b : Int} {t : TypeId} (h : W.heap[g]? = some (.cells #[.int .i64 a, .int .i64 b] t (0, 0))) : Ints W W.heap.size (some ⟨g, 0, none⟩) [a, b] :=
  .inr ⟨g, 0, rfl, (Array.getElem?_eq_some_iff.1 h).1, fun j hj => by
    rw [Nat.zero_add, cell_of_row W g j _ _ _ h]
    match j, hj with
    | 0, _ => rfl
    | 1, _ => rfl⟩
theorem strs_twoL {W : World} {g : Nat} {a b : ByteArray} {t : TypeId} (h : W.heap[g]? = some (.cells #[.string a, .string b] t (0, 0))) : Strs W W.heap.size (some ⟨g, 0, none⟩) [a, b] :=
  .inr ⟨g, 0, rfl, (Array.getElem?_eq_some_iff.1 h).1, fun j hj => by
    rw [Nat.zero_add, cell_of_row W g j _ _ _ h]
    match j, hj with
    | 0, _ => rfl
    | 1, _ => rfl⟩
theorem cat_bytes (z b : Int) (r : ByteArray) : (⟨(cat [⟨(numsL [z, b]).toArray⟩, putT r]).toArray⟩ : ByteArray) = bytesA z b r := by
  refine bytes_extL ?_
  unfold cat numsL bytesA
  simp
theorem putT_size (r : ByteArray) (h : r.size = 32) : (putT r).size ≤ 42 := by
  unfold putT
  rw [if_pos (by omega), ByteArray.size_append]
  have := putS_size (r.size : Int)
  omega
theorem lm_alloc {w W : World} (h : Below w.heap.size w W) (o : Obj) : Below w.heap.size w (W.alloc o) := h.alloc h.size o
theorem lm_drew {w W : World} (h : Below w.heap.size w W) : Below w.heap.size w W.drew := h.drew

set_option maxRecDepth 100000 in
set_option maxHeartbeats 4000000 in
theorem l07_spec (z b : Int) (r : ByteArray) (w : World) (hb : rightB z b r = true) :
    Calls Tryd.prog 37 #[lV z b r] w fun e w' => e = .returned (.string (bytesA z b r)) ∧ Below w.heap.size w w' := by
  have h := rightB_yes hb
  have HP1 := hideL (fun W => put_spec z W (by omega) (by omega))
  have HP2 := hideL (fun W => put_spec b W (by omega) (by omega))
  have HP3 := hideL (fun W => text_spec r W (by unfold maxLen; omega))
  have p1 := putS_size z
  have p2 := putS_size b
  have p3 := putT_size r h.2.2.2.2.1
  unfold lV bytesA
  clear h hb
  generalize putS z = P1 at HP1 p1 ⊢
  generalize putS b = P2 at HP2 p2 ⊢
  generalize putT r = P3 at HP3 p3 ⊢
  have n1 : ¬ 9223372036854775807 < P1.size + P2.size := by omega
  have n2 : ¬ 9223372036854775807 < P1.size + P2.size + P3.size := by omega
  have HX : Hid ((w.alloc (.cells #[.int .i64 z, .int .i64 b, .string r] 23)).heap[w.heap.size]? = some (.cells #[.int .i64 z, .int .i64 b, .string r] 23 (0, 0))) := heap_alloc_new w _
  have HA : Hid (Below w.heap.size w (w.alloc (.cells #[.int .i64 z, .int .i64 b, .string r] 23))) := (Below.refl _ _).alloc (Nat.le_refl _) _
  have hmx := mixed
  go_enter Tryd.func37, Tryd.ntmps37
  go_wp2_with fail
  generalize hww : w.alloc (.cells #[.int .i64 z, .int .i64 b, .string r] 23) = wa at HA HX ⊢
  clear hww
  obtain ⟨c0, c1, c2⟩ := cells3 HX.out
  generalize w.heap.size = gx at c0 c1 c2 ⊢
  have g0 := fun d os => cell_regrown c0 d os
  have g1 := fun d os => cell_regrown c1 d os
  have g2 := fun d os => cell_regrown c2 d os
  refine wp_region_quiet_below (by assumption) (by kernel_rfl) ?_
  repeat (quiet_step (first | (go_at_call_of 54 (Value.int IntKind.i64 z); exact Calls.regrown_of (HP1.out _)) | (go_at_call_of 54 (Value.int IntKind.i64 b); exact Calls.regrown_of (HP2.out _)) | (go_at_call 55; exact Calls.regrown_of (HP3.out _))))
  refine wpQuiet_nil ?_
  intro _ hw'
  obtain ⟨⟨dq, osq⟩, hw''⟩ := hw'
  subst hw''
  have KQ := hideL (below_regrown wa dq osq)
  generalize Go.Sort.grow (redrawn wa dq) osq = w8 at KQ ⊢
  clear g0 g1 g2 c0 c1 c2
  go_wp2_with fail
  go_ret
  exact ⟨rfl, lowL HA.out KQ.out⟩
end Go.Proofs.YtkfipamdfpknpaaDoor.Ls
