/- Texts put together: NodeTop, TreePlain. -/
import Derived.Test.YtkfipamdfpknpaaDoorWy21
import Derived.Test.YtkfipamdfpknpaaDoorWy14
/- What both LeafHash and both NodeHash answer. -/
namespace Go.Proofs.YtkfipamdfpknpaaDoor.Sh
open Go.RowKit
theorem below3 {w w1 w2 w3 : World} (h1 : Below w.heap.size w w1) (h2 : Below w1.heap.size w1 w2) (h3 : Below w2.heap.size w2 w3) : Below w.heap.size w w3 :=
 have a := h1.trans (h2.mono h1.size)
 a.trans (h3.mono a.size)
def leafV (t : ByteArray) : ByteArray := sha (⟨#[0]⟩ ++ t)
def nodeV (a b : ByteArray) : ByteArray := sha (⟨#[1]⟩ ++ a ++ b)
theorem nodeV_size (a b : ByteArray) : (nodeV a b).size = 32 := sha_size _
theorem mark0_size (t : ByteArray) : ((⟨#[0]⟩ : ByteArray) ++ t).size = 1 + t.size := by
 rw [ByteArray.size_append]
 rfl
theorem mark1_size (t : ByteArray) : ((⟨#[1]⟩ : ByteArray) ++ t).size = 1 + t.size := by
 rw [ByteArray.size_append]
 rfl
def leafR (t : ByteArray) : ByteArray := if 100 < t.size then ⟨#[]⟩ else leafV t
theorem leafR_no (t : ByteArray) (h : 100 < t.size) : leafR t = ⟨#[]⟩ := if_pos h
theorem leafR_yes (t : ByteArray) (h : ¬ 100 < t.size) : leafR t = leafV t := if_neg h
def nodeR (a b : ByteArray) : ByteArray := if a.size = 32 ∧ b.size = 32 then nodeV a b else ⟨#[]⟩
theorem nodeR_no (a b : ByteArray) (h : ¬ (a.size = 32 ∧ b.size = 32)) : nodeR a b = ⟨#[]⟩ := if_neg h
theorem nodeR_yes (a b : ByteArray) (h : a.size = 32) (h' : b.size = 32) : nodeR a b = nodeV a b := if_pos ⟨h, h'⟩
theorem leaf_impl (t : ByteArray) (w : World) (ht : t.size ≤ maxLen) (hV : Vars w) :
  Calls Tryd.prog 28 #[.string t] w fun e w' => e = .returned (.string (leafR t)) ∧ Below w.heap.size w w' := by
 have HT := hideS ht
 unfold maxLen at ht
 have HV := hideS hV
 have h2 := hV.two
 clear hV
 by_cases h : 100 < t.size
 ·have HP := hideS (leafR_no t h)
  go_enter Tryd.func28, Tryd.ntmps28
  go_wp2_with fail
  go_ret
  exact ⟨Nu.ret_strJ HP.out.symm, Below.refl _ _⟩
 ·have HP := hideS (leafR_yes t h)
  have HD := hideS (show digestV (⟨#[0]⟩ ++ t) = leafV t by unfold digestV leafV; rw [if_pos (by rw [mark0_size]; omega)])
  go_enter Tryd.func28, Tryd.ntmps28
  go_wp2_with fail
  refine (Nu.join_any ⟨#[0]⟩ t w (by rw [show (⟨#[0]⟩ : ByteArray).size = 1 from rfl]; omega)).mono ?_
  rintro e w1 ⟨rfl, hb1⟩
  go_wp2_with fail
  refine (digest_impl _ _ (by rw [mark0_size]; unfold maxLen; omega) (HV.out.below hb1 h2)).mono ?_
  rintro e w2 ⟨rfl, hb2⟩
  have HB := hideS (hb1.trans (hb2.mono hb1.size))
  clear hb1 hb2
  go_wp2_with fail
  go_ret
  exact ⟨Nu.ret_strJ (HD.out.trans HP.out.symm), HB.out⟩
theorem node_impl (a b : ByteArray) (w : World) (hV : Vars w) :
  Calls Tryd.prog 79 #[.string a, .string b] w fun e w' => e = .returned (.string (nodeR a b)) ∧ Below w.heap.size w w' := by
 have HV := hideS hV
 have h2 := hV.two
 clear hV
 by_cases h : a.size = 32
 ·by_cases h' : b.size = 32
  ·have HP := hideS (nodeR_yes a b h h')
   have HD := hideS (show digestV (⟨#[1]⟩ ++ (a ++ b)) = nodeV a b by unfold digestV nodeV; rw [if_pos (by rw [mark1_size, ByteArray.size_append]; omega), ByteArray.append_assoc])
   go_enter Tryd.func79, Tryd.ntmps79
   go_wp2_with fail
   refine (Nu.join_any a b w (by omega)).mono ?_
   rintro e w1 ⟨rfl, hb1⟩
   go_wp2_with fail
   refine (Nu.join_any ⟨#[1]⟩ (a ++ b) _ (by rw [show (⟨#[1]⟩ : ByteArray).size = 1 from rfl, ByteArray.size_append]; omega)).mono ?_
   rintro e w2 ⟨rfl, hb2⟩
   go_wp2_with fail
   refine (digest_impl _ _ (by rw [mark1_size, ByteArray.size_append]; unfold maxLen; omega) ((HV.out.below hb1 h2).below hb2 (by have := hb1.size; omega))).mono ?_
   rintro e w3 ⟨rfl, hb3⟩
   have HB := hideS (below3 hb1 hb2 hb3)
   clear hb1 hb2 hb3
   go_wp2_with fail
   go_ret
   exact ⟨Nu.ret_strJ (HD.out.trans HP.out.symm), HB.out⟩
  ·have HP := hideS (nodeR_no a b (fun x => h' x.2))
   go_enter Tryd.func79, Tryd.ntmps79
   go_wp2_with fail
   go_ret
   exact ⟨Nu.ret_strJ HP.out.symm, Below.refl _ _⟩
 ·have HP := hideS (nodeR_no a b (fun x => h x.1))
  go_enter Tryd.func79, Tryd.ntmps79
  go_wp2_with fail
  go_ret
  exact ⟨Nu.ret_strJ HP.out.symm, Below.refl _ _⟩
end Go.Proofs.YtkfipamdfpknpaaDoor.Sh


/- Plain mathematics of trees of digests: where a list is cut, the tree of a list of texts. -/
namespace Go.Proofs.YtkfipamdfpknpaaDoor.Tr
open Go.Proofs.YtkfipamdfpknpaaDoor.Sh (sha sha_size leafV nodeV nodeV_size)
def half (n : Nat) : Nat := 2 ^ Nat.log2 (n - 1)
theorem half_pos (n : Nat) : 1 ≤ half n := Nat.one_le_two_pow
theorem half_lt (n : Nat) (h : 2 ≤ n) : half n < n := by
 have := Nat.log2_self_le (n := n - 1) (by omega)
 unfold half
 omega
theorem half_two (n : Nat) (h : 2 ≤ n) : n ≤ 2 * half n := by
 have := Nat.lt_log2_self (n := n - 1)
 unfold half
 rw [Nat.pow_succ] at this
 omega
def tree (l : List ByteArray) : ByteArray :=
 if h0 : l.length = 0 then sha ⟨#[]⟩
 else if h1 : l.length = 1 then leafV (l[0]'(by omega))
 else nodeV (tree (l.take (half l.length))) (tree (l.drop (half l.length)))
termination_by l.length
decreasing_by
 ·have := half_lt l.length (by omega)
  simp
  omega
 ·have := half_pos l.length
  simp
  omega
def right (l : List ByteArray) : Bool := decide (l.length ≤ 64) && l.all (fun s => decide (s.size ≤ 100))
def treeR (l : List ByteArray) : ByteArray := if right l = true then tree l else ⟨#[]⟩
end Go.Proofs.YtkfipamdfpknpaaDoor.Tr

