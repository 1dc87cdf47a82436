/- What both LeafHash and both NodeHash answer. -/
import Derived.Test.YtghghkfhcpldhaaDoorShaTop
import Derived.Test.YtghghkfhcpldhaaDoorJoinWalks
namespace Go.Proofs.YtghghkfhcpldhaaDoor.Sh
open Go.RowKit

theorem below3 {w w1 w2 w3 : World} (h1 : Below w.heap.size w w1) (h2 : Below w1.heap.size w1 w2) (h3 : Below w2.heap.size w2 w3) : Below w.heap.size w w3 :=
  have a := h1.trans (h2.mono h1.size)
  a.trans (h3.mono a.size)
def leafV (t : ByteArray) : ByteArray := sha (⟨#[0]⟩ ++ t)
def nodeV (a b : ByteArray) : ByteArray := sha (⟨#[1]⟩ ++ a ++ b)
theorem leafV_size (t : ByteArray) : (leafV t).size = 32 := sha_size _
theorem nodeV_size (a b : ByteArray) : (nodeV a b).size = 32 := sha_size _
theorem mark0_size (t : ByteArray) : ((⟨#[0]⟩ : ByteArray) ++ t).size = 1 + t.size := by
  rw [ByteArray.size_append]
  rfl
theorem mark1_size (t : ByteArray) : ((⟨#[1]⟩ : ByteArray) ++ t).size = 1 + t.size := by
  rw [ByteArray.size_append]
  rfl

theorem l03Leaf_any (t : ByteArray) (w : World) (ht : t.size ≤ 8000) :
    Calls Tryd.prog 57 #[.string t] w fun e w' => e = .returned (.string (leafV t)) ∧ Below w.heap.size w w' := by
  go_enter Tryd.func57, Tryd.ntmps57
  go_wp2_with fail
  refine (all_any _ w (by rw [mark0_size]; omega)).mono ?_
  rintro e w1 ⟨rfl, hb1⟩
  go_wp2_with fail
  go_ret
  exact ⟨rfl, hb1⟩

theorem l03Node_any (a b : ByteArray) (w : World) (ha : a.size ≤ 8000) (hb : b.size ≤ 8000) :
    Calls Tryd.prog 44 #[.string a, .string b] w fun e w' => e = .returned (.string (nodeV a b)) ∧ Below w.heap.size w w' := by
  go_enter Tryd.func44, Tryd.ntmps44
  go_wp2_with fail
  refine (all_any _ w (by rw [ByteArray.size_append, mark1_size]; omega)).mono ?_
  rintro e w1 ⟨rfl, hb1⟩
  go_wp2_with fail
  go_ret
  exact ⟨rfl, hb1⟩

def leafR (t : ByteArray) : ByteArray := if 100 < t.size then ⟨#[]⟩ else leafV t
theorem leafR_no (t : ByteArray) (h : 100 < t.size) : leafR t = ⟨#[]⟩ := if_pos h
theorem leafR_yes (t : ByteArray) (h : ¬ 100 < t.size) : leafR t = leafV t := if_neg h
def nodeR (a b : ByteArray) : ByteArray := if a.size = 32 ∧ b.size = 32 then nodeV a b else ⟨#[]⟩
theorem nodeR_no (a b : ByteArray) (h : ¬ (a.size = 32 ∧ b.size = 32)) : nodeR a b = ⟨#[]⟩ := if_neg h
theorem nodeR_yes (a b : ByteArray) (h : a.size = 32) (h' : b.size = 32) : nodeR a b = nodeV a b := if_pos ⟨h, h'⟩

theorem leaf_spec (t : ByteArray) (w : World) (ht : t.size ≤ maxLen) :
    Calls Tryd.prog 53 #[.string t] w fun e w' => e = .returned (.string (leafR t)) ∧ Below w.heap.size w w' := by
  unfold maxLen at ht
  by_cases h : 100 < t.size
  · have HP := hideS (leafR_no t h)
    go_enter Tryd.func53, Tryd.ntmps53
    go_wp2_with fail
    go_ret
    exact ⟨Nu.ret_strJ HP.out.symm, Below.refl _ _⟩
  · have HP := hideS (leafR_yes t h)
    go_enter Tryd.func53, Tryd.ntmps53
    go_wp2_with fail
    refine (l03Leaf_any t _ (by omega)).mono ?_
    rintro e w1 ⟨rfl, hb1⟩
    go_wp2_with fail
    go_ret
    exact ⟨Nu.ret_strJ HP.out.symm, hb1⟩

theorem leaf_impl (t : ByteArray) (w : World) (ht : t.size ≤ maxLen) (hV : Vars w) :
    Calls Tryd.prog 19 #[.string t] w fun e w' => e = .returned (.string (leafR t)) ∧ Below w.heap.size w w' := by
  have HT := hideS ht
  unfold maxLen at ht
  have HV := hideS hV
  have h2 := hV.two
  clear hV
  by_cases h : 100 < t.size
  · have HP := hideS (leafR_no t h)
    go_enter Tryd.func19, Tryd.ntmps19
    go_wp2_with fail
    go_ret
    exact ⟨Nu.ret_strJ HP.out.symm, Below.refl _ _⟩
  · have HP := hideS (leafR_yes t h)
    have HD := hideS (show digestV (⟨#[0]⟩ ++ t) = leafV t by unfold digestV leafV; rw [if_pos (by rw [mark0_size]; omega)])
    go_enter Tryd.func19, Tryd.ntmps19
    go_wp2_with fail
    refine (Nu.join_any ⟨#[0]⟩ t w (by rw [show (⟨#[0]⟩ : ByteArray).size = 1 from rfl]; omega)).mono ?_
    rintro e w1 ⟨rfl, hb1⟩
    go_wp2_with fail
    refine (digest_impl _ _ (by rw [mark0_size]; unfold maxLen; omega) (HV.out.below hb1 h2)).mono ?_
    rintro e w2 ⟨rfl, hb2⟩
    have HB := hideS (hb1.trans (hb2.mono hb1.size))
    clear hb1 hb2
    go_wp2_with fail
    go_ret
    exact ⟨Nu.ret_strJ (HD.out.trans HP.out.symm), HB.out⟩

theorem node_spec (a b : ByteArray) (w : World) :
    Calls Tryd.prog 27 #[.string a, .string b] w fun e w' => e = .returned (.string (nodeR a b)) ∧ Below w.heap.size w w' := by
  by_cases h : a.size = 32
  · by_cases h' : b.size = 32
    · have HP := hideS (nodeR_yes a b h h')
      go_enter Tryd.func27, Tryd.ntmps27
      go_wp2_with fail
      refine (l03Node_any a b _ (by omega) (by omega)).mono ?_
      rintro e w1 ⟨rfl, hb1⟩
      go_wp2_with fail
      go_ret
      exact ⟨Nu.ret_strJ HP.out.symm, hb1⟩
    · have HP := hideS (nodeR_no a b (fun x => h' x.2))
      go_enter Tryd.func27, Tryd.ntmps27
      go_wp2_with fail
      go_ret
      exact ⟨Nu.ret_strJ HP.out.symm, Below.refl _ _⟩
  · have HP := hideS (nodeR_no a b (fun x => h x.1))
    go_enter Tryd.func27, Tryd.ntmps27
    go_wp2_with fail
    go_ret
    exact ⟨Nu.ret_strJ HP.out.symm, Below.refl _ _⟩

theorem node_impl (a b : ByteArray) (w : World) (hV : Vars w) :
    Calls Tryd.prog 26 #[.string a, .string b] w fun e w' => e = .returned (.string (nodeR a b)) ∧ Below w.heap.size w w' := by
  have HV := hideS hV
  have h2 := hV.two
  clear hV
  by_cases h : a.size = 32
  · by_cases h' : b.size = 32
    · have HP := hideS (nodeR_yes a b h h')
      have HD := hideS (show digestV (⟨#[1]⟩ ++ (a ++ b)) = nodeV a b by unfold digestV nodeV; rw [if_pos (by rw [mark1_size, ByteArray.size_append]; omega), ByteArray.append_assoc])
      go_enter Tryd.func26, Tryd.ntmps26
      go_wp2_with fail
      refine (Nu.join_any a b w (by omega)).mono ?_
      rintro e w1 ⟨rfl, hb1⟩
      go_wp2_with fail
      refine (Nu.join_any ⟨#[1]⟩ (a ++ b) _ (by rw [show (⟨#[1]⟩ : ByteArray).size = 1 from rfl, ByteArray.size_append]; omega)).mono ?_
      rintro e w2 ⟨rfl, hb2⟩
      go_wp2_with fail
      refine (digest_impl _ _ (by rw [mark1_size, ByteArray.size_append]; unfold maxLen; omega) ((HV.out.below hb1 h2).below hb2 (by have := hb1.size; omega))).mono ?_
      rintro e w3 ⟨rfl, hb3⟩
      have HB := hideS (below3 hb1 hb2 hb3)
      clear hb1 hb2 hb3
      go_wp2_with fail
      go_ret
      exact ⟨Nu.ret_strJ (HD.out.trans HP.out.symm), HB.out⟩
    · have HP := hideS (nodeR_no a b (fun x => h' x.2))
      go_enter Tryd.func26, Tryd.ntmps26
      go_wp2_with fail
      go_ret
      exact ⟨Nu.ret_strJ HP.out.symm, Below.refl _ _⟩
  · have HP := hideS (nodeR_no a b (fun x => h x.1))
    go_enter Tryd.func26, Tryd.ntmps26
    go_wp2_with fail
    go_ret
    exact ⟨Nu.ret_strJ HP.out.symm, Below.refl _ _⟩
end Go.Proofs.YtghghkfhcpldhaaDoor.Sh
