/- Texts put together: NodeTop, TreePlain, TreeHalf, TreeLen, TreeRight. -/
import Derived.Test.YtjdlgpnhkfdehaaGreatDoorLo46
import Derived.Test.YtjdlgpnhkfdehaaGreatDoorLo32
import Derived.Test.YtjdlgpnhkfdehaaGreatDoorLo13
import Derived.Test.YtjdlgpnhkfdehaaGreatDoorChecked
import Derived.Shelf.Strconv.Itoa0
import Derived.BigRegion
import Derived.BigQuiet
import Derived.Deep.QuietTactic
/- What both LeafHash and both NodeHash answer. -/
namespace Go.Proofs.YtjdlgpnhkfdehaaGreatDoor.Sh
open Go.RowKit
theorem below3 {w w1 w2 w3 : World} (h1 : Below w.heap.size w w1) (h2 : Below w1.heap.size w1 w2) (h3 : Below w2.heap.size w2 w3) : Below w.heap.size w w3 :=
  have a := h1.trans (h2.mono h1.size)
  a.trans (h3.mono a.size)
def leafV (t : ByteArray) : ByteArray := sha (⟨#[0]⟩ ++ t)
def nodeV (a b : ByteArray) : ByteArray := sha (⟨#[1]⟩ ++ a ++ b)
theorem leafV_size (t : ByteArray) : (leafV t).size = 32 := sha_size _
theorem nodeV_size (a b : ByteArray) : (nodeV a b).size = 32 := sha_size _
theorem mark0_size (t : ByteArray) : ((⟨#[0]⟩ : ByteArray) ++ t).size = 1 + t.size := by
  rw [ByteArray.size_append]
  rfl
theorem mark1_size (t : ByteArray) : ((⟨#[1]⟩ : ByteArray) ++ t).size = 1 + t.size := by
  rw [ByteArray.size_append]
  rfl
theorem l03Leaf_any (t : ByteArray) (w : World) (ht : t.size ≤ 8000) :
    Calls Tryz.prog 142 #[.string t] w fun e w' => e = .returned (.string (leafV t)) ∧ Below w.heap.size w w' := by
  go_enter Tryz.func142, Tryz.ntmps142
  go_wp2_with fail
  refine (all_any _ w (by rw [mark0_size]; omega)).mono ?_
  rintro e w1 ⟨rfl, hb1⟩
  go_wp2_with fail
  go_ret
  exact ⟨rfl, hb1⟩
theorem l03Node_any (a b : ByteArray) (w : World) (ha : a.size ≤ 8000) (hb : b.size ≤ 8000) :
    Calls Tryz.prog 192 #[.string a, .string b] w fun e w' => e = .returned (.string (nodeV a b)) ∧ Below w.heap.size w w' := by
  go_enter Tryz.func192, Tryz.ntmps192
  go_wp2_with fail
  refine (all_any _ w (by rw [ByteArray.size_append, mark1_size]; omega)).mono ?_
  rintro e w1 ⟨rfl, hb1⟩
  go_wp2_with fail
  go_ret
  exact ⟨rfl, hb1⟩
def leafR (t : ByteArray) : ByteArray := if 100 < t.size then ⟨#[]⟩ else leafV t
theorem leafR_no (t : ByteArray) (h : 100 < t.size) : leafR t = ⟨#[]⟩ := if_pos h
theorem leafR_yes (t : ByteArray) (h : ¬ 100 < t.size) : leafR t = leafV t := if_neg h
def nodeR (a b : ByteArray) : ByteArray := if a.size = 32 ∧ b.size = 32 then nodeV a b else ⟨#[]⟩
theorem nodeR_no (a b : ByteArray) (h : ¬ (a.size = 32 ∧ b.size = 32)) : nodeR a b = ⟨#[]⟩ := if_neg h
theorem nodeR_yes (a b : ByteArray) (h : a.size = 32) (h' : b.size = 32) : nodeR a b = nodeV a b := if_pos ⟨h, h'⟩
theorem leaf_impl (t : ByteArray) (w : World) (ht : t.size ≤ maxLen) (hV : Vars w) :
    Calls Tryz.prog 89 #[.string t] w fun e w' => e = .returned (.string (leafR t)) ∧ Below w.heap.size w w' := by
  have HT := hideS ht
  unfold maxLen at ht
  have HV := hideS hV
  have h2 := hV.two
  clear hV
  by_cases h : 100 < t.size
  · have HP := hideS (leafR_no t h)
    go_enter Tryz.func89, Tryz.ntmps89
    go_wp2_with fail
    go_ret
    exact ⟨Nu.ret_strJ HP.out.symm, Below.refl _ _⟩
  · have HP := hideS (leafR_yes t h)
    have HD := hideS (show digestV (⟨#[0]⟩ ++ t) = leafV t by unfold digestV leafV; rw [if_pos (by rw [mark0_size]; omega)])
    go_enter Tryz.func89, Tryz.ntmps89
    go_wp2_with fail
    refine (Nu.join_any ⟨#[0]⟩ t w (by rw [show (⟨#[0]⟩ : ByteArray).size = 1 from rfl]; omega)).mono ?_
    rintro e w1 ⟨rfl, hb1⟩
    go_wp2_with fail
    refine (digest_impl _ _ (by rw [mark0_size]; unfold maxLen; omega) (HV.out.below hb1 h2)).mono ?_
    rintro e w2 ⟨rfl, hb2⟩
    have HB := hideS (hb1.trans (hb2.mono hb1.size))
    clear hb1 hb2
    go_wp2_with fail
    go_ret
    exact ⟨Nu.ret_strJ (HD.out.trans HP.out.symm), HB.out⟩
theorem node_impl (a b : ByteArray) (w : World) (hV : Vars w) :
    Calls Tryz.prog 184 #[.string a, .string b] w fun e w' => e = .returned (.string (nodeR a b)) ∧ Below w.heap.size w w' := by
  have HV := hideS hV
  have h2 := hV.two
  clear hV
  by_cases h : a.size = 32
  · by_cases h' : b.size = 32
    · have HP := hideS (nodeR_yes a b h h')
      have HD := hideS (show digestV (⟨#[1]⟩ ++ (a ++ b)) = nodeV a b by unfold digestV nodeV; rw [if_pos (by rw [mark1_size, ByteArray.size_append]; omega), ByteArray.append_assoc])
      go_enter Tryz.func184, Tryz.ntmps184
      go_wp2_with fail
      refine (Nu.join_any a b w (by omega)).mono ?_
      rintro e w1 ⟨rfl, hb1⟩
      go_wp2_with fail
      refine (Nu.join_any ⟨#[1]⟩ (a ++ b) _ (by rw [show (⟨#[1]⟩ : ByteArray).size = 1 from rfl, ByteArray.size_append]; omega)).mono ?_
      rintro e w2 ⟨rfl, hb2⟩
      go_wp2_with fail
      refine (digest_impl _ _ (by rw [mark1_size, ByteArray.size_append]; unfold maxLen; omega) ((HV.out.below hb1 h2).below hb2 (by have := hb1.size; omega))).mono ?_
      rintro e w3 ⟨rfl, hb3⟩
      have HB := hideS (below3 hb1 hb2 hb3)
      clear hb1 hb2 hb3
      go_wp2_with fail
      go_ret
      exact ⟨Nu.ret_strJ (HD.out.trans HP.out.symm), HB.out⟩
    · have HP := hideS (nodeR_no a b (fun x => h' x.2))
      go_enter Tryz.func184, Tryz.ntmps184
      go_wp2_with fail
      go_ret
      exact ⟨Nu.ret_strJ HP.out.symm, Below.refl _ _⟩
  · have HP := hideS (nodeR_no a b (fun x => h x.1))
    go_enter Tryz.func184, Tryz.ntmps184
    go_wp2_with fail
    go_ret
    exact ⟨Nu.ret_strJ HP.out.symm, Below.refl _ _⟩
end Go.Proofs.YtjdlgpnhkfdehaaGreatDoor.Sh


/- Plain mathematics of trees of digests: where a list is cut, the tree of a list of texts. -/
namespace Go.Proofs.YtjdlgpnhkfdehaaGreatDoor.Tr
open Go.Proofs.YtjdlgpnhkfdehaaGreatDoor.Sh (sha sha_size leafV nodeV leafV_size nodeV_size)
def half (n : Nat) : Nat := 2 ^ Nat.log2 (n - 1)
theorem half_pos (n : Nat) : 1 ≤ half n := Nat.one_le_two_pow
theorem half_lt (n : Nat) (h : 2 ≤ n) : half n < n := by
  have := Nat.log2_self_le (n := n - 1) (by omega)
  unfold half
  omega
theorem half_of (n i : Nat) (h1 : 2 ^ i < n) (h2 : n ≤ 2 * 2 ^ i) : half n = 2 ^ i := by
  unfold half
  congr 1
  refine (Nat.log2_eq_iff (by omega)).2 ⟨by omega, ?_⟩
  rw [Nat.pow_succ]
  omega
def tree (l : List ByteArray) : ByteArray :=
  if h0 : l.length = 0 then sha ⟨#[]⟩
  else if h1 : l.length = 1 then leafV (l[0]'(by omega))
  else nodeV (tree (l.take (half l.length))) (tree (l.drop (half l.length)))
termination_by l.length
decreasing_by
  · have := half_lt l.length (by omega)
    simp
    omega
  · have := half_pos l.length
    simp
    omega
theorem tree_nil (l : List ByteArray) (h : l.length = 0) : tree l = sha ⟨#[]⟩ := by rw [tree, dif_pos h]
theorem tree_one (l : List ByteArray) (h : l.length = 1) : tree l = leafV (l[0]'(by omega)) := by rw [tree, dif_neg (by omega), dif_pos h]
theorem tree_two (l : List ByteArray) (h : 2 ≤ l.length) : tree l = nodeV (tree (l.take (half l.length))) (tree (l.drop (half l.length))) := by
  rw [tree, dif_neg (by omega), dif_neg (by omega)]
theorem tree_size (l : List ByteArray) : (tree l).size = 32 := by
  rw [tree]
  split
  · exact sha_size _
  · split
    · exact leafV_size _
    · exact nodeV_size _ _
def right (l : List ByteArray) : Bool := decide (l.length ≤ 64) && l.all (fun s => decide (s.size ≤ 100))
theorem right_yes (l : List ByteArray) : right l = true ↔ l.length ≤ 64 ∧ ∀ j (h : j < l.length), l[j].size ≤ 100 := by
  unfold right
  simp only [Bool.and_eq_true, decide_eq_true_eq, List.all_eq_true]
  constructor
  · rintro ⟨h1, h2⟩
    exact ⟨h1, fun j hj => h2 _ (List.getElem_mem hj)⟩
  · rintro ⟨h1, h2⟩
    refine ⟨h1, fun s hs => ?_⟩
    obtain ⟨j, hj, rfl⟩ := List.getElem_of_mem hs
    exact h2 j hj
theorem right_long (l : List ByteArray) (h : 64 < l.length) : right l = false := by
  cases e : right l with
  | false => rfl
  | true => have := ((right_yes l).1 e).1; omega
theorem right_bad (l : List ByteArray) (j : Nat) (hj : j < l.length) (h : 100 < l[j].size) : right l = false := by
  cases e : right l with
  | false => rfl
  | true => have := ((right_yes l).1 e).2 j hj; omega
def treeR (l : List ByteArray) : ByteArray := if right l = true then tree l else ⟨#[]⟩
end Go.Proofs.YtjdlgpnhkfdehaaGreatDoor.Tr


/- Where a list is cut: spec.l03Half by doubling, impl.firstPart by the number of bits (math/bits.Len64). -/
namespace Go.Proofs.YtjdlgpnhkfdehaaGreatDoor.Tr
open Go.RowKit
open Go.Proofs.YtjdlgpnhkfdehaaGreatDoor.St (hideT)
theorem ret_int {a b : Int} (h : a = b) : Ending.returned (.int .i64 a) = .returned (.int .i64 b) := by rw [h]
set_option maxHeartbeats 1000000 in
theorem half_spec (n : Nat) (w : World) (h2 : 2 ≤ n) (hn : n ≤ 1048576) :
    Calls Tryz.prog 143 #[.int .i64 n] w fun e w' => e = .returned (.int .i64 (half n)) ∧ w' = w := by
  go_enter Tryz.func143, Tryz.ntmps143
  go_wp2_with fail
  go_loopw [3] (fun v wr => ∃ k i : Nat, v = .int .i64 k ∧ k = 2 ^ i ∧ k < n ∧ wr = w) (fun v _ => n - (intOf v).toNat)
  case atStart => exact ⟨1, 0, rfl, rfl, by omega, rfl⟩
  case round =>
    obtain ⟨k, i, rfl, hki, hk, hw⟩ := hrel
    subst hw
    have HK := hideT hki
    have hpos : 1 ≤ k := by rw [hki]; exact Nat.one_le_two_pow
    clear hki
    by_cases hlt : 2 * k < n
    · have g1 : 2 * (k : Int) < n := by omega
      go_wp2_with fail
      go_roundw
      case rel => exact ⟨2 * k, i + 1, by go_num, by rw [Nat.pow_succ, ← HK.out]; omega, by omega, trivial⟩
      case measure => simp [intOf]; omega
    · have g1 : ¬ 2 * (k : Int) < n := by omega
      have HE : Hid (half n = k) := by
        unfold Hid
        rw [HK.out]
        exact half_of n i (by rw [← HK.out]; omega) (by rw [← HK.out]; omega)
      go_wp2_with fail
      go_ret
      exact ⟨ret_int (by rw [HE.out]), rfl⟩
def len (x : Nat) : Nat := if x = 0 then 0 else Nat.log2 x + 1
end Go.Proofs.YtjdlgpnhkfdehaaGreatDoor.Tr


/- math/bits.Len64 by the library's contract, and the walk of impl.firstPart. -/
namespace Go.Proofs.YtjdlgpnhkfdehaaGreatDoor.Tr
open Go.RowKit
open Go.Proofs.YtjdlgpnhkfdehaaGreatDoor.St (hideT)
def renL : Go.Shelf.Ren := ⟨fun _ => 193, fun k => if k = 53 then 107 else if k = 46 then 124 else if k = 3 then 3 else if k = 4 then 4 else if k = 5 then 5 else 9, fun k => k⟩
theorem laysL : Lays.n129 Tryz.prog renL where
  mixed := by kernel_rfl
  f129 := by kernel_rfl
  t3 := by kernel_rfl
  a3 := fun w => by kernel_rfl
  z3 := fun w => by kernel_rfl
  v3 := fun w => by kernel_rfl
  t4 := by kernel_rfl
  a4 := fun w => by kernel_rfl
  z4 := fun w => by kernel_rfl
  v4 := fun w => by kernel_rfl
  t5 := by kernel_rfl
  a5 := fun w => by kernel_rfl
  z5 := fun w => by kernel_rfl
  v5 := fun w => by kernel_rfl
  t9 := by kernel_rfl
  a9 := fun w => by kernel_rfl
  z9 := fun w => by kernel_rfl
  v9 := fun w => by kernel_rfl
  t46 := by kernel_rfl
  a46 := fun w => by kernel_rfl
  z46 := fun w => by kernel_rfl
  v46 := fun w => by kernel_rfl
  t53 := by kernel_rfl
  a53 := fun w => by kernel_rfl
  z53 := fun w => by kernel_rfl
  v53 := fun w => by kernel_rfl
theorem len64_any (x : Nat) (w : World) (h : x < 18446744073709551616) :
    Calls Tryz.prog 193 #[.int .u64 x] w fun e w' => e = .returned (.int .i64 (Lib.bitLen x)) ∧ w' = w := by
  have := Any.bits_Len64 laysL x w (by omega) (by omega)
  rw [Int.toNat_natCast] at this
  exact this
theorem bitLen_log (x : Nat) (h0 : x ≠ 0) (h : x < 18446744073709551616) : Lib.bitLen x = Nat.log2 x + 1 := by
  induction x using Nat.strongRecOn with
  | ind x ih =>
    rw [Lib.bitLen_half x h0 h]
    by_cases h1 : x / 2 = 0
    · have : x = 1 := by omega
      subst this
      rfl
    · rw [ih (x / 2) (by omega) h1 (by omega)]
      have : Nat.log2 x = Nat.log2 (x / 2) + 1 := by
        refine (Nat.log2_eq_iff h0).2 ⟨?_, ?_⟩
        · have := Nat.log2_self_le h1
          rw [Nat.pow_succ]
          omega
        · have := Nat.lt_log2_self (n := x / 2)
          rw [Nat.pow_succ] at this ⊢
          omega
      omega
set_option maxHeartbeats 1000000 in
theorem half_impl (n : Nat) (w : World) (h2 : 2 ≤ n) (hn : n < 9223372036854775808) :
    Calls Tryz.prog 146 #[.int .i64 n] w fun e w' => e = .returned (.int .i64 (half n)) ∧ w' = w := by
  have e1 : IntKind.u64.wrap ((n : Int) - 1) = ((n - 1 : Nat) : Int) := by
    rw [IntKind.wrap_u64]
    omega
  have HL := hideT (bitLen_log (n - 1) (by omega) (by omega))
  obtain ⟨k, hk⟩ : ∃ k, k = Nat.log2 (n - 1) := ⟨_, rfl⟩
  have HH := hideT (show half n = 2 ^ k by rw [hk]; rfl)
  have hk62 : k ≤ 62 := by
    rw [hk]
    have : Nat.log2 (n - 1) < 63 := (Nat.log2_lt (by omega)).2 (by omega)
    omega
  rw [← hk] at HL
  clear hk
  go_enter Tryz.func146, Tryz.ntmps146
  go_wp2_with fail
  refine (len64_any (n - 1) w (by omega)).mono ?_
  rw [HL.out]
  rintro e w1 ⟨rfl, hw⟩
  subst w1
  go_wp2_with fail
  go_ret
  refine ⟨ret_int ?_, rfl⟩
  have h3 : (2 : Nat) ^ k ≤ 2 ^ 62 := Nat.pow_le_pow_right (by decide) hk62
  rw [HH.out]
  have h4 : ((2 : Int) ^ k) = ((2 ^ k : Nat) : Int) := by simp
  rw [h4]
  generalize (2 : Nat) ^ k = y at h3 ⊢
  unfold wrap64
  omega
end Go.Proofs.YtjdlgpnhkfdehaaGreatDoor.Tr


/- The walks of impl.entriesRight and spec.l03Entries: whether entries are right. -/
namespace Go.Proofs.YtjdlgpnhkfdehaaGreatDoor.Tr
open Go.RowKit
open Go.Proofs.YtjdlgpnhkfdehaaGreatDoor.St
set_option maxRecDepth 100000 in
set_option maxHeartbeats 1000000 in
theorem right_impl (a : Option Addr) (cap : Nat) (l : List ByteArray) (w : World) (B : Nat) (h : Strs w B a l) (hn : l.length ≤ 1048576) :
    Calls Tryz.prog 131 #[.slice a l.length cap] w fun e w' => e = .returned (.bool (right l)) ∧ w' = w := by
  have HS := hideT h
  clear h
  obtain ⟨n, hln⟩ : ∃ n, n = l.length := ⟨_, rfl⟩
  have HLN := hideT hln
  by_cases hbig : 64 < n
  · have HR := hideT (right_long l (by omega))
    rw [← hln] at hn ⊢
    clear hln
    go_enter Tryz.func131, Tryz.ntmps131
    go_wp2_with fail
    go_ret
    exact ⟨ret_bool HR.out.symm, rfl⟩
  · rw [← hln] at hn ⊢
    clear hln
    go_enter Tryz.func131, Tryz.ntmps131
    go_wp2_with fail
    go_loopw [10] (fun i wr => ∃ k : Nat, i = .int .i64 k ∧ k ≤ n ∧ (∀ j (hj : j < l.length), j < k → l[j].size ≤ 100) ∧ wr = w) (fun i _ => n - (intOf i).toNat)
    case atStart => exact ⟨0, rfl, by omega, fun j hj h0 => by omega, rfl⟩
    case round =>
      obtain ⟨k, rfl, hk, hall, hw⟩ := hrel
      subst hw
      have HA := hideT hall
      clear hall
      by_cases hlt : k < n
      · have hkl : k < l.length := by rw [← HLN.out]; exact hlt
        obtain ⟨b, off, rfl, hb, hc⟩ := HS.out.some (by omega)
        have ci := hc k hkl
        have HBad := hideT (right_bad l k hkl)
        obtain ⟨s, hs⟩ : ∃ s, s = l[k] := ⟨_, rfl⟩
        have HSE := hideT hs
        rw [← hs] at ci
        clear hc hs
        by_cases h100 : 100 < s.size
        · go_wp2_with fail
          go_ret
          exact ⟨ret_bool (HBad.out (by rw [← HSE.out]; exact h100)).symm, rfl⟩
        · go_wp2_with fail
          go_roundw
          case rel =>
            refine ⟨k + 1, by go_num, by omega, fun j hj h0 => ?_, trivial⟩
            by_cases e : j = k
            · subst e
              rw [← HSE.out]
              omega
            · exact HA.out j hj (by omega)
          case measure => simp [intOf]; omega
      · have HR : Hid (right l = true) := by
          unfold Hid
          exact (right_yes l).2 ⟨by have := HLN.out; omega, fun j hj => HA.out j hj (by have := HLN.out; omega)⟩
        go_wp2_with fail
        go_ret
        exact ⟨ret_bool HR.out.symm, rfl⟩
set_option maxRecDepth 100000 in
set_option maxHeartbeats 1000000 in
theorem right_spec (a : Option Addr) (cap : Nat) (l : List ByteArray) (w : World) (B : Nat) (h : Strs w B a l) (hn : l.length ≤ 1048576) :
    Calls Tryz.prog 93 #[.slice a l.length cap] w fun e w' => e = .returned (.bool (right l)) ∧ w' = w := by
  have HS := hideT h
  clear h
  obtain ⟨n, hln⟩ : ∃ n, n = l.length := ⟨_, rfl⟩
  have HLN := hideT hln
  rw [← hln] at hn ⊢
  clear hln
  go_enter Tryz.func93, Tryz.ntmps93
  go_wp2_with fail
  go_loopw [3] (fun i wr => ∃ k : Nat, i = .int .i64 k ∧ k ≤ n ∧ (∀ j (hj : j < l.length), j < k → l[j].size ≤ 100) ∧ wr = w) (fun i _ => n - (intOf i).toNat)
  case atStart => exact ⟨0, rfl, by omega, fun j hj h0 => by omega, rfl⟩
  case round =>
    obtain ⟨k, rfl, hk, hall, hw⟩ := hrel
    subst hw
    have HA := hideT hall
    clear hall
    by_cases hlt : k < n
    · have hkl : k < l.length := by rw [← HLN.out]; exact hlt
      obtain ⟨b, off, rfl, hb, hc⟩ := HS.out.some (by omega)
      have ci := hc k hkl
      have HBad := hideT (right_bad l k hkl)
      obtain ⟨s, hs⟩ : ∃ s, s = l[k] := ⟨_, rfl⟩
      have HSE := hideT hs
      rw [← hs] at ci
      clear hc hs
      by_cases h100 : 100 < s.size
      · go_wp2_with fail
        go_ret
        exact ⟨ret_bool (HBad.out (by rw [← HSE.out]; exact h100)).symm, rfl⟩
      · go_wp2_with fail
        go_roundw
        case rel =>
          refine ⟨k + 1, by go_num, by omega, fun j hj h0 => ?_, trivial⟩
          by_cases e : j = k
          · subst e
            rw [← HSE.out]
            omega
          · exact HA.out j hj (by omega)
        case measure => simp [intOf]; omega
    · have HR : Hid (right l = decide ((n : Int) ≤ 64)) := by
        unfold Hid
        by_cases h64 : n ≤ 64
        · rw [(right_yes l).2 ⟨by have := HLN.out; omega, fun j hj => HA.out j hj (by have := HLN.out; omega)⟩]
          simp; omega
        · rw [right_long l (by have := HLN.out; omega)]
          simp; omega
      go_wp2_with fail
      go_ret
      exact ⟨ret_bool HR.out.symm, rfl⟩
end Go.Proofs.YtjdlgpnhkfdehaaGreatDoor.Tr

