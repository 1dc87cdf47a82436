/- Texts put together: TreePlain, TreeHalf, TreeLen, TreeRight, TreeWalks. -/
import Derived.Test.YtghghkfhcpldhaaDoorNodeTop
import Derived.Test.YtghghkfhcpldhaaDoorStrBase
import Derived.Test.YtghghkfhcpldhaaDoorChecked
import Derived.Shelf.Strconv.Itoa0
import Derived.BigRegion
import Derived.BigQuiet
import Derived.Deep.QuietTactic
/- Plain mathematics of trees of digests: where a list is cut, the tree of a list of texts. -/
namespace Go.Proofs.YtghghkfhcpldhaaDoor.Tr
open Go.Proofs.YtghghkfhcpldhaaDoor.Sh (sha sha_size leafV nodeV leafV_size nodeV_size)

/-- the greatest power of two below a number above 1 -/
def half (n : Nat) : Nat := 2 ^ Nat.log2 (n - 1)
theorem half_pos (n : Nat) : 1 ≤ half n := Nat.one_le_two_pow
theorem half_lt (n : Nat) (h : 2 ≤ n) : half n < n := by
  have := Nat.log2_self_le (n := n - 1) (by omega)
  unfold half
  omega
theorem half_two (n : Nat) (h : 2 ≤ n) : n ≤ 2 * half n := by
  have := Nat.lt_log2_self (n := n - 1)
  unfold half
  rw [Nat.pow_succ] at this
  omega
theorem half_of (n i : Nat) (h1 : 2 ^ i < n) (h2 : n ≤ 2 * 2 ^ i) : half n = 2 ^ i := by
  unfold half
  congr 1
  refine (Nat.log2_eq_iff (by omega)).2 ⟨by omega, ?_⟩
  rw [Nat.pow_succ]
  omega

/-- the tree of a list of texts -/
def tree (l : List ByteArray) : ByteArray :=
  if h0 : l.length = 0 then sha ⟨#[]⟩
  else if h1 : l.length = 1 then leafV (l[0]'(by omega))
  else nodeV (tree (l.take (half l.length))) (tree (l.drop (half l.length)))
termination_by l.length
decreasing_by
  · have := half_lt l.length (by omega)
    simp
    omega
  · have := half_pos l.length
    simp
    omega
theorem tree_nil (l : List ByteArray) (h : l.length = 0) : tree l = sha ⟨#[]⟩ := by rw [tree, dif_pos h]
theorem tree_one (l : List ByteArray) (h : l.length = 1) : tree l = leafV (l[0]'(by omega)) := by rw [tree, dif_neg (by omega), dif_pos h]
theorem tree_two (l : List ByteArray) (h : 2 ≤ l.length) : tree l = nodeV (tree (l.take (half l.length))) (tree (l.drop (half l.length))) := by
  rw [tree, dif_neg (by omega), dif_neg (by omega)]
theorem tree_size (l : List ByteArray) : (tree l).size = 32 := by
  rw [tree]
  split
  · exact sha_size _
  · split
    · exact leafV_size _
    · exact nodeV_size _ _
/-- right entries -/
def right (l : List ByteArray) : Bool := decide (l.length ≤ 64) && l.all (fun s => decide (s.size ≤ 100))
theorem right_yes (l : List ByteArray) : right l = true ↔ l.length ≤ 64 ∧ ∀ j (h : j < l.length), l[j].size ≤ 100 := by
  unfold right
  simp only [Bool.and_eq_true, decide_eq_true_eq, List.all_eq_true]
  constructor
  · rintro ⟨h1, h2⟩
    exact ⟨h1, fun j hj => h2 _ (List.getElem_mem hj)⟩
  · rintro ⟨h1, h2⟩
    refine ⟨h1, fun s hs => ?_⟩
    obtain ⟨j, hj, rfl⟩ := List.getElem_of_mem hs
    exact h2 j hj
theorem right_long (l : List ByteArray) (h : 64 < l.length) : right l = false := by
  cases e : right l with
  | false => rfl
  | true => have := ((right_yes l).1 e).1; omega
theorem right_bad (l : List ByteArray) (j : Nat) (hj : j < l.length) (h : 100 < l[j].size) : right l = false := by
  cases e : right l with
  | false => rfl
  | true => have := ((right_yes l).1 e).2 j hj; omega
def treeR (l : List ByteArray) : ByteArray := if right l = true then tree l else ⟨#[]⟩
end Go.Proofs.YtghghkfhcpldhaaDoor.Tr

/- Where a list is cut: spec.l03Half by doubling, impl.firstPart by the number of bits (math/bits.Len64). -/
namespace Go.Proofs.YtghghkfhcpldhaaDoor.Tr
open Go.RowKit
open Go.Proofs.YtghghkfhcpldhaaDoor.St (hideT)

theorem ret_int {a b : Int} (h : a = b) : Ending.returned (.int .i64 a) = .returned (.int .i64 b) := by rw [h]

set_option maxHeartbeats 1000000 in
theorem half_spec (n : Nat) (w : World) (h2 : 2 ≤ n) (hn : n ≤ 1048576) :
    Calls Tryd.prog 59 #[.int .i64 n] w fun e w' => e = .returned (.int .i64 (half n)) ∧ w' = w := by
  go_enter Tryd.func59, Tryd.ntmps59
  go_wp2_with fail
  go_loopw [3] (fun v wr => ∃ k i : Nat, v = .int .i64 k ∧ k = 2 ^ i ∧ k < n ∧ wr = w) (fun v _ => n - (intOf v).toNat)
  case atStart => exact ⟨1, 0, rfl, rfl, by omega, rfl⟩
  case round =>
    obtain ⟨k, i, rfl, hki, hk, hw⟩ := hrel
    subst hw
    have HK := hideT hki
    have hpos : 1 ≤ k := by rw [hki]; exact Nat.one_le_two_pow
    clear hki
    by_cases hlt : 2 * k < n
    · have g1 : 2 * (k : Int) < n := by omega
      go_wp2_with fail
      go_roundw
      case rel => exact ⟨2 * k, i + 1, by go_num, by rw [Nat.pow_succ, ← HK.out]; omega, by omega, trivial⟩
      case measure => simp [intOf]; omega
    · have g1 : ¬ 2 * (k : Int) < n := by omega
      have HE : Hid (half n = k) := by
        unfold Hid
        rw [HK.out]
        exact half_of n i (by rw [← HK.out]; omega) (by rw [← HK.out]; omega)
      go_wp2_with fail
      go_ret
      exact ⟨ret_int (by rw [HE.out]), rfl⟩

/-- how many bits a number has -/
def len (x : Nat) : Nat := if x = 0 then 0 else Nat.log2 x + 1
theorem len_shift (x k : Nat) (h : 2 ^ k ≤ x) : len x = k + len (x / 2 ^ k) := by
  have h1 : x ≠ 0 := by have := Nat.one_le_two_pow (n := k); omega
  have h2 : x / 2 ^ k ≠ 0 := by
    have := Nat.div_pos h (Nat.two_pow_pos k)
    omega
  unfold len
  rw [if_neg h1, if_neg h2]
  have : Nat.log2 x = k + Nat.log2 (x / 2 ^ k) := by
    refine (Nat.log2_eq_iff h1).2 ⟨?_, ?_⟩
    · have := Nat.log2_self_le h2
      rw [Nat.pow_add]
      calc 2 ^ k * 2 ^ (x / 2 ^ k).log2 ≤ 2 ^ k * (x / 2 ^ k) := Nat.mul_le_mul_left _ this
        _ ≤ x := Nat.mul_div_le x _
    · have := Nat.lt_log2_self (n := x / 2 ^ k)
      rw [Nat.add_assoc, Nat.pow_add, Nat.mul_comm]
      exact (Nat.div_lt_iff_lt_mul (Nat.two_pow_pos k)).1 this
  omega
end Go.Proofs.YtghghkfhcpldhaaDoor.Tr

/- math/bits.Len64 by the library's contract, and the walk of impl.firstPart. -/
namespace Go.Proofs.YtghghkfhcpldhaaDoor.Tr
open Go.RowKit
open Go.Proofs.YtghghkfhcpldhaaDoor.St (hideT)

def renL : Go.Shelf.Ren := ⟨fun _ => 72, fun k => if k = 53 then 72 else if k = 46 then 60 else if k = 3 then 3 else if k = 4 then 4 else if k = 5 then 5 else 9, fun k => k⟩
theorem laysL : Lays.n129 Tryd.prog renL where
  mixed := by kernel_rfl
  f129 := by kernel_rfl
  t3 := by kernel_rfl
  a3 := fun w => by kernel_rfl
  z3 := fun w => by kernel_rfl
  v3 := fun w => by kernel_rfl
  t4 := by kernel_rfl
  a4 := fun w => by kernel_rfl
  z4 := fun w => by kernel_rfl
  v4 := fun w => by kernel_rfl
  t5 := by kernel_rfl
  a5 := fun w => by kernel_rfl
  z5 := fun w => by kernel_rfl
  v5 := fun w => by kernel_rfl
  t9 := by kernel_rfl
  a9 := fun w => by kernel_rfl
  z9 := fun w => by kernel_rfl
  v9 := fun w => by kernel_rfl
  t46 := by kernel_rfl
  a46 := fun w => by kernel_rfl
  z46 := fun w => by kernel_rfl
  v46 := fun w => by kernel_rfl
  t53 := by kernel_rfl
  a53 := fun w => by kernel_rfl
  z53 := fun w => by kernel_rfl
  v53 := fun w => by kernel_rfl

theorem len64_any (x : Nat) (w : World) (h : x < 18446744073709551616) :
    Calls Tryd.prog 72 #[.int .u64 x] w fun e w' => e = .returned (.int .i64 (Lib.bitLen x)) ∧ w' = w := by
  have := Any.bits_Len64 laysL x w (by omega) (by omega)
  rw [Int.toNat_natCast] at this
  exact this

theorem bitLen_log (x : Nat) (h0 : x ≠ 0) (h : x < 18446744073709551616) : Lib.bitLen x = Nat.log2 x + 1 := by
  induction x using Nat.strongRecOn with
  | ind x ih =>
    rw [Lib.bitLen_half x h0 h]
    by_cases h1 : x / 2 = 0
    · have : x = 1 := by omega
      subst this
      rfl
    · rw [ih (x / 2) (by omega) h1 (by omega)]
      have : Nat.log2 x = Nat.log2 (x / 2) + 1 := by
        refine (Nat.log2_eq_iff h0).2 ⟨?_, ?_⟩
        · have := Nat.log2_self_le h1
          rw [Nat.pow_succ]
          omega
        · have := Nat.lt_log2_self (n := x / 2)
          rw [Nat.pow_succ] at this ⊢
          omega
      omega

set_option maxHeartbeats 1000000 in
theorem half_impl (n : Nat) (w : World) (h2 : 2 ≤ n) (hn : n < 9223372036854775808) :
    Calls Tryd.prog 62 #[.int .i64 n] w fun e w' => e = .returned (.int .i64 (half n)) ∧ w' = w := by
  have e1 : IntKind.u64.wrap ((n : Int) - 1) = ((n - 1 : Nat) : Int) := by
    rw [IntKind.wrap_u64]
    omega
  have HL := hideT (bitLen_log (n - 1) (by omega) (by omega))
  obtain ⟨k, hk⟩ : ∃ k, k = Nat.log2 (n - 1) := ⟨_, rfl⟩
  have HH := hideT (show half n = 2 ^ k by rw [hk]; rfl)
  have hk62 : k ≤ 62 := by
    rw [hk]
    have : Nat.log2 (n - 1) < 63 := (Nat.log2_lt (by omega)).2 (by omega)
    omega
  rw [← hk] at HL
  clear hk
  go_enter Tryd.func62, Tryd.ntmps62
  go_wp2_with fail
  refine (len64_any (n - 1) w (by omega)).mono ?_
  rw [HL.out]
  rintro e w1 ⟨rfl, hw⟩
  subst w1
  go_wp2_with fail
  go_ret
  refine ⟨ret_int ?_, rfl⟩
  have h3 : (2 : Nat) ^ k ≤ 2 ^ 62 := Nat.pow_le_pow_right (by decide) hk62
  rw [HH.out]
  have h4 : ((2 : Int) ^ k) = ((2 ^ k : Nat) : Int) := by simp
  rw [h4]
  generalize (2 : Nat) ^ k = y at h3 ⊢
  unfold wrap64
  omega
end Go.Proofs.YtghghkfhcpldhaaDoor.Tr

/- The walks of impl.entriesRight and spec.l03Entries: whether entries are right. -/
namespace Go.Proofs.YtghghkfhcpldhaaDoor.Tr
open Go.RowKit
open Go.Proofs.YtghghkfhcpldhaaDoor.St

set_option maxRecDepth 100000 in
set_option maxHeartbeats 1000000 in
theorem right_impl (a : Option Addr) (cap : Nat) (l : List ByteArray) (w : World) (B : Nat) (h : Strs w B a l) (hn : l.length ≤ 1048576) :
    Calls Tryd.prog 28 #[.slice a l.length cap] w fun e w' => e = .returned (.bool (right l)) ∧ w' = w := by
  have HS := hideT h
  clear h
  obtain ⟨n, hln⟩ : ∃ n, n = l.length := ⟨_, rfl⟩
  have HLN := hideT hln
  by_cases hbig : 64 < n
  · have HR := hideT (right_long l (by omega))
    rw [← hln] at hn ⊢
    clear hln
    go_enter Tryd.func28, Tryd.ntmps28
    go_wp2_with fail
    go_ret
    exact ⟨ret_bool HR.out.symm, rfl⟩
  · rw [← hln] at hn ⊢
    clear hln
    go_enter Tryd.func28, Tryd.ntmps28
    go_wp2_with fail
    go_loopw [10] (fun i wr => ∃ k : Nat, i = .int .i64 k ∧ k ≤ n ∧ (∀ j (hj : j < l.length), j < k → l[j].size ≤ 100) ∧ wr = w) (fun i _ => n - (intOf i).toNat)
    case atStart => exact ⟨0, rfl, by omega, fun j hj h0 => by omega, rfl⟩
    case round =>
      obtain ⟨k, rfl, hk, hall, hw⟩ := hrel
      subst hw
      have HA := hideT hall
      clear hall
      by_cases hlt : k < n
      · have hkl : k < l.length := by rw [← HLN.out]; exact hlt
        obtain ⟨b, off, rfl, hb, hc⟩ := HS.out.some (by omega)
        have ci := hc k hkl
        have HBad := hideT (right_bad l k hkl)
        obtain ⟨s, hs⟩ : ∃ s, s = l[k] := ⟨_, rfl⟩
        have HSE := hideT hs
        rw [← hs] at ci
        clear hc hs
        by_cases h100 : 100 < s.size
        · go_wp2_with fail
          go_ret
          exact ⟨ret_bool (HBad.out (by rw [← HSE.out]; exact h100)).symm, rfl⟩
        · go_wp2_with fail
          go_roundw
          case rel =>
            refine ⟨k + 1, by go_num, by omega, fun j hj h0 => ?_, trivial⟩
            by_cases e : j = k
            · subst e
              rw [← HSE.out]
              omega
            · exact HA.out j hj (by omega)
          case measure => simp [intOf]; omega
      · have HR : Hid (right l = true) := by
          unfold Hid
          exact (right_yes l).2 ⟨by have := HLN.out; omega, fun j hj => HA.out j hj (by have := HLN.out; omega)⟩
        go_wp2_with fail
        go_ret
        exact ⟨ret_bool HR.out.symm, rfl⟩

set_option maxRecDepth 100000 in
set_option maxHeartbeats 1000000 in
theorem right_spec (a : Option Addr) (cap : Nat) (l : List ByteArray) (w : World) (B : Nat) (h : Strs w B a l) (hn : l.length ≤ 1048576) :
    Calls Tryd.prog 30 #[.slice a l.length cap] w fun e w' => e = .returned (.bool (right l)) ∧ w' = w := by
  have HS := hideT h
  clear h
  obtain ⟨n, hln⟩ : ∃ n, n = l.length := ⟨_, rfl⟩
  have HLN := hideT hln
  rw [← hln] at hn ⊢
  clear hln
  go_enter Tryd.func30, Tryd.ntmps30
  go_wp2_with fail
  go_loopw [3] (fun i wr => ∃ k : Nat, i = .int .i64 k ∧ k ≤ n ∧ (∀ j (hj : j < l.length), j < k → l[j].size ≤ 100) ∧ wr = w) (fun i _ => n - (intOf i).toNat)
  case atStart => exact ⟨0, rfl, by omega, fun j hj h0 => by omega, rfl⟩
  case round =>
    obtain ⟨k, rfl, hk, hall, hw⟩ := hrel
    subst hw
    have HA := hideT hall
    clear hall
    by_cases hlt : k < n
    · have hkl : k < l.length := by rw [← HLN.out]; exact hlt
      obtain ⟨b, off, rfl, hb, hc⟩ := HS.out.some (by omega)
      have ci := hc k hkl
      have HBad := hideT (right_bad l k hkl)
      obtain ⟨s, hs⟩ : ∃ s, s = l[k] := ⟨_, rfl⟩
      have HSE := hideT hs
      rw [← hs] at ci
      clear hc hs
      by_cases h100 : 100 < s.size
      · go_wp2_with fail
        go_ret
        exact ⟨ret_bool (HBad.out (by rw [← HSE.out]; exact h100)).symm, rfl⟩
      · go_wp2_with fail
        go_roundw
        case rel =>
          refine ⟨k + 1, by go_num, by omega, fun j hj h0 => ?_, trivial⟩
          by_cases e : j = k
          · subst e
            rw [← HSE.out]
            omega
          · exact HA.out j hj (by omega)
        case measure => simp [intOf]; omega
    · have HR : Hid (right l = decide ((n : Int) ≤ 64)) := by
        unfold Hid
        by_cases h64 : n ≤ 64
        · rw [(right_yes l).2 ⟨by have := HLN.out; omega, fun j hj => HA.out j hj (by have := HLN.out; omega)⟩]
          simp; omega
        · rw [right_long l (by have := HLN.out; omega)]
          simp; omega
      go_wp2_with fail
      go_ret
      exact ⟨ret_bool HR.out.symm, rfl⟩
end Go.Proofs.YtghghkfhcpldhaaDoor.Tr

/- The walk of impl.treeOf: of right entries it answers their tree, and writes nothing that was there. -/
namespace Go.Proofs.YtghghkfhcpldhaaDoor.Tr
open Go.RowKit
open Go.Proofs.YtghghkfhcpldhaaDoor.St
open Go.Proofs.YtghghkfhcpldhaaDoor.Sh (Vars leafV nodeV leafR nodeR leaf_impl node_impl digest_impl digestV leafR_yes nodeR_yes below3)

set_option maxRecDepth 100000 in
set_option maxHeartbeats 1000000 in
theorem cut_any (b off n cap : Nat) (w : World) (h2 : 2 ≤ n) (hn : n ≤ 1048576) (hc : n ≤ cap) :
    Calls Tryd.prog 58 #[.slice (some ⟨b, off, none⟩) n cap] w fun e w' => e = .returned (.tuple #[.slice (some ⟨b, off, none⟩) (half n) (half n), .slice (some ⟨b, off + half n, none⟩) (n - half n) (n - half n)]) ∧ Below w.heap.size w w' ∧ w'.heap = w.heap := by
  have hp := half_pos n
  have hl := half_lt n h2
  go_enter Tryd.func58, Tryd.ntmps58
  go_wp2_with fail
  refine (half_impl n w h2 (by omega)).mono ?_
  rintro e w1 ⟨rfl, hw⟩
  subst w1
  obtain ⟨k, hk⟩ : ∃ k, k = half n := ⟨_, rfl⟩
  rw [← hk] at hp hl ⊢
  have HK := hideT hk
  clear hk
  have g1 : (k : Int) ≤ cap := by omega
  have g2 : (k : Int) ≤ n := by omega
  have g3 : ¬ n = k := by omega
  have g4 : ¬ cap = k := by omega
  go_wp2_with fail
  go_region
  all_goals (try go_wp2_with fail)
  all_goals go_ret2
  all_goals exact ⟨by rw [← HK.out]; rfl, (Below.refl _ _).drew, rfl⟩

theorem empty_dig : digestV ⟨#[]⟩ = Sh.sha ⟨#[]⟩ := by
  unfold digestV
  rw [if_pos (by decide)]

set_option maxRecDepth 100000 in
set_option maxHeartbeats 2000000 in
theorem tree_impl : ∀ (m n : Nat) (l : List ByteArray) (a : Option Addr) (cap B : Nat) (w : World), n ≤ m → l.length = n → n ≤ cap → n ≤ 64 → (∀ j (h : j < l.length), l[j].size ≤ 100) → Strs w B a l → B ≤ w.heap.size → Vars w →
    Calls Tryd.prog 45 #[.slice a n cap] w fun e w' => e = .returned (.string (tree l)) ∧ Below w.heap.size w w' := by
  intro m
  induction m with
  | zero =>
    intro n l a cap B w hm hln hcap h64 hr hs hB hV
    obtain rfl : n = 0 := by omega
    have HT := hideT (tree_nil l hln)
    have HD := hideT empty_dig
    clear hs hr
    have HV := hideT hV
    clear hV
    go_enter Tryd.func45, Tryd.ntmps45
    go_wp2_with fail
    refine (digest_impl ⟨#[]⟩ _ (by decide) HV.out).mono ?_
    rw [HD.out]
    rintro e w1 ⟨rfl, hb1⟩
    go_wp2_with fail
    go_ret
    exact ⟨Nu.ret_strJ HT.out.symm, hb1⟩
  | succ m ih =>
    intro n l a cap B w hm hln hcap h64 hr hs hB hV
    by_cases h0 : n = 0
    · exact ih n l a cap B w (by omega) hln hcap h64 hr hs hB hV
    · obtain ⟨b, off, rfl, hb, hc⟩ := hs.some (by omega)
      have HV := hideT hV
      have hv2 := hV.two
      clear hV hs
      by_cases h1 : n = 1
      · have HT := hideT (tree_one l (by omega))
        have ci := hc 0 (by omega)
        rw [Nat.add_zero] at ci
        have hsz := hr 0 (by omega)
        obtain ⟨s, hse⟩ : ∃ s, s = l[0]'(by omega) := ⟨_, rfl⟩
        rw [← hse] at ci hsz
        have HSE := hideT hse
        have HL := hideT (leafR_yes s (by omega))
        subst h1
        clear hc hse hr ih
        go_enter Tryd.func45, Tryd.ntmps45
        go_wp2_with fail
        refine (leaf_impl s _ (by unfold maxLen; omega) HV.out).mono ?_
        rw [HL.out]
        rintro e w1 ⟨rfl, hb1⟩
        go_wp2_with fail
        go_ret
        exact ⟨Nu.ret_strJ (by rw [HT.out, ← HSE.out]), hb1⟩
      · have hp := half_pos n
        have hl := half_lt n (by omega)
        have HT := hideT (tree_two l (by omega))
        have HI := hideT ih
        have HR := hideT hr
        have HC := hideT hc
        have HLN := hideT hln
        clear hc hr ih
        have i0 : ¬ (n : Int) = 0 := by omega
        have i1 : ¬ (n : Int) = 1 := by omega
        go_enter Tryd.func45, Tryd.ntmps45
        go_wp2_with fail
        refine (cut_any b off n cap w (by omega) (by omega) hcap).mono ?_
        rintro e w1 ⟨rfl, hb1, hh1⟩
        have V1 := hideT (HV.out.below hb1 hv2)
        have HB1 := hideT hb1
        clear hb1 hh1
        go_wp2_with fail
        refine (HI.out (half n) (l.take (half n)) (some ⟨b, off, none⟩) (half n) B w1 (by omega) (by rw [List.length_take]; omega) (Nat.le_refl _) (by omega) (fun j hj => by rw [List.getElem_take]; exact HR.out j _) ((Strs.take hb HC.out).after HB1.out hB) (Nat.le_trans hB HB1.out.size) V1.out).mono ?_
        rintro e w2 ⟨rfl, hb2⟩
        have HB2 := hideT (HB1.out.trans (hb2.mono HB1.out.size))
        have V2 := hideT (HV.out.below HB2.out hv2)
        clear hb2
        go_wp2_with fail
        refine (HI.out (n - half n) (l.drop (half n)) (some ⟨b, off + half n, none⟩) (n - half n) B w2 (by omega) (by rw [List.length_drop]; omega) (Nat.le_refl _) (by omega) (fun j hj => by rw [List.getElem_drop]; exact HR.out _ _) ((Strs.drop hb HC.out).after HB2.out hB) (Nat.le_trans hB HB2.out.size) V2.out).mono ?_
        rintro e w3 ⟨rfl, hb3⟩
        have HB3 := hideT (HB2.out.trans (hb3.mono HB2.out.size))
        have V3 := hideT (HV.out.below HB3.out hv2)
        clear hb3
        have HN := hideT (nodeR_yes (tree (l.take (half n))) (tree (l.drop (half n))) (tree_size _) (tree_size _))
        go_wp2_with fail
        refine (node_impl (tree (l.take (half n))) (tree (l.drop (half n))) _ V3.out).mono ?_
        rw [HN.out]
        rintro e w4 ⟨rfl, hb4⟩
        have HB4 := hideT (HB3.out.trans (hb4.mono HB3.out.size))
        clear hb4
        go_wp2_with fail
        go_ret
        exact ⟨Nu.ret_strJ (by rw [HT.out, HLN.out]), HB4.out⟩
end Go.Proofs.YtghghkfhcpldhaaDoor.Tr
