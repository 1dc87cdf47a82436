/- How two places are compared, by the byte of a text at each. -/
import Derived.Test.YtdnmbagdegbnfaaSoCmpT
import Derived.Test.YtdnmbagdegbnfaaSortPlain3
import Derived.Test.YtdnmbagdegbnfaaShaBytes
namespace Go.Proofs.Ytdnmbagdegbnfaa.So
open Go.RowKit Go.Sort Go.Proofs
open Go.Proofs.Ytdnmbagdegbnfaa.Sh (bt bt_get)

theorem encI_one : ∀ x, ∀ v ∈ encI x, v.oneCell' = true := by
  intro x v hv
  simp [encI] at hv
  subst hv
  rfl
theorem cells_I {w : World} {blk : Nat} {d : Array Nat} (h : HoldsK encI 1 w blk 0 d) {i : Nat} (hi : i < d.size) :
    w.cell? ⟨blk, i, none⟩ = some (.int .i64 (d[i]! : Nat)) ∧ w.frozen? ⟨blk, i, none⟩ = false := by
  have x0 := h.cell (i := i) (c := 0) hi (by omega)
  rw [Nat.zero_add, Nat.add_zero, Nat.mul_one] at x0
  exact ⟨x0.1, x0.2⟩
/-- the byte at one place is less than that at another -/
def clI (t : ByteArray) (x y : Nat) : Bool := decide (bt t x < bt t y)
theorem clI_weak (t : ByteArray) : Weak (clI t) where
  irrefl x := by simp [clI]
  trans x y z h1 h2 := by
    simp only [clI, decide_eq_true_eq] at *
    omega
  ntrans x y z h1 h2 := by
    simp only [clI, decide_eq_false_iff_not] at *
    omega
def cfI (t : ByteArray) (x y : Nat) : Int := if bt t x < bt t y then -1 else if bt t y < bt t x then 1 else 0
theorem cfI_neg (t : ByteArray) (x y : Nat) : decide (cfI t x y < 0) = clI t x y := by
  unfold cfI clI
  by_cases h : bt t x < bt t y
  · simp [h]
  · by_cases h2 : bt t y < bt t x <;> simp [h, h2]
/-- the text that the comparison holds -/
def Cap (w : World) (c : Nat) (t : ByteArray) : Prop := w.cell? ⟨c, 0, none⟩ = some (.string t)
theorem Cap.block {w w' : World} {c : Nat} {t : ByteArray} (h : Cap w c t) (e : w'.heap[c]? = w.heap[c]?) : Cap w' c t := by
  unfold Cap at h ⊢
  simp only [World.cell?] at h ⊢
  rw [e]
  exact h
theorem Cap.lt {w : World} {c : Nat} {t : ByteArray} (h : Cap w c t) : c < w.heap.size := by
  refine Nat.lt_of_not_le fun hle => ?_
  unfold Cap at h
  simp only [World.cell?] at h
  rw [Array.getElem?_eq_none hle] at h
  simp at h
theorem PermF.bd {a b N : Nat} {f g : Nat → Nat} (h : PermF a b f g) (hf : ∀ i, f i < N) (i : Nat) : g i < N := by
  by_cases h1 : a ≤ i ∧ i < b
  · exact h.all (p := fun v => v < N) (fun j _ _ => hf j) i h1.1 h1.2
  · rw [h.2 i (by omega)]
    exact hf i

theorem nan_B (y : UInt8) (w : World) : Calls Try.prog 159 #[.int .u8 (y.toNat : Nat)] w fun e w' => e = .returned (.bool false) ∧ w' = w := by
  have h : (((y.toNat : Nat) : Int) != ((y.toNat : Nat) : Int)) = false := by simp
  go_enter Try.func159, Try.ntmps159
  go_wp2_with fail
  go_ret
  exact ⟨rfl, rfl⟩

set_option maxHeartbeats 1000000 in
theorem compare_B (s t : UInt8) (w : World) : Calls Try.prog 153 #[.int .u8 (s.toNat : Nat), .int .u8 (t.toNat : Nat)] w fun e w' => e = .returned (.int .i64 (if s.toNat < t.toNat then -1 else if t.toNat < s.toNat then 1 else 0)) ∧ w' = w := by
  have HS := hideO (nan_B s)
  have HT := hideO (nan_B t)
  obtain ⟨p, hp⟩ : ∃ p, p = s.toNat := ⟨_, rfl⟩
  obtain ⟨q, hq⟩ : ∃ q, q = t.toNat := ⟨_, rfl⟩
  rw [← hp] at HS
  rw [← hq] at HT
  rw [← hp, ← hq]
  clear hp hq
  by_cases h1 : p < q
  · rw [if_pos h1]
    have h1' : (p : Int) < (q : Int) := by omega
    have h2' : ¬ (q : Int) < (p : Int) := by omega
    go_enter Try.func153, Try.ntmps153
    go_wp2_with fail
    refine (HS.out w).mono ?_
    rintro e w' ⟨rfl, hw⟩
    subst w'
    go_wp2_with fail
    refine (HT.out w).mono ?_
    rintro e w' ⟨rfl, hw⟩
    subst w'
    go_wp2_with fail
    go_ret
    exact ⟨rfl, rfl⟩
  · rw [if_neg h1]
    have h1' : ¬ (p : Int) < (q : Int) := by omega
    by_cases h2 : q < p
    · rw [if_pos h2]
      have h2' : (q : Int) < (p : Int) := by omega
      go_enter Try.func153, Try.ntmps153
      go_wp2_with fail
      refine (HS.out w).mono ?_
      rintro e w' ⟨rfl, hw⟩
      subst w'
      go_wp2_with fail
      refine (HT.out w).mono ?_
      rintro e w' ⟨rfl, hw⟩
      subst w'
      go_wp2_with fail
      go_ret
      exact ⟨rfl, rfl⟩
    · rw [if_neg h2]
      have h2' : ¬ (q : Int) < (p : Int) := by omega
      go_enter Try.func153, Try.ntmps153
      go_wp2_with fail
      refine (HS.out w).mono ?_
      rintro e w' ⟨rfl, hw⟩
      subst w'
      go_wp2_with fail
      refine (HT.out w).mono ?_
      rintro e w' ⟨rfl, hw⟩
      subst w'
      go_wp2_with fail
      go_ret
      exact ⟨rfl, rfl⟩

set_option maxHeartbeats 1000000 in
theorem cmp_I (t : ByteArray) (c x y : Nat) (w : World) (hc : Cap w c t) (hx : x < t.size) (hy : y < t.size) : Calls Try.prog 152 #[.int .i64 x, .int .i64 y, .pointer (some ⟨c, 0, none⟩)] w fun e w' => e = .returned (.int .i64 (cfI t x y)) ∧ ∃ q os', w' = grow (w.drewN q) os' := by
  have mixed := mixed
  have hx' : (x : Int) < (t.size : Int) := by omega
  have hy' : (y : Int) < (t.size : Int) := by omega
  obtain ⟨p, hp, hpt⟩ : ∃ p : UInt8, t[x] = p ∧ p.toNat = bt t x := ⟨_, rfl, bt_get _ _ hx⟩
  obtain ⟨q, hq, hqt⟩ : ∃ q : UInt8, t[y] = q ∧ q.toNat = bt t y := ⟨_, rfl, bt_get _ _ hy⟩
  have HC := hideO (fun (W : World) => (compare_B p q W).mono (fun e w' (h : _ ∧ w' = W) => (⟨h.1, 0, h.2⟩ : _ ∧ ∃ m, w' = W.drewN m)))
  unfold cfI
  rw [hpt, hqt] at HC
  generalize (if bt t x < bt t y then (-1 : Int) else if bt t y < bt t x then 1 else 0) = r at HC ⊢
  have hcw : ∀ n, (w.drewN n).cell? ⟨c, 0, none⟩ = some (.string t) := fun n => hc
  have hcc : w.cell? ⟨c, 0, none⟩ = some (.string t) := hc
  rw [← hpt, ← hqt] at HC
  clear hc hpt hqt
  go_enter Try.func152, Try.ntmps152
  go_wp2_with fail
  go_quiet (first | (go_at_call 153; refine Calls.quiet_of (HC.out _)))
  all_goals (try go_wp2_with fail)
  go_ret
  exact ⟨rfl, nq, #[], (grow_empty _).symm⟩
end Go.Proofs.Ytdnmbagdegbnfaa.So
