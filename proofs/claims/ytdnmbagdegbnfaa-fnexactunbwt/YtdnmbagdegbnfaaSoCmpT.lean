/- How two turns are compared. -/
import Derived.Test.YtdnmbagdegbnfaaSoRow
namespace Go.Proofs.Ytdnmbagdegbnfaa.So
open Go.RowKit Go.Sort Go.Proofs

theorem bless_eq : ∀ (x y : List UInt8), Op.bytesLess x y = decide (x < y)
  | [], [] => by simp [Op.bytesLess]
  | _ :: _, [] => by simp [Op.bytesLess]
  | [], _ :: _ => by simp [Op.bytesLess]
  | a :: x, b :: y => by
    rw [Op.bytesLess, bless_eq x y]
    simp only [List.cons_lt_cons_iff]
    by_cases h1 : a < b <;> by_cases h2 : a = b <;> simp [h1, h2]
/-- one turn's text is less than another's -/
def clT (T : Nat → ByteArray) (x y : Nat) : Bool := Op.bytesLess (T x).toList (T y).toList
theorem clT_weak (T : Nat → ByteArray) : Weak (clT T) where
  irrefl x := by simp [clT, bless_eq, List.lt_irrefl]
  trans x y z h1 h2 := by
    simp only [clT, bless_eq, decide_eq_true_eq] at *
    exact List.lt_trans h1 h2
  ntrans x y z h1 h2 := by
    simp only [clT, bless_eq, decide_eq_false_iff_not, List.not_lt] at *
    exact List.le_trans h2 h1
def cfT (T : Nat → ByteArray) (x y : Nat) : Int := if Op.bytesLess (T x).toList (T y).toList = true then -1 else if ((T x).toList == (T y).toList) = true then 0 else 1
theorem cfT_neg (T : Nat → ByteArray) (x y : Nat) : decide (cfT T x y < 0) = clT T x y := by
  unfold cfT clT
  cases Op.bytesLess (T x).toList (T y).toList with
  | true => rfl
  | false =>
    cases ((T x).toList == (T y).toList) <;> rfl

theorem nan_S (s : ByteArray) (w : World) : Calls Try.prog 157 #[.string s] w fun e w' => e = .returned (.bool false) ∧ w' = w := by
  go_enter Try.func157, Try.ntmps157
  go_wp2_with fail
  go_ret
  exact ⟨rfl, rfl⟩

set_option maxHeartbeats 1000000 in
theorem compare_S (s t : ByteArray) (w : World) : Calls Try.prog 150 #[.string s, .string t] w fun e w' => e = .returned (.int .i64 (if Op.bytesLess s.toList t.toList = true then -1 else if (s.toList == t.toList) = true then 0 else 1)) ∧ w' = w := by
  cases h1 : Op.bytesLess s.toList t.toList with
  | true =>
    rw [if_pos rfl]
    go_enter Try.func150, Try.ntmps150
    go_wp2_with fail
    refine (nan_S s w).mono ?_
    rintro e w' ⟨rfl, hw⟩
    subst w'
    go_wp2_with fail
    refine (nan_S t w).mono ?_
    rintro e w' ⟨rfl, hw⟩
    subst w'
    go_wp2_with fail
    go_ret
    exact ⟨rfl, rfl⟩
  | false =>
    rw [if_neg Bool.false_ne_true]
    cases h2 : (s.toList == t.toList) with
    | true =>
      rw [if_pos rfl]
      have h3 : (!(Op.bytesLess s.toList t.toList || s.toList == t.toList)) = false := by rw [h1, h2]; rfl
      go_enter Try.func150, Try.ntmps150
      go_wp2_with fail
      refine (nan_S s w).mono ?_
      rintro e w' ⟨rfl, hw⟩
      subst w'
      go_wp2_with fail
      refine (nan_S t w).mono ?_
      rintro e w' ⟨rfl, hw⟩
      subst w'
      go_wp2_with fail
      go_ret
      exact ⟨rfl, rfl⟩
    | false =>
      rw [if_neg Bool.false_ne_true]
      have h3 : (!(Op.bytesLess s.toList t.toList || s.toList == t.toList)) = true := by rw [h1, h2]; rfl
      go_enter Try.func150, Try.ntmps150
      go_wp2_with fail
      refine (nan_S s w).mono ?_
      rintro e w' ⟨rfl, hw⟩
      subst w'
      go_wp2_with fail
      refine (nan_S t w).mono ?_
      rintro e w' ⟨rfl, hw⟩
      subst w'
      go_wp2_with fail
      go_ret
      exact ⟨rfl, rfl⟩

theorem alloc2_grow (w : World) (o p : Obj) : (w.alloc o).alloc p = grow (w.drewN 0) #[o, p] := by
  have e : (w.heap.push o).push p = w.heap ++ #[o, p] := by
    apply Array.ext'
    simp
  unfold World.alloc grow World.drewN
  simp only
  rw [e]
  rfl

set_option maxHeartbeats 1000000 in
theorem cmp_T (T : Nat → ByteArray) (x y : Nat) (w : World) : Calls Try.prog 136 #[.agg (encT T x).toArray, .agg (encT T y).toArray] w fun e w' => e = .returned (.int .i64 (cfT T x y)) ∧ ∃ q os', w' = grow (w.drewN q) os' := by
  have HC := hideO (fun W => compare_S (T x) (T y) W)
  unfold cfT
  generalize (if Op.bytesLess (T x).toList (T y).toList = true then (-1 : Int) else if ((T x).toList == (T y).toList) = true then 0 else 1) = r at HC ⊢
  unfold encT
  go_enter Try.func136, Try.ntmps136
  go_wp2_with fail
  refine (HC.out _).mono ?_
  rintro e w' ⟨rfl, hw⟩
  subst w'
  go_wp2_with fail
  go_ret
  exact ⟨rfl, 0, _, alloc2_grow _ _ _⟩
end Go.Proofs.Ytdnmbagdegbnfaa.So
