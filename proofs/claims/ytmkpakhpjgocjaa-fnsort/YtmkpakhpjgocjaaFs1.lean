/- Texts put together: SoIter, SoCmpT. -/
import Derived.Test.YtmkpakhpjgocjaaFs0
import Derived.StillTailTactics
import Derived.RangeFuncNested
import Derived.RangeFuncBound
import Derived.RangeFuncCalls
import Derived.RangeFuncLeaves
import Derived.RangeFuncBox
import Derived.Shelf.Abstract
import Derived.Shelf.RegionOpen
import Derived.WalkKit
import Derived.OwnWalkIn
import Derived.TacticsInMore
import Derived.LoopNIn
import Derived.LoopIn
import Derived.Maps.AppendAt
import Derived.Stop.RegionWithIn
/- How a block's turns come through an iterator, and are put into a row. -/
namespace Go.Proofs.Ytmkpakhpjgocjaa.So
open Go.RowKit Go.Sort Go.Proofs Go.Shelf

attribute [local go_sem] Oper.semAt_some

/-- what a text is from a place on, and from its beginning -/
def turnV (t : ByteArray) (x : Nat) : ByteArray := t.extract x t.size ++ t.extract 0 x

set_option maxHeartbeats 1000000 in
theorem turnsOf_in (F : Fence) (n : Nat) (hf : F.fn 131) (hro : F.round = none) (t : ByteArray) (w : World) :
    CallsIn F n Try.prog 131 #[.string t] w fun e w' => e = .returned (.func (.func 153) #[] #[.pointer (some ⟨w.heap.size, 0, none⟩)]) ∧ w' = w.alloc (.cells #[.string t] 9) := by
  refine callsIn_of_wp Try.func131 rfl hf ?_ hro
  simp only [Try.ntmps131, List.size_toArray, List.length_cons, List.length_nil, Nat.reduceAdd, Nat.reduceSub, Array.replicate_succ, Array.replicate_zero, List.push_toArray, List.append_toArray, List.nil_append, List.cons_append]
  gi_wp2
  go_ret
  exact ⟨rfl, rfl⟩

/-- the text that the iterator goes over stays where it is -/
def KeepB (Bn : Nat) (W W' : World) : Prop := W'.cell? ⟨Bn, 0, none⟩ = W.cell? ⟨Bn, 0, none⟩
theorem KeepB.trans {Bn : Nat} {A B C : World} (h1 : KeepB Bn A B) (h2 : KeepB Bn B C) : KeepB Bn A C := Eq.trans h2 h1


set_option maxRecDepth 100000 in
set_option maxHeartbeats 1000000 in
theorem turns1_in (n : Nat) (l Bn : Nat) (t : ByteArray) (ht : t.size ≤ 1048576) (J Jx : List Nat → World → Prop)
    (hY : ∀ pre x W, J pre W → pre.length < t.size → YieldAt Fence.wide (n - 1) Try.prog l #[.agg #[.int .i64 (x : Nat), .string (turnV t x)]] W fun e W' =>
      (e = .returned (.bool true) ∧ J (pre ++ [x]) W' ∧ KeepB Bn W W') ∨ (e = .returned (.bool false) ∧ Jx (pre ++ [x]) W'))
    (hA : ∀ s A B, J s A → A.grownBy B none → J s B) (W : World) (hBn : W.cell? ⟨Bn, 0, none⟩ = some (.string t)) (h0 : J [] W) :
    CallsIn Fence.wide n Try.prog 153 #[.func (.yield l) #[] #[], .pointer (some ⟨Bn, 0, none⟩)] W fun e W' => (∃ v, e = .returned v) ∧
      ((∃ ys, ys = List.range t.size ∧ J ys W') ∨ (∃ pre, pre <+: List.range t.size ∧ Jx pre W')) := by
  have mixed := mixed
  refine callsIn_of_wp Try.func153 rfl trivial ?_ rfl
  simp only [Try.ntmps153, List.size_toArray, List.length_cons, List.length_nil, Nat.reduceAdd, Nat.reduceSub, Array.replicate_succ, Array.replicate_zero, List.push_toArray, List.append_toArray, List.nil_append, List.cons_append]
  gi_wp2
  gi_loopw [6] (fun p wr => ∃ k : Nat, p = .int .i64 k ∧ k ≤ t.size ∧ wr.cell? ⟨Bn, 0, none⟩ = some (.string t) ∧ J (List.range k) wr) (fun p _ => t.size - (intOf p).toNat)
  case atStart => exact ⟨0, rfl, Nat.zero_le _, hBn, h0⟩
  case round =>
    obtain ⟨k, rfl, hk, hc, hJ⟩ := hrel
    by_cases hlt : k < t.size
    · obtain ⟨fn, tmps, assign, body, hy, hR⟩ := hY (List.range k) k wr.drew (hA _ _ _ hJ ⟨rfl, rfl, rfl, Nat.le_refl _, fun _ _ _ => rfl⟩) (by simpa using hlt)
      unfold turnV at hy
      have hc' : wr.drew.cell? ⟨Bn, 0, none⟩ = some (.string t) := hc
      have hlt' : (k : Int) < (t.size : Int) := by omega
      have hle : (k : Int) ≤ (t.size : Int) := by omega
      have hge : ¬ (t.size : Int) < (k : Int) := by omega
      have hq0 : (t.extract k t.size).size + (t.extract 0 k).size ≤ 9223372036854775807 := by simp; omega
      gi_wp2
      refine wpIn_region_still_tail 10 mixed (by kernel_rfl) ?_
      simp only [List.take, List.drop]
      repeat still_step
      generalize t.extract k t.size = A at hq0 hy ⊢
      generalize t.extract 0 k = B at hq0 hy ⊢
      have hq4 : ¬ A.size + B.size > 9223372036854775807 := by omega
      have hq5 : ¬ 9223372036854775807 < A.size + B.size := by omega
      repeat still_step
      refine wpStill_nil ?_
      gi_wp2
      refine ⟨fun hx => (by cases hx), hR.mono ?_⟩
      rintro e W3 (⟨rfl, hJ3, hk3⟩ | ⟨rfl, hJx3⟩)
      · have hc3 : W3.cell? ⟨Bn, 0, none⟩ = some (.string t) := (show W3.cell? ⟨Bn, 0, none⟩ = wr.drew.cell? ⟨Bn, 0, none⟩ from hk3).trans hc'
        gi_wp2
        go_roundw
        case rel => exact ⟨k + 1, by go_num, by omega, hc3, by rw [List.range_succ]; exact hJ3⟩
        case measure => simp [intOf]; omega
      · gi_wp2
        refine bodyPost_ret (results_none rfl _ _ _) rfl ?_
        refine ⟨⟨_, rfl⟩, .inr ⟨List.range k ++ [k], ?_, hJx3⟩⟩
        rw [← List.range_succ]
        exact List.prefix_iff_eq_take.2 (by rw [List.length_range, List.take_range, Nat.min_eq_left hlt])
    · obtain rfl : k = t.size := by omega
      have hge : ¬ (t.size : Int) < (t.size : Int) := by omega
      gi_wp2
      go_end0
      exact ⟨⟨_, rfl⟩, .inl hJ⟩

/-- the turns of a block come, all of them, by rising place -/
theorem turns_stops (n Bn : Nat) (t : ByteArray) (ht : t.size ≤ 1048576) (w : World) (hBn : Bn < w.heap.size) (hc : w.cell? ⟨Bn, 0, none⟩ = some (.string t)) :
    SeqStopsK Fence.wide n Try.prog 153 #[.pointer (some ⟨Bn, 0, none⟩)] (fun x : Nat => #[Value.agg #[.int .i64 (x : Nat), .string (turnV t x)]]) (KeepB Bn) (fun ys => ys = List.range t.size) (fun pre => pre <+: List.range t.size) t.size w := fun l J Jx W hW hJ _ hY h0 =>
  turns1_in n l Bn t ht J Jx hY (fun s A B h1 h2 => hJ s A B none h1 h2 (fun r e => by cases e)) W ((hW.cell (p := ⟨Bn, 0, none⟩) hBn).trans hc) h0
end Go.Proofs.Ytmkpakhpjgocjaa.So

/- How two turns are compared. -/
namespace Go.Proofs.Ytmkpakhpjgocjaa.So
open Go.RowKit Go.Sort Go.Proofs

theorem bless_eq : ∀ (x y : List UInt8), Op.bytesLess x y = decide (x < y)
  | [], [] => by simp [Op.bytesLess]
  | _ :: _, [] => by simp [Op.bytesLess]
  | [], _ :: _ => by simp [Op.bytesLess]
  | a :: x, b :: y => by
    rw [Op.bytesLess, bless_eq x y]
    simp only [List.cons_lt_cons_iff]
    by_cases h1 : a < b <;> by_cases h2 : a = b <;> simp [h1, h2]
/-- one turn's text is less than another's -/
def clT (T : Nat → ByteArray) (x y : Nat) : Bool := Op.bytesLess (T x).toList (T y).toList
theorem clT_weak (T : Nat → ByteArray) : Weak (clT T) where
  irrefl x := by simp [clT, bless_eq, List.lt_irrefl]
  trans x y z h1 h2 := by
    simp only [clT, bless_eq, decide_eq_true_eq] at *
    exact List.lt_trans h1 h2
  ntrans x y z h1 h2 := by
    simp only [clT, bless_eq, decide_eq_false_iff_not, List.not_lt] at *
    exact List.le_trans h2 h1
def cfT (T : Nat → ByteArray) (x y : Nat) : Int := if Op.bytesLess (T x).toList (T y).toList = true then -1 else if ((T x).toList == (T y).toList) = true then 0 else 1
theorem cfT_neg (T : Nat → ByteArray) (x y : Nat) : decide (cfT T x y < 0) = clT T x y := by
  unfold cfT clT
  cases Op.bytesLess (T x).toList (T y).toList with
  | true => rfl
  | false =>
    cases ((T x).toList == (T y).toList) <;> rfl

theorem nan_S (s : ByteArray) (w : World) : Calls Try.prog 167 #[.string s] w fun e w' => e = .returned (.bool false) ∧ w' = w := by
  go_enter Try.func167, Try.ntmps167
  go_wp2_with fail
  go_ret
  exact ⟨rfl, rfl⟩

set_option maxHeartbeats 1000000 in
theorem compare_S (s t : ByteArray) (w : World) : Calls Try.prog 155 #[.string s, .string t] w fun e w' => e = .returned (.int .i64 (if Op.bytesLess s.toList t.toList = true then -1 else if (s.toList == t.toList) = true then 0 else 1)) ∧ w' = w := by
  cases h1 : Op.bytesLess s.toList t.toList with
  | true =>
    rw [if_pos rfl]
    go_enter Try.func155, Try.ntmps155
    go_wp2_with fail
    refine (nan_S s w).mono ?_
    rintro e w' ⟨rfl, hw⟩
    subst w'
    go_wp2_with fail
    refine (nan_S t w).mono ?_
    rintro e w' ⟨rfl, hw⟩
    subst w'
    go_wp2_with fail
    go_ret
    exact ⟨rfl, rfl⟩
  | false =>
    rw [if_neg Bool.false_ne_true]
    cases h2 : (s.toList == t.toList) with
    | true =>
      rw [if_pos rfl]
      have h3 : (!(Op.bytesLess s.toList t.toList || s.toList == t.toList)) = false := by rw [h1, h2]; rfl
      go_enter Try.func155, Try.ntmps155
      go_wp2_with fail
      refine (nan_S s w).mono ?_
      rintro e w' ⟨rfl, hw⟩
      subst w'
      go_wp2_with fail
      refine (nan_S t w).mono ?_
      rintro e w' ⟨rfl, hw⟩
      subst w'
      go_wp2_with fail
      go_ret
      exact ⟨rfl, rfl⟩
    | false =>
      rw [if_neg Bool.false_ne_true]
      have h3 : (!(Op.bytesLess s.toList t.toList || s.toList == t.toList)) = true := by rw [h1, h2]; rfl
      go_enter Try.func155, Try.ntmps155
      go_wp2_with fail
      refine (nan_S s w).mono ?_
      rintro e w' ⟨rfl, hw⟩
      subst w'
      go_wp2_with fail
      refine (nan_S t w).mono ?_
      rintro e w' ⟨rfl, hw⟩
      subst w'
      go_wp2_with fail
      go_ret
      exact ⟨rfl, rfl⟩

theorem alloc2_grow (w : World) (o p : Obj) : (w.alloc o).alloc p = grow (w.drewN 0) #[o, p] := by
  have e : (w.heap.push o).push p = w.heap ++ #[o, p] := by
    apply Array.ext'
    simp
  unfold World.alloc grow World.drewN
  simp only
  rw [e]
  rfl

set_option maxHeartbeats 1000000 in
theorem cmp_T (T : Nat → ByteArray) (x y : Nat) (w : World) : Calls Try.prog 133 #[.agg (encT T x).toArray, .agg (encT T y).toArray] w fun e w' => e = .returned (.int .i64 (cfT T x y)) ∧ ∃ q os', w' = grow (w.drewN q) os' := by
  have HC := hideO (fun W => compare_S (T x) (T y) W)
  unfold cfT
  generalize (if Op.bytesLess (T x).toList (T y).toList = true then (-1 : Int) else if ((T x).toList == (T y).toList) = true then 0 else 1) = r at HC ⊢
  unfold encT
  go_enter Try.func133, Try.ntmps133
  go_wp2_with fail
  refine (HC.out _).mono ?_
  rintro e w' ⟨rfl, hw⟩
  subst w'
  go_wp2_with fail
  go_ret
  exact ⟨rfl, 0, _, alloc2_grow _ _ _⟩
end Go.Proofs.Ytmkpakhpjgocjaa.So
