/- Texts put together: InclPlain, WayPlain. -/
import Derived.Test.YtkfipamdfpknpaaDoorWy22
/- Plain mathematics of inclusion: climbing from a leaf down from the root's step, and up from the leaf's own, come to the same. -/
namespace Go.Proofs.YtkfipamdfpknpaaDoor.Tr
open Go.Proofs.YtkfipamdfpknpaaDoor.Sh (nodeV)
def climbR : Nat → Nat → Nat → List ByteArray → ByteArray → Option ByteArray
 | 0, _, _, _, _ => none
 | f + 1, n, i, p, h =>
  if n ≤ 1 then (if p = [] then some h else none)
  else match p.getLast? with
   | none => none
   | some s => if i < half n then (climbR f (half n) i p.dropLast h).map (fun x => nodeV x s) else (climbR f (n - half n) (i - half n) p.dropLast h).map (fun x => nodeV s x)
def od (a : Nat) : Nat := if _h : a % 2 = 0 ∧ 0 < a then od (a / 2) else a
termination_by a
decreasing_by omega
theorem od_even (a : Nat) (h : a % 2 = 0) (h0 : 0 < a) : od a = od (a / 2) := by rw [od, dif_pos ⟨h, h0⟩]
theorem od_odd (a : Nat) (h : ¬ (a % 2 = 0 ∧ 0 < a)) : od a = a := by rw [od, dif_neg h]
def climbS : Nat → Nat → List ByteArray → ByteArray → Option ByteArray
 | _, last, [], h => if last = 0 then some h else none
 | a, last, p :: ps, h =>
  if last = 0 then none
  else if a % 2 = 1 then climbS (a / 2) (last / 2) ps (nodeV p h)
  else if a = last then climbS (od a / 2) (od a / 2) ps (nodeV p h)
  else climbS (a / 2) (last / 2) ps (nodeV h p)
theorem climbS_zero (a : Nat) (p : List ByteArray) (h : ByteArray) (hp : p ≠ []) : climbS a 0 p h = none := by
 cases p with
 | nil => exact absurd rfl hp
 | cons x xs => rw [climbS, if_pos rfl]
theorem climbS_odd (a last : Nat) (x : ByteArray) (xs : List ByteArray) (h : ByteArray) (h0 : last ≠ 0) (h1 : a % 2 = 1) : climbS a last (x :: xs) h = climbS (a / 2) (last / 2) xs (nodeV x h) := by
 rw [climbS, if_neg h0, if_pos h1]
theorem climbS_end (a : Nat) (x : ByteArray) (xs : List ByteArray) (h : ByteArray) (h0 : a ≠ 0) (h1 : a % 2 = 0) : climbS a a (x :: xs) h = climbS (od a / 2) (od a / 2) xs (nodeV x h) := by
 rw [climbS, if_neg h0, if_neg (by omega), if_pos rfl]
theorem climbS_even (a last : Nat) (x : ByteArray) (xs : List ByteArray) (h : ByteArray) (h0 : last ≠ 0) (h1 : a % 2 = 0) (h2 : a ≠ last) : climbS a last (x :: xs) h = climbS (a / 2) (last / 2) xs (nodeV h x) := by
 rw [climbS, if_neg h0, if_neg (by omega), if_neg h2]
theorem climbS_nil (a last : Nat) (h : ByteArray) : climbS a last [] h = if last = 0 then some h else none := by rw [climbS]
theorem pow_half (t : Nat) (h : 0 < t) : 2 ^ t / 2 = 2 ^ (t - 1) ∧ 2 ^ t = 2 * 2 ^ (t - 1) := by
 obtain ⟨s, rfl⟩ : ∃ s, t = s + 1 := ⟨t - 1, by omega⟩
 rw [Nat.pow_succ]
 simp
 omega
theorem pow_pos2 (t : Nat) : 1 ≤ 2 ^ t := Nat.one_le_two_pow
theorem climb_left : ∀ (p : List ByteArray) (t a last : Nat) (s h : ByteArray), a < 2 ^ t → 2 ^ t ≤ last → last < 2 ^ (t + 1) →
  climbS a last (p ++ [s]) h = (climbS a (2 ^ t - 1) p h).map (fun x => nodeV x s)
 | [], t, a, last, s, h, h1, h2, h3 => by
  have hp := pow_pos2 t
  rw [List.nil_append, climbS_nil]
  rcases Nat.eq_zero_or_pos t with h0 | h0
  ·subst h0
   rw [climbS_even a last s [] h (by omega) (by omega) (by omega), climbS_nil, if_pos (by omega), if_pos (by omega)]
   rfl
  ·obtain ⟨e1, e2⟩ := pow_half t h0
   have hq := pow_pos2 (t - 1)
   rw [if_neg (by omega)]
   by_cases ha : a % 2 = 1
   ·rw [climbS_odd a last s [] h (by omega) ha, climbS_nil, if_neg (by omega)]
    rfl
   ·rw [climbS_even a last s [] h (by omega) (by omega) (by omega), climbS_nil, if_neg (by omega)]
    rfl
 | x :: xs, t, a, last, s, h, h1, h2, h3 => by
  have hp := pow_pos2 t
  rw [List.cons_append]
  rcases Nat.eq_zero_or_pos t with h0 | h0
  ·subst h0
   rw [climbS_even a last x (xs ++ [s]) h (by omega) (by omega) (by omega)]
   rw [show last / 2 = 0 by omega, climbS_zero _ _ _ (by simp)]
   rw [show 2 ^ 0 - 1 = 0 by omega, climbS_zero _ _ _ (by simp)]
   rfl
  ·obtain ⟨e1, e2⟩ := pow_half t h0
   have hq := pow_pos2 (t - 1)
   have e3 : (2 ^ t - 1) / 2 = 2 ^ (t - 1) - 1 := by omega
   have e4 : 2 ^ (t + 1) = 2 * 2 ^ t := by rw [Nat.pow_succ]; omega
   have e5 : 2 ^ (t - 1 + 1) = 2 ^ t := by rw [show t - 1 + 1 = t by omega]
   by_cases ha : a % 2 = 1
   ·rw [climbS_odd a last x _ h (by omega) ha, climbS_odd a (2 ^ t - 1) x _ h (by omega) ha, e3]
    exact climb_left xs (t - 1) (a / 2) (last / 2) s (nodeV x h) (by omega) (by omega) (by omega)
   ·rw [climbS_even a last x _ h (by omega) (by omega) (by omega), climbS_even a (2 ^ t - 1) x _ h (by omega) (by omega) (by omega), e3]
    exact climb_left xs (t - 1) (a / 2) (last / 2) s (nodeV h x) (by omega) (by omega) (by omega)
theorem od_pow : ∀ t : Nat, od (2 ^ t) = 1
 | 0 => by rw [od_odd _ (by decide)]
 | t + 1 => by
  have hp := pow_pos2 t
  rw [Nat.pow_succ, od_even _ (by omega) (by omega), show 2 ^ t * 2 / 2 = 2 ^ t by omega]
  exact od_pow t
theorem od_top : ∀ (t r : Nat), 0 < r → r < 2 ^ t → ∃ u, 1 ≤ u ∧ u ≤ t ∧ od (2 ^ t + r) = 2 ^ u + od r ∧ od r < 2 ^ u ∧ 0 < od r
 | 0, r, h0, h1 => by simp at h1; omega
 | t + 1, r, h0, h1 => by
  have hp := pow_pos2 t
  have e : 2 ^ (t + 1) = 2 * 2 ^ t := by rw [Nat.pow_succ]; omega
  by_cases hr : r % 2 = 0
  ·obtain ⟨u, u1, u2, u3, u4, u5⟩ := od_top t (r / 2) (by omega) (by omega)
   refine ⟨u, u1, by omega, ?_, ?_, ?_⟩
   ·rw [od_even (2 ^ (t + 1) + r) (by omega) (by omega), od_even r hr h0, show (2 ^ (t + 1) + r) / 2 = 2 ^ t + r / 2 by omega]
    exact u3
   ·rw [od_even r hr h0]; exact u4
   ·rw [od_even r hr h0]; exact u5
  ·refine ⟨t + 1, by omega, Nat.le_refl _, ?_, ?_, ?_⟩
   ·rw [od_odd (2 ^ (t + 1) + r) (by omega), od_odd r (by omega)]
   ·rw [od_odd r (by omega)]; exact h1
   ·rw [od_odd r (by omega)]; exact h0
theorem climb_right : ∀ (p : List ByteArray) (t a last : Nat) (s h : ByteArray), 2 ^ t ≤ a → a ≤ last → last < 2 ^ (t + 1) →
    climbS a last (p ++ [s]) h = (climbS (a - 2 ^ t) (last - 2 ^ t) p h).map (fun x => nodeV s x)
  | [], t, a, last, s, h, h1, h2, h3 => by
    have hp := pow_pos2 t
    have e4 : 2 ^ (t + 1) = 2 * 2 ^ t := by rw [Nat.pow_succ]; omega
    rw [List.nil_append, climbS_nil (a - 2 ^ t)]
    by_cases hl : last = 2 ^ t
    · obtain rfl : a = last := by omega
      rw [if_pos (by omega)]
      by_cases ha : a % 2 = 1
      · rw [climbS_odd a a s [] h (by omega) ha, climbS_nil, if_pos (by
          rcases Nat.eq_zero_or_pos t with h0 | h0
          · subst h0; omega
          · obtain ⟨e1, e2⟩ := pow_half t h0; omega)]
        rfl
      · rw [climbS_end a s [] h (by omega) (by omega), climbS_nil, hl, od_pow, if_pos (by decide)]
        rfl
    · rw [if_neg (by omega)]
      have h0 : 0 < t := by
        rcases Nat.eq_zero_or_pos t with h0 | h0
        · subst h0; omega
        · exact h0
      obtain ⟨e1, e2⟩ := pow_half t h0
      have hq := pow_pos2 (t - 1)
      by_cases ha : a % 2 = 1
      · rw [climbS_odd a last s [] h (by omega) ha, climbS_nil, if_neg (by omega)]
        rfl
      · by_cases hal : a = last
        · subst hal
          obtain ⟨u, u1, u2, u3, u4, u5⟩ := od_top t (a - 2 ^ t) (by omega) (by omega)
          rw [show 2 ^ t + (a - 2 ^ t) = a by omega] at u3
          obtain ⟨f1, f2⟩ := pow_half u u1
          have hq' := pow_pos2 (u - 1)
          rw [climbS_end a s [] h (by omega) (by omega), climbS_nil, if_neg (by omega)]
          rfl
        · rw [climbS_even a last s [] h (by omega) (by omega) hal, climbS_nil, if_neg (by omega)]
          rfl
  | x :: xs, t, a, last, s, h, h1, h2, h3 => by
    have hp := pow_pos2 t
    have e4 : 2 ^ (t + 1) = 2 * 2 ^ t := by rw [Nat.pow_succ]; omega
    rw [List.cons_append]
    by_cases hl : last = 2 ^ t
    · obtain rfl : a = last := by omega
      rw [show a - 2 ^ t = 0 by omega, climbS_zero _ _ _ (by simp)]
      by_cases ha : a % 2 = 1
      · rw [climbS_odd a a x _ h (by omega) ha, show a / 2 = 0 by
          rcases Nat.eq_zero_or_pos t with h0 | h0
          · subst h0; omega
          · obtain ⟨e1, e2⟩ := pow_half t h0; omega, climbS_zero _ _ _ (by simp)]
        rfl
      · rw [climbS_end a x _ h (by omega) (by omega), hl, od_pow, show 1 / 2 = 0 from rfl, climbS_zero _ _ _ (by simp)]
        rfl
    · have h0 : 0 < t := by
        rcases Nat.eq_zero_or_pos t with h0 | h0
        · subst h0; omega
        · exact h0
      obtain ⟨e1, e2⟩ := pow_half t h0
      have hq := pow_pos2 (t - 1)
      have e5 : 2 ^ (t - 1 + 1) = 2 ^ t := by rw [show t - 1 + 1 = t by omega]
      have e6 : (a - 2 ^ t) / 2 = a / 2 - 2 ^ (t - 1) := by omega
      have e7 : (last - 2 ^ t) / 2 = last / 2 - 2 ^ (t - 1) := by omega
      by_cases ha : a % 2 = 1
      · rw [climbS_odd a last x _ h (by omega) ha, climbS_odd (a - 2 ^ t) (last - 2 ^ t) x _ h (by omega) (by omega), e6, e7]
        exact climb_right xs (t - 1) (a / 2) (last / 2) s (nodeV x h) (by omega) (by omega) (by omega)
      · by_cases hal : a = last
        · subst hal
          obtain ⟨u, u1, u2, u3, u4, u5⟩ := od_top t (a - 2 ^ t) (by omega) (by omega)
          rw [show 2 ^ t + (a - 2 ^ t) = a by omega] at u3
          obtain ⟨f1, f2⟩ := pow_half u u1
          have f5 : 2 ^ (u - 1 + 1) = 2 ^ u := by rw [show u - 1 + 1 = u by omega]
          rw [climbS_end a x _ h (by omega) (by omega), climbS_end (a - 2 ^ t) x _ h (by omega) (by omega)]
          rw [show od (a - 2 ^ t) / 2 = od a / 2 - 2 ^ (u - 1) by omega]
          exact climb_right xs (u - 1) (od a / 2) (od a / 2) s (nodeV x h) (by omega) (by omega) (by omega)
        · rw [climbS_even a last x _ h (by omega) (by omega) hal, climbS_even (a - 2 ^ t) (last - 2 ^ t) x _ h (by omega) (by omega) (by omega), e6, e7]
          exact climb_right xs (t - 1) (a / 2) (last / 2) s (nodeV h x) (by omega) (by omega) (by omega)
end Go.Proofs.YtkfipamdfpknpaaDoor.Tr


/- Climbing in a tree, whatever is carried along: down from the root's step, and up from the leaf's own, come to the same. -/
namespace Go.Proofs.YtkfipamdfpknpaaDoor.Tr
def gR {α : Type} (FL : ByteArray → α → α) (FR : α → ByteArray → α) : Nat → Nat → Nat → List ByteArray → α → Option α
 | 0, _, _, _, _ => none
 | f + 1, n, i, p, h =>
  if n ≤ 1 then (if p = [] then some h else none)
  else match p.getLast? with
   | none => none
   | some s => if i < half n then (gR FL FR f (half n) i p.dropLast h).map (fun x => FR x s) else (gR FL FR f (n - half n) (i - half n) p.dropLast h).map (fun x => FL s x)
def gS {α : Type} (FL : ByteArray → α → α) (FR : α → ByteArray → α) : Nat → Nat → List ByteArray → α → Option α
 | _, last, [], h => if last = 0 then some h else none
 | a, last, p :: ps, h =>
  if last = 0 then none
  else if a % 2 = 1 then gS FL FR (a / 2) (last / 2) ps (FL p h)
  else if a = last then gS FL FR (od a / 2) (od a / 2) ps (FL p h)
  else gS FL FR (a / 2) (last / 2) ps (FR h p)
theorem gS_zero {α : Type} (FL : ByteArray → α → α) (FR : α → ByteArray → α) (a : Nat) (p : List ByteArray) (h : α) (hp : p ≠ []) : gS FL FR a 0 p h = none := by
 cases p with
 | nil => exact absurd rfl hp
 | cons x xs => rw [gS, if_pos rfl]
theorem gS_odd {α : Type} (FL : ByteArray → α → α) (FR : α → ByteArray → α) (a last : Nat) (x : ByteArray) (xs : List ByteArray) (h : α) (h0 : last ≠ 0) (h1 : a % 2 = 1) : gS FL FR a last (x :: xs) h = gS FL FR (a / 2) (last / 2) xs (FL x h) := by
 rw [gS, if_neg h0, if_pos h1]
theorem gS_end {α : Type} (FL : ByteArray → α → α) (FR : α → ByteArray → α) (a : Nat) (x : ByteArray) (xs : List ByteArray) (h : α) (h0 : a ≠ 0) (h1 : a % 2 = 0) : gS FL FR a a (x :: xs) h = gS FL FR (od a / 2) (od a / 2) xs (FL x h) := by
 rw [gS, if_neg h0, if_neg (by omega), if_pos rfl]
theorem gS_even {α : Type} (FL : ByteArray → α → α) (FR : α → ByteArray → α) (a last : Nat) (x : ByteArray) (xs : List ByteArray) (h : α) (h0 : last ≠ 0) (h1 : a % 2 = 0) (h2 : a ≠ last) : gS FL FR a last (x :: xs) h = gS FL FR (a / 2) (last / 2) xs (FR h x) := by
 rw [gS, if_neg h0, if_neg (by omega), if_neg h2]
theorem gS_nil {α : Type} (FL : ByteArray → α → α) (FR : α → ByteArray → α) (a last : Nat) (h : α) : gS FL FR a last [] h = if last = 0 then some h else none := by rw [gS]
theorem g_left {α : Type} (FL : ByteArray → α → α) (FR : α → ByteArray → α) : ∀ (p : List ByteArray) (t a last : Nat) (s : ByteArray) (h : α), a < 2 ^ t → 2 ^ t ≤ last → last < 2 ^ (t + 1) →
  gS FL FR a last (p ++ [s]) h = (gS FL FR a (2 ^ t - 1) p h).map (fun x => FR x s)
 | [], t, a, last, s, h, h1, h2, h3 => by
  have hp := pow_pos2 t
  rw [List.nil_append, gS_nil FL FR]
  rcases Nat.eq_zero_or_pos t with h0 | h0
  ·subst h0
   rw [gS_even FL FR a last s [] h (by omega) (by omega) (by omega), gS_nil FL FR, if_pos (by omega), if_pos (by omega)]
   rfl
  ·obtain ⟨e1, e2⟩ := pow_half t h0
   have hq := pow_pos2 (t - 1)
   rw [if_neg (by omega)]
   by_cases ha : a % 2 = 1
   ·rw [gS_odd FL FR a last s [] h (by omega) ha, gS_nil FL FR, if_neg (by omega)]
    rfl
   ·rw [gS_even FL FR a last s [] h (by omega) (by omega) (by omega), gS_nil FL FR, if_neg (by omega)]
    rfl
 | x :: xs, t, a, last, s, h, h1, h2, h3 => by
  have hp := pow_pos2 t
  rw [List.cons_append]
  rcases Nat.eq_zero_or_pos t with h0 | h0
  ·subst h0
   rw [gS_even FL FR a last x (xs ++ [s]) h (by omega) (by omega) (by omega)]
   rw [show last / 2 = 0 by omega, gS_zero FL FR _ _ _ (by simp)]
   rw [show 2 ^ 0 - 1 = 0 by omega, gS_zero FL FR _ _ _ (by simp)]
   rfl
  ·obtain ⟨e1, e2⟩ := pow_half t h0
   have hq := pow_pos2 (t - 1)
   have e3 : (2 ^ t - 1) / 2 = 2 ^ (t - 1) - 1 := by omega
   have e4 : 2 ^ (t + 1) = 2 * 2 ^ t := by rw [Nat.pow_succ]; omega
   have e5 : 2 ^ (t - 1 + 1) = 2 ^ t := by rw [show t - 1 + 1 = t by omega]
   by_cases ha : a % 2 = 1
   ·rw [gS_odd FL FR a last x _ h (by omega) ha, gS_odd FL FR a (2 ^ t - 1) x _ h (by omega) ha, e3]
    exact g_left FL FR xs (t - 1) (a / 2) (last / 2) s (FL x h) (by omega) (by omega) (by omega)
   ·rw [gS_even FL FR a last x _ h (by omega) (by omega) (by omega), gS_even FL FR a (2 ^ t - 1) x _ h (by omega) (by omega) (by omega), e3]
    exact g_left FL FR xs (t - 1) (a / 2) (last / 2) s (FR h x) (by omega) (by omega) (by omega)
theorem g_right {α : Type} (FL : ByteArray → α → α) (FR : α → ByteArray → α) : ∀ (p : List ByteArray) (t a last : Nat) (s : ByteArray) (h : α), 2 ^ t ≤ a → a ≤ last → last < 2 ^ (t + 1) →
    gS FL FR a last (p ++ [s]) h = (gS FL FR (a - 2 ^ t) (last - 2 ^ t) p h).map (fun x => FL s x)
  | [], t, a, last, s, h, h1, h2, h3 => by
    have hp := pow_pos2 t
    have e4 : 2 ^ (t + 1) = 2 * 2 ^ t := by rw [Nat.pow_succ]; omega
    rw [List.nil_append, gS_nil FL FR (a - 2 ^ t)]
    by_cases hl : last = 2 ^ t
    · obtain rfl : a = last := by omega
      rw [if_pos (by omega)]
      by_cases ha : a % 2 = 1
      · rw [gS_odd FL FR a a s [] h (by omega) ha, gS_nil FL FR, if_pos (by
          rcases Nat.eq_zero_or_pos t with h0 | h0
          · subst h0; omega
          · obtain ⟨e1, e2⟩ := pow_half t h0; omega)]
        rfl
      · rw [gS_end FL FR a s [] h (by omega) (by omega), gS_nil FL FR, hl, od_pow, if_pos (by decide)]
        rfl
    · rw [if_neg (by omega)]
      have h0 : 0 < t := by
        rcases Nat.eq_zero_or_pos t with h0 | h0
        · subst h0; omega
        · exact h0
      obtain ⟨e1, e2⟩ := pow_half t h0
      have hq := pow_pos2 (t - 1)
      by_cases ha : a % 2 = 1
      · rw [gS_odd FL FR a last s [] h (by omega) ha, gS_nil FL FR, if_neg (by omega)]
        rfl
      · by_cases hal : a = last
        · subst hal
          obtain ⟨u, u1, u2, u3, u4, u5⟩ := od_top t (a - 2 ^ t) (by omega) (by omega)
          rw [show 2 ^ t + (a - 2 ^ t) = a by omega] at u3
          obtain ⟨f1, f2⟩ := pow_half u u1
          have hq' := pow_pos2 (u - 1)
          rw [gS_end FL FR a s [] h (by omega) (by omega), gS_nil FL FR, if_neg (by omega)]
          rfl
        · rw [gS_even FL FR a last s [] h (by omega) (by omega) hal, gS_nil FL FR, if_neg (by omega)]
          rfl
  | x :: xs, t, a, last, s, h, h1, h2, h3 => by
    have hp := pow_pos2 t
    have e4 : 2 ^ (t + 1) = 2 * 2 ^ t := by rw [Nat.pow_succ]; omega
    rw [List.cons_append]
    by_cases hl : last = 2 ^ t
    · obtain rfl : a = last := by omega
      rw [show a - 2 ^ t = 0 by omega, gS_zero FL FR _ _ _ (by simp)]
      by_cases ha : a % 2 = 1
      · rw [gS_odd FL FR a a x _ h (by omega) ha, show a / 2 = 0 by
          rcases Nat.eq_zero_or_pos t with h0 | h0
          · subst h0; omega
          · obtain ⟨e1, e2⟩ := pow_half t h0; omega, gS_zero FL FR _ _ _ (by simp)]
        rfl
      · rw [gS_end FL FR a x _ h (by omega) (by omega), hl, od_pow, show 1 / 2 = 0 from rfl, gS_zero FL FR _ _ _ (by simp)]
        rfl
    · have h0 : 0 < t := by
        rcases Nat.eq_zero_or_pos t with h0 | h0
        · subst h0; omega
        · exact h0
      obtain ⟨e1, e2⟩ := pow_half t h0
      have hq := pow_pos2 (t - 1)
      have e5 : 2 ^ (t - 1 + 1) = 2 ^ t := by rw [show t - 1 + 1 = t by omega]
      have e6 : (a - 2 ^ t) / 2 = a / 2 - 2 ^ (t - 1) := by omega
      have e7 : (last - 2 ^ t) / 2 = last / 2 - 2 ^ (t - 1) := by omega
      by_cases ha : a % 2 = 1
      · rw [gS_odd FL FR a last x _ h (by omega) ha, gS_odd FL FR (a - 2 ^ t) (last - 2 ^ t) x _ h (by omega) (by omega), e6, e7]
        exact g_right FL FR xs (t - 1) (a / 2) (last / 2) s (FL x h) (by omega) (by omega) (by omega)
      · by_cases hal : a = last
        · subst hal
          obtain ⟨u, u1, u2, u3, u4, u5⟩ := od_top t (a - 2 ^ t) (by omega) (by omega)
          rw [show 2 ^ t + (a - 2 ^ t) = a by omega] at u3
          obtain ⟨f1, f2⟩ := pow_half u u1
          have f5 : 2 ^ (u - 1 + 1) = 2 ^ u := by rw [show u - 1 + 1 = u by omega]
          rw [gS_end FL FR a x _ h (by omega) (by omega), gS_end FL FR (a - 2 ^ t) x _ h (by omega) (by omega)]
          rw [show od (a - 2 ^ t) / 2 = od a / 2 - 2 ^ (u - 1) by omega]
          exact g_right FL FR xs (u - 1) (od a / 2) (od a / 2) s (FL x h) (by omega) (by omega) (by omega)
        · rw [gS_even FL FR a last x _ h (by omega) (by omega) hal, gS_even FL FR (a - 2 ^ t) (last - 2 ^ t) x _ h (by omega) (by omega) (by omega), e6, e7]
          exact g_right FL FR xs (t - 1) (a / 2) (last / 2) s (FR h x) (by omega) (by omega) (by omega)
theorem g_same {α : Type} (FL : ByteArray → α → α) (FR : α → ByteArray → α) : ∀ (f n i : Nat) (p : List ByteArray) (h : α), n ≤ f → i < n → gR FL FR f n i p h = gS FL FR i (n - 1) p h
 | 0, n, i, p, h, h1, h2 => by omega
 | f + 1, n, i, p, h, h1, h2 => by
  rw [gR]
  by_cases hn : n ≤ 1
  ·rw [if_pos hn, show n - 1 = 0 by omega]
   cases p with
   | nil => rw [if_pos rfl, gS_nil FL FR, if_pos rfl]
   | cons x xs => rw [if_neg (by simp), gS_zero FL FR _ _ _ (by simp)]
  ·rw [if_neg hn]
   cases hp : p.getLast? with
   | none =>
    have : p = [] := List.getLast?_eq_none_iff.1 hp
    subst this
    rw [gS_nil FL FR, if_neg (by omega)]
   | some s =>
    have hps : p.dropLast ++ [s] = p := by
     obtain ⟨q, rfl⟩ := List.getLast?_eq_some_iff.1 hp
     simp
    have k1 := half_pos n
    have k2 := half_lt n (by omega)
    have k3 := half_two n (by omega)
    have hk : half n = 2 ^ Nat.log2 (n - 1) := rfl
    have e4 : 2 ^ (Nat.log2 (n - 1) + 1) = 2 * half n := by rw [Nat.pow_succ, hk]; omega
    simp only []
    by_cases hi : i < half n
    ·rw [if_pos hi, g_same FL FR f (half n) i p.dropLast h (by omega) hi]
     have := g_left FL FR p.dropLast (Nat.log2 (n - 1)) i (n - 1) s h (by rw [← hk]; exact hi) (by rw [← hk]; omega) (by rw [e4]; omega)
     rw [hps, ← hk] at this
     exact this.symm
    ·rw [if_neg hi, g_same FL FR f (n - half n) (i - half n) p.dropLast h (by omega) (by omega)]
     have := g_right FL FR p.dropLast (Nat.log2 (n - 1)) i (n - 1) s h (by rw [← hk]; omega) (by omega) (by rw [e4]; omega)
     rw [hps, ← hk, show n - 1 - half n = n - half n - 1 by omega] at this
     exact this.symm
end Go.Proofs.YtkfipamdfpknpaaDoor.Tr

