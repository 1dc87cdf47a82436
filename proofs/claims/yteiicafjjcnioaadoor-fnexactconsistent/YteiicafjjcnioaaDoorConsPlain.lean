/- Plain mathematics of consistency: two climbs at once, up from the last whole part of the old ones; and the way down from the root. -/
import Derived.Test.YteiicafjjcnioaaDoorInclPlain
namespace Go.Proofs.YteiicafjjcnioaaDoor.Tr
open Go.Proofs.YteiicafjjcnioaaDoor.Sh (nodeV)

/-- up from a part's node: what the old ones come to, and what all come to -/
def conS : Nat → Nat → List ByteArray → ByteArray → ByteArray → Option (ByteArray × ByteArray)
  | _, last, [], x, y => if last = 0 then some (x, y) else none
  | a, last, p :: ps, x, y =>
    if last = 0 then none
    else if a % 2 = 1 then conS (a / 2) (last / 2) ps (nodeV p x) (nodeV p y)
    else if a = last then conS (od a / 2) (od a / 2) ps (nodeV p x) (nodeV p y)
    else conS (a / 2) (last / 2) ps x (nodeV y p)
theorem conS_zero (a : Nat) (p : List ByteArray) (x y : ByteArray) (hp : p ≠ []) : conS a 0 p x y = none := by
  cases p with
  | nil => exact absurd rfl hp
  | cons e es => rw [conS, if_pos rfl]
theorem conS_odd (a last : Nat) (e : ByteArray) (es : List ByteArray) (x y : ByteArray) (h0 : last ≠ 0) (h1 : a % 2 = 1) : conS a last (e :: es) x y = conS (a / 2) (last / 2) es (nodeV e x) (nodeV e y) := by
  rw [conS, if_neg h0, if_pos h1]
theorem conS_end (a : Nat) (e : ByteArray) (es : List ByteArray) (x y : ByteArray) (h0 : a ≠ 0) (h1 : a % 2 = 0) : conS a a (e :: es) x y = conS (od a / 2) (od a / 2) es (nodeV e x) (nodeV e y) := by
  rw [conS, if_neg h0, if_neg (by omega), if_pos rfl]
theorem conS_even (a last : Nat) (e : ByteArray) (es : List ByteArray) (x y : ByteArray) (h0 : last ≠ 0) (h1 : a % 2 = 0) (h2 : a ≠ last) : conS a last (e :: es) x y = conS (a / 2) (last / 2) es x (nodeV y e) := by
  rw [conS, if_neg h0, if_neg (by omega), if_neg h2]
theorem conS_nil (a last : Nat) (x y : ByteArray) : conS a last [] x y = if last = 0 then some (x, y) else none := by rw [conS]

theorem conS_left : ∀ (p : List ByteArray) (t a last : Nat) (s x y : ByteArray), a < 2 ^ t → 2 ^ t ≤ last → last < 2 ^ (t + 1) →
    conS a last (p ++ [s]) x y = (conS a (2 ^ t - 1) p x y).map (fun z => (z.1, nodeV z.2 s))
  | [], t, a, last, s, x, y, h1, h2, h3 => by
    have hp := pow_pos2 t
    rw [List.nil_append, conS_nil]
    rcases Nat.eq_zero_or_pos t with h0 | h0
    · subst h0
      rw [conS_even a last s [] x y (by omega) (by omega) (by omega), conS_nil, if_pos (by omega), if_pos (by omega)]
      rfl
    · obtain ⟨e1, e2⟩ := pow_half t h0
      have hq := pow_pos2 (t - 1)
      rw [if_neg (by omega)]
      by_cases ha : a % 2 = 1
      · rw [conS_odd a last s [] x y (by omega) ha, conS_nil, if_neg (by omega)]
        rfl
      · rw [conS_even a last s [] x y (by omega) (by omega) (by omega), conS_nil, if_neg (by omega)]
        rfl
  | e :: es, t, a, last, s, x, y, h1, h2, h3 => by
    have hp := pow_pos2 t
    rw [List.cons_append]
    rcases Nat.eq_zero_or_pos t with h0 | h0
    · subst h0
      rw [conS_even a last e (es ++ [s]) x y (by omega) (by omega) (by omega)]
      rw [show last / 2 = 0 by omega, conS_zero _ _ _ _ (by simp)]
      rw [show 2 ^ 0 - 1 = 0 by omega, conS_zero _ _ _ _ (by simp)]
      rfl
    · obtain ⟨e1, e2⟩ := pow_half t h0
      have hq := pow_pos2 (t - 1)
      have e3 : (2 ^ t - 1) / 2 = 2 ^ (t - 1) - 1 := by omega
      have e4 : 2 ^ (t + 1) = 2 * 2 ^ t := by rw [Nat.pow_succ]; omega
      have e5 : 2 ^ (t - 1 + 1) = 2 ^ t := by rw [show t - 1 + 1 = t by omega]
      by_cases ha : a % 2 = 1
      · rw [conS_odd a last e _ x y (by omega) ha, conS_odd a (2 ^ t - 1) e _ x y (by omega) ha, e3]
        exact conS_left es (t - 1) (a / 2) (last / 2) s (nodeV e x) (nodeV e y) (by omega) (by omega) (by omega)
      · rw [conS_even a last e _ x y (by omega) (by omega) (by omega), conS_even a (2 ^ t - 1) e _ x y (by omega) (by omega) (by omega), e3]
        exact conS_left es (t - 1) (a / 2) (last / 2) s x (nodeV y e) (by omega) (by omega) (by omega)

theorem conS_right : ∀ (p : List ByteArray) (t a last : Nat) (s h g : ByteArray), 2 ^ t ≤ a → a ≤ last → last < 2 ^ (t + 1) →
    conS a last (p ++ [s]) h g = (conS (a - 2 ^ t) (last - 2 ^ t) p h g).map (fun z => (nodeV s z.1, nodeV s z.2))
  | [], t, a, last, s, h, g, h1, h2, h3 => by
    have hp := pow_pos2 t
    have e4 : 2 ^ (t + 1) = 2 * 2 ^ t := by rw [Nat.pow_succ]; omega
    rw [List.nil_append, conS_nil (a - 2 ^ t)]
    by_cases hl : last = 2 ^ t
    · obtain rfl : a = last := by omega
      rw [if_pos (by omega)]
      by_cases ha : a % 2 = 1
      · rw [conS_odd a a s [] h g (by omega) ha, conS_nil, if_pos (by
          rcases Nat.eq_zero_or_pos t with h0 | h0
          · subst h0; omega
          · obtain ⟨e1, e2⟩ := pow_half t h0; omega)]
        rfl
      · rw [conS_end a s [] h g (by omega) (by omega), conS_nil, hl, od_pow, if_pos (by decide)]
        rfl
    · rw [if_neg (by omega)]
      have h0 : 0 < t := by
        rcases Nat.eq_zero_or_pos t with h0 | h0
        · subst h0; omega
        · exact h0
      obtain ⟨e1, e2⟩ := pow_half t h0
      have hq := pow_pos2 (t - 1)
      by_cases ha : a % 2 = 1
      · rw [conS_odd a last s [] h g (by omega) ha, conS_nil, if_neg (by omega)]
        rfl
      · by_cases hal : a = last
        · subst hal
          obtain ⟨u, u1, u2, u3, u4, u5⟩ := od_top t (a - 2 ^ t) (by omega) (by omega)
          rw [show 2 ^ t + (a - 2 ^ t) = a by omega] at u3
          obtain ⟨f1, f2⟩ := pow_half u u1
          have hq' := pow_pos2 (u - 1)
          rw [conS_end a s [] h g (by omega) (by omega), conS_nil, if_neg (by omega)]
          rfl
        · rw [conS_even a last s [] h g (by omega) (by omega) hal, conS_nil, if_neg (by omega)]
          rfl
  | x :: xs, t, a, last, s, h, g, h1, h2, h3 => by
    have hp := pow_pos2 t
    have e4 : 2 ^ (t + 1) = 2 * 2 ^ t := by rw [Nat.pow_succ]; omega
    rw [List.cons_append]
    by_cases hl : last = 2 ^ t
    · obtain rfl : a = last := by omega
      rw [show a - 2 ^ t = 0 by omega, conS_zero _ _ _ _ (by simp)]
      by_cases ha : a % 2 = 1
      · rw [conS_odd a a x _ h g (by omega) ha, show a / 2 = 0 by
          rcases Nat.eq_zero_or_pos t with h0 | h0
          · subst h0; omega
          · obtain ⟨e1, e2⟩ := pow_half t h0; omega, conS_zero _ _ _ _ (by simp)]
        rfl
      · rw [conS_end a x _ h g (by omega) (by omega), hl, od_pow, show 1 / 2 = 0 from rfl, conS_zero _ _ _ _ (by simp)]
        rfl
    · have h0 : 0 < t := by
        rcases Nat.eq_zero_or_pos t with h0 | h0
        · subst h0; omega
        · exact h0
      obtain ⟨e1, e2⟩ := pow_half t h0
      have hq := pow_pos2 (t - 1)
      have e5 : 2 ^ (t - 1 + 1) = 2 ^ t := by rw [show t - 1 + 1 = t by omega]
      have e6 : (a - 2 ^ t) / 2 = a / 2 - 2 ^ (t - 1) := by omega
      have e7 : (last - 2 ^ t) / 2 = last / 2 - 2 ^ (t - 1) := by omega
      by_cases ha : a % 2 = 1
      · rw [conS_odd a last x _ h g (by omega) ha, conS_odd (a - 2 ^ t) (last - 2 ^ t) x _ h g (by omega) (by omega), e6, e7]
        exact conS_right xs (t - 1) (a / 2) (last / 2) s (nodeV x h) (nodeV x g) (by omega) (by omega) (by omega)
      · by_cases hal : a = last
        · subst hal
          obtain ⟨u, u1, u2, u3, u4, u5⟩ := od_top t (a - 2 ^ t) (by omega) (by omega)
          rw [show 2 ^ t + (a - 2 ^ t) = a by omega] at u3
          obtain ⟨f1, f2⟩ := pow_half u u1
          have f5 : 2 ^ (u - 1 + 1) = 2 ^ u := by rw [show u - 1 + 1 = u by omega]
          rw [conS_end a x _ h g (by omega) (by omega), conS_end (a - 2 ^ t) x _ h g (by omega) (by omega)]
          rw [show od (a - 2 ^ t) / 2 = od a / 2 - 2 ^ (u - 1) by omega]
          exact conS_right xs (u - 1) (od a / 2) (od a / 2) s (nodeV x h) (nodeV x g) (by omega) (by omega) (by omega)
        · rw [conS_even a last x _ h g (by omega) (by omega) hal, conS_even (a - 2 ^ t) (last - 2 ^ t) x _ h g (by omega) (by omega) (by omega), e6, e7]
          exact conS_right xs (t - 1) (a / 2) (last / 2) s h (nodeV g x) (by omega) (by omega) (by omega)


/-- how often a number can be halved -/
def ex (a : Nat) : Nat := if _h : a % 2 = 0 ∧ 0 < a then ex (a / 2) + 1 else 0
termination_by a
decreasing_by omega
theorem ex_even (a : Nat) (h : a % 2 = 0) (h0 : 0 < a) : ex a = ex (a / 2) + 1 := by rw [ex, dif_pos ⟨h, h0⟩]
theorem ex_odd (a : Nat) (h : ¬ (a % 2 = 0 ∧ 0 < a)) : ex a = 0 := by rw [ex, dif_neg h]
theorem od_ex (a : Nat) (h : 0 < a) : od a * 2 ^ ex a = a := by
  induction a using Nat.strongRecOn with
  | ind a ih =>
    by_cases he : a % 2 = 0
    · rw [od_even a he h, ex_even a he h, Nat.pow_succ, ← Nat.mul_assoc, ih (a / 2) (by omega) (by omega)]
      omega
    · rw [od_odd a (by omega), ex_odd a (by omega)]
      simp
theorem od_pos' (a : Nat) (h : 0 < a) : 0 < od a := by
  rcases Nat.eq_zero_or_pos (od a) with h0 | h0
  · have := od_ex a h
    rw [h0] at this
    omega
  · exact h0
theorem ex_top : ∀ (t r : Nat), 0 < r → r < 2 ^ t → ex (2 ^ t + r) = ex r ∧ ex r < t ∧ od (2 ^ t + r) = 2 ^ (t - ex r) + od r
  | 0, r, h0, h1 => by simp at h1; omega
  | t + 1, r, h0, h1 => by
    have hp := pow_pos2 t
    have e : 2 ^ (t + 1) = 2 * 2 ^ t := by rw [Nat.pow_succ]; omega
    by_cases hr : r % 2 = 0
    · obtain ⟨u1, u2, u3⟩ := ex_top t (r / 2) (by omega) (by omega)
      rw [ex_even r hr h0, od_even r hr h0, ex_even (2 ^ (t + 1) + r) (by omega) (by omega), od_even (2 ^ (t + 1) + r) (by omega) (by omega), show (2 ^ (t + 1) + r) / 2 = 2 ^ t + r / 2 by omega]
      refine ⟨by omega, by omega, ?_⟩
      rw [u3, show t + 1 - (ex (r / 2) + 1) = t - ex (r / 2) by omega]
    · rw [ex_odd r (by omega), od_odd r (by omega), ex_odd (2 ^ (t + 1) + r) (by omega), od_odd (2 ^ (t + 1) + r) (by omega)]
      exact ⟨rfl, by omega, rfl⟩
theorem div_pred (x y : Nat) (hx : 0 < x) (hy : 0 < y) : (x * y - 1) / y = x - 1 := by
  obtain ⟨z, rfl⟩ : ∃ z, x = z + 1 := ⟨x - 1, by omega⟩
  rw [Nat.succ_mul, show z * y + y - 1 = (y - 1) + z * y by omega, Nat.add_mul_div_right _ _ hy, Nat.div_eq_of_lt (by omega)]
  omega
theorem pow_split (t j : Nat) (h : j ≤ t) : 2 ^ t = 2 ^ (t - j) * 2 ^ j := by rw [← Nat.pow_add, show t - j + j = t by omega]

/-- the old ones are a power of two: the way begins at what they come to -/
def conT (old n : Nat) (p : List ByteArray) (was : ByteArray) : Option (ByteArray × ByteArray) := conS (od old - 1) ((n - 1) / 2 ^ ex old) p was was
/-- else at the first of the proof -/
def conF (old n : Nat) (p : List ByteArray) : Option (ByteArray × ByteArray) :=
  match p with
  | [] => none
  | h :: ps => conS (od old - 1) ((n - 1) / 2 ^ ex old) ps h h
def conP (w : Bool) (old n : Nat) (p : List ByteArray) (was : ByteArray) : Option (ByteArray × ByteArray) := if w = true ∧ od old = 1 then conT old n p was else conF old n p

/-- the numbers of a way that goes left from the root -/
theorem nums_left (old n : Nat) (h1 : 1 ≤ old) (hn : old < n) (hk : old ≤ half n) :
    ∃ s, od old - 1 < 2 ^ s ∧ 2 ^ s ≤ (n - 1) / 2 ^ ex old ∧ (n - 1) / 2 ^ ex old < 2 ^ (s + 1) ∧ (half n - 1) / 2 ^ ex old = 2 ^ s - 1 := by
  have k3 := half_two n (by omega)
  have k2 := half_lt n (by omega)
  have hkt : half n = 2 ^ Nat.log2 (n - 1) := rfl
  have ho := od_ex old h1
  have hop := od_pos' old h1
  have hj : ex old ≤ Nat.log2 (n - 1) := by
    rcases Nat.lt_or_ge (Nat.log2 (n - 1)) (ex old) with h | h
    · have h2 : 2 ^ (Nat.log2 (n - 1) + 1) ≤ 2 ^ ex old := Nat.pow_le_pow_right (by decide) h
      rw [Nat.pow_succ, ← hkt] at h2
      have h3 : 2 ^ ex old ≤ od old * 2 ^ ex old := Nat.le_mul_of_pos_left _ hop
      omega
    · exact h
  have hsp := pow_split _ _ hj
  have hpj := pow_pos2 (ex old)
  refine ⟨Nat.log2 (n - 1) - ex old, ?_, ?_, ?_, ?_⟩
  · have : od old * 2 ^ ex old ≤ 2 ^ (Nat.log2 (n - 1) - ex old) * 2 ^ ex old := by rw [← hsp, ho, ← hkt]; exact hk
    have := Nat.le_of_mul_le_mul_right this hpj
    omega
  · rw [Nat.le_div_iff_mul_le hpj, ← hsp, ← hkt]
    omega
  · rw [Nat.div_lt_iff_lt_mul hpj, Nat.pow_succ, Nat.mul_comm _ 2, Nat.mul_assoc, ← hsp, ← hkt]
    omega
  · rw [hkt, hsp]
    exact div_pred _ _ (pow_pos2 _) hpj

theorem conP_left (w : Bool) (old n : Nat) (q : List ByteArray) (s was : ByteArray) (h1 : 1 ≤ old) (hn : old < n) (hk : old ≤ half n) :
    conP w old n (q ++ [s]) was = (conP w old (half n) q was).map (fun z => (z.1, nodeV z.2 s)) := by
  obtain ⟨t, a1, a2, a3, a4⟩ := nums_left old n h1 hn hk
  have hpt := pow_pos2 t
  unfold conP
  by_cases hw : w = true ∧ od old = 1
  · rw [if_pos hw, if_pos hw]
    unfold conT
    rw [conS_left q t (od old - 1) _ s was was a1 a2 a3, a4]
  · rw [if_neg hw, if_neg hw]
    cases q with
    | nil =>
      show conS (od old - 1) ((n - 1) / 2 ^ ex old) [] s s = _
      rw [conS_nil, if_neg (by omega)]
      rfl
    | cons h ps =>
      show conS _ _ (ps ++ [s]) h h = (conS _ _ ps h h).map _
      rw [conS_left ps t (od old - 1) _ s h h a1 a2 a3, a4]

theorem conP_right (w : Bool) (old n : Nat) (q : List ByteArray) (s was : ByteArray) (hn : old < n) (hk : ¬ old ≤ half n) :
    conP w old n (q ++ [s]) was = (conP false (old - half n) (n - half n) q was).map (fun z => (nodeV s z.1, nodeV s z.2)) := by
  have k1 := half_pos n
  have k3 := half_two n (by omega)
  have k2 := half_lt n (by omega)
  have hkt : half n = 2 ^ Nat.log2 (n - 1) := rfl
  obtain ⟨r, hr⟩ : ∃ r, r = old - half n := ⟨_, rfl⟩
  have hold : old = 2 ^ Nat.log2 (n - 1) + r := by omega
  obtain ⟨u1, u2, u3⟩ := ex_top (Nat.log2 (n - 1)) r (by omega) (by omega)
  rw [← hold] at u1 u3
  have hop := od_pos' r (by omega)
  have hro := od_ex r (by omega)
  have hoo := od_ex old (by omega)
  have hpj := pow_pos2 (ex r)
  have hpt := pow_pos2 (Nat.log2 (n - 1) - ex r)
  have hsp := pow_split _ _ (Nat.le_of_lt u2)
  have hnp : ¬ od old = 1 := by omega
  have hlast : 2 ^ (Nat.log2 (n - 1) - ex r) ≤ (n - 1) / 2 ^ ex r := by
    rw [Nat.le_div_iff_mul_le hpj, ← hsp, ← hkt]
    omega
  have hlast2 : (n - 1) / 2 ^ ex r < 2 ^ (Nat.log2 (n - 1) - ex r + 1) := by
    rw [Nat.div_lt_iff_lt_mul hpj, Nat.pow_succ, Nat.mul_comm _ 2, Nat.mul_assoc, ← hsp, ← hkt]
    omega
  have hle : od old - 1 ≤ (n - 1) / 2 ^ ex r := by
    rw [← div_pred (od old) (2 ^ ex r) (by omega) hpj, ← u1, hoo]
    exact Nat.div_le_div_right (by omega)
  have hsub : (n - half n - 1) / 2 ^ ex r = (n - 1) / 2 ^ ex r - 2 ^ (Nat.log2 (n - 1) - ex r) := by
    rw [show n - half n - 1 = n - 1 - 2 ^ ex r * 2 ^ (Nat.log2 (n - 1) - ex r) by rw [Nat.mul_comm, ← hsp, ← hkt]; omega, Nat.sub_mul_div_of_le]
    rw [Nat.mul_comm, ← hsp, ← hkt]
    omega
  unfold conP
  rw [if_neg (fun h => hnp h.2), if_neg (by simp), ← hr]
  cases q with
  | nil =>
    show conS (od old - 1) ((n - 1) / 2 ^ ex old) [] s s = _
    rw [conS_nil, u1, if_neg (by omega)]
    rfl
  | cons h ps =>
    show conS _ _ (ps ++ [s]) h h = (conS _ _ ps h h).map _
    rw [u1, conS_right ps (Nat.log2 (n - 1) - ex r) (od old - 1) _ s h h (by omega) hle hlast2, hsub, show od old - 1 - 2 ^ (Nat.log2 (n - 1) - ex r) = od r - 1 by omega]
theorem conP_none (w : Bool) (old n : Nat) (was : ByteArray) (h1 : 1 ≤ old) (hn : old < n) : conP w old n [] was = none := by
  have ho := od_ex old h1
  have hop := od_pos' old h1
  have hpj := pow_pos2 (ex old)
  have : 1 ≤ (n - 1) / 2 ^ ex old := by
    rw [Nat.le_div_iff_mul_le hpj]
    have : 2 ^ ex old ≤ od old * 2 ^ ex old := Nat.le_mul_of_pos_left _ hop
    omega
  unfold conP
  split
  · unfold conT
    rw [conS_nil, if_neg (by omega)]
  · rfl
/-- where all are old -/
theorem conP_whole (old : Nat) (q : List ByteArray) (was : ByteArray) (h1 : 1 ≤ old) (ho : od old = 1) : conP true old old q was = if q = [] then some (was, was) else none := by
  have h2 := od_ex old h1
  rw [ho, Nat.one_mul] at h2
  have h3 : (old - 1) / 2 ^ ex old = 0 := Nat.div_eq_of_lt (by omega)
  unfold conP conT
  rw [if_pos ⟨rfl, ho⟩, h3, ho]
  cases q with
  | nil => rw [conS_nil, if_pos rfl, if_pos rfl]
  | cons x xs => rw [conS_zero _ _ _ _ (by simp), if_neg (by simp)]
theorem conP_part (old : Nat) (q : List ByteArray) (was : ByteArray) (h1 : 1 ≤ old) (ho : od old = 1) : conP false old old q was = if q.length = 1 then some (q.headD ⟨#[]⟩, q.headD ⟨#[]⟩) else none := by
  have h2 := od_ex old h1
  rw [ho, Nat.one_mul] at h2
  have h3 : (old - 1) / 2 ^ ex old = 0 := Nat.div_eq_of_lt (by omega)
  unfold conP
  rw [if_neg (by simp)]
  match q with
  | [] => rfl
  | [x] =>
    show conS (od old - 1) ((old - 1) / 2 ^ ex old) [] x x = _
    rw [conS_nil, h3]
    rfl
  | x :: y :: ys =>
    show conS _ _ (y :: ys) x x = _
    rw [h3, conS_zero _ _ _ _ (by simp), if_neg (by simp)]
end Go.Proofs.YteiicafjjcnioaaDoor.Tr
