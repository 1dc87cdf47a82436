/- Texts put together: ConsPlain, ConsWalks, ConsTop. -/
import Derived.Test.YtghghkfhcpldhaaDoorPf3
/- Plain mathematics of consistency: two climbs at once, up from the last whole part of the old ones; and the way down from the root. -/
namespace Go.Proofs.YtghghkfhcpldhaaDoor.Tr
open Go.Proofs.YtghghkfhcpldhaaDoor.Sh (nodeV)

/-- up from a part's node: what the old ones come to, and what all come to -/
def conS : Nat → Nat → List ByteArray → ByteArray → ByteArray → Option (ByteArray × ByteArray)
  | _, last, [], x, y => if last = 0 then some (x, y) else none
  | a, last, p :: ps, x, y =>
    if last = 0 then none
    else if a % 2 = 1 then conS (a / 2) (last / 2) ps (nodeV p x) (nodeV p y)
    else if a = last then conS (od a / 2) (od a / 2) ps (nodeV p x) (nodeV p y)
    else conS (a / 2) (last / 2) ps x (nodeV y p)
theorem conS_zero (a : Nat) (p : List ByteArray) (x y : ByteArray) (hp : p ≠ []) : conS a 0 p x y = none := by
  cases p with
  | nil => exact absurd rfl hp
  | cons e es => rw [conS, if_pos rfl]
theorem conS_odd (a last : Nat) (e : ByteArray) (es : List ByteArray) (x y : ByteArray) (h0 : last ≠ 0) (h1 : a % 2 = 1) : conS a last (e :: es) x y = conS (a / 2) (last / 2) es (nodeV e x) (nodeV e y) := by
  rw [conS, if_neg h0, if_pos h1]
theorem conS_end (a : Nat) (e : ByteArray) (es : List ByteArray) (x y : ByteArray) (h0 : a ≠ 0) (h1 : a % 2 = 0) : conS a a (e :: es) x y = conS (od a / 2) (od a / 2) es (nodeV e x) (nodeV e y) := by
  rw [conS, if_neg h0, if_neg (by omega), if_pos rfl]
theorem conS_even (a last : Nat) (e : ByteArray) (es : List ByteArray) (x y : ByteArray) (h0 : last ≠ 0) (h1 : a % 2 = 0) (h2 : a ≠ last) : conS a last (e :: es) x y = conS (a / 2) (last / 2) es x (nodeV y e) := by
  rw [conS, if_neg h0, if_neg (by omega), if_neg h2]
theorem conS_nil (a last : Nat) (x y : ByteArray) : conS a last [] x y = if last = 0 then some (x, y) else none := by rw [conS]

theorem conS_left : ∀ (p : List ByteArray) (t a last : Nat) (s x y : ByteArray), a < 2 ^ t → 2 ^ t ≤ last → last < 2 ^ (t + 1) →
    conS a last (p ++ [s]) x y = (conS a (2 ^ t - 1) p x y).map (fun z => (z.1, nodeV z.2 s))
  | [], t, a, last, s, x, y, h1, h2, h3 => by
    have hp := pow_pos2 t
    rw [List.nil_append, conS_nil]
    rcases Nat.eq_zero_or_pos t with h0 | h0
    · subst h0
      rw [conS_even a last s [] x y (by omega) (by omega) (by omega), conS_nil, if_pos (by omega), if_pos (by omega)]
      rfl
    · obtain ⟨e1, e2⟩ := pow_half t h0
      have hq := pow_pos2 (t - 1)
      rw [if_neg (by omega)]
      by_cases ha : a % 2 = 1
      · rw [conS_odd a last s [] x y (by omega) ha, conS_nil, if_neg (by omega)]
        rfl
      · rw [conS_even a last s [] x y (by omega) (by omega) (by omega), conS_nil, if_neg (by omega)]
        rfl
  | e :: es, t, a, last, s, x, y, h1, h2, h3 => by
    have hp := pow_pos2 t
    rw [List.cons_append]
    rcases Nat.eq_zero_or_pos t with h0 | h0
    · subst h0
      rw [conS_even a last e (es ++ [s]) x y (by omega) (by omega) (by omega)]
      rw [show last / 2 = 0 by omega, conS_zero _ _ _ _ (by simp)]
      rw [show 2 ^ 0 - 1 = 0 by omega, conS_zero _ _ _ _ (by simp)]
      rfl
    · obtain ⟨e1, e2⟩ := pow_half t h0
      have hq := pow_pos2 (t - 1)
      have e3 : (2 ^ t - 1) / 2 = 2 ^ (t - 1) - 1 := by omega
      have e4 : 2 ^ (t + 1) = 2 * 2 ^ t := by rw [Nat.pow_succ]; omega
      have e5 : 2 ^ (t - 1 + 1) = 2 ^ t := by rw [show t - 1 + 1 = t by omega]
      by_cases ha : a % 2 = 1
      · rw [conS_odd a last e _ x y (by omega) ha, conS_odd a (2 ^ t - 1) e _ x y (by omega) ha, e3]
        exact conS_left es (t - 1) (a / 2) (last / 2) s (nodeV e x) (nodeV e y) (by omega) (by omega) (by omega)
      · rw [conS_even a last e _ x y (by omega) (by omega) (by omega), conS_even a (2 ^ t - 1) e _ x y (by omega) (by omega) (by omega), e3]
        exact conS_left es (t - 1) (a / 2) (last / 2) s x (nodeV y e) (by omega) (by omega) (by omega)

theorem conS_right : ∀ (p : List ByteArray) (t a last : Nat) (s h g : ByteArray), 2 ^ t ≤ a → a ≤ last → last < 2 ^ (t + 1) →
    conS a last (p ++ [s]) h g = (conS (a - 2 ^ t) (last - 2 ^ t) p h g).map (fun z => (nodeV s z.1, nodeV s z.2))
  | [], t, a, last, s, h, g, h1, h2, h3 => by
    have hp := pow_pos2 t
    have e4 : 2 ^ (t + 1) = 2 * 2 ^ t := by rw [Nat.pow_succ]; omega
    rw [List.nil_append, conS_nil (a - 2 ^ t)]
    by_cases hl : last = 2 ^ t
    · obtain rfl : a = last := by omega
      rw [if_pos (by omega)]
      by_cases ha : a % 2 = 1
      · rw [conS_odd a a s [] h g (by omega) ha, conS_nil, if_pos (by
          rcases Nat.eq_zero_or_pos t with h0 | h0
          · subst h0; omega
          · obtain ⟨e1, e2⟩ := pow_half t h0; omega)]
        rfl
      · rw [conS_end a s [] h g (by omega) (by omega), conS_nil, hl, od_pow, if_pos (by decide)]
        rfl
    · rw [if_neg (by omega)]
      have h0 : 0 < t := by
        rcases Nat.eq_zero_or_pos t with h0 | h0
        · subst h0; omega
        · exact h0
      obtain ⟨e1, e2⟩ := pow_half t h0
      have hq := pow_pos2 (t - 1)
      by_cases ha : a % 2 = 1
      · rw [conS_odd a last s [] h g (by omega) ha, conS_nil, if_neg (by omega)]
        rfl
      · by_cases hal : a = last
        · subst hal
          obtain ⟨u, u1, u2, u3, u4, u5⟩ := od_top t (a - 2 ^ t) (by omega) (by omega)
          rw [show 2 ^ t + (a - 2 ^ t) = a by omega] at u3
          obtain ⟨f1, f2⟩ := pow_half u u1
          have hq' := pow_pos2 (u - 1)
          rw [conS_end a s [] h g (by omega) (by omega), conS_nil, if_neg (by omega)]
          rfl
        · rw [conS_even a last s [] h g (by omega) (by omega) hal, conS_nil, if_neg (by omega)]
          rfl
  | x :: xs, t, a, last, s, h, g, h1, h2, h3 => by
    have hp := pow_pos2 t
    have e4 : 2 ^ (t + 1) = 2 * 2 ^ t := by rw [Nat.pow_succ]; omega
    rw [List.cons_append]
    by_cases hl : last = 2 ^ t
    · obtain rfl : a = last := by omega
      rw [show a - 2 ^ t = 0 by omega, conS_zero _ _ _ _ (by simp)]
      by_cases ha : a % 2 = 1
      · rw [conS_odd a a x _ h g (by omega) ha, show a / 2 = 0 by
          rcases Nat.eq_zero_or_pos t with h0 | h0
          · subst h0; omega
          · obtain ⟨e1, e2⟩ := pow_half t h0; omega, conS_zero _ _ _ _ (by simp)]
        rfl
      · rw [conS_end a x _ h g (by omega) (by omega), hl, od_pow, show 1 / 2 = 0 from rfl, conS_zero _ _ _ _ (by simp)]
        rfl
    · have h0 : 0 < t := by
        rcases Nat.eq_zero_or_pos t with h0 | h0
        · subst h0; omega
        · exact h0
      obtain ⟨e1, e2⟩ := pow_half t h0
      have hq := pow_pos2 (t - 1)
      have e5 : 2 ^ (t - 1 + 1) = 2 ^ t := by rw [show t - 1 + 1 = t by omega]
      have e6 : (a - 2 ^ t) / 2 = a / 2 - 2 ^ (t - 1) := by omega
      have e7 : (last - 2 ^ t) / 2 = last / 2 - 2 ^ (t - 1) := by omega
      by_cases ha : a % 2 = 1
      · rw [conS_odd a last x _ h g (by omega) ha, conS_odd (a - 2 ^ t) (last - 2 ^ t) x _ h g (by omega) (by omega), e6, e7]
        exact conS_right xs (t - 1) (a / 2) (last / 2) s (nodeV x h) (nodeV x g) (by omega) (by omega) (by omega)
      · by_cases hal : a = last
        · subst hal
          obtain ⟨u, u1, u2, u3, u4, u5⟩ := od_top t (a - 2 ^ t) (by omega) (by omega)
          rw [show 2 ^ t + (a - 2 ^ t) = a by omega] at u3
          obtain ⟨f1, f2⟩ := pow_half u u1
          have f5 : 2 ^ (u - 1 + 1) = 2 ^ u := by rw [show u - 1 + 1 = u by omega]
          rw [conS_end a x _ h g (by omega) (by omega), conS_end (a - 2 ^ t) x _ h g (by omega) (by omega)]
          rw [show od (a - 2 ^ t) / 2 = od a / 2 - 2 ^ (u - 1) by omega]
          exact conS_right xs (u - 1) (od a / 2) (od a / 2) s (nodeV x h) (nodeV x g) (by omega) (by omega) (by omega)
        · rw [conS_even a last x _ h g (by omega) (by omega) hal, conS_even (a - 2 ^ t) (last - 2 ^ t) x _ h g (by omega) (by omega) (by omega), e6, e7]
          exact conS_right xs (t - 1) (a / 2) (last / 2) s h (nodeV g x) (by omega) (by omega) (by omega)


/-- how often a number can be halved -/
def ex (a : Nat) : Nat := if _h : a % 2 = 0 ∧ 0 < a then ex (a / 2) + 1 else 0
termination_by a
decreasing_by omega
theorem ex_even (a : Nat) (h : a % 2 = 0) (h0 : 0 < a) : ex a = ex (a / 2) + 1 := by rw [ex, dif_pos ⟨h, h0⟩]
theorem ex_odd (a : Nat) (h : ¬ (a % 2 = 0 ∧ 0 < a)) : ex a = 0 := by rw [ex, dif_neg h]
theorem od_ex (a : Nat) (h : 0 < a) : od a * 2 ^ ex a = a := by
  induction a using Nat.strongRecOn with
  | ind a ih =>
    by_cases he : a % 2 = 0
    · rw [od_even a he h, ex_even a he h, Nat.pow_succ, ← Nat.mul_assoc, ih (a / 2) (by omega) (by omega)]
      omega
    · rw [od_odd a (by omega), ex_odd a (by omega)]
      simp
theorem od_pos' (a : Nat) (h : 0 < a) : 0 < od a := by
  rcases Nat.eq_zero_or_pos (od a) with h0 | h0
  · have := od_ex a h
    rw [h0] at this
    omega
  · exact h0
theorem ex_top : ∀ (t r : Nat), 0 < r → r < 2 ^ t → ex (2 ^ t + r) = ex r ∧ ex r < t ∧ od (2 ^ t + r) = 2 ^ (t - ex r) + od r
  | 0, r, h0, h1 => by simp at h1; omega
  | t + 1, r, h0, h1 => by
    have hp := pow_pos2 t
    have e : 2 ^ (t + 1) = 2 * 2 ^ t := by rw [Nat.pow_succ]; omega
    by_cases hr : r % 2 = 0
    · obtain ⟨u1, u2, u3⟩ := ex_top t (r / 2) (by omega) (by omega)
      rw [ex_even r hr h0, od_even r hr h0, ex_even (2 ^ (t + 1) + r) (by omega) (by omega), od_even (2 ^ (t + 1) + r) (by omega) (by omega), show (2 ^ (t + 1) + r) / 2 = 2 ^ t + r / 2 by omega]
      refine ⟨by omega, by omega, ?_⟩
      rw [u3, show t + 1 - (ex (r / 2) + 1) = t - ex (r / 2) by omega]
    · rw [ex_odd r (by omega), od_odd r (by omega), ex_odd (2 ^ (t + 1) + r) (by omega), od_odd (2 ^ (t + 1) + r) (by omega)]
      exact ⟨rfl, by omega, rfl⟩
theorem div_pred (x y : Nat) (hx : 0 < x) (hy : 0 < y) : (x * y - 1) / y = x - 1 := by
  obtain ⟨z, rfl⟩ : ∃ z, x = z + 1 := ⟨x - 1, by omega⟩
  rw [Nat.succ_mul, show z * y + y - 1 = (y - 1) + z * y by omega, Nat.add_mul_div_right _ _ hy, Nat.div_eq_of_lt (by omega)]
  omega
theorem pow_split (t j : Nat) (h : j ≤ t) : 2 ^ t = 2 ^ (t - j) * 2 ^ j := by rw [← Nat.pow_add, show t - j + j = t by omega]

/-- the old ones are a power of two: the way begins at what they come to -/
def conT (old n : Nat) (p : List ByteArray) (was : ByteArray) : Option (ByteArray × ByteArray) := conS (od old - 1) ((n - 1) / 2 ^ ex old) p was was
/-- else at the first of the proof -/
def conF (old n : Nat) (p : List ByteArray) : Option (ByteArray × ByteArray) :=
  match p with
  | [] => none
  | h :: ps => conS (od old - 1) ((n - 1) / 2 ^ ex old) ps h h
def conP (w : Bool) (old n : Nat) (p : List ByteArray) (was : ByteArray) : Option (ByteArray × ByteArray) := if w = true ∧ od old = 1 then conT old n p was else conF old n p

/-- the numbers of a way that goes left from the root -/
theorem nums_left (old n : Nat) (h1 : 1 ≤ old) (hn : old < n) (hk : old ≤ half n) :
    ∃ s, od old - 1 < 2 ^ s ∧ 2 ^ s ≤ (n - 1) / 2 ^ ex old ∧ (n - 1) / 2 ^ ex old < 2 ^ (s + 1) ∧ (half n - 1) / 2 ^ ex old = 2 ^ s - 1 := by
  have k3 := half_two n (by omega)
  have k2 := half_lt n (by omega)
  have hkt : half n = 2 ^ Nat.log2 (n - 1) := rfl
  have ho := od_ex old h1
  have hop := od_pos' old h1
  have hj : ex old ≤ Nat.log2 (n - 1) := by
    rcases Nat.lt_or_ge (Nat.log2 (n - 1)) (ex old) with h | h
    · have h2 : 2 ^ (Nat.log2 (n - 1) + 1) ≤ 2 ^ ex old := Nat.pow_le_pow_right (by decide) h
      rw [Nat.pow_succ, ← hkt] at h2
      have h3 : 2 ^ ex old ≤ od old * 2 ^ ex old := Nat.le_mul_of_pos_left _ hop
      omega
    · exact h
  have hsp := pow_split _ _ hj
  have hpj := pow_pos2 (ex old)
  refine ⟨Nat.log2 (n - 1) - ex old, ?_, ?_, ?_, ?_⟩
  · have : od old * 2 ^ ex old ≤ 2 ^ (Nat.log2 (n - 1) - ex old) * 2 ^ ex old := by rw [← hsp, ho, ← hkt]; exact hk
    have := Nat.le_of_mul_le_mul_right this hpj
    omega
  · rw [Nat.le_div_iff_mul_le hpj, ← hsp, ← hkt]
    omega
  · rw [Nat.div_lt_iff_lt_mul hpj, Nat.pow_succ, Nat.mul_comm _ 2, Nat.mul_assoc, ← hsp, ← hkt]
    omega
  · rw [hkt, hsp]
    exact div_pred _ _ (pow_pos2 _) hpj

theorem conP_left (w : Bool) (old n : Nat) (q : List ByteArray) (s was : ByteArray) (h1 : 1 ≤ old) (hn : old < n) (hk : old ≤ half n) :
    conP w old n (q ++ [s]) was = (conP w old (half n) q was).map (fun z => (z.1, nodeV z.2 s)) := by
  obtain ⟨t, a1, a2, a3, a4⟩ := nums_left old n h1 hn hk
  have hpt := pow_pos2 t
  unfold conP
  by_cases hw : w = true ∧ od old = 1
  · rw [if_pos hw, if_pos hw]
    unfold conT
    rw [conS_left q t (od old - 1) _ s was was a1 a2 a3, a4]
  · rw [if_neg hw, if_neg hw]
    cases q with
    | nil =>
      show conS (od old - 1) ((n - 1) / 2 ^ ex old) [] s s = _
      rw [conS_nil, if_neg (by omega)]
      rfl
    | cons h ps =>
      show conS _ _ (ps ++ [s]) h h = (conS _ _ ps h h).map _
      rw [conS_left ps t (od old - 1) _ s h h a1 a2 a3, a4]

theorem conP_right (w : Bool) (old n : Nat) (q : List ByteArray) (s was : ByteArray) (hn : old < n) (hk : ¬ old ≤ half n) :
    conP w old n (q ++ [s]) was = (conP false (old - half n) (n - half n) q was).map (fun z => (nodeV s z.1, nodeV s z.2)) := by
  have k1 := half_pos n
  have k3 := half_two n (by omega)
  have k2 := half_lt n (by omega)
  have hkt : half n = 2 ^ Nat.log2 (n - 1) := rfl
  obtain ⟨r, hr⟩ : ∃ r, r = old - half n := ⟨_, rfl⟩
  have hold : old = 2 ^ Nat.log2 (n - 1) + r := by omega
  obtain ⟨u1, u2, u3⟩ := ex_top (Nat.log2 (n - 1)) r (by omega) (by omega)
  rw [← hold] at u1 u3
  have hop := od_pos' r (by omega)
  have hro := od_ex r (by omega)
  have hoo := od_ex old (by omega)
  have hpj := pow_pos2 (ex r)
  have hpt := pow_pos2 (Nat.log2 (n - 1) - ex r)
  have hsp := pow_split _ _ (Nat.le_of_lt u2)
  have hnp : ¬ od old = 1 := by omega
  have hlast : 2 ^ (Nat.log2 (n - 1) - ex r) ≤ (n - 1) / 2 ^ ex r := by
    rw [Nat.le_div_iff_mul_le hpj, ← hsp, ← hkt]
    omega
  have hlast2 : (n - 1) / 2 ^ ex r < 2 ^ (Nat.log2 (n - 1) - ex r + 1) := by
    rw [Nat.div_lt_iff_lt_mul hpj, Nat.pow_succ, Nat.mul_comm _ 2, Nat.mul_assoc, ← hsp, ← hkt]
    omega
  have hle : od old - 1 ≤ (n - 1) / 2 ^ ex r := by
    rw [← div_pred (od old) (2 ^ ex r) (by omega) hpj, ← u1, hoo]
    exact Nat.div_le_div_right (by omega)
  have hsub : (n - half n - 1) / 2 ^ ex r = (n - 1) / 2 ^ ex r - 2 ^ (Nat.log2 (n - 1) - ex r) := by
    rw [show n - half n - 1 = n - 1 - 2 ^ ex r * 2 ^ (Nat.log2 (n - 1) - ex r) by rw [Nat.mul_comm, ← hsp, ← hkt]; omega, Nat.sub_mul_div_of_le]
    rw [Nat.mul_comm, ← hsp, ← hkt]
    omega
  unfold conP
  rw [if_neg (fun h => hnp h.2), if_neg (by simp), ← hr]
  cases q with
  | nil =>
    show conS (od old - 1) ((n - 1) / 2 ^ ex old) [] s s = _
    rw [conS_nil, u1, if_neg (by omega)]
    rfl
  | cons h ps =>
    show conS _ _ (ps ++ [s]) h h = (conS _ _ ps h h).map _
    rw [u1, conS_right ps (Nat.log2 (n - 1) - ex r) (od old - 1) _ s h h (by omega) hle hlast2, hsub, show od old - 1 - 2 ^ (Nat.log2 (n - 1) - ex r) = od r - 1 by omega]
theorem conP_none (w : Bool) (old n : Nat) (was : ByteArray) (h1 : 1 ≤ old) (hn : old < n) : conP w old n [] was = none := by
  have ho := od_ex old h1
  have hop := od_pos' old h1
  have hpj := pow_pos2 (ex old)
  have : 1 ≤ (n - 1) / 2 ^ ex old := by
    rw [Nat.le_div_iff_mul_le hpj]
    have : 2 ^ ex old ≤ od old * 2 ^ ex old := Nat.le_mul_of_pos_left _ hop
    omega
  unfold conP
  split
  · unfold conT
    rw [conS_nil, if_neg (by omega)]
  · rfl
/-- where all are old -/
theorem conP_whole (old : Nat) (q : List ByteArray) (was : ByteArray) (h1 : 1 ≤ old) (ho : od old = 1) : conP true old old q was = if q = [] then some (was, was) else none := by
  have h2 := od_ex old h1
  rw [ho, Nat.one_mul] at h2
  have h3 : (old - 1) / 2 ^ ex old = 0 := Nat.div_eq_of_lt (by omega)
  unfold conP conT
  rw [if_pos ⟨rfl, ho⟩, h3, ho]
  cases q with
  | nil => rw [conS_nil, if_pos rfl, if_pos rfl]
  | cons x xs => rw [conS_zero _ _ _ _ (by simp), if_neg (by simp)]
theorem conP_part (old : Nat) (q : List ByteArray) (was : ByteArray) (h1 : 1 ≤ old) (ho : od old = 1) : conP false old old q was = if q.length = 1 then some (q.headD ⟨#[]⟩, q.headD ⟨#[]⟩) else none := by
  have h2 := od_ex old h1
  rw [ho, Nat.one_mul] at h2
  have h3 : (old - 1) / 2 ^ ex old = 0 := Nat.div_eq_of_lt (by omega)
  unfold conP
  rw [if_neg (by simp)]
  match q with
  | [] => rfl
  | [x] =>
    show conS (od old - 1) ((old - 1) / 2 ^ ex old) [] x x = _
    rw [conS_nil, h3]
    rfl
  | x :: y :: ys =>
    show conS _ _ (y :: ys) x x = _
    rw [h3, conS_zero _ _ _ _ (by simp), if_neg (by simp)]
end Go.Proofs.YtghghkfhcpldhaaDoor.Tr

/- The walks of impl.proofMakes and impl.Consistent. -/
namespace Go.Proofs.YtghghkfhcpldhaaDoor.Tr
open Go.RowKit
open Go.Proofs.YtghghkfhcpldhaaDoor.St
open Go.Proofs.YtghghkfhcpldhaaDoor.Sh (Vars nodeV)

theorem stay_call (x : ByteArray) (w : World) : Calls Tryd.prog 61 #[.string x] w fun e w' => e = .returned (.string x) ∧ Below w.heap.size w w' := by
  go_enter Tryd.func61, Tryd.ntmps61
  go_wp2_with fail
  go_ret
  exact ⟨rfl, Below.refl _ _⟩

set_option maxRecDepth 100000 in
set_option maxHeartbeats 4000000 in
theorem makes_same (n0 : Nat) (m0 : Nat) (was root : ByteArray) (a : Option Addr) (cap : Nat) (w : World) (hm : m0 ≤ 1048576) :
    Calls Tryd.prog 34 #[.int .i64 n0, .int .i64 n0, .slice a m0 cap, .string was, .string root] w fun e w' => e = .returned (.bool (decide (m0 = 0) && decide (was = root))) ∧ Below w.heap.size w w' := by
  by_cases h0 : m0 = 0
  · subst h0
    go_enter Tryd.func34, Tryd.ntmps34
    go_wp2_with fail
    go_loopw [0, 1, 2, 11, 12, 13] (fun ov nv pv fv gv wv wr => ov = .int .i64 n0 ∧ nv = .int .i64 n0 ∧ pv = .slice a 0 cap ∧ fv = .func (.func 61) #[] #[] ∧ gv = .func (.func 61) #[] #[] ∧ wv = .bool true ∧ wr = w) (fun _ _ _ _ _ _ _ => 0)
    case atStart => exact ⟨rfl, rfl, rfl, rfl, rfl, rfl, rfl⟩
    case round =>
      obtain ⟨rfl, rfl, rfl, rfl, rfl, rfl, hw⟩ := hrel
      subst hw
      go_wp2_with fail
      refine (stay_call was wr).mono ?_
      rintro e w1 ⟨rfl, hb1⟩
      go_wp2_with fail
      go_ret
      exact ⟨ret_bool (by rw [str_eq]; simp), hb1⟩
  · have HE : Hid ((decide (m0 = 0) && decide (was = root)) = false) := by
      unfold Hid
      rw [decide_eq_false h0]
      rfl
    have g0 : ((m0 : Int) == 0) = false := by simp; omega
    go_enter Tryd.func34, Tryd.ntmps34
    go_wp2_with fail
    go_loopw [0, 1, 2, 11, 12, 13] (fun ov nv pv fv gv wv wr => ov = .int .i64 n0 ∧ nv = .int .i64 n0 ∧ pv = .slice a m0 cap ∧ fv = .func (.func 61) #[] #[] ∧ gv = .func (.func 61) #[] #[] ∧ wv = .bool true ∧ wr = w) (fun _ _ _ _ _ _ _ => 0)
    case atStart => exact ⟨rfl, rfl, rfl, rfl, rfl, rfl, rfl⟩
    case round =>
      obtain ⟨rfl, rfl, rfl, rfl, rfl, rfl, hw⟩ := hrel
      subst hw
      go_wp2_with fail
      go_ret
      exact ⟨ret_bool HE.out.symm, Below.refl _ _⟩

theorem pair_eq (x y a b : ByteArray) : decide (some (x, y) = some (a, b)) = (decide (x = a) && decide (y = b)) := by
  by_cases h1 : x = a
  · by_cases h2 : y = b
    · simp [h1, h2]
    · simp [h1, h2]
  · simp [h1]
theorem head_one (p : List ByteArray) (h : 0 < p.length) : (p.take 1).headD ⟨#[]⟩ = p[0] ∧ (p.take 1).length = 1 := by
  cases p with
  | nil => simp at h
  | cons x xs => simp

set_option maxRecDepth 100000 in
set_option maxHeartbeats 8000000 in
theorem makes_any (old0 n0 : Nat) (p : List ByteArray) (was root : ByteArray) (a : Option Addr) (cap B : Nat) (w : World) (h1 : 1 ≤ old0) (hlt : old0 < n0) (hn : n0 < 9223372036854775808) (hp : p.length ≤ 1048576) (hcap : p.length ≤ cap) (hws : was.size = 32) (hw : ∀ j (h : j < p.length), p[j].size = 32) (hs : Strs w B a p) (hB : B ≤ w.heap.size) (hV : Vars w) :
    Calls Tryd.prog 34 #[.int .i64 old0, .int .i64 n0, .slice a p.length cap, .string was, .string root] w fun e w' => e = .returned (.bool (decide (conP true old0 n0 p was = some (was, root)))) ∧ Below w.heap.size w w' := by
  have HS := hideT hs
  have HW := hideT hw
  have HV := hideT hV
  have hv2 := hV.two
  clear hs hw hV
  obtain ⟨m0, hm0⟩ : ∃ m0, m0 = p.length := ⟨_, rfl⟩
  have HM := hideT hm0
  rw [← hm0] at hp hcap ⊢
  clear hm0
  obtain ⟨top, htop⟩ : ∃ top, top = conP true old0 n0 p was := ⟨_, rfl⟩
  rw [← htop]
  have HTop := hideT htop
  clear htop
  go_enter Tryd.func34, Tryd.ntmps34
  go_wp2_with fail
  go_loopw [0, 1, 2, 11, 12, 13] (fun ov nv pv fv gv wv wr => ∃ (old n m c : Nat) (wh : Bool) (φ ψ : ByteArray → ByteArray), ov = .int .i64 old ∧ nv = .int .i64 n ∧ pv = .slice a m c ∧ wv = .bool wh ∧ 1 ≤ old ∧ (old < n ∨ (old = n ∧ od old = 1)) ∧ n ≤ n0 ∧ m ≤ m0 ∧ m ≤ c ∧ Climbs wr fv φ ∧ Climbs wr gv ψ ∧ (wh = true → φ was = was) ∧ top = (conP wh old n (p.take m) was).map (fun z => (φ z.1, ψ z.2)) ∧ Below w.heap.size w wr) (fun _ nv _ _ _ _ _ => (intOf nv).toNat)
  case atStart =>
    refine ⟨old0, n0, m0, cap, true, fun x => x, fun x => x, rfl, rfl, rfl, rfl, h1, .inl hlt, Nat.le_refl _, Nat.le_refl _, hcap, stay_any w, stay_any w, fun _ => rfl, ?_, Below.refl _ _⟩
    rw [HTop.out, HM.out, List.take_length]
    exact Option.map_id'.symm
  case round =>
    obtain ⟨old, n, m, c, wh, φ, ψ, rfl, rfl, rfl, rfl, ho1, hon, hn0, hm, hmc, hcf, hcg, hid, htop, hbel⟩ := hrel
    have HB := hideT hbel
    have HF := hideT hcf
    have HG := hideT hcg
    have HT := hideT htop
    have HID := hideT hid
    clear hbel hcf hcg htop hid
    by_cases hend : old = n
    · have hod : od old = 1 := by
        rcases hon with h | h
        · omega
        · exact h.2
      subst hend
      cases wh with
      | true =>
        have HC := hideT (conP_whole old (p.take m) was ho1 hod)
        by_cases hm0 : m = 0
        · subst hm0
          have HE : Hid (top = some (was, ψ was)) := by
            unfold Hid
            rw [HT.out, HC.out, if_pos List.take_zero]
            show some (φ was, ψ was) = _
            rw [HID.out rfl]
          obtain ⟨k, caps, rfl, he, hcall⟩ := HG.out
          have HCall := hideT (hcall was wr hws (Below.refl _ _) (HV.out.below HB.out hv2))
          clear hcall hod hon
          go_wp2_with fail
          refine HCall.out.mono ?_
          rintro e w1 ⟨rfl, hb1⟩
          have HB1 := hideT (below2 HB.out hb1)
          clear hb1
          go_wp2_with fail
          go_ret
          exact ⟨ret_bool (by rw [HE.out, pair_eq, decide_eq_true rfl, Bool.true_and]; exact str_eq _ _), HB1.out⟩
        · have HE : Hid (top = none) := by
            unfold Hid
            rw [HT.out, HC.out, if_neg (by
              intro he
              have h2 := congrArg List.length he
              rw [List.length_take, List.length_nil] at h2
              have h3 := HM.out
              omega)]
            rfl
          have g0 : ((m : Int) == 0) = false := by simp; omega
          clear hod hon
          go_wp2_with fail
          go_ret
          exact ⟨ret_bool (by rw [HE.out]; rfl), HB.out⟩
      | false =>
        have HC := hideT (conP_part old (p.take m) was ho1 hod)
        by_cases hm1 : m = 1
        · subst hm1
          have hp0 : 0 < p.length := by have := HM.out; omega
          obtain ⟨b, off, rfl, hb, hc⟩ := (HS.out.after HB.out hB).some hp0
          have ci := hc 0 hp0
          rw [Nat.add_zero] at ci
          have HSZ := hideT (HW.out 0 hp0)
          have HHd := hideT (head_one p hp0)
          obtain ⟨x, hx⟩ : ∃ x, x = p[0] := ⟨_, rfl⟩
          rw [← hx] at ci HSZ HHd
          have HE : Hid (top = some (φ x, ψ x)) := by
            unfold Hid
            rw [HT.out, HC.out, if_pos HHd.out.2, HHd.out.1]
            rfl
          obtain ⟨k, caps, rfl, he, hcall⟩ := HF.out
          obtain ⟨k2, caps2, rfl, he2, hcall2⟩ := HG.out
          have HCall := hideT (hcall x wr HSZ.out (Below.refl _ _) (HV.out.below HB.out hv2))
          have HCall2 := hideT (fun W hW hV => hcall2 x W HSZ.out hW hV)
          clear hcall hcall2 hod hon hc hx
          have HCx := hideT ci
          have hbw : b < wr.heap.size := World.block_lt_of_cell? wr _ ci
          go_wp2_with fail
          refine HCall.out.mono ?_
          rintro e w1 ⟨rfl, hb1⟩
          have HB1 := hideT (below2 HB.out hb1)
          have HCall3 := hideT (HCall2.out w1 hb1 (HV.out.below HB1.out hv2))
          have ci1 := (hb1.cell (p := ⟨b, off, none⟩) hbw).trans HCx.out
          clear hb1 ci
          by_cases hq : φ x = was
          · have hq2 : ((φ x).toList == was.toList) = true := by rw [str_eq, decide_eq_true hq]
            go_wp2_with fail
            refine HCall3.out.mono ?_
            rintro e w2 ⟨rfl, hb2⟩
            have HB2 := hideT (below2 HB1.out hb2)
            clear hb2
            go_wp2_with fail
            go_ret
            exact ⟨ret_bool (by rw [HE.out, pair_eq, decide_eq_true hq, Bool.true_and]; exact str_eq _ _), HB2.out⟩
          · have hq2 : ((φ x).toList == was.toList) = false := by rw [str_eq, decide_eq_false hq]
            go_wp2_with fail
            go_ret
            exact ⟨ret_bool (by rw [HE.out, pair_eq, decide_eq_false hq]; rfl), HB1.out⟩
        · have HE : Hid (top = none) := by
            unfold Hid
            rw [HT.out, HC.out, if_neg (by
              rw [List.length_take]
              have h3 := HM.out
              omega)]
            rfl
          have g0 : ((m : Int) == 1) = false := by simp; omega
          clear hod hon
          go_wp2_with fail
          go_ret
          exact ⟨ret_bool (by rw [HE.out]; rfl), HB.out⟩
    · have holt : old < n := by
        rcases hon with h | h
        · exact h
        · omega
      have g1 : ¬ (old : Int) = n := by omega
      clear hon
      by_cases hm0 : m = 0
      · subst hm0
        have HE : Hid (top = none) := by
          unfold Hid
          rw [HT.out, List.take_zero, conP_none wh old n was ho1 holt]
          rfl
        go_wp2_with fail
        go_ret
        exact ⟨ret_bool (by rw [HE.out]; rfl), HB.out⟩
      · have g0 : ¬ (m : Int) = 0 := by omega
        have hml : m - 1 < p.length := by have := HM.out; omega
        obtain ⟨b, off, rfl, hb, hc⟩ := (HS.out.after HB.out hB).some (by omega)
        have ci := hc (m - 1) hml
        have HSZ := hideT (HW.out (m - 1) hml)
        have HTL := hideT (take_last p m (by omega) (by have := HM.out; omega))
        have HIL := hideT (fun (s : ByteArray) (hik : old ≤ half n) => conP_left wh old n (p.take (m - 1)) s was ho1 holt hik)
        have HIR := hideT (fun (s : ByteArray) (hik : ¬ old ≤ half n) => conP_right wh old n (p.take (m - 1)) s was holt hik)
        have HHalf : Hid (od (half n) = 1) := od_pow _
        obtain ⟨s, hse⟩ : ∃ s, s = p[m - 1] := ⟨_, rfl⟩
        rw [← hse] at ci HSZ HTL
        clear hc hse
        have hp2 := half_pos n
        have hl2 := half_lt n (by omega)
        go_wp2_with fail
        refine (cutLast_any b off m c s wr (by omega) (by omega) hmc ci).mono ?_
        rintro e w1 ⟨rfl, hb1⟩
        have HB1 := hideT (HB.out.trans (hb1.mono HB.out.size))
        have HF1 := hideT (HF.out.later hb1)
        have HG1 := hideT (HG.out.later hb1)
        clear hb1 ci
        go_wp2_with fail
        refine (half_impl n w1 (by omega) (by omega)).mono ?_
        rintro e w2 ⟨rfl, hw2⟩
        subst w2
        obtain ⟨k, hk⟩ : ∃ k, k = half n := ⟨_, rfl⟩
        rw [← hk] at hp2 hl2 HIL HIR HHalf ⊢
        clear hk
        by_cases hik : old ≤ k
        · go_wp2_with fail
          refine (joinRight_any s _ ψ w1 HSZ.out HG1.out).mono ?_
          rintro e w3 ⟨g, rfl, hg3, hb3⟩
          have HB3 := hideT (HB1.out.trans (hb3.mono HB1.out.size))
          have HG3 := hideT hg3
          have HF3 := hideT (HF1.out.later hb3)
          clear hb3 hg3
          go_wp2_with fail
          go_roundw
          case rel =>
            refine ⟨old, k, m - 1, m - 1, wh, φ, _, rfl, rfl, rfl, rfl, ho1, ?_, by omega, by omega, Nat.le_refl _, HF3.out, HG3.out, HID.out, ?_, HB3.out⟩
            · rcases Nat.lt_or_ge old k with h | h
              · exact .inl h
              · have he : old = k := by omega
                exact .inr ⟨he, by rw [he]; exact HHalf.out⟩
            · rw [HT.out, HTL.out, HIL.out s hik, Option.map_map]
              rfl
          case measure => simp [intOf]; omega
        · go_wp2_with fail
          refine (joinLeft_any s _ φ w1 HSZ.out HF1.out).mono ?_
          rintro e w3 ⟨g, rfl, hg3, hb3⟩
          have HB3 := hideT (HB1.out.trans (hb3.mono HB1.out.size))
          have HF3 := hideT hg3
          have HG3 := hideT (HG1.out.later hb3)
          clear hb3 hg3
          go_wp2_with fail
          refine (joinLeft_any s _ ψ w3 HSZ.out HG3.out).mono ?_
          rintro e w4 ⟨g', rfl, hg4, hb4⟩
          have HB4 := hideT (HB3.out.trans (hb4.mono HB3.out.size))
          have HG4 := hideT hg4
          have HF4 := hideT (HF3.out.later hb4)
          clear hb4 hg4
          go_wp2_with fail
          go_roundw
          case rel =>
            refine ⟨old - k, n - k, m - 1, m - 1, false, _, _, by go_num, by go_num, rfl, rfl, by omega, .inl (by omega), by omega, by omega, Nat.le_refl _, HF4.out, HG4.out, (fun h => absurd h (by decide)), ?_, HB4.out⟩
            rw [HT.out, HTL.out, HIR.out s hik, Option.map_map]
            rfl
          case measure => simp [intOf]; omega
end Go.Proofs.YtghghkfhcpldhaaDoor.Tr

/- What both Consistent answer: impl.Consistent. -/
namespace Go.Proofs.YtghghkfhcpldhaaDoor.Tr
open Go.RowKit
open Go.Proofs.YtghghkfhcpldhaaDoor.St
open Go.Proofs.YtghghkfhcpldhaaDoor.Sh (Vars)

/-- what Consistent answers, its conditions met -/
def consV (old n : Nat) (p : List ByteArray) (was root : ByteArray) : Bool := if old = n then decide (p.length = 0) && decide (was = root) else decide (conP true old n p was = some (was, root))
def consB (old n : Int) (p : List ByteArray) (was root : ByteArray) : Bool :=
  decide (1 ≤ old) && decide (old ≤ n) && decide (was.size = 32) && decide (root.size = 32) && (decide (p.length ≤ 64) && wide p) && consV old.toNat n.toNat p was root
theorem consB_low (old n : Int) (p : List ByteArray) (was root : ByteArray) (h : old < 1) : consB old n p was root = false := by simp [consB, show ¬ 1 ≤ old by omega]
theorem consB_high (old n : Int) (p : List ByteArray) (was root : ByteArray) (h : n < old) : consB old n p was root = false := by simp [consB, show ¬ old ≤ n by omega]
theorem consB_was (old n : Int) (p : List ByteArray) (was root : ByteArray) (h : ¬ was.size = 32) : consB old n p was root = false := by simp [consB, h]
theorem consB_root (old n : Int) (p : List ByteArray) (was root : ByteArray) (h : ¬ root.size = 32) : consB old n p was root = false := by simp [consB, h]
theorem consB_path (old n : Int) (p : List ByteArray) (was root : ByteArray) (h : (decide (p.length ≤ 64) && wide p) = false) : consB old n p was root = false := by simp only [consB, h]; simp
theorem consB_in (old n : Nat) (p : List ByteArray) (was root : ByteArray) (h0 : 1 ≤ old) (h : old ≤ n) (h1 : was.size = 32) (h2 : root.size = 32) (h3 : (decide (p.length ≤ 64) && wide p) = true) : consB old n p was root = consV old n p was root := by
  simp only [consB, h1, h2, h3]
  have e1 : decide ((1 : Int) ≤ old) = true := by simp; omega
  have e2 : decide ((old : Int) ≤ n) = true := by simp; omega
  rw [e1, e2]
  simp

set_option maxRecDepth 100000 in
set_option maxHeartbeats 4000000 in
theorem cons_impl (old n : Int) (p : List ByteArray) (was root : ByteArray) (a : Option Addr) (cap B : Nat) (w : World) (hn : n < 9223372036854775808) (hp : p.length ≤ 1048576) (hcap : p.length ≤ cap) (hs : Strs w B a p) (hB : B ≤ w.heap.size) (hV : Vars w) :
    Calls Tryd.prog 10 #[.int .i64 old, .int .i64 n, .slice a p.length cap, .string was, .string root] w fun e w' => e = .returned (.bool (consB old n p was root)) ∧ Below w.heap.size w w' := by
  by_cases h0 : old < 1
  · have HF := hideT (consB_low old n p was root h0)
    clear hs hV
    generalize p.length = m at hp hcap ⊢
    go_enter Tryd.func10, Tryd.ntmps10
    go_wp2_with fail
    go_ret
    exact ⟨ret_bool HF.out.symm, Below.refl _ _⟩
  · by_cases h1 : n < old
    · have HF := hideT (consB_high old n p was root h1)
      clear hs hV
      generalize p.length = m at hp hcap ⊢
      go_enter Tryd.func10, Tryd.ntmps10
      go_wp2_with fail
      go_ret
      exact ⟨ret_bool HF.out.symm, Below.refl _ _⟩
    · by_cases h2 : was.size = 32
      · by_cases h3 : root.size = 32
        · have HD := hideT (digs_impl a cap p 64 w B hs hp)
          obtain ⟨o', rfl⟩ : ∃ k : Nat, old = k := ⟨old.toNat, by omega⟩
          obtain ⟨n', rfl⟩ : ∃ k : Nat, n = k := ⟨n.toNat, by omega⟩
          have b1 : decide ((o' : Int) < 1) = false := by simp; omega
          have b2 : decide (n' < o') = false := by simp; omega
          cases h4 : (decide (p.length ≤ 64) && wide p) with
          | false =>
            have HF := hideT (consB_path o' n' p was root h4)
            rw [h4] at HD
            clear h4 hs hV hn h0 h1
            generalize p.length = m at hp hcap HD ⊢
            go_enter Tryd.func10, Tryd.ntmps10
            go_wp2_with fail
            refine HD.out.mono ?_
            rintro e w1 ⟨rfl, hw⟩
            subst w1
            go_wp2_with fail
            go_ret
            exact ⟨ret_bool HF.out.symm, Below.refl _ _⟩
          | true =>
            have HF := hideT (consB_in o' n' p was root (by omega) (by omega) h2 h3 h4)
            have HM : Hid (Calls Tryd.prog 34 #[.int .i64 o', .int .i64 n', .slice a p.length cap, .string was, .string root] w fun e w' => e = .returned (.bool (consV o' n' p was root)) ∧ Below w.heap.size w w') := by
              unfold Hid consV
              by_cases he : o' = n'
              · subst he
                rw [if_pos rfl]
                exact makes_same o' p.length was root a cap w hp
              · rw [if_neg he]
                rw [Bool.and_eq_true] at h4
                exact makes_any o' n' p was root a cap B w (by omega) (by omega) (by omega) hp hcap h2 ((wide_yes p).1 h4.2) hs hB hV
            rw [h4] at HD
            clear h4 hs hV hn h0 h1
            generalize p.length = m at hp hcap HD HM ⊢
            go_enter Tryd.func10, Tryd.ntmps10
            go_wp2_with fail
            refine HD.out.mono ?_
            rintro e w1 ⟨rfl, hw⟩
            subst w1
            go_wp2_with fail
            refine HM.out.mono ?_
            rintro e w2 ⟨rfl, hb2⟩
            go_wp2_with fail
            go_ret
            exact ⟨ret_bool HF.out.symm, hb2⟩
        · have HF := hideT (consB_root old n p was root h3)
          have g1 : ¬ n < old := h1
          clear hs hV
          generalize p.length = m at hp hcap ⊢
          go_enter Tryd.func10, Tryd.ntmps10
          go_wp2_with fail
          go_ret
          exact ⟨ret_bool HF.out.symm, Below.refl _ _⟩
      · have HF := hideT (consB_was old n p was root h2)
        clear hs hV
        generalize p.length = m at hp hcap ⊢
        go_enter Tryd.func10, Tryd.ntmps10
        go_wp2_with fail
        go_ret
        exact ⟨ret_bool HF.out.symm, Below.refl _ _⟩

set_option maxHeartbeats 1000000 in
theorem power_spec (old : Nat) (w : World) (h1 : 1 ≤ old) (hn : old < 9223372036854775808) :
    Calls Tryd.prog 43 #[.int .i64 old] w fun e w' => e = .returned (.bool (decide (od old = 1))) ∧ w' = w := by
  go_enter Tryd.func43, Tryd.ntmps43
  go_wp2_with fail
  go_loopw [0] (fun nv wr => ∃ y : Nat, nv = .int .i64 y ∧ 1 ≤ y ∧ y ≤ old ∧ od y = od old ∧ wr = w) (fun nv _ => (intOf nv).toNat)
  case atStart => exact ⟨old, rfl, h1, Nat.le_refl _, rfl, rfl⟩
  case round =>
    obtain ⟨y, rfl, hy1, hy2, hod, hw⟩ := hrel
    subst hw
    have HO := hideT hod
    clear hod
    by_cases he : y % 2 = 0
    · have g1 : (y : Int) % 2 = 0 := by omega
      go_wp2_with fail
      go_roundw
      case rel => exact ⟨y / 2, by go_num, by omega, by omega, by rw [← HO.out]; exact (od_even y he hy1).symm, trivial⟩
      case measure => simp [intOf]; omega
    · have g1 : (y : Int) % 2 = 1 := by omega
      have HE : Hid (decide (od old = 1) = decide (y = 1)) := by
        unfold Hid
        rw [← HO.out, od_odd y (by omega)]
      have HI : Hid (((y : Int) == 1) = decide (y = 1)) := by
        unfold Hid
        by_cases h : y = 1
        · subst h; rfl
        · rw [decide_eq_false h]
          simp
          omega
      go_wp2_with fail
      go_ret
      exact ⟨ret_bool (by rw [HE.out]; first | exact HI.out | rfl | (simp; done)), rfl⟩
end Go.Proofs.YtghghkfhcpldhaaDoor.Tr
