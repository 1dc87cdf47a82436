/- Texts put together: ProofPlain, ConsPlain, TreeMath, LwTexts, TrBase, TrLaw. -/
import Derived.Test.YtghghkfhcpldhaaDoorTf7
import Derived.Test.YtghghkfhcpldhaaDoorTf0
import Derived.Test.YtghghkfhcpldhaaDoorTf8
import Derived.Test.YtghghkfhcpldhaaDoorStrBase
import Derived.BigRegion
import Derived.BigQuiet
import Derived.Deep.QuietTactic
import Derived.Test.YtghghkfhcpldhaaDoorTf10
import Derived.Test.YtghghkfhcpldhaaDoorTf4
import Derived.Test.YtghghkfhcpldhaaDoorTf5
import Derived.Deep.RegionWith
/- Plain mathematics of proofs that the first of right entries are the beginning of all. -/
namespace Go.Proofs.YtghghkfhcpldhaaDoor.Tr

def proof (l : List ByteArray) (m : Nat) (b : Bool) : List ByteArray :=
  if _h : l.length ≤ m ∨ l.length ≤ 1 then (if b = true then [] else [tree l])
  else if m ≤ half l.length then proof (l.take (half l.length)) m b ++ [tree (l.drop (half l.length))]
  else proof (l.drop (half l.length)) (m - half l.length) false ++ [tree (l.take (half l.length))]
termination_by l.length
decreasing_by
  · have := half_lt l.length (by omega)
    simp
    omega
  · have := half_pos l.length
    simp
    omega
theorem proof_whole (l : List ByteArray) (m : Nat) (h : l.length = m) : proof l m true = [] := by rw [proof, dif_pos (by omega), if_pos rfl]
theorem proof_part (l : List ByteArray) (m : Nat) (h : l.length = m) : proof l m false = [tree l] := by rw [proof, dif_pos (by omega), if_neg (by decide)]
theorem proof_left (l : List ByteArray) (m : Nat) (b : Bool) (h : 2 ≤ l.length) (hm : m < l.length) (hi : m ≤ half l.length) : proof l m b = proof (l.take (half l.length)) m b ++ [tree (l.drop (half l.length))] := by
  rw [proof, dif_neg (by omega), if_pos hi]
theorem proof_right (l : List ByteArray) (m : Nat) (b : Bool) (h : 2 ≤ l.length) (hm : m < l.length) (hi : ¬ m ≤ half l.length) : proof l m b = proof (l.drop (half l.length)) (m - half l.length) false ++ [tree (l.take (half l.length))] := by
  rw [proof, dif_neg (by omega), if_neg hi]
theorem proof_length : ∀ (f : Nat) (l : List ByteArray) (m : Nat) (b : Bool), l.length ≤ f → (proof l m b).length ≤ l.length + 1
  | 0, l, m, b, h => by
    rw [proof, dif_pos (by omega)]
    split
    · simp
    · simp
  | f + 1, l, m, b, h => by
    by_cases h1 : l.length ≤ m ∨ l.length ≤ 1
    · rw [proof, dif_pos h1]
      split
      · simp
      · simp
    · have h2 := half_lt l.length (by omega)
      have h3 := half_pos l.length
      by_cases hi : m ≤ half l.length
      · rw [proof_left l m b (by omega) (by omega) hi]
        have := proof_length f (l.take (half l.length)) m b (by simp; omega)
        simp at this ⊢
        omega
      · rw [proof_right l m b (by omega) (by omega) hi]
        have := proof_length f (l.drop (half l.length)) (m - half l.length) false (by simp; omega)
        simp at this ⊢
        omega
def proofR (l : List ByteArray) (i : Int) : List ByteArray := if right l = true ∧ 1 ≤ i ∧ i ≤ l.length then proof l i.toNat true else []
theorem proofR_yes (l : List ByteArray) (i : Nat) (h : right l = true) (h1 : 1 ≤ i) (hi : i ≤ l.length) : proofR l i = proof l i true := by
  unfold proofR
  rw [if_pos ⟨h, by omega, by omega⟩]
  rfl
theorem proofR_no (l : List ByteArray) (i : Int) (h : ¬ (right l = true ∧ 1 ≤ i ∧ i ≤ l.length)) : proofR l i = [] := if_neg h
theorem proofR_length (l : List ByteArray) (i : Int) : (proofR l i).length ≤ 65 := by
  unfold proofR
  split
  · rename_i h
    have h1 := ((right_yes l).1 h.1).1
    have h2 := proof_length _ l i.toNat true (Nat.le_refl _)
    omega
  · simp
end Go.Proofs.YtghghkfhcpldhaaDoor.Tr

/- Plain mathematics of consistency: two climbs at once, up from the last whole part of the old ones; and the way down from the root. -/
namespace Go.Proofs.YtghghkfhcpldhaaDoor.Tr
open Go.Proofs.YtghghkfhcpldhaaDoor.Sh (nodeV)

/-- up from a part's node: what the old ones come to, and what all come to -/
def conS : Nat → Nat → List ByteArray → ByteArray → ByteArray → Option (ByteArray × ByteArray)
  | _, last, [], x, y => if last = 0 then some (x, y) else none
  | a, last, p :: ps, x, y =>
    if last = 0 then none
    else if a % 2 = 1 then conS (a / 2) (last / 2) ps (nodeV p x) (nodeV p y)
    else if a = last then conS (od a / 2) (od a / 2) ps (nodeV p x) (nodeV p y)
    else conS (a / 2) (last / 2) ps x (nodeV y p)
theorem conS_zero (a : Nat) (p : List ByteArray) (x y : ByteArray) (hp : p ≠ []) : conS a 0 p x y = none := by
  cases p with
  | nil => exact absurd rfl hp
  | cons e es => rw [conS, if_pos rfl]
theorem conS_odd (a last : Nat) (e : ByteArray) (es : List ByteArray) (x y : ByteArray) (h0 : last ≠ 0) (h1 : a % 2 = 1) : conS a last (e :: es) x y = conS (a / 2) (last / 2) es (nodeV e x) (nodeV e y) := by
  rw [conS, if_neg h0, if_pos h1]
theorem conS_end (a : Nat) (e : ByteArray) (es : List ByteArray) (x y : ByteArray) (h0 : a ≠ 0) (h1 : a % 2 = 0) : conS a a (e :: es) x y = conS (od a / 2) (od a / 2) es (nodeV e x) (nodeV e y) := by
  rw [conS, if_neg h0, if_neg (by omega), if_pos rfl]
theorem conS_even (a last : Nat) (e : ByteArray) (es : List ByteArray) (x y : ByteArray) (h0 : last ≠ 0) (h1 : a % 2 = 0) (h2 : a ≠ last) : conS a last (e :: es) x y = conS (a / 2) (last / 2) es x (nodeV y e) := by
  rw [conS, if_neg h0, if_neg (by omega), if_neg h2]
theorem conS_nil (a last : Nat) (x y : ByteArray) : conS a last [] x y = if last = 0 then some (x, y) else none := by rw [conS]

theorem conS_left : ∀ (p : List ByteArray) (t a last : Nat) (s x y : ByteArray), a < 2 ^ t → 2 ^ t ≤ last → last < 2 ^ (t + 1) →
    conS a last (p ++ [s]) x y = (conS a (2 ^ t - 1) p x y).map (fun z => (z.1, nodeV z.2 s))
  | [], t, a, last, s, x, y, h1, h2, h3 => by
    have hp := pow_pos2 t
    rw [List.nil_append, conS_nil]
    rcases Nat.eq_zero_or_pos t with h0 | h0
    · subst h0
      rw [conS_even a last s [] x y (by omega) (by omega) (by omega), conS_nil, if_pos (by omega), if_pos (by omega)]
      rfl
    · obtain ⟨e1, e2⟩ := pow_half t h0
      have hq := pow_pos2 (t - 1)
      rw [if_neg (by omega)]
      by_cases ha : a % 2 = 1
      · rw [conS_odd a last s [] x y (by omega) ha, conS_nil, if_neg (by omega)]
        rfl
      · rw [conS_even a last s [] x y (by omega) (by omega) (by omega), conS_nil, if_neg (by omega)]
        rfl
  | e :: es, t, a, last, s, x, y, h1, h2, h3 => by
    have hp := pow_pos2 t
    rw [List.cons_append]
    rcases Nat.eq_zero_or_pos t with h0 | h0
    · subst h0
      rw [conS_even a last e (es ++ [s]) x y (by omega) (by omega) (by omega)]
      rw [show last / 2 = 0 by omega, conS_zero _ _ _ _ (by simp)]
      rw [show 2 ^ 0 - 1 = 0 by omega, conS_zero _ _ _ _ (by simp)]
      rfl
    · obtain ⟨e1, e2⟩ := pow_half t h0
      have hq := pow_pos2 (t - 1)
      have e3 : (2 ^ t - 1) / 2 = 2 ^ (t - 1) - 1 := by omega
      have e4 : 2 ^ (t + 1) = 2 * 2 ^ t := by rw [Nat.pow_succ]; omega
      have e5 : 2 ^ (t - 1 + 1) = 2 ^ t := by rw [show t - 1 + 1 = t by omega]
      by_cases ha : a % 2 = 1
      · rw [conS_odd a last e _ x y (by omega) ha, conS_odd a (2 ^ t - 1) e _ x y (by omega) ha, e3]
        exact conS_left es (t - 1) (a / 2) (last / 2) s (nodeV e x) (nodeV e y) (by omega) (by omega) (by omega)
      · rw [conS_even a last e _ x y (by omega) (by omega) (by omega), conS_even a (2 ^ t - 1) e _ x y (by omega) (by omega) (by omega), e3]
        exact conS_left es (t - 1) (a / 2) (last / 2) s x (nodeV y e) (by omega) (by omega) (by omega)

theorem conS_right : ∀ (p : List ByteArray) (t a last : Nat) (s h g : ByteArray), 2 ^ t ≤ a → a ≤ last → last < 2 ^ (t + 1) →
    conS a last (p ++ [s]) h g = (conS (a - 2 ^ t) (last - 2 ^ t) p h g).map (fun z => (nodeV s z.1, nodeV s z.2))
  | [], t, a, last, s, h, g, h1, h2, h3 => by
    have hp := pow_pos2 t
    have e4 : 2 ^ (t + 1) = 2 * 2 ^ t := by rw [Nat.pow_succ]; omega
    rw [List.nil_append, conS_nil (a - 2 ^ t)]
    by_cases hl : last = 2 ^ t
    · obtain rfl : a = last := by omega
      rw [if_pos (by omega)]
      by_cases ha : a % 2 = 1
      · rw [conS_odd a a s [] h g (by omega) ha, conS_nil, if_pos (by
          rcases Nat.eq_zero_or_pos t with h0 | h0
          · subst h0; omega
          · obtain ⟨e1, e2⟩ := pow_half t h0; omega)]
        rfl
      · rw [conS_end a s [] h g (by omega) (by omega), conS_nil, hl, od_pow, if_pos (by decide)]
        rfl
    · rw [if_neg (by omega)]
      have h0 : 0 < t := by
        rcases Nat.eq_zero_or_pos t with h0 | h0
        · subst h0; omega
        · exact h0
      obtain ⟨e1, e2⟩ := pow_half t h0
      have hq := pow_pos2 (t - 1)
      by_cases ha : a % 2 = 1
      · rw [conS_odd a last s [] h g (by omega) ha, conS_nil, if_neg (by omega)]
        rfl
      · by_cases hal : a = last
        · subst hal
          obtain ⟨u, u1, u2, u3, u4, u5⟩ := od_top t (a - 2 ^ t) (by omega) (by omega)
          rw [show 2 ^ t + (a - 2 ^ t) = a by omega] at u3
          obtain ⟨f1, f2⟩ := pow_half u u1
          have hq' := pow_pos2 (u - 1)
          rw [conS_end a s [] h g (by omega) (by omega), conS_nil, if_neg (by omega)]
          rfl
        · rw [conS_even a last s [] h g (by omega) (by omega) hal, conS_nil, if_neg (by omega)]
          rfl
  | x :: xs, t, a, last, s, h, g, h1, h2, h3 => by
    have hp := pow_pos2 t
    have e4 : 2 ^ (t + 1) = 2 * 2 ^ t := by rw [Nat.pow_succ]; omega
    rw [List.cons_append]
    by_cases hl : last = 2 ^ t
    · obtain rfl : a = last := by omega
      rw [show a - 2 ^ t = 0 by omega, conS_zero _ _ _ _ (by simp)]
      by_cases ha : a % 2 = 1
      · rw [conS_odd a a x _ h g (by omega) ha, show a / 2 = 0 by
          rcases Nat.eq_zero_or_pos t with h0 | h0
          · subst h0; omega
          · obtain ⟨e1, e2⟩ := pow_half t h0; omega, conS_zero _ _ _ _ (by simp)]
        rfl
      · rw [conS_end a x _ h g (by omega) (by omega), hl, od_pow, show 1 / 2 = 0 from rfl, conS_zero _ _ _ _ (by simp)]
        rfl
    · have h0 : 0 < t := by
        rcases Nat.eq_zero_or_pos t with h0 | h0
        · subst h0; omega
        · exact h0
      obtain ⟨e1, e2⟩ := pow_half t h0
      have hq := pow_pos2 (t - 1)
      have e5 : 2 ^ (t - 1 + 1) = 2 ^ t := by rw [show t - 1 + 1 = t by omega]
      have e6 : (a - 2 ^ t) / 2 = a / 2 - 2 ^ (t - 1) := by omega
      have e7 : (last - 2 ^ t) / 2 = last / 2 - 2 ^ (t - 1) := by omega
      by_cases ha : a % 2 = 1
      · rw [conS_odd a last x _ h g (by omega) ha, conS_odd (a - 2 ^ t) (last - 2 ^ t) x _ h g (by omega) (by omega), e6, e7]
        exact conS_right xs (t - 1) (a / 2) (last / 2) s (nodeV x h) (nodeV x g) (by omega) (by omega) (by omega)
      · by_cases hal : a = last
        · subst hal
          obtain ⟨u, u1, u2, u3, u4, u5⟩ := od_top t (a - 2 ^ t) (by omega) (by omega)
          rw [show 2 ^ t + (a - 2 ^ t) = a by omega] at u3
          obtain ⟨f1, f2⟩ := pow_half u u1
          have f5 : 2 ^ (u - 1 + 1) = 2 ^ u := by rw [show u - 1 + 1 = u by omega]
          rw [conS_end a x _ h g (by omega) (by omega), conS_end (a - 2 ^ t) x _ h g (by omega) (by omega)]
          rw [show od (a - 2 ^ t) / 2 = od a / 2 - 2 ^ (u - 1) by omega]
          exact conS_right xs (u - 1) (od a / 2) (od a / 2) s (nodeV x h) (nodeV x g) (by omega) (by omega) (by omega)
        · rw [conS_even a last x _ h g (by omega) (by omega) hal, conS_even (a - 2 ^ t) (last - 2 ^ t) x _ h g (by omega) (by omega) (by omega), e6, e7]
          exact conS_right xs (t - 1) (a / 2) (last / 2) s h (nodeV g x) (by omega) (by omega) (by omega)


/-- how often a number can be halved -/
def ex (a : Nat) : Nat := if _h : a % 2 = 0 ∧ 0 < a then ex (a / 2) + 1 else 0
termination_by a
decreasing_by omega
theorem ex_even (a : Nat) (h : a % 2 = 0) (h0 : 0 < a) : ex a = ex (a / 2) + 1 := by rw [ex, dif_pos ⟨h, h0⟩]
theorem ex_odd (a : Nat) (h : ¬ (a % 2 = 0 ∧ 0 < a)) : ex a = 0 := by rw [ex, dif_neg h]
theorem od_ex (a : Nat) (h : 0 < a) : od a * 2 ^ ex a = a := by
  induction a using Nat.strongRecOn with
  | ind a ih =>
    by_cases he : a % 2 = 0
    · rw [od_even a he h, ex_even a he h, Nat.pow_succ, ← Nat.mul_assoc, ih (a / 2) (by omega) (by omega)]
      omega
    · rw [od_odd a (by omega), ex_odd a (by omega)]
      simp
theorem od_pos' (a : Nat) (h : 0 < a) : 0 < od a := by
  rcases Nat.eq_zero_or_pos (od a) with h0 | h0
  · have := od_ex a h
    rw [h0] at this
    omega
  · exact h0
theorem ex_top : ∀ (t r : Nat), 0 < r → r < 2 ^ t → ex (2 ^ t + r) = ex r ∧ ex r < t ∧ od (2 ^ t + r) = 2 ^ (t - ex r) + od r
  | 0, r, h0, h1 => by simp at h1; omega
  | t + 1, r, h0, h1 => by
    have hp := pow_pos2 t
    have e : 2 ^ (t + 1) = 2 * 2 ^ t := by rw [Nat.pow_succ]; omega
    by_cases hr : r % 2 = 0
    · obtain ⟨u1, u2, u3⟩ := ex_top t (r / 2) (by omega) (by omega)
      rw [ex_even r hr h0, od_even r hr h0, ex_even (2 ^ (t + 1) + r) (by omega) (by omega), od_even (2 ^ (t + 1) + r) (by omega) (by omega), show (2 ^ (t + 1) + r) / 2 = 2 ^ t + r / 2 by omega]
      refine ⟨by omega, by omega, ?_⟩
      rw [u3, show t + 1 - (ex (r / 2) + 1) = t - ex (r / 2) by omega]
    · rw [ex_odd r (by omega), od_odd r (by omega), ex_odd (2 ^ (t + 1) + r) (by omega), od_odd (2 ^ (t + 1) + r) (by omega)]
      exact ⟨rfl, by omega, rfl⟩
theorem div_pred (x y : Nat) (hx : 0 < x) (hy : 0 < y) : (x * y - 1) / y = x - 1 := by
  obtain ⟨z, rfl⟩ : ∃ z, x = z + 1 := ⟨x - 1, by omega⟩
  rw [Nat.succ_mul, show z * y + y - 1 = (y - 1) + z * y by omega, Nat.add_mul_div_right _ _ hy, Nat.div_eq_of_lt (by omega)]
  omega
theorem pow_split (t j : Nat) (h : j ≤ t) : 2 ^ t = 2 ^ (t - j) * 2 ^ j := by rw [← Nat.pow_add, show t - j + j = t by omega]

/-- the old ones are a power of two: the way begins at what they come to -/
def conT (old n : Nat) (p : List ByteArray) (was : ByteArray) : Option (ByteArray × ByteArray) := conS (od old - 1) ((n - 1) / 2 ^ ex old) p was was
/-- else at the first of the proof -/
def conF (old n : Nat) (p : List ByteArray) : Option (ByteArray × ByteArray) :=
  match p with
  | [] => none
  | h :: ps => conS (od old - 1) ((n - 1) / 2 ^ ex old) ps h h
def conP (w : Bool) (old n : Nat) (p : List ByteArray) (was : ByteArray) : Option (ByteArray × ByteArray) := if w = true ∧ od old = 1 then conT old n p was else conF old n p

/-- the numbers of a way that goes left from the root -/
theorem nums_left (old n : Nat) (h1 : 1 ≤ old) (hn : old < n) (hk : old ≤ half n) :
    ∃ s, od old - 1 < 2 ^ s ∧ 2 ^ s ≤ (n - 1) / 2 ^ ex old ∧ (n - 1) / 2 ^ ex old < 2 ^ (s + 1) ∧ (half n - 1) / 2 ^ ex old = 2 ^ s - 1 := by
  have k3 := half_two n (by omega)
  have k2 := half_lt n (by omega)
  have hkt : half n = 2 ^ Nat.log2 (n - 1) := rfl
  have ho := od_ex old h1
  have hop := od_pos' old h1
  have hj : ex old ≤ Nat.log2 (n - 1) := by
    rcases Nat.lt_or_ge (Nat.log2 (n - 1)) (ex old) with h | h
    · have h2 : 2 ^ (Nat.log2 (n - 1) + 1) ≤ 2 ^ ex old := Nat.pow_le_pow_right (by decide) h
      rw [Nat.pow_succ, ← hkt] at h2
      have h3 : 2 ^ ex old ≤ od old * 2 ^ ex old := Nat.le_mul_of_pos_left _ hop
      omega
    · exact h
  have hsp := pow_split _ _ hj
  have hpj := pow_pos2 (ex old)
  refine ⟨Nat.log2 (n - 1) - ex old, ?_, ?_, ?_, ?_⟩
  · have : od old * 2 ^ ex old ≤ 2 ^ (Nat.log2 (n - 1) - ex old) * 2 ^ ex old := by rw [← hsp, ho, ← hkt]; exact hk
    have := Nat.le_of_mul_le_mul_right this hpj
    omega
  · rw [Nat.le_div_iff_mul_le hpj, ← hsp, ← hkt]
    omega
  · rw [Nat.div_lt_iff_lt_mul hpj, Nat.pow_succ, Nat.mul_comm _ 2, Nat.mul_assoc, ← hsp, ← hkt]
    omega
  · rw [hkt, hsp]
    exact div_pred _ _ (pow_pos2 _) hpj

theorem conP_left (w : Bool) (old n : Nat) (q : List ByteArray) (s was : ByteArray) (h1 : 1 ≤ old) (hn : old < n) (hk : old ≤ half n) :
    conP w old n (q ++ [s]) was = (conP w old (half n) q was).map (fun z => (z.1, nodeV z.2 s)) := by
  obtain ⟨t, a1, a2, a3, a4⟩ := nums_left old n h1 hn hk
  have hpt := pow_pos2 t
  unfold conP
  by_cases hw : w = true ∧ od old = 1
  · rw [if_pos hw, if_pos hw]
    unfold conT
    rw [conS_left q t (od old - 1) _ s was was a1 a2 a3, a4]
  · rw [if_neg hw, if_neg hw]
    cases q with
    | nil =>
      show conS (od old - 1) ((n - 1) / 2 ^ ex old) [] s s = _
      rw [conS_nil, if_neg (by omega)]
      rfl
    | cons h ps =>
      show conS _ _ (ps ++ [s]) h h = (conS _ _ ps h h).map _
      rw [conS_left ps t (od old - 1) _ s h h a1 a2 a3, a4]

theorem conP_right (w : Bool) (old n : Nat) (q : List ByteArray) (s was : ByteArray) (hn : old < n) (hk : ¬ old ≤ half n) :
    conP w old n (q ++ [s]) was = (conP false (old - half n) (n - half n) q was).map (fun z => (nodeV s z.1, nodeV s z.2)) := by
  have k1 := half_pos n
  have k3 := half_two n (by omega)
  have k2 := half_lt n (by omega)
  have hkt : half n = 2 ^ Nat.log2 (n - 1) := rfl
  obtain ⟨r, hr⟩ : ∃ r, r = old - half n := ⟨_, rfl⟩
  have hold : old = 2 ^ Nat.log2 (n - 1) + r := by omega
  obtain ⟨u1, u2, u3⟩ := ex_top (Nat.log2 (n - 1)) r (by omega) (by omega)
  rw [← hold] at u1 u3
  have hop := od_pos' r (by omega)
  have hro := od_ex r (by omega)
  have hoo := od_ex old (by omega)
  have hpj := pow_pos2 (ex r)
  have hpt := pow_pos2 (Nat.log2 (n - 1) - ex r)
  have hsp := pow_split _ _ (Nat.le_of_lt u2)
  have hnp : ¬ od old = 1 := by omega
  have hlast : 2 ^ (Nat.log2 (n - 1) - ex r) ≤ (n - 1) / 2 ^ ex r := by
    rw [Nat.le_div_iff_mul_le hpj, ← hsp, ← hkt]
    omega
  have hlast2 : (n - 1) / 2 ^ ex r < 2 ^ (Nat.log2 (n - 1) - ex r + 1) := by
    rw [Nat.div_lt_iff_lt_mul hpj, Nat.pow_succ, Nat.mul_comm _ 2, Nat.mul_assoc, ← hsp, ← hkt]
    omega
  have hle : od old - 1 ≤ (n - 1) / 2 ^ ex r := by
    rw [← div_pred (od old) (2 ^ ex r) (by omega) hpj, ← u1, hoo]
    exact Nat.div_le_div_right (by omega)
  have hsub : (n - half n - 1) / 2 ^ ex r = (n - 1) / 2 ^ ex r - 2 ^ (Nat.log2 (n - 1) - ex r) := by
    rw [show n - half n - 1 = n - 1 - 2 ^ ex r * 2 ^ (Nat.log2 (n - 1) - ex r) by rw [Nat.mul_comm, ← hsp, ← hkt]; omega, Nat.sub_mul_div_of_le]
    rw [Nat.mul_comm, ← hsp, ← hkt]
    omega
  unfold conP
  rw [if_neg (fun h => hnp h.2), if_neg (by simp), ← hr]
  cases q with
  | nil =>
    show conS (od old - 1) ((n - 1) / 2 ^ ex old) [] s s = _
    rw [conS_nil, u1, if_neg (by omega)]
    rfl
  | cons h ps =>
    show conS _ _ (ps ++ [s]) h h = (conS _ _ ps h h).map _
    rw [u1, conS_right ps (Nat.log2 (n - 1) - ex r) (od old - 1) _ s h h (by omega) hle hlast2, hsub, show od old - 1 - 2 ^ (Nat.log2 (n - 1) - ex r) = od r - 1 by omega]
theorem conP_none (w : Bool) (old n : Nat) (was : ByteArray) (h1 : 1 ≤ old) (hn : old < n) : conP w old n [] was = none := by
  have ho := od_ex old h1
  have hop := od_pos' old h1
  have hpj := pow_pos2 (ex old)
  have : 1 ≤ (n - 1) / 2 ^ ex old := by
    rw [Nat.le_div_iff_mul_le hpj]
    have : 2 ^ ex old ≤ od old * 2 ^ ex old := Nat.le_mul_of_pos_left _ hop
    omega
  unfold conP
  split
  · unfold conT
    rw [conS_nil, if_neg (by omega)]
  · rfl
/-- where all are old -/
theorem conP_whole (old : Nat) (q : List ByteArray) (was : ByteArray) (h1 : 1 ≤ old) (ho : od old = 1) : conP true old old q was = if q = [] then some (was, was) else none := by
  have h2 := od_ex old h1
  rw [ho, Nat.one_mul] at h2
  have h3 : (old - 1) / 2 ^ ex old = 0 := Nat.div_eq_of_lt (by omega)
  unfold conP conT
  rw [if_pos ⟨rfl, ho⟩, h3, ho]
  cases q with
  | nil => rw [conS_nil, if_pos rfl, if_pos rfl]
  | cons x xs => rw [conS_zero _ _ _ _ (by simp), if_neg (by simp)]
theorem conP_part (old : Nat) (q : List ByteArray) (was : ByteArray) (h1 : 1 ≤ old) (ho : od old = 1) : conP false old old q was = if q.length = 1 then some (q.headD ⟨#[]⟩, q.headD ⟨#[]⟩) else none := by
  have h2 := od_ex old h1
  rw [ho, Nat.one_mul] at h2
  have h3 : (old - 1) / 2 ^ ex old = 0 := Nat.div_eq_of_lt (by omega)
  unfold conP
  rw [if_neg (by simp)]
  match q with
  | [] => rfl
  | [x] =>
    show conS (od old - 1) ((old - 1) / 2 ^ ex old) [] x x = _
    rw [conS_nil, h3]
    rfl
  | x :: y :: ys =>
    show conS _ _ (y :: ys) x x = _
    rw [h3, conS_zero _ _ _ _ (by simp), if_neg (by simp)]
end Go.Proofs.YtghghkfhcpldhaaDoor.Tr

/- Plain mathematics: a path tells its leaf to be in the tree, a proof tells the first ones to be the beginning of all. -/
namespace Go.Proofs.YtghghkfhcpldhaaDoor.Tr
open Go.Proofs.YtghghkfhcpldhaaDoor.Sh (nodeV leafV)

theorem incl_path : ∀ (f : Nat) (l : List ByteArray) (i n : Nat) (x : ByteArray), n = l.length → l[i]? = some x → n ≤ f → climbR f n i (path l i) (leafV x) = some (tree l)
  | 0, l, i, n, x, hn, hx, hf => by
    obtain ⟨h, _⟩ := List.getElem?_eq_some_iff.1 hx
    omega
  | f + 1, l, i, n, x, hn, hx, hf => by
    obtain ⟨h, he⟩ := List.getElem?_eq_some_iff.1 hx
    rw [climbR]
    by_cases h1 : l.length ≤ 1
    · have h2 : i = 0 := by omega
      subst h2
      rw [if_pos (by omega), path_one l 0 h1, if_pos rfl, tree_one l (by omega), he]
    · have k1 := half_lt l.length (by omega)
      have k2 := half_pos l.length
      rw [if_neg (by omega), tree_two l (by omega)]
      subst hn
      by_cases hi : i < half l.length
      · rw [path_left l i (by omega) hi, List.getLast?_concat, List.dropLast_concat]
        have ih := incl_path f (l.take (half l.length)) i (half l.length) x (by rw [List.length_take]; omega) (by rw [List.getElem?_take_of_lt hi]; exact hx) (by omega)
        simp only [if_pos hi, ih, Option.map_some]
      · rw [path_right l i (by omega) hi, List.getLast?_concat, List.dropLast_concat]
        have ih := incl_path f (l.drop (half l.length)) (i - half l.length) (l.length - half l.length) x (by rw [List.length_drop]) (by rw [List.getElem?_drop, show half l.length + (i - half l.length) = i by omega]; exact hx) (by omega)
        simp only [if_neg hi, ih, Option.map_some]
theorem half_pow (n : Nat) : ∃ t, half n = 2 ^ t := ⟨_, rfl⟩
theorem half_same (old n : Nat) (hn : 2 ≤ n) (h : old < n) (hk : ¬ old ≤ half n) : half old = half n := by
  have h2 := half_two n hn
  obtain ⟨t, ht⟩ := half_pow n
  rw [ht] at hk h2 ⊢
  exact half_of old t (by omega) (by omega)
theorem cons_proof : ∀ (f : Nat) (l : List ByteArray) (old : Nat) (w : Bool) (was : ByteArray), l.length ≤ f → 1 ≤ old → (old < l.length ∨ (old = l.length ∧ od old = 1)) → (w = true → was = tree (l.take old)) →
    conP w old l.length (proof l old w) was = some (tree (l.take old), tree l)
  | 0, l, old, w, was, hf, h1, ho, hw => by omega
  | f + 1, l, old, w, was, hf, h1, ho, hw => by
    rcases ho with ho | ⟨ho, hod⟩
    · have k1 := half_lt l.length (by omega)
      have k2 := half_pos l.length
      rw [tree_two l (by omega)]
      by_cases hk : old ≤ half l.length
      · rw [proof_left l old w (by omega) ho hk, conP_left w old l.length _ _ was h1 ho hk]
        have hlen : (l.take (half l.length)).length = half l.length := by rw [List.length_take]; omega
        have htk : (l.take (half l.length)).take old = l.take old := by rw [List.take_take, Nat.min_eq_left hk]
        have hcase : old < (l.take (half l.length)).length ∨ (old = (l.take (half l.length)).length ∧ od old = 1) := by
          rw [hlen]
          rcases Nat.lt_or_ge old (half l.length) with h | h
          · exact .inl h
          · refine .inr ⟨by omega, ?_⟩
            obtain ⟨t, ht⟩ := half_pow l.length
            rw [show old = 2 ^ t by omega]
            exact od_pow t
        have ih := cons_proof f (l.take (half l.length)) old w was (by omega) h1 hcase (by rw [htk]; exact hw)
        rw [hlen, htk] at ih
        rw [ih]
        rfl
      · rw [proof_right l old w (by omega) ho hk, conP_right w old l.length _ _ was ho hk]
        have hlen : (l.drop (half l.length)).length = l.length - half l.length := List.length_drop ..
        have ih := cons_proof f (l.drop (half l.length)) (old - half l.length) false was (by omega) (by omega) (.inl (by omega)) (by intro h; cases h)
        rw [hlen] at ih
        rw [ih]
        have hh := half_same old l.length (by omega) ho hk
        have hl2 : (l.take old).length = old := by rw [List.length_take]; omega
        have ht := tree_two (l.take old) (by omega)
        rw [hl2, hh, List.take_take, Nat.min_eq_left (by omega), List.drop_take] at ht
        rw [ht]
        rfl
    · have htk : l.take old = l := by rw [ho, List.take_length]
      rw [htk] at hw ⊢
      cases w with
      | true =>
        rw [proof_whole l old ho.symm, ← ho, conP_whole old [] was h1 hod, if_pos rfl, hw rfl]
      | false =>
        rw [proof_part l old ho.symm, ← ho, conP_part old [tree l] was h1 hod]
        rfl
end Go.Proofs.YtghghkfhcpldhaaDoor.Tr

/- The laws' lwTexts: two rows of the same texts are alike. -/
namespace Go.Proofs.YtghghkfhcpldhaaDoor.St
open Go.RowKit

set_option maxRecDepth 100000 in
set_option maxHeartbeats 1000000 in
theorem texts_any (a b : Option Addr) (cap cap' : Nat) (l : List ByteArray) (w : World) (B : Nat) (ha : Strs w B a l) (hb : Strs w B b l) (hn : l.length ≤ 1048576) :
    Calls Tryd.prog 6 #[.slice a l.length cap, .slice b l.length cap'] w fun e w' => e = .returned (.bool true) ∧ Below w.heap.size w w' := by
  have HA := hideT ha
  have HB := hideT hb
  clear ha hb
  obtain ⟨n, hln⟩ : ∃ n, n = l.length := ⟨_, rfl⟩
  have HLN := hideT hln
  rw [← hln] at hn ⊢
  clear hln
  go_enter Tryd.func6, Tryd.ntmps6
  go_wp2_with fail
  go_loopw [5] (fun i wr => ∃ k : Nat, i = .int .i64 k ∧ k ≤ n ∧ (∀ p : Addr, wr.cell? p = w.cell? p) ∧ Below w.heap.size w wr) (fun i _ => n - (intOf i).toNat)
  case atStart => exact ⟨0, rfl, by omega, fun _ => rfl, Below.refl _ _⟩
  case round =>
    obtain ⟨k, rfl, hk, hcell, hbel⟩ := hrel
    have HC := hideT hcell
    have GB := hideT hbel
    by_cases hlt : k < n
    · have hkl : k < l.length := by rw [← HLN.out]; exact hlt
      obtain ⟨b1, off1, rfl, _, hc1⟩ := HA.out.some (by omega)
      obtain ⟨b2, off2, rfl, _, hc2⟩ := HB.out.some (by omega)
      have c1 := (hcell _).trans (hc1 k hkl)
      have c2 := (hcell _).trans (hc2 k hkl)
      obtain ⟨s, hs⟩ : ∃ s, s = l[k] := ⟨_, rfl⟩
      rw [← hs] at c1 c2
      clear hc1 hc2 hcell hbel hs
      go_wp2_with fail
      go_region
      all_goals (try go_wp2_with fail)
      all_goals go_roundw
      case rel => exact ⟨k + 1, by go_num, by omega, fun p => HC.out p, GB.out.drew⟩
      case measure => simp [intOf]; omega
    · clear hcell hbel
      go_wp2_with fail
      go_ret
      exact ⟨rfl, GB.out⟩
end Go.Proofs.YtghghkfhcpldhaaDoor.St

/- For the law on trees: a path is told; the range that entries are added to one by one. -/
namespace Go.Proofs.YtghghkfhcpldhaaDoor.Tr
open Go.RowKit
open Go.Proofs.YtghghkfhcpldhaaDoor.St
open Go.Proofs.YtghghkfhcpldhaaDoor.Sh (Vars leafV leafV_size leafR leafR_yes)

/-- a path is told -/
theorem path_told (l : List ByteArray) (i : Nat) (h : right l = true) (hi : i < l.length) (hl : l.length ≤ 63) : inclB (leafR l[i]) i l.length (pathR l i) (treeR l) = true := by
  have hp : pathR l i = path l i := by
    unfold pathR
    rw [if_pos ⟨h, by omega, by omega⟩]
    rfl
  have hsz := ((right_yes l).1 h).2 i hi
  have hlen := path_length _ l i (Nat.le_refl _)
  have hw : (decide ((path l i).length ≤ 63) && wide (path l i)) = true := by
    rw [decide_eq_true (by omega), Bool.true_and]
    exact (wide_yes _).2 fun j hj => Dr.path_all _ l i (Nat.le_refl _) _ (List.getElem_mem hj)
  rw [leafR_yes _ (by omega), hp, treeR_yes l h, inclB_in (leafV l[i]) i l.length (path l i) (tree l) (leafV_size _) (tree_size _) hw hi]
  unfold incl
  rw [← climb_same l.length l.length i (path l i) (leafV l[i]) (Nat.le_refl _) hi, incl_path l.length l i l.length l[i] rfl (List.getElem?_eq_getElem hi) (Nat.le_refl _)]
  simp
theorem take_one (l : List ByteArray) (j : Nat) (h : j < l.length) : l.take j ++ [l[j]] = l.take (j + 1) := by
  rw [List.take_add_one, List.getElem?_eq_getElem h]
  rfl
/-- one entry more -/
theorem add_take (l : List ByteArray) (j : Nat) (h : j < l.length) (hl : l.length ≤ 63) (hr : right l = true) : addN j (peaks (l.take j)) l[j] = (j : Int) + 1 ∧ addR j (peaks (l.take j)) l[j] = peaks (l.take (j + 1)) := by
  have hz : (l.take j).length = j := by rw [List.length_take]; omega
  have := add_peaks (l.take j) l[j] (by omega) (((right_yes l).1 hr).2 j h)
  rw [take_one l j h, hz] at this
  refine ⟨this.1.trans ?_, this.2⟩
  rw [List.length_take]
  omega
/-- the range's variable -/
structure RL (w1 W : World) (g : Nat) (n : Int) (v : Value) (p : List ByteArray) : Prop where
  rv : W.heap[g]? = some (.cells #[.int .i64 n, v] 34 (0, 0))
  low : Below w1.heap.size w1 W
  own : OwnS W (g + 1) v p
  far : w1.heap.size ≤ g
theorem RL.start {w1 W : World} (h : Below w1.heap.size w1 W) : RL w1 (W.alloc (.cells #[.int .i64 0, .slice none 0 0] 34)) W.heap.size 0 (.slice none 0 0) [] :=
  ⟨new1 W _ _, h.alloc h.size _, OwnS.nil _ _, h.size⟩
theorem RL.below {w1 W W' : World} {g : Nat} {n : Int} {v : Value} {p : List ByteArray} (h : RL w1 W g n v p) (hb : Below W.heap.size W W') : RL w1 W' g n v p :=
  ⟨(hb.block _ (lt_of_row h.rv)).trans h.rv, h.low.trans (hb.mono h.low.size), h.own.below hb, h.far⟩
theorem RL.set {w1 W : World} {g : Nat} {n : Int} {v : Value} {p : List ByteArray} (h : RL w1 W g n v p) {base : Nat} {n' : Int} {v' : Value} {p' : List ByteArray} (ho : OwnS W base v' p') (hb : g + 1 ≤ base) : RL w1 ((W.setCell ⟨g, 0, none⟩ (.int .i64 n')).setCell ⟨g, 1, none⟩ v') g n' v' p' := by
  have h1 := heap_setCell_same W g 0 _ _ (.int .i64 n') h.rv
  have h2 := heap_setCell_same _ g 1 _ _ v' h1
  have hf := h.far
  exact ⟨h2, (h.low.setCell (by simpa using hf) _).setCell (by simpa using hf) _, own_set_low (own_set_low (ho.mono hb) _ _ (by simp)) _ _ (by simp), hf⟩
theorem RL.cells {w1 W : World} {g : Nat} {n : Int} {v : Value} {p : List ByteArray} (h : RL w1 W g n v p) : W.cell? ⟨g, 0, none⟩ = some (.int .i64 n) ∧ W.cell? ⟨g, 1, none⟩ = some v ∧ W.frozen? ⟨g, 0, none⟩ = false ∧ W.frozen? ⟨g, 1, none⟩ = false :=
  ⟨cell_of_row W _ 0 _ _ _ h.rv, cell_of_row W _ 1 _ _ _ h.rv, frozen_of_row W _ 0 _ _ h.rv, frozen_of_row W _ 1 _ _ h.rv⟩
theorem var_at {W W' : World} {g : Nat} {n : Int} {v : Value} (h : W.heap[g]? = some (.cells #[.int .i64 n, v] 34 (0, 0))) (hb : Below W.heap.size W W') : W'.heap[g]? = some (.cells #[.int .i64 n, v] 34 (0, 0)) :=
  (hb.block _ (lt_of_row h)).trans h
theorem var_cells {W : World} {g : Nat} {n : Int} {v : Value} (h : W.heap[g]? = some (.cells #[.int .i64 n, v] 34 (0, 0))) : W.cell? ⟨g, 0, none⟩ = some (.int .i64 n) ∧ W.cell? ⟨g, 1, none⟩ = some v :=
  ⟨cell_of_row W _ 0 _ _ _ h, cell_of_row W _ 1 _ _ _ h⟩
end Go.Proofs.YtghghkfhcpldhaaDoor.Tr

/- The walk of the law on trees: each of drawn right entries is included in their tree by its path; a range to which they are added one by one comes to their tree, too. -/
namespace Go.Proofs.YtghghkfhcpldhaaDoor.fnTree
open Go.RowKit
open Go.Proofs.YtghghkfhcpldhaaDoor.Sh (Vars)
open Go.Proofs.YtghghkfhcpldhaaDoor.Dr
open Go.Proofs.YtghghkfhcpldhaaDoor.St (Strs OwnS)
open Go.Proofs.YtghghkfhcpldhaaDoor.Tr (treeR pathR peaks RL)

theorem below2 {w w1 w2 : World} (h : Below w.heap.size w w1) (h2 : Below w1.heap.size w1 w2) : Below w.heap.size w w2 := h.trans (h2.mono h.size)
theorem own_at {w : World} {base : Nat} {x : Option Addr} {c : Nat} {l : List ByteArray} (h : OwnS w base (.slice x l.length c) l) : Strs w w.heap.size x l := by
  obtain ⟨a, c', hv, _, hs⟩ := h.strs
  have : x = a := by simp at hv; exact hv.1
  rw [this]
  exact hs
theorem nonempty (s : ByteArray) (h : 1 ≤ s.size) : s.toList.isEmpty = false := by
  rw [ByteArray.toList_eq]
  cases hd : s.data.toList with
  | nil => exfalso; have := congrArg List.length hd; rw [Array.length_toList] at this; exact absurd (show s.size = 0 from this) (by omega)
  | cons _ _ => rfl

set_option maxRecDepth 100000 in
set_option maxHeartbeats 8000000 in
theorem walk_in (w : World) (a0 : Option Addr) (len0 cap0 : Nat) (a1 : Option Addr) (len1 cap1 : Nat) (r0 : Row w w.heap.size a0 len0) (r1 : Row w w.heap.size a1 len1) (hl0 : len0 ≤ 1048576) (hl1 : len1 ≤ 1048576) (hV : Vars w) :
    Calls Tryd.prog 4 #[.slice a0 len0 cap0, .slice a1 len1 cap1] w fun e w' => e = .returned (.bool true) ∧ Below w.heap.size w w' := by
  have R0 := hideD r0
  have R1 := hideD r1
  have HV := hideD hV
  have h2 := hV.two
  clear r0 r1 hV
  go_enter Tryd.func4, Tryd.ntmps4
  go_wp2_with fail
  refine (drawPath_any a0 len0 cap0 _ hl0 R0.out).mono ?_
  rintro e w1 ⟨x, c, l, i, rfl, ho1, hn, hc, hsz, _, _, hb1⟩
  have S1 := hideD (own_at ho1)
  have B1 := hideD hb1
  have HSZ := hideD hsz
  clear ho1 hb1 hsz
  have HTE := hideD (Tr.treeR_yes l)
  have HTN := hideD (Tr.treeR_no l)
  have HTOLD := hideD (fun (m : Nat) (hm : m < l.length) h => Tr.path_told l m h hm (by omega))
  have HPI := hideD (fun (j : Int) (W : World) (hW : Below w1.heap.size w1 W) hV => Tr.pathOf_impl l l.length j x c w1.heap.size W rfl hc (by omega) (S1.out.below hW) hW.size hV)
  have HPS := hideD (fun (j : Int) (W : World) (hW : Below w1.heap.size w1 W) => Tr.pathOf_spec l l.length j x c w1.heap.size W rfl hc (by omega) (S1.out.below hW) hW.size)
  have HTI := hideD (fun (W : World) (hW : Below w1.heap.size w1 W) hV => Tr.treeHash_impl l l.length x c w1.heap.size W rfl hc (by omega) (S1.out.below hW) hW.size hV)
  have HTS := hideD (fun (W : World) (hW : Below w1.heap.size w1 W) => Tr.treeHash_spec l l.length x c w1.heap.size W rfl hc (by omega) (S1.out.below hW) hW.size)
  have HTX : Hid (∀ (W : World) (u v : Value) (q : List ByteArray) (b b' : Nat), OwnS W b u q → OwnS W b' v q → q.length ≤ 1048576 → Calls Tryd.prog 6 #[u, v] W fun e w' => e = .returned (.bool true) ∧ Below W.heap.size W w') := fun W u v q b b' h h' hq => by
    obtain ⟨y, d, rfl, _, hy⟩ := h.strs
    obtain ⟨y', d', rfl, _, hy'⟩ := h'.strs
    exact St.texts_any y y' d d' q W W.heap.size hy hy' hq
  have HPL := hideD (fun j => Dr.pathR_len l j)
  have HX : Hid (0 < l.length → ∃ b off, x = some ⟨b, off, none⟩ ∧ ∀ j (h : j < l.length) (W : World), Below w1.heap.size w1 W → W.cell? ⟨b, off + j, none⟩ = some (.string l[j])) := fun h => by
    obtain ⟨b, off, he, hlt, hcell⟩ := S1.out.some h
    exact ⟨b, off, he, fun j hj W hW => (hW.cell (p := ⟨b, off + j, none⟩) hlt).trans (hcell j hj)⟩
  have HAT := hideD (fun (j : Nat) (hj : j < l.length) hr => Tr.add_take l j hj (by omega) hr)
  have HRT2 := hideD (Tr.root_peaks l (by omega))
  have HTK : Hid (l.take l.length = l) := List.take_length
  have HPK := hideD (fun j => Nat.le_trans (Dr.peaks_le (l.take j)) (List.length_take_le j l))
  obtain ⟨n, hnl⟩ : ∃ n, n = l.length := ⟨_, rfl⟩
  have HNL := hideD hnl
  rw [← hnl] at hn hc HPI HPS HTI HTS HRT2 ⊢
  clear hnl
  obtain ⟨rt, hrt⟩ : ∃ rt, rt = treeR l := ⟨_, rfl⟩
  have HRT : Hid (rt.toList.isEmpty = true ∨ (rt.toList.isEmpty = false ∧ Tr.right l = true)) := by
    unfold Hid
    cases hr : Tr.right l with
    | false =>
      refine Or.inl ?_
      rw [hrt, HTN.out hr, ByteArray.toList_eq]
      rfl
    | true =>
      refine Or.inr ⟨?_, rfl⟩
      rw [hrt, HTE.out hr]
      exact nonempty _ (by rw [Tr.tree_size]; decide)
  have HRE : Hid (Tr.right l = true → Tr.rootR n (peaks l) = rt) := fun hr => HRT2.out.trans ((HTE.out hr).symm.trans hrt.symm)
  rw [← hrt] at HTI HTS HTOLD
  clear hrt HTE HTN HRT2
  go_wp2_with fail
  refine (HTI.out w1 (Below.refl _ _) (HV.out.below B1.out h2)).mono ?_
  rintro e w2 ⟨rfl, hb2⟩
  have B2 := hideD hb2
  clear hb2
  go_wp2_with fail
  refine (HPI.out i w2 B2.out (HV.out.below (below2 B1.out B2.out) h2)).mono ?_
  rintro e w3 ⟨v3, rfl, ho3, hb3⟩
  have O3 := hideD ho3
  have B3 := hideD (below2 B2.out hb3)
  clear ho3 hb3
  go_wp2_with fail
  refine (HTS.out w3 B3.out).mono ?_
  rintro e w4 ⟨rfl, hb4⟩
  have O3b := hideD (O3.out.below hb4)
  have B4 := hideD (below2 B3.out hb4)
  clear hb4
  go_wp2_with fail
  refine (HPS.out i w4 B4.out).mono ?_
  rintro e w5 ⟨v5, rfl, ho5, hb5⟩
  have O3c := hideD (O3b.out.below hb5)
  have O5 := hideD ho5
  have B5 := hideD (below2 B4.out hb5)
  clear ho5 hb5
  go_wp2_with fail
  refine (HTX.out w5 v3 v5 _ _ _ O3c.out O5.out (by have := HPL.out i; have := HNL.out; omega)).mono ?_
  rintro e w6 ⟨rfl, hb6⟩
  have B6 := hideD (below2 B5.out hb6)
  clear hb6 O3 O3b O3c O5
  rcases HRT.out with hem | ⟨hem, hrr⟩
  · have GT := hideD (below2 B1.out B6.out)
    go_wp2_with fail
    refine (drawIncl_any a1 len1 cap1 _ hl1 ((Dr.Row.below R1.out GT.out).mono GT.out.size)).mono ?_
    rintro e w8 ⟨leaf8, i8, n8, x8, d8, q8, root8, rfl, hn8, hp8, hq8, hd8, hb8⟩
    have P8 := hideD hp8
    have B8 := hideD (below2 GT.out hb8)
    clear hp8 hb8
    have HCI := hideD (fun (W : World) (hW : Below w8.heap.size w8 W) hV => Tr.incl_impl leaf8 root8 i8 n8 q8 x8 d8 w8.heap.size W hn8 (by omega) hd8 (P8.out.below hW) hW.size hV)
    have HCS := hideD (fun (W : World) (hW : Below w8.heap.size w8 W) => Tr.incl_spec leaf8 root8 i8 n8 q8 x8 d8 w8.heap.size W hn8 (by omega) (P8.out.below hW) hW.size)
    generalize Tr.inclB leaf8 i8 n8 q8 root8 = cb at HCI HCS
    generalize q8.length = qn at hq8 hd8 HCI HCS ⊢
    clear P8
    go_wp2_with fail
    refine (drawRAdd_any a1 len1 cap1 _ hl1 ((Dr.Row.below R1.out B8.out).mono B8.out.size)).mono ?_
    rintro e w9 ⟨n9, x9, c9, p9, t9, rfl, hp9, hx9, hl9, hc9, ht9, hb9⟩
    have P9 := hideD hp9
    have B9 := hideD hb9
    have hx9' := hideD hx9
    have HAI := hideD (fun (W : World) (hW : Below w9.heap.size w9 W) hV => Tr.add_impl n9 p9 t9 x9 c9 w9.heap.size W (by omega) (by unfold maxLen; omega) (P9.out.below hW) hx9'.out hW.size hV)
    have HAS := hideD (fun (W : World) (hW : Below w9.heap.size w9 W) => Tr.add_spec n9 p9 t9 x9 c9 w9.heap.size W (by omega) (by unfold maxLen; omega) (P9.out.below hW) hx9'.out hW.size)
    have HRL := hideD (Tr.addR_length n9 p9 t9)
    clear hp9 hb9 hx9 hx9' P9
    generalize Tr.addN n9 p9 t9 = sn at HAI HAS
    generalize Tr.addR n9 p9 t9 = sr at HAI HAS HRL
    generalize p9.length = pn9 at hl9 hc9 HAI HAS HRL ⊢
    have V16 := hideD (Tr.new1 w9 #[.int .i64 n9, .slice x9 pn9 c9] 34)
    have B9a := hideD (show Below w9.heap.size w9 (w9.alloc (.cells #[.int .i64 n9, .slice x9 pn9 c9] 34)) from (Below.refl _ _).alloc (Nat.le_refl _) _)
    go_wp2_with fail
    refine (HAI.out _ B9a.out (HV.out.below (below2 (below2 B8.out B9.out) B9a.out) h2)).mono ?_
    rintro e w10 ⟨v10, rfl, ho10, hb10⟩
    obtain ⟨y10, d10, rfl, _⟩ := own_parts ho10
    have O10 := hideD ho10
    have V16b := hideD (Tr.var_at V16.out hb10)
    have B10 := hideD (below2 B9a.out hb10)
    obtain ⟨srn, hsrn⟩ : ∃ srn, srn = sr.length := ⟨_, rfl⟩
    have HSN := hideD hsrn
    rw [← hsrn] at O10 HRL ⊢
    clear ho10 hb10 hsrn
    have V18 := hideD (Tr.new1 w10 #[.int .i64 sn, .slice y10 srn d10] 34)
    have A10 := hideD (show Below w10.heap.size w10 (w10.alloc (.cells #[.int .i64 sn, .slice y10 srn d10] 34)) from (Below.refl _ _).alloc (Nat.le_refl _) _)
    have V16c := hideD (Tr.var_at V16b.out A10.out)
    have B10a := hideD (below2 B10.out A10.out)
    have O10a := hideD (O10.out.below A10.out)
    obtain ⟨c160, c161⟩ := Tr.var_cells V16c.out
    go_wp2_with fail
    refine (HAS.out _ B10a.out).mono ?_
    rintro e w11 ⟨v11, rfl, ho11, hb11⟩
    obtain ⟨y11, d11, rfl, _⟩ := own_parts ho11
    have O11 := hideD ho11
    have O10b := hideD (O10a.out.below hb11)
    have V18b := hideD (Tr.var_at V18.out hb11)
    have B11 := hideD (below2 B10a.out hb11)
    rw [← HSN.out] at O11 ⊢
    clear ho11 hb11 c160 c161 V16 V16b V16c B10 O10 O10a
    have V19 := hideD (Tr.new1 w11 #[.int .i64 sn, .slice y11 srn d11] 34)
    have A11 := hideD (show Below w11.heap.size w11 (w11.alloc (.cells #[.int .i64 sn, .slice y11 srn d11] 34)) from (Below.refl _ _).alloc (Nat.le_refl _) _)
    have V18c := hideD (Tr.var_at V18b.out A11.out)
    have O10c := hideD (O10b.out.below A11.out)
    have O11c := hideD (O11.out.below A11.out)
    have B11a := hideD (below2 B11.out A11.out)
    have G11 := hideD (below2 (below2 B8.out B9.out) B11a.out)
    go_wp2_with fail
    refine (drawNode_any a1 len1 cap1 _ hl1 ((Dr.Row.below R1.out G11.out).mono G11.out.size)).mono ?_
    rintro e w12 ⟨xa, ya, rfl, hb12⟩
    have B12 := hideD (below2 B9.out (below2 B11a.out hb12))
    have V18d := hideD (Tr.var_at V18c.out hb12)
    have V19d := hideD (Tr.var_at V19.out hb12)
    have O10d := hideD (O10c.out.below hb12)
    have O11d := hideD (O11c.out.below hb12)
    clear hb12 V18 V18b V18c V19 O10b O10c O11 O11c B11 B11a G11 A10 A11 B10a B9a
    go_wp2_with fail
    refine (HCI.out _ B12.out (HV.out.below (below2 B8.out B12.out) h2)).mono ?_
    rintro e w13 ⟨rfl, hb13⟩
    have B13 := hideD (below2 B12.out hb13)
    have V18e := hideD (Tr.var_at V18d.out hb13)
    have V19e := hideD (Tr.var_at V19d.out hb13)
    have O10e := hideD (O10d.out.below hb13)
    have O11e := hideD (O11d.out.below hb13)
    clear hb13
    go_wp2_with fail
    refine (HCS.out _ B13.out).mono ?_
    rintro e w14 ⟨rfl, hb14⟩
    have B14 := hideD (below2 B13.out hb14)
    have V18f := hideD (Tr.var_at V18e.out hb14)
    have V19f := hideD (Tr.var_at V19e.out hb14)
    have O10f := hideD (O10e.out.below hb14)
    have O11f := hideD (O11e.out.below hb14)
    clear hb14 V18d V18e V19d V19e O10d O10e O11d O11e
    obtain ⟨c180, c181⟩ := Tr.var_cells V18f.out
    obtain ⟨c190, c191⟩ := Tr.var_cells V19f.out
    have HT := hideD (HTX.out w14 _ _ sr _ _ O10f.out O11f.out (by have := HRL.out; rw [← HSN.out]; omega))
    have GB := hideD (below2 B8.out B14.out)
    cases cb
    all_goals
      go_wp2_with fail
      refine HT.out.mono ?_
      rintro e w15 ⟨rfl, hb15⟩
      have B15 := hideD (below2 GB.out hb15)
      clear hb15
      go_wp2_with fail
      refine (Sh.node_impl xa ya w15 (HV.out.below B15.out h2)).mono ?_
      rintro e w16 ⟨rfl, hb16⟩
      have B16 := hideD (below2 B15.out hb16)
      clear hb16
      go_wp2_with fail
      refine (Sh.node_spec xa ya w16).mono ?_
      generalize Sh.nodeR xa ya = nr
      rintro e w17 ⟨rfl, hb17⟩
      have B17 := hideD (below2 B16.out hb17)
      clear hb17
      go_wp2_with fail
      go_ret
      exact ⟨rfl, B17.out⟩
  · have HTOLD2 := hideD (fun m hm => HTOLD.out m hm hrr)
    have HAT2 := hideD (fun j hj => HAT.out j hj hrr)
    have HRE2 := hideD (HRE.out hrr)
    clear hrr HTOLD HAT HRE HRT
    have HL0 := hideD (RL.start B6.out)
    go_wp2_with fail
    go_loopw [10] (fun iv wr => ∃ (j : Nat) (xr : Option Addr) (pn cr : Nat), iv = .int .i64 j ∧ j ≤ n ∧ pn = (peaks (l.take j)).length ∧ RL w1 wr w6.heap.size j (.slice xr pn cr) (peaks (l.take j))) (fun iv _ => n - (intOf iv).toNat)
    case atStart => exact ⟨0, none, 0, 0, rfl, Nat.zero_le _, by rw [List.take_zero, Tr.peaks_nil [] rfl]; rfl, by rw [List.take_zero, Tr.peaks_nil [] rfl]; exact HL0.out⟩
    case round =>
      obtain ⟨j, xr, pn, cr, rfl, hj, hpn, hrl⟩ := hrel
      have HPN := hideD hpn
      have RW := hideD hrl
      have BW := hideD hrl.low
      have GW := hideD (below2 B1.out hrl.low)
      have hpb : pn ≤ 30 := by have := HPK.out j; omega
      clear hrl hpn
      by_cases hlt : j < n
      · have hjl : j < l.length := by rw [← HNL.out]; exact hlt
        obtain ⟨b, off, rfl, hcell⟩ := HX.out (by omega)
        have ci := hcell j hjl wr BW.out
        have HCE := hideD (fun W hW => hcell j hjl W hW)
        have HTL := hideD (HTOLD2.out j hjl)
        have HA2 := hideD (HAT2.out j hjl)
        have HES := hideD (HSZ.out l[j] (List.getElem_mem hjl))
        have HAD : Hid (∀ (W : World), OwnS W (w6.heap.size + 1) (.slice xr pn cr) (peaks (l.take j)) → Vars W → Calls Tryd.prog 17 #[.agg #[.int .i64 (j : Int), .slice xr pn cr], .string l[j]] W fun e w' => ∃ x' c' pn', e = .returned (.agg #[.int .i64 ((j : Int) + 1), .slice x' pn' c']) ∧ Hid (pn' = (peaks (l.take (j + 1))).length) ∧ OwnS w' W.heap.size (.slice x' pn' c') (peaks (l.take (j + 1))) ∧ Below W.heap.size W w') := fun W hO hV => by
          obtain ⟨x', c', hv, _, hst, hnone⟩ := own_parts hO
          have e1 : xr = x' := by simp at hv; exact hv.1
          have e2 : cr = c' := by simp at hv; exact hv.2.2
          subst e1
          subst e2
          have := Tr.add_impl j (peaks (l.take j)) l[j] xr cr W.heap.size W (by have := HPN.out; omega) (by have := HES.out; unfold maxLen; omega) hst hnone (Nat.le_refl _) hV
          rw [HA2.out.1, HA2.out.2, ← HPN.out] at this
          refine this.mono ?_
          rintro e w' ⟨v, rfl, ho, hb⟩
          obtain ⟨x', c', rfl, _⟩ := own_parts ho
          exact ⟨x', c', _, rfl, rfl, ho, hb⟩
        have HLF := hideD (fun (W : World) (hV : Vars W) => Sh.leaf_impl l[j] W (by have := HES.out; unfold maxLen; omega) hV)
        rw [← HNL.out] at HTL
        clear hcell HA2
        generalize l[j] = ent at ci HCE HTL HAD HLF HES
        clear hjl
        generalize Sh.leafR ent = lf at HLF HTL
        have HPI2 := hideD (fun W hW hV => HPI.out j W hW hV)
        have HPLj := hideD (HPL.out j)
        generalize pathR l j = pf at HPI2 HTL HPLj
        obtain ⟨c10, c11, z10, z11⟩ := RW.out.cells
        have RWd := hideD (RW.out.below (show Below wr.heap.size wr wr.drew from (Below.refl _ _).drew))
        clear z10 z11
        go_wp2_with fail
        go_region_with (first | (go_at_call 17; (with_reducible refine (HAD.out _ ?_ ?_).mono ?_); (· exact RWd.out.own); (· exact (HV.out.below (below2 B1.out RWd.out.low) h2)); rintro e w7 ⟨x7, c7, pn7, rfl, HPN7, ho7, hb7⟩; have R7 := hideD (RWd.out.below hb7); have R8 := hideD (R7.out.set (n' := (j : Int) + 1) ho7 (by have := Tr.lt_of_row RWd.out.rv; omega)); have ci8 := HCE.out _ R8.out.low; obtain ⟨k10, k11, j10, j11⟩ := R7.out.cells; clear ho7 hb7))
        all_goals (try go_wp2_with fail)
        all_goals
          refine (HLF.out _ (HV.out.below (below2 B1.out R8.out.low) h2)).mono ?_
          rintro e w8 ⟨rfl, hb8⟩
          have R9 := hideD (R8.out.below hb8)
          clear hb8 ci8 k10 k11 j10 j11
          go_wp2_with fail
          refine (HPI2.out _ R9.out.low (HV.out.below (below2 B1.out R9.out.low) h2)).mono ?_
          rintro e w9 ⟨v9, rfl, ho9, hb9⟩
          have R10 := hideD (R9.out.below hb9)
          obtain ⟨y9, d9, rfl, hd9, hs9⟩ := ho9.strs
          have S9 := hideD hs9
          clear ho9 hb9 hs9
          have HIN := hideD (Tr.incl_impl lf rt j n pf y9 d9 w9.heap.size w9 (by omega) (by have := HPLj.out; have := HNL.out; omega) hd9 S9.out (Nat.le_refl _) (HV.out.below (below2 B1.out R10.out.low) h2))
          rw [HTL.out] at HIN
          generalize pf.length = pl at hd9 HIN ⊢
          go_wp2_with fail
          refine HIN.out.mono ?_
          rintro e w10 ⟨rfl, hb10⟩
          have R11 := hideD (R10.out.below hb10)
          clear hb10
          go_wp2_with fail
          go_roundw
          case rel => exact ⟨j + 1, x7, pn7, c7, by go_num, by omega, HPN7.out, R11.out⟩
          case measure => simp [intOf]; omega
      · obtain rfl : j = n := by omega
        have HTJ : Hid (l.take j = l) := by
          unfold Hid
          rw [HNL.out]
          exact HTK.out
        rw [HTJ.out] at HPN RW
        obtain ⟨c10, c11, z10, z11⟩ := RW.out.cells
        have HRR : Hid (Calls Tryd.prog 20 #[.agg #[.int .i64 (j : Int), .slice xr pn cr]] wr fun e w' => e = .returned (.string rt) ∧ Below wr.heap.size wr w') := by
          obtain ⟨x', c', hv, hcc, hst, _⟩ := own_parts RW.out.own
          have e1 : xr = x' := by simp at hv; exact hv.1
          have e2 : cr = c' := by simp at hv; exact hv.2.2
          subst e1
          subst e2
          have := Tr.root_impl j (peaks l) xr cr wr.heap.size wr (by rw [← HPN.out]; omega) hcc hst (Nat.le_refl _) (HV.out.below GW.out h2)
          rw [HRE2.out, ← HPN.out] at this
          exact this
        go_wp2_with fail
        refine HRR.out.mono ?_
        rintro e w7 ⟨rfl, hb7⟩
        have GT := hideD (below2 GW.out hb7)
        clear hb7 c10 c11 z10 z11 HRR
        go_wp2_with fail
        refine (drawIncl_any a1 len1 cap1 _ hl1 ((Dr.Row.below R1.out GT.out).mono GT.out.size)).mono ?_
        rintro e w8 ⟨leaf8, i8, n8, x8, d8, q8, root8, rfl, hn8, hp8, hq8, hd8, hb8⟩
        have P8 := hideD hp8
        have B8 := hideD (below2 GT.out hb8)
        clear hp8 hb8
        have HCI := hideD (fun (W : World) (hW : Below w8.heap.size w8 W) hV => Tr.incl_impl leaf8 root8 i8 n8 q8 x8 d8 w8.heap.size W hn8 (by omega) hd8 (P8.out.below hW) hW.size hV)
        have HCS := hideD (fun (W : World) (hW : Below w8.heap.size w8 W) => Tr.incl_spec leaf8 root8 i8 n8 q8 x8 d8 w8.heap.size W hn8 (by omega) (P8.out.below hW) hW.size)
        generalize Tr.inclB leaf8 i8 n8 q8 root8 = cb at HCI HCS
        generalize q8.length = qn at hq8 hd8 HCI HCS ⊢
        clear P8
        go_wp2_with fail
        refine (drawRAdd_any a1 len1 cap1 _ hl1 ((Dr.Row.below R1.out B8.out).mono B8.out.size)).mono ?_
        rintro e w9 ⟨n9, x9, c9, p9, t9, rfl, hp9, hx9, hl9, hc9, ht9, hb9⟩
        have P9 := hideD hp9
        have B9 := hideD hb9
        have hx9' := hideD hx9
        have HAI := hideD (fun (W : World) (hW : Below w9.heap.size w9 W) hV => Tr.add_impl n9 p9 t9 x9 c9 w9.heap.size W (by omega) (by unfold maxLen; omega) (P9.out.below hW) hx9'.out hW.size hV)
        have HAS := hideD (fun (W : World) (hW : Below w9.heap.size w9 W) => Tr.add_spec n9 p9 t9 x9 c9 w9.heap.size W (by omega) (by unfold maxLen; omega) (P9.out.below hW) hx9'.out hW.size)
        have HRL := hideD (Tr.addR_length n9 p9 t9)
        clear hp9 hb9 hx9 hx9' P9
        generalize Tr.addN n9 p9 t9 = sn at HAI HAS
        generalize Tr.addR n9 p9 t9 = sr at HAI HAS HRL
        generalize p9.length = pn9 at hl9 hc9 HAI HAS HRL ⊢
        have V16 := hideD (Tr.new1 w9 #[.int .i64 n9, .slice x9 pn9 c9] 34)
        have B9a := hideD (show Below w9.heap.size w9 (w9.alloc (.cells #[.int .i64 n9, .slice x9 pn9 c9] 34)) from (Below.refl _ _).alloc (Nat.le_refl _) _)
        go_wp2_with fail
        refine (HAI.out _ B9a.out (HV.out.below (below2 (below2 B8.out B9.out) B9a.out) h2)).mono ?_
        rintro e w10 ⟨v10, rfl, ho10, hb10⟩
        obtain ⟨y10, d10, rfl, _⟩ := own_parts ho10
        have O10 := hideD ho10
        have V16b := hideD (Tr.var_at V16.out hb10)
        have B10 := hideD (below2 B9a.out hb10)
        obtain ⟨srn, hsrn⟩ : ∃ srn, srn = sr.length := ⟨_, rfl⟩
        have HSN := hideD hsrn
        rw [← hsrn] at O10 HRL ⊢
        clear ho10 hb10 hsrn
        have V18 := hideD (Tr.new1 w10 #[.int .i64 sn, .slice y10 srn d10] 34)
        have A10 := hideD (show Below w10.heap.size w10 (w10.alloc (.cells #[.int .i64 sn, .slice y10 srn d10] 34)) from (Below.refl _ _).alloc (Nat.le_refl _) _)
        have V16c := hideD (Tr.var_at V16b.out A10.out)
        have B10a := hideD (below2 B10.out A10.out)
        have O10a := hideD (O10.out.below A10.out)
        obtain ⟨c160, c161⟩ := Tr.var_cells V16c.out
        go_wp2_with fail
        refine (HAS.out _ B10a.out).mono ?_
        rintro e w11 ⟨v11, rfl, ho11, hb11⟩
        obtain ⟨y11, d11, rfl, _⟩ := own_parts ho11
        have O11 := hideD ho11
        have O10b := hideD (O10a.out.below hb11)
        have V18b := hideD (Tr.var_at V18.out hb11)
        have B11 := hideD (below2 B10a.out hb11)
        rw [← HSN.out] at O11 ⊢
        clear ho11 hb11 c160 c161 V16 V16b V16c B10 O10 O10a
        have V19 := hideD (Tr.new1 w11 #[.int .i64 sn, .slice y11 srn d11] 34)
        have A11 := hideD (show Below w11.heap.size w11 (w11.alloc (.cells #[.int .i64 sn, .slice y11 srn d11] 34)) from (Below.refl _ _).alloc (Nat.le_refl _) _)
        have V18c := hideD (Tr.var_at V18b.out A11.out)
        have O10c := hideD (O10b.out.below A11.out)
        have O11c := hideD (O11.out.below A11.out)
        have B11a := hideD (below2 B11.out A11.out)
        have G11 := hideD (below2 (below2 B8.out B9.out) B11a.out)
        go_wp2_with fail
        refine (drawNode_any a1 len1 cap1 _ hl1 ((Dr.Row.below R1.out G11.out).mono G11.out.size)).mono ?_
        rintro e w12 ⟨xa, ya, rfl, hb12⟩
        have B12 := hideD (below2 B9.out (below2 B11a.out hb12))
        have V18d := hideD (Tr.var_at V18c.out hb12)
        have V19d := hideD (Tr.var_at V19.out hb12)
        have O10d := hideD (O10c.out.below hb12)
        have O11d := hideD (O11c.out.below hb12)
        clear hb12 V18 V18b V18c V19 O10b O10c O11 O11c B11 B11a G11 A10 A11 B10a B9a
        go_wp2_with fail
        refine (HCI.out _ B12.out (HV.out.below (below2 B8.out B12.out) h2)).mono ?_
        rintro e w13 ⟨rfl, hb13⟩
        have B13 := hideD (below2 B12.out hb13)
        have V18e := hideD (Tr.var_at V18d.out hb13)
        have V19e := hideD (Tr.var_at V19d.out hb13)
        have O10e := hideD (O10d.out.below hb13)
        have O11e := hideD (O11d.out.below hb13)
        clear hb13
        go_wp2_with fail
        refine (HCS.out _ B13.out).mono ?_
        rintro e w14 ⟨rfl, hb14⟩
        have B14 := hideD (below2 B13.out hb14)
        have V18f := hideD (Tr.var_at V18e.out hb14)
        have V19f := hideD (Tr.var_at V19e.out hb14)
        have O10f := hideD (O10e.out.below hb14)
        have O11f := hideD (O11e.out.below hb14)
        clear hb14 V18d V18e V19d V19e O10d O10e O11d O11e
        obtain ⟨c180, c181⟩ := Tr.var_cells V18f.out
        obtain ⟨c190, c191⟩ := Tr.var_cells V19f.out
        have HT := hideD (HTX.out w14 _ _ sr _ _ O10f.out O11f.out (by have := HRL.out; rw [← HSN.out]; omega))
        have GB := hideD (below2 B8.out B14.out)
        cases cb
        all_goals
          go_wp2_with fail
          refine HT.out.mono ?_
          rintro e w15 ⟨rfl, hb15⟩
          have B15 := hideD (below2 GB.out hb15)
          clear hb15
          go_wp2_with fail
          refine (Sh.node_impl xa ya w15 (HV.out.below B15.out h2)).mono ?_
          rintro e w16 ⟨rfl, hb16⟩
          have B16 := hideD (below2 B15.out hb16)
          clear hb16
          go_wp2_with fail
          refine (Sh.node_spec xa ya w16).mono ?_
          generalize Sh.nodeR xa ya = nr
          rintro e w17 ⟨rfl, hb17⟩
          have B17 := hideD (below2 B16.out hb17)
          clear hb17
          go_wp2_with fail
          go_ret
          exact ⟨rfl, B17.out⟩

theorem walk (a0 : Option Addr) (len0 cap0 : Nat) (z0 : List Int) {w : World} (w0 : IsRow .u8 w a0 len0 cap0 z0) (a1 : Option Addr) (len1 cap1 : Nat) (z1 : List Int) (w1 : IsRow .u8 w a1 len1 cap1 z1) (hV : Vars w) :
    Calls Tryd.prog 4 #[.slice a0 len0 cap0, .slice a1 len1 cap1] w fun e w' => e = .returned (.bool true) ∧ Below w.heap.size w w' := by
  by_cases h0 : len0 ≤ 1048576
  · by_cases h1 : len1 ≤ 1048576
    · exact walk_in w a0 len0 cap0 a1 len1 cap1 (row_of w0) (row_of w1) h0 h1 hV
    · clear w0 w1 hV
      have g0 : (len0 : Int) ≤ 1048576 := by omega
      have g1 : (1048576 : Int) < len1 := by omega
      go_enter Tryd.func4, Tryd.ntmps4
      go_wp2
      go_ret
      exact ⟨rfl, Below.refl _ _⟩
  · clear w0 w1 hV
    have g0 : (1048576 : Int) < len0 := by omega
    go_enter Tryd.func4, Tryd.ntmps4
    go_wp2
    go_ret
    exact ⟨rfl, Below.refl _ _⟩
end Go.Proofs.YtghghkfhcpldhaaDoor.fnTree
