/- Plain mathematics of names: which texts are names, byte by byte. -/
namespace Go.Proofs.Ytkkoeaohmfdlgad.Nm

def letB (c : Int) : Bool := decide (97 ≤ c) && decide (c ≤ 122)
def digB (c : Int) : Bool := decide (48 ≤ c) && decide (c ≤ 57)
def byteAt (s : ByteArray) (i : Nat) : Int := ((s.data.toList.getD i 0).toNat : Int)
def okAt (s : ByteArray) (i : Nat) : Bool := letB (byteAt s i) || (decide (0 < i) && (digB (byteAt s i) || decide (byteAt s i = 95)))
def nameB (s : ByteArray) : Bool := decide (1 ≤ s.size) && (decide (s.size ≤ 20) && (List.range s.size).all (okAt s))

theorem byteAt_eq (s : ByteArray) (i : Nat) (h : i < s.size) : byteAt s i = (s[i].toNat : Int) := by
  have h' : i < s.data.toList.length := by simpa using h
  unfold byteAt
  rw [List.getD_eq_getElem?_getD, List.getElem?_eq_getElem h']
  rfl

theorem name_true (s : ByteArray) (h1 : 1 ≤ s.size) (h2 : s.size ≤ 20) (h : ∀ j, j < s.size → okAt s j = true) : nameB s = true := by
  simp only [nameB, h1, h2, decide_true, Bool.true_and, List.all_eq_true, List.mem_range]
  exact h

theorem name_short (s : ByteArray) (h1 : s.size < 1) : nameB s = false := by
  have : ¬ 1 ≤ s.size := by omega
  simp [nameB, this]

theorem name_long (s : ByteArray) (h1 : 20 < s.size) : nameB s = false := by
  have : ¬ s.size ≤ 20 := by omega
  simp [nameB, this]

theorem name_bad (s : ByteArray) (k : Nat) (hk : k < s.size) (h : okAt s k = false) : nameB s = false := by
  cases e : nameB s with
  | false => rfl
  | true =>
    simp only [nameB, Bool.and_eq_true, List.all_eq_true, List.mem_range] at e
    have := e.2.2 k hk
    rw [h] at this
    exact absurd this (by decide)

theorem ok_of (s : ByteArray) (k : Nat) (hlt : k < s.size)
    (h : ((97 : Int) ≤ s[k].toNat ∧ (s[k].toNat : Int) ≤ 122) ∨ (0 < k ∧ (((48 : Int) ≤ s[k].toNat ∧ (s[k].toNat : Int) ≤ 57) ∨ (s[k].toNat : Int) = 95))) : okAt s k = true := by
  unfold okAt letB digB
  rw [byteAt_eq s k hlt]
  simp only [Bool.or_eq_true, Bool.and_eq_true, decide_eq_true_eq]
  exact h

theorem no_of (s : ByteArray) (k : Nat) (hlt : k < s.size)
    (h : ¬ (((97 : Int) ≤ s[k].toNat ∧ (s[k].toNat : Int) ≤ 122) ∨ (0 < k ∧ (((48 : Int) ≤ s[k].toNat ∧ (s[k].toNat : Int) ≤ 57) ∨ (s[k].toNat : Int) = 95)))) : nameB s = false := by
  refine name_bad s k hlt ?_
  cases e : okAt s k with
  | false => rfl
  | true =>
    exfalso
    apply h
    unfold okAt letB digB at e
    rw [byteAt_eq s k hlt] at e
    simp only [Bool.or_eq_true, Bool.and_eq_true, decide_eq_true_eq] at e
    exact e

theorem ok_more (s : ByteArray) (k : Nat) (hall : ∀ j, j < k → okAt s j = true) (h : okAt s k = true) : ∀ j, j < k + 1 → okAt s j = true := by
  intro j hj
  by_cases e : j = k
  · rw [e]; exact h
  · exact hall j (by omega)
end Go.Proofs.Ytkkoeaohmfdlgad.Nm
