/- Plain mathematics of the order of a block's turns. -/
import Derived.Test.YtdnmbagdegbnfaaSoIter
import Derived.Test.YtdnmbagdegbnfaaSoCmpT
namespace Go.Proofs.Ytdnmbagdegbnfaa.So
open Go.RowKit

/-- all places, by their turns, and of the same turn by rising place -/
def OrdOk (t : ByteArray) (l : List Nat) : Prop := l.Perm (List.range t.size) ∧ l.Pairwise (lx (clT (turnV t)))
theorem ord_unique {t : ByteArray} {l l' : List Nat} (h : OrdOk t l) (h' : OrdOk t l') : l = l' :=
  List.Perm.eq_of_pairwise (fun _ _ _ _ h1 h2 => (lx_asymm (clT_weak _) h1 h2).elim) h.2 h'.2 (h.1.trans h'.1.symm)
open Classical in
noncomputable def ord (t : ByteArray) : List Nat := if h : ∃ l, OrdOk t l then Classical.choose h else []
theorem ord_of {t : ByteArray} {l : List Nat} (h : OrdOk t l) : ord t = l := by
  have hex : ∃ l, OrdOk t l := ⟨l, h⟩
  unfold ord
  rw [dif_pos hex]
  exact ord_unique (Classical.choose_spec hex) h
/-- numbers of places -/
def ints (l : List Nat) : List Int := l.map fun x => ((x : Nat) : Int)
theorem ints_len (l : List Nat) : (ints l).length = l.length := by simp [ints]
theorem ints_snoc (l : List Nat) (x : Nat) : ints (l ++ [x]) = ints l ++ [(x : Int)] := by simp [ints]
noncomputable def ordR (t : ByteArray) : List Int := if t.size ≤ 48 then ints (ord t) else []
theorem ordR_yes {t : ByteArray} {l : List Nat} (ht : t.size ≤ 48) (h : OrdOk t l) : ordR t = ints l := by
  unfold ordR
  rw [if_pos ht, ord_of h]
theorem ordR_len (t : ByteArray) : (ordR t).length ≤ 48 := by
  unfold ordR
  split
  · rename_i ht
    rw [ints_len]
    unfold ord
    split
    · rename_i h
      have := (Classical.choose_spec h).1.length_eq
      rw [this]
      simpa using ht
    · simp
  · simp
theorem ordR_no {t : ByteArray} (ht : 48 < t.size) : ordR t = [] := if_neg (by omega)

theorem seg_len (f : Nat → Nat) (a b : Nat) : (seg f a b).length = b - a := by simp [seg]
theorem seg_snoc (f : Nat → Nat) (k : Nat) : seg f 0 (k + 1) = seg f 0 k ++ [f k] := by
  rw [seg_split f (Nat.zero_le k) (Nat.le_succ k)]
  congr 1
  unfold seg
  rw [show k + 1 - k = 1 by omega]
  simp
theorem seg_pairwise {cl : Nat → Nat → Bool} {f : Nat → Nat} {n : Nat} (h : Ris cl 0 n f) : (seg f 0 n).Pairwise (lx cl) := by
  rw [List.pairwise_iff_getElem]
  intro i j hi hj hij
  rw [seg_len] at hi hj
  have e : ∀ k (hk : k < (seg f 0 n).length), (seg f 0 n)[k] = f k := fun k hk => by simp [seg]
  rw [e, e]
  exact h i j (Nat.zero_le _) hij (by omega)
theorem ord_seg {t : ByteArray} {f : Nat → Nat} (hp : (seg f 0 t.size).Perm (List.range t.size)) (hr : Ris (clT (turnV t)) 0 t.size f) : OrdOk t (seg f 0 t.size) := ⟨hp, seg_pairwise hr⟩

/-- one place more, set down where it belongs -/
theorem ord_put {cl : Nat → Nat → Bool} (hw : Weak cl) {l : List Nat} {k p : Nat} (hp : l.Perm (List.range k)) (hs : l.Pairwise (lx cl)) (hl : p ≤ l.length) (hhi : ∀ j (h : j < l.length), p ≤ j → cl k l[j] = true) (hlo : p = 0 ∨ ∃ h : p - 1 < l.length, cl k l[p - 1] = false) :
    (l.take p ++ [k] ++ l.drop p).Perm (List.range (k + 1)) ∧ (l.take p ++ [k] ++ l.drop p).Pairwise (lx cl) := by
  refine ⟨?_, ?_⟩
  · rw [List.range_succ]
    have h1 : (l.take p ++ [k] ++ l.drop p).Perm (l.take p ++ l.drop p ++ [k]) := by
      rw [List.append_assoc, List.append_assoc]
      exact List.Perm.append_left _ List.perm_append_comm
    rw [List.take_append_drop] at h1
    exact h1.trans (List.Perm.append_right _ hp)
  · have hlt : ∀ x ∈ l, x < k := fun x hx => by
      have := hp.mem_iff.1 hx
      simpa using this
    have hlow : ∀ x ∈ l.take p, lx cl x k := by
      intro x hx
      rcases hlo with h0 | ⟨h1, h2⟩
      · subst h0; simp at hx
      · obtain ⟨j, hj, rfl⟩ := List.getElem_of_mem hx
        have hj' : j < p := by simp at hj; omega
        rw [List.getElem_take]
        have hq : lx cl l[p - 1] k := lx_no h2 (hlt _ (List.getElem_mem _))
        rcases Nat.lt_or_ge j (p - 1) with e | e
        · exact lx_trans hw (List.pairwise_iff_getElem.1 hs j (p - 1) (by omega) h1 e) hq
        · have : j = p - 1 := by omega
          subst this
          exact hq
    have hhigh : ∀ x ∈ l.drop p, lx cl k x := by
      intro x hx
      obtain ⟨j, hj, rfl⟩ := List.getElem_of_mem hx
      rw [List.getElem_drop]
      simp at hj
      exact lx_yes (hhi (p + j) (by omega) (by omega))
    rw [List.append_assoc, List.pairwise_append]
    refine ⟨hs.sublist (List.take_sublist _ _), ?_, ?_⟩
    · rw [List.singleton_append, List.pairwise_cons]
      exact ⟨hhigh, hs.sublist (List.drop_sublist _ _)⟩
    · intro x hx y hy
      rw [List.singleton_append] at hy
      rcases List.mem_cons.1 hy with e | hy
      · rw [e]; exact hlow x hx
      · exact lx_trans hw (hlow x hx) (hhigh y hy)
end Go.Proofs.Ytdnmbagdegbnfaa.So
