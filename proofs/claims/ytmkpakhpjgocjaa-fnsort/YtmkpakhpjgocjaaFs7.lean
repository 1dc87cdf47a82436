/- Texts put together: BwtBack, BwtBack2. -/
import Derived.Test.YtmkpakhpjgocjaaFs6
/- Plain mathematics: the way back from the last bytes of sorted turns leads to the text. -/
namespace Go.Proofs.Ytmkpakhpjgocjaa.So
open Go.RowKit
open Go.Proofs.Ytmkpakhpjgocjaa.Sh (bt bt_get bt_lt strF strF_size bt_strF)

/-- there is an order of the turns -/
theorem put_at (cl : Nat → Nat → Bool) (l : List Nat) (k : Nat) : ∀ p, p ≤ l.length → (∀ j (h : j < l.length), p ≤ j → cl k l[j] = true) →
    ∃ p', p' ≤ l.length ∧ (∀ j (h : j < l.length), p' ≤ j → cl k l[j] = true) ∧ (p' = 0 ∨ ∃ h : p' - 1 < l.length, cl k l[p' - 1] = false) := by
  intro p
  induction p with
  | zero => intro hp h; exact ⟨0, hp, h, .inl rfl⟩
  | succ p ih =>
    intro hp h
    cases e : cl k l[p] with
    | false => exact ⟨p + 1, hp, h, .inr ⟨by simp; omega, e⟩⟩
    | true =>
      refine ih (by omega) fun j hj hpj => ?_
      rcases Nat.eq_or_lt_of_le hpj with e2 | e2
      · subst e2; exact e
      · exact h j hj e2
theorem ord_ex (t : ByteArray) : OrdOk t (ord t) := by
  have : ∀ k, ∃ l : List Nat, l.Perm (List.range k) ∧ l.Pairwise (lx (clT (turnV t))) := by
    intro k
    induction k with
    | zero => exact ⟨[], by simp, List.Pairwise.nil⟩
    | succ k ih =>
      obtain ⟨l, hp, hs⟩ := ih
      obtain ⟨p, h1, h2, h3⟩ := put_at (clT (turnV t)) l k l.length (Nat.le_refl _) (fun j hj h => absurd hj (by omega))
      exact ⟨_, ord_put (clT_weak _) hp hs h1 h2 h3⟩
  obtain ⟨l, hl⟩ := this t.size
  have hok : OrdOk t l := hl
  rw [ord_of hok]
  exact hok

/-- a turn as a list -/
def rl (l : List UInt8) (x : Nat) : List UInt8 := l.drop x ++ l.take x
theorem rl_len (l : List UInt8) (x : Nat) : (rl l x).length = l.length := by
  unfold rl
  rw [List.length_append, List.length_drop, List.length_take]
  omega
theorem rl_get (l : List UInt8) (x i : Nat) (hx : x < l.length) (hi : i < l.length) : (rl l x)[i]'(by rw [rl_len]; exact hi) = l[(x + i) % l.length]'(Nat.mod_lt _ (by omega)) := by
  unfold rl
  by_cases h : x + i < l.length
  · rw [List.getElem_append_left (by rw [List.length_drop]; omega), List.getElem_drop]
    congr 1
    rw [Nat.mod_eq_of_lt h]
  · rw [List.getElem_append_right (by rw [List.length_drop]; omega), List.getElem_take]
    congr 1
    rw [List.length_drop, show x + i = (x + i - l.length) + l.length by omega, Nat.add_mod_right, Nat.mod_eq_of_lt (by omega)]
    omega
theorem rl_inj {l : List UInt8} {x y : Nat} (hx : x < l.length) (hy : y < l.length) (h : rl l x = rl l y) (i : Nat) (hi : i < l.length) : l[(x + i) % l.length]'(Nat.mod_lt _ (by omega)) = l[(y + i) % l.length]'(Nat.mod_lt _ (by omega)) := by
  rw [← rl_get l x i hx hi, ← rl_get l y i hy hi]
  congr 1
/-- the place one before -/
def prv (n x : Nat) : Nat := (x + n - 1) % n
theorem prv_lt {n x : Nat} (h : 0 < n) : prv n x < n := Nat.mod_lt _ h
theorem prv_zero {n : Nat} (h : 0 < n) : prv n 0 = n - 1 := by unfold prv; rw [Nat.zero_add, Nat.mod_eq_of_lt (by omega)]
theorem prv_succ {n x : Nat} (h : x + 1 < n + 1) : prv n (x + 1) = x % n := by unfold prv; rw [show x + 1 + n - 1 = x + n by omega, Nat.add_mod_right]
theorem prv_next {n x : Nat} (hx : x < n) : (prv n x + 1) % n = x := by
  cases x with
  | zero => rw [prv_zero (by omega), show n - 1 + 1 = n by omega, Nat.mod_self]
  | succ x => rw [prv_succ (by omega), Nat.mod_eq_of_lt (show x < n by omega), Nat.mod_eq_of_lt hx]
/-- a turn begun one earlier: its last byte ahead -/
theorem rl_prv (l : List UInt8) (x : Nat) (hx : x < l.length) : rl l (prv l.length x) = l[prv l.length x]'(prv_lt (by omega)) :: (rl l x).dropLast := by
  apply List.ext_getElem
  · rw [rl_len, List.length_cons, List.length_dropLast, rl_len]; omega
  · intro i h1 h2
    rw [rl_len] at h1
    rw [rl_get l _ i (prv_lt (by omega)) h1]
    cases i with
    | zero =>
      simp only [List.getElem_cons_zero, Nat.add_zero]
      congr 1
      exact Nat.mod_eq_of_lt (prv_lt (by omega))
    | succ i =>
      rw [List.getElem_cons_succ, List.getElem_dropLast, rl_get l x i hx (by omega)]
      congr 1
      have := prv_next hx
      rw [show prv l.length x + (i + 1) = (prv l.length x + 1) + i by omega, Nat.add_mod, this, Nat.mod_eq_of_lt (show i < l.length by omega)]
theorem lt_snoc : ∀ (a b : List UInt8) (x y : UInt8), a.length = b.length → a < b → a ++ [x] < b ++ [y]
  | [], [], _, _, _, h => absurd h (List.lt_irrefl _)
  | [], _ :: _, _, _, h, _ => by simp at h
  | _ :: _, [], _, _, h, _ => by simp at h
  | u :: a, v :: b, x, y, hl, h => by
    rw [List.cons_lt_cons_iff] at h
    rw [List.cons_append, List.cons_append, List.cons_lt_cons_iff]
    rcases h with h | ⟨h1, h2⟩
    · exact .inl h
    · exact .inr ⟨h1, lt_snoc a b x y (by simpa using hl) h2⟩
theorem dropLast_le {a b : List UInt8} (hl : a.length = b.length) (h : ¬ b < a) : ¬ b.dropLast < a.dropLast := by
  intro h2
  by_cases e : a = []
  · subst e
    simp at h2
  · have e2 : b ≠ [] := by
      intro eb
      subst eb
      simp at hl
      exact e hl
    apply h
    rw [← List.dropLast_concat_getLast e, ← List.dropLast_concat_getLast e2]
    exact lt_snoc _ _ _ _ (by simp; omega) h2
end Go.Proofs.Ytmkpakhpjgocjaa.So

/- Plain mathematics: there and back, the text itself. -/
namespace Go.Proofs.Ytmkpakhpjgocjaa.So
open Go.RowKit
open Go.Proofs.Ytmkpakhpjgocjaa.Sh (bt bt_get bt_lt strF strF_size bt_strF strF_congr)

/-- the byte at a place, round and round -/
def ch (t : ByteArray) (y : Nat) : Nat := bt t (y % t.size)
theorem bt_list (t : ByteArray) (j : Nat) (h : j < t.data.toList.length) : bt t j = (t.data.toList[j]).toNat := by
  unfold bt
  rw [List.getD_eq_getElem?_getD, List.getElem?_eq_getElem h]
  rfl
theorem size_list (t : ByteArray) : t.data.toList.length = t.size := by simp
theorem ch_of {t : ByteArray} {x y : Nat} (hx : x < t.size) (hy : y < t.size) (h : rl t.data.toList x = rl t.data.toList y) (i : Nat) : ch t (x + i) = ch t (y + i) := by
  have e : ∀ z, ch t (z + i) = ch t (z + i % t.size) := fun z => by
    unfold ch
    rw [Nat.add_mod_mod]
  have hl := size_list t
  rw [e x, e y]
  have hi : i % t.size < t.size := Nat.mod_lt _ (by omega)
  unfold ch
  rw [bt_list t _ (by rw [hl]; exact Nat.mod_lt _ (by omega)), bt_list t _ (by rw [hl]; exact Nat.mod_lt _ (by omega))]
  have := rl_inj (by rw [hl]; exact hx) (by rw [hl]; exact hy) h (i % t.size) (by rw [hl]; exact hi)
  simp only [hl] at this
  rw [this]
theorem ch_prv (t : ByteArray) (x i : Nat) (hx : x < t.size) : ch t (prv t.size x + (i + 1)) = ch t (x + i) := by
  unfold ch
  rw [show prv t.size x + (i + 1) = (prv t.size x + 1) + i by omega, Nat.add_mod, prv_next hx, Nat.add_mod x i, Nat.mod_eq_of_lt hx]
theorem clT_list (t : ByteArray) (x y : Nat) : clT (turnV t) x y = decide (rl t.data.toList x < rl t.data.toList y) := by
  unfold clT
  rw [bless_eq, ByteArray.toList_eq, ByteArray.toList_eq, turnV_list, turnV_list]
  rfl
theorem atK_hit (f : Nat → Nat) : ∀ n, (∃ k, k < n ∧ f k = 0) → atK f n < n ∧ f (atK f n) = 0 := by
  intro n
  induction n with
  | zero => rintro ⟨k, h, _⟩; omega
  | succ n ih =>
    rintro ⟨k, h1, h2⟩
    by_cases h0 : f n = 0
    · rw [atK, if_pos h0]
      exact ⟨by omega, h0⟩
    · rw [atK, if_neg h0]
      have hk : k < n := by
        rcases Nat.lt_or_ge k n with h | h
        · exact h
        · have : k = n := by omega
          subst this
          exact absurd h2 h0
      have := ih ⟨k, hk, h2⟩
      exact ⟨by omega, this.2⟩
theorem ord_len (t : ByteArray) : (ord t).length = t.size := by
  have := (ord_ex t).1.length_eq
  simpa using this
theorem ord_map (t : ByteArray) : (List.range t.size).map (ordF t) = ord t := by
  apply List.ext_getElem
  · simp [ord_len]
  · intro i h1 h2
    rw [List.getElem_map, List.getElem_range, ordF_list (ord_ex t) i h2]
theorem ordF_lt (t : ByteArray) (j : Nat) (hj : j < t.size) : ordF t j < t.size := by
  have hl : j < (ord t).length := by rw [ord_len]; exact hj
  rw [ordF_list (ord_ex t) j hl]
  have := (ord_ex t).1.mem_iff.1 (List.getElem_mem hl)
  simpa using this
theorem prv_perm (n : Nat) : ((List.range n).map (prv n)).Perm (List.range n) := by
  refine (List.perm_ext_iff_of_nodup ?_ List.nodup_range).2 fun y => ?_
  · unfold List.Nodup
    rw [List.pairwise_map]
    refine List.nodup_range.imp_of_mem fun {x y} hx hy hne e => hne ?_
    have h1 := prv_next (List.mem_range.1 hx)
    have h2 := prv_next (List.mem_range.1 hy)
    rw [e] at h1
    omega
  · rw [List.mem_map, List.mem_range]
    constructor
    · rintro ⟨x, hx, rfl⟩
      exact prv_lt (by have := List.mem_range.1 hx; omega)
    · intro hy
      by_cases h : y + 1 < n
      · exact ⟨y + 1, List.mem_range.2 h, by rw [prv_succ (by omega), Nat.mod_eq_of_lt hy]⟩
      · exact ⟨0, List.mem_range.2 (by omega), by rw [prv_zero (by omega)]; omega⟩
theorem bwtT_size {t : ByteArray} (ht : t.size ≤ 48) : (bwtT t).size = t.size := by
  unfold bwtT
  rw [if_pos ht, strF_size]
theorem bwtT_bt {t : ByteArray} (ht : t.size ≤ 48) (j : Nat) (hj : j < t.size) : bt (bwtT t) j = bt t (prv t.size (ordF t j)) := by
  unfold bwtT
  rw [if_pos ht, bt_strF t.size (fun j => lastB t (ordF t j)) j hj (bt_lt _ _)]
  rfl
theorem lt_not {a b : List UInt8} (h : a < b) : ¬ b < a := fun h2 => List.lt_irrefl _ (List.lt_trans h h2)
theorem ord_le {t : ByteArray} {j j' : Nat} (h : j < j') (hj : j' < t.size) : ¬ rl t.data.toList (ordF t j') < rl t.data.toList (ordF t j) := by
  have h1 : j < (ord t).length := by rw [ord_len]; omega
  have h2 : j' < (ord t).length := by rw [ord_len]; omega
  have := List.pairwise_iff_getElem.1 (ord_ex t).2 j j' h1 h2 h
  rw [← ordF_list (ord_ex t) j h1, ← ordF_list (ord_ex t) j' h2] at this
  rcases this with e | ⟨e, _⟩
  · rw [clT_list] at e
    exact lt_not (of_decide_eq_true e)
  · rw [clT_list] at e
    exact of_decide_eq_false e
/-- the turns begun one earlier, by their first byte, are the turns in order -/
theorem step {t : ByteArray} (ht : t.size ≤ 48) (j : Nat) (hj : j < t.size) : rl t.data.toList (prv t.size (ordF t (plF (bwtT t) j))) = rl t.data.toList (ordF t j) := by
  have hl := size_list t
  have hs := bwtT_size ht
  have hn : 0 < t.size := by omega
  have hb : ∀ x, x < t.size → ∀ (h : prv t.size (ordF t x) < t.data.toList.length), bt (bwtT t) x = (t.data.toList[prv t.size (ordF t x)]).toNat := fun x hx h => by
    rw [bwtT_bt ht x hx, bt_list t _ h]
  have hrp : ∀ x, x < t.size → rl t.data.toList (prv t.size (ordF t x)) = t.data.toList[prv t.size (ordF t x)]'(by rw [hl]; exact prv_lt hn) :: (rl t.data.toList (ordF t x)).dropLast := fun x hx => by
    have := rl_prv t.data.toList (ordF t x) (by rw [hl]; exact ordF_lt t x hx)
    simp only [hl] at this
    exact this
  have hA : ((pl (bwtT t)).map fun j => rl t.data.toList (prv t.size (ordF t j))).Pairwise (fun a b => ¬ b < a) := by
    rw [List.pairwise_map]
    refine (pl_ok (bwtT t)).2.imp_of_mem fun {x y} hx hy hxy => ?_
    have hx' : x < t.size := by
      have := (pl_ok (bwtT t)).1.mem_iff.1 hx
      rw [hs] at this
      simpa using this
    have hy' : y < t.size := by
      have := (pl_ok (bwtT t)).1.mem_iff.1 hy
      rw [hs] at this
      simpa using this
    rw [hrp x hx', hrp y hy']
    intro hlt
    rw [List.cons_lt_cons_iff] at hlt
    have bx := hb x hx' (by rw [hl]; exact prv_lt hn)
    have byy := hb y hy' (by rw [hl]; exact prv_lt hn)
    rcases hxy with e | ⟨e, hlt2⟩
    · have e2 : bt (bwtT t) x < bt (bwtT t) y := of_decide_eq_true e
      rw [bx, byy] at e2
      rcases hlt with h | ⟨h, _⟩
      · have : (t.data.toList[prv t.size (ordF t y)]'(by rw [hl]; exact prv_lt hn)).toNat < (t.data.toList[prv t.size (ordF t x)]'(by rw [hl]; exact prv_lt hn)).toNat := h
        omega
      · rw [h] at e2
        omega
    · have e2 : ¬ bt (bwtT t) y < bt (bwtT t) x := of_decide_eq_false e
      rw [bx, byy] at e2
      rcases hlt with h | ⟨_, h⟩
      · exact e2 h
      · exact dropLast_le (by rw [rl_len, rl_len]) (ord_le hlt2 hy') h
  have hB : ((ord t).map (rl t.data.toList)).Pairwise (fun a b => ¬ b < a) := by
    rw [List.pairwise_map]
    refine (ord_ex t).2.imp fun {x y} h => ?_
    rcases h with e | ⟨e, _⟩
    · rw [clT_list] at e
      exact lt_not (of_decide_eq_true e)
    · rw [clT_list] at e
      exact of_decide_eq_false e
  have hP : ((pl (bwtT t)).map fun j => rl t.data.toList (prv t.size (ordF t j))).Perm ((ord t).map (rl t.data.toList)) := by
    have h1 : ((pl (bwtT t)).map fun j => prv t.size (ordF t j)).Perm ((List.range t.size).map fun j => prv t.size (ordF t j)) := by
      have := (pl_ok (bwtT t)).1
      rw [hs] at this
      exact this.map _
    have h2 : ((List.range t.size).map fun j => prv t.size (ordF t j)) = (ord t).map (prv t.size) := by
      rw [← ord_map t, List.map_map]
      rfl
    rw [h2] at h1
    have h3 := (h1.trans ((ord_ex t).1.map (prv t.size))).trans ((prv_perm t.size).trans (ord_ex t).1.symm)
    have h4 := h3.map (rl t.data.toList)
    rw [List.map_map] at h4
    exact h4
  have hE : ((pl (bwtT t)).map fun j => rl t.data.toList (prv t.size (ordF t j))) = (ord t).map (rl t.data.toList) := by
    refine List.Perm.eq_of_pairwise ?_ hA hB hP
    intro a b _ _ h1 h2
    exact List.le_antisymm (show a ≤ b from h1) (show b ≤ a from h2)
  have hlp : j < (pl (bwtT t)).length := by rw [pl_len, hs]; exact hj
  have hlo : j < (ord t).length := by rw [ord_len]; exact hj
  have h5 : ((pl (bwtT t)).map fun j => rl t.data.toList (prv t.size (ordF t j)))[j]'(by simpa using hlp) = ((ord t).map (rl t.data.toList))[j]'(by simpa using hlo) := by
    simp only [hE]
  rw [List.getElem_map, List.getElem_map, plF_get _ j hlp, ← ordF_list (ord_ex t) j hlo] at h5
  exact h5
theorem strF_bt (t : ByteArray) : strF t.size (bt t) = t := by
  have : ((List.range t.size).map fun j => UInt8.ofNat (bt t j)) = t.data.toList := by
    apply List.ext_getElem
    · simp
    · intro i h1 h2
      rw [List.getElem_map, List.getElem_range, bt_list t i h2]
      simp
  unfold strF
  rw [this]
/-- there and back -/
theorem back_bwt {t : ByteArray} (ht : t.size ≤ 48) : backT (bwtT t) (bwtA t) = t := by
  have hs := bwtT_size ht
  unfold backT
  rw [hs]
  refine Eq.trans (strF_congr _ _ _ fun k hk => ?_) (strF_bt t)
  have hn : 0 < t.size := by omega
  have hat : bwtA t < t.size ∧ ordF t (bwtA t) = 0 := by
    unfold bwtA
    rw [if_pos ht]
    apply atK_hit
    have h0 : 0 ∈ ord t := (ord_ex t).1.mem_iff.2 (List.mem_range.2 hn)
    obtain ⟨i, hi, e⟩ := List.getElem_of_mem h0
    exact ⟨i, by rw [← ord_len]; exact hi, by rw [ordF_list (ord_ex t) i hi]; exact e⟩
  have hlt : ∀ k, itR (bwtT t) (bwtA t) k < t.size := fun k => by
    have := itR_lt (bwtT t) (bwtA t) k (by rw [hs]; exact hat.1)
    rw [hs] at this
    exact this
  have hst : ∀ j, j < t.size → ∀ i, ch t (prv t.size (ordF t (plF (bwtT t) j)) + i) = ch t (ordF t j + i) := fun j hj i => by
    have hq : plF (bwtT t) j < t.size := by
      have := plF_lt (bwtT t) j (by rw [hs]; exact hj)
      rw [hs] at this
      exact this
    exact ch_of (prv_lt hn) (ordF_lt t j hj) (step ht j hj) i
  have inv : ∀ k, ∀ i, ch t (ordF t (itR (bwtT t) (bwtA t) k) + i) = ch t (k + i) := by
    intro k
    induction k with
    | zero =>
      intro i
      show ch t (ordF t (bwtA t) + i) = _
      rw [hat.2]
    | succ k ih =>
      intro i
      have h1 := hst (itR (bwtT t) (bwtA t) k) (hlt k) (i + 1)
      rw [ch_prv t (ordF t (plF (bwtT t) (itR (bwtT t) (bwtA t) k))) i (ordF_lt t _ (hlt (k + 1))), ih (i + 1)] at h1
      rw [show k + 1 + i = k + (i + 1) by omega]
      exact h1
  rw [bwtT_bt ht _ (hlt (k + 1))]
  have h1 := hst (itR (bwtT t) (bwtA t) k) (hlt k) 0
  rw [inv k 0] at h1
  simp only [Nat.add_zero] at h1
  unfold ch at h1
  rw [Nat.mod_eq_of_lt hk, Nat.mod_eq_of_lt (prv_lt hn)] at h1
  exact h1
/-- so the way back of a block's sorted turns answers the block -/
theorem unR_bwt {t : ByteArray} (ht : t.size ≤ 48) : unR (bwtT t) ((bwtA t : Nat) : Int) = tOut t 0 0 := by
  have hb := back_bwt ht
  have hs := bwtT_size ht
  have ha : bwtA t ≤ t.size := by unfold bwtA; rw [if_pos ht]; exact atK_le _ _
  have hlt : bwtA t < (bwtT t).size ∨ bwtA t = 0 := by
    rw [hs]
    by_cases h0 : t.size = 0
    · right; omega
    · left
      unfold bwtA
      rw [if_pos ht]
      refine (atK_hit _ _ ?_).1
      have h0 : 0 ∈ ord t := (ord_ex t).1.mem_iff.2 (List.mem_range.2 (by omega))
      obtain ⟨i, hi, e⟩ := List.getElem_of_mem h0
      exact ⟨i, by rw [← ord_len]; exact hi, by rw [ordF_list (ord_ex t) i hi]; exact e⟩
  rw [unR_yes (by omega) hlt (by rw [hb]; exact ⟨rfl, rfl⟩), hb]
end Go.Proofs.Ytmkpakhpjgocjaa.So
