/- Texts put together: SoCmpT, OrdPlain, BwtPlain. -/
import Derived.Test.YtmkpakhpjgocjaaGreatPz17
import Derived.Test.YtmkpakhpjgocjaaGreatPz7
/- How two turns are compared. -/
namespace Go.Proofs.YtmkpakhpjgocjaaGreat.So
open Go.RowKit Go.Sort Go.Proofs

theorem bless_eq : ∀ (x y : List UInt8), Op.bytesLess x y = decide (x < y)
  | [], [] => by simp [Op.bytesLess]
  | _ :: _, [] => by simp [Op.bytesLess]
  | [], _ :: _ => by simp [Op.bytesLess]
  | a :: x, b :: y => by
    rw [Op.bytesLess, bless_eq x y]
    simp only [List.cons_lt_cons_iff]
    by_cases h1 : a < b <;> by_cases h2 : a = b <;> simp [h1, h2]
/-- one turn's text is less than another's -/
def clT (T : Nat → ByteArray) (x y : Nat) : Bool := Op.bytesLess (T x).toList (T y).toList
theorem clT_weak (T : Nat → ByteArray) : Weak (clT T) where
  irrefl x := by simp [clT, bless_eq, List.lt_irrefl]
  trans x y z h1 h2 := by
    simp only [clT, bless_eq, decide_eq_true_eq] at *
    exact List.lt_trans h1 h2
  ntrans x y z h1 h2 := by
    simp only [clT, bless_eq, decide_eq_false_iff_not, List.not_lt] at *
    exact List.le_trans h2 h1
def cfT (T : Nat → ByteArray) (x y : Nat) : Int := if Op.bytesLess (T x).toList (T y).toList = true then -1 else if ((T x).toList == (T y).toList) = true then 0 else 1
theorem cfT_neg (T : Nat → ByteArray) (x y : Nat) : decide (cfT T x y < 0) = clT T x y := by
  unfold cfT clT
  cases Op.bytesLess (T x).toList (T y).toList with
  | true => rfl
  | false =>
    cases ((T x).toList == (T y).toList) <;> rfl

theorem nan_S (s : ByteArray) (w : World) : Calls Tryz.prog 101 #[.string s] w fun e w' => e = .returned (.bool false) ∧ w' = w := by
  go_enter Tryz.func101, Tryz.ntmps101
  go_wp2_with fail
  go_ret
  exact ⟨rfl, rfl⟩

set_option maxHeartbeats 1000000 in
theorem compare_S (s t : ByteArray) (w : World) : Calls Tryz.prog 90 #[.string s, .string t] w fun e w' => e = .returned (.int .i64 (if Op.bytesLess s.toList t.toList = true then -1 else if (s.toList == t.toList) = true then 0 else 1)) ∧ w' = w := by
  cases h1 : Op.bytesLess s.toList t.toList with
  | true =>
    rw [if_pos rfl]
    go_enter Tryz.func90, Tryz.ntmps90
    go_wp2_with fail
    refine (nan_S s w).mono ?_
    rintro e w' ⟨rfl, hw⟩
    subst w'
    go_wp2_with fail
    refine (nan_S t w).mono ?_
    rintro e w' ⟨rfl, hw⟩
    subst w'
    go_wp2_with fail
    go_ret
    exact ⟨rfl, rfl⟩
  | false =>
    rw [if_neg Bool.false_ne_true]
    cases h2 : (s.toList == t.toList) with
    | true =>
      rw [if_pos rfl]
      have h3 : (!(Op.bytesLess s.toList t.toList || s.toList == t.toList)) = false := by rw [h1, h2]; rfl
      go_enter Tryz.func90, Tryz.ntmps90
      go_wp2_with fail
      refine (nan_S s w).mono ?_
      rintro e w' ⟨rfl, hw⟩
      subst w'
      go_wp2_with fail
      refine (nan_S t w).mono ?_
      rintro e w' ⟨rfl, hw⟩
      subst w'
      go_wp2_with fail
      go_ret
      exact ⟨rfl, rfl⟩
    | false =>
      rw [if_neg Bool.false_ne_true]
      have h3 : (!(Op.bytesLess s.toList t.toList || s.toList == t.toList)) = true := by rw [h1, h2]; rfl
      go_enter Tryz.func90, Tryz.ntmps90
      go_wp2_with fail
      refine (nan_S s w).mono ?_
      rintro e w' ⟨rfl, hw⟩
      subst w'
      go_wp2_with fail
      refine (nan_S t w).mono ?_
      rintro e w' ⟨rfl, hw⟩
      subst w'
      go_wp2_with fail
      go_ret
      exact ⟨rfl, rfl⟩

theorem alloc2_grow (w : World) (o p : Obj) : (w.alloc o).alloc p = grow (w.drewN 0) #[o, p] := by
  have e : (w.heap.push o).push p = w.heap ++ #[o, p] := by
    apply Array.ext'
    simp
  unfold World.alloc grow World.drewN
  simp only
  rw [e]
  rfl

set_option maxHeartbeats 1000000 in
theorem cmp_T (T : Nat → ByteArray) (x y : Nat) (w : World) : Calls Tryz.prog 74 #[.agg (encT T x).toArray, .agg (encT T y).toArray] w fun e w' => e = .returned (.int .i64 (cfT T x y)) ∧ ∃ q os', w' = grow (w.drewN q) os' := by
  have HC := hideO (fun W => compare_S (T x) (T y) W)
  unfold cfT
  generalize (if Op.bytesLess (T x).toList (T y).toList = true then (-1 : Int) else if ((T x).toList == (T y).toList) = true then 0 else 1) = r at HC ⊢
  unfold encT
  go_enter Tryz.func74, Tryz.ntmps74
  go_wp2_with fail
  refine (HC.out _).mono ?_
  rintro e w' ⟨rfl, hw⟩
  subst w'
  go_wp2_with fail
  go_ret
  exact ⟨rfl, 0, _, alloc2_grow _ _ _⟩
end Go.Proofs.YtmkpakhpjgocjaaGreat.So

/- Plain mathematics of the order of a block's turns. -/
namespace Go.Proofs.YtmkpakhpjgocjaaGreat.So
open Go.RowKit

/-- all places, by their turns, and of the same turn by rising place -/
def OrdOk (t : ByteArray) (l : List Nat) : Prop := l.Perm (List.range t.size) ∧ l.Pairwise (lx (clT (turnV t)))
theorem ord_unique {t : ByteArray} {l l' : List Nat} (h : OrdOk t l) (h' : OrdOk t l') : l = l' :=
  List.Perm.eq_of_pairwise (fun _ _ _ _ h1 h2 => (lx_asymm (clT_weak _) h1 h2).elim) h.2 h'.2 (h.1.trans h'.1.symm)
open Classical in
noncomputable def ord (t : ByteArray) : List Nat := if h : ∃ l, OrdOk t l then Classical.choose h else []
theorem ord_of {t : ByteArray} {l : List Nat} (h : OrdOk t l) : ord t = l := by
  have hex : ∃ l, OrdOk t l := ⟨l, h⟩
  unfold ord
  rw [dif_pos hex]
  exact ord_unique (Classical.choose_spec hex) h
/-- numbers of places -/
def ints (l : List Nat) : List Int := l.map fun x => ((x : Nat) : Int)
theorem ints_len (l : List Nat) : (ints l).length = l.length := by simp [ints]
theorem ints_snoc (l : List Nat) (x : Nat) : ints (l ++ [x]) = ints l ++ [(x : Int)] := by simp [ints]
noncomputable def ordR (t : ByteArray) : List Int := if t.size ≤ 48 then ints (ord t) else []
theorem ordR_yes {t : ByteArray} {l : List Nat} (ht : t.size ≤ 48) (h : OrdOk t l) : ordR t = ints l := by
  unfold ordR
  rw [if_pos ht, ord_of h]
theorem ordR_len (t : ByteArray) : (ordR t).length ≤ 48 := by
  unfold ordR
  split
  · rename_i ht
    rw [ints_len]
    unfold ord
    split
    · rename_i h
      have := (Classical.choose_spec h).1.length_eq
      rw [this]
      simpa using ht
    · simp
  · simp
theorem ordR_no {t : ByteArray} (ht : 48 < t.size) : ordR t = [] := if_neg (by omega)

theorem seg_len (f : Nat → Nat) (a b : Nat) : (seg f a b).length = b - a := by simp [seg]
theorem seg_snoc (f : Nat → Nat) (k : Nat) : seg f 0 (k + 1) = seg f 0 k ++ [f k] := by
  rw [seg_split f (Nat.zero_le k) (Nat.le_succ k)]
  congr 1
  unfold seg
  rw [show k + 1 - k = 1 by omega]
  simp
theorem seg_pairwise {cl : Nat → Nat → Bool} {f : Nat → Nat} {n : Nat} (h : Ris cl 0 n f) : (seg f 0 n).Pairwise (lx cl) := by
  rw [List.pairwise_iff_getElem]
  intro i j hi hj hij
  rw [seg_len] at hi hj
  have e : ∀ k (hk : k < (seg f 0 n).length), (seg f 0 n)[k] = f k := fun k hk => by simp [seg]
  rw [e, e]
  exact h i j (Nat.zero_le _) hij (by omega)
theorem ord_seg {t : ByteArray} {f : Nat → Nat} (hp : (seg f 0 t.size).Perm (List.range t.size)) (hr : Ris (clT (turnV t)) 0 t.size f) : OrdOk t (seg f 0 t.size) := ⟨hp, seg_pairwise hr⟩

/-- one place more, set down where it belongs -/
theorem ord_put {cl : Nat → Nat → Bool} (hw : Weak cl) {l : List Nat} {k p : Nat} (hp : l.Perm (List.range k)) (hs : l.Pairwise (lx cl)) (hl : p ≤ l.length) (hhi : ∀ j (h : j < l.length), p ≤ j → cl k l[j] = true) (hlo : p = 0 ∨ ∃ h : p - 1 < l.length, cl k l[p - 1] = false) :
    (l.take p ++ [k] ++ l.drop p).Perm (List.range (k + 1)) ∧ (l.take p ++ [k] ++ l.drop p).Pairwise (lx cl) := by
  refine ⟨?_, ?_⟩
  · rw [List.range_succ]
    have h1 : (l.take p ++ [k] ++ l.drop p).Perm (l.take p ++ l.drop p ++ [k]) := by
      rw [List.append_assoc, List.append_assoc]
      exact List.Perm.append_left _ List.perm_append_comm
    rw [List.take_append_drop] at h1
    exact h1.trans (List.Perm.append_right _ hp)
  · have hlt : ∀ x ∈ l, x < k := fun x hx => by
      have := hp.mem_iff.1 hx
      simpa using this
    have hlow : ∀ x ∈ l.take p, lx cl x k := by
      intro x hx
      rcases hlo with h0 | ⟨h1, h2⟩
      · subst h0; simp at hx
      · obtain ⟨j, hj, rfl⟩ := List.getElem_of_mem hx
        have hj' : j < p := by simp at hj; omega
        rw [List.getElem_take]
        have hq : lx cl l[p - 1] k := lx_no h2 (hlt _ (List.getElem_mem _))
        rcases Nat.lt_or_ge j (p - 1) with e | e
        · exact lx_trans hw (List.pairwise_iff_getElem.1 hs j (p - 1) (by omega) h1 e) hq
        · have : j = p - 1 := by omega
          subst this
          exact hq
    have hhigh : ∀ x ∈ l.drop p, lx cl k x := by
      intro x hx
      obtain ⟨j, hj, rfl⟩ := List.getElem_of_mem hx
      rw [List.getElem_drop]
      simp at hj
      exact lx_yes (hhi (p + j) (by omega) (by omega))
    rw [List.append_assoc, List.pairwise_append]
    refine ⟨hs.sublist (List.take_sublist _ _), ?_, ?_⟩
    · rw [List.singleton_append, List.pairwise_cons]
      exact ⟨hhigh, hs.sublist (List.drop_sublist _ _)⟩
    · intro x hx y hy
      rw [List.singleton_append] at hy
      rcases List.mem_cons.1 hy with e | hy
      · rw [e]; exact hlow x hx
      · exact lx_trans hw (hlow x hx) (hhigh y hy)
end Go.Proofs.YtmkpakhpjgocjaaGreat.So

/- Plain mathematics of the last bytes of sorted turns. -/
namespace Go.Proofs.YtmkpakhpjgocjaaGreat.So
open Go.RowKit
open Go.Proofs.YtmkpakhpjgocjaaGreat.Sh (bt bt_get bt_lt strF strF_congr)

/-- the last byte of a turn -/
def lastB (t : ByteArray) (x : Nat) : Nat := bt t ((x + t.size - 1) % t.size)
theorem turnV_size (t : ByteArray) (x : Nat) (hx : x ≤ t.size) : (turnV t x).size = t.size := by
  unfold turnV
  rw [ByteArray.size_append, ByteArray.size_extract, ByteArray.size_extract]
  omega
theorem turnV_list (t : ByteArray) (x : Nat) : (turnV t x).data.toList = t.data.toList.drop x ++ t.data.toList.take x := by
  unfold turnV
  simp [ByteArray.data_append, ByteArray.data_extract]
  rw [List.take_of_length_le (by simp)]
theorem turnV_last (t : ByteArray) (x : Nat) (hx : x < t.size) : bt (turnV t x) (t.size - 1) = lastB t x := by
  unfold lastB bt
  rw [turnV_list]
  have hl : t.data.toList.length = t.size := by simp
  simp only [List.getD_eq_getElem?_getD]
  by_cases h0 : x = 0
  · subst h0
    rw [List.drop_zero, List.take_zero, List.append_nil, Nat.zero_add, Nat.mod_eq_of_lt (by omega)]
  · rw [List.getElem?_append_right (by rw [List.length_drop]; omega), List.length_drop, hl, List.getElem?_take_of_lt (by omega)]
    have e : (x + t.size - 1) % t.size = x - 1 := by
      rw [show x + t.size - 1 = (x - 1) + t.size by omega, Nat.add_mod_right, Nat.mod_eq_of_lt (by omega)]
    rw [e, show t.size - 1 - (t.size - x) = x - 1 by omega]
/-- where 0 was met last -/
def atK (f : Nat → Nat) : Nat → Nat
  | 0 => 0
  | k + 1 => if f k = 0 then k else atK f k
theorem atK_le (f : Nat → Nat) (k : Nat) : atK f k ≤ k := by
  induction k with
  | zero => exact Nat.le_refl _
  | succ k ih => unfold atK; split <;> omega
theorem atK_congr {f g : Nat → Nat} {n : Nat} (h : ∀ j, j < n → f j = g j) : ∀ k, k ≤ n → atK f k = atK g k := by
  intro k
  induction k with
  | zero => intro _; rfl
  | succ k ih => intro hk; unfold atK; rw [h k hk, ih (by omega)]
noncomputable def ordF (t : ByteArray) : Nat → Nat := fun j => (ord t).getD j 0
theorem ordF_seg {t : ByteArray} {f : Nat → Nat} (h : OrdOk t (seg f 0 t.size)) (j : Nat) (hj : j < t.size) : ordF t j = f j := by
  unfold ordF
  rw [ord_of h, List.getD_eq_getElem?_getD, List.getElem?_eq_getElem (by rw [seg_len]; omega)]
  simp [seg]
theorem ordF_list {t : ByteArray} {l : List Nat} (h : OrdOk t l) (j : Nat) (hj : j < l.length) : ordF t j = l[j] := by
  unfold ordF
  rw [ord_of h, List.getD_eq_getElem?_getD, List.getElem?_eq_getElem hj]
  rfl
noncomputable def bwtT (t : ByteArray) : ByteArray := if t.size ≤ 48 then strF t.size (fun j => lastB t (ordF t j)) else ⟨#[]⟩
noncomputable def bwtA (t : ByteArray) : Nat := if t.size ≤ 48 then atK (ordF t) t.size else 0
def bwtC (t : ByteArray) : Nat := if 8000 < t.size then 2 else if 48 < t.size then 1 else 0
theorem bwt_yes {t : ByteArray} {f : Nat → Nat} (ht : t.size ≤ 48) (h : ∀ j, j < t.size → ordF t j = f j) : bwtT t = strF t.size (fun j => lastB t (f j)) ∧ bwtA t = atK f t.size ∧ bwtC t = 0 := by
  unfold bwtT bwtA bwtC
  rw [if_pos ht, if_pos ht, if_neg (by omega), if_neg (by omega)]
  exact ⟨strF_congr _ _ _ fun j hj => by rw [h j hj], atK_congr h _ (Nat.le_refl _), rfl⟩
theorem bwt_no {t : ByteArray} (ht : 48 < t.size) : bwtT t = ⟨#[]⟩ ∧ bwtA t = 0 := by
  unfold bwtT bwtA
  rw [if_neg (by omega), if_neg (by omega)]
  exact ⟨rfl, rfl⟩
/-- the last bytes of the first turns -/
def fillL (t : ByteArray) (f : Nat → Nat) (k : Nat) : Nat → Nat := fun j => if j < k then lastB t (f j) else 0
theorem fillL_lt (t : ByteArray) (f : Nat → Nat) (k j : Nat) : fillL t f k j < 256 := by
  unfold fillL
  split
  · exact bt_lt _ _
  · omega
theorem fillL_next (t : ByteArray) (f : Nat → Nat) (k : Nat) (j : Nat) : Sh.upd (fun j => ((fillL t f k j : Nat) : Int)) k ((lastB t (f k) : Nat) : Int) j = ((fillL t f (k + 1) j : Nat) : Int) := by
  unfold Sh.upd fillL
  by_cases e : j = k
  · subst e
    rw [if_pos rfl, if_pos (by omega)]
  · rw [if_neg e]
    by_cases h : j < k
    · have h' : j < k + 1 := by omega
      simp only [h, h', if_true]
    · have h' : ¬ j < k + 1 := by omega
      simp only [h, h', if_false]
theorem fillL_all (t : ByteArray) (f : Nat → Nat) (n : Nat) : strF n (fillL t f n) = strF n (fun j => lastB t (f j)) := strF_congr _ _ _ fun j hj => by
  unfold fillL
  rw [if_pos hj]
end Go.Proofs.YtmkpakhpjgocjaaGreat.So
