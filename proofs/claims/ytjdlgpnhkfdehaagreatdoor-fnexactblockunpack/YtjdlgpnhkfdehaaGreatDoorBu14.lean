/- Texts put together: OrdPlain, BwtPlain, FrontPlain, ZeroBack. -/
import Derived.Test.YtjdlgpnhkfdehaaGreatDoorBu13
import Derived.Test.YtjdlgpnhkfdehaaGreatDoorBu6
import Derived.Test.YtjdlgpnhkfdehaaGreatDoorBu1
/- Plain mathematics of the order of a block's turns. -/
namespace Go.Proofs.YtjdlgpnhkfdehaaGreatDoor.So
open Go.RowKit
def OrdOk (t : ByteArray) (l : List Nat) : Prop := l.Perm (List.range t.size) ∧ l.Pairwise (lx (clT (turnV t)))
theorem ord_unique {t : ByteArray} {l l' : List Nat} (h : OrdOk t l) (h' : OrdOk t l') : l = l' :=
  List.Perm.eq_of_pairwise (fun _ _ _ _ h1 h2 => (lx_asymm (clT_weak _) h1 h2).elim) h.2 h'.2 (h.1.trans h'.1.symm)
open Classical in
noncomputable def ord (t : ByteArray) : List Nat := if h : ∃ l, OrdOk t l then Classical.choose h else []
theorem ord_of {t : ByteArray} {l : List Nat} (h : OrdOk t l) : ord t = l := by
  have hex : ∃ l, OrdOk t l := ⟨l, h⟩
  unfold ord
  rw [dif_pos hex]
  exact ord_unique (Classical.choose_spec hex) h
def ints (l : List Nat) : List Int := l.map fun x => ((x : Nat) : Int)
theorem ints_len (l : List Nat) : (ints l).length = l.length := by simp [ints]
theorem ints_snoc (l : List Nat) (x : Nat) : ints (l ++ [x]) = ints l ++ [(x : Int)] := by simp [ints]
noncomputable def ordR (t : ByteArray) : List Int := if t.size ≤ 48 then ints (ord t) else []
theorem seg_len (f : Nat → Nat) (a b : Nat) : (seg f a b).length = b - a := by simp [seg]
theorem seg_pairwise {cl : Nat → Nat → Bool} {f : Nat → Nat} {n : Nat} (h : Ris cl 0 n f) : (seg f 0 n).Pairwise (lx cl) := by
  rw [List.pairwise_iff_getElem]
  intro i j hi hj hij
  rw [seg_len] at hi hj
  have e : ∀ k (hk : k < (seg f 0 n).length), (seg f 0 n)[k] = f k := fun k hk => by simp [seg]
  rw [e, e]
  exact h i j (Nat.zero_le _) hij (by omega)
theorem ord_seg {t : ByteArray} {f : Nat → Nat} (hp : (seg f 0 t.size).Perm (List.range t.size)) (hr : Ris (clT (turnV t)) 0 t.size f) : OrdOk t (seg f 0 t.size) := ⟨hp, seg_pairwise hr⟩
theorem ord_put {cl : Nat → Nat → Bool} (hw : Weak cl) {l : List Nat} {k p : Nat} (hp : l.Perm (List.range k)) (hs : l.Pairwise (lx cl)) (hl : p ≤ l.length) (hhi : ∀ j (h : j < l.length), p ≤ j → cl k l[j] = true) (hlo : p = 0 ∨ ∃ h : p - 1 < l.length, cl k l[p - 1] = false) :
    (l.take p ++ [k] ++ l.drop p).Perm (List.range (k + 1)) ∧ (l.take p ++ [k] ++ l.drop p).Pairwise (lx cl) := by
  refine ⟨?_, ?_⟩
  · rw [List.range_succ]
    have h1 : (l.take p ++ [k] ++ l.drop p).Perm (l.take p ++ l.drop p ++ [k]) := by
      rw [List.append_assoc, List.append_assoc]
      exact List.Perm.append_left _ List.perm_append_comm
    rw [List.take_append_drop] at h1
    exact h1.trans (List.Perm.append_right _ hp)
  · have hlt : ∀ x ∈ l, x < k := fun x hx => by
      have := hp.mem_iff.1 hx
      simpa using this
    have hlow : ∀ x ∈ l.take p, lx cl x k := by
      intro x hx
      rcases hlo with h0 | ⟨h1, h2⟩
      · subst h0; simp at hx
      · obtain ⟨j, hj, rfl⟩ := List.getElem_of_mem hx
        have hj' : j < p := by simp at hj; omega
        rw [List.getElem_take]
        have hq : lx cl l[p - 1] k := lx_no h2 (hlt _ (List.getElem_mem _))
        rcases Nat.lt_or_ge j (p - 1) with e | e
        · exact lx_trans hw (List.pairwise_iff_getElem.1 hs j (p - 1) (by omega) h1 e) hq
        · have : j = p - 1 := by omega
          subst this
          exact hq
    have hhigh : ∀ x ∈ l.drop p, lx cl k x := by
      intro x hx
      obtain ⟨j, hj, rfl⟩ := List.getElem_of_mem hx
      rw [List.getElem_drop]
      simp at hj
      exact lx_yes (hhi (p + j) (by omega) (by omega))
    rw [List.append_assoc, List.pairwise_append]
    refine ⟨hs.sublist (List.take_sublist _ _), ?_, ?_⟩
    · rw [List.singleton_append, List.pairwise_cons]
      exact ⟨hhigh, hs.sublist (List.drop_sublist _ _)⟩
    · intro x hx y hy
      rw [List.singleton_append] at hy
      rcases List.mem_cons.1 hy with e | hy
      · rw [e]; exact hlow x hx
      · exact lx_trans hw (hlow x hx) (hhigh y hy)
end Go.Proofs.YtjdlgpnhkfdehaaGreatDoor.So


/- Plain mathematics of the last bytes of sorted turns. -/
namespace Go.Proofs.YtjdlgpnhkfdehaaGreatDoor.So
open Go.RowKit
open Go.Proofs.YtjdlgpnhkfdehaaGreatDoor.Sh (bt bt_get bt_lt strF strF_congr)
def lastB (t : ByteArray) (x : Nat) : Nat := bt t ((x + t.size - 1) % t.size)
theorem turnV_size (t : ByteArray) (x : Nat) (hx : x ≤ t.size) : (turnV t x).size = t.size := by
  unfold turnV
  rw [ByteArray.size_append, ByteArray.size_extract, ByteArray.size_extract]
  omega
theorem turnV_list (t : ByteArray) (x : Nat) : (turnV t x).data.toList = t.data.toList.drop x ++ t.data.toList.take x := by
  unfold turnV
  simp [ByteArray.data_append, ByteArray.data_extract]
  rw [List.take_of_length_le (by simp)]
theorem turnV_last (t : ByteArray) (x : Nat) (hx : x < t.size) : bt (turnV t x) (t.size - 1) = lastB t x := by
  unfold lastB bt
  rw [turnV_list]
  have hl : t.data.toList.length = t.size := by simp
  simp only [List.getD_eq_getElem?_getD]
  by_cases h0 : x = 0
  · subst h0
    rw [List.drop_zero, List.take_zero, List.append_nil, Nat.zero_add, Nat.mod_eq_of_lt (by omega)]
  · rw [List.getElem?_append_right (by rw [List.length_drop]; omega), List.length_drop, hl, List.getElem?_take_of_lt (by omega)]
    have e : (x + t.size - 1) % t.size = x - 1 := by
      rw [show x + t.size - 1 = (x - 1) + t.size by omega, Nat.add_mod_right, Nat.mod_eq_of_lt (by omega)]
    rw [e, show t.size - 1 - (t.size - x) = x - 1 by omega]
def atK (f : Nat → Nat) : Nat → Nat
  | 0 => 0
  | k + 1 => if f k = 0 then k else atK f k
theorem atK_le (f : Nat → Nat) (k : Nat) : atK f k ≤ k := by
  induction k with
  | zero => exact Nat.le_refl _
  | succ k ih => unfold atK; split <;> omega
theorem atK_congr {f g : Nat → Nat} {n : Nat} (h : ∀ j, j < n → f j = g j) : ∀ k, k ≤ n → atK f k = atK g k := by
  intro k
  induction k with
  | zero => intro _; rfl
  | succ k ih => intro hk; unfold atK; rw [h k hk, ih (by omega)]
noncomputable def ordF (t : ByteArray) : Nat → Nat := fun j => (ord t).getD j 0
theorem ordF_seg {t : ByteArray} {f : Nat → Nat} (h : OrdOk t (seg f 0 t.size)) (j : Nat) (hj : j < t.size) : ordF t j = f j := by
  unfold ordF
  rw [ord_of h, List.getD_eq_getElem?_getD, List.getElem?_eq_getElem (by rw [seg_len]; omega)]
  simp [seg]
theorem ordF_list {t : ByteArray} {l : List Nat} (h : OrdOk t l) (j : Nat) (hj : j < l.length) : ordF t j = l[j] := by
  unfold ordF
  rw [ord_of h, List.getD_eq_getElem?_getD, List.getElem?_eq_getElem hj]
  rfl
noncomputable def bwtT (t : ByteArray) : ByteArray := if t.size ≤ 48 then strF t.size (fun j => lastB t (ordF t j)) else ⟨#[]⟩
noncomputable def bwtA (t : ByteArray) : Nat := if t.size ≤ 48 then atK (ordF t) t.size else 0
def bwtC (t : ByteArray) : Nat := if 8000 < t.size then 2 else if 48 < t.size then 1 else 0
theorem bwt_yes {t : ByteArray} {f : Nat → Nat} (ht : t.size ≤ 48) (h : ∀ j, j < t.size → ordF t j = f j) : bwtT t = strF t.size (fun j => lastB t (f j)) ∧ bwtA t = atK f t.size ∧ bwtC t = 0 := by
  unfold bwtT bwtA bwtC
  rw [if_pos ht, if_pos ht, if_neg (by omega), if_neg (by omega)]
  exact ⟨strF_congr _ _ _ fun j hj => by rw [h j hj], atK_congr h _ (Nat.le_refl _), rfl⟩
theorem bwt_no {t : ByteArray} (ht : 48 < t.size) : bwtT t = ⟨#[]⟩ ∧ bwtA t = 0 := by
  unfold bwtT bwtA
  rw [if_neg (by omega), if_neg (by omega)]
  exact ⟨rfl, rfl⟩
def fillL (t : ByteArray) (f : Nat → Nat) (k : Nat) : Nat → Nat := fun j => if j < k then lastB t (f j) else 0
theorem fillL_lt (t : ByteArray) (f : Nat → Nat) (k j : Nat) : fillL t f k j < 256 := by
  unfold fillL
  split
  · exact bt_lt _ _
  · omega
theorem fillL_next (t : ByteArray) (f : Nat → Nat) (k : Nat) (j : Nat) : Sh.upd (fun j => ((fillL t f k j : Nat) : Int)) k ((lastB t (f k) : Nat) : Int) j = ((fillL t f (k + 1) j : Nat) : Int) := by
  unfold Sh.upd fillL
  by_cases e : j = k
  · subst e
    rw [if_pos rfl, if_pos (by omega)]
  · rw [if_neg e]
    by_cases h : j < k
    · have h' : j < k + 1 := by omega
      simp only [h, h', if_true]
    · have h' : ¬ j < k + 1 := by omega
      simp only [h, h', if_false]
theorem fillL_all (t : ByteArray) (f : Nat → Nat) (n : Nat) : strF n (fillL t f n) = strF n (fun j => lastB t (f j)) := strF_congr _ _ _ fun j hj => by
  unfold fillL
  rw [if_pos hj]
end Go.Proofs.YtjdlgpnhkfdehaaGreatDoor.So


/- Plain mathematics of the row of all bytes: a byte is brought to its front, and looked for. -/
namespace Go.Proofs.YtjdlgpnhkfdehaaGreatDoor.Fr
open Go.RowKit
open Go.Proofs.YtjdlgpnhkfdehaaGreatDoor.Sh (upd)
open Go.Proofs.YtjdlgpnhkfdehaaGreatDoor.Ze (numsR hideZ)
def front (f : Nat → Int) (k : Nat) : Nat → Int := fun j => if j = 0 then f k else if j ≤ k then f (j - 1) else f j
def row0 : Nat → Int := fun j => (j : Int)
def look (f : Nat → Int) (c : Int) : Nat := (List.range 256).findIdx fun k => f k == c
def Full (f : Nat → Int) : Prop := (∀ c : Nat, c < 256 → ∃ k, k < 256 ∧ f k = c) ∧ ∀ k, k < 256 → 0 ≤ f k ∧ f k < 256
theorem full0 : Full row0 := ⟨fun c h => ⟨c, h, rfl⟩, fun k h => by unfold row0; omega⟩
theorem front_zero (f : Nat → Int) (k : Nat) : front f k 0 = f k := if_pos rfl
theorem front_low (f : Nat → Int) (k j : Nat) (h0 : j ≠ 0) (h : j ≤ k) : front f k j = f (j - 1) := by
  unfold front
  rw [if_neg h0, if_pos h]
theorem front_high (f : Nat → Int) (k j : Nat) (h : k < j) : front f k j = f j := by
  unfold front
  rw [if_neg (by omega), if_neg (by omega)]
theorem Full.front {f : Nat → Int} (h : Full f) (k : Nat) (hk : k < 256) : Full (front f k) := by
  refine ⟨fun c hc => ?_, fun j hj => ?_⟩
  · obtain ⟨i, hi, e⟩ := h.1 c hc
    rcases Nat.lt_trichotomy i k with hl | hl | hl
    · exact ⟨i + 1, by omega, by rw [front_low f k (i + 1) (by omega) (by omega)]; exact e⟩
    · exact ⟨0, by omega, by rw [front_zero, ← hl]; exact e⟩
    · exact ⟨i, hi, by rw [front_high f k i hl]; exact e⟩
  · by_cases h0 : j = 0
    · subst h0; rw [front_zero]; exact h.2 k hk
    · by_cases h1 : j ≤ k
      · rw [front_low f k j h0 h1]; exact h.2 (j - 1) (by omega)
      · rw [front_high f k j (by omega)]; exact h.2 j hj
theorem find_get (N : Nat) (p : Nat → Bool) (h : (List.range N).findIdx p < (List.range N).length) : p ((List.range N).findIdx p) = true := by
  have h1 := List.findIdx_getElem (xs := List.range N) (p := p) (w := h)
  have h2 : (List.range N)[(List.range N).findIdx p] = (List.range N).findIdx p := List.getElem_range h
  rw [h2] at h1
  exact h1
theorem look_some {f : Nat → Int} (hf : Full f) {c : Nat} (hc : c < 256) : look f c < 256 ∧ f (look f c) = c ∧ ∀ i, i < look f c → f i ≠ c := by
  obtain ⟨k, hk, e⟩ := hf.1 c hc
  have hlt : look f c < (List.range 256).length := by
    unfold look
    rw [List.findIdx_lt_length]
    exact ⟨k, by simpa using hk, by simpa using e⟩
  have h1 : look f c < 256 := by simpa using hlt
  refine ⟨h1, ?_, fun i hi => ?_⟩
  · exact beq_iff_eq.1 (find_get 256 (fun k => f k == (c : Int)) hlt)
  · have h2 : i < (List.range 256).findIdx fun k => f k == (c : Int) := hi
    have := List.not_of_lt_findIdx h2
    simpa using this
def fstep (s : List Int × (Nat → Int)) (c : UInt8) : List Int × (Nat → Int) := (s.1 ++ [(look s.2 c.toNat : Int)], front s.2 (look s.2 c.toNat))
def fst' (l : List UInt8) : List Int × (Nat → Int) := l.foldl fstep ([], row0)
theorem takeB {α : Type} {l : List α} {k : Nat} (h : k < l.length) : l.take (k + 1) = l.take k ++ [l[k]] := List.take_succ_eq_append_getElem h
theorem fst_more {l : List UInt8} {k : Nat} (h : k < l.length) : fst' (l.take (k + 1)) = ((fst' (l.take k)).1 ++ [(look (fst' (l.take k)).2 l[k].toNat : Int)], front (fst' (l.take k)).2 (look (fst' (l.take k)).2 l[k].toNat)) := by
  unfold fst'
  rw [takeB h, List.foldl_append]
  rfl
theorem fst_full (l : List UInt8) : ∀ k, k ≤ l.length → Full (fst' (l.take k)).2 ∧ (fst' (l.take k)).1.length = k := by
  intro k
  induction k with
  | zero => intro _; exact ⟨full0, rfl⟩
  | succ k ih =>
    intro hk
    obtain ⟨h1, h2⟩ := ih (by omega)
    rw [fst_more hk]
    refine ⟨h1.front _ (look_some h1 (c := l[k].toNat) (UInt8.toNat_lt _)).1, ?_⟩
    simp [h2]
def frontR (l : List UInt8) : List Int := if l.length ≤ 400 then (fst' l).1 else []
theorem frontR_yes {l : List UInt8} (h : l.length ≤ 400) : frontR l = (fst' l).1 := if_pos h
theorem frontR_no {l : List UInt8} (h : 400 < l.length) : frontR l = [] := if_neg (by omega)
theorem frontR_len (l : List UInt8) : (frontR l).length ≤ 400 := by
  by_cases h : l.length ≤ 400
  · rw [frontR_yes h]
    have := (fst_full l l.length (Nat.le_refl _)).2
    rw [List.take_length] at this
    omega
  · rw [frontR_no (by omega)]
    exact Nat.zero_le _
def kstep (s : List UInt8 × (Nat → Int)) (n : Int) : List UInt8 × (Nat → Int) := (s.1 ++ [UInt8.ofNat (s.2 n.toNat).toNat], front s.2 n.toNat)
def kst (l : List Int) : List UInt8 × (Nat → Int) := l.foldl kstep ([], row0)
theorem kst_more {l : List Int} {k : Nat} (h : k < l.length) : kst (l.take (k + 1)) = ((kst (l.take k)).1 ++ [UInt8.ofNat ((kst (l.take k)).2 l[k].toNat).toNat], front (kst (l.take k)).2 l[k].toNat) := by
  unfold kst
  rw [takeB h, List.foldl_append]
  rfl
theorem kst_full (l : List Int) (hl : ∀ x ∈ l, 0 ≤ x ∧ x ≤ 255) : ∀ k, k ≤ l.length → Full (kst (l.take k)).2 ∧ (kst (l.take k)).1.length = k := by
  intro k
  induction k with
  | zero => intro _; exact ⟨full0, rfl⟩
  | succ k ih =>
    intro hk
    obtain ⟨h1, h2⟩ := ih (by omega)
    have := hl _ (List.getElem_mem (l := l) (n := k) hk)
    rw [kst_more hk]
    refine ⟨h1.front _ (by omega), ?_⟩
    simp [h2]
def fbackR (l : List Int) : List UInt8 := if numsR l 255 = true then (kst l).1 else []
theorem fbackR_yes {l : List Int} (h : numsR l 255 = true) : fbackR l = (kst l).1 := if_pos h
theorem fbackR_no {l : List Int} (h : numsR l 255 = false) : fbackR l = [] := if_neg (by rw [h]; decide)
theorem kst_fst (l : List UInt8) : ∀ k, k ≤ l.length → kst (fst' (l.take k)).1 = (l.take k, (fst' (l.take k)).2) := by
  intro k
  induction k with
  | zero => intro _; rfl
  | succ k ih =>
    intro hk
    have hf := (fst_full l k (by omega)).1
    obtain ⟨h1, h2, _⟩ := look_some hf (c := l[k].toNat) (UInt8.toNat_lt _)
    rw [fst_more hk]
    simp only
    rw [kst, List.foldl_append]
    have e := ih (by omega)
    unfold kst at e
    rw [e]
    simp only [List.foldl_cons, List.foldl_nil, kstep]
    rw [takeB hk]
    congr 1
    · congr 1
      rw [Int.toNat_natCast, h2]
      simp
theorem front_back (l : List UInt8) (h : l.length ≤ 400) : fbackR (frontR l) = l := by
  have h0 := fst_full l l.length (Nat.le_refl _)
  have hk := kst_fst l l.length (Nat.le_refl _)
  rw [List.take_length] at h0 hk
  rw [frontR_yes h, fbackR_yes, hk]
  have hall : ∀ k, k ≤ l.length → ∀ x ∈ (fst' (l.take k)).1, 0 ≤ x ∧ x ≤ 255 := by
    intro k
    induction k with
    | zero => intro _ x hx; cases hx
    | succ k ih =>
      intro hk x hx
      have hf := (fst_full l k (by omega)).1
      obtain ⟨h1, _, _⟩ := look_some hf (c := l[k].toNat) (UInt8.toNat_lt _)
      rw [fst_more hk] at hx
      rcases List.mem_append.1 hx with hx | hx
      · exact ih (by omega) x hx
      · rw [List.mem_singleton.1 hx]
        omega
  have := hall l.length (Nat.le_refl _)
  rw [List.take_length] at this
  unfold numsR
  rw [decide_eq_true (by omega), Ze.upTo_of this]
  rfl
end Go.Proofs.YtjdlgpnhkfdehaaGreatDoor.Fr


/- Plain mathematics: zeros side by side, there and back. -/
namespace Go.Proofs.YtjdlgpnhkfdehaaGreatDoor.Ze
open Go.RowKit
theorem zrun_back (r : Nat) : ∀ (s : List Int) (v : Nat), ((zrun r).foldl bstep (s, v)).1 = s ++ List.replicate (v * r) 0 := by
  induction r using Nat.strongRecOn with
  | ind r ih =>
    intro s v
    by_cases h0 : r = 0
    · subst h0
      rw [zrun_zero]
      simp
    · by_cases h1 : r % 2 = 1
      · rw [zrun_odd h1, List.foldl_cons, bstep, if_neg (by omega), ih ((r - 1) / 2) (by omega), List.append_assoc, List.replicate_append_replicate]
        congr 2
        obtain ⟨q, rfl⟩ : ∃ q, r = 2 * q + 1 := ⟨(r - 1) / 2, by omega⟩
        rw [show (2 * q + 1 - 1) / 2 = q by omega, Nat.mul_add, Nat.mul_assoc]
        simp
        omega
      · rw [zrun_even (by omega) h1, List.foldl_cons, bstep, if_neg (by omega), ih ((r - 2) / 2) (by omega), List.append_assoc, List.replicate_append_replicate]
        congr 2
        obtain ⟨q, rfl⟩ : ∃ q, r = 2 * q + 2 := ⟨(r - 2) / 2, by omega⟩
        rw [show (2 * q + 2 - 2) / 2 = q by omega, Nat.mul_add, Nat.mul_assoc]
        simp
        omega
theorem zst_back (l : List Int) (h : ∀ x ∈ l, 0 ≤ x ∧ x ≤ 255) : ∀ k, k ≤ l.length → (bst (zst (l.take k)).1).2 = 1 ∧ (bst (zst (l.take k)).1).1 ++ List.replicate (zst (l.take k)).2 0 = l.take k := by
  intro k
  induction k with
  | zero => intro _; simp [zst, bst]
  | succ k ih =>
    intro hk
    obtain ⟨h1, h2⟩ := ih (by omega)
    have hx := h _ (List.getElem_mem (show k < l.length by omega))
    by_cases h0 : l[k] = 0
    · rw [zst_zero hk h0]
      refine ⟨h1, ?_⟩
      show (bst (zst (l.take k)).1).1 ++ List.replicate ((zst (l.take k)).2 + 1) 0 = _
      rw [Bi.take_more hk, h0, List.replicate_succ', ← List.append_assoc, h2]
    · rw [zst_other hk h0]
      have e : bst ((zst (l.take k)).1 ++ zrun (zst (l.take k)).2 ++ [l[k] + 1]) = (l.take k ++ [l[k]], 1) := by
        have hb : bst (zst (l.take k)).1 = ((bst (zst (l.take k)).1).1, 1) := by rw [← h1]
        have hb2 : (zst (l.take k)).1.foldl bstep ([], 1) = ((bst (zst (l.take k)).1).1, 1) := hb
        unfold bst
        rw [List.foldl_append, List.foldl_append, hb2, List.foldl_cons, List.foldl_nil, bstep, if_pos (by omega), zrun_back, Nat.one_mul, h2]
        simp
      rw [e]
      refine ⟨rfl, ?_⟩
      rw [Bi.take_more hk]
      simp
theorem zeros_back {l : List Int} (h : numsR l 255 = true) : backR (zerosR l) = l := by
  obtain ⟨hl, hu⟩ := numsR_yes h
  have hx := upTo_yes hu
  obtain ⟨h1, h2⟩ := zst_back l hx l.length (Nat.le_refl _)
  rw [List.take_length] at h1 h2
  have hb : (bst (zerosR l)).1 = l := by
    rw [zerosR_yes h]
    have hb2 : (zst l).1.foldl bstep ([], 1) = ((bst (zst l).1).1, 1) := by
      show bst (zst l).1 = _
      rw [← h1]
    unfold bst
    rw [List.foldl_append, hb2, zrun_back, Nat.one_mul]
    exact h2
  have hm : ∀ k, k ≤ l.length → ∀ x ∈ (zst (l.take k)).1, 0 ≤ x ∧ x ≤ 256 := by
    intro k
    induction k with
    | zero => intro _ x hx; simp [zst] at hx
    | succ k ih =>
      intro hk x hxm
      have hy := hx _ (List.getElem_mem (show k < l.length by omega))
      by_cases h0 : l[k] = 0
      · rw [zst_zero hk h0] at hxm
        exact ih (by omega) x hxm
      · rw [zst_other hk h0] at hxm
        rcases List.mem_append.1 hxm with hxm | hxm
        · rcases List.mem_append.1 hxm with hxm | hxm
          · exact ih (by omega) x hxm
          · rcases zrun_mem _ x hxm with e | e <;> omega
        · rw [List.mem_singleton] at hxm
          omega
  have hn : numsR (zerosR l) 256 = true := by
    rw [numsR_of (Nat.le_trans (zerosR_len l) hl)]
    refine upTo_of fun x hxm => ?_
    rw [zerosR_yes h] at hxm
    rcases List.mem_append.1 hxm with hxm | hxm
    · have := hm l.length (Nat.le_refl _)
      rw [List.take_length] at this
      exact this x hxm
    · rcases zrun_mem _ x hxm with e | e <;> omega
  rw [backR_yes hn (by rw [hb]; exact hl), hb]
end Go.Proofs.YtjdlgpnhkfdehaaGreatDoor.Ze

