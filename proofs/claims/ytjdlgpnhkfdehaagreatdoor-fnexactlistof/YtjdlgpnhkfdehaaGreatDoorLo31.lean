/- Texts put together: BwtPlain, FrontPlain, ZeroBack, CrcPlain, CrcWalks. -/
import Derived.Test.YtjdlgpnhkfdehaaGreatDoorLo30
import Derived.Test.YtjdlgpnhkfdehaaGreatDoorLo8
import Derived.Test.YtjdlgpnhkfdehaaGreatDoorLo24
import Derived.Test.YtjdlgpnhkfdehaaGreatDoorLo1
import Derived.Laws.BitsAllLaws
import Derived.Test.YtjdlgpnhkfdehaaGreatDoorChecked
import Derived.WalkKit
import Derived.WalkSpells
import Derived.WalkLawsBesides
/- Plain mathematics of the last bytes of sorted turns. -/
namespace Go.Proofs.YtjdlgpnhkfdehaaGreatDoor.So
open Go.RowKit
open Go.Proofs.YtjdlgpnhkfdehaaGreatDoor.Sh (bt bt_get bt_lt strF strF_congr)
def lastB (t : ByteArray) (x : Nat) : Nat := bt t ((x + t.size - 1) % t.size)
theorem turnV_size (t : ByteArray) (x : Nat) (hx : x ≤ t.size) : (turnV t x).size = t.size := by
  unfold turnV
  rw [ByteArray.size_append, ByteArray.size_extract, ByteArray.size_extract]
  omega
theorem turnV_list (t : ByteArray) (x : Nat) : (turnV t x).data.toList = t.data.toList.drop x ++ t.data.toList.take x := by
  unfold turnV
  simp [ByteArray.data_append, ByteArray.data_extract]
  rw [List.take_of_length_le (by simp)]
theorem turnV_last (t : ByteArray) (x : Nat) (hx : x < t.size) : bt (turnV t x) (t.size - 1) = lastB t x := by
  unfold lastB bt
  rw [turnV_list]
  have hl : t.data.toList.length = t.size := by simp
  simp only [List.getD_eq_getElem?_getD]
  by_cases h0 : x = 0
  · subst h0
    rw [List.drop_zero, List.take_zero, List.append_nil, Nat.zero_add, Nat.mod_eq_of_lt (by omega)]
  · rw [List.getElem?_append_right (by rw [List.length_drop]; omega), List.length_drop, hl, List.getElem?_take_of_lt (by omega)]
    have e : (x + t.size - 1) % t.size = x - 1 := by
      rw [show x + t.size - 1 = (x - 1) + t.size by omega, Nat.add_mod_right, Nat.mod_eq_of_lt (by omega)]
    rw [e, show t.size - 1 - (t.size - x) = x - 1 by omega]
def atK (f : Nat → Nat) : Nat → Nat
  | 0 => 0
  | k + 1 => if f k = 0 then k else atK f k
theorem atK_le (f : Nat → Nat) (k : Nat) : atK f k ≤ k := by
  induction k with
  | zero => exact Nat.le_refl _
  | succ k ih => unfold atK; split <;> omega
theorem atK_congr {f g : Nat → Nat} {n : Nat} (h : ∀ j, j < n → f j = g j) : ∀ k, k ≤ n → atK f k = atK g k := by
  intro k
  induction k with
  | zero => intro _; rfl
  | succ k ih => intro hk; unfold atK; rw [h k hk, ih (by omega)]
noncomputable def ordF (t : ByteArray) : Nat → Nat := fun j => (ord t).getD j 0
theorem ordF_seg {t : ByteArray} {f : Nat → Nat} (h : OrdOk t (seg f 0 t.size)) (j : Nat) (hj : j < t.size) : ordF t j = f j := by
  unfold ordF
  rw [ord_of h, List.getD_eq_getElem?_getD, List.getElem?_eq_getElem (by rw [seg_len]; omega)]
  simp [seg]
theorem ordF_list {t : ByteArray} {l : List Nat} (h : OrdOk t l) (j : Nat) (hj : j < l.length) : ordF t j = l[j] := by
  unfold ordF
  rw [ord_of h, List.getD_eq_getElem?_getD, List.getElem?_eq_getElem hj]
  rfl
noncomputable def bwtT (t : ByteArray) : ByteArray := if t.size ≤ 48 then strF t.size (fun j => lastB t (ordF t j)) else ⟨#[]⟩
noncomputable def bwtA (t : ByteArray) : Nat := if t.size ≤ 48 then atK (ordF t) t.size else 0
def bwtC (t : ByteArray) : Nat := if 8000 < t.size then 2 else if 48 < t.size then 1 else 0
theorem bwt_yes {t : ByteArray} {f : Nat → Nat} (ht : t.size ≤ 48) (h : ∀ j, j < t.size → ordF t j = f j) : bwtT t = strF t.size (fun j => lastB t (f j)) ∧ bwtA t = atK f t.size ∧ bwtC t = 0 := by
  unfold bwtT bwtA bwtC
  rw [if_pos ht, if_pos ht, if_neg (by omega), if_neg (by omega)]
  exact ⟨strF_congr _ _ _ fun j hj => by rw [h j hj], atK_congr h _ (Nat.le_refl _), rfl⟩
theorem bwt_no {t : ByteArray} (ht : 48 < t.size) : bwtT t = ⟨#[]⟩ ∧ bwtA t = 0 := by
  unfold bwtT bwtA
  rw [if_neg (by omega), if_neg (by omega)]
  exact ⟨rfl, rfl⟩
def fillL (t : ByteArray) (f : Nat → Nat) (k : Nat) : Nat → Nat := fun j => if j < k then lastB t (f j) else 0
theorem fillL_lt (t : ByteArray) (f : Nat → Nat) (k j : Nat) : fillL t f k j < 256 := by
  unfold fillL
  split
  · exact bt_lt _ _
  · omega
theorem fillL_next (t : ByteArray) (f : Nat → Nat) (k : Nat) (j : Nat) : Sh.upd (fun j => ((fillL t f k j : Nat) : Int)) k ((lastB t (f k) : Nat) : Int) j = ((fillL t f (k + 1) j : Nat) : Int) := by
  unfold Sh.upd fillL
  by_cases e : j = k
  · subst e
    rw [if_pos rfl, if_pos (by omega)]
  · rw [if_neg e]
    by_cases h : j < k
    · have h' : j < k + 1 := by omega
      simp only [h, h', if_true]
    · have h' : ¬ j < k + 1 := by omega
      simp only [h, h', if_false]
theorem fillL_all (t : ByteArray) (f : Nat → Nat) (n : Nat) : strF n (fillL t f n) = strF n (fun j => lastB t (f j)) := strF_congr _ _ _ fun j hj => by
  unfold fillL
  rw [if_pos hj]
end Go.Proofs.YtjdlgpnhkfdehaaGreatDoor.So


/- Plain mathematics of the row of all bytes: a byte is brought to its front, and looked for. -/
namespace Go.Proofs.YtjdlgpnhkfdehaaGreatDoor.Fr
open Go.RowKit
open Go.Proofs.YtjdlgpnhkfdehaaGreatDoor.Sh (upd)
open Go.Proofs.YtjdlgpnhkfdehaaGreatDoor.Ze (numsR hideZ)
def front (f : Nat → Int) (k : Nat) : Nat → Int := fun j => if j = 0 then f k else if j ≤ k then f (j - 1) else f j
def row0 : Nat → Int := fun j => (j : Int)
def look (f : Nat → Int) (c : Int) : Nat := (List.range 256).findIdx fun k => f k == c
def Full (f : Nat → Int) : Prop := (∀ c : Nat, c < 256 → ∃ k, k < 256 ∧ f k = c) ∧ ∀ k, k < 256 → 0 ≤ f k ∧ f k < 256
theorem full0 : Full row0 := ⟨fun c h => ⟨c, h, rfl⟩, fun k h => by unfold row0; omega⟩
theorem front_zero (f : Nat → Int) (k : Nat) : front f k 0 = f k := if_pos rfl
theorem front_low (f : Nat → Int) (k j : Nat) (h0 : j ≠ 0) (h : j ≤ k) : front f k j = f (j - 1) := by
  unfold front
  rw [if_neg h0, if_pos h]
theorem front_high (f : Nat → Int) (k j : Nat) (h : k < j) : front f k j = f j := by
  unfold front
  rw [if_neg (by omega), if_neg (by omega)]
theorem Full.front {f : Nat → Int} (h : Full f) (k : Nat) (hk : k < 256) : Full (front f k) := by
  refine ⟨fun c hc => ?_, fun j hj => ?_⟩
  · obtain ⟨i, hi, e⟩ := h.1 c hc
    rcases Nat.lt_trichotomy i k with hl | hl | hl
    · exact ⟨i + 1, by omega, by rw [front_low f k (i + 1) (by omega) (by omega)]; exact e⟩
    · exact ⟨0, by omega, by rw [front_zero, ← hl]; exact e⟩
    · exact ⟨i, hi, by rw [front_high f k i hl]; exact e⟩
  · by_cases h0 : j = 0
    · subst h0; rw [front_zero]; exact h.2 k hk
    · by_cases h1 : j ≤ k
      · rw [front_low f k j h0 h1]; exact h.2 (j - 1) (by omega)
      · rw [front_high f k j (by omega)]; exact h.2 j hj
theorem find_get (N : Nat) (p : Nat → Bool) (h : (List.range N).findIdx p < (List.range N).length) : p ((List.range N).findIdx p) = true := by
  have h1 := List.findIdx_getElem (xs := List.range N) (p := p) (w := h)
  have h2 : (List.range N)[(List.range N).findIdx p] = (List.range N).findIdx p := List.getElem_range h
  rw [h2] at h1
  exact h1
theorem look_some {f : Nat → Int} (hf : Full f) {c : Nat} (hc : c < 256) : look f c < 256 ∧ f (look f c) = c ∧ ∀ i, i < look f c → f i ≠ c := by
  obtain ⟨k, hk, e⟩ := hf.1 c hc
  have hlt : look f c < (List.range 256).length := by
    unfold look
    rw [List.findIdx_lt_length]
    exact ⟨k, by simpa using hk, by simpa using e⟩
  have h1 : look f c < 256 := by simpa using hlt
  refine ⟨h1, ?_, fun i hi => ?_⟩
  · exact beq_iff_eq.1 (find_get 256 (fun k => f k == (c : Int)) hlt)
  · have h2 : i < (List.range 256).findIdx fun k => f k == (c : Int) := hi
    have := List.not_of_lt_findIdx h2
    simpa using this
def fstep (s : List Int × (Nat → Int)) (c : UInt8) : List Int × (Nat → Int) := (s.1 ++ [(look s.2 c.toNat : Int)], front s.2 (look s.2 c.toNat))
def fst' (l : List UInt8) : List Int × (Nat → Int) := l.foldl fstep ([], row0)
theorem takeB {α : Type} {l : List α} {k : Nat} (h : k < l.length) : l.take (k + 1) = l.take k ++ [l[k]] := List.take_succ_eq_append_getElem h
theorem fst_more {l : List UInt8} {k : Nat} (h : k < l.length) : fst' (l.take (k + 1)) = ((fst' (l.take k)).1 ++ [(look (fst' (l.take k)).2 l[k].toNat : Int)], front (fst' (l.take k)).2 (look (fst' (l.take k)).2 l[k].toNat)) := by
  unfold fst'
  rw [takeB h, List.foldl_append]
  rfl
theorem fst_full (l : List UInt8) : ∀ k, k ≤ l.length → Full (fst' (l.take k)).2 ∧ (fst' (l.take k)).1.length = k := by
  intro k
  induction k with
  | zero => intro _; exact ⟨full0, rfl⟩
  | succ k ih =>
    intro hk
    obtain ⟨h1, h2⟩ := ih (by omega)
    rw [fst_more hk]
    refine ⟨h1.front _ (look_some h1 (c := l[k].toNat) (UInt8.toNat_lt _)).1, ?_⟩
    simp [h2]
def frontR (l : List UInt8) : List Int := if l.length ≤ 400 then (fst' l).1 else []
theorem frontR_yes {l : List UInt8} (h : l.length ≤ 400) : frontR l = (fst' l).1 := if_pos h
theorem frontR_no {l : List UInt8} (h : 400 < l.length) : frontR l = [] := if_neg (by omega)
theorem frontR_len (l : List UInt8) : (frontR l).length ≤ 400 := by
  by_cases h : l.length ≤ 400
  · rw [frontR_yes h]
    have := (fst_full l l.length (Nat.le_refl _)).2
    rw [List.take_length] at this
    omega
  · rw [frontR_no (by omega)]
    exact Nat.zero_le _
def kstep (s : List UInt8 × (Nat → Int)) (n : Int) : List UInt8 × (Nat → Int) := (s.1 ++ [UInt8.ofNat (s.2 n.toNat).toNat], front s.2 n.toNat)
def kst (l : List Int) : List UInt8 × (Nat → Int) := l.foldl kstep ([], row0)
def fbackR (l : List Int) : List UInt8 := if numsR l 255 = true then (kst l).1 else []
end Go.Proofs.YtjdlgpnhkfdehaaGreatDoor.Fr


/- Plain mathematics: zeros side by side, there and back. -/
namespace Go.Proofs.YtjdlgpnhkfdehaaGreatDoor.Ze
open Go.RowKit
theorem zrun_back (r : Nat) : ∀ (s : List Int) (v : Nat), ((zrun r).foldl bstep (s, v)).1 = s ++ List.replicate (v * r) 0 := by
  induction r using Nat.strongRecOn with
  | ind r ih =>
    intro s v
    by_cases h0 : r = 0
    · subst h0
      rw [zrun_zero]
      simp
    · by_cases h1 : r % 2 = 1
      · rw [zrun_odd h1, List.foldl_cons, bstep, if_neg (by omega), ih ((r - 1) / 2) (by omega), List.append_assoc, List.replicate_append_replicate]
        congr 2
        obtain ⟨q, rfl⟩ : ∃ q, r = 2 * q + 1 := ⟨(r - 1) / 2, by omega⟩
        rw [show (2 * q + 1 - 1) / 2 = q by omega, Nat.mul_add, Nat.mul_assoc]
        simp
        omega
      · rw [zrun_even (by omega) h1, List.foldl_cons, bstep, if_neg (by omega), ih ((r - 2) / 2) (by omega), List.append_assoc, List.replicate_append_replicate]
        congr 2
        obtain ⟨q, rfl⟩ : ∃ q, r = 2 * q + 2 := ⟨(r - 2) / 2, by omega⟩
        rw [show (2 * q + 2 - 2) / 2 = q by omega, Nat.mul_add, Nat.mul_assoc]
        simp
        omega
theorem zst_back (l : List Int) (h : ∀ x ∈ l, 0 ≤ x ∧ x ≤ 255) : ∀ k, k ≤ l.length → (bst (zst (l.take k)).1).2 = 1 ∧ (bst (zst (l.take k)).1).1 ++ List.replicate (zst (l.take k)).2 0 = l.take k := by
  intro k
  induction k with
  | zero => intro _; simp [zst, bst]
  | succ k ih =>
    intro hk
    obtain ⟨h1, h2⟩ := ih (by omega)
    have hx := h _ (List.getElem_mem (show k < l.length by omega))
    by_cases h0 : l[k] = 0
    · rw [zst_zero hk h0]
      refine ⟨h1, ?_⟩
      show (bst (zst (l.take k)).1).1 ++ List.replicate ((zst (l.take k)).2 + 1) 0 = _
      rw [Bi.take_more hk, h0, List.replicate_succ', ← List.append_assoc, h2]
    · rw [zst_other hk h0]
      have e : bst ((zst (l.take k)).1 ++ zrun (zst (l.take k)).2 ++ [l[k] + 1]) = (l.take k ++ [l[k]], 1) := by
        have hb : bst (zst (l.take k)).1 = ((bst (zst (l.take k)).1).1, 1) := by rw [← h1]
        have hb2 : (zst (l.take k)).1.foldl bstep ([], 1) = ((bst (zst (l.take k)).1).1, 1) := hb
        unfold bst
        rw [List.foldl_append, List.foldl_append, hb2, List.foldl_cons, List.foldl_nil, bstep, if_pos (by omega), zrun_back, Nat.one_mul, h2]
        simp
      rw [e]
      refine ⟨rfl, ?_⟩
      rw [Bi.take_more hk]
      simp
theorem zeros_back {l : List Int} (h : numsR l 255 = true) : backR (zerosR l) = l := by
  obtain ⟨hl, hu⟩ := numsR_yes h
  have hx := upTo_yes hu
  obtain ⟨h1, h2⟩ := zst_back l hx l.length (Nat.le_refl _)
  rw [List.take_length] at h1 h2
  have hb : (bst (zerosR l)).1 = l := by
    rw [zerosR_yes h]
    have hb2 : (zst l).1.foldl bstep ([], 1) = ((bst (zst l).1).1, 1) := by
      show bst (zst l).1 = _
      rw [← h1]
    unfold bst
    rw [List.foldl_append, hb2, zrun_back, Nat.one_mul]
    exact h2
  have hm : ∀ k, k ≤ l.length → ∀ x ∈ (zst (l.take k)).1, 0 ≤ x ∧ x ≤ 256 := by
    intro k
    induction k with
    | zero => intro _ x hx; simp [zst] at hx
    | succ k ih =>
      intro hk x hxm
      have hy := hx _ (List.getElem_mem (show k < l.length by omega))
      by_cases h0 : l[k] = 0
      · rw [zst_zero hk h0] at hxm
        exact ih (by omega) x hxm
      · rw [zst_other hk h0] at hxm
        rcases List.mem_append.1 hxm with hxm | hxm
        · rcases List.mem_append.1 hxm with hxm | hxm
          · exact ih (by omega) x hxm
          · rcases zrun_mem _ x hxm with e | e <;> omega
        · rw [List.mem_singleton] at hxm
          omega
  have hn : numsR (zerosR l) 256 = true := by
    rw [numsR_of (Nat.le_trans (zerosR_len l) hl)]
    refine upTo_of fun x hxm => ?_
    rw [zerosR_yes h] at hxm
    rcases List.mem_append.1 hxm with hxm | hxm
    · have := hm l.length (Nat.le_refl _)
      rw [List.take_length] at this
      exact this x hxm
    · rcases zrun_mem _ x hxm with e | e <;> omega
  rw [backR_yes hn (by rw [hb]; exact hl), hb]
end Go.Proofs.YtjdlgpnhkfdehaaGreatDoor.Ze


/- Plain mathematics of the CRC: one bit's step of the register, one byte's, a text's; and how the model's operations on 32 bits say the same. -/
namespace Go.Proofs.YtjdlgpnhkfdehaaGreatDoor.Cr
def step (x : Nat) : Nat := if x % 2 = 1 then (x / 2) ^^^ 3988292384 else x / 2
def stepN : Nat → Nat → Nat
  | 0, x => x
  | k + 1, x => step (stepN k x)
def crc8 (r c : Nat) : Nat := stepN 8 (r ^^^ c)
def crcL (r : Nat) (l : List UInt8) : Nat := l.foldl (fun r b => crc8 r b.toNat) r
def fin (r : Nat) : Nat := r ^^^ 4294967295
theorem xor_lt {a b : Nat} (ha : a < 4294967296) (hb : b < 4294967296) : a ^^^ b < 4294967296 :=
  Nat.xor_lt_two_pow (n := 32) ha hb
theorem step_lt {x : Nat} (h : x < 4294967296) : step x < 4294967296 := by
  unfold step
  split
  · exact xor_lt (by omega) (by decide)
  · omega
theorem stepN_lt {x : Nat} (h : x < 4294967296) (k : Nat) : stepN k x < 4294967296 := by
  induction k with
  | zero => exact h
  | succ k ih => exact step_lt ih
theorem crc8_lt {r c : Nat} (h : r < 4294967296) (hc : c < 256) : crc8 r c < 4294967296 :=
  stepN_lt (xor_lt h (by omega)) 8
theorem crcL_lt (l : List UInt8) : ∀ r, r < 4294967296 → crcL r l < 4294967296 := by
  induction l with
  | nil => intro r h; exact h
  | cons b l ih => intro r h; exact ih _ (crc8_lt h b.toNat_lt)
theorem crcL_snoc (r : Nat) (l : List UInt8) (b : UInt8) : crcL r (l ++ [b]) = crc8 (crcL r l) b.toNat := by
  simp [crcL, List.foldl_append]
theorem take_snoc (s : ByteArray) (k : Nat) (h : k < s.size) : s.data.toList.take (k + 1) = s.data.toList.take k ++ [s[k]] := by
  rw [List.take_succ_eq_append_getElem (by simpa using h)]; rfl
theorem crcL_take (r : Nat) (s : ByteArray) (k : Nat) (h : k < s.size) : crcL r (s.data.toList.take (k + 1)) = crc8 (crcL r (s.data.toList.take k)) (s[k]).toNat := by
  rw [take_snoc s k h, crcL_snoc]
theorem fin_lt {r : Nat} (h : r < 4294967296) : fin r < 4294967296 := xor_lt h (by decide)
def implS (x c k : Nat) : Nat := if (x ^^^ c / 2 ^ k) % 2 = 1 then (x / 2) ^^^ 3988292384 else x / 2
theorem inv_step (x c k : Nat) : implS x c k ^^^ (c / 2 ^ (k + 1)) = step (x ^^^ c / 2 ^ k) := by
  have e : c / 2 ^ (k + 1) = (c / 2 ^ k) / 2 := by rw [Nat.pow_succ, Nat.div_div_eq_div_mul]
  unfold implS step
  rw [e, Nat.xor_div_two]
  split
  · rw [Nat.xor_assoc, Nat.xor_assoc, Nat.xor_comm 3988292384]
  · rfl
theorem implS_lt {x : Nat} (c k : Nat) (h : x < 4294967296) : implS x c k < 4294967296 := by
  unfold implS
  split
  · exact xor_lt (by omega) (by decide)
  · omega
/-! the walk's own spellings -/
theorem nat_pow_cast (c k : Nat) : ((c : Int) / 2 ^ k) = ((c / 2 ^ k : Nat) : Int) := by
  rw [Int.natCast_ediv, Int.natCast_pow]; rfl
theorem turned_eq (x c k : Nat) (hx : x < 4294967296) (hc : c < 256) :
    bits BinOp.and IntKind.u32 (bits BinOp.xor IntKind.u32 (x : Int) ((c : Int) / 2 ^ k % 4294967296)) 1 = (((x ^^^ c / 2 ^ k) % 2 : Nat) : Int) := by
  have h1 : c / 2 ^ k < 4294967296 := Nat.lt_of_le_of_lt (Nat.div_le_self _ _) (by omega)
  have e : ((c : Int) / 2 ^ k % 4294967296) = ((c / 2 ^ k : Nat) : Int) := by
    rw [nat_pow_cast]
    generalize c / 2 ^ k = q at h1 ⊢
    omega
  rw [e, u32_xor_nat _ _ hx h1]
  have := u32_and_nat (x ^^^ c / 2 ^ k) 1 (xor_lt hx h1) (by decide)
  rw [nat_mask1] at this
  exact this
theorem half_xor (x : Nat) (hx : x < 4294967296) : bits BinOp.xor IntKind.u32 ((x : Int) / 2) 3988292384 = (((x / 2) ^^^ 3988292384 : Nat) : Int) := by
  have e : ((x : Int) / 2) = ((x / 2 : Nat) : Int) := by omega
  rw [e]
  exact u32_xor_nat (x / 2) 3988292384 (by omega) (by decide)
theorem low_eq (x : Nat) (hx : x < 4294967296) : bits BinOp.and IntKind.u32 (x : Int) 1 = ((x % 2 : Nat) : Int) := by
  have := u32_and_nat x 1 hx (by decide)
  rw [nat_mask1] at this
  exact this
theorem not_eq (x : Nat) (hx : x < 4294967296) : bits BinOp.xor IntKind.u32 (x : Int) 4294967295 = ((fin x : Nat) : Int) :=
  u32_xor_nat x 4294967295 hx (by decide)
theorem not_eq' (x : Nat) (hx : x < 4294967296) : bits BinOp.xor IntKind.u32 IntKind.u32.max (x : Int) = ((fin x : Nat) : Int) := by
  rw [fin, Nat.xor_comm, show IntKind.u32.max = ((4294967295 : Nat) : Int) from rfl]
  exact u32_xor_nat 4294967295 x (by decide) hx
end Go.Proofs.YtjdlgpnhkfdehaaGreatDoor.Cr


/- The walks of the CRC's functions: each answers what Cr.crcL makes of its register and text, and turns nothing. -/
namespace Go.Proofs.YtjdlgpnhkfdehaaGreatDoor.Cr
open Go.RowKit
theorem ret_int {k : IntKind} {a b : Int} (h : a = b) : Ending.returned (.int k a) = .returned (.int k b) := by rw [h]
set_option maxHeartbeats 400000 in
theorem byte_any (r c : Nat) (w : World) (hr : r < 4294967296) (hc : c < 256) :
    Calls Tryz.prog 240 #[.int .u32 r, .int .u8 c] w fun e w' => e = .returned (.int .u32 (crc8 r c : Nat)) ∧ w' = w := by
  go_enter Tryz.func240, Tryz.ntmps240
  go_wp2
  go_loop [0, 5, 6, 7] (fun a _ _ i => ∃ k x : Nat, k ≤ 8 ∧ i = .int .i64 k ∧ x < 4294967296 ∧ a = .int .u32 x ∧ x ^^^ c / 2 ^ k = stepN k (r ^^^ c)) (fun _ _ _ i => 8 - (intOf i).toNat)
  case atStart => exact ⟨0, r, by omega, rfl, hr, rfl, by simp [stepN]⟩
  case round =>
    obtain ⟨k, x, hk, rfl, hx, rfl, hinv⟩ := hrel
    have HI : Hid (x ^^^ c / 2 ^ k = stepN k (r ^^^ c)) := hinv
    clear hinv
    by_cases hlt : k < 8
    · have ht := turned_eq x c k hx hc
      by_cases hb : (x ^^^ c / 2 ^ k) % 2 = 1
      · have hB : (bits BinOp.and IntKind.u32 (bits BinOp.xor IntKind.u32 (x : Int) ((c : Int) / 2 ^ k % 4294967296)) 1 == 1) = true := by rw [ht, hb]; rfl
        have HS : Hid (implS x c k = (x / 2) ^^^ 3988292384) := by unfold Hid implS; rw [if_pos hb]
        clear ht hb
        go_wp2
        go_round
        case rel => exact ⟨k + 1, implS x c k, by omega, by go_num, implS_lt c k hx, by rw [HS.out, half_xor x hx], by rw [inv_step, HI.out]; rfl⟩
        case measure => simp [intOf]; omega
      · have hB : (bits BinOp.and IntKind.u32 (bits BinOp.xor IntKind.u32 (x : Int) ((c : Int) / 2 ^ k % 4294967296)) 1 == 1) = false := by rw [ht]; simp; omega
        have HS : Hid (implS x c k = x / 2) := by unfold Hid implS; rw [if_neg hb]
        clear ht hb
        go_wp2
        go_round
        case rel => exact ⟨k + 1, implS x c k, by omega, by go_num, implS_lt c k hx, by rw [HS.out]; go_num, by rw [inv_step, HI.out]; rfl⟩
        case measure => simp [intOf]; omega
    · have HX : Hid (x = crc8 r c) := by
        have h := HI.out
        have e8 : k = 8 := by omega
        rw [e8, Nat.div_eq_of_lt (by omega), Nat.xor_zero] at h
        exact h
      go_wp2
      go_ret
      exact ⟨ret_int (by rw [HX.out]), rfl⟩
set_option maxHeartbeats 1000000 in
theorem more_any (n : Nat) (s : ByteArray) (w : World) (hs : s.size ≤ 8000) (hn : n < 4294967296) :
    Calls Tryz.prog 209 #[.int .i64 n, .string s] w fun e w' => e = .returned (.int .i64 (fin (crcL (fin n) s.data.toList) : Nat)) ∧ w' = w := by
  have hn1 : ¬ (4294967295 : Int) < n := by omega
  have HN : Hid (bits BinOp.xor IntKind.u32 IntKind.u32.max (n : Int) = ((fin n : Nat) : Int)) := not_eq' n hn
  have HF : Hid (fin n < 4294967296) := fin_lt hn
  go_enter Tryz.func209, Tryz.ntmps209
  go_wp2
  go_loop [5, 6, 23] (fun a _ i => ∃ k x : Nat, k ≤ s.size ∧ i = .int .i64 k ∧ x < 4294967296 ∧ a = .int .u32 x ∧ x = crcL (fin n) (s.data.toList.take k)) (fun _ _ i => s.size - (intOf i).toNat)
  case atStart => exact ⟨0, fin n, Nat.zero_le _, rfl, HF.out, by rw [HN.out], rfl⟩
  case round =>
    obtain ⟨k, x, hk, rfl, hx, rfl, hinv⟩ := hrel
    have HI : Hid (x = crcL (fin n) (s.data.toList.take k)) := hinv
    clear hinv
    by_cases hlt : k < s.size
    · have hb : s[k].toNat < 256 := s[k].toNat_lt
      have HT : Hid (crc8 x s[k].toNat = crcL (fin n) (s.data.toList.take (k + 1))) := by
        unfold Hid
        rw [crcL_take _ _ _ hlt, ← HI.out]
      have HL : Hid (crc8 x s[k].toNat < 4294967296) := crc8_lt hx hb
      go_wp2_with (go_at_call 240; refine (byte_any _ _ _ hx hb).mono ?_; rintro e w' ⟨rfl, rfl⟩)
      go_round
      case rel => exact ⟨k + 1, crc8 x s[k].toNat, by omega, by go_num, HL.out, rfl, HT.out⟩
      case measure => simp [intOf]; omega
    · have HX : Hid (x = crcL (fin n) s.data.toList) := by
        have h := HI.out
        rw [List.take_of_length_le (by simp; omega)] at h
        exact h
      have HE : Hid (bits BinOp.xor IntKind.u32 IntKind.u32.max (x : Int) = ((fin x : Nat) : Int)) := not_eq' x hx
      have HG : Hid (fin x < 4294967296) := fin_lt hx
      go_wp2
      go_ret
      have e1 := HE.out
      have e2 := HX.out
      have e3 := HG.out
      rw [e2] at e3
      exact ⟨ret_int (by rw [e1, e2]; simp [wrap64]; omega), rfl⟩
set_option maxHeartbeats 1000000 in
theorem crc_spec (n : Nat) (s : ByteArray) (w : World) (hs : s.size ≤ 8000) (hn : n < 4294967296) :
    Calls Tryz.prog 117 #[.int .i64 n, .string s] w fun e w' => e = .returned (.int .i64 (fin (crcL (fin n) s.data.toList) : Nat)) ∧ w' = w := by
  have HN : Hid (bits BinOp.xor IntKind.u32 (n : Int) 4294967295 = ((fin n : Nat) : Int)) := not_eq n hn
  have HF : Hid (fin n < 4294967296) := fin_lt hn
  go_enter Tryz.func117, Tryz.ntmps117
  go_wp2
  go_loop [5, 6, 7] (fun a i _ => ∃ k x : Nat, k ≤ s.size ∧ i = .int .i64 k ∧ x < 4294967296 ∧ a = .int .u32 x ∧ x = crcL (fin n) (s.data.toList.take k)) (fun _ i _ => s.size - (intOf i).toNat)
  case atStart => exact ⟨0, fin n, Nat.zero_le _, rfl, HF.out, by rw [HN.out], rfl⟩
  case round =>
    obtain ⟨k, x, hk, rfl, hx, rfl, hinv⟩ := hrel
    have HI : Hid (x = crcL (fin n) (s.data.toList.take k)) := hinv
    clear hinv
    by_cases hlt : k < s.size
    · have hb : s[k].toNat < 256 := s[k].toNat_lt
      have HT : Hid (crc8 x s[k].toNat = crcL (fin n) (s.data.toList.take (k + 1))) := by
        unfold Hid
        rw [crcL_take _ _ _ hlt, ← HI.out]
      have HL : Hid (crc8 x s[k].toNat < 4294967296) := crc8_lt hx hb
      have HXL : Hid (x ^^^ s[k].toNat < 4294967296) := xor_lt hx (by omega)
      have HXE : Hid (bits BinOp.xor IntKind.u32 (x : Int) (s[k].toNat : Int) = ((x ^^^ s[k].toNat : Nat) : Int)) := u32_xor_nat _ _ hx (by omega)
      go_wp2
      go_loop [5, 7] (fun a i => ∃ j y : Nat, j ≤ 8 ∧ i = .int .i64 j ∧ y < 4294967296 ∧ a = .int .u32 y ∧ y = stepN j (x ^^^ s[k].toNat)) (fun _ i => 8 - (intOf i).toNat)
      case atStart => exact ⟨0, x ^^^ s[k].toNat, Nat.zero_le _, rfl, HXL.out, by rw [HXE.out], rfl⟩
      case round =>
        obtain ⟨j, y, hj, rfl, hy, rfl, hinv⟩ := hrel
        have HJ : Hid (y = stepN j (x ^^^ s[k].toNat)) := hinv
        clear hinv
        by_cases hjl : j < 8
        · have ht := low_eq y hy
          by_cases hb : y % 2 = 1
          · have hB : (bits BinOp.and IntKind.u32 (y : Int) 1 == 1) = true := by rw [ht, hb]; rfl
            have HS : Hid (step y = (y / 2) ^^^ 3988292384) := by unfold Hid step; rw [if_pos hb]
            clear ht hb
            go_wp2
            go_round
            case rel => exact ⟨j + 1, step y, by omega, by go_num, step_lt hy, by rw [HS.out, half_xor y hy], by rw [HJ.out]; rfl⟩
            case measure => simp [intOf]; omega
          · have hB : (bits BinOp.and IntKind.u32 (y : Int) 1 == 1) = false := by rw [ht]; simp; omega
            have HS : Hid (step y = y / 2) := by unfold Hid step; rw [if_neg hb]
            clear ht hb
            go_wp2
            go_round
            case rel => exact ⟨j + 1, step y, by omega, by go_num, step_lt hy, by rw [HS.out]; go_num, by rw [HJ.out]; rfl⟩
            case measure => simp [intOf]; omega
        · have HY : Hid (y = crcL (fin n) (s.data.toList.take (k + 1))) := by
            have h := HJ.out
            have e8 : j = 8 := by omega
            rw [e8] at h
            exact h.trans HT.out
          go_wp2
          go_round
          case rel => exact ⟨k + 1, y, by omega, by go_num, hy, rfl, HY.out⟩
          case measure => simp [intOf]; omega
    · have HX : Hid (x = crcL (fin n) s.data.toList) := by
        have h := HI.out
        rw [List.take_of_length_le (by simp; omega)] at h
        exact h
      have HE : Hid (bits BinOp.xor IntKind.u32 (x : Int) 4294967295 = ((fin x : Nat) : Int)) := not_eq x hx
      have HG : Hid (fin x < 4294967296) := fin_lt hx
      go_wp2
      go_ret
      have e1 := HE.out
      have e2 := HX.out
      have e3 := HG.out
      rw [e2] at e3
      exact ⟨ret_int (by rw [e1, e2]; simp [wrap64]; omega), rfl⟩
def moreV (c : Int) (s : ByteArray) : Int := if s.size ≤ 8000 ∧ 0 ≤ c ∧ c ≤ 4294967295 then (fin (crcL (fin c.toNat) s.data.toList) : Nat) else 0
theorem moreV_yes (n : Nat) (s : ByteArray) (hs : s.size ≤ 8000) (hn : n < 4294967296) : moreV n s = (fin (crcL (fin n) s.data.toList) : Nat) := by
  unfold moreV
  rw [if_pos ⟨hs, by omega, by omega⟩, Int.toNat_natCast]
theorem moreV_no (c : Int) (s : ByteArray) (h : ¬ (s.size ≤ 8000 ∧ 0 ≤ c ∧ c ≤ 4294967295)) : moreV c s = 0 := by
  unfold moreV
  rw [if_neg h]
theorem more_impl (c : Int) (s : ByteArray) (w : World) (hs : s.size ≤ maxLen) :
    Calls Tryz.prog 209 #[.int .i64 c, .string s] w fun e w' => e = .returned (.int .i64 (moreV c s)) ∧ w' = w := by
  unfold maxLen at hs
  by_cases h1 : 8000 < s.size
  · go_enter Tryz.func209, Tryz.ntmps209
    go_wp2
    go_ret
    exact ⟨ret_int (moreV_no c s (by omega)).symm, rfl⟩
  · by_cases h2 : c < 0
    · go_enter Tryz.func209, Tryz.ntmps209
      go_wp2
      go_ret
      exact ⟨ret_int (moreV_no c s (by omega)).symm, rfl⟩
    · by_cases h3 : 4294967295 < c
      · go_enter Tryz.func209, Tryz.ntmps209
        go_wp2
        go_ret
        exact ⟨ret_int (moreV_no c s (by omega)).symm, rfl⟩
      · obtain ⟨n, rfl⟩ := Int.eq_ofNat_of_zero_le (show 0 ≤ c from by omega)
        rw [moreV_yes n s (by omega) (by omega)]
        exact more_any n s w (by omega) (by omega)
theorem crc_impl0 (s : ByteArray) (w : World) (hs : s.size ≤ maxLen) :
    Calls Tryz.prog 165 #[.string s] w fun e w' => e = .returned (.int .i64 (moreV 0 s)) ∧ w' = w := by
  go_enter Tryz.func165, Tryz.ntmps165
  go_wp2_with fail
  refine (more_impl 0 s _ hs).mono ?_
  rintro e w' ⟨rfl, rfl⟩
  go_wp2
  go_ret
  exact ⟨rfl, rfl⟩
end Go.Proofs.YtjdlgpnhkfdehaaGreatDoor.Cr

