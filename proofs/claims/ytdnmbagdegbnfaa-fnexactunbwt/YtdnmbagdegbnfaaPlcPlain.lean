/- Plain mathematics of the way back from sorted turns. -/
import Derived.Test.YtdnmbagdegbnfaaBwtPlain
import Derived.Test.YtdnmbagdegbnfaaSoCmpI
namespace Go.Proofs.Ytdnmbagdegbnfaa.So
open Go.RowKit
open Go.Proofs.Ytdnmbagdegbnfaa.Sh (bt bt_get bt_lt strF strF_size)

/-- the places of a text, by rising byte, of the same byte by rising place -/
def PlOk (t : ByteArray) (l : List Nat) : Prop := l.Perm (List.range t.size) ∧ l.Pairwise (lx (clI t))
theorem pl_unique {t : ByteArray} {l l' : List Nat} (h : PlOk t l) (h' : PlOk t l') : l = l' :=
  List.Perm.eq_of_pairwise (fun _ _ _ _ h1 h2 => (lx_asymm (clI_weak _) h1 h2).elim) h.2 h'.2 (h.1.trans h'.1.symm)
def plB (t : ByteArray) (b k : Nat) : List Nat := (List.range k).filter fun j => bt t j == b
def plK (t : ByteArray) (b : Nat) : List Nat := (List.range b).flatMap fun c => plB t c t.size
def pl (t : ByteArray) : List Nat := plK t 256
theorem plK_succ (t : ByteArray) (b : Nat) : plK t (b + 1) = plK t b ++ plB t b t.size := by
  unfold plK
  rw [List.range_succ, List.flatMap_append]
  simp
theorem plB_yes (t : ByteArray) (b k : Nat) (h : bt t k = b) : plB t b (k + 1) = plB t b k ++ [k] := by
  unfold plB
  rw [List.range_succ, List.filter_append]
  simp [h]
theorem plB_no (t : ByteArray) (b k : Nat) (h : bt t k ≠ b) : plB t b (k + 1) = plB t b k := by
  unfold plB
  rw [List.range_succ, List.filter_append]
  simp [h]
theorem plB_len (t : ByteArray) (b k : Nat) : (plB t b k).length ≤ k := by
  have := List.length_filter_le (fun j => bt t j == b) (List.range k)
  simpa [plB] using this
theorem plK_len (t : ByteArray) (b : Nat) : (plK t b).length ≤ b * t.size := by
  induction b with
  | zero => simp [plK]
  | succ b ih =>
    rw [plK_succ, List.length_append, Nat.succ_mul]
    have := plB_len t b t.size
    omega
theorem pl_ok (t : ByteArray) : PlOk t (pl t) := by
  have hpw : (pl t).Pairwise (lx (clI t)) := by
    unfold pl plK
    rw [List.pairwise_flatMap]
    refine ⟨fun b _ => ?_, ?_⟩
    · unfold plB
      have h1 : (List.range t.size).Pairwise (· < ·) := List.pairwise_lt_range
      have h2 := h1.sublist (List.filter_sublist (p := fun j => bt t j == b))
      refine h2.imp_of_mem fun {x y} hx hy hlt => ?_
      have ex : bt t x = b := by have := (List.mem_filter.1 hx).2; simpa using this
      have ey : bt t y = b := by have := (List.mem_filter.1 hy).2; simpa using this
      exact lx_no (by simp [clI, ex, ey]) hlt
    · refine (List.pairwise_lt_range (n := 256)).imp fun {b c} hbc x hx y hy => ?_
      have ex : bt t x = b := by have := (List.mem_filter.1 hx).2; simpa using this
      have ey : bt t y = c := by have := (List.mem_filter.1 hy).2; simpa using this
      exact lx_yes (by simp [clI, ex, ey, hbc])
  refine ⟨?_, hpw⟩
  refine (List.perm_ext_iff_of_nodup ?_ List.nodup_range).2 fun x => ?_
  · exact hpw.imp fun {x y} h e => by
      subst e
      exact lx_asymm (clI_weak t) h h
  · simp only [pl, plK, plB, List.mem_flatMap, List.mem_filter, List.mem_range]
    constructor
    · rintro ⟨b, _, h, _⟩
      exact h
    · intro h
      exact ⟨bt t x, bt_lt _ _, h, by simp⟩
theorem pl_len (t : ByteArray) : (pl t).length = t.size := by
  have := (pl_ok t).1.length_eq
  simpa using this
def plF (t : ByteArray) : Nat → Nat := fun j => (pl t).getD j 0
theorem plF_seg {t : ByteArray} {f : Nat → Nat} (hp : (seg f 0 t.size).Perm (List.range t.size)) (hr : Ris (clI t) 0 t.size f) (j : Nat) (hj : j < t.size) : f j = plF t j := by
  have h : seg f 0 t.size = pl t := pl_unique ⟨hp, seg_pairwise hr⟩ (pl_ok t)
  unfold plF
  rw [← h, List.getD_eq_getElem?_getD, List.getElem?_eq_getElem (by rw [seg_len]; omega)]
  simp [seg]
theorem plF_get (t : ByteArray) (j : Nat) (hj : j < (pl t).length) : (pl t)[j] = plF t j := by
  unfold plF
  rw [List.getD_eq_getElem?_getD, List.getElem?_eq_getElem hj]
  rfl
theorem plF_lt (t : ByteArray) (j : Nat) (hj : j < t.size) : plF t j < t.size := by
  have hl : j < (pl t).length := by rw [pl_len]; exact hj
  rw [← plF_get t j hl]
  have := (pl_ok t).1.mem_iff.1 (List.getElem_mem hl)
  simpa using this
/-- the place after so many steps back -/
def itR (t : ByteArray) (a : Nat) : Nat → Nat
  | 0 => a
  | k + 1 => plF t (itR t a k)
theorem itR_lt (t : ByteArray) (a k : Nat) (ha : a < t.size) : itR t a k < t.size := by
  induction k with
  | zero => exact ha
  | succ k ih => exact plF_lt t _ ih
def backT (t : ByteArray) (a : Nat) : ByteArray := strF t.size fun j => bt t (itR t a (j + 1))
theorem backT_size (t : ByteArray) (a : Nat) : (backT t a).size = t.size := strF_size _ _
def fillK (t : ByteArray) (a k : Nat) : Nat → Nat := fun j => if j < k then bt t (itR t a (j + 1)) else 0
theorem fillK_lt (t : ByteArray) (a k j : Nat) : fillK t a k j < 256 := by
  unfold fillK
  split
  · exact bt_lt _ _
  · omega
theorem fillK_next (t : ByteArray) (a k j : Nat) : Sh.upd (fun j => ((fillK t a k j : Nat) : Int)) k ((bt t (itR t a (k + 1)) : Nat) : Int) j = ((fillK t a (k + 1) j : Nat) : Int) := by
  unfold Sh.upd fillK
  by_cases e : j = k
  · subst e
    rw [if_pos rfl, if_pos (by omega)]
  · rw [if_neg e]
    by_cases h : j < k
    · have h' : j < k + 1 := by omega
      simp only [h, h', if_true]
    · have h' : ¬ j < k + 1 := by omega
      simp only [h, h', if_false]
theorem fillK_all (t : ByteArray) (a : Nat) : strF t.size (fillK t a t.size) = backT t a := Sh.strF_congr _ _ _ fun j hj => by
  unfold fillK
  rw [if_pos hj]
def blK (t : ByteArray) (a k : Nat) : List UInt8 := (List.range k).map fun j => UInt8.ofNat (bt t (itR t a (j + 1)))
theorem blK_len (t : ByteArray) (a k : Nat) : (blK t a k).length = k := by simp [blK]
theorem blK_snoc (t : ByteArray) (a k : Nat) : blK t a (k + 1) = blK t a k ++ [UInt8.ofNat (((bt t (itR t a (k + 1)) : Nat) : Int)).toNat] := by
  unfold blK
  rw [List.range_succ, List.map_append]
  rfl
theorem blK_all (t : ByteArray) (a : Nat) : (⟨(blK t a t.size).toArray⟩ : ByteArray) = backT t a := rfl

/-- a TextOut as the model holds it -/
def tOut (t : ByteArray) (a c : Int) : Value := .agg #[.string t, .int .i64 a, .int .i64 c]
theorem list_eq_iff (a b : ByteArray) : (a.toList == b.toList) = decide (a = b) := by
  by_cases h : a = b
  · rw [h]; simp
  · rw [decide_eq_false h, beq_eq_false_iff_ne]
    intro e
    apply h
    rw [ByteArray.toList_eq, ByteArray.toList_eq] at e
    have e2 : a.data = b.data := by rw [← Array.toArray_toList (xs := a.data), e, Array.toArray_toList]
    cases a; cases b; simpa using e2
open Classical in
/-- what the way back answers -/
noncomputable def unR (t : ByteArray) (a : Int) : Value :=
  if 8000 < t.size then tOut ⟨#[]⟩ 0 2 else if 48 < t.size ∨ a < 0 ∨ ((t.size : Int) ≤ a ∧ 0 < a) then tOut ⟨#[]⟩ 0 1
  else if bwtT (backT t a.toNat) = t ∧ (bwtA (backT t a.toNat) : Int) = a then tOut (backT t a.toNat) 0 0 else tOut ⟨#[]⟩ 0 3
theorem unR_big {t : ByteArray} {a : Int} (h : 8000 < t.size) : unR t a = tOut ⟨#[]⟩ 0 2 := by unfold unR; rw [if_pos h]
theorem unR_form {t : ByteArray} {a : Int} (h0 : ¬ 8000 < t.size) (h : 48 < t.size ∨ a < 0 ∨ ((t.size : Int) ≤ a ∧ 0 < a)) : unR t a = tOut ⟨#[]⟩ 0 1 := by unfold unR; rw [if_neg h0, if_pos h]
theorem unR_yes {t : ByteArray} {a : Nat} (h0 : t.size ≤ 48) (ha : a < t.size ∨ a = 0) (h : bwtT (backT t a) = t ∧ bwtA (backT t a) = a) : unR t a = tOut (backT t a) 0 0 := by
  unfold unR
  rw [if_neg (by omega), if_neg (by omega), Int.toNat_natCast, if_pos ⟨h.1, by rw [h.2]⟩]
theorem unR_no {t : ByteArray} {a : Nat} (h0 : t.size ≤ 48) (ha : a < t.size ∨ a = 0) (h : ¬ (bwtT (backT t a) = t ∧ bwtA (backT t a) = a)) : unR t a = tOut ⟨#[]⟩ 0 3 := by
  unfold unR
  rw [if_neg (by omega), if_neg (by omega), Int.toNat_natCast, if_neg (fun q => h ⟨q.1, by omega⟩)]
theorem unR_case (t : ByteArray) (a : Int) : ∃ b c, unR t a = .agg #[.string b, .int .i64 0, .int .i64 c] := by
  unfold unR tOut
  split
  · exact ⟨_, _, rfl⟩
  · split
    · exact ⟨_, _, rfl⟩
    · split <;> exact ⟨_, _, rfl⟩
end Go.Proofs.Ytdnmbagdegbnfaa.So
