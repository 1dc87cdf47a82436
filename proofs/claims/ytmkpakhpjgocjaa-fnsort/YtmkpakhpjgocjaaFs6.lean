/- Texts put together: SoCmpI, PlcPlain. -/
import Derived.Test.YtmkpakhpjgocjaaFs1
import Derived.Test.YtmkpakhpjgocjaaSortPlain3
import Derived.Test.YtmkpakhpjgocjaaFs5
/- How two places are compared, by the byte of a text at each. -/
namespace Go.Proofs.Ytmkpakhpjgocjaa.So
open Go.RowKit Go.Sort Go.Proofs
open Go.Proofs.Ytmkpakhpjgocjaa.Sh (bt bt_get)

theorem encI_one : ∀ x, ∀ v ∈ encI x, v.oneCell' = true := by
  intro x v hv
  simp [encI] at hv
  subst hv
  rfl
theorem cells_I {w : World} {blk : Nat} {d : Array Nat} (h : HoldsK encI 1 w blk 0 d) {i : Nat} (hi : i < d.size) :
    w.cell? ⟨blk, i, none⟩ = some (.int .i64 (d[i]! : Nat)) ∧ w.frozen? ⟨blk, i, none⟩ = false := by
  have x0 := h.cell (i := i) (c := 0) hi (by omega)
  rw [Nat.zero_add, Nat.add_zero, Nat.mul_one] at x0
  exact ⟨x0.1, x0.2⟩
/-- the byte at one place is less than that at another -/
def clI (t : ByteArray) (x y : Nat) : Bool := decide (bt t x < bt t y)
theorem clI_weak (t : ByteArray) : Weak (clI t) where
  irrefl x := by simp [clI]
  trans x y z h1 h2 := by
    simp only [clI, decide_eq_true_eq] at *
    omega
  ntrans x y z h1 h2 := by
    simp only [clI, decide_eq_false_iff_not] at *
    omega
def cfI (t : ByteArray) (x y : Nat) : Int := if bt t x < bt t y then -1 else if bt t y < bt t x then 1 else 0
theorem cfI_neg (t : ByteArray) (x y : Nat) : decide (cfI t x y < 0) = clI t x y := by
  unfold cfI clI
  by_cases h : bt t x < bt t y
  · simp [h]
  · by_cases h2 : bt t y < bt t x <;> simp [h, h2]
/-- the text that the comparison holds -/
def Cap (w : World) (c : Nat) (t : ByteArray) : Prop := w.cell? ⟨c, 0, none⟩ = some (.string t)
theorem Cap.block {w w' : World} {c : Nat} {t : ByteArray} (h : Cap w c t) (e : w'.heap[c]? = w.heap[c]?) : Cap w' c t := by
  unfold Cap at h ⊢
  simp only [World.cell?] at h ⊢
  rw [e]
  exact h
theorem Cap.lt {w : World} {c : Nat} {t : ByteArray} (h : Cap w c t) : c < w.heap.size := by
  refine Nat.lt_of_not_le fun hle => ?_
  unfold Cap at h
  simp only [World.cell?] at h
  rw [Array.getElem?_eq_none hle] at h
  simp at h
theorem PermF.bd {a b N : Nat} {f g : Nat → Nat} (h : PermF a b f g) (hf : ∀ i, f i < N) (i : Nat) : g i < N := by
  by_cases h1 : a ≤ i ∧ i < b
  · exact h.all (p := fun v => v < N) (fun j _ _ => hf j) i h1.1 h1.2
  · rw [h.2 i (by omega)]
    exact hf i

theorem nan_B (y : UInt8) (w : World) : Calls Try.prog 169 #[.int .u8 (y.toNat : Nat)] w fun e w' => e = .returned (.bool false) ∧ w' = w := by
  have h : (((y.toNat : Nat) : Int) != ((y.toNat : Nat) : Int)) = false := by simp
  go_enter Try.func169, Try.ntmps169
  go_wp2_with fail
  go_ret
  exact ⟨rfl, rfl⟩

set_option maxHeartbeats 1000000 in
theorem compare_B (s t : UInt8) (w : World) : Calls Try.prog 158 #[.int .u8 (s.toNat : Nat), .int .u8 (t.toNat : Nat)] w fun e w' => e = .returned (.int .i64 (if s.toNat < t.toNat then -1 else if t.toNat < s.toNat then 1 else 0)) ∧ w' = w := by
  have HS := hideO (nan_B s)
  have HT := hideO (nan_B t)
  obtain ⟨p, hp⟩ : ∃ p, p = s.toNat := ⟨_, rfl⟩
  obtain ⟨q, hq⟩ : ∃ q, q = t.toNat := ⟨_, rfl⟩
  rw [← hp] at HS
  rw [← hq] at HT
  rw [← hp, ← hq]
  clear hp hq
  by_cases h1 : p < q
  · rw [if_pos h1]
    have h1' : (p : Int) < (q : Int) := by omega
    have h2' : ¬ (q : Int) < (p : Int) := by omega
    go_enter Try.func158, Try.ntmps158
    go_wp2_with fail
    refine (HS.out w).mono ?_
    rintro e w' ⟨rfl, hw⟩
    subst w'
    go_wp2_with fail
    refine (HT.out w).mono ?_
    rintro e w' ⟨rfl, hw⟩
    subst w'
    go_wp2_with fail
    go_ret
    exact ⟨rfl, rfl⟩
  · rw [if_neg h1]
    have h1' : ¬ (p : Int) < (q : Int) := by omega
    by_cases h2 : q < p
    · rw [if_pos h2]
      have h2' : (q : Int) < (p : Int) := by omega
      go_enter Try.func158, Try.ntmps158
      go_wp2_with fail
      refine (HS.out w).mono ?_
      rintro e w' ⟨rfl, hw⟩
      subst w'
      go_wp2_with fail
      refine (HT.out w).mono ?_
      rintro e w' ⟨rfl, hw⟩
      subst w'
      go_wp2_with fail
      go_ret
      exact ⟨rfl, rfl⟩
    · rw [if_neg h2]
      have h2' : ¬ (q : Int) < (p : Int) := by omega
      go_enter Try.func158, Try.ntmps158
      go_wp2_with fail
      refine (HS.out w).mono ?_
      rintro e w' ⟨rfl, hw⟩
      subst w'
      go_wp2_with fail
      refine (HT.out w).mono ?_
      rintro e w' ⟨rfl, hw⟩
      subst w'
      go_wp2_with fail
      go_ret
      exact ⟨rfl, rfl⟩

set_option maxHeartbeats 1000000 in
theorem cmp_I (t : ByteArray) (c x y : Nat) (w : World) (hc : Cap w c t) (hx : x < t.size) (hy : y < t.size) : Calls Try.prog 157 #[.int .i64 x, .int .i64 y, .pointer (some ⟨c, 0, none⟩)] w fun e w' => e = .returned (.int .i64 (cfI t x y)) ∧ ∃ q os', w' = grow (w.drewN q) os' := by
  have mixed := mixed
  have hx' : (x : Int) < (t.size : Int) := by omega
  have hy' : (y : Int) < (t.size : Int) := by omega
  obtain ⟨p, hp, hpt⟩ : ∃ p : UInt8, t[x] = p ∧ p.toNat = bt t x := ⟨_, rfl, bt_get _ _ hx⟩
  obtain ⟨q, hq, hqt⟩ : ∃ q : UInt8, t[y] = q ∧ q.toNat = bt t y := ⟨_, rfl, bt_get _ _ hy⟩
  have HC := hideO (fun (W : World) => (compare_B p q W).mono (fun e w' (h : _ ∧ w' = W) => (⟨h.1, 0, h.2⟩ : _ ∧ ∃ m, w' = W.drewN m)))
  unfold cfI
  rw [hpt, hqt] at HC
  generalize (if bt t x < bt t y then (-1 : Int) else if bt t y < bt t x then 1 else 0) = r at HC ⊢
  have hcw : ∀ n, (w.drewN n).cell? ⟨c, 0, none⟩ = some (.string t) := fun n => hc
  have hcc : w.cell? ⟨c, 0, none⟩ = some (.string t) := hc
  rw [← hpt, ← hqt] at HC
  clear hc hpt hqt
  go_enter Try.func157, Try.ntmps157
  go_wp2_with fail
  go_quiet (first | (go_at_call 158; refine Calls.quiet_of (HC.out _)))
  all_goals (try go_wp2_with fail)
  go_ret
  exact ⟨rfl, nq, #[], (grow_empty _).symm⟩
end Go.Proofs.Ytmkpakhpjgocjaa.So

/- Plain mathematics of the way back from sorted turns. -/
namespace Go.Proofs.Ytmkpakhpjgocjaa.So
open Go.RowKit
open Go.Proofs.Ytmkpakhpjgocjaa.Sh (bt bt_get bt_lt strF strF_size)

/-- the places of a text, by rising byte, of the same byte by rising place -/
def PlOk (t : ByteArray) (l : List Nat) : Prop := l.Perm (List.range t.size) ∧ l.Pairwise (lx (clI t))
theorem pl_unique {t : ByteArray} {l l' : List Nat} (h : PlOk t l) (h' : PlOk t l') : l = l' :=
  List.Perm.eq_of_pairwise (fun _ _ _ _ h1 h2 => (lx_asymm (clI_weak _) h1 h2).elim) h.2 h'.2 (h.1.trans h'.1.symm)
def plB (t : ByteArray) (b k : Nat) : List Nat := (List.range k).filter fun j => bt t j == b
def plK (t : ByteArray) (b : Nat) : List Nat := (List.range b).flatMap fun c => plB t c t.size
def pl (t : ByteArray) : List Nat := plK t 256
theorem plK_succ (t : ByteArray) (b : Nat) : plK t (b + 1) = plK t b ++ plB t b t.size := by
  unfold plK
  rw [List.range_succ, List.flatMap_append]
  simp
theorem plB_yes (t : ByteArray) (b k : Nat) (h : bt t k = b) : plB t b (k + 1) = plB t b k ++ [k] := by
  unfold plB
  rw [List.range_succ, List.filter_append]
  simp [h]
theorem plB_no (t : ByteArray) (b k : Nat) (h : bt t k ≠ b) : plB t b (k + 1) = plB t b k := by
  unfold plB
  rw [List.range_succ, List.filter_append]
  simp [h]
theorem plB_len (t : ByteArray) (b k : Nat) : (plB t b k).length ≤ k := by
  have := List.length_filter_le (fun j => bt t j == b) (List.range k)
  simpa [plB] using this
theorem plK_len (t : ByteArray) (b : Nat) : (plK t b).length ≤ b * t.size := by
  induction b with
  | zero => simp [plK]
  | succ b ih =>
    rw [plK_succ, List.length_append, Nat.succ_mul]
    have := plB_len t b t.size
    omega
theorem pl_ok (t : ByteArray) : PlOk t (pl t) := by
  have hpw : (pl t).Pairwise (lx (clI t)) := by
    unfold pl plK
    rw [List.pairwise_flatMap]
    refine ⟨fun b _ => ?_, ?_⟩
    · unfold plB
      have h1 : (List.range t.size).Pairwise (· < ·) := List.pairwise_lt_range
      have h2 := h1.sublist (List.filter_sublist (p := fun j => bt t j == b))
      refine h2.imp_of_mem fun {x y} hx hy hlt => ?_
      have ex : bt t x = b := by have := (List.mem_filter.1 hx).2; simpa using this
      have ey : bt t y = b := by have := (List.mem_filter.1 hy).2; simpa using this
      exact lx_no (by simp [clI, ex, ey]) hlt
    · refine (List.pairwise_lt_range (n := 256)).imp fun {b c} hbc x hx y hy => ?_
      have ex : bt t x = b := by have := (List.mem_filter.1 hx).2; simpa using this
      have ey : bt t y = c := by have := (List.mem_filter.1 hy).2; simpa using this
      exact lx_yes (by simp [clI, ex, ey, hbc])
  refine ⟨?_, hpw⟩
  refine (List.perm_ext_iff_of_nodup ?_ List.nodup_range).2 fun x => ?_
  · exact hpw.imp fun {x y} h e => by
      subst e
      exact lx_asymm (clI_weak t) h h
  · simp only [pl, plK, plB, List.mem_flatMap, List.mem_filter, List.mem_range]
    constructor
    · rintro ⟨b, _, h, _⟩
      exact h
    · intro h
      exact ⟨bt t x, bt_lt _ _, h, by simp⟩
theorem pl_len (t : ByteArray) : (pl t).length = t.size := by
  have := (pl_ok t).1.length_eq
  simpa using this
def plF (t : ByteArray) : Nat → Nat := fun j => (pl t).getD j 0
theorem plF_seg {t : ByteArray} {f : Nat → Nat} (hp : (seg f 0 t.size).Perm (List.range t.size)) (hr : Ris (clI t) 0 t.size f) (j : Nat) (hj : j < t.size) : f j = plF t j := by
  have h : seg f 0 t.size = pl t := pl_unique ⟨hp, seg_pairwise hr⟩ (pl_ok t)
  unfold plF
  rw [← h, List.getD_eq_getElem?_getD, List.getElem?_eq_getElem (by rw [seg_len]; omega)]
  simp [seg]
theorem plF_get (t : ByteArray) (j : Nat) (hj : j < (pl t).length) : (pl t)[j] = plF t j := by
  unfold plF
  rw [List.getD_eq_getElem?_getD, List.getElem?_eq_getElem hj]
  rfl
theorem plF_lt (t : ByteArray) (j : Nat) (hj : j < t.size) : plF t j < t.size := by
  have hl : j < (pl t).length := by rw [pl_len]; exact hj
  rw [← plF_get t j hl]
  have := (pl_ok t).1.mem_iff.1 (List.getElem_mem hl)
  simpa using this
/-- the place after so many steps back -/
def itR (t : ByteArray) (a : Nat) : Nat → Nat
  | 0 => a
  | k + 1 => plF t (itR t a k)
theorem itR_lt (t : ByteArray) (a k : Nat) (ha : a < t.size) : itR t a k < t.size := by
  induction k with
  | zero => exact ha
  | succ k ih => exact plF_lt t _ ih
def backT (t : ByteArray) (a : Nat) : ByteArray := strF t.size fun j => bt t (itR t a (j + 1))
theorem backT_size (t : ByteArray) (a : Nat) : (backT t a).size = t.size := strF_size _ _
def fillK (t : ByteArray) (a k : Nat) : Nat → Nat := fun j => if j < k then bt t (itR t a (j + 1)) else 0
theorem fillK_lt (t : ByteArray) (a k j : Nat) : fillK t a k j < 256 := by
  unfold fillK
  split
  · exact bt_lt _ _
  · omega
theorem fillK_next (t : ByteArray) (a k j : Nat) : Sh.upd (fun j => ((fillK t a k j : Nat) : Int)) k ((bt t (itR t a (k + 1)) : Nat) : Int) j = ((fillK t a (k + 1) j : Nat) : Int) := by
  unfold Sh.upd fillK
  by_cases e : j = k
  · subst e
    rw [if_pos rfl, if_pos (by omega)]
  · rw [if_neg e]
    by_cases h : j < k
    · have h' : j < k + 1 := by omega
      simp only [h, h', if_true]
    · have h' : ¬ j < k + 1 := by omega
      simp only [h, h', if_false]
theorem fillK_all (t : ByteArray) (a : Nat) : strF t.size (fillK t a t.size) = backT t a := Sh.strF_congr _ _ _ fun j hj => by
  unfold fillK
  rw [if_pos hj]
def blK (t : ByteArray) (a k : Nat) : List UInt8 := (List.range k).map fun j => UInt8.ofNat (bt t (itR t a (j + 1)))
theorem blK_len (t : ByteArray) (a k : Nat) : (blK t a k).length = k := by simp [blK]
theorem blK_snoc (t : ByteArray) (a k : Nat) : blK t a (k + 1) = blK t a k ++ [UInt8.ofNat (((bt t (itR t a (k + 1)) : Nat) : Int)).toNat] := by
  unfold blK
  rw [List.range_succ, List.map_append]
  rfl
theorem blK_all (t : ByteArray) (a : Nat) : (⟨(blK t a t.size).toArray⟩ : ByteArray) = backT t a := rfl

/-- a TextOut as the model holds it -/
def tOut (t : ByteArray) (a c : Int) : Value := .agg #[.string t, .int .i64 a, .int .i64 c]
theorem list_eq_iff (a b : ByteArray) : (a.toList == b.toList) = decide (a = b) := by
  by_cases h : a = b
  · rw [h]; simp
  · rw [decide_eq_false h, beq_eq_false_iff_ne]
    intro e
    apply h
    rw [ByteArray.toList_eq, ByteArray.toList_eq] at e
    have e2 : a.data = b.data := by rw [← Array.toArray_toList (xs := a.data), e, Array.toArray_toList]
    cases a; cases b; simpa using e2
open Classical in
/-- what the way back answers -/
noncomputable def unR (t : ByteArray) (a : Int) : Value :=
  if 8000 < t.size then tOut ⟨#[]⟩ 0 2 else if 48 < t.size ∨ a < 0 ∨ ((t.size : Int) ≤ a ∧ 0 < a) then tOut ⟨#[]⟩ 0 1
  else if bwtT (backT t a.toNat) = t ∧ (bwtA (backT t a.toNat) : Int) = a then tOut (backT t a.toNat) 0 0 else tOut ⟨#[]⟩ 0 3
theorem unR_big {t : ByteArray} {a : Int} (h : 8000 < t.size) : unR t a = tOut ⟨#[]⟩ 0 2 := by unfold unR; rw [if_pos h]
theorem unR_form {t : ByteArray} {a : Int} (h0 : ¬ 8000 < t.size) (h : 48 < t.size ∨ a < 0 ∨ ((t.size : Int) ≤ a ∧ 0 < a)) : unR t a = tOut ⟨#[]⟩ 0 1 := by unfold unR; rw [if_neg h0, if_pos h]
theorem unR_yes {t : ByteArray} {a : Nat} (h0 : t.size ≤ 48) (ha : a < t.size ∨ a = 0) (h : bwtT (backT t a) = t ∧ bwtA (backT t a) = a) : unR t a = tOut (backT t a) 0 0 := by
  unfold unR
  rw [if_neg (by omega), if_neg (by omega), Int.toNat_natCast, if_pos ⟨h.1, by rw [h.2]⟩]
theorem unR_no {t : ByteArray} {a : Nat} (h0 : t.size ≤ 48) (ha : a < t.size ∨ a = 0) (h : ¬ (bwtT (backT t a) = t ∧ bwtA (backT t a) = a)) : unR t a = tOut ⟨#[]⟩ 0 3 := by
  unfold unR
  rw [if_neg (by omega), if_neg (by omega), Int.toNat_natCast, if_neg (fun q => h ⟨q.1, by omega⟩)]
theorem unR_case (t : ByteArray) (a : Int) : ∃ b c, unR t a = .agg #[.string b, .int .i64 0, .int .i64 c] := by
  unfold unR tOut
  split
  · exact ⟨_, _, rfl⟩
  · split
    · exact ⟨_, _, rfl⟩
    · split <;> exact ⟨_, _, rfl⟩
end Go.Proofs.Ytmkpakhpjgocjaa.So
