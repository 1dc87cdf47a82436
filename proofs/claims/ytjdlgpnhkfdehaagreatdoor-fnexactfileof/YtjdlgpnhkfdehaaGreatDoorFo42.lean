/- Texts put together: LsRight, LsArg, UnsealWalks, SealMath, UnAns, LfPlain, GetSpec. -/
import Derived.Test.YtjdlgpnhkfdehaaGreatDoorFo41
import Derived.Test.YtjdlgpnhkfdehaaGreatDoorFo23
import Derived.Test.YtjdlgpnhkfdehaaGreatDoorFo29
import Derived.Deep.RegionWith
import Derived.Test.YtjdlgpnhkfdehaaGreatDoorFo27
import Derived.Test.YtjdlgpnhkfdehaaGreatDoorFo11
import Derived.Test.YtjdlgpnhkfdehaaGreatDoorFo28
import Derived.WalkKit
import Derived.WalkSpells
import Derived.WalkLawsBesides
/- A List is right: what both sides answer, and how many blocks it is of. -/
namespace Go.Proofs.YtjdlgpnhkfdehaaGreatDoor.Ls
open Go.RowKit
open Go.Proofs.YtjdlgpnhkfdehaaGreatDoor.Bk (cnt cnt_le count_any)
open Go.Proofs.YtjdlgpnhkfdehaaGreatDoor.Bi (is_yes is_no)
theorem hideL {p : Prop} (h : p) : Hid p := h
def rightB (z b : Int) (r : ByteArray) : Bool := decide (0 ≤ z ∧ z ≤ 1000 ∧ 1 ≤ b ∧ b ≤ 48 ∧ r.size = 32 ∧ z ≤ b * 64)
def lV (z b : Int) (r : ByteArray) : Value := .agg #[.int .i64 z, .int .i64 b, .string r]
def countN (z b : Int) (r : ByteArray) : Nat := if rightB z b r = true then cnt z.toNat b.toNat else 0
theorem rightB_yes {z b : Int} {r : ByteArray} (h : rightB z b r = true) : 0 ≤ z ∧ z ≤ 1000 ∧ 1 ≤ b ∧ b ≤ 48 ∧ r.size = 32 ∧ z ≤ b * 64 := of_decide_eq_true h
theorem countN_yes {p k : Nat} {r : ByteArray} (h : rightB p k r = true) : countN p k r = cnt p k ∧ cnt p k ≤ 64 := by
 have h1 := rightB_yes h
 unfold countN
 rw [if_pos h]
 refine ⟨rfl, (cnt_le (by omega)).2 (by omega)⟩
theorem countN_no {z b : Int} {r : ByteArray} (h : rightB z b r = false) : countN z b r = 0 := by
 unfold countN
 rw [h]
 rfl
theorem countN_le (z b : Int) (r : ByteArray) : countN z b r ≤ 64 := by
 cases h : rightB z b r with
 | false => rw [countN_no h]; omega
 | true =>
  have h1 := rightB_yes h
  obtain ⟨p, rfl⟩ := Int.eq_ofNat_of_zero_le h1.1
  obtain ⟨k, rfl⟩ := Int.eq_ofNat_of_zero_le (show 0 ≤ b by omega)
  have := countN_yes h
  omega
set_option maxRecDepth 100000 in
set_option maxHeartbeats 1000000 in
theorem right_impl (z b : Int) (r : ByteArray) (w : World) :
  Calls Tryz.prog 37 #[lV z b r] w fun e w' => e = .returned (.bool (rightB z b r)) ∧ Below w.heap.size w w' := by
 unfold lV
 by_cases h1 : z < 0
 ·have HF : Hid (rightB z b r = false) := by unfold Hid rightB; simp; omega
  rw [HF.out]
  go_enter Tryz.func37, Tryz.ntmps37
  go_wp2_with fail
  go_ret
  exact ⟨rfl, (Below.refl _ _).alloc (Nat.le_refl _) _⟩
 ·by_cases h2 : 1000 < z
  ·have HF : Hid (rightB z b r = false) := by unfold Hid rightB; simp; omega
   rw [HF.out]
   go_enter Tryz.func37, Tryz.ntmps37
   go_wp2_with fail
   go_ret
   exact ⟨rfl, (Below.refl _ _).alloc (Nat.le_refl _) _⟩
  ·by_cases h3 : b < 1
   ·have HF : Hid (rightB z b r = false) := by unfold Hid rightB; simp; omega
    rw [HF.out]
    go_enter Tryz.func37, Tryz.ntmps37
    go_wp2_with fail
    go_ret
    exact ⟨rfl, (Below.refl _ _).alloc (Nat.le_refl _) _⟩
   ·by_cases h4 : 48 < b
    ·have HF : Hid (rightB z b r = false) := by unfold Hid rightB; simp; omega
     rw [HF.out]
     go_enter Tryz.func37, Tryz.ntmps37
     go_wp2_with fail
     go_ret
     exact ⟨rfl, (Below.refl _ _).alloc (Nat.le_refl _) _⟩
    ·by_cases h5 : r.size = 32
     ·have HF : Hid (rightB z b r = decide (z ≤ b * 64)) := by unfold Hid rightB; rw [decide_eq_decide]; omega
      rw [HF.out]
      have h5' : ((r.size : Int) == 32) = true := by rw [h5]; rfl
      have H5 := hideL h5
      clear h5
      have hw : IntKind.i64.wrap (b * 64) = b * 64 := by rw [IntKind.wrap_i64]; omega
      go_enter Tryz.func37, Tryz.ntmps37
      go_wp2_with fail
      go_ret
      exact ⟨rfl, (Below.refl _ _).alloc (Nat.le_refl _) _⟩
     ·have HF : Hid (rightB z b r = false) := by unfold Hid rightB; simp; omega
      rw [HF.out]
      have h5' : ((r.size : Int) == 32) = false := beq_eq_false_iff_ne.2 (by omega)
      go_enter Tryz.func37, Tryz.ntmps37
      go_wp2_with fail
      go_ret
      exact ⟨rfl, (Below.refl _ _).alloc (Nat.le_refl _) _⟩
set_option maxRecDepth 100000 in
set_option maxHeartbeats 1000000 in
theorem right_spec (z b : Int) (r : ByteArray) (w : World) :
  Calls Tryz.prog 38 #[lV z b r] w fun e w' => e = .returned (.bool (rightB z b r)) ∧ Below w.heap.size w w' := by
 unfold lV
 have hbl : ∀ o, Below w.heap.size w (w.alloc o) := fun o => (Below.refl _ _).alloc (Nat.le_refl _) _
 by_cases h1 : 0 ≤ z ∧ z ≤ 1000
 ·have H1 := hideL (fun W => is_yes z 0 1000 W h1.1 h1.2)
  obtain ⟨p, rfl⟩ := Int.eq_ofNat_of_zero_le h1.1
  by_cases h2 : 1 ≤ b ∧ b ≤ 48
  ·have H2 := hideL (fun W => is_yes b 1 48 W h2.1 h2.2)
   obtain ⟨k, rfl⟩ := Int.eq_ofNat_of_zero_le (show 0 ≤ b by omega)
   by_cases h5 : r.size = 32
   ·have h5' : ((r.size : Int) == 32) = true := by rw [h5]; rfl
    have HC := hideL (fun W => count_any p k W (by omega) (by omega) (by omega))
    have HE := hideL (cnt_le (p := p) (k := k) (by omega))
    have H12 := hideL (And.intro h1 h2)
    have H5 := hideL h5
    clear h1 h2 h5
    by_cases h6 : cnt p k ≤ 64
    ·have HF : Hid (rightB p k r = true) := by unfold Hid rightB; have := HE.out.1 h6; have := H12.out; have := H5.out; simp; omega
     have h6' : ((cnt p k : Nat) : Int) ≤ 64 := by omega
     rw [HF.out]
     generalize cnt p k = c at HC h6'
     clear h6 HE HF H12 H5
     go_enter Tryz.func38, Tryz.ntmps38
     go_wp2_with fail
     refine (H1.out _).mono ?_
     rintro e w1 ⟨rfl, hw⟩
     subst w1
     go_wp2_with fail
     refine (H2.out _).mono ?_
     rintro e w1 ⟨rfl, hw⟩
     subst w1
     go_wp2_with fail
     refine (HC.out _).mono ?_
     rintro e w1 ⟨rfl, hw⟩
     subst w1
     go_wp2_with fail
     go_ret
     exact ⟨rfl, hbl _⟩
    ·have HF : Hid (rightB p k r = false) := by unfold Hid rightB; have := HE.out.2; have := H12.out; have := H5.out; simp; omega
     have h6' : decide (((cnt p k : Nat) : Int) ≤ 64) = false := by simp; omega
     rw [HF.out]
     generalize cnt p k = c at HC h6'
     clear h6 HE HF H12 H5
     go_enter Tryz.func38, Tryz.ntmps38
     go_wp2_with fail
     refine (H1.out _).mono ?_
     rintro e w1 ⟨rfl, hw⟩
     subst w1
     go_wp2_with fail
     refine (H2.out _).mono ?_
     rintro e w1 ⟨rfl, hw⟩
     subst w1
     go_wp2_with fail
     refine (HC.out _).mono ?_
     rintro e w1 ⟨rfl, hw⟩
     subst w1
     go_wp2_with fail
     go_ret
     exact ⟨rfl, hbl _⟩
   ·have HF : Hid (rightB p k r = false) := by unfold Hid rightB; simp; omega
    rw [HF.out]
    have h5' : ((r.size : Int) == 32) = false := beq_eq_false_iff_ne.2 (by omega)
    clear HF
    go_enter Tryz.func38, Tryz.ntmps38
    go_wp2_with fail
    refine (H1.out _).mono ?_
    rintro e w1 ⟨rfl, hw⟩
    subst w1
    go_wp2_with fail
    refine (H2.out _).mono ?_
    rintro e w1 ⟨rfl, hw⟩
    subst w1
    go_wp2_with fail
    go_ret
    exact ⟨rfl, hbl _⟩
  ·have H2 := hideL (fun W => is_no b 1 48 W (by omega))
   have HF : Hid (rightB p b r = false) := by unfold Hid rightB; simp; omega
   rw [HF.out]
   clear HF h2
   go_enter Tryz.func38, Tryz.ntmps38
   go_wp2_with fail
   refine (H1.out _).mono ?_
   rintro e w1 ⟨rfl, hw⟩
   subst w1
   go_wp2_with fail
   refine (H2.out _).mono ?_
   rintro e w1 ⟨rfl, hw⟩
   subst w1
   go_wp2_with fail
   go_ret
   exact ⟨rfl, hbl _⟩
 ·have H1 := hideL (fun W => is_no z 0 1000 W (by omega))
  have HF : Hid (rightB z b r = false) := by unfold Hid rightB; simp; omega
  rw [HF.out]
  clear HF h1
  go_enter Tryz.func38, Tryz.ntmps38
  go_wp2_with fail
  refine (H1.out _).mono ?_
  rintro e w1 ⟨rfl, hw⟩
  subst w1
  go_wp2_with fail
  go_ret
  exact ⟨rfl, hbl _⟩
set_option maxRecDepth 100000 in
set_option maxHeartbeats 1000000 in
theorem count_impl (z b : Int) (r : ByteArray) (w : World) :
  Calls Tryz.prog 39 #[lV z b r] w fun e w' => e = .returned (.int .i64 (countN z b r : Nat)) ∧ Below w.heap.size w w' := by
 have HR := hideL (fun W => right_impl z b r W)
 cases hc : rightB z b r with
 | false =>
  have HF := hideL (countN_no hc)
  rw [hc] at HR
  rw [HF.out]
  clear HF hc
  unfold lV at HR ⊢
  go_enter Tryz.func39, Tryz.ntmps39
  go_wp2_with fail
  refine (HR.out _).mono ?_
  rintro e w1 ⟨rfl, hb1⟩
  have HB1 := hideL (((Below.refl w.heap.size w).alloc (Nat.le_refl _) _).trans (hb1.mono (by simp)))
  clear hb1
  go_wp2_with fail
  go_ret
  exact ⟨rfl, HB1.out⟩
 | true =>
  have h1 := rightB_yes hc
  obtain ⟨p, rfl⟩ := Int.eq_ofNat_of_zero_le h1.1
  obtain ⟨k, rfl⟩ := Int.eq_ofNat_of_zero_le (show 0 ≤ b by omega)
  obtain ⟨HF, hcb⟩ := countN_yes hc
  have HF := hideL HF
  rw [HF.out]
  have hq : ((p : Int) + k - 1).tdiv k = ((cnt p k : Nat) : Int) := by
   unfold cnt
   rw [Int.tdiv_eq_ediv_of_nonneg (by omega), Int.natCast_ediv]
   congr 1
   omega
  have hk0 : ((k : Int) == 0) = false := by simp; omega
  rw [hc] at HR
  clear HF hc
  generalize cnt p k = c at hq hcb ⊢
  obtain ⟨v, hv⟩ : ∃ v, v = lV p k r := ⟨_, rfl⟩
  unfold lV at HR ⊢
  go_enter Tryz.func39, Tryz.ntmps39
  go_wp2_with fail
  have HX : Hid ((w.alloc (.cells #[.int .i64 p, .int .i64 k, .string r] 35)).heap[w.heap.size]? = some (.cells #[.int .i64 p, .int .i64 k, .string r] 35 (0, 0))) := heap_alloc_new w _
  refine (HR.out _).mono ?_
  rintro e w1 ⟨rfl, hb1⟩
  have HB1 := hideL (((Below.refl w.heap.size w).alloc (Nat.le_refl _) _).trans (hb1.mono (by simp)))
  have HX1 := hideL ((hb1.block _ (by simp)).trans HX.out)
  clear hb1 HX
  have c0 : w1.cell? ⟨w.heap.size, 0, none⟩ = some (.int .i64 p) := cell_of_row w1 _ 0 _ _ _ HX1.out
  have c1 : w1.cell? ⟨w.heap.size, 1, none⟩ = some (.int .i64 k) := cell_of_row w1 _ 1 _ _ _ HX1.out
  go_wp2_with fail
  go_ret
  exact ⟨rfl, HB1.out⟩
end Go.Proofs.YtjdlgpnhkfdehaaGreatDoor.Ls


/- A List handed to a law: its bytes counted, and the List of impl made of it. -/
namespace Go.Proofs.YtjdlgpnhkfdehaaGreatDoor.Ls
open Go.RowKit
set_option maxRecDepth 100000 in
theorem sz_yes (z b : Int) (r : ByteArray) (w : World) (h : r.size ≤ 1048576) :
  Calls Tryz.prog 49 #[lV z b r, .int .i64 1048576] w fun e w' => e = .returned (.int .i64 (1048576 - (r.size : Int))) ∧ Below w.heap.size w w' := by
 unfold lV
 have hwr : IntKind.i64.wrap (1048576 - (r.size : Int)) = 1048576 - (r.size : Int) := by rw [IntKind.wrap_i64]; omega
 have h1 : ¬ (1048576 - (r.size : Int)) < 0 := by omega
 have h2 : decide ((1048576 - (r.size : Int)) < 0) = false := by simp; omega
 go_enter Tryz.func49, Tryz.ntmps49
 go_wp2_with fail
 go_ret
 exact ⟨rfl, (Below.refl _ _).alloc (Nat.le_refl _) _⟩
set_option maxRecDepth 100000 in
theorem sz_no (z b : Int) (r : ByteArray) (w : World) (hr : r.size ≤ 9223372036854775807) (h : 1048576 < r.size) :
  Calls Tryz.prog 49 #[lV z b r, .int .i64 1048576] w fun e w' => e = .returned (.int .i64 (-1)) ∧ Below w.heap.size w w' := by
 unfold lV
 have hwr : IntKind.i64.wrap (1048576 - (r.size : Int)) = 1048576 - (r.size : Int) := by rw [IntKind.wrap_i64]; omega
 have h1 : (1048576 - (r.size : Int)) < 0 := by omega
 go_enter Tryz.func49, Tryz.ntmps49
 go_wp2_with fail
 go_ret
 exact ⟨rfl, (Below.refl _ _).alloc (Nat.le_refl _) _⟩
set_option maxRecDepth 100000 in
set_option maxHeartbeats 1000000 in
theorem to_any (z b : Int) (r : ByteArray) (w : World) :
  Calls Tryz.prog 51 #[lV z b r] w fun e w' => e = .returned (lV z b r) ∧ Below w.heap.size w w' := by
 unfold lV
 go_enter Tryz.func51, Tryz.ntmps51
 go_wp2
 refine bodyPost_ret (v := .agg #[.int .i64 z, .int .i64 b, .string r]) (by simp [results, Tryz.results51, go_sem]) rfl ⟨rfl, ?_⟩
 exact (((Below.refl _ _).alloc (Nat.le_refl _) _).alloc (by simp) _).alloc (by simp; omega) _
theorem blkL {w w' : World} {g : Nat} {x : Obj} (h : w.heap[g]? = some x) (hb : Below w.heap.size w w') : w'.heap[g]? = some x := (hb.block g (Array.getElem?_eq_some_iff.1 h).1).trans h
theorem lowL {w0 w w' : World} (h : Below w0.heap.size w0 w) (hb : Below w.heap.size w w') : Below w0.heap.size w0 w' := h.trans (hb.mono h.size)
theorem cells3 {W : World} {g : Nat} {x y z : Value} {t : TypeId} (h : W.heap[g]? = some (.cells #[x, y, z] t (0, 0))) : W.cell? ⟨g, 0, none⟩ = some x ∧ W.cell? ⟨g, 1, none⟩ = some y ∧ W.cell? ⟨g, 2, none⟩ = some z :=
 ⟨cell_of_row W g 0 _ _ _ h, cell_of_row W g 1 _ _ _ h, cell_of_row W g 2 _ _ _ h⟩
end Go.Proofs.YtjdlgpnhkfdehaaGreatDoor.Ls


/- The walks of the two functions that open a sealed text: each answers Se.unsealV of its text, and writes nothing that was there. -/
namespace Go.Proofs.YtjdlgpnhkfdehaaGreatDoor.Se
open Go.RowKit
open Go.Proofs.YtjdlgpnhkfdehaaGreatDoor.Nu (bv arr_string ret_strJ hideJ)
def outV (t : ByteArray) (at_ code : Int) : Value := .agg #[.string t, .int .i64 at_, .int .i64 code]
def unsealV (s : ByteArray) : Value :=
 if 8000 < s.size then outV ⟨#[]⟩ 0 2 else if s.size < 4 then outV ⟨#[]⟩ 0 4
 else if sealV (s.extract 0 (s.size - 4)) = s then outV (s.extract 0 (s.size - 4)) 0 0 else outV ⟨#[]⟩ 0 5
theorem bcell {W w1 : World} (hb : Below W.heap.size W w1) : (∀ b o, b < W.heap.size → w1.cell? ⟨b, o, none⟩ = W.cell? ⟨b, o, none⟩) ∧ (∀ b o, b < W.heap.size → w1.frozen? ⟨b, o, none⟩ = W.frozen? ⟨b, o, none⟩) :=
 ⟨fun b o h => hb.cell (p := ⟨b, o, none⟩) h, fun b o h => hb.frozen (p := ⟨b, o, none⟩) h⟩
theorem below3 {w wa wb : World} {o : Obj} (h1 : Below (w.alloc o).heap.size (w.alloc o) wa) (h2 : Below (w.alloc o).heap.size wa wb) : Below w.heap.size w wb :=
 ((Below.refl w.heap.size w).alloc (Nat.le_refl _) o).trans ((h1.trans h2).mono (by simp))
theorem below2d {w wa : World} {o : Obj} (h1 : Below (w.alloc o).drew.heap.size (w.alloc o).drew wa) : Below w.heap.size w wa :=
 ((Below.refl w.heap.size w).alloc (Nat.le_refl _) o).drew.trans (h1.mono (by simp))
theorem list_eq_iff (a b : ByteArray) : (a.toList == b.toList) = decide (a = b) := by
 by_cases h : a = b
 ·rw [h]; simp
 ·rw [decide_eq_false h, beq_eq_false_iff_ne]
  intro e
  apply h
  rw [ByteArray.toList_eq, ByteArray.toList_eq] at e
  have e2 : a.data = b.data := by rw [← Array.toArray_toList (xs := a.data), e, Array.toArray_toList]
  cases a; cases b; simpa using e2
theorem unsealV_yes (s t : ByteArray) (h1 : ¬ 8000 < s.size) (h2 : ¬ s.size < 4) (ht : t = s.extract 0 (s.size - 4)) (h : sealV t = s) : unsealV s = outV t 0 0 := by
 unfold unsealV
 rw [if_neg h1, if_neg h2, ← ht, if_pos h]
theorem unsealV_no (s t : ByteArray) (h1 : ¬ 8000 < s.size) (h2 : ¬ s.size < 4) (ht : t = s.extract 0 (s.size - 4)) (h : ¬ sealV t = s) : unsealV s = outV ⟨#[]⟩ 0 5 := by
 unfold unsealV
 rw [if_neg h1, if_neg h2, ← ht, if_neg h]
set_option maxRecDepth 100000 in
set_option maxHeartbeats 1000000 in
theorem unseal_impl (s : ByteArray) (w : World) (hs : s.size ≤ maxLen) :
  Calls Tryz.prog 63 #[.string s] w fun e w' => e = .returned (unsealV s) ∧ Below w.heap.size w w' := by
 unfold maxLen at hs
 by_cases h1 : 8000 < s.size
 ·have HV := hideJ (show unsealV s = outV ⟨#[]⟩ 0 2 by unfold unsealV; rw [if_pos h1])
  go_enter Tryz.func63, Tryz.ntmps63
  go_wp2
  refine bodyPost_ret (v := outV ⟨#[]⟩ 0 2) (by simp [results, outV, Tryz.results63, go_sem]) rfl ⟨by rw [HV.out], ?_⟩
  exact (Below.refl _ _).alloc (Nat.le_refl _) _
 ·by_cases h2 : s.size < 4
  ·have HV := hideJ (show unsealV s = outV ⟨#[]⟩ 0 4 by unfold unsealV; rw [if_neg h1, if_pos h2])
   go_enter Tryz.func63, Tryz.ntmps63
   go_wp2
   refine bodyPost_ret (v := outV ⟨#[]⟩ 0 4) (by simp [results, outV, Tryz.results63, go_sem]) rfl ⟨by rw [HV.out], ?_⟩
   exact (Below.refl _ _).alloc (Nat.le_refl _) _
  ·obtain ⟨t, ht⟩ : ∃ t, t = s.extract 0 (s.size - 4) := ⟨_, rfl⟩
   have hts : t.size ≤ 7996 := by rw [ht]; simp; omega
   have HT := hideJ ht
   by_cases hq : sealV t = s
   ·have HV := hideJ (unsealV_yes s t h1 h2 ht hq)
    have hB : ((sealV t).toList == s.toList) = true := by rw [list_eq_iff]; exact decide_eq_true hq
    clear ht hq
    go_enter Tryz.func63, Tryz.ntmps63
    go_wp2_with fail
    rw [show ((s.size : Int) - 4) = ((s.size - 4 : Nat) : Int) from by omega]
    refine (Nu.cut_any s 0 (s.size - 4) _ (by omega) (by omega) (by omega)).mono ?_
    rw [← HT.out]
    rintro e wa ⟨rfl, hb1⟩
    obtain ⟨hc1, hf1⟩ := bcell hb1
    have hz1 : w.heap.size + 1 ≤ wa.heap.size := by have := hb1.size; simpa using this
    go_wp2_with fail
    refine (seal_impl t _ (by unfold maxLen; omega)).mono ?_
    rintro e wb ⟨rfl, hb2⟩
    obtain ⟨hc2, hf2⟩ := bcell hb2
    have hz2 : wa.heap.size ≤ wb.heap.size := hb2.size
    have hlt : w.heap.size < wa.heap.size := by omega
    go_wp2
    refine bodyPost_ret (v := outV t 0 0) (by simp [results, outV, Tryz.results63, go_sem, hc2, hc1, hlt]) rfl ⟨by rw [HV.out], ?_⟩
    exact ((below3 hb1 (hb2.mono (by simpa using hz1))).setCell (Nat.le_refl _) _ |>.setCell (Nat.le_refl _) _).setCell (Nat.le_refl _) _
   ·have HV := hideJ (unsealV_no s t h1 h2 ht hq)
    have hB : ((sealV t).toList == s.toList) = false := by rw [list_eq_iff]; exact decide_eq_false hq
    clear ht hq
    go_enter Tryz.func63, Tryz.ntmps63
    go_wp2_with fail
    rw [show ((s.size : Int) - 4) = ((s.size - 4 : Nat) : Int) from by omega]
    refine (Nu.cut_any s 0 (s.size - 4) _ (by omega) (by omega) (by omega)).mono ?_
    rw [← HT.out]
    rintro e wa ⟨rfl, hb1⟩
    obtain ⟨hc1, hf1⟩ := bcell hb1
    have hz1 : w.heap.size + 1 ≤ wa.heap.size := by have := hb1.size; simpa using this
    go_wp2_with fail
    refine (seal_impl t _ (by unfold maxLen; omega)).mono ?_
    rintro e wb ⟨rfl, hb2⟩
    obtain ⟨hc2, hf2⟩ := bcell hb2
    have hz2 : wa.heap.size ≤ wb.heap.size := hb2.size
    have hlt : w.heap.size < wa.heap.size := by omega
    go_wp2
    refine bodyPost_ret (v := outV ⟨#[]⟩ 0 5) (by simp [results, outV, Tryz.results63, go_sem, hc2, hc1, hlt]) rfl ⟨by rw [HV.out], ?_⟩
    exact ((below3 hb1 (hb2.mono (by simpa using hz1))).setCell (Nat.le_refl _) _ |>.setCell (Nat.le_refl _) _).setCell (Nat.le_refl _) _
end Go.Proofs.YtjdlgpnhkfdehaaGreatDoor.Se


/- Plain mathematics of seals: the register's steps lose nothing, so that a text with one byte turned has another CRC; and a CRC goes on from text to text. -/
namespace Go.Proofs.YtjdlgpnhkfdehaaGreatDoor.Se
def sealL (l : List UInt8) : List UInt8 := l ++ fourL (Cr.fin (Cr.crcL (Cr.fin 0) l))
theorem unseal_back (t : ByteArray) (ht : t.size ≤ 7996) : unsealV (sealV t) = outV t 0 0 := by
 have hs : sealV t = t ++ fourS (crcOf t) := by unfold sealV; rw [if_pos ht]
 have hz : (sealV t).size = t.size + 4 := by rw [hs]; simp [ByteArray.size_append, fourS_size]
 have hx : (sealV t).extract 0 ((sealV t).size - 4) = t := by
  rw [hz, hs, Nat.add_sub_cancel]
  exact ByteArray.extract_append_eq_left rfl
 unfold unsealV
 rw [if_neg (by omega), if_neg (by omega), hx, if_pos rfl]
end Go.Proofs.YtjdlgpnhkfdehaaGreatDoor.Se


/- Plain mathematics of BlockUnpack: what it answers, whatever text it is given. -/
namespace Go.Proofs.YtjdlgpnhkfdehaaGreatDoor.Up
open Go.Proofs.YtjdlgpnhkfdehaaGreatDoor.Pk
open Go.Proofs.YtjdlgpnhkfdehaaGreatDoor.Se (sealV unsealV outV unseal_back unsealV_yes unsealV_no)
open Go.Proofs.YtjdlgpnhkfdehaaGreatDoor.Sh (bt)
theorem unseal_case (s : ByteArray) : (∃ t, unsealV s = outV t 0 0 ∧ sealV t = s ∧ t.size ≤ 7996 ∧ 4 ≤ s.size) ∨ ∃ c : Int, ¬ c = 0 ∧ unsealV s = outV ⟨#[]⟩ 0 c := by
 by_cases h1 : 8000 < s.size
 ·refine .inr ⟨2, by decide, ?_⟩
  unfold unsealV
  rw [if_pos h1]
 ·by_cases h2 : s.size < 4
  ·refine .inr ⟨4, by decide, ?_⟩
   unfold unsealV
   rw [if_neg h1, if_pos h2]
  ·by_cases h : sealV (s.extract 0 (s.size - 4)) = s
   ·refine .inl ⟨_, unsealV_yes s _ h1 h2 rfl h, h, ?_, by omega⟩
    rw [ByteArray.size_extract]
    omega
   ·exact .inr ⟨5, by decide, unsealV_no s _ h1 h2 rfl h⟩
noncomputable def ansT (t : ByteArray) : Value := open Classical in if h : ∃ b : ByteArray, b.size ≤ 48 ∧ innerV b = t then outV (Classical.choose h) 0 0 else outV ⟨#[]⟩ 0 3
noncomputable def ansU (s : ByteArray) : Value := open Classical in if h : ∃ t, unsealV s = outV t 0 0 then ansT (Classical.choose h) else unsealV s
theorem ansU_yes {s t : ByteArray} (h : unsealV s = outV t 0 0) : ansU s = ansT t := by
 have hx : ∃ t, unsealV s = outV t 0 0 := ⟨t, h⟩
 unfold ansU
 rw [dif_pos hx]
 have e := h.symm.trans (Classical.choose_spec hx)
 generalize Classical.choose hx = c at e ⊢
 unfold outV at e
 simp at e
 rw [e]
theorem ansU_no {s : ByteArray} {c : Int} (h0 : ¬ c = 0) (h : unsealV s = outV ⟨#[]⟩ 0 c) : ansU s = outV ⟨#[]⟩ 0 c := by
 have hx : ¬ ∃ t, unsealV s = outV t 0 0 := by
  rintro ⟨t, ht⟩
  rw [h] at ht
  unfold outV at ht
  simp at ht
  exact h0 ht.2
 unfold ansU
 rw [dif_neg hx, h]
theorem inner_size {b : ByteArray} (h : b.size ≤ 48) : (innerV b).size ≤ 49 := by
 unfold innerV
 split
 ·omega
 ·rw [plainV_size]; omega
theorem pack_inner {s t b : ByteArray} (h : sealV t = s) (ht : t.size ≤ 7996) (h4 : 4 ≤ s.size) : packB b = s ↔ b.size ≤ 48 ∧ innerV b = t := by
 unfold packB
 by_cases hb : 48 < b.size
 ·rw [if_pos hb]
  constructor
  ·intro e
   rw [← e] at h4
   exact absurd h4 (by decide)
  ·intro e
   omega
 ·rw [if_neg hb]
  have hi := inner_size (b := b) (by omega)
  constructor
  ·intro e
   refine ⟨by omega, ?_⟩
   have h1 := unseal_back (innerV b) (by omega)
   have h2 := unseal_back t ht
   rw [e, ← h] at h1
   rw [h1] at h2
   unfold outV at h2
   simp at h2
   exact h2
  ·intro e
   rw [e.2, h]
theorem ansT_read {s t r : ByteArray} (h : sealV t = s) (ht : t.size ≤ 7996) (h4 : 4 ≤ s.size) (hr : ∀ b : ByteArray, b.size ≤ 48 → innerV b = t → r = b) : (packB r = s → ansT t = outV r 0 0) ∧ (¬ packB r = s → ansT t = outV ⟨#[]⟩ 0 3) := by
 refine ⟨fun e => ?_, fun e => ?_⟩
 ·have hx : ∃ b : ByteArray, b.size ≤ 48 ∧ innerV b = t := ⟨r, (pack_inner h ht h4).1 e⟩
  unfold ansT
  rw [dif_pos hx]
  have := Classical.choose_spec hx
  rw [← hr _ this.1 this.2]
 ·unfold ansT
  rw [dif_neg]
  rintro ⟨b, h1, h2⟩
  refine e ?_
  rw [hr b h1 h2]
  exact (pack_inner h ht h4).2 ⟨h1, h2⟩
theorem ansT_none {t : ByteArray} (hr : ∀ b : ByteArray, b.size ≤ 48 → ¬ innerV b = t) : ansT t = outV ⟨#[]⟩ 0 3 := by
 unfold ansT
 rw [dif_neg]
 rintro ⟨b, h1, h2⟩
 exact hr b h1 h2
theorem inner_case {t b : ByteArray} (h : b.size ≤ 48) (ht : innerV b = t) : (Good t b ∧ 0 < t.size ∧ bt t 0 = 1) ∨ (t = plainV b ∧ 0 < t.size ∧ bt t 0 = 0 ∧ t.extract 1 t.size = b) := by
 unfold innerV at ht
 split at ht
 ·rename_i hc
  refine .inl ⟨⟨h, ht.symm, hc⟩, ?_, ?_⟩
  ·rw [← ht]
   show 0 < (shortL b).toArray.size
   rw [List.size_toArray]
   unfold shortL
   simp
  ·rw [← ht]
   rfl
 ·refine .inr ⟨ht.symm, ?_, ?_, ?_⟩
  ·rw [← ht, plainV_size]; omega
  ·rw [← ht]
   rfl
  ·rw [← ht]
   refine Bi.ext_list ?_
   rw [ByteArray.data_extract, Array.toList_extract, List.extract_eq_take_drop, plainV_size]
   show (List.drop 1 (0 :: b.data.toList)).take _ = _
   rw [List.drop_one, List.tail_cons, List.take_of_length_le]
   rw [Array.length_toList]
   show b.size ≤ _
   omega
end Go.Proofs.YtjdlgpnhkfdehaaGreatDoor.Up


/- What FileOf puts together: plain mathematics. -/
namespace Go.Proofs.YtjdlgpnhkfdehaaGreatDoor.Ls
open Go.RowKit
open Go.Proofs.YtjdlgpnhkfdehaaGreatDoor.Up (ansU ansT ansU_yes ansU_no unseal_case)
open Go.Proofs.YtjdlgpnhkfdehaaGreatDoor.Se (outV)
open Go.Proofs.YtjdlgpnhkfdehaaGreatDoor.Pk (cat)
noncomputable def blkT (s : ByteArray) : Option ByteArray := open Classical in if h : ∃ t, ansU s = outV t 0 0 then some (Classical.choose h) else none
theorem outV_same {t u : ByteArray} {c d : Int} (h : outV t 0 c = outV u 0 d) : t = u ∧ c = d := by
 unfold outV at h
 simp at h
 exact h
theorem ansU_out (s : ByteArray) : ∃ t c, ansU s = outV t 0 c := by
 rcases unseal_case s with ⟨t, h, _⟩ | ⟨c, h0, h⟩
 ·rw [ansU_yes h]
  unfold ansT
  split <;> exact ⟨_, _, rfl⟩
 ·rw [ansU_no h0 h]
  exact ⟨_, _, rfl⟩
theorem blkT_yes {s t : ByteArray} (h : ansU s = outV t 0 0) : blkT s = some t := by
 have hx : ∃ t, ansU s = outV t 0 0 := ⟨t, h⟩
 unfold blkT
 rw [dif_pos hx]
 have := h.symm.trans (Classical.choose_spec hx)
 rw [← (outV_same this).1]
theorem blkT_no {s t : ByteArray} {c : Int} (h : ansU s = outV t 0 c) (hc : ¬ c = 0) : blkT s = none := by
 unfold blkT
 rw [dif_neg]
 rintro ⟨u, hu⟩
 rw [h] at hu
 exact hc (outV_same hu).2
def mustN (z b : Int) (i : Nat) : Int := min b (z - i * b)
noncomputable def fileL (z b : Int) : Nat → List ByteArray → List ByteArray
 | _, [] => []
 | i, p :: ps => match blkT p with
  | none => []
  | some t => if (t.size : Int) = mustN z b i then t :: fileL z b (i + 1) ps else []
theorem fileL_next {z b : Int} {i : Nat} {p t : ByteArray} {ps : List ByteArray} (h : blkT p = some t) (hz : (t.size : Int) = mustN z b i) : fileL z b i (p :: ps) = t :: fileL z b (i + 1) ps := by
 rw [fileL, h]
 exact if_pos hz
theorem fileL_none {z b : Int} {i : Nat} {p : ByteArray} {ps : List ByteArray} (h : blkT p = none) : fileL z b i (p :: ps) = [] := by
 rw [fileL, h]
theorem fileL_size {z b : Int} {i : Nat} {p t : ByteArray} {ps : List ByteArray} (h : blkT p = some t) (hz : ¬ (t.size : Int) = mustN z b i) : fileL z b i (p :: ps) = [] := by
 rw [fileL, h]
 exact if_neg hz
noncomputable def fileV (z b : Int) (r : ByteArray) (l : List ByteArray) : ByteArray := if 400 < l.length then ⟨#[]⟩ else ⟨(cat (fileL z b 0 (l.take (countN z b r)))).toArray⟩
def FileF (z b : Int) (q : List ByteArray) (k : Nat) (D : List ByteArray) : Prop := D.length = k ∧ (∀ x ∈ D, (x.size : Int) ≤ b) ∧ fileL z b 0 q = D ++ fileL z b k (q.drop k)
theorem file_none (z b : Int) (q : List ByteArray) : FileF z b q 0 [] := ⟨rfl, fun _ h => absurd h (List.not_mem_nil), rfl⟩
theorem file_next {z b : Int} {q D : List ByteArray} {k : Nat} {t : ByteArray} (h : FileF z b q k D) (hk : k < q.length) (ht : blkT q[k] = some t) (hz : (t.size : Int) = mustN z b k) : FileF z b q (k + 1) (D ++ [t]) := by
 refine ⟨by rw [List.length_append, h.1]; rfl, fun x hx => ?_, ?_⟩
 ·rcases List.mem_append.1 hx with h1 | h1
  ·exact h.2.1 x h1
  ·rw [List.mem_singleton] at h1
   subst h1
   rw [hz]
   unfold mustN
   omega
 ·rw [h.2.2, List.drop_eq_getElem_cons hk, fileL_next ht hz, List.append_assoc]
  rfl
theorem file_stop {z b : Int} {q D : List ByteArray} {k : Nat} (h : FileF z b q k D) (hk : k < q.length) (hs : blkT q[k] = none ∨ ∃ t, blkT q[k] = some t ∧ ¬ (t.size : Int) = mustN z b k) : fileL z b 0 q = D := by
 rw [h.2.2, List.drop_eq_getElem_cons hk]
 rcases hs with h1 | ⟨t, h1, h2⟩
 ·rw [fileL_none h1, List.append_nil]
 ·rw [fileL_size h1 h2, List.append_nil]
theorem file_end {z b : Int} {q D : List ByteArray} {k : Nat} (h : FileF z b q k D) (hk : q.length ≤ k) : fileL z b 0 q = D := by
 rw [h.2.2, List.drop_eq_nil_of_le hk]
 exact List.append_nil _
theorem cat_le (m : Nat) : ∀ D : List ByteArray, (∀ x ∈ D, x.size ≤ m) → (cat D).length ≤ m * D.length
 | [], _ => by simp [cat]
 | x :: D, h => by
  have h1 := cat_le m D fun y hy => h y (List.mem_cons_of_mem _ hy)
  have h2 := h x List.mem_cons_self
  have e : cat (x :: D) = x.data.toList ++ cat D := by simp [cat]
  rw [e, List.length_append, List.length_cons, Nat.mul_add, Array.length_toList]
  show x.size + _ ≤ _
  omega
end Go.Proofs.YtjdlgpnhkfdehaaGreatDoor.Ls


/- The walk of spec.GetNum: it answers Gn.getV of its text and place, and writes nothing that was there. -/
namespace Go.Proofs.YtjdlgpnhkfdehaaGreatDoor.Gn
open Go.RowKit
set_option maxRecDepth 100000 in
set_option maxHeartbeats 1000000 in
theorem get_in (s : ByteArray) (a : Nat) (w : World) (hs : s.size ≤ 8000) (ha : a < s.size) :
  Calls Tryz.prog 84 #[.string s, .int .i64 a] w fun e w' => e = .returned (resV (numR s a)) ∧ Below w.heap.size w w' := by
 go_enter Tryz.func84, Tryz.ntmps84
 go_wp2
 go_loop [5, 6, 7, 8] (fun u i _ _ => ∃ k v : Nat, k ≤ 9 ∧ i = .int .i64 k ∧ u = .int .u64 v ∧ v < 2 ^ (7 * k) ∧ numR s a = run s (10 - k) k (a + k) v) (fun _ i _ _ => 10 - (intOf i).toNat)
 case atStart => exact ⟨0, 0, by omega, rfl, rfl, by decide, rfl⟩
 case round =>
  obtain ⟨k, v, hk, rfl, rfl, hv, hr⟩ := hrel
  have HV := hide hv
  have HR := hide hr
  have HK := hide hk
  have hvb : v ≤ 9223372036854775807 := by have := pow_le k hk; omega
  clear hv hr
  obtain ⟨f, hf⟩ : ∃ f, 10 - k = f + 1 := ⟨9 - k, by omega⟩
  have HF := hide hf
  clear hf
  by_cases hp : a + k < s.size
  ·have hb : s[a + k].toNat < 256 := s[a + k].toNat_lt
   by_cases h9 : k = 9 ∧ 1 < s[a + k].toNat
   ·have hk9 : ((k : Int) == 9) = true := beq_iff_eq.2 (by omega)
    have hc1 : (1 : Int) < s[a + k].toNat := by omega
    have HE : Hid (numR s a = (0, 0, 3)) := HR.out.trans (by rw [HF.out]; exact run_nine s f k (a + k) v hp h9.1 h9.2)
    have HH := hide h9
    clear h9
    go_wp2
    refine bodyPost_ret (v := outN 0 0 3) (by simp [results, outN, Tryz.results84, go_sem]) rfl ⟨by rw [HE.out]; rfl, (Below.refl _ _).alloc (Nat.le_refl _) _⟩
   ·obtain ⟨x, hx⟩ : ∃ x, x = v + s[a + k].toNat % 128 * 2 ^ (7 * k) := ⟨_, rfl⟩
    obtain ⟨hm1, hm2⟩ := next_small v s[a + k].toNat k HV.out hk h9
    have hw := wrap_next v s[a + k].toNat k hm1 hm2
    rw [← hx] at hw hm2
    have HX := hide hx
    clear hx hm1
    have H9 := hide h9
    clear h9
    by_cases hc : s[a + k].toNat < 128
    ·by_cases hz : s[a + k].toNat = 0 ∧ 0 < k
     ·have HE : Hid (numR s a = (0, 0, 3)) := HR.out.trans (by rw [HF.out]; exact run_zero s f k (a + k) v hp hz.1 hz.2)
      have hcz : ((s[a + k].toNat : Int) == 0) = true := beq_iff_eq.2 (by omega)
      have hcd : decide ((1 : Int) < s[a + k].toNat) = false := decide_eq_false (by omega)
      have hk0 : (0 : Int) < k := by omega
      have HZ := hide hz
      clear hz
      by_cases e9 : k = 9
      ·have hk9 : ((k : Int) == 9) = true := beq_iff_eq.2 (by omega)
       have H99 := hide e9
       clear e9
       go_wp2
       refine bodyPost_ret (v := outN 0 0 3) (by simp [results, outN, Tryz.results84, go_sem]) rfl ⟨by rw [HE.out]; rfl, (Below.refl _ _).alloc (Nat.le_refl _) _⟩
      ·have hk9 : ((k : Int) == 9) = false := beq_eq_false_iff_ne.2 (by omega)
       go_wp2
       refine bodyPost_ret (v := outN 0 0 3) (by simp [results, outN, Tryz.results84, go_sem]) rfl ⟨by rw [HE.out]; rfl, (Below.refl _ _).alloc (Nat.le_refl _) _⟩
     ·have HE : Hid (numR s a = (x, a + k + 1, 0)) := HR.out.trans (by rw [HF.out, HX.out]; exact run_last s f k (a + k) v hp H9.out hc hz)
      have HZ := hide hz
      clear hz
      by_cases cz : s[a + k].toNat = 0
      ·have hk0 : k = 0 := by have := HZ.out; omega
       have hcz : ((s[a + k].toNat : Int) == 0) = true := beq_iff_eq.2 (by omega)
       have hnk : ¬ 0 < k := by omega
       have hkd : decide (0 < k) = false := decide_eq_false hnk
       have hk9 : ((k : Int) == 9) = false := beq_eq_false_iff_ne.2 (by omega)
       have HC := hide cz
       have HK0 := hide hk0
       clear cz hk0
       by_cases hodd : x % 2 = 1
       ·have ho : (((x : Int) % 2) == 1) = true := by rw [beq_iff_eq]; omega
        have HO := hide (unz_odd' x hodd)
        clear hodd
        go_wp2
        refine bodyPost_ret (v := outN (-((x : Int) / 2) - 1) ((a : Int) + k + 1) 0) (by simp [results, outN, Tryz.results84, go_sem]) rfl ⟨by rw [HE.out, HO.out]; simp [resV], (Below.refl _ _).alloc (Nat.le_refl _) _⟩
       ·have ho : (((x : Int) % 2) == 1) = false := by rw [beq_eq_false_iff_ne]; omega
        have HO := hide (unz_even' x hodd)
        clear hodd
        go_wp2
        refine bodyPost_ret (v := outN ((x : Int) / 2) ((a : Int) + k + 1) 0) (by simp [results, outN, Tryz.results84, go_sem]) rfl ⟨by rw [HE.out, HO.out]; simp [resV], (Below.refl _ _).alloc (Nat.le_refl _) _⟩
      ·have hcz : ((s[a + k].toNat : Int) == 0) = false := beq_eq_false_iff_ne.2 (by omega)
       by_cases e9 : k = 9
       ·have hk9 : ((k : Int) == 9) = true := beq_iff_eq.2 (by omega)
        have hcd : decide ((1 : Int) < s[a + k].toNat) = false := decide_eq_false (by have := H9.out; omega)
        have H99 := hide e9
        clear e9
        by_cases hodd : x % 2 = 1
        ·have ho : (((x : Int) % 2) == 1) = true := by rw [beq_iff_eq]; omega
         have HO := hide (unz_odd' x hodd)
         clear hodd
         go_wp2
         refine bodyPost_ret (v := outN (-((x : Int) / 2) - 1) ((a : Int) + k + 1) 0) (by simp [results, outN, Tryz.results84, go_sem]) rfl ⟨by rw [HE.out, HO.out]; simp [resV], (Below.refl _ _).alloc (Nat.le_refl _) _⟩
        ·have ho : (((x : Int) % 2) == 1) = false := by rw [beq_eq_false_iff_ne]; omega
         have HO := hide (unz_even' x hodd)
         clear hodd
         go_wp2
         refine bodyPost_ret (v := outN ((x : Int) / 2) ((a : Int) + k + 1) 0) (by simp [results, outN, Tryz.results84, go_sem]) rfl ⟨by rw [HE.out, HO.out]; simp [resV], (Below.refl _ _).alloc (Nat.le_refl _) _⟩
       ·have hk9 : ((k : Int) == 9) = false := beq_eq_false_iff_ne.2 (by omega)
        by_cases hodd : x % 2 = 1
        ·have ho : (((x : Int) % 2) == 1) = true := by rw [beq_iff_eq]; omega
         have HO := hide (unz_odd' x hodd)
         clear hodd
         go_wp2
         refine bodyPost_ret (v := outN (-((x : Int) / 2) - 1) ((a : Int) + k + 1) 0) (by simp [results, outN, Tryz.results84, go_sem]) rfl ⟨by rw [HE.out, HO.out]; simp [resV], (Below.refl _ _).alloc (Nat.le_refl _) _⟩
        ·have ho : (((x : Int) % 2) == 1) = false := by rw [beq_eq_false_iff_ne]; omega
         have HO := hide (unz_even' x hodd)
         clear hodd
         go_wp2
         refine bodyPost_ret (v := outN ((x : Int) / 2) ((a : Int) + k + 1) 0) (by simp [results, outN, Tryz.results84, go_sem]) rfl ⟨by rw [HE.out, HO.out]; simp [resV], (Below.refl _ _).alloc (Nat.le_refl _) _⟩
    ·have hn9 : ¬ k = 9 := by have := H9.out; omega
     have hk9 : ((k : Int) == 9) = false := beq_eq_false_iff_ne.2 (by omega)
     have HE : Hid (numR s a = run s f (k + 1) (a + k + 1) x) := HR.out.trans (by rw [HF.out, HX.out]; exact run_more s f k (a + k) v hp hn9 (by omega))
     go_wp2
     go_round
     case rel => exact ⟨k + 1, x, by omega, by go_num, rfl, by rw [HX.out]; exact next_lt _ _ _ HV.out, by rw [HE.out, show 10 - (k + 1) = f from by have := HF.out; omega]; rfl⟩
     case measure => simp [intOf]; omega
  ·have HE : Hid (numR s a = (0, 0, 4)) := HR.out.trans (by rw [HF.out]; exact run_end s f k (a + k) v (by omega))
   go_wp2
   refine bodyPost_ret (v := outN 0 0 4) (by simp [results, outN, Tryz.results84, go_sem]) rfl ⟨by rw [HE.out]; rfl, (Below.refl _ _).alloc (Nat.le_refl _) _⟩
set_option maxRecDepth 100000 in
theorem get_spec (s : ByteArray) (a : Int) (w : World) (hs : s.size ≤ maxLen) :
  Calls Tryz.prog 84 #[.string s, .int .i64 a] w fun e w' => e = .returned (getV s a) ∧ Below w.heap.size w w' := by
 unfold maxLen at hs
 by_cases h1 : 8000 < s.size
 ·have HE : Hid (getV s a = outN 0 0 2) := by unfold Hid getV; rw [if_pos h1]
  go_enter Tryz.func84, Tryz.ntmps84
  go_wp2
  refine bodyPost_ret (v := outN 0 0 2) (by simp [results, outN, Tryz.results84, go_sem]) rfl ⟨by rw [HE.out], (Below.refl _ _).alloc (Nat.le_refl _) _⟩
 ·by_cases h2 : a < 0
  ·have HE : Hid (getV s a = outN 0 0 1) := by unfold Hid getV; rw [if_neg h1, if_pos h2]
   go_enter Tryz.func84, Tryz.ntmps84
   go_wp2
   refine bodyPost_ret (v := outN 0 0 1) (by simp [results, outN, Tryz.results84, go_sem]) rfl ⟨by rw [HE.out], (Below.refl _ _).alloc (Nat.le_refl _) _⟩
  ·obtain ⟨n, rfl⟩ := Int.eq_ofNat_of_zero_le (show 0 ≤ a from by omega)
   have e0 : getV s (n : Int) = resV (numR s n) := by unfold getV; rw [if_neg h1, if_neg h2, Int.toNat_natCast]
   by_cases h3 : n < s.size
   ·rw [e0]
    exact get_in s n w (by omega) h3
   ·have HE : Hid (getV s (n : Int) = outN 0 0 4) := e0.trans (by unfold numR; rw [run_end s 9 0 n 0 (by omega)]; rfl)
    clear e0
    go_enter Tryz.func84, Tryz.ntmps84
    go_wp2
    refine wp_loop_rounds 1 ?_
    rw [rounds_succ]
    go_wp2
    refine bodyPost_ret (v := outN 0 0 4) (by simp [results, outN, Tryz.results84, go_sem]) rfl ⟨by rw [HE.out], (Below.refl _ _).alloc (Nat.le_refl _) _⟩
end Go.Proofs.YtjdlgpnhkfdehaaGreatDoor.Gn

