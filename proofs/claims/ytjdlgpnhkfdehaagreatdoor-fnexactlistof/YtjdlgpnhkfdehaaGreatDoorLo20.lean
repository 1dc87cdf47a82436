/- Texts put together: LsRight, LsArg, LsOut, Builder, NumWalks. -/
import Derived.Test.YtjdlgpnhkfdehaaGreatDoorLo19
import Derived.Shelf.Strings.Builder1
import Derived.Test.YtjdlgpnhkfdehaaGreatDoorChecked
import Derived.WalkKit
import Derived.Test.YtjdlgpnhkfdehaaGreatDoorLo5
import Derived.WalkSpells
import Derived.WalkLawsBesides
/- A List is right: what both sides answer, and how many blocks it is of. -/
namespace Go.Proofs.YtjdlgpnhkfdehaaGreatDoor.Ls
open Go.RowKit
open Go.Proofs.YtjdlgpnhkfdehaaGreatDoor.Bk (cnt cnt_le count_any)
open Go.Proofs.YtjdlgpnhkfdehaaGreatDoor.Bi (is_yes is_no)
theorem hideL {p : Prop} (h : p) : Hid p := h
def rightB (z b : Int) (r : ByteArray) : Bool := decide (0 ≤ z ∧ z ≤ 1000 ∧ 1 ≤ b ∧ b ≤ 48 ∧ r.size = 32 ∧ z ≤ b * 64)
def lV (z b : Int) (r : ByteArray) : Value := .agg #[.int .i64 z, .int .i64 b, .string r]
def countN (z b : Int) (r : ByteArray) : Nat := if rightB z b r = true then cnt z.toNat b.toNat else 0
theorem rightB_yes {z b : Int} {r : ByteArray} (h : rightB z b r = true) : 0 ≤ z ∧ z ≤ 1000 ∧ 1 ≤ b ∧ b ≤ 48 ∧ r.size = 32 ∧ z ≤ b * 64 := of_decide_eq_true h
theorem countN_yes {p k : Nat} {r : ByteArray} (h : rightB p k r = true) : countN p k r = cnt p k ∧ cnt p k ≤ 64 := by
  have h1 := rightB_yes h
  unfold countN
  rw [if_pos h]
  refine ⟨rfl, (cnt_le (by omega)).2 (by omega)⟩
theorem countN_no {z b : Int} {r : ByteArray} (h : rightB z b r = false) : countN z b r = 0 := by
  unfold countN
  rw [h]
  rfl
set_option maxRecDepth 100000 in
set_option maxHeartbeats 1000000 in
theorem right_impl (z b : Int) (r : ByteArray) (w : World) :
    Calls Tryz.prog 37 #[lV z b r] w fun e w' => e = .returned (.bool (rightB z b r)) ∧ Below w.heap.size w w' := by
  unfold lV
  by_cases h1 : z < 0
  · have HF : Hid (rightB z b r = false) := by unfold Hid rightB; simp; omega
    rw [HF.out]
    go_enter Tryz.func37, Tryz.ntmps37
    go_wp2_with fail
    go_ret
    exact ⟨rfl, (Below.refl _ _).alloc (Nat.le_refl _) _⟩
  · by_cases h2 : 1000 < z
    · have HF : Hid (rightB z b r = false) := by unfold Hid rightB; simp; omega
      rw [HF.out]
      go_enter Tryz.func37, Tryz.ntmps37
      go_wp2_with fail
      go_ret
      exact ⟨rfl, (Below.refl _ _).alloc (Nat.le_refl _) _⟩
    · by_cases h3 : b < 1
      · have HF : Hid (rightB z b r = false) := by unfold Hid rightB; simp; omega
        rw [HF.out]
        go_enter Tryz.func37, Tryz.ntmps37
        go_wp2_with fail
        go_ret
        exact ⟨rfl, (Below.refl _ _).alloc (Nat.le_refl _) _⟩
      · by_cases h4 : 48 < b
        · have HF : Hid (rightB z b r = false) := by unfold Hid rightB; simp; omega
          rw [HF.out]
          go_enter Tryz.func37, Tryz.ntmps37
          go_wp2_with fail
          go_ret
          exact ⟨rfl, (Below.refl _ _).alloc (Nat.le_refl _) _⟩
        · by_cases h5 : r.size = 32
          · have HF : Hid (rightB z b r = decide (z ≤ b * 64)) := by unfold Hid rightB; rw [decide_eq_decide]; omega
            rw [HF.out]
            have h5' : ((r.size : Int) == 32) = true := by rw [h5]; rfl
            have H5 := hideL h5
            clear h5
            have hw : IntKind.i64.wrap (b * 64) = b * 64 := by rw [IntKind.wrap_i64]; omega
            go_enter Tryz.func37, Tryz.ntmps37
            go_wp2_with fail
            go_ret
            exact ⟨rfl, (Below.refl _ _).alloc (Nat.le_refl _) _⟩
          · have HF : Hid (rightB z b r = false) := by unfold Hid rightB; simp; omega
            rw [HF.out]
            have h5' : ((r.size : Int) == 32) = false := beq_eq_false_iff_ne.2 (by omega)
            go_enter Tryz.func37, Tryz.ntmps37
            go_wp2_with fail
            go_ret
            exact ⟨rfl, (Below.refl _ _).alloc (Nat.le_refl _) _⟩
set_option maxRecDepth 100000 in
set_option maxHeartbeats 1000000 in
theorem right_spec (z b : Int) (r : ByteArray) (w : World) :
    Calls Tryz.prog 38 #[lV z b r] w fun e w' => e = .returned (.bool (rightB z b r)) ∧ Below w.heap.size w w' := by
  unfold lV
  have hbl : ∀ o, Below w.heap.size w (w.alloc o) := fun o => (Below.refl _ _).alloc (Nat.le_refl _) _
  by_cases h1 : 0 ≤ z ∧ z ≤ 1000
  · have H1 := hideL (fun W => is_yes z 0 1000 W h1.1 h1.2)
    obtain ⟨p, rfl⟩ := Int.eq_ofNat_of_zero_le h1.1
    by_cases h2 : 1 ≤ b ∧ b ≤ 48
    · have H2 := hideL (fun W => is_yes b 1 48 W h2.1 h2.2)
      obtain ⟨k, rfl⟩ := Int.eq_ofNat_of_zero_le (show 0 ≤ b by omega)
      by_cases h5 : r.size = 32
      · have h5' : ((r.size : Int) == 32) = true := by rw [h5]; rfl
        have HC := hideL (fun W => count_any p k W (by omega) (by omega) (by omega))
        have HE := hideL (cnt_le (p := p) (k := k) (by omega))
        have H12 := hideL (And.intro h1 h2)
        have H5 := hideL h5
        clear h1 h2 h5
        by_cases h6 : cnt p k ≤ 64
        · have HF : Hid (rightB p k r = true) := by unfold Hid rightB; have := HE.out.1 h6; have := H12.out; have := H5.out; simp; omega
          have h6' : ((cnt p k : Nat) : Int) ≤ 64 := by omega
          rw [HF.out]
          generalize cnt p k = c at HC h6'
          clear h6 HE HF H12 H5
          go_enter Tryz.func38, Tryz.ntmps38
          go_wp2_with fail
          refine (H1.out _).mono ?_
          rintro e w1 ⟨rfl, hw⟩
          subst w1
          go_wp2_with fail
          refine (H2.out _).mono ?_
          rintro e w1 ⟨rfl, hw⟩
          subst w1
          go_wp2_with fail
          refine (HC.out _).mono ?_
          rintro e w1 ⟨rfl, hw⟩
          subst w1
          go_wp2_with fail
          go_ret
          exact ⟨rfl, hbl _⟩
        · have HF : Hid (rightB p k r = false) := by unfold Hid rightB; have := HE.out.2; have := H12.out; have := H5.out; simp; omega
          have h6' : decide (((cnt p k : Nat) : Int) ≤ 64) = false := by simp; omega
          rw [HF.out]
          generalize cnt p k = c at HC h6'
          clear h6 HE HF H12 H5
          go_enter Tryz.func38, Tryz.ntmps38
          go_wp2_with fail
          refine (H1.out _).mono ?_
          rintro e w1 ⟨rfl, hw⟩
          subst w1
          go_wp2_with fail
          refine (H2.out _).mono ?_
          rintro e w1 ⟨rfl, hw⟩
          subst w1
          go_wp2_with fail
          refine (HC.out _).mono ?_
          rintro e w1 ⟨rfl, hw⟩
          subst w1
          go_wp2_with fail
          go_ret
          exact ⟨rfl, hbl _⟩
      · have HF : Hid (rightB p k r = false) := by unfold Hid rightB; simp; omega
        rw [HF.out]
        have h5' : ((r.size : Int) == 32) = false := beq_eq_false_iff_ne.2 (by omega)
        clear HF
        go_enter Tryz.func38, Tryz.ntmps38
        go_wp2_with fail
        refine (H1.out _).mono ?_
        rintro e w1 ⟨rfl, hw⟩
        subst w1
        go_wp2_with fail
        refine (H2.out _).mono ?_
        rintro e w1 ⟨rfl, hw⟩
        subst w1
        go_wp2_with fail
        go_ret
        exact ⟨rfl, hbl _⟩
    · have H2 := hideL (fun W => is_no b 1 48 W (by omega))
      have HF : Hid (rightB p b r = false) := by unfold Hid rightB; simp; omega
      rw [HF.out]
      clear HF h2
      go_enter Tryz.func38, Tryz.ntmps38
      go_wp2_with fail
      refine (H1.out _).mono ?_
      rintro e w1 ⟨rfl, hw⟩
      subst w1
      go_wp2_with fail
      refine (H2.out _).mono ?_
      rintro e w1 ⟨rfl, hw⟩
      subst w1
      go_wp2_with fail
      go_ret
      exact ⟨rfl, hbl _⟩
  · have H1 := hideL (fun W => is_no z 0 1000 W (by omega))
    have HF : Hid (rightB z b r = false) := by unfold Hid rightB; simp; omega
    rw [HF.out]
    clear HF h1
    go_enter Tryz.func38, Tryz.ntmps38
    go_wp2_with fail
    refine (H1.out _).mono ?_
    rintro e w1 ⟨rfl, hw⟩
    subst w1
    go_wp2_with fail
    go_ret
    exact ⟨rfl, hbl _⟩
set_option maxRecDepth 100000 in
set_option maxHeartbeats 1000000 in
theorem count_impl (z b : Int) (r : ByteArray) (w : World) :
    Calls Tryz.prog 39 #[lV z b r] w fun e w' => e = .returned (.int .i64 (countN z b r : Nat)) ∧ Below w.heap.size w w' := by
  have HR := hideL (fun W => right_impl z b r W)
  cases hc : rightB z b r with
  | false =>
    have HF := hideL (countN_no hc)
    rw [hc] at HR
    rw [HF.out]
    clear HF hc
    unfold lV at HR ⊢
    go_enter Tryz.func39, Tryz.ntmps39
    go_wp2_with fail
    refine (HR.out _).mono ?_
    rintro e w1 ⟨rfl, hb1⟩
    have HB1 := hideL (((Below.refl w.heap.size w).alloc (Nat.le_refl _) _).trans (hb1.mono (by simp)))
    clear hb1
    go_wp2_with fail
    go_ret
    exact ⟨rfl, HB1.out⟩
  | true =>
    have h1 := rightB_yes hc
    obtain ⟨p, rfl⟩ := Int.eq_ofNat_of_zero_le h1.1
    obtain ⟨k, rfl⟩ := Int.eq_ofNat_of_zero_le (show 0 ≤ b by omega)
    obtain ⟨HF, hcb⟩ := countN_yes hc
    have HF := hideL HF
    rw [HF.out]
    have hq : ((p : Int) + k - 1).tdiv k = ((cnt p k : Nat) : Int) := by
      unfold cnt
      rw [Int.tdiv_eq_ediv_of_nonneg (by omega), Int.natCast_ediv]
      congr 1
      omega
    have hk0 : ((k : Int) == 0) = false := by simp; omega
    rw [hc] at HR
    clear HF hc
    generalize cnt p k = c at hq hcb ⊢
    obtain ⟨v, hv⟩ : ∃ v, v = lV p k r := ⟨_, rfl⟩
    unfold lV at HR ⊢
    go_enter Tryz.func39, Tryz.ntmps39
    go_wp2_with fail
    have HX : Hid ((w.alloc (.cells #[.int .i64 p, .int .i64 k, .string r] 35)).heap[w.heap.size]? = some (.cells #[.int .i64 p, .int .i64 k, .string r] 35 (0, 0))) := heap_alloc_new w _
    refine (HR.out _).mono ?_
    rintro e w1 ⟨rfl, hb1⟩
    have HB1 := hideL (((Below.refl w.heap.size w).alloc (Nat.le_refl _) _).trans (hb1.mono (by simp)))
    have HX1 := hideL ((hb1.block _ (by simp)).trans HX.out)
    clear hb1 HX
    have c0 : w1.cell? ⟨w.heap.size, 0, none⟩ = some (.int .i64 p) := cell_of_row w1 _ 0 _ _ _ HX1.out
    have c1 : w1.cell? ⟨w.heap.size, 1, none⟩ = some (.int .i64 k) := cell_of_row w1 _ 1 _ _ _ HX1.out
    go_wp2_with fail
    go_ret
    exact ⟨rfl, HB1.out⟩
end Go.Proofs.YtjdlgpnhkfdehaaGreatDoor.Ls


/- A List handed to a law: its bytes counted, and the List of impl made of it. -/
namespace Go.Proofs.YtjdlgpnhkfdehaaGreatDoor.Ls
open Go.RowKit
theorem blkL {w w' : World} {g : Nat} {x : Obj} (h : w.heap[g]? = some x) (hb : Below w.heap.size w w') : w'.heap[g]? = some x := (hb.block g (Array.getElem?_eq_some_iff.1 h).1).trans h
theorem lowL {w0 w w' : World} (h : Below w0.heap.size w0 w) (hb : Below w.heap.size w w') : Below w0.heap.size w0 w' := h.trans (hb.mono h.size)
theorem cells3 {W : World} {g : Nat} {x y z : Value} {t : TypeId} (h : W.heap[g]? = some (.cells #[x, y, z] t (0, 0))) : W.cell? ⟨g, 0, none⟩ = some x ∧ W.cell? ⟨g, 1, none⟩ = some y ∧ W.cell? ⟨g, 2, none⟩ = some z :=
  ⟨cell_of_row W g 0 _ _ _ h, cell_of_row W g 1 _ _ _ h, cell_of_row W g 2 _ _ _ h⟩
end Go.Proofs.YtjdlgpnhkfdehaaGreatDoor.Ls


/- A block of four cells that an answer is written into. -/
namespace Go.Proofs.YtjdlgpnhkfdehaaGreatDoor.Ls
open Go.RowKit
def oV (z b : Int) (r : ByteArray) (c : Int) : Value := .agg #[.int .i64 z, .int .i64 b, .string r, .int .i64 c]
theorem cells4 {W : World} {g : Nat} {x y z u : Value} {t : TypeId} (h : W.heap[g]? = some (.cells #[x, y, z, u] t (0, 0))) : W.cell? ⟨g, 0, none⟩ = some x ∧ W.cell? ⟨g, 1, none⟩ = some y ∧ W.cell? ⟨g, 2, none⟩ = some z ∧ W.cell? ⟨g, 3, none⟩ = some u :=
  ⟨cell_of_row W g 0 _ _ _ h, cell_of_row W g 1 _ _ _ h, cell_of_row W g 2 _ _ _ h, cell_of_row W g 3 _ _ _ h⟩
theorem set_k4 {W : World} {g : Nat} {x y z u : Value} {T : TypeId} (h : W.heap[g]? = some (.cells #[x, y, z, u] T (0, 0))) (v : Value) : (W.setCell ⟨g, 0, none⟩ v).heap[g]? = some (.cells #[v, y, z, u] T (0, 0)) ∧ (W.setCell ⟨g, 1, none⟩ v).heap[g]? = some (.cells #[x, v, z, u] T (0, 0)) ∧ (W.setCell ⟨g, 2, none⟩ v).heap[g]? = some (.cells #[x, y, v, u] T (0, 0)) ∧ (W.setCell ⟨g, 3, none⟩ v).heap[g]? = some (.cells #[x, y, z, v] T (0, 0)) := by
  refine ⟨?_, ?_, ?_, ?_⟩
  · rw [heap_setCell_same W g 0 _ T v h]; rfl
  · rw [heap_setCell_same W g 1 _ T v h]; rfl
  · rw [heap_setCell_same W g 2 _ T v h]; rfl
  · rw [heap_setCell_same W g 3 _ T v h]; rfl
theorem set4_cells {W : World} {g : Nat} {x y z u : Value} {T : TypeId} (h : W.heap[g]? = some (.cells #[x, y, z, u] T (0, 0))) (a b c d : Value) :
    ((((W.setCell ⟨g, 0, none⟩ a).setCell ⟨g, 1, none⟩ b).setCell ⟨g, 2, none⟩ c).setCell ⟨g, 3, none⟩ d).cell? ⟨g, 0, none⟩ = some a ∧ ((((W.setCell ⟨g, 0, none⟩ a).setCell ⟨g, 1, none⟩ b).setCell ⟨g, 2, none⟩ c).setCell ⟨g, 3, none⟩ d).cell? ⟨g, 1, none⟩ = some b ∧ ((((W.setCell ⟨g, 0, none⟩ a).setCell ⟨g, 1, none⟩ b).setCell ⟨g, 2, none⟩ c).setCell ⟨g, 3, none⟩ d).cell? ⟨g, 2, none⟩ = some c ∧ ((((W.setCell ⟨g, 0, none⟩ a).setCell ⟨g, 1, none⟩ b).setCell ⟨g, 2, none⟩ c).setCell ⟨g, 3, none⟩ d).cell? ⟨g, 3, none⟩ = some d :=
  cells4 (set_k4 (set_k4 (set_k4 (set_k4 h a).1 b).2.1 c).2.2.1 d).2.2.2
theorem set4_low {B : Nat} {w W : World} (h : Below B w W) (a b c d : Value) : Below B w ((((W.setCell ⟨B, 0, none⟩ a).setCell ⟨B, 1, none⟩ b).setCell ⟨B, 2, none⟩ c).setCell ⟨B, 3, none⟩ d) := (((h.setCell (p := ⟨B, 0, none⟩) (Nat.le_refl _) a).setCell (p := ⟨B, 1, none⟩) (Nat.le_refl _) b).setCell (p := ⟨B, 2, none⟩) (Nat.le_refl _) c).setCell (p := ⟨B, 3, none⟩) (Nat.le_refl _) d
theorem lowB {B : Nat} {w0 w w' : World} (hB : w0.heap.size = B) (h : Below B w0 w) (hb : Below w.heap.size w w') : Below B w0 w' := h.trans (hb.mono (by rw [← hB]; exact h.size))
theorem lowB_alloc {B : Nat} {w0 w : World} (hB : w0.heap.size = B) (h : Below B w0 w) (o : Obj) : Below B w0 (w.alloc o) := h.alloc (by rw [← hB]; exact h.size) o
theorem blk_alloc {W : World} {g : Nat} {x : Obj} (h : W.heap[g]? = some x) (o : Obj) : (W.alloc o).heap[g]? = some x := blkL h ((Below.refl _ _).alloc (Nat.le_refl _) o)
set_option maxRecDepth 100000 in
set_option maxHeartbeats 1000000 in
theorem eqL_same (z b : Int) (r : ByteArray) (w : World) :
    Calls Tryz.prog 101 #[.agg #[.int .i64 z, .int .i64 b, .string r], .agg #[.int .i64 z, .int .i64 b, .string r]] w fun e w' => e = .returned (.bool true) ∧ Below w.heap.size w w' := by
  have h1 : (z != z) = false := by simp
  have h2 : (b != b) = false := by simp
  go_enter Tryz.func101, Tryz.ntmps101
  go_wp2
  go_ret
  exact ⟨rfl, ((Below.refl _ _).alloc (Nat.le_refl _) _).alloc (by simp) _⟩
set_option maxRecDepth 100000 in
set_option maxHeartbeats 1000000 in
theorem eqO_same (z b : Int) (r : ByteArray) (c : Int) (w : World) :
    Calls Tryz.prog 48 #[oV z b r c, oV z b r c] w fun e w' => e = .returned (.bool true) ∧ Below w.heap.size w w' := by
  have h1 : (c != c) = false := by simp
  have HL := hideL (fun W => eqL_same z b r W)
  unfold oV
  have HB0 : Hid (Below w.heap.size w ((w.alloc (.cells #[.int .i64 z, .int .i64 b, .string r, .int .i64 c] 37)).alloc (.cells #[.int .i64 z, .int .i64 b, .string r, .int .i64 c] 37))) := ((Below.refl _ _).alloc (Nat.le_refl _) _).alloc (by simp) _
  have HX0 : Hid (((w.alloc (.cells #[.int .i64 z, .int .i64 b, .string r, .int .i64 c] 37)).alloc (.cells #[.int .i64 z, .int .i64 b, .string r, .int .i64 c] 37)).heap[w.heap.size]? = some (.cells #[.int .i64 z, .int .i64 b, .string r, .int .i64 c] 37 (0, 0))) := blk_alloc (heap_alloc_new w _) _
  have HY0 : Hid (((w.alloc (.cells #[.int .i64 z, .int .i64 b, .string r, .int .i64 c] 37)).alloc (.cells #[.int .i64 z, .int .i64 b, .string r, .int .i64 c] 37)).heap[w.heap.size + 1]? = some (.cells #[.int .i64 z, .int .i64 b, .string r, .int .i64 c] 37 (0, 0))) := by
    have := heap_alloc_new (w.alloc (.cells #[.int .i64 z, .int .i64 b, .string r, .int .i64 c] 37)) (.cells #[.int .i64 z, .int .i64 b, .string r, .int .i64 c] 37)
    simp only [World.size_alloc] at this
    exact this
  go_enter Tryz.func48, Tryz.ntmps48
  go_wp2_with fail
  generalize hww : (w.alloc (.cells #[.int .i64 z, .int .i64 b, .string r, .int .i64 c] 37)).alloc (.cells #[.int .i64 z, .int .i64 b, .string r, .int .i64 c] 37) = wa at HB0 HX0 HY0 ⊢
  clear hww
  refine (HL.out _).mono ?_
  rintro e w1 ⟨rfl, hb⟩
  have B1 := hideL (lowL HB0.out hb)
  obtain ⟨c0, c1, c2, c3⟩ := cells4 (blkL HX0.out hb)
  obtain ⟨d0, d1, d2, d3⟩ := cells4 (blkL HY0.out hb)
  clear hb HB0 HX0 HY0
  go_wp2_with fail
  go_ret
  exact ⟨rfl, B1.out⟩
end Go.Proofs.YtjdlgpnhkfdehaaGreatDoor.Ls


/- A strings.Builder of the call's own: its copy check and WriteString walked, String out of the library's own contract. -/
namespace Go.Proofs.YtjdlgpnhkfdehaaGreatDoor.Sb
open Go.Shelf Go.RowKit
def lays169_ren : Go.Shelf.Ren := ⟨fun | 169 => 104 | n => n, fun | 70 => 110 | 9 => 9 | 0 => 0 | 72 => 112 | 37 => 22 | 127 => 159 | 3 => 3 | 5 => 5 | n => n, fun | n => n⟩
theorem lays169 : Go.Proofs.Lays.n169 Tryz.prog lays169_ren := {
  mixed := by kernel_rfl
  f169 := Tryz.func104.trans (congrArg some (by kernel_rfl))
  t0 := Tryz.underlying0
  a0 := Tryz.isAgg0
  z0 := Tryz.sizeOf0
  v0 := Tryz.zeroValue0
  t3 := Tryz.underlying3
  a3 := Tryz.isAgg3
  z3 := Tryz.sizeOf3
  v3 := Tryz.zeroValue3
  t9 := Tryz.underlying9
  a9 := Tryz.isAgg9
  z9 := Tryz.sizeOf9
  v9 := Tryz.zeroValue9
  t37 := Tryz.underlying22
  a37 := Tryz.isAgg22
  z37 := Tryz.sizeOf22
  v37 := Tryz.zeroValue22
  t70 := Tryz.underlying110
  a70 := Tryz.isAgg110
  z70 := Tryz.sizeOf110
  v70 := Tryz.zeroValue110
  t72 := Tryz.underlying112
  a72 := Tryz.isAgg112
  z72 := Tryz.sizeOf112
  v72 := Tryz.zeroValue112
  t127 := Tryz.underlying159
  a127 := Tryz.isAgg159
  z127 := Tryz.sizeOf159
  v127 := Tryz.zeroValue159 }
theorem builderX : Builder.Extra Tryz.prog lays169_ren := {
  sizeBuilder := by kernel_rfl
  liesBuilder := by kernel_rfl
  t5 := Tryz.underlying5
  a5 := Tryz.isAgg5
  z5 := Tryz.sizeOf5
  v5 := Tryz.zeroValue5
  infoByte := by kernel_rfl
  cellsByte := by kernel_rfl
  sizeByte := by kernel_rfl
  neB5 := by decide }
theorem string_any (B b : Nat) (l : List UInt8) (w : World) (h : Lib.IsBuilder 112 5 B b (Lib.byteCells l) w) (hBw : B ≤ w.heap.size) :
    Calls Tryz.prog 104 #[.pointer (some ⟨b, 0, none⟩)] w fun e w' => e = .returned (.string ⟨l.toArray⟩) ∧ Below B w w' := Any.Builder_String_any lays169 builderX B b l w h hBw
set_option maxHeartbeats 1000000 in
set_option maxRecDepth 100000 in
theorem check_used (b : Nat) (w : World) (h0 : w.cell? ⟨b, 0, none⟩ = some (.pointer (some ⟨b, 0, none⟩))) :
    Calls Tryz.prog 153 #[.pointer (some ⟨b, 0, none⟩)] w fun e w' => e = .returned (.tuple #[]) ∧ w' = w := by
  obtain ⟨j, hj, _⟩ := Option.map_eq_some_iff.1 builderX.sizeBuilder
  go_enter Tryz.func153, Tryz.ntmps153
  go_wp2
  rw [Lib.run_neq_ptr_same w _ Tryz.underlying110 hj]
  go_wp2
  go_end0
  exact ⟨rfl, rfl⟩
set_option maxHeartbeats 1000000 in
set_option maxRecDepth 100000 in
theorem check_fresh (b : Nat) (w : World) (h0 : w.cell? ⟨b, 0, none⟩ = some (.pointer none)) (hsh : w.shape? b = some (112, 2)) (hfz : w.frozen? ⟨b, 0, none⟩ = false) :
    Calls Tryz.prog 153 #[.pointer (some ⟨b, 0, none⟩)] w fun e w' => e = .returned (.tuple #[]) ∧ w' = w.setCell ⟨b, 0, none⟩ (.pointer (some ⟨b, 0, none⟩)) := by
  obtain ⟨j, hj, hjs⟩ := Option.map_eq_some_iff.1 builderX.sizeBuilder
  go_enter Tryz.func153, Tryz.ntmps153
  go_wp2
  rw [Lib.run_to_unsafe w ⟨b, 0, none⟩ Tryz.underlying110 Tryz.underlying205 hj (by rw [hjs]; decide) hsh (Nat.zero_lt_succ 1)]
  simp only [Result.andThen]
  rw [Oper.upon_value]
  go_wp2
  rw [run_callFunc_extern Tryz.func198 (by kernel_rfl) (by kernel_rfl) (by kernel_rfl) (e := Extern.AbiNoEscape.same) (by kernel_rfl)]
  rw [Lib.run_noEscape]
  simp only [Result.andThen]
  rw [Oper.upon_value]
  go_wp2
  rw [Lib.run_from_unsafe w ⟨b, 0, none⟩ Tryz.underlying205 Tryz.underlying110 hj hsh builderX.liesBuilder]
  simp only [Result.andThen]
  rw [Oper.upon_value]
  go_wp2
  go_end0
  exact ⟨rfl, rfl⟩
theorem check_any (B b : Nat) (bs : List Value) (w : World) (h : Lib.IsBuilder 112 5 B b bs w) :
    Calls Tryz.prog 153 #[.pointer (some ⟨b, 0, none⟩)] w fun e w' => e = .returned (.tuple #[]) ∧ (Lib.BuilderAt 112 5 B b (.pointer (some ⟨b, 0, none⟩)) bs w' ∧ Below B w w') := by
  rcases h with h | h
  · refine (check_fresh b w h.cell0 h.shape h.frozen0).mono ?_
    rintro e w' ⟨rfl, rfl⟩
    exact ⟨rfl, h.used _, (Below.refl B w).setCell (p := ⟨b, 0, none⟩) h.1 _⟩
  · refine (check_used b w h.cell0).mono ?_
    rintro e w' ⟨rfl, rfl⟩
    exact ⟨rfl, h, Below.refl B _⟩
set_option maxHeartbeats 2000000 in
set_option maxRecDepth 100000 in
/-- a text written behind what it holds -/
theorem write_any (B b : Nat) (bs : List Value) (s : ByteArray) (w : World) (h : Lib.IsBuilder 112 5 B b bs w) (hlen : bs.length + s.size ≤ 140737488355328) (hBw : B ≤ w.heap.size) :
    Calls Tryz.prog 103 #[.pointer (some ⟨b, 0, none⟩), .string s] w fun e w' => e = .returned (.tuple #[.int .i64 s.size, .nilIface]) ∧ (Lib.BuilderAt 112 5 B b (.pointer (some ⟨b, 0, none⟩)) (bs ++ Lib.strCells s) w' ∧ Below B w w') := by
  obtain ⟨i0, hi, hz0, hz1, hz2⟩ := info_parts builderX.infoByte
  go_enter Tryz.func103, Tryz.ntmps103
  go_wp2_with fail
  refine (check_any B b bs _ h).mono ?_
  rintro e w1 ⟨rfl, h1, hb1⟩
  obtain ⟨hB, v, hbk, hown, hne⟩ := h1
  have c0 : w1.cell? ⟨b, 0, none⟩ = some (.pointer (some ⟨b, 0, none⟩)) := by rw [Lib.cell_of_heap hbk]; rfl
  have c1 : w1.cell? ⟨b, 1, none⟩ = some v := by rw [Lib.cell_of_heap hbk]; rfl
  go_wp2_with (at_builtin; refine Lib.wpList_append_own_string _ rfl _ _ 22 9 rfl B 5 i0 Tryz.underlying22 Tryz.underlying9 hi hz0 hz1 hz2 _ _ _ rfl hown s rfl ?c3 ?c4 ?c5 ?_)
  case c3 => unfold maxLen; omega
  case c4 => omega
  case c5 => have := hb1.size; omega
  intro v' w2 hown' hgrow _
  have hlt : b < w1.heap.size := by
    rcases Nat.lt_or_ge b w1.heap.size with h' | h'
    · exact h'
    · simp [Array.getElem?_eq_none h'] at hbk
  have hb2 : w2.heap[b]? = some (.cells #[.pointer (some ⟨b, 0, none⟩), v] 112 (0, 0)) := by
    rw [hgrow.block b hlt (fun e => hne e.symm)]
    exact hbk
  have d0 : w2.cell? ⟨b, 0, none⟩ = some (.pointer (some ⟨b, 0, none⟩)) := by rw [Lib.cell_of_heap hb2]; rfl
  have d1 : w2.cell? ⟨b, 1, none⟩ = some v := by rw [Lib.cell_of_heap hb2]; rfl
  have f1 : w2.frozen? ⟨b, 1, none⟩ = false := Lib.frozen_of_heap hb2 1
  obtain ⟨ao, n', cap, rfl⟩ : ∃ ao n' cap, v' = .slice ao n' cap := by
    rcases hown'.2 with ⟨hv, _⟩ | ⟨g, cap, cur, hv, _⟩
    · exact ⟨_, _, _, hv⟩
    · exact ⟨_, _, _, hv⟩
  go_wp2_with fail
  go_ret2
  refine ⟨rfl, ?_, ?_⟩
  · exact Lib.BuilderAt.put (T := 112) (e := 5) hB hb2 (bs' := bs ++ Lib.strCells s) (by simpa [Lib.strCells_length] using hown') builderX.neB5
  · exact (hb1.grown hgrow (by have := hb1.size; omega) (fun k hk => (hown.lt k hk).1)).setCell (p := ⟨b, 1, none⟩) hB _
end Go.Proofs.YtjdlgpnhkfdehaaGreatDoor.Sb


/- The walks of the two functions that write a number as bytes: each answers Nu.putS of its number, and writes nothing that was there. -/
namespace Go.Proofs.YtjdlgpnhkfdehaaGreatDoor.Nu
open Go.RowKit
theorem hide {p : Prop} (h : p) : Hid p := h
theorem ret_int {k : IntKind} {a b : Int} (h : a = b) : Ending.returned (.int k a) = .returned (.int k b) := by rw [h]
theorem ret_str {a b : ByteArray} (h : a = b) : Ending.returned (.string a) = .returned (.string b) := by rw [h]
theorem Tryz.info5 : (Tryz.prog.info? 5).map (fun i => (i.zero, i.size, i.bytes)) = some (some (.int .u8 0), 1, 1) := by kernel_rfl
set_option maxHeartbeats 400000 in
theorem fold_spec (n : Int) (w : World) (h1 : -9223372036854775808 ≤ n) (h2 : n ≤ 9223372036854775807) :
    Calls Tryz.prog 188 #[.int .i64 n] w fun e w' => e = .returned (.int .u64 (zz n)) ∧ w' = w := by
  by_cases h : n < 0
  · have HZ : Hid ((zz n : Int) = 2 * -(n + 1) + 1) := zz_neg n h
    go_enter Tryz.func188, Tryz.ntmps188
    go_wp2
    go_ret
    exact ⟨ret_int HZ.out.symm, rfl⟩
  · have HZ : Hid ((zz n : Int) = 2 * n) := zz_pos n h
    go_enter Tryz.func188, Tryz.ntmps188
    go_wp2
    go_ret
    exact ⟨ret_int HZ.out.symm, rfl⟩
set_option maxHeartbeats 400000 in
theorem fold_impl (n : Int) (w : World) (h1 : -9223372036854775808 ≤ n) (h2 : n ≤ 9223372036854775807) :
    Calls Tryz.prog 185 #[.int .i64 n] w fun e w' => e = .returned (.int .u64 (zz n)) ∧ w' = w := by
  by_cases h : n < 0
  · have HZ := hide (fold_not n h1 h)
    go_enter Tryz.func185, Tryz.ntmps185
    go_wp2
    go_ret
    exact ⟨ret_int HZ.out, rfl⟩
  · have HZ := hide (zz_pos' n h)
    go_enter Tryz.func185, Tryz.ntmps185
    go_wp2
    go_ret
    exact ⟨ret_int HZ.out.symm, rfl⟩
set_option maxRecDepth 100000 in
set_option maxHeartbeats 1000000 in
theorem put_spec (n : Int) (w : World) (h1 : -9223372036854775808 ≤ n) (h2 : n ≤ 9223372036854775807) :
    Calls Tryz.prog 137 #[.int .i64 n] w fun e w' => e = .returned (.string (putS n)) ∧ Below w.heap.size w w' := by
  obtain ⟨U, hU⟩ : ∃ U, U = zz n := ⟨_, rfl⟩
  have hz := zz_lt n h1 h2
  rw [← hU] at hz
  have HU := hide hU
  clear hU
  obtain ⟨i0, hi, hz0, hz1, hz2⟩ := info_parts Tryz.info5
  go_enter Tryz.func137, Tryz.ntmps137
  go_wp2_with (go_at_call 188; refine (fold_spec _ _ h1 h2).mono ?_; rw [← HU.out]; rintro e w' ⟨rfl, hw⟩; subst w')
  go_loopw [3, 4] (fun u v wr => ∃ k q : Nat, k ≤ 9 ∧ u = .int .u64 q ∧ q = U / 128 ^ k ∧ (∀ j, j < k → 128 ≤ U / 128 ^ j) ∧ wr.ownsRow w.heap.size 5 1 v k ((numH U k).map bv) ∧ Below w.heap.size w wr) (fun u _ _ => (intOf u).toNat)
  case atStart => exact ⟨0, U, by omega, rfl, by simp, fun j hj => absurd hj (Nat.not_lt_zero j), World.ownsRow_made _ _ _ (Nat.le_refl _) (by decide) rfl, (Below.refl _ _).alloc (Nat.le_refl _) _⟩
  case round =>
    obtain ⟨k, q, hk, rfl, hq, hall, hown, hbel⟩ := hrel
    have hqb : q ≤ 18446744073709551615 := by have := Nat.div_le_self U (128 ^ k); omega
    have HQ := hide hq
    have HA := hide hall
    clear hq hall
    by_cases hge : 128 ≤ q
    · have hk9 : k < 9 := few U k hz (by rw [← HQ.out]; exact hge)
      go_wp2_with (at_builtin; refine wpList_append_own _ rfl (.tmp 10) (.tmp 15) 22 rfl w.heap.size 5 i0 (.int .u8 0) 1 1 Tryz.underlying22 hi hz0 hz1 hz2 rfl (by decide) _ _ _ rfl (hown.alloc _) ⟨wr.heap.size, 0, none⟩ 1 1 [.int .u8 ((q : Int) % 128 + 128)] rfl rfl ?c1 ?c2 ?c3 ?c4 ?c5 ?_)
      case c1 =>
        intro j u hj
        match j, hj with
        | 0, hj => simp at hj; subst hj; simp [Addr.add]
      case c2 => intro u hu; simp at hu; subst hu; rfl
      case c3 => unfold maxLen; omega
      case c4 => omega
      case c5 => have := hbel.size; simp; omega
      intro v' w1 hown' hgrow _
      have hb1 := app_below hbel (Nat.le_refl _) hown hgrow
      have hr1 := hi_row HQ.out hown'
      clear hown' hgrow hown
      go_wp2
      go_roundw
      case rel => exact ⟨k + 1, q / 128, by omega, by go_num, by rw [pow_div, ← HQ.out], all_more U k HA.out (by rw [← HQ.out]; exact hge), hr1, hb1⟩
      case measure => simp [intOf]; omega
    · have hlo : q < 128 := by omega
      have HB := hide (numB_of U k hk HA.out (by rw [← HQ.out]; exact hlo))
      go_wp2_with (at_builtin; refine wpList_append_own _ rfl (.tmp 19) (.tmp 22) 22 rfl w.heap.size 5 i0 (.int .u8 0) 1 1 Tryz.underlying22 hi hz0 hz1 hz2 rfl (by decide) _ _ _ rfl (hown.alloc _) ⟨wr.heap.size, 0, none⟩ 1 1 [.int .u8 (q : Int)] rfl rfl ?c1 ?c2 ?c3 ?c4 ?c5 ?_)
      case c1 =>
        intro j u hj
        match j, hj with
        | 0, hj => simp at hj; subst hj; simp [Addr.add]
      case c2 => intro u hu; simp at hu; subst hu; rfl
      case c3 => unfold maxLen; omega
      case c4 => omega
      case c5 => have := hbel.size; simp; omega
      intro v' w1 hown' hgrow _
      have hb1 := app_below hbel (Nat.le_refl _) hown hgrow
      have hconv := own_string (P := Tryz.prog) (src := 22) (dst := 9) _ (lo_row HQ.out hlo hown') Tryz.underlying22 Tryz.underlying5 Tryz.underlying9
      clear hown' hgrow hown
      go_wp2
      go_ret
      exact ⟨ret_str (by rw [putS, ← HU.out, HB.out]), hb1⟩
theorem slice10 (a : Addr) (h : Int) (h0 : 0 ≤ h) (h1 : h ≤ 10) (u : World) :
    (Instr.sliceAt 193 (.pointer (some a)) none (some (.int .i64 h)) none).run Tryz.prog u = .ok (.slice (some a) h.toNat 10) u := by
  have ea : Tryz.prog.arrayLen 193 = 10 := by kernel_rfl
  have es : ∀ u : World, (Go.sizeOf (Tryz.prog.elem 193)).run Tryz.prog u = .ok 1 u := fun u => by kernel_rfl
  rw [run_sliceAt_array_h u 193 a (by kernel_rfl) .i64 h h0 (by rw [ea]; exact h1), es u, ea]
  simp [Result.andThen, slicedAt, Addr.add]
set_option maxRecDepth 100000 in
set_option maxHeartbeats 1000000 in
theorem put_impl (n : Int) (w : World) (h1 : -9223372036854775808 ≤ n) (h2 : n ≤ 9223372036854775807) :
    Calls Tryz.prog 133 #[.int .i64 n] w fun e w' => e = .returned (.string (putS n)) ∧ Below w.heap.size w w' := by
  obtain ⟨U, hU⟩ : ∃ U, U = zz n := ⟨_, rfl⟩
  have hz := zz_lt n h1 h2
  rw [← hU] at hz
  have HU := hide hU
  clear hU
  go_enter Tryz.func133, Tryz.ntmps133
  go_wp2_with (go_at_call 185; refine (fold_impl _ _ h1 h2).mono ?_; rw [← HU.out]; rintro e w' ⟨rfl, hw⟩; subst w')
  go_loopw [4, 5] (fun u m wr => ∃ (k q : Nat) (cs : Array Value), k ≤ 9 ∧ u = .int .u64 q ∧ m = .int .i64 k ∧ q = U / 128 ^ k ∧ (∀ j, j < k → 128 ≤ U / 128 ^ j) ∧ wr.heap[w.heap.size]? = some (.cells cs 193 (0, 0)) ∧ cs.size = 10 ∧ cs.toList.take k = (numH U k).map bv ∧ Below w.heap.size w wr) (fun u _ _ => (intOf u).toNat)
  case atStart => exact ⟨0, U, _, by omega, rfl, rfl, by simp, fun j hj => absurd hj (Nat.not_lt_zero j), heap_alloc_new _ _, rfl, rfl, (Below.refl _ _).alloc (Nat.le_refl _) _⟩
  case round =>
    obtain ⟨k, q, cs, hk, rfl, rfl, hq, hall, hblk, hsz, htk, hbel⟩ := hrel
    have hqb : q ≤ 18446744073709551615 := by have := Nat.div_le_self U (128 ^ k); omega
    have HQ := hide hq
    have HA := hide hall
    have HT := hide htk
    have HB := hide hblk
    have HS := hide hsz
    have hfz := frozen_of_row wr w.heap.size k cs 193 hblk
    obtain ⟨x, hx⟩ : ∃ x, wr.cell? ⟨w.heap.size, k, none⟩ = some x := ⟨cs[k]'(by omega), by rw [cell_of_row wr _ k cs _ _ hblk]; exact Array.getElem?_eq_getElem (by omega)⟩
    clear hq hall htk hblk hsz
    by_cases hge : 128 ≤ q
    · have hk9 : k < 9 := few U k hz (by rw [← HQ.out]; exact hge)
      have HN := hide (impl_hi HQ.out hqb HB.out HS.out hk9 HT.out)
      go_wp2
      go_roundw
      case rel =>
        obtain ⟨cs', e1, e2, e3⟩ := HN.out
        exact ⟨k + 1, q / 128, cs', by omega, by go_num, by go_num, by rw [pow_div, ← HQ.out], all_more U k HA.out (by rw [← HQ.out]; exact hge), e1, e2, e3, hbel.setCell (Nat.le_refl _) _⟩
      case measure => simp [intOf]; omega
    · have hlo : q < 128 := by omega
      have HN := hide (numB_of U k hk HA.out (by rw [← HQ.out]; exact hlo))
      have hsl := slice10 ⟨w.heap.size, 0, none⟩ ((k : Int) + 1) (by omega) (by omega)
      have e1 : ((k : Int) + 1).toNat = (numL U k).length := by rw [numL_length]; omega
      rw [e1] at hsl
      clear e1
      have hcv : (convert 22 9 (.slice (some ⟨w.heap.size, 0, none⟩) (numL U k).length 10)).run Tryz.prog (wr.setCell ⟨w.heap.size, k, none⟩ (.int .u8 (q : Int))) = .ok (.string ⟨(numL U k).toArray⟩) (wr.setCell ⟨w.heap.size, k, none⟩ (.int .u8 (q : Int))) := by
        obtain ⟨cs', e1, e2⟩ := impl_lo HQ.out hlo HB.out HS.out hk HT.out
        exact arr_string (P := Tryz.prog) _ 10 e1 e2 Tryz.underlying22 Tryz.underlying5 Tryz.underlying9
      go_wp2
      go_ret
      exact ⟨ret_str (by rw [putS, ← HU.out, HN.out]), hbel.setCell (Nat.le_refl _) _⟩
end Go.Proofs.YtjdlgpnhkfdehaaGreatDoor.Nu

